import Derived.Test.YtkejabhjlflknaaGreatMg22
import Derived.Test.YtkejabhjlflknaaGreatMg35
import Derived.Test.YtkejabhjlflknaaGreatMg41
namespace Go.Proofs.YtkejabhjlflknaaGreat.Sp
open Go.RowKit Go.Shelf
attribute [local go_sem] Oper.semAt_some

theorem JoinS.start (w : World) (L wi : Nat) : JoinS w ((((((w.alloc (.cells #[.slice none 0 0] 50)).alloc (.cells #[.int .i64 0] 28)).alloc (.cells #[.int .i64 (wi : Nat)] 3)).alloc (.cells (madeCells #[.int .u8 0] L) 5)).alloc (.cells #[.slice (some ⟨w.heap.size + 1 + 1 + 1, 0, none⟩) L L] 50)).alloc (.cells #[.int .i64 0] 3)) L wi 0 (fun _ => 0) (.slice none 0 0) 0 := by
  have b4 := (((((Boxed.new w 50 (.slice none 0 0)).alloc (.cells #[.int .i64 0] 28)).alloc (.cells #[.int .i64 (wi : Nat)] 3)).alloc (.cells (madeCells #[.int .u8 0] L) 5)).alloc (.cells #[.slice (some ⟨w.heap.size + 1 + 1 + 1, 0, none⟩) L L] 50)).alloc (.cells #[.int .i64 0] 3)
  have b5 := ((((Boxed.new (w.alloc (.cells #[.slice none 0 0] 50)) 28 (.int .i64 0)).alloc (.cells #[.int .i64 (wi : Nat)] 3)).alloc (.cells (madeCells #[.int .u8 0] L) 5)).alloc (.cells #[.slice (some ⟨w.heap.size + 1 + 1 + 1, 0, none⟩) L L] 50)).alloc (.cells #[.int .i64 0] 3)
  have b6 := (((Boxed.new ((w.alloc (.cells #[.slice none 0 0] 50)).alloc (.cells #[.int .i64 0] 28)) 3 (.int .i64 (wi : Nat))).alloc (.cells (madeCells #[.int .u8 0] L) 5)).alloc (.cells #[.slice (some ⟨w.heap.size + 1 + 1 + 1, 0, none⟩) L L] 50)).alloc (.cells #[.int .i64 0] 3)
  have b7 := bl_made (((w.alloc (.cells #[.slice none 0 0] 50)).alloc (.cells #[.int .i64 0] 28)).alloc (.cells #[.int .i64 (wi : Nat)] 3)) L
  have b8 := (Boxed.new ((((w.alloc (.cells #[.slice none 0 0] 50)).alloc (.cells #[.int .i64 0] 28)).alloc (.cells #[.int .i64 (wi : Nat)] 3)).alloc (.cells (madeCells #[.int .u8 0] L) 5)) 50 (.slice (some ⟨w.heap.size + 1 + 1 + 1, 0, none⟩) L L)).alloc (.cells #[.int .i64 0] 3)
  have b9 := Boxed.new (((((w.alloc (.cells #[.slice none 0 0] 50)).alloc (.cells #[.int .i64 0] 28)).alloc (.cells #[.int .i64 (wi : Nat)] 3)).alloc (.cells (madeCells #[.int .u8 0] L) 5)).alloc (.cells #[.slice (some ⟨w.heap.size + 1 + 1 + 1, 0, none⟩) L L] 50)) 3 (.int .i64 0)
  have b7' := (b7.kept (Below.heap_alloc _ (.cells #[.slice (some ⟨w.heap.size + 1 + 1 + 1, 0, none⟩) L L] 50) _ b7.lt))
  have b7'' := b7'.kept (Below.heap_alloc _ (.cells #[.int .i64 0] 3) _ b7'.lt)
  simp only [World.size_alloc] at b5 b6 b7'' b8 b9
  exact ⟨b4, b5, b6, b7'', b8, b9, ((((((Below.refl _ w).alloc (Nat.le_refl _) _).alloc (by simp only [World.size_alloc]; omega) _).alloc (by simp only [World.size_alloc]; omega) _).alloc (by simp only [World.size_alloc]; omega) _).alloc (by simp only [World.size_alloc]; omega) _).alloc (by simp only [World.size_alloc]; omega) _⟩

set_option maxRecDepth 100000 in
set_option maxHeartbeats 4000000 in
theorem join_ok (a : Option Addr) (n cap L : Nat) (r : Nat → Option Addr) (l c : Nat → Nat) (f : Nat → Nat → Nat) (hL : L ≤ 65535) (h1 : 1 ≤ n) (h2 : n ≤ 255) (w : World) (hR : Rd w a n cap r l c f) :
    Calls Tryz.prog 67 #[.slice a n cap, .int .i64 (L : Nat)] w (JoinSays w n (wid L n) L l f) := by
  have hle := wid_le (L := L) h1
  have hhi := wid_hi (L := L) h1
  refine (callsIn_wide (n := 6)).1 ?_
  have hW : ∀ k, Fence.wide.fn k := fun _ => trivial
  have hD : Fence.wide.depth = none := rfl
  have hmk := hmk8 L (by omega)
  have HR := Lib.hid hR; have HHI := Lib.hid hhi
  clear hR hhi
  refine callsIn_of_wp_marks Tryz.func67 rfl trivial ?_ rfl
  simp only [Tryz.ntmps67, List.size_toArray, List.length_cons, List.length_nil, Nat.reduceAdd, Nat.reduceSub, Array.replicate_succ, Array.replicate_zero, List.push_toArray, List.append_toArray, List.nil_append, List.cons_append]
  gi_wp2_with (first
    | (gi_at_call 54; refine (callsIn_wide.2 (width_ok L n hL h1 h2 _)).mono ?_; rintro e w1 ⟨rfl, rfl⟩)
    | (gi_at_call 96; refine (callsIn_wide.2 (of_any _ _ _ _)).mono ?_; rintro e w2 ⟨rfl, hw2⟩)
    | (gi_at_call 72; refine (callsIn_wide.2 (told_any _ _ _ _)).mono ?_; rintro e w3 ⟨rfl, hw3⟩))
  rw [← hw3]
  have hS3 : JoinS w w3 L (wid L n) 0 (fun _ => 0) (.slice none 0 0) 0 := by
    rw [hw3]
    exact (JoinS.start w L (wid L n)).same ((((Below.refl _ _).alloc (Nat.le_refl _) _).alloc (by simp only [World.size_alloc]; omega) _).alloc (by simp only [World.size_alloc]; omega) _)
  have bL3 : Boxed w3 (w.heap.size + 1 + 1 + 1 + 1 + 1 + 1) 22 (.slice a n cap) := by
    have := ((Boxed.new ((((((w.alloc (.cells #[.slice none 0 0] 50)).alloc (.cells #[.int .i64 0] 28)).alloc (.cells #[.int .i64 (wid L n : Nat)] 3)).alloc (.cells (madeCells #[.int .u8 0] L) 5)).alloc (.cells #[.slice (some ⟨w.heap.size + 1 + 1 + 1, 0, none⟩) L L] 50)).alloc (.cells #[.int .i64 0] 3)) 22 (.slice a n cap)).alloc (.cells #[.int .i64 (n : Nat)] 3)).alloc (.cells #[.func (.func 118) #[] #[.pointer (some ⟨w.heap.size + 1 + 1 + 1 + 1 + 1 + 1, 0, none⟩)]] 130)
    simp only [World.size_alloc] at this
    rw [hw3]; exact this
  have bP3 : Boxed w3 (w.heap.size + 1 + 1 + 1 + 1 + 1 + 1 + 1) 3 (.int .i64 (n : Nat)) := by
    have := (Boxed.new (((((((w.alloc (.cells #[.slice none 0 0] 50)).alloc (.cells #[.int .i64 0] 28)).alloc (.cells #[.int .i64 (wid L n : Nat)] 3)).alloc (.cells (madeCells #[.int .u8 0] L) 5)).alloc (.cells #[.slice (some ⟨w.heap.size + 1 + 1 + 1, 0, none⟩) L L] 50)).alloc (.cells #[.int .i64 0] 3)).alloc (.cells #[.slice a n cap] 22)) 3 (.int .i64 (n : Nat))).alloc (.cells #[.func (.func 118) #[] #[.pointer (some ⟨w.heap.size + 1 + 1 + 1 + 1 + 1 + 1, 0, none⟩)]] 130)
    simp only [World.size_alloc] at this
    rw [hw3]; exact this
  have bR3 : Boxed w3 (w.heap.size + 1 + 1 + 1 + 1 + 1 + 1 + 1 + 1) 130 (.func (.func 118) #[] #[.pointer (some ⟨w.heap.size + 1 + 1 + 1 + 1 + 1 + 1, 0, none⟩)]) := by
    have := Boxed.new ((((((((w.alloc (.cells #[.slice none 0 0] 50)).alloc (.cells #[.int .i64 0] 28)).alloc (.cells #[.int .i64 (wid L n : Nat)] 3)).alloc (.cells (madeCells #[.int .u8 0] L) 5)).alloc (.cells #[.slice (some ⟨w.heap.size + 1 + 1 + 1, 0, none⟩) L L] 50)).alloc (.cells #[.int .i64 0] 3)).alloc (.cells #[.slice a n cap] 22)).alloc (.cells #[.int .i64 (n : Nat)] 3)) 130 (.func (.func 118) #[] #[.pointer (some ⟨w.heap.size + 1 + 1 + 1 + 1 + 1 + 1, 0, none⟩)])
    simp only [World.size_alloc] at this
    rw [hw3]; exact this
  clear hw3 hw2 hmk
  generalize hwi : wid L n = wi at *
  have HWI := Lib.hid hwi; clear hwi
  have hG3 : Gt (w.heap.size + 1 + 1 + 1 + 1 + 1 + 1 + 1) (w.heap.size + 1 + 1 + 1 + 1 + 1 + 1 + 1 + 1) 118 n #[.pointer (some ⟨w.heap.size + 1 + 1 + 1 + 1 + 1 + 1, 0, none⟩)] (fun W => Boxed W (w.heap.size + 1 + 1 + 1 + 1 + 1 + 1) 22 (.slice a n cap) ∧ Rd W a n cap r l c f) w3 := ⟨bP3, bR3, bL3, HR.out.same hS3.be⟩
  have HG3 := Lib.hid hG3
  have hs3 : w.heap.size + 1 + 1 + 1 + 1 + 1 + 1 < w3.heap.size := bL3.lt
  have HS3 := Lib.hid hS3
  clear bP3 bR3 bL3 hG3 hS3
  refine' wpIn_rangeFunc_ownG rfl (by omega) (gf := 100) (lb := #[.pointer (some ⟨w.heap.size + 1 + 1 + 1 + 1 + 1 + 1 + 1, 0, none⟩), .pointer (some ⟨w.heap.size + 1 + 1 + 1 + 1 + 1 + 1 + 1 + 1, 0, none⟩)]) rfl trivial (enters_of Tryz.func100 (by kernel_rfl) rfl)
    (told_stops _ (w.heap.size + 1 + 1 + 1 + 1 + 1 + 1 + 1) (w.heap.size + 1 + 1 + 1 + 1 + 1 + 1 + 1 + 1) 118 n #[.pointer (some ⟨w.heap.size + 1 + 1 + 1 + 1 + 1 + 1, 0, none⟩)] (rs r l c) _ (asks_of _ n cap a r l c f) (by omega) _ HG3.out) kpT_t (kpT_b (asks_of _ n cap a r l c f)) (Below.refl _ _) (fun _ => rfl)
    (fun pre W => (∀ x ∈ pre, l x.i = wi) ∧ JoinS w W L wi (min (pre.length * wi) L) (jpre f wi pre) (.slice none 0 0) 0)
    (fun cc pre W => cc = .ret ∧ (∃ x ∈ pre, l x.i ≠ wi) ∧ ∃ h at_, JoinS w W L wi at_ h (.slice none 0 0) 4)
    (fun s X Y row h hg hr => ⟨h.1, h.2.kep hg (fun k e => ⟨by have := (hr k e).1; omega, (hr k e).2⟩)⟩)
    (fun cc s X Y row h hg hr => ⟨h.1, h.2.1, by obtain ⟨h', at', hj⟩ := h.2.2; exact ⟨h', at', hj.kep hg (fun k e => ⟨by have := (hr k e).1; omega, (hr k e).2⟩)⟩⟩)
    ⟨by simp, by simpa using HS3.out.congr (h' := jpre f wi ([] : List (Tk n))) (fun i _ => by unfold jpre; rw [if_neg (by simp)])⟩
    _ ?assign ?body ?done ?stop
  case assign =>
    intro q y W K hK
    unfold rs
    gi_wp2
    exact hK
  case body =>
    rintro q pre y W ⟨hp, hS⟩ _
    have HP := Lib.hid hp; clear hp
    have c6 := hS.b6.cell
    by_cases hly : l y.i = wi
    · have i1 : (((l y.i : Nat) : Int) != (wi : Int)) = false := by rw [hly]; simp
      have HLY := Lib.hid hly
      have HT0 := Lib.hid (show min (pre.length * wi) L ≤ L from Nat.min_le_right _ _)
      have HJ := Lib.hid (fun j (hj : j < L) => jpre_s f wi L pre y j hj)
      have HA := Lib.hid (at_s pre.length wi L)
      generalize min (pre.length * wi) L = t at *
      have ht : t ≤ L := HT0.out
      have c8 := hS.b8.cell
      have c9 := hS.b9.cell
      have hSl : Sl W (r y.i) wi (c y.i) (f y.i) := by
        have := (HR.out.row y.i y.hi).same hS.be
        rw [hly] at this; exact this
      obtain ⟨w6, hrun, hbl, hgr⟩ := run_copy_bl (P := Tryz.prog) W.drew 50 50 3 5 Tryz.underlying50 Tryz.sizeU8 (cutA (some ⟨w.heap.size + 1 + 1 + 1, 0, none⟩) t L) (r y.i) (L - t) (L - t) wi (c y.i) (min wi (L - t)) rfl (w.heap.size + 1 + 1 + 1) t L L (jpre f wi pre) (f y.i) hS.bl (fun _ => hSl.drewN 1) (fun hm => by unfold cutA; rw [if_neg (by omega), Option.map_some, Addr.add_lit, Nat.zero_add]) (by omega) (Nat.le_refl _)
      have hrun' : (Builtin.copy_ #[50, 50] 3 #[.slice (cutA (some ⟨w.heap.size + 1 + 1 + 1, 0, none⟩) t L) (L - t) (L - t), .slice (r y.i) wi (c y.i)]).run Tryz.prog W.drew = .ok (.int .i64 (min wi (L - t) : Nat)) w6 := hrun
      have hS6 : JoinS w w6 L wi t (cpy t (min wi (L - t)) (f y.i) (jpre f wi pre)) (.slice none 0 0) 0 := (hS.same (Below.refl _ W).drew).copied hgr hbl
      have hsl := fun W => slice_l (some ⟨w.heap.size + 1 + 1 + 1, 0, none⟩) L L t ht W
      have d9 := hS6.b9.cell
      have f9 := hS6.b9.frozen
      have hm : t + min wi (L - t) ≤ L := by omega
      have hK : KeepsOthers W w6 := (keeps_drewN W 1).trans (KeepsOthers.of_grownBy hgr fun j o ej hj => by
        cases ej
        obtain ⟨v, e, _⟩ := hS.bl
        have := e.symm.trans hj
        cases this; rfl)
      have HS6 := Lib.hid (hS6.congr HJ.out); have HK := Lib.hid hK; have HGR := Lib.hid hgr; have HSW := Lib.hid hS
      clear hrun hS hSl hbl hgr hS6 hK HJ
      generalize cutA (some ⟨w.heap.size + 1 + 1 + 1, 0, none⟩) t L = ca at *
      generalize min wi (L - t) = m at *
      obtain ⟨u, hu⟩ : ∃ u, u = t + m := ⟨_, rfl⟩
      have wr : wrap64 ((t : Int) + (m : Int)) = (u : Int) := by unfold wrap64; omega
      rw [← hu] at HA
      have HU := Lib.hid hu; clear hu
      have WR := Lib.hid wr; clear wr

      gi_wp2
      refine Rb.wpIn_round_u (S := fun X => X.cell? ⟨w.heap.size + 1 + 1 + 1 + 1 + 1, 0, none⟩ = some (.int .i64 (t : Nat)) ∧ X.cell? ⟨w.heap.size + 1 + 1 + 1 + 1, 0, none⟩ = some (.slice (some ⟨w.heap.size + 1 + 1 + 1, 0, none⟩) L L)) (z := 7) (by kernel_rfl) (by kernel_rfl) ⟨c9, c8⟩ (fun hHeld => ?_)
      refine AnyU.take (i := 0) (p := 0) (oi := ⟨some 33, _, _, _, _, none⟩) (v := (.int .i64 (t : Nat))) rfl (by kernel_rfl) (Or.inl rfl) (by kernel_rfl) (by kernel_rfl) (by kernel_rfl) (by kernel_rfl) (fun _ _ _ h => h) (Or.inl ⟨by rfl, fun W hW => ?_⟩) (by assumption) ?_
      · (obtain ⟨h9, h8⟩ := hW; go_simp)
      simp only [Act.put, List.setIfInBounds_toArray, List.set_cons_zero, List.set_cons_succ]
      refine AnyU.take (i := 1) (p := 1) (oi := ⟨some 34, _, _, _, _, none⟩) (v := (.slice (some ⟨w.heap.size + 1 + 1 + 1, 0, none⟩) L L)) rfl (by kernel_rfl) (Or.inl rfl) (by kernel_rfl) (by kernel_rfl) (by kernel_rfl) (by kernel_rfl) (fun _ _ _ h => h) (Or.inl ⟨by rfl, fun W hW => ?_⟩) (by assumption) ?_
      · (obtain ⟨h9, h8⟩ := hW; go_simp)
      simp only [Act.put, List.setIfInBounds_toArray, List.set_cons_zero, List.set_cons_succ]
      refine AnyU.take (i := 2) (p := 2) (oi := ⟨some 35, _, _, _, _, none⟩) (v := (.int .i64 (t : Nat))) rfl (by kernel_rfl) (Or.inl rfl) (by kernel_rfl) (by kernel_rfl) (by kernel_rfl) (by kernel_rfl) (fun _ _ _ h => h) (Or.inl ⟨by rfl, fun W hW => ?_⟩) (by assumption) ?_
      · (obtain ⟨h9, h8⟩ := hW; go_simp)
      simp only [Act.put, List.setIfInBounds_toArray, List.set_cons_zero, List.set_cons_succ]
      refine AnyU.take (i := 3) (p := 3) (oi := ⟨some 36, _, _, _, _, none⟩) (v := (.slice ca (L - t) (L - t))) rfl (by kernel_rfl) (Or.inl rfl) (by kernel_rfl) (by kernel_rfl) (by kernel_rfl) (by kernel_rfl) (fun _ _ _ h => h) (Or.inl ⟨by rfl, fun W hW => ?_⟩) (by assumption) ?_
      · go_simp
      simp only [Act.put, List.setIfInBounds_toArray, List.set_cons_zero, List.set_cons_succ]
      refine AnyU.take (i := 4) (p := 4) (oi := ⟨some 37, _, _, _, _, none⟩) (v := (.slice (r y.i) wi (c y.i))) rfl (by kernel_rfl) (Or.inl rfl) (by kernel_rfl) (by kernel_rfl) (by kernel_rfl) (by kernel_rfl) (fun _ _ _ h => h) (Or.inl ⟨by rfl, fun W hW => ?_⟩) (by assumption) ?_
      · go_simp
      simp only [Act.put, List.setIfInBounds_toArray, List.set_cons_zero, List.set_cons_succ]
      refine AnyU.ready (rs := [5]) (by kernel_rfl) (by simp) (EachU.cons rfl (fun KK hKK => ?_) EachU.nil)
      go_simp
      refine hKK.out _ _ (fun _ => ⟨d9, HS6.out.b8.cell⟩) (fun hHeld => ?_)
      clear hKK KK
      try simp only [Act.put, List.setIfInBounds_toArray, List.set_cons_zero, List.set_cons_succ]
      have hHeld := hHeld (by decide)
      refine AnyU.take (i := 6) (p := 6) (oi := ⟨some 39, _, _, _, _, none⟩) (v := (.int .i64 (u : Nat))) rfl (by kernel_rfl) (Or.inl rfl) (by kernel_rfl) (by kernel_rfl) (by kernel_rfl) (by kernel_rfl) (fun _ _ _ h => h) (Or.inl ⟨by rfl, fun W hW => ?_⟩) (by assumption) ?_
      · (go_simp; rw [IntWalk.i64_left]; exact WR.out)
      simp only [Act.put, List.setIfInBounds_toArray, List.set_cons_zero, List.set_cons_succ]
      refine AnyU.ready (rs := [7]) (by kernel_rfl) (by simp) (EachU.cons rfl (fun KK hKK => ?_) EachU.nil)
      go_simp
      refine hKK.out _ _ (fun h => absurd rfl h) (fun hHeld => ?_)
      clear hKK KK
      try simp only [Act.put, List.setIfInBounds_toArray, List.set_cons_zero, List.set_cons_succ]
      refine AnyU.done (by kernel_rfl) ?_ _
      have hS7 := HS6.out.setAt u
      change KeepsFrom _ _ _ ∧ _ ∧ _
      refine ⟨(HK.out.trans (KeepsOthers.setCell _ _ _)).from _, fun g => ⟨?_, ?_, ?_, ?_⟩, fun x hx => ?_, ?_⟩
      · exact bx_past ((g.p.kept (grown_dr W 1 none) (by simp)).kept HGR.out (by intro e; injection e; omega)) (by omega)
      · exact bx_past ((g.r.kept (grown_dr W 1 none) (by simp)).kept HGR.out (by intro e; injection e; omega)) (by omega)
      · exact bx_past ((g.s.1.kept (grown_dr W 1 none) (by simp)).kept HGR.out (by intro e; injection e; omega)) (by omega)
      · exact HR.out.same hS7.be
      · rcases List.mem_append.1 hx with h | h
        · exact HP.out x h
        · rw [List.mem_singleton.1 h]; exact HLY.out
      · rw [show (pre ++ [y]).length = pre.length + 1 by simp, ← HA.out]
        exact hS7
    · have i1 : (((l y.i : Nat) : Int) != (wi : Int)) = true := by simp; omega
      have c4 := hS.b4.cell; have f4 := hS.b4.frozen
      have c5 : ∀ v, (W.setCell ⟨w.heap.size, 0, none⟩ v).cell? ⟨w.heap.size + 1, 0, none⟩ = some (.int .i64 0) := fun v => (bx_past hS.b5 (by omega)).cell
      have f5 : ∀ v, (W.setCell ⟨w.heap.size, 0, none⟩ v).frozen? ⟨w.heap.size + 1, 0, none⟩ = false := fun v => (bx_past hS.b5 (by omega)).frozen
      have HLY := Lib.hid hly
      have HS := Lib.hid hS
      clear hS hly
      gi_wp2
      exact ⟨((KeepsOthers.setCell _ _ _).trans (KeepsOthers.setCell _ _ _)).from _, rfl, ⟨y, by simp, HLY.out⟩, _, _, HS.out.told _ _⟩
  case done =>
    rintro D ys W hD hys ⟨hp, hS⟩ hK
    have hl : ys.length = n := by have := congrArg List.length hys; rwa [List.length_map, List.length_range] at this
    have hall : ∀ i, i < n → l i = wi := fun i hi => by
      have hm : i ∈ ys.map Tk.i := by rw [hys]; exact List.mem_range.2 hi
      obtain ⟨x, hx, rfl⟩ := List.mem_map.1 hm
      exact hp x hx
    have HS := Lib.hid (hS.congr (h' := jn f wi) (fun j hj => jpre_all f wi L ys hys HHI.out j hj)); have HALL := Lib.hid hall
    have c8 := hS.b8.cell; have c4 := hS.b4.cell; have f4 := hS.b4.frozen
    have c5 : ∀ v, (W.setCell ⟨w.heap.size, 0, none⟩ v).cell? ⟨w.heap.size + 1, 0, none⟩ = some (.int .i64 0) := fun v => (bx_past hS.b5 (by omega)).cell
    have f5 : ∀ v, (W.setCell ⟨w.heap.size, 0, none⟩ v).frozen? ⟨w.heap.size + 1, 0, none⟩ = false := fun v => (bx_past hS.b5 (by omega)).frozen
    clear hS hp hys hl hall
    gi_wp2
    have hK' := ((KeepsOthers.setCell W ⟨w.heap.size, 0, none⟩ (.slice (some ⟨w.heap.size + 1 + 1 + 1, 0, none⟩) L L)).trans (KeepsOthers.setCell _ ⟨w.heap.size + 1, 0, none⟩ (.int .i64 0))).same D _ hK rfl
    refine ⟨by simp, .inl ⟨_, _, rfl, run_takeDeferred hK', ?_⟩⟩
    have hF := (HS.out.told (.slice (some ⟨w.heap.size + 1 + 1 + 1, 0, none⟩) L L) 0).kep (grownBy_putObj' _ D (.deferred none)) (fun k e => by cases e; exact ⟨by omega, _, hK', rfl⟩)
    exact ⟨_, results_join rfl rfl hF.b4.cell hF.b5.cell, hF.be, Or.inr ⟨HALL.out, _, rfl, by omega, hF.bl⟩⟩
  case stop =>
    rintro D cc pre W hD _ ⟨rfl, ⟨x, hx, hne⟩, h', at', hS⟩ hK
    have HS := Lib.hid hS; have HNE := Lib.hid hne
    clear hS hne
    gi_wp2
    refine ⟨by simp, .inl ⟨_, _, rfl, run_takeDeferred hK, ?_⟩⟩
    have hF := HS.out.kep (grownBy_putObj' _ D (.deferred none)) (fun k e => by cases e; exact ⟨by omega, _, hK, rfl⟩)
    exact ⟨_, results_join rfl rfl hF.b4.cell hF.b5.cell, hF.be, Or.inl ⟨rfl, x.i, x.hi, HNE.out⟩⟩
end Go.Proofs.YtkejabhjlflknaaGreat.Sp

namespace Go.Proofs.YtkejabhjlflknaaGreat.Sp
open Go.RowKit Go.Shelf

/-- what is cut, row by row. -/
def crow (f : Nat → Nat) (wi i j : Nat) : Nat := if j < wi then f (i * wi + j) else 0
theorem crow_by {f : Nat → Nat} (h : Pf.By f) (wi i : Nat) : Pf.By (crow f wi i) := fun j => by unfold crow; split; exact h _; omega
theorem crow_up (f : Nat → Nat) (wi i : Nat) : Pf.Up (crow f wi i) wi := fun j hj => if_neg (by omega)
theorem cpy_all {f : Nat → Nat} {n : Nat} (h : Pf.Up f n) : (cpy 0 n f fun _ => 0) = f := funext fun i => by
  unfold cpy
  by_cases c : i < n
  · rw [if_pos ⟨Nat.zero_le _, by omega⟩, Nat.sub_zero]
  · rw [if_neg (by omega), h i (by omega)]
/-- .. and joined again. -/
theorem jn_crow (f : Nat → Nat) {wi : Nat} (hw : 0 < wi) : jn (crow f wi) wi = f := funext fun j => by
  unfold jn crow
  rw [if_pos (Nat.mod_lt _ hw), Nat.mul_comm, Nat.div_add_mod]
theorem place_le {i k wi : Nat} (hi : i < k) : i * wi + wi ≤ k * wi := by
  have := Nat.mul_le_mul_right wi (show i + 1 ≤ k from hi)
  rwa [Nat.add_mul, Nat.one_mul] at this
theorem range_part {k : Nat} (g wi : Nat) {i : Nat} (hi : i < k) : ((List.range k).map (part g wi))[i]? = some (.slice (some ⟨g, i * wi, none⟩) wi wi) := by
  rw [List.getElem?_map, List.getElem?_range hi]; rfl
section
variable {w w' : World} {f : Nat → Nat} {n k wi G : Nat}
theorem CutFin.rd (h : CutFin w f n k wi G w') (hb : Pf.By f) (hu : Pf.Up f n) (hs : k * wi ≤ 1000000) (hk : k ≤ 1000000) :
    ∃ g, w.heap.size ≤ G ∧ w.heap.size ≤ g ∧ G ≠ g ∧ Below w.heap.size w w' ∧ Bl w' g (k * wi) (k * wi) f ∧ w'.ownsRow w.heap.size 50 1 (.slice (some ⟨G, 0, none⟩) k k) k ((List.range k).map (part g wi)) ∧
      Rd w' (some ⟨G, 0, none⟩) k k (fun i => some ⟨g, i * wi, none⟩) (fun _ => wi) (fun _ => wi) (crow f wi) := by
  obtain ⟨g, h1, h2, h3, h4, h5, h6⟩ := h
  rw [cpy_all hu] at h5
  refine ⟨g, h1, h2, h3, h4, h5, h6, Nat.le_refl _, by unfold maxLen; omega, fun i => crow_by hb wi i, fun e => (by cases e), fun ad e _ => (by cases e; rfl), fun ad e i hi => ?_, fun i hi => ?_⟩
  · cases e
    have := h6.cells (g := G) rfl i _ (range_part g wi hi)
    rw [Addr.add_lit] at this
    exact this
  · have hp := place_le (wi := wi) hi
    refine ⟨Nat.le_refl _, by unfold maxLen; omega, crow_by hb wi i, crow_up f wi i, fun e => (by cases e), fun ad e _ => (by cases e; rfl), fun ad e j hj => ?_⟩
    cases e
    show w'.cell? ⟨g, i * wi + j, none⟩ = _
    rw [h5.cell (by omega)]
    unfold crow
    rw [if_pos hj]
end
/-- bytes that are written out. -/
def lt (vs : List Nat) (i : Nat) : Nat := vs.getD i 0
theorem lt_by {vs : List Nat} (h : ∀ v ∈ vs, v < 256) : Pf.By (lt vs) := fun i => by
  unfold lt
  rw [List.getD_eq_getElem?_getD]
  cases e : vs[i]? with
  | none => show 0 < 256; omega
  | some v => exact h v (List.mem_of_getElem? e)
theorem lt_up (vs : List Nat) : Pf.Up (lt vs) vs.length := fun i hi => by unfold lt; simp [hi]
theorem lt_bl (w : World) (vs : List Nat) : Bl (w.alloc (.cells (vs.map fun v => Value.int .u8 (v : Nat)).toArray 5)) w.heap.size vs.length vs.length (lt vs) := by
  have := Bl.alloc w (vs.map fun v => Value.int .u8 (v : Nat)) (lt vs) (fun i hi => by
    rw [List.length_map] at hi
    rw [List.getElem?_map, List.getElem?_eq_getElem hi]
    unfold lt
    rw [List.getD_eq_getElem?_getD, List.getElem?_eq_getElem hi]; rfl)
  rwa [List.length_map] at this
theorem lt_sl (w : World) (vs : List Nat) (hv : ∀ v ∈ vs, v < 256) (hl : vs.length ≤ 1000) : Sl (w.alloc (.cells (vs.map fun v => Value.int .u8 (v : Nat)).toArray 5)) (some ⟨w.heap.size, 0, none⟩) vs.length vs.length (lt vs) :=
  (lt_bl w vs).sl (Nat.le_refl _) (by unfold maxLen; omega) (lt_by hv) (lt_up vs)
/-- two rows of three bytes that are written out. -/
def two3 (a b : List Nat) (i : Nat) : Nat → Nat := if i = 0 then lt a else lt b
theorem two_rd (w : World) (a b : List Nat) (ha : ∀ v ∈ a, v < 256) (hb : ∀ v ∈ b, v < 256) (la : a.length = 3) (lb : b.length = 3) :
    Rd (((w.alloc (.cells (a.map fun v => Value.int .u8 (v : Nat)).toArray 5)).alloc (.cells (b.map fun v => Value.int .u8 (v : Nat)).toArray 5)).alloc (.cells #[.slice (some ⟨w.heap.size, 0, none⟩) 3 3, .slice (some ⟨w.heap.size + 1, 0, none⟩) 3 3] 50)) (some ⟨w.heap.size + 1 + 1, 0, none⟩) 2 2 (fun i => some ⟨w.heap.size + i, 0, none⟩) (fun _ => 3) (fun _ => 3) (two3 a b) := by
  have h1 := (lt_bl w a).kept (Below.heap_alloc _ (.cells (b.map fun v => Value.int .u8 (v : Nat)).toArray 5) _ (by rw [World.size_alloc]; omega))
  have h2 := h1.kept (Below.heap_alloc _ (.cells #[.slice (some ⟨w.heap.size, 0, none⟩) 3 3, .slice (some ⟨w.heap.size + 1, 0, none⟩) 3 3] 50) _ (by simp only [World.size_alloc]; omega))
  have h3 := (lt_bl (w.alloc (.cells (a.map fun v => Value.int .u8 (v : Nat)).toArray 5)) b).kept (Below.heap_alloc _ (.cells #[.slice (some ⟨w.heap.size, 0, none⟩) 3 3, .slice (some ⟨w.heap.size + 1, 0, none⟩) 3 3] 50) _ (by simp only [World.size_alloc]; omega))
  have h4 := heap_alloc_new ((w.alloc (.cells (a.map fun v => Value.int .u8 (v : Nat)).toArray 5)).alloc (.cells (b.map fun v => Value.int .u8 (v : Nat)).toArray 5)) (.cells #[.slice (some ⟨w.heap.size, 0, none⟩) 3 3, .slice (some ⟨w.heap.size + 1, 0, none⟩) 3 3] 50)
  simp only [World.size_alloc] at h3 h4
  rw [la] at h2
  rw [lb] at h3
  have hby : ∀ i, Pf.By (two3 a b i) := fun i => by unfold two3; split; exact lt_by ha; exact lt_by hb
  refine ⟨by omega, by unfold maxLen; omega, hby, fun e => (by cases e), fun ad e _ => (by cases e; rfl), fun ad e i hi => ?_, fun i hi => ?_⟩
  · cases e
    show World.cell? _ ⟨_, 0 + i, none⟩ = _
    rw [Nat.zero_add, cell_of_row _ _ i _ _ _ h4]
    rcases (show i = 0 ∨ i = 1 by omega) with rfl | rfl <;> rfl
  · rcases (show i = 0 ∨ i = 1 by omega) with rfl | rfl
    · exact h2.sl (by omega) (by unfold maxLen; omega) (lt_by ha) (by have := lt_up a; rwa [la] at this)
    · exact h3.sl (by omega) (by unfold maxLen; omega) (lt_by hb) (by have := lt_up b; rwa [lb] at this)
theorem awake9_e : ∀ i, i < 2 → (3 = 3 ∧ two3 [1, 2, 3] [4, 5, 0] i = crow (lt [1, 2, 3, 4, 5]) 3 i) := fun i hi => ⟨rfl, by
  have h0 : ∀ i, i < 2 → ∀ j, j < 3 → two3 [1, 2, 3] [4, 5, 0] i j = crow (lt [1, 2, 3, 4, 5]) 3 i j := by decide +kernel
  funext j
  by_cases hj : j < 3
  · exact h0 i hi j hj
  · rw [crow_up _ _ _ j (by omega)]
    unfold two3
    split
    · exact lt_up [1, 2, 3] j (by simpa using hj)
    · exact lt_up [4, 5, 0] j (by simpa using hj)⟩
end Go.Proofs.YtkejabhjlflknaaGreat.Sp

namespace Go.Proofs.YtkejabhjlflknaaGreat.Sp
open Go.RowKit Go.Shelf

theorem quiet_bel {w w' : World} {q : Nat} (h : w' = w.drewN q) : Below w.heap.size w w' := by rw [h]; exact below_dr (Below.refl _ _) q
end Go.Proofs.YtkejabhjlflknaaGreat.Sp

namespace Go.Proofs.YtkejabhjlflknaaGreat.Sp
open Go.RowKit Go.Shelf

set_option maxHeartbeats 1000000 in
theorem rcut_bad (a : Option Addr) (n cap : Nat) (k : Int) (h : Bad n k) (w : World) :
    Calls Tryz.prog 34 #[.slice a n cap, .int .i64 k] w fun e w' => e = .returned (.tuple #[.slice none 0 0, .int .i64 2]) ∧ w' = w := by
  have H := Lib.hid h; clear h
  go_enter Tryz.func34, Tryz.ntmps34
  go_wp2_with fail
  refine (rwidth_bad n k H.out _).mono ?_
  rintro e w1 ⟨rfl, rfl⟩
  go_wp2
  go_ret2
  exact ⟨rfl, rfl⟩
/-- a row as it is filled. -/
def fil (f : Nat → Nat) (wi k c j : Nat) : Nat := if j < c then crow f wi k j else 0
theorem fil_s (f : Nat → Nat) (wi k c : Nat) (j : Nat) : (if j = c then crow f wi k c else fil f wi k c j) = fil f wi k (c + 1) j := by
  unfold fil
  by_cases e : j = c
  · subst e; rw [if_pos rfl, if_pos (by omega)]
  · rw [if_neg e]
    by_cases h : j < c
    · rw [if_pos h, if_pos (by omega)]
    · rw [if_neg h, if_neg (by omega)]
theorem fil_all (f : Nat → Nat) (wi k : Nat) : fil f wi k wi = crow f wi k := funext fun j => by
  unfold fil
  by_cases h : j < wi
  · rw [if_pos h]
  · rw [if_neg h, crow_up f wi k j (by omega)]

set_option maxHeartbeats 4000000 in
set_option maxRecDepth 100000 in
theorem rcut_ok (a : Option Addr) (n cap K : Nat) (f : Nat → Nat) (hn : n ≤ 65535) (h1 : 1 ≤ K) (h2 : K ≤ 255) (w : World) (hS : Sl w a n cap f) :
    Calls Tryz.prog 34 #[.slice a n cap, .int .i64 (K : Nat)] w fun e w' => ∃ pa pc b, e = .returned (.tuple #[.slice pa K pc, .int .i64 0]) ∧ Go_ w' w.heap.size pa K pc b (fun _ => wid n K) (fun _ => wid n K) (crow f (wid n K)) ∧ Below w.heap.size w w' := by
  have hlo := wid_lo (L := n) h1
  have hle := wid_le (L := n) h1
  have hby := fun k => crow_by hS.bytes (wid n K) k
  have hup := hS.up
  have HW := Lib.hid (rwidth_ok n K hn h1 h2 w)
  generalize wid n K = wi at *
  have hmk := hmk8 wi (by omega)
  have hT : K * wi ≤ 66000 := by omega
  obtain ⟨i0, hi', hz0', hz1', hz2'⟩ := info_parts Tryz.infoRow
  have HI := Lib.hid hi'; have HZ0 := Lib.hid hz0'; have HZ1 := Lib.hid hz1'; have HZ2 := Lib.hid hz2'
  have HS := Lib.hid hS; have HBY := Lib.hid hby; have HUP := Lib.hid hup
  clear hi' hz0' hz1' hz2' hS hby hup hlo
  have HP0 := Lib.hid (pr_none w w.heap.size (fun _ => 0) (fun _ => wi) (fun _ => wi))
  have HB0 := Lib.hid (Below.refl w.heap.size w)
  go_enter Tryz.func34, Tryz.ntmps34
  go_wp2_with fail
  refine HW.out.mono ?_
  rintro e w1 ⟨rfl, rfl⟩
  go_wp2_with fail
  go_loopw [8, 9] (fun v i wr => ∃ (k : Nat) (pa : Option Addr) (pc : Nat) (b : Nat → Nat), k ≤ K ∧ i = .int .i64 k ∧ v = .slice pa k pc ∧ Pr wr w1.heap.size pa k pc b (fun _ => wi) (fun _ => wi) (crow f wi) ∧ Below w1.heap.size w1 wr) (fun _ i _ => K - (intOf i).toNat)
  case atStart => exact ⟨0, none, 0, fun _ => 0, by omega, rfl, rfl, HP0.out.congr (fun _ _ => rfl) (fun _ _ => rfl) (fun k => HBY.out k) (fun i j hi => absurd hi (Nat.not_lt_zero i)), HB0.out⟩
  case round =>
    obtain ⟨k, pa, pc, b, hk, rfl, rfl, hP, hB⟩ := hrel
    obtain ⟨wo, rfl⟩ : ∃ wo : World, wo = wr := ⟨_, rfl⟩
    have HP := Lib.hid hP; have HB := Lib.hid hB
    clear hP hB HP0 HB0
    by_cases hkh : k < K
    · have i1 : (k : Int) < (K : Int) := by omega
      have HBL := Lib.hid ((bl_made wo wi).congr (h' := fil f wi k 0) fun j _ => by unfold fil; rw [if_neg (by omega)])
      have HB1 := Lib.hid ((Below.refl wo.heap.size wo).alloc (Nat.le_refl _) (.cells (madeCells #[.int .u8 0] wi) 5))
      have hpl := place_le (wi := wi) hkh
      have hmul : (k : Int) * (wi : Int) = ((k * wi : Nat) : Int) := by rw [Int.natCast_mul]
      have HCR := Lib.hid (show ∀ c, c < wi → crow f wi k c = f (k * wi + c) from fun c hc => by unfold crow; rw [if_pos hc])
      generalize k * wi = T0 at *
      have hw := HB.out.size
      go_wp2_with fail
      go_loopw [11] (fun ci wx => ∃ c : Nat, c ≤ wi ∧ ci = .int .i64 (c : Nat) ∧ Bl wx wo.heap.size wi wi (fil f wi k c) ∧ Below wo.heap.size wo wx) (fun ci _ => wi - (intOf ci).toNat)
      case atStart => exact ⟨0, by omega, rfl, HBL.out, HB1.out⟩
      case round =>
        obtain ⟨c, hc, rfl, hbl, hBx⟩ := hrel
        by_cases hcw : c < wi
        · have i2 : (c : Int) < (wi : Int) := by omega
          have cr := hbl.cell hcw
          have fr := hbl.free c
          have hset := fun v => hbl.set hcw v
          have HBL3 := Lib.hid hbl; have HST := Lib.hid hset; have HBX := Lib.hid hBx
          have hcr := HCR.out c hcw
          have HCC := Lib.hid hcr
          have hFS := fun j => fil_s f wi k c j
          have HFS := Lib.hid hFS
          clear hset hFS hcr
          by_cases hin : T0 + c < n
          · obtain ⟨b', o', ea, c2⟩ := ((HS.out.same HB.out).same hBx).at_ hin
            have g1 : (T0 : Int) + (c : Int) < (n : Int) := by omega
            have EA := Lib.hid ea
            clear hbl hBx
            generalize fil f wi k c c = v0 at cr
            subst ea
            go_wp2_with fail
            refine ⟨⟨c + 1, by omega, by go_num, (HST.out (f (T0 + c))).congr fun j _ => ?_, HBX.out.setCell (p := ⟨wo.heap.size, c, none⟩) (Nat.le_refl _) _⟩, by simp [intOf]; omega⟩
            have := HFS.out j
            rw [HCC.out] at this; exact this
          · have g1 : ¬ (T0 : Int) + (c : Int) < (n : Int) := by omega
            have hz := HUP.out (T0 + c) (by omega)
            have HZ := Lib.hid hz
            clear hbl hBx hz
            generalize fil f wi k c c = v0 at cr
            go_wp2_with fail
            refine ⟨⟨c + 1, by omega, by go_num, HBL3.out.congr fun j _ => ?_, HBX.out⟩, by simp [intOf]; omega⟩
            have h3 := HFS.out j
            rw [HCC.out, HZ.out] at h3
            rw [← h3]
            by_cases e : j = c
            · rw [if_pos e, e]; unfold fil; rw [if_neg (by omega)]
            · rw [if_neg e]
        · have hcw' : c = wi := by omega
          have i2 : ¬ (c : Int) < (wi : Int) := by omega
          rw [hcw', fil_all] at hbl
          have HBL2 := Lib.hid hbl; have HBX := Lib.hid hBx; have HCW := Lib.hid hcw'
          have hs2 := hBx.size
          clear hbl hBx hcw'
          go_wp2_with ((refine wpList_append_bag _ rfl (.tmp 53) (.tmp 55) 22 rfl w1.heap.size 50 i0 (.slice none 0 0) 24 Tryz.underlying22 HI.out HZ0.out HZ1.out HZ2.out rfl pa k pc ((List.range k).map fun i => Value.slice (some ⟨b i, 0, none⟩) wi wi) rfl (own_below (own_below HP.out.own HBX.out) ((Below.refl _ _).alloc (Nat.le_refl _) _)) ⟨wr.heap.size, 0, none⟩ 1 1 [.slice (some ⟨wo.heap.size, 0, none⟩) wi wi] rfl rfl (cell_new1 _ _ _) (fun u hu => by rw [List.mem_singleton.1 hu]; rfl) (by omega) (by unfold maxLen; omega) (by omega) (by simp; omega) ?_); intro g' cap' w2 hown hc hlt; have HO := Lib.hid hown; have HC := Lib.hid hc; clear hown hc hlt)
          have hb2 : Below wo.heap.size wo (wr.alloc (.cells #[.slice (some ⟨wo.heap.size, 0, none⟩) wi wi] 50)) := HBX.out.alloc hs2 _
          have hst := HP.out.step hb2 (HBL2.out.kept (Below.heap_alloc _ _ _ HBL2.out.lt)) (Nat.le_refl _) hw ⟨Nat.le_refl _, by unfold maxLen; omega⟩ (HBY.out k) (crow_up f wi k) HO.out HC.out
          have HST := Lib.hid (hst.congr (l' := fun _ => wi) (c' := fun _ => wi) (f' := crow f wi) (fun i _ => by split <;> rfl) (fun i _ => by split <;> rfl) (fun k => HBY.out k) (fun i j _ => by split <;> simp_all))
          have HB2 := Lib.hid (below_apn (HB.out.trans (hb2.mono hw)) (by have := hb2.size; omega) HC.out (fun g e => by subst e; exact (HP.out.own.lt g rfl).1))
          clear hb2 hst
          go_wp2_with fail
          go_roundw
          case rel => exact ⟨k + 1, _, _, _, by omega, by go_num, rfl, HST.out, HB2.out⟩
          case measure => simp [intOf]; omega
    · obtain rfl : k = K := by omega
      have i1 : ¬ (k : Int) < (k : Int) := by omega
      go_wp2
      go_ret2
      exact ⟨pa, pc, rfl, ⟨b, HP.out.go⟩, HB.out⟩
end Go.Proofs.YtkejabhjlflknaaGreat.Sp

namespace Go.Proofs.YtkejabhjlflknaaGreat.Sp
open Go.RowKit Go.Shelf

/-- the width, the error of whatever length and threshold. -/
def wv (x k : Int) : Int := if Bad x k then 0 else (wid x.toNat k.toNat : Nat)
def we (x k : Int) : Int := if Bad x k then 2 else 0
theorem width_any (x k : Int) (w : World) :
    Calls Tryz.prog 54 #[.int .i64 x, .int .i64 k] w fun e w' => e = .returned (.tuple #[.int .i64 (wv x k), .int .i64 (we x k)]) ∧ w' = w := by
  unfold wv we
  by_cases h : Bad x k
  · rw [if_pos h, if_pos h]; exact width_bad x k h w
  · rw [if_neg h, if_neg h]
    have h' := h
    unfold Bad at h
    obtain ⟨X, rfl⟩ : ∃ X : Nat, x = X := ⟨x.toNat, by omega⟩
    obtain ⟨K, rfl⟩ : ∃ K : Nat, k = K := ⟨k.toNat, by omega⟩
    exact width_ok X K (by omega) (by omega) (by omega) w
theorem wv_ok {x k : Nat} (h : ¬ Bad x k) : wv x k = (wid x k : Nat) := by unfold wv; rw [if_neg h]; rfl
theorem we_ok {x k : Int} (h : ¬ Bad x k) : we x k = 0 := if_neg h
theorem we_bad {x k : Int} (h : Bad x k) : we x k = 2 := if_pos h
theorem wid_one (L : Nat) : wid L 1 = L := by unfold wid; rw [Nat.add_sub_cancel, Nat.div_one]
theorem wid_more {L N k : Nat} (hk : 1 ≤ k) (h : L ≤ N) : wid L k ≤ wid N k := wid_least hk (Nat.le_trans h (wid_hi hk))
theorem wid_less {L k M : Nat} (hk : 1 ≤ k) (h : k ≤ M) : wid L M ≤ wid L k := wid_least (by omega) (Nat.le_trans (wid_hi hk) (Nat.mul_le_mul_right _ h))

end Go.Proofs.YtkejabhjlflknaaGreat.Sp

namespace Go.Proofs.YtkejabhjlflknaaGreat.Sp
open Go.RowKit Go.Shelf

/-- what size answers: a number; if it is at most 70000, no rows and no row are more than that. -/
def Size9 (n : Nat) (l : Nat → Nat) (e : Ending) : Prop := ∃ s : Nat, e = .returned (.int .i64 (s : Nat)) ∧ s ≤ 281474976710656 ∧ (s ≤ 70000 → n ≤ 70000 ∧ ∀ i, i < n → l i ≤ 70000)
/-- what Cut answers, of whatever threshold. -/
def CutP (w : World) (f : Nat → Nat) (n : Nat) (k : Int) (v : Value) (x : Int) (w' : World) : Prop :=
  (Bad n k ∧ v = .slice none 0 0 ∧ x = 2) ∨ (¬ Bad n k ∧ x = 0 ∧ ∃ G K, k = (K : Nat) ∧ v = .slice (some ⟨G, 0, none⟩) K K ∧ CutFin w f n K (wid n K) G w')
def CutAny (w : World) (f : Nat → Nat) (n : Nat) (k : Int) (e : Ending) (w' : World) : Prop := ∃ v x, e = .returned (.tuple #[v, .int .i64 x]) ∧ Below w.heap.size w w' ∧ CutP w f n k v x w'
theorem cut_any (a : Option Addr) (n cap : Nat) (k : Int) (f : Nat → Nat) (w : World) (hS : Sl w a n cap f) :
    Calls Tryz.prog 56 #[.slice a n cap, .int .i64 k] w (CutAny w f n k) := by
  by_cases h : Bad n k
  · refine (cut_bad a n cap k h w).mono ?_
    rintro e w' ⟨rfl, rfl⟩
    exact ⟨_, _, rfl, Below.refl _ _, Or.inl ⟨h, rfl, rfl⟩⟩
  · have h' := h
    unfold Bad at h'
    obtain ⟨K, rfl⟩ : ∃ K : Nat, k = K := ⟨k.toNat, by omega⟩
    refine (cut_ok a n cap K f (by omega) (by omega) (by omega) w hS).mono ?_
    rintro e w' ⟨G, rfl, hf⟩
    have hB : Below w.heap.size w w' := by obtain ⟨_, _, _, _, hB, _⟩ := hf; exact hB
    exact ⟨_, _, rfl, hB, Or.inr ⟨h, rfl, G, K, rfl, rfl, hf⟩⟩
/-- what Join answers, of whatever length. -/
def JoinP (w : World) (n : Nat) (l : Nat → Nat) (f : Nat → Nat → Nat) (x : Int) (v : Value) (y : Int) (w' : World) : Prop :=
  (v = .slice none 0 0 ∧ (Bad x n ∧ y = 2 ∨ ¬ Bad x n ∧ y = 4 ∧ ∃ i, i < n ∧ l i ≠ wid x.toNat n)) ∨
  (¬ Bad x n ∧ y = 0 ∧ ∃ g L, x = (L : Nat) ∧ v = .slice (some ⟨g, 0, none⟩) L L ∧ (∀ i, i < n → l i = wid L n) ∧ w.heap.size ≤ g ∧ Bl w' g L L (jn f (wid L n)))
def JoinAny (w : World) (n : Nat) (l : Nat → Nat) (f : Nat → Nat → Nat) (x : Int) (e : Ending) (w' : World) : Prop := ∃ v y, e = .returned (.tuple #[v, .int .i64 y]) ∧ Below w.heap.size w w' ∧ JoinP w n l f x v y w'
theorem join_any (a : Option Addr) (n cap : Nat) (r : Nat → Option Addr) (l c : Nat → Nat) (f : Nat → Nat → Nat) (x : Int) (w : World) (hR : Rd w a n cap r l c f) :
    Calls Tryz.prog 67 #[.slice a n cap, .int .i64 x] w (JoinAny w n l f x) := by
  by_cases h : Bad x n
  · refine (join_bad a n cap x h w).mono ?_
    rintro e w' ⟨rfl, hB⟩
    exact ⟨_, _, rfl, hB, Or.inl ⟨rfl, Or.inl ⟨h, rfl⟩⟩⟩
  · have h' := h
    unfold Bad at h'
    obtain ⟨L, rfl⟩ : ∃ L : Nat, x = L := ⟨x.toNat, by omega⟩
    refine (join_ok a n cap L r l c f (by omega) (by omega) (by omega) w hR).mono ?_
    rintro e w' ⟨hB, ⟨rfl, hi⟩ | ⟨ha, g, rfl, hg, hb⟩⟩
    · exact ⟨_, _, rfl, hB, Or.inl ⟨rfl, Or.inr ⟨h, rfl, hi⟩⟩⟩
    · exact ⟨_, _, rfl, hB, Or.inr ⟨h, rfl, g, L, rfl, rfl, ha, hg, hb⟩⟩
/-- as far as it goes. -/
def cut0 (h : Nat → Nat) (L i : Nat) : Nat := if i < L then h i else 0
theorem cut0_by {h : Nat → Nat} (hb : Pf.By h) (L : Nat) : Pf.By (cut0 h L) := fun i => by unfold cut0; split; exact hb i; omega
theorem cut0_up (h : Nat → Nat) (L : Nat) : Pf.Up (cut0 h L) L := fun i hi => if_neg (by omega)
theorem jn_by {f : Nat → Nat → Nat} (hb : Mt.Bm f) (wi : Nat) : Pf.By (jn f wi) := fun _ => hb _ _
end Go.Proofs.YtkejabhjlflknaaGreat.Sp

namespace Go.Proofs.YtkejabhjlflknaaGreat.Sp
open Go.RowKit Go.Shelf

set_option maxHeartbeats 1000000 in
theorem rjoin_bad (a : Option Addr) (n cap : Nat) (x : Int) (h : Bad x n) (w : World) :
    Calls Tryz.prog 47 #[.slice a n cap, .int .i64 x] w fun e w' => e = .returned (.tuple #[.slice none 0 0, .int .i64 2]) ∧ w' = w := by
  have H := Lib.hid h; clear h
  go_enter Tryz.func47, Tryz.ntmps47
  go_wp2_with fail
  refine (rwidth_bad x n H.out _).mono ?_
  rintro e w1 ⟨rfl, rfl⟩
  go_wp2
  go_ret2
  exact ⟨rfl, rfl⟩
theorem jn_rows (f : Nat → Nat → Nat) (wi k : Nat) : rowv (jn f wi) (k * wi + wi) = rowv (jn f wi) (k * wi) ++ rowv (f k) wi := by
  unfold rowv
  rw [List.range_add, List.map_append, List.map_map]
  congr 1
  apply List.map_congr_left
  intro j hj
  have hj : j < wi := List.mem_range.1 hj
  show Value.int .u8 ((f ((k * wi + j) / wi) ((k * wi + j) % wi) : Nat) : Int) = _
  have e1 : (k * wi + j) / wi = k := by rw [Nat.mul_comm, Nat.mul_add_div (by omega), Nat.div_eq_of_lt hj, Nat.add_zero]
  have e2 : (k * wi + j) % wi = j := by rw [Nat.mul_comm, Nat.mul_add_mod, Nat.mod_eq_of_lt hj]
  rw [e1, e2]
theorem rowv_cut (h : Nat → Nat) (L : Nat) : rowv h L = rowv (cut0 h L) L := by
  unfold rowv
  apply List.map_congr_left
  intro j hj
  unfold cut0
  rw [if_pos (List.mem_range.1 hj)]
/-- what the document's Join answers. -/
def RJoin (w : World) (n : Nat) (l : Nat → Nat) (f : Nat → Nat → Nat) (L : Nat) (e : Ending) (w' : World) : Prop :=
  Below w.heap.size w w' ∧ ((e = .returned (.tuple #[.slice none 0 0, .int .i64 4]) ∧ ∃ i, i < n ∧ l i ≠ wid L n) ∨
    ((∀ i, i < n → l i = wid L n) ∧ ∃ a c, e = .returned (.tuple #[.slice a L c, .int .i64 0]) ∧ Nw w' w.heap.size a L c (cut0 (jn f (wid L n)) L)))

set_option maxHeartbeats 4000000 in
set_option maxRecDepth 100000 in
theorem rjoin_ok (a : Option Addr) (n cap L : Nat) (r : Nat → Option Addr) (l c : Nat → Nat) (f : Nat → Nat → Nat) (hL : L ≤ 65535) (h1 : 1 ≤ n) (h2 : n ≤ 255) (w : World) (hR : Rd w a n cap r l c f) :
    Calls Tryz.prog 47 #[.slice a n cap, .int .i64 (L : Nat)] w (RJoin w n l f L) := by
  have hlo := wid_lo (L := L) h1
  have hhi := wid_hi (L := L) h1
  have hle := wid_le (L := L) h1
  have HW := Lib.hid (rwidth_ok L n hL h1 h2 w)
  unfold RJoin
  generalize wid L n = wi at *
  have hT : n * wi ≤ 66000 := by omega
  have HR := Lib.hid hR; have HHI := Lib.hid hhi
  obtain ⟨i0, hi', hz0', hz1', hz2'⟩ := info_parts Tryz.infoU8
  have HI := Lib.hid hi'; have HZ0 := Lib.hid hz0'; have HZ1 := Lib.hid hz1'; have HZ2 := Lib.hid hz2'
  clear hi' hz0' hz1' hz2' hR hhi hlo
  go_enter Tryz.func47, Tryz.ntmps47
  go_wp2_with fail
  refine HW.out.mono ?_
  rintro e w1 ⟨rfl, rfl⟩
  go_wp2_with fail
  have HB0 := Lib.hid (Below.refl w1.heap.size w1)
  have HO0 := Lib.hid (show w1.ownsRow w1.heap.size 5 1 (.slice none 0 0) (0 * wi) (rowv (jn f wi) (0 * wi)) from by rw [Nat.zero_mul]; exact World.ownsRow_nil _ _ _ _)
  go_loopw [8, 9] (fun v i wr => ∃ k : Nat, k ≤ n ∧ i = .int .i64 (k : Nat) ∧ (∀ j, j < k → l j = wi) ∧ wr.ownsRow w1.heap.size 5 1 v (k * wi) (rowv (jn f wi) (k * wi)) ∧ Below w1.heap.size w1 wr) (fun _ i _ => n - (intOf i).toNat)
  case atStart => exact ⟨0, by omega, rfl, fun j hj => absurd hj (Nat.not_lt_zero j), HO0.out, HB0.out⟩
  case round =>
    obtain ⟨k, hk, rfl, hall, hO, hB⟩ := hrel
    have HALL := Lib.hid hall; have HO := Lib.hid hO; have HB := Lib.hid hB
    clear hall hO hB HO0 HB0
    by_cases hkn : k < n
    · have i1 : (k : Int) < (n : Int) := by omega
      have hR1 := HR.out.same HB.out
      obtain ⟨b, o, ea, hc⟩ := hR1.at_ hkn
      have hrow := hR1.row k hkn
      have HRow := Lib.hid hrow
      have hpl := place_le (wi := wi) hkn
      have hw := HB.out.size
      subst ea
      clear hR1 hrow
      by_cases hlk : l k = wi
      · have HLK := Lib.hid hlk
        rw [hlk] at hc
        have hS : Sl wr (r k) wi (c k) (f k) := by have := HRow.out; rwa [hlk] at this
        have HS := Lib.hid hS
        have HRO := Lib.hid (jn_rows f wi k)
        have HNX := Lib.hid (show (k + 1) * wi = k * wi + wi by rw [Nat.add_mul, Nat.one_mul])
        clear hS HRow hlk
        generalize k * wi = T0 at *
        have g1 : ((wi : Int) != (wi : Int)) = false := by simp
        generalize hrk : r k = rk at *
        clear hrk
        cases rk with
        | none =>
          obtain ⟨hw0, hc0⟩ := HS.out.nil rfl
          rw [hw0, hc0] at hc
          have g2 : ((0 : Int) != (wi : Int)) = false := by rw [hw0]; rfl
          have g3 : (!decide ((wi : Int) = 0)) = false := by rw [hw0]; rfl
          have HW0 := Lib.hid hw0
          clear hw0 hc0
          go_wp2_with ((show wpList _ _ _ (⟨some 38, _, _, _, _, _⟩ :: _) _ _; (refine wpList_append_own_none (o := ⟨some 38, _, _, _, _, _⟩) rfl (.tmp 33) (.tmp 37) 50 rfl w1.heap.size 5 i0 1 Tryz.underlying50 HI.out _ T0 _ rfl HO.out rfl ?_)))
          go_roundw
          case rel => exact ⟨k + 1, by omega, by go_num, fun j hj => by
            by_cases e : j = k
            · rw [e]; exact HLK.out
            · exact HALL.out j (by omega), by
              have h1 : (k + 1) * wi = T0 := by have h2 := HNX.out; have h3 := HW0.out; omega
              rw [h1]; exact HO.out, HB.out⟩
          case measure => simp [intOf]; omega
        | some ad =>
          go_wp2_with ((show wpList _ _ _ (⟨some 38, _, _, _, _, _⟩ :: _) _ _; refine wpList_append_own (o := ⟨some 38, _, _, _, _, _⟩) _ rfl (.tmp 33) (.tmp 37) 50 rfl w1.heap.size 5 i0 (.int .u8 0) 1 1 Tryz.underlying50 HI.out HZ0.out HZ1.out HZ2.out rfl (by decide) _ T0 _ rfl HO.out ad wi (c k) (rowv (f k) wi) rfl (by rw [rowv_len]; omega) (Sl.reads HS.out _ rfl) (ones_map _ _) (by unfold maxLen; omega) (by omega) (by omega) ?_; intro v2 w2 hown hgrow _; rw [← HRO.out] at hown; have HO2 := Lib.hid hown; have HB2 := Lib.hid (HB.out.grown hgrow HB.out.size (fun q e => (HO.out.lt q e).1)); clear hown hgrow))
          go_roundw
          case rel => exact ⟨k + 1, by omega, by go_num, fun j hj => by
            by_cases e : j = k
            · rw [e]; exact HLK.out
            · exact HALL.out j (by omega), by rw [HNX.out]; exact HO2.out, HB2.out⟩
          case measure => simp [intOf]; omega
      · have g1 : (((l k : Nat) : Int) != (wi : Int)) = true := by simp; omega
        have HLK := Lib.hid hlk
        clear hlk
        go_wp2
        go_ret2
        exact ⟨HB.out, Or.inl ⟨rfl, k, hkn, HLK.out⟩⟩
    · obtain rfl : k = n := by omega
      have i1 : ¬ (k : Int) < (k : Int) := by omega
      have hLT := HHI.out
      have hw := HB.out.size
      have HX := Lib.hid (World.ownsRow_made (e := 5) (size := 1) wr #[] 0 hw (by unfold maxLen; omega) rfl)
      have HB1 := Lib.hid (HB.out.alloc hw (.cells #[] 5))
      have hby := jn_by HR.out.bm wi
      have HBY := Lib.hid (cut0_by hby L)
      have HCT := Lib.hid (rowv_cut (jn f wi) L)
      clear hby
      rcases HO.out.2 with ⟨rfl, hz⟩ | ⟨g, cp, cur, rfl, hgb, hg, hnc, hcm, _, ht⟩
      · have hL0 : L = 0 := by omega
        have HL0 := Lib.hid hL0
        have hsl : ∀ W, (Instr.slice 50 (.slice none 0 0) none (some (.int .i64 ((L : Nat) : Int))) none).run Tryz.prog W = .ok (.slice none 0 0) W := fun W => by
          have := slice_h none 0 0 L (by omega) W
          rw [hL0] at this ⊢; exact this
        clear hL0 hz hLT hw
        go_wp2_with ((show wpList _ _ _ (⟨some 43, _, _, _, _, _⟩ :: _) _ _; refine wpList_append_own_none (o := ⟨some 43, _, _, _, _, _⟩) rfl (.tmp 39) (.tmp 42) 50 rfl w1.heap.size 5 i0 1 Tryz.underlying50 HI.out _ 0 [] rfl HX.out rfl ?_))
        go_ret2
        obtain ⟨a3, c3, e3, hN⟩ := owns_new (n := 0) (f := cut0 (jn f wi) L) HX.out HBY.out (by have := cut0_up (jn f wi) L; rwa [HL0.out] at this ⊢)
        cases e3
        exact ⟨HB1.out, Or.inr ⟨HALL.out, _, _, by rw [HL0.out]; rfl, by rw [HL0.out] at hN ⊢; exact hN⟩⟩
      · have hsl := fun W => slice_h (some ⟨g, 0, none⟩) (k * wi) cp L (by omega) W
        have hrd : ∀ j u, (rowv (jn f wi) L)[j]? = some u → wr.cell? ((⟨g, 0, none⟩ : Addr).add j) = some u := fun j u hu => by
          have hj : j < L := by have := (List.getElem?_eq_some_iff.1 hu).1; rwa [rowv_len] at this
          refine HO.out.cells (g := g) rfl j u ?_
          rw [rowv_get (by omega)]
          rw [rowv_get hj] at hu; exact hu
        have HRD := Lib.hid (fun j u hu => (Below.cell ((Below.refl wr.heap.size wr).alloc (Nat.le_refl _) (.cells #[] 5)) (World.block_lt_of_cell? _ _ (hrd j u hu))).trans (hrd j u hu))
        clear hrd ht hg hw hLT
        go_wp2_with ((show wpList _ _ _ (⟨some 43, _, _, _, _, _⟩ :: _) _ _; refine wpList_append_own (o := ⟨some 43, _, _, _, _, _⟩) _ rfl (.tmp 39) (.tmp 42) 50 rfl w1.heap.size 5 i0 (.int .u8 0) 1 1 Tryz.underlying50 HI.out HZ0.out HZ1.out HZ2.out rfl (by decide) _ 0 [] rfl HX.out ⟨g, 0, none⟩ L cp (rowv (jn f wi) L) rfl (by rw [rowv_len]; omega) HRD.out (ones_map _ _) (by unfold maxLen; omega) (by omega) (by have := HB1.out.size; simp at this ⊢; omega) ?_; intro v2 w2 hown hgrow _; rw [List.nil_append, Nat.zero_add, HCT.out] at hown; have HO2 := Lib.hid hown; have HB2 := Lib.hid (HB1.out.grown hgrow HB1.out.size (fun q e => (HX.out.lt q e).1)); clear hown hgrow))
        go_ret2
        obtain ⟨a3, c3, rfl, hN⟩ := owns_new HO2.out HBY.out (cut0_up _ _)
        exact ⟨HB2.out, Or.inr ⟨HALL.out, a3, c3, rfl, hN⟩⟩
end Go.Proofs.YtkejabhjlflknaaGreat.Sp
