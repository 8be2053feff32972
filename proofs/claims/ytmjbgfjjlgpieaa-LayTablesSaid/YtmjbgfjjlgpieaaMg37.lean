import Derived.Test.YtmjbgfjjlgpieaaMg8
import Derived.Test.YtmjbgfjjlgpieaaMg36
namespace Go.Proofs.Ytmjbgfjjlgpieaa.Sp
open Go.RowKit Go.Shelf
attribute [local go_sem] Oper.semAt_some

theorem JoinS.start (w : World) (L wi : Nat) : JoinS w ((((((w.alloc (.cells #[.slice none 0 0] 37)).alloc (.cells #[.int .i64 0] 25)).alloc (.cells #[.int .i64 (wi : Nat)] 3)).alloc (.cells (madeCells #[.int .u8 0] L) 5)).alloc (.cells #[.slice (some ⟨w.heap.size + 1 + 1 + 1, 0, none⟩) L L] 37)).alloc (.cells #[.int .i64 0] 3)) L wi 0 (fun _ => 0) (.slice none 0 0) 0 := by
  have b4 := (((((Boxed.new w 37 (.slice none 0 0)).alloc (.cells #[.int .i64 0] 25)).alloc (.cells #[.int .i64 (wi : Nat)] 3)).alloc (.cells (madeCells #[.int .u8 0] L) 5)).alloc (.cells #[.slice (some ⟨w.heap.size + 1 + 1 + 1, 0, none⟩) L L] 37)).alloc (.cells #[.int .i64 0] 3)
  have b5 := ((((Boxed.new (w.alloc (.cells #[.slice none 0 0] 37)) 25 (.int .i64 0)).alloc (.cells #[.int .i64 (wi : Nat)] 3)).alloc (.cells (madeCells #[.int .u8 0] L) 5)).alloc (.cells #[.slice (some ⟨w.heap.size + 1 + 1 + 1, 0, none⟩) L L] 37)).alloc (.cells #[.int .i64 0] 3)
  have b6 := (((Boxed.new ((w.alloc (.cells #[.slice none 0 0] 37)).alloc (.cells #[.int .i64 0] 25)) 3 (.int .i64 (wi : Nat))).alloc (.cells (madeCells #[.int .u8 0] L) 5)).alloc (.cells #[.slice (some ⟨w.heap.size + 1 + 1 + 1, 0, none⟩) L L] 37)).alloc (.cells #[.int .i64 0] 3)
  have b7 := bl_made (((w.alloc (.cells #[.slice none 0 0] 37)).alloc (.cells #[.int .i64 0] 25)).alloc (.cells #[.int .i64 (wi : Nat)] 3)) L
  have b8 := (Boxed.new ((((w.alloc (.cells #[.slice none 0 0] 37)).alloc (.cells #[.int .i64 0] 25)).alloc (.cells #[.int .i64 (wi : Nat)] 3)).alloc (.cells (madeCells #[.int .u8 0] L) 5)) 37 (.slice (some ⟨w.heap.size + 1 + 1 + 1, 0, none⟩) L L)).alloc (.cells #[.int .i64 0] 3)
  have b9 := Boxed.new (((((w.alloc (.cells #[.slice none 0 0] 37)).alloc (.cells #[.int .i64 0] 25)).alloc (.cells #[.int .i64 (wi : Nat)] 3)).alloc (.cells (madeCells #[.int .u8 0] L) 5)).alloc (.cells #[.slice (some ⟨w.heap.size + 1 + 1 + 1, 0, none⟩) L L] 37)) 3 (.int .i64 0)
  have b7' := (b7.kept (Below.heap_alloc _ (.cells #[.slice (some ⟨w.heap.size + 1 + 1 + 1, 0, none⟩) L L] 37) _ b7.lt))
  have b7'' := b7'.kept (Below.heap_alloc _ (.cells #[.int .i64 0] 3) _ b7'.lt)
  simp only [World.size_alloc] at b5 b6 b7'' b8 b9
  exact ⟨b4, b5, b6, b7'', b8, b9, ((((((Below.refl _ w).alloc (Nat.le_refl _) _).alloc (by simp only [World.size_alloc]; omega) _).alloc (by simp only [World.size_alloc]; omega) _).alloc (by simp only [World.size_alloc]; omega) _).alloc (by simp only [World.size_alloc]; omega) _).alloc (by simp only [World.size_alloc]; omega) _⟩

set_option maxRecDepth 100000 in
set_option maxHeartbeats 4000000 in
theorem join_ok (a : Option Addr) (n cap L : Nat) (r : Nat → Option Addr) (l c : Nat → Nat) (f : Nat → Nat → Nat) (hL : L ≤ 65535) (h1 : 1 ≤ n) (h2 : n ≤ 255) (w : World) (hR : Rd w a n cap r l c f) :
    Calls Try.prog 43 #[.slice a n cap, .int .i64 (L : Nat)] w (JoinSays w n (wid L n) L l f) := by
  have hle := wid_le (L := L) h1
  have hhi := wid_hi (L := L) h1
  refine (callsIn_wide (n := 6)).1 ?_
  have hW : ∀ k, Fence.wide.fn k := fun _ => trivial
  have hD : Fence.wide.depth = none := rfl
  have hmk := hmk8 L (by omega)
  have HR := Lib.hid hR; have HHI := Lib.hid hhi
  clear hR hhi
  refine callsIn_of_wp_marks Try.func43 rfl trivial ?_ rfl
  simp only [Try.ntmps43, List.size_toArray, List.length_cons, List.length_nil, Nat.reduceAdd, Nat.reduceSub, Array.replicate_succ, Array.replicate_zero, List.push_toArray, List.append_toArray, List.nil_append, List.cons_append]
  gi_wp2_with (first
    | (gi_at_call 37; refine (callsIn_wide.2 (width_ok L n hL h1 h2 _)).mono ?_; rintro e w1 ⟨rfl, rfl⟩)
    | (gi_at_call 56; refine (callsIn_wide.2 (of_any _ _ _ _)).mono ?_; rintro e w2 ⟨rfl, hw2⟩)
    | (gi_at_call 47; refine (callsIn_wide.2 (told_any _ _ _ _)).mono ?_; rintro e w3 ⟨rfl, hw3⟩))
  rw [← hw3]
  have hS3 : JoinS w w3 L (wid L n) 0 (fun _ => 0) (.slice none 0 0) 0 := by
    rw [hw3]
    exact (JoinS.start w L (wid L n)).same ((((Below.refl _ _).alloc (Nat.le_refl _) _).alloc (by simp only [World.size_alloc]; omega) _).alloc (by simp only [World.size_alloc]; omega) _)
  have bL3 : Boxed w3 (w.heap.size + 1 + 1 + 1 + 1 + 1 + 1) 32 (.slice a n cap) := by
    have := ((Boxed.new ((((((w.alloc (.cells #[.slice none 0 0] 37)).alloc (.cells #[.int .i64 0] 25)).alloc (.cells #[.int .i64 (wid L n : Nat)] 3)).alloc (.cells (madeCells #[.int .u8 0] L) 5)).alloc (.cells #[.slice (some ⟨w.heap.size + 1 + 1 + 1, 0, none⟩) L L] 37)).alloc (.cells #[.int .i64 0] 3)) 32 (.slice a n cap)).alloc (.cells #[.int .i64 (n : Nat)] 3)).alloc (.cells #[.func (.func 67) #[] #[.pointer (some ⟨w.heap.size + 1 + 1 + 1 + 1 + 1 + 1, 0, none⟩)]] 91)
    simp only [World.size_alloc] at this
    rw [hw3]; exact this
  have bP3 : Boxed w3 (w.heap.size + 1 + 1 + 1 + 1 + 1 + 1 + 1) 3 (.int .i64 (n : Nat)) := by
    have := (Boxed.new (((((((w.alloc (.cells #[.slice none 0 0] 37)).alloc (.cells #[.int .i64 0] 25)).alloc (.cells #[.int .i64 (wid L n : Nat)] 3)).alloc (.cells (madeCells #[.int .u8 0] L) 5)).alloc (.cells #[.slice (some ⟨w.heap.size + 1 + 1 + 1, 0, none⟩) L L] 37)).alloc (.cells #[.int .i64 0] 3)).alloc (.cells #[.slice a n cap] 32)) 3 (.int .i64 (n : Nat))).alloc (.cells #[.func (.func 67) #[] #[.pointer (some ⟨w.heap.size + 1 + 1 + 1 + 1 + 1 + 1, 0, none⟩)]] 91)
    simp only [World.size_alloc] at this
    rw [hw3]; exact this
  have bR3 : Boxed w3 (w.heap.size + 1 + 1 + 1 + 1 + 1 + 1 + 1 + 1) 91 (.func (.func 67) #[] #[.pointer (some ⟨w.heap.size + 1 + 1 + 1 + 1 + 1 + 1, 0, none⟩)]) := by
    have := Boxed.new ((((((((w.alloc (.cells #[.slice none 0 0] 37)).alloc (.cells #[.int .i64 0] 25)).alloc (.cells #[.int .i64 (wid L n : Nat)] 3)).alloc (.cells (madeCells #[.int .u8 0] L) 5)).alloc (.cells #[.slice (some ⟨w.heap.size + 1 + 1 + 1, 0, none⟩) L L] 37)).alloc (.cells #[.int .i64 0] 3)).alloc (.cells #[.slice a n cap] 32)).alloc (.cells #[.int .i64 (n : Nat)] 3)) 91 (.func (.func 67) #[] #[.pointer (some ⟨w.heap.size + 1 + 1 + 1 + 1 + 1 + 1, 0, none⟩)])
    simp only [World.size_alloc] at this
    rw [hw3]; exact this
  clear hw3 hw2 hmk
  generalize hwi : wid L n = wi at *
  have HWI := Lib.hid hwi; clear hwi
  have hG3 : Gt (w.heap.size + 1 + 1 + 1 + 1 + 1 + 1 + 1) (w.heap.size + 1 + 1 + 1 + 1 + 1 + 1 + 1 + 1) 67 n #[.pointer (some ⟨w.heap.size + 1 + 1 + 1 + 1 + 1 + 1, 0, none⟩)] (fun W => Boxed W (w.heap.size + 1 + 1 + 1 + 1 + 1 + 1) 32 (.slice a n cap) ∧ Rd W a n cap r l c f) w3 := ⟨bP3, bR3, bL3, HR.out.same hS3.be⟩
  have HG3 := Lib.hid hG3
  have hs3 : w.heap.size + 1 + 1 + 1 + 1 + 1 + 1 < w3.heap.size := bL3.lt
  have HS3 := Lib.hid hS3
  clear bP3 bR3 bL3 hG3 hS3
  refine' wpIn_rangeFunc_ownG rfl (by omega) (gf := 60) (lb := #[.pointer (some ⟨w.heap.size + 1 + 1 + 1 + 1 + 1 + 1 + 1, 0, none⟩), .pointer (some ⟨w.heap.size + 1 + 1 + 1 + 1 + 1 + 1 + 1 + 1, 0, none⟩)]) rfl trivial (enters_of Try.func60 (by kernel_rfl) rfl)
    (told_stops _ (w.heap.size + 1 + 1 + 1 + 1 + 1 + 1 + 1) (w.heap.size + 1 + 1 + 1 + 1 + 1 + 1 + 1 + 1) 67 n #[.pointer (some ⟨w.heap.size + 1 + 1 + 1 + 1 + 1 + 1, 0, none⟩)] (rs r l c) _ (asks_of _ n cap a r l c f) (by omega) _ HG3.out) kpT_t (kpT_b (asks_of _ n cap a r l c f)) (Below.refl _ _) (fun _ => rfl)
    (fun pre W => (∀ x ∈ pre, l x.i = wi) ∧ JoinS w W L wi (min (pre.length * wi) L) (jpre f wi pre) (.slice none 0 0) 0)
    (fun cc pre W => cc = .ret ∧ (∃ x ∈ pre, l x.i ≠ wi) ∧ ∃ h at_, JoinS w W L wi at_ h (.slice none 0 0) 4)
    (fun s X Y row h hg hr => ⟨h.1, h.2.kep hg (fun k e => ⟨by have := (hr k e).1; omega, (hr k e).2⟩)⟩)
    (fun cc s X Y row h hg hr => ⟨h.1, h.2.1, by obtain ⟨h', at', hj⟩ := h.2.2; exact ⟨h', at', hj.kep hg (fun k e => ⟨by have := (hr k e).1; omega, (hr k e).2⟩)⟩⟩)
    ⟨by simp, by simpa using HS3.out.congr (h' := jpre f wi ([] : List (Tk n))) (fun i _ => by unfold jpre; rw [if_neg (by simp)])⟩
    _ ?assign ?body ?done ?stop
  case assign =>
    intro q y W K hK
    unfold rs
    gi_wp2
    exact hK
  case body =>
    rintro q pre y W ⟨hp, hS⟩ _
    have HP := Lib.hid hp; clear hp
    have c6 := hS.b6.cell
    by_cases hly : l y.i = wi
    · have i1 : (((l y.i : Nat) : Int) != (wi : Int)) = false := by rw [hly]; simp
      have HLY := Lib.hid hly
      have HT0 := Lib.hid (show min (pre.length * wi) L ≤ L from Nat.min_le_right _ _)
      have HJ := Lib.hid (fun j (hj : j < L) => jpre_s f wi L pre y j hj)
      have HA := Lib.hid (at_s pre.length wi L)
      generalize min (pre.length * wi) L = t at *
      have ht : t ≤ L := HT0.out
      have c8 := hS.b8.cell
      have c9 := hS.b9.cell
      have hSl : Sl W (r y.i) wi (c y.i) (f y.i) := by
        have := (HR.out.row y.i y.hi).same hS.be
        rw [hly] at this; exact this
      obtain ⟨w6, hrun, hbl, hgr⟩ := run_copy_bl (P := Try.prog) W.drew 37 37 3 5 Try.underlying37 Try.sizeU8 (cutA (some ⟨w.heap.size + 1 + 1 + 1, 0, none⟩) t L) (r y.i) (L - t) (L - t) wi (c y.i) (min wi (L - t)) rfl (w.heap.size + 1 + 1 + 1) t L L (jpre f wi pre) (f y.i) hS.bl (fun _ => hSl.drewN 1) (fun hm => by unfold cutA; rw [if_neg (by omega), Option.map_some, Addr.add_lit, Nat.zero_add]) (by omega) (Nat.le_refl _)
      have hrun' : (Builtin.copy_ #[37, 37] 3 #[.slice (cutA (some ⟨w.heap.size + 1 + 1 + 1, 0, none⟩) t L) (L - t) (L - t), .slice (r y.i) wi (c y.i)]).run Try.prog W.drew = .ok (.int .i64 (min wi (L - t) : Nat)) w6 := hrun
      have hS6 : JoinS w w6 L wi t (cpy t (min wi (L - t)) (f y.i) (jpre f wi pre)) (.slice none 0 0) 0 := (hS.same (Below.refl _ W).drew).copied hgr hbl
      have hsl := fun W => slice_l (some ⟨w.heap.size + 1 + 1 + 1, 0, none⟩) L L t ht W
      have d9 := hS6.b9.cell
      have f9 := hS6.b9.frozen
      have hm : t + min wi (L - t) ≤ L := by omega
      have hK : KeepsOthers W w6 := (keeps_drewN W 1).trans (KeepsOthers.of_grownBy hgr fun j o ej hj => by
        cases ej
        obtain ⟨v, e, _⟩ := hS.bl
        have := e.symm.trans hj
        cases this; rfl)
      have HS6 := Lib.hid (hS6.congr HJ.out); have HK := Lib.hid hK; have HGR := Lib.hid hgr; have HSW := Lib.hid hS
      clear hrun hS hSl hbl hgr hS6 hK HJ
      generalize cutA (some ⟨w.heap.size + 1 + 1 + 1, 0, none⟩) t L = ca at *
      generalize min wi (L - t) = m at *
      obtain ⟨u, hu⟩ : ∃ u, u = t + m := ⟨_, rfl⟩
      have wr : wrap64 ((t : Int) + (m : Int)) = (u : Int) := by unfold wrap64; omega
      rw [← hu] at HA
      have HU := Lib.hid hu; clear hu
      have WR := Lib.hid wr; clear wr

      gi_wp2
      refine Rb.wpIn_round_u (S := fun X => X.cell? ⟨w.heap.size + 1 + 1 + 1 + 1 + 1, 0, none⟩ = some (.int .i64 (t : Nat)) ∧ X.cell? ⟨w.heap.size + 1 + 1 + 1 + 1, 0, none⟩ = some (.slice (some ⟨w.heap.size + 1 + 1 + 1, 0, none⟩) L L)) (z := 7) (by kernel_rfl) (by kernel_rfl) ⟨c9, c8⟩ (fun hHeld => ?_)
      refine AnyU.take (i := 0) (p := 0) (oi := ⟨some 33, _, _, _, _, none⟩) (v := (.int .i64 (t : Nat))) rfl (by kernel_rfl) (Or.inl rfl) (by kernel_rfl) (by kernel_rfl) (by kernel_rfl) (by kernel_rfl) (fun _ _ _ h => h) (Or.inl ⟨by rfl, fun W hW => ?_⟩) (by assumption) ?_
      · (obtain ⟨h9, h8⟩ := hW; go_simp)
      simp only [Act.put, List.setIfInBounds_toArray, List.set_cons_zero, List.set_cons_succ]
      refine AnyU.take (i := 1) (p := 1) (oi := ⟨some 34, _, _, _, _, none⟩) (v := (.slice (some ⟨w.heap.size + 1 + 1 + 1, 0, none⟩) L L)) rfl (by kernel_rfl) (Or.inl rfl) (by kernel_rfl) (by kernel_rfl) (by kernel_rfl) (by kernel_rfl) (fun _ _ _ h => h) (Or.inl ⟨by rfl, fun W hW => ?_⟩) (by assumption) ?_
      · (obtain ⟨h9, h8⟩ := hW; go_simp)
      simp only [Act.put, List.setIfInBounds_toArray, List.set_cons_zero, List.set_cons_succ]
      refine AnyU.take (i := 2) (p := 2) (oi := ⟨some 35, _, _, _, _, none⟩) (v := (.int .i64 (t : Nat))) rfl (by kernel_rfl) (Or.inl rfl) (by kernel_rfl) (by kernel_rfl) (by kernel_rfl) (by kernel_rfl) (fun _ _ _ h => h) (Or.inl ⟨by rfl, fun W hW => ?_⟩) (by assumption) ?_
      · (obtain ⟨h9, h8⟩ := hW; go_simp)
      simp only [Act.put, List.setIfInBounds_toArray, List.set_cons_zero, List.set_cons_succ]
      refine AnyU.take (i := 3) (p := 3) (oi := ⟨some 36, _, _, _, _, none⟩) (v := (.slice ca (L - t) (L - t))) rfl (by kernel_rfl) (Or.inl rfl) (by kernel_rfl) (by kernel_rfl) (by kernel_rfl) (by kernel_rfl) (fun _ _ _ h => h) (Or.inl ⟨by rfl, fun W hW => ?_⟩) (by assumption) ?_
      · go_simp
      simp only [Act.put, List.setIfInBounds_toArray, List.set_cons_zero, List.set_cons_succ]
      refine AnyU.take (i := 4) (p := 4) (oi := ⟨some 37, _, _, _, _, none⟩) (v := (.slice (r y.i) wi (c y.i))) rfl (by kernel_rfl) (Or.inl rfl) (by kernel_rfl) (by kernel_rfl) (by kernel_rfl) (by kernel_rfl) (fun _ _ _ h => h) (Or.inl ⟨by rfl, fun W hW => ?_⟩) (by assumption) ?_
      · go_simp
      simp only [Act.put, List.setIfInBounds_toArray, List.set_cons_zero, List.set_cons_succ]
      refine AnyU.ready (rs := [5]) (by kernel_rfl) (by simp) (EachU.cons rfl (fun KK hKK => ?_) EachU.nil)
      go_simp
      refine hKK.out _ _ (fun _ => ⟨d9, HS6.out.b8.cell⟩) (fun hHeld => ?_)
      clear hKK KK
      try simp only [Act.put, List.setIfInBounds_toArray, List.set_cons_zero, List.set_cons_succ]
      have hHeld := hHeld (by decide)
      refine AnyU.take (i := 6) (p := 6) (oi := ⟨some 39, _, _, _, _, none⟩) (v := (.int .i64 (u : Nat))) rfl (by kernel_rfl) (Or.inl rfl) (by kernel_rfl) (by kernel_rfl) (by kernel_rfl) (by kernel_rfl) (fun _ _ _ h => h) (Or.inl ⟨by rfl, fun W hW => ?_⟩) (by assumption) ?_
      · (go_simp; rw [IntWalk.i64_left]; exact WR.out)
      simp only [Act.put, List.setIfInBounds_toArray, List.set_cons_zero, List.set_cons_succ]
      refine AnyU.ready (rs := [7]) (by kernel_rfl) (by simp) (EachU.cons rfl (fun KK hKK => ?_) EachU.nil)
      go_simp
      refine hKK.out _ _ (fun h => absurd rfl h) (fun hHeld => ?_)
      clear hKK KK
      try simp only [Act.put, List.setIfInBounds_toArray, List.set_cons_zero, List.set_cons_succ]
      refine AnyU.done (by kernel_rfl) ?_ _
      have hS7 := HS6.out.setAt u
      change KeepsFrom _ _ _ ∧ _ ∧ _
      refine ⟨(HK.out.trans (KeepsOthers.setCell _ _ _)).from _, fun g => ⟨?_, ?_, ?_, ?_⟩, fun x hx => ?_, ?_⟩
      · exact bx_past ((g.p.kept (grown_dr W 1 none) (by simp)).kept HGR.out (by intro e; injection e; omega)) (by omega)
      · exact bx_past ((g.r.kept (grown_dr W 1 none) (by simp)).kept HGR.out (by intro e; injection e; omega)) (by omega)
      · exact bx_past ((g.s.1.kept (grown_dr W 1 none) (by simp)).kept HGR.out (by intro e; injection e; omega)) (by omega)
      · exact HR.out.same hS7.be
      · rcases List.mem_append.1 hx with h | h
        · exact HP.out x h
        · rw [List.mem_singleton.1 h]; exact HLY.out
      · rw [show (pre ++ [y]).length = pre.length + 1 by simp, ← HA.out]
        exact hS7
    · have i1 : (((l y.i : Nat) : Int) != (wi : Int)) = true := by simp; omega
      have c4 := hS.b4.cell; have f4 := hS.b4.frozen
      have c5 : ∀ v, (W.setCell ⟨w.heap.size, 0, none⟩ v).cell? ⟨w.heap.size + 1, 0, none⟩ = some (.int .i64 0) := fun v => (bx_past hS.b5 (by omega)).cell
      have f5 : ∀ v, (W.setCell ⟨w.heap.size, 0, none⟩ v).frozen? ⟨w.heap.size + 1, 0, none⟩ = false := fun v => (bx_past hS.b5 (by omega)).frozen
      have HLY := Lib.hid hly
      have HS := Lib.hid hS
      clear hS hly
      gi_wp2
      exact ⟨((KeepsOthers.setCell _ _ _).trans (KeepsOthers.setCell _ _ _)).from _, rfl, ⟨y, by simp, HLY.out⟩, _, _, HS.out.told _ _⟩
  case done =>
    rintro D ys W hD hys ⟨hp, hS⟩ hK
    have hl : ys.length = n := by have := congrArg List.length hys; rwa [List.length_map, List.length_range] at this
    have hall : ∀ i, i < n → l i = wi := fun i hi => by
      have hm : i ∈ ys.map Tk.i := by rw [hys]; exact List.mem_range.2 hi
      obtain ⟨x, hx, rfl⟩ := List.mem_map.1 hm
      exact hp x hx
    have HS := Lib.hid (hS.congr (h' := jn f wi) (fun j hj => jpre_all f wi L ys hys HHI.out j hj)); have HALL := Lib.hid hall
    have c8 := hS.b8.cell; have c4 := hS.b4.cell; have f4 := hS.b4.frozen
    have c5 : ∀ v, (W.setCell ⟨w.heap.size, 0, none⟩ v).cell? ⟨w.heap.size + 1, 0, none⟩ = some (.int .i64 0) := fun v => (bx_past hS.b5 (by omega)).cell
    have f5 : ∀ v, (W.setCell ⟨w.heap.size, 0, none⟩ v).frozen? ⟨w.heap.size + 1, 0, none⟩ = false := fun v => (bx_past hS.b5 (by omega)).frozen
    clear hS hp hys hl hall
    gi_wp2
    have hK' := ((KeepsOthers.setCell W ⟨w.heap.size, 0, none⟩ (.slice (some ⟨w.heap.size + 1 + 1 + 1, 0, none⟩) L L)).trans (KeepsOthers.setCell _ ⟨w.heap.size + 1, 0, none⟩ (.int .i64 0))).same D _ hK rfl
    refine ⟨by simp, .inl ⟨_, _, rfl, run_takeDeferred hK', ?_⟩⟩
    have hF := (HS.out.told (.slice (some ⟨w.heap.size + 1 + 1 + 1, 0, none⟩) L L) 0).kep (grownBy_putObj' _ D (.deferred none)) (fun k e => by cases e; exact ⟨by omega, _, hK', rfl⟩)
    exact ⟨_, results_join rfl rfl hF.b4.cell hF.b5.cell, hF.be, Or.inr ⟨HALL.out, _, rfl, by omega, hF.bl⟩⟩
  case stop =>
    rintro D cc pre W hD _ ⟨rfl, ⟨x, hx, hne⟩, h', at', hS⟩ hK
    have HS := Lib.hid hS; have HNE := Lib.hid hne
    clear hS hne
    gi_wp2
    refine ⟨by simp, .inl ⟨_, _, rfl, run_takeDeferred hK, ?_⟩⟩
    have hF := HS.out.kep (grownBy_putObj' _ D (.deferred none)) (fun k e => by cases e; exact ⟨by omega, _, hK, rfl⟩)
    exact ⟨_, results_join rfl rfl hF.b4.cell hF.b5.cell, hF.be, Or.inl ⟨rfl, x.i, x.hi, HNE.out⟩⟩
end Go.Proofs.Ytmjbgfjjlgpieaa.Sp
