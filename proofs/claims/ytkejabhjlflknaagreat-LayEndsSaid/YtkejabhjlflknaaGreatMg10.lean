import Derived.Sort.QuietIn
import Derived.Test.YtkejabhjlflknaaGreatMg9
namespace Go.Proofs.YtkejabhjlflknaaGreat.Pf
open Gf
/-- the weights as they are made from behind: what stands, and the gaps behind. -/
def wst (P : Nat → Nat) (x : Nat) (h0 : Nat → Nat) (l : List Nat) : Nat × (Nat → Nat) :=
  l.foldl (fun s j => (mul s.1 (x ^^^ P j), fun i => if i = j then mul (s.2 j) s.1 else s.2 i)) (1, h0)
theorem wst_snoc (P : Nat → Nat) (x : Nat) (h0 : Nat → Nat) (l : List Nat) (j : Nat) : wst P x h0 (l ++ [j]) = (mul (wst P x h0 l).1 (x ^^^ P j), fun i => if i = j then mul ((wst P x h0 l).2 j) (wst P x h0 l).1 else (wst P x h0 l).2 i) := by
  unfold wst; rw [List.foldl_append]; rfl
theorem wst_by {P h0 : Nat → Nat} {x : Nat} (hP : By P) (hx : x < 256) (h : By h0) : ∀ l, (wst P x h0 l).1 < 256 ∧ By (wst P x h0 l).2 := by
  have : ∀ n, ∀ l : List Nat, l.length = n → (wst P x h0 l).1 < 256 ∧ By (wst P x h0 l).2 := by
    intro n
    induction n with
    | zero => intro l hl; rw [List.eq_nil_of_length_eq_zero hl]; exact ⟨by show 1 < 256; omega, h⟩
    | succ n ih =>
      intro l hl
      rcases List.eq_nil_or_concat l with rfl | ⟨i, y, rfl⟩
      · simp at hl
      · rw [List.concat_eq_append, wst_snoc]
        obtain ⟨h1, h2⟩ := ih i (by simpa using hl)
        refine ⟨mul_lt h1 (xor_lt hx (hP y)), fun k => ?_⟩
        show (if k = y then _ else _) < 256
        split
        · exact mul_lt (h2 y) h1
        · exact h2 k
  exact fun l => this _ l rfl
theorem wst_dnl {P h0 : Nat → Nat} {x n : Nat} (hP : By P) (hx : x < 256) : ∀ k, k ≤ n → (wst P x h0 (dnl n k)).1 = sgm P x (n - k) k ∧ ∀ i, (wst P x h0 (dnl n k)).2 i = if n - k ≤ i ∧ i < n then mul (h0 i) (sgm P x (i + 1) (n - 1 - i)) else h0 i
  | 0, _ => ⟨rfl, fun i => by rw [if_neg (by omega)]; rfl⟩
  | k + 1, hk => by
    obtain ⟨h1, h2⟩ := wst_dnl (h0 := h0) (n := n) hP hx k (by omega)
    rw [dnl_last (len := n) (k := k) (by omega), wst_snoc]
    refine ⟨?_, fun i => ?_⟩
    · show mul (wst P x h0 (dnl n k)).1 (x ^^^ P (n - 1 - k)) = _
      rw [h1]
      have := sgm_first hP hx (n - (k + 1)) k
      rw [this, show n - (k + 1) + 1 = n - k by omega, show n - (k + 1) = n - 1 - k by omega]
    · show (if i = n - 1 - k then mul ((wst P x h0 (dnl n k)).2 (n - 1 - k)) (wst P x h0 (dnl n k)).1 else (wst P x h0 (dnl n k)).2 i) = _
      by_cases e : i = n - 1 - k
      · rw [if_pos e, if_pos (by omega), h2, if_neg (by omega), h1, e, show n - 1 - k + 1 = n - k by omega, show n - 1 - (n - 1 - k) = k by omega]
      · rw [if_neg e, h2]
        by_cases c : n - k ≤ i ∧ i < n
        · rw [if_pos c, if_pos (by omega)]
        · rw [if_neg c, if_neg (by omega)]
/-- the first so many weights, ahead alone. -/
def hd0 (P : Nat → Nat) (n x k i : Nat) : Nat := if i < k then mul (sg P i n) (sgm P x 0 i) else 0
theorem hd0_by {P : Nat → Nat} (hP : By P) {x : Nat} (hx : x < 256) (n k : Nat) : By (hd0 P n x k) := fun i => by
  unfold hd0; split
  · exact mul_lt (sg_lt i n) (sgm_lt hP hx 0 i)
  · omega
theorem hd0_s (P : Nat → Nat) (n x k i : Nat) : (if i = k then mul (sg P k n) (sgm P x 0 k) else hd0 P n x k i) = hd0 P n x (k + 1) i := by
  unfold hd0
  by_cases e : i = k
  · subst e; rw [if_pos rfl, if_pos (by omega)]
  · rw [if_neg e]
    by_cases h : i < k
    · rw [if_pos h, if_pos (by omega)]
    · rw [if_neg h, if_neg (by omega)]
theorem wst_lw {P : Nat → Nat} (hP : By P) {x n : Nat} (hx : x < 256) {i : Nat} (hi : i < n) : (wst P x (hd0 P n x n) (dnl n n)).2 i = lw P n x i := by
  rw [(wst_dnl hP hx n (Nat.le_refl _)).2 i, if_pos (by omega), lw_made hP hx hi]
  unfold hd0; rw [if_pos hi]
end Go.Proofs.YtkejabhjlflknaaGreat.Pf
namespace Go.Proofs.YtkejabhjlflknaaGreat
open Go.RowKit Go.Shelf
attribute [local go_sem] Oper.semAt_some

theorem heap_kep {X Y : World} {row : Option Nat} {k : Nat} {cs : Array Value} {t : TypeId} {z : Nat × Nat} (h : X.heap[k]? = some (.cells cs t z)) (hg : X.grownBy Y row) (hr : ∀ r, row = some r → ∃ o : Obj, X.heap[r]? = some o ∧ o.isCells = false) : Y.heap[k]? = some (.cells cs t z) :=
  (hg.block k (Array.getElem?_eq_some_iff.1 h).1 (fun e => by obtain ⟨o, ho, hc⟩ := hr k e.symm; rw [h] at ho; cases ho; cases hc)).trans h
theorem Bl.kep {X Y : World} {row : Option Nat} {g n cap : Nat} {h : Nat → Nat} (hb : Bl X g n cap h) (hg : X.grownBy Y row) (hr : ∀ r, row = some r → ∃ o : Obj, X.heap[r]? = some o ∧ o.isCells = false) : Bl Y g n cap h := by
  obtain ⟨v, h1, h2, h3⟩ := hb
  exact ⟨v, heap_kep h1 hg hr, h2, h3⟩
theorem Rq.kep {X Y : World} {row : Option Nat} {B n cap : Nat} {a : Option Addr} {h : Nat → Nat} (r : Rq X B a n cap h) (hg : X.grownBy Y row) (hr : ∀ r, row = some r → ∃ o : Obj, X.heap[r]? = some o ∧ o.isCells = false) : Rq Y B a n cap h := by
  rcases r with r | ⟨g, e, h1, h2, h3, h4⟩
  · exact Or.inl r
  · exact Or.inr ⟨g, e, h1, h2.kep hg hr, h3, h4⟩
theorem IsField.kep {X Y : World} {row : Option Nat} {fb : Nat} (h : IsField fb X) (hg : X.grownBy Y row) (hr : ∀ r, row = some r → ∃ o : Obj, X.heap[r]? = some o ∧ o.isCells = false) : IsField fb Y := fun j hj =>
  ⟨cell_kept (h j hj).1 hg hr, (frozen_kept (h j hj).1 hg hr).trans (h j hj).2⟩
theorem Stn.kep {X Y : World} {row : Option Nat} {wb fb n cp m cs : Nat} {ap aq : Option Addr} {P S : Nat → Nat} (h : Stn X wb fb ap n cp aq m cs P S) (hg : X.grownBy Y row) (hr : ∀ r, row = some r → ∃ o : Obj, X.heap[r]? = some o ∧ o.isCells = false) : Stn Y wb fb ap n cp aq m cs P S :=
  ⟨heap_kep h.wl hg hr, h.pr.kep hg hr, h.sr.kep hg hr, h.ne, h.fi.kep hg hr, h.fl⟩
theorem bx_set {W : World} {b g i : Nat} {t : TypeId} {v u : Value} (h : Boxed W b t v) (hne : b ≠ g) : Boxed (W.setCell ⟨g, i, none⟩ u) b t v :=
  (heap_setCell_other W ⟨g, i, none⟩ b u hne).trans h
theorem Stn.lo {W W' : World} {H wb fb n cp m cs : Nat} {ap aq : Option Addr} {P S : Nat → Nat} (h : Stn W wb fb ap n cp aq m cs P S) (hB : Below H W W') (h1 : wb < H) (h2 : ∀ g, ap = some ⟨g, 0, none⟩ → g < H) (h3 : ∀ g, aq = some ⟨g, 0, none⟩ → g < H) : Stn W' wb fb ap n cp aq m cs P S :=
  ⟨h.wl.kept (hB.block wb h1), h.pr.kept (fun g e _ => hB.block g (h2 g e)), h.sr.kept (fun g e _ => hB.block g (h3 g e)), h.ne, h.fi.below hB (by have := h.fl; omega), h.fl⟩
theorem Good.of_rq {W : World} {B n cap : Nat} {a : Option Addr} {P : Nat → Nat} (r : Rq W B a n cap P) (hP : Pf.By P) {Bs : Nat} (hb : W.cell? ⟨Bs, 0, none⟩ = some (.slice a n cap)) : Good Bs a n cap (fun i v => v = P i) W :=
  ⟨hb, fun i hi => by
    obtain ⟨g, e, _, h2⟩ := r.at_ hi
    exact ⟨g, 0, P i, e, hP i, rfl, by rw [Nat.zero_add]; exact h2.cell hi⟩⟩

/-- the weights as they are made: the boxes, the row. -/
structure WgS (w W : World) (wb fb n : Nat) (ap : Option Addr) (cp : Nat) (aq : Option Addr) (cs : Nat) (P S h : Nat → Nat) (x u : Nat) : Prop where
  b0 : Boxed W w.heap.size 200 (.pointer (some ⟨wb, 0, none⟩))
  b1 : Boxed W (w.heap.size + 1) 5 (.int .u8 (x : Nat))
  bl : Bl W (w.heap.size + 1 + 1) n n h
  b3 : Boxed W (w.heap.size + 1 + 1 + 1) 50 (.slice (some ⟨w.heap.size + 1 + 1, 0, none⟩) n n)
  b4 : Boxed W (w.heap.size + 1 + 1 + 1 + 1) 5 (.int .u8 (u : Nat))
  st : Stn W wb fb ap n cp aq n cs P S
  be : Below w.heap.size w W
  l1 : wb < w.heap.size
  l2 : ∀ g, ap = some ⟨g, 0, none⟩ → g < w.heap.size
  l3 : ∀ g, aq = some ⟨g, 0, none⟩ → g < w.heap.size
section
variable {w W W' : World} {wb fb n cp cs : Nat} {ap aq : Option Addr} {P S h : Nat → Nat} {x u : Nat}
theorem WgS.same (s : WgS w W wb fb n ap cp aq cs P S h x u) (hB : Below W.heap.size W W') : WgS w W' wb fb n ap cp aq cs P S h x u :=
  ⟨(hB.block _ s.b0.lt).trans s.b0, (hB.block _ s.b1.lt).trans s.b1, s.bl.below hB s.bl.lt, (hB.block _ s.b3.lt).trans s.b3, (hB.block _ s.b4.lt).trans s.b4, s.st.same hB, s.be.trans (hB.mono s.be.size), s.l1, s.l2, s.l3⟩
theorem WgS.drewN (s : WgS w W wb fb n ap cp aq cs P S h x u) (q : Nat) : WgS w (W.drewN q) wb fb n ap cp aq cs P S h x u := s.same (below_dr (Below.refl _ _) q)
theorem WgS.setw (s : WgS w W wb fb n ap cp aq cs P S h x u) {j : Nat} (hj : j < n) (v : Nat) : WgS w (W.setCell ⟨w.heap.size + 1 + 1, j, none⟩ (.int .u8 (v : Nat))) wb fb n ap cp aq cs P S (fun i => if i = j then v else h i) x u :=
  ⟨bx_set s.b0 (by omega), bx_set s.b1 (by omega), s.bl.set hj v, bx_set s.b3 (by omega), bx_set s.b4 (by omega), s.st.lo ((Below.refl w.heap.size W).setCell (p := ⟨w.heap.size + 1 + 1, j, none⟩) (by simp; omega) _) s.l1 s.l2 s.l3, s.be.setCell (p := ⟨w.heap.size + 1 + 1, j, none⟩) (by simp; omega) _, s.l1, s.l2, s.l3⟩
theorem WgS.setu (s : WgS w W wb fb n ap cp aq cs P S h x u) (v : Nat) : WgS w (W.setCell ⟨w.heap.size + 1 + 1 + 1 + 1, 0, none⟩ (.int .u8 (v : Nat))) wb fb n ap cp aq cs P S h x v :=
  ⟨bx_set s.b0 (by omega), bx_set s.b1 (by omega), s.bl.kept (heap_setCell_other W ⟨w.heap.size + 1 + 1 + 1 + 1, 0, none⟩ _ _ (by simp)), bx_set s.b3 (by omega), heap_setCell_same W _ 0 _ _ _ s.b4, s.st.lo ((Below.refl w.heap.size W).setCell (p := ⟨w.heap.size + 1 + 1 + 1 + 1, 0, none⟩) (by simp; omega) _) s.l1 s.l2 s.l3, s.be.setCell (p := ⟨w.heap.size + 1 + 1 + 1 + 1, 0, none⟩) (by simp; omega) _, s.l1, s.l2, s.l3⟩
theorem WgS.congr {h' : Nat → Nat} (s : WgS w W wb fb n ap cp aq cs P S h x u) (he : ∀ i, i < n → h i = h' i) : WgS w W wb fb n ap cp aq cs P S h' x u := ⟨s.b0, s.b1, s.bl.congr he, s.b3, s.b4, s.st, s.be, s.l1, s.l2, s.l3⟩
/-- as the weights are begun. -/
theorem WgS.start (w : World) (hA : Stn w wb fb ap n cp aq n cs P S) : WgS w (((((w.alloc (.cells #[.pointer (some ⟨wb, 0, none⟩)] 200)).alloc (.cells #[.int .u8 (x : Nat)] 5)).alloc (.cells (madeCells #[.int .u8 0] n) 5)).alloc (.cells #[.slice (some ⟨w.heap.size + 1 + 1, 0, none⟩) n n] 50)).alloc (.cells #[.int .u8 (1 : Nat)] 5)) wb fb n ap cp aq cs P S (fun _ => 0) x 1 := by
  have hB : Below w.heap.size w (((((w.alloc (.cells #[.pointer (some ⟨wb, 0, none⟩)] 200)).alloc (.cells #[.int .u8 (x : Nat)] 5)).alloc (.cells (madeCells #[.int .u8 0] n) 5)).alloc (.cells #[.slice (some ⟨w.heap.size + 1 + 1, 0, none⟩) n n] 50)).alloc (.cells #[.int .u8 (1 : Nat)] 5)) :=
    ((((((Below.refl _ w).alloc (Nat.le_refl _) _).alloc (by simp) _).alloc (by simp; omega) _).alloc (by simp; omega) _).alloc (by simp; omega) _)
  have b0 := (((((Boxed.new w 200 (.pointer (some ⟨wb, 0, none⟩))).alloc (.cells #[.int .u8 (x : Nat)] 5)).alloc (.cells (madeCells #[.int .u8 0] n) 5)).alloc (.cells #[.slice (some ⟨w.heap.size + 1 + 1, 0, none⟩) n n] 50)).alloc (.cells #[.int .u8 (1 : Nat)] 5))
  have b1 := ((((Boxed.new (w.alloc (.cells #[.pointer (some ⟨wb, 0, none⟩)] 200)) 5 (.int .u8 (x : Nat))).alloc (.cells (madeCells #[.int .u8 0] n) 5)).alloc (.cells #[.slice (some ⟨w.heap.size + 1 + 1, 0, none⟩) n n] 50)).alloc (.cells #[.int .u8 (1 : Nat)] 5))
  have b2 := (bl_made ((w.alloc (.cells #[.pointer (some ⟨wb, 0, none⟩)] 200)).alloc (.cells #[.int .u8 (x : Nat)] 5)) n)
  have b3 := ((Boxed.new (((w.alloc (.cells #[.pointer (some ⟨wb, 0, none⟩)] 200)).alloc (.cells #[.int .u8 (x : Nat)] 5)).alloc (.cells (madeCells #[.int .u8 0] n) 5)) 50 (.slice (some ⟨w.heap.size + 1 + 1, 0, none⟩) n n)).alloc (.cells #[.int .u8 (1 : Nat)] 5))
  have b4 := Boxed.new ((((w.alloc (.cells #[.pointer (some ⟨wb, 0, none⟩)] 200)).alloc (.cells #[.int .u8 (x : Nat)] 5)).alloc (.cells (madeCells #[.int .u8 0] n) 5)).alloc (.cells #[.slice (some ⟨w.heap.size + 1 + 1, 0, none⟩) n n] 50)) 5 (.int .u8 (1 : Nat))
  simp only [World.size_alloc] at b1 b2 b3 b4
  refine ⟨b0, b1, b2.kept ?_, b3, b4, hA.same hB, hB, hA.wl.lt, fun g e => (hA.pr.lt g e).2, fun g e => (hA.sr.lt g e).2⟩
  rw [Below.heap_alloc _ _ _ (by simp), Below.heap_alloc _ _ _ (by simp)]
theorem WgS.own {H Bs n : Nat} {v : Value} {t : TypeId} (h0 : w.heap.size ≤ H) {β : Type} (R : β → Nat → Nat) (U : β → Nat) : OwnFrom H (fun (s : β) W => WgS w W wb fb n ap cp aq cs P S (R s) x (U s) ∧ Boxed W Bs t v) := fun s X Y row h hg hr => by
  have hr' : ∀ r, row = some r → ∃ o : Obj, X.heap[r]? = some o ∧ o.isCells = false := fun r e => (hr r e).2
  obtain ⟨h, hb⟩ := h
  exact ⟨⟨heap_kep h.b0 hg hr', heap_kep h.b1 hg hr', h.bl.kep hg hr', heap_kep h.b3 hg hr', heap_kep h.b4 hg hr', h.st.kep hg hr', h.be.grown hg h.be.size (fun k e => Nat.le_trans h0 (hr k e).1), h.l1, h.l2, h.l3⟩, heap_kep hb hg hr'⟩
end

set_option maxHeartbeats 4000000 in
set_option maxRecDepth 100000 in
theorem weights_any (wb fb n x : Nat) (hx : x < 256) (ap aq : Option Addr) (cp cs : Nat) (P : Nat → Nat) (hP : Pf.By P) (hn : n ≤ 1000000) (w : World) (hA : Stn w wb fb ap n cp aq n cs P (fun i => Pf.sg P i n)) :
    Calls Tryz.prog 98 #[.pointer (some ⟨wb, 0, none⟩), .int .u8 (x : Nat)] w fun e w' => e = .returned (.slice (some ⟨w.heap.size + 1 + 1, 0, none⟩) n n) ∧ Bl w' (w.heap.size + 1 + 1) n n (Pf.lw P n x) ∧ Below w.heap.size w w' := by
  refine (callsIn_wide (n := 6)).1 ?_
  have hW : ∀ k, Fence.wide.fn k := fun _ => trivial
  have hD : Fence.wide.depth = none := rfl
  have hmk := hmk8 n (by omega)
  have hwl := hA.wl.lt
  have w1 : ∀ o1 o2, ((w.alloc o1).alloc o2).cell? ⟨wb, 1, none⟩ = some (.slice ap n cp) := fun o1 o2 => by
    rw [World.cell?_alloc_lt _ _ _ (by simp; omega), World.cell?_alloc_lt _ _ _ (by simp; omega)]; exact hA.wl.c1
  have w2 : ∀ o1 o2 o3 o4 o5, (((((w.alloc o1).alloc o2).alloc o3).alloc o4).alloc o5).cell? ⟨wb, 1, none⟩ = some (.slice ap n cp) := fun o1 o2 o3 o4 o5 => by
    rw [World.cell?_alloc_lt _ _ _ (by simp; omega), World.cell?_alloc_lt _ _ _ (by simp; omega), World.cell?_alloc_lt _ _ _ (by simp; omega), w1]
  have HA := Lib.hid hA; have HP := Lib.hid hP
  clear hA hP
  refine callsIn_of_wp_marks Tryz.func98 rfl trivial ?_ rfl
  simp only [Tryz.ntmps98, List.size_toArray, List.length_cons, List.length_nil, Nat.reduceAdd, Nat.reduceSub, Array.replicate_succ, Array.replicate_zero, List.push_toArray, List.append_toArray, List.nil_append, List.cons_append]
  gi_wp2
  have hS0 := WgS.start (x := x) w HA.out
  have hB0 := hS0.be
  clear w1 w2 hmk
  generalize (((((w.alloc (.cells #[.pointer (some ⟨wb, 0, none⟩)] 200)).alloc (.cells #[.int .u8 (x : Nat)] 5)).alloc (.cells (madeCells #[.int .u8 0] n) 5)).alloc (.cells #[.slice (some ⟨w.heap.size + 1 + 1, 0, none⟩) n n] 50)).alloc (.cells #[.int .u8 1] 5)) = W5 at *
  have HS0 := Lib.hid hS0; clear hS0 hB0
  gi_loopw [6, 23] (fun s i wr => ∃ k : Nat, k ≤ n ∧ i = .int .i64 k ∧ s = .int .u8 (Pf.sgm P x 0 k : Nat) ∧ WgS w wr wb fb n ap cp aq cs P (fun i => Pf.sg P i n) (Pf.hd0 P n x k) x 1) (fun _ i _ => n - (intOf i).toNat)
  case atStart => exact ⟨0, by omega, rfl, rfl, HS0.out.congr fun i _ => by unfold Pf.hd0; rw [if_neg (by omega)]⟩
  case round =>
    clear HS0
    obtain ⟨k, hk, rfl, rfl, hS⟩ := hrel
    by_cases hlt : k < n
    · obtain ⟨gp, ep, hgp, hbp⟩ := hS.st.pr.at_ hlt
      obtain ⟨gq, eq, hgq, hbq⟩ := hS.st.sr.at_ hlt
      have cp1 := hbp.cell hlt
      have cq1 := hbq.cell hlt
      have z0 := hS.b0.cell; have z1 := hS.b1.cell; have z3 := hS.b3.cell; have y0 := hS.st.wl.c0; have y2 := hS.st.wl.c2
      have yw := hS.bl.cell hlt
      have yf := hS.bl.free k
      have FI := Lib.hid hS.st.fi
      have HS := Lib.hid hS
      have EP := Lib.hid (show ap = some ⟨gp, 0, none⟩ from ep)
      have EQ := Lib.hid (show aq = some ⟨gq, 0, none⟩ from eq)
      rw [eq] at y2
      subst ep
      clear hS hbp hbq eq
      have d1 := HP.out k
      have d2 := Gf.xor_lt hx d1
      have d3 := Pf.sg_lt (P := P) k n
      have d4 := Pf.sgm_lt HP.out hx 0 k
      have HH := Lib.hid (fun i => Pf.hd0_s P n x k i)
      have HG := Lib.hid (show Gf.mul (Pf.sgm P x 0 k) (x ^^^ P k) = Pf.sgm P x 0 (k + 1) from by show _ = Gf.mul (Pf.sgm P x 0 k) (x ^^^ P (0 + k)); rw [Nat.zero_add])
      have i2 : (k : Int) < (n : Int) := by omega
      generalize Pf.hd0 P n x k k = hk0 at yw
      gi_wp2
      refine Rb.wpIn_wide_quiet_tail (C := fun w' => ∃ q, w' = wr.drewN q) 16 (by kernel_rfl) (by kernel_rfl) (by kernel_rfl) ⟨1, rfl⟩ ?_
      simp only [List.take_succ_cons, List.take_zero, List.drop_succ_cons, List.drop_zero]
      repeat (go_big_quiet_step ((go_at_call 121; exact Calls.quiet_of (mul_nat fb (Pf.sg P k n) (Pf.sgm P x 0 k) d3 d4 _ (FI.out.drewN _)))))
      refine wpQuiet_nil ?_
      rintro _ ⟨k2, rfl⟩
      have hS2 := ((HS.out.drewN k2).setw hlt (Gf.mul (Pf.sg P k n) (Pf.sgm P x 0 k))).congr (h' := Pf.hd0 P n x (k + 1)) (fun i _ => HH.out i)
      gi_wp2
      clear cp1 cq1 z0 z1 z3 y0 y2 yw yf FI HS
      generalize (wr.drewN k2).setCell ⟨w.heap.size + 1 + 1, k, none⟩ (.int .u8 (Gf.mul (Pf.sg P k n) (Pf.sgm P x 0 k) : Nat)) = w7 at *
      have z0 := hS2.b0.cell; have z1 := hS2.b1.cell; have y0 := hS2.st.wl.c0
      have FI := Lib.hid hS2.st.fi
      have HS := Lib.hid hS2
      clear hS2
      refine Rb.wpIn_wide_quiet (C := fun w' => ∃ q, w' = w7.drewN q) (by kernel_rfl) (by kernel_rfl) (by kernel_rfl) ⟨1, rfl⟩ ?_
      repeat (go_big_quiet_step ((first | (go_at_call 121; exact Calls.quiet_of (mul_nat fb (Pf.sgm P x 0 k) (x ^^^ P k) d4 d2 _ (FI.out.drewN _))) | (go_at_call 120; exact Calls.quiet_of_same (add_nat x (P k) hx d1 _)))))
      refine wpQuiet_nil ?_
      rintro _ ⟨nq, rfl⟩
      gi_wp2
      go_roundw
      case rel => exact ⟨k + 1, by omega, by go_num, by rw [HG.out], HS.out.drewN nq⟩
      case measure => simp [intOf]; omega
    · obtain rfl : k = n := by omega
      have z0 := hS.b0.cell; have y1 := hS.st.wl.c1
      have HS := Lib.hid hS; clear hS
      gi_wp2_with (gi_at_call 122; refine (back_in _ _ _ _ _).mono ?_; rintro e w' ⟨rfl, rfl⟩)
      clear z0 y1 hlt
      have hal : Below wr.heap.size wr (wr.alloc (.cells #[.slice ap k cp] 50)) := (Below.refl _ wr).alloc (Nat.le_refl _) _
      have hS1 := HS.out.same hal
      have b5 : Boxed (wr.alloc (.cells #[.slice ap k cp] 50)) wr.heap.size 50 (.slice ap k cp) := Boxed.new wr 50 (.slice ap k cp)
      have hG := Good.of_rq hS1.st.pr HP.out b5.cell
      have hsz := HS.out.be.size
      have h5 : w.heap.size + 1 + 1 + 1 + 1 < wr.heap.size := HS.out.b4.lt
      refine' wpIn_rangeFunc_ownG rfl (by omega) (gf := 140) (lb := #[.pointer (some ⟨wr.heap.size, 0, none⟩)]) rfl trivial (enters_of Tryz.func140 (by kernel_rfl) rfl)
        (back_stops _ (by omega) wr.heap.size ap k cp (fun i v => v = P i) (by omega) _ (by simp) hG) kpG_t kpG_b (Below.refl _ _) (fun _ => rfl)
        (fun pre W => WgS w W wb fb k ap cp aq cs P (fun i => Pf.sg P i k) (Pf.wst P x (Pf.hd0 P k x k) (pre.map It.i)).2 x (Pf.wst P x (Pf.hd0 P k x k) (pre.map It.i)).1 ∧ Boxed W wr.heap.size 50 (.slice ap k cp))
        (fun _ _ _ => False)
        (fun s X Y row hs hg hr => WgS.own (h0 := Nat.le_refl w.heap.size) (fun pre : List (It k (fun i v => v = P i)) => (Pf.wst P x (Pf.hd0 P k x k) (pre.map It.i)).2) (fun pre => (Pf.wst P x (Pf.hd0 P k x k) (pre.map It.i)).1) s X Y row hs hg (fun r e => ⟨by have := (hr r e).1; simp at this; omega, (hr r e).2⟩))
        (fun _ _ _ _ _ hs _ _ => hs)
        ⟨hS1, b5⟩
        _ ?assign ?body ?done ?stop
      case assign =>
        intro l y W K hK
        unfold It.enc
        gi_wp2
        exact hK
      case body =>
        rintro l pre y W ⟨hS, hb5⟩ _
        clear b5 hG hS1 hal HS
        have hby := Pf.wst_by HP.out hx (Pf.hd0_by HP.out hx k k) (pre.map It.i)
        have hsn := Pf.wst_snoc P x (Pf.hd0 P k x k) (pre.map It.i) y.i
        rw [show pre.map It.i ++ [y.i] = (pre ++ [y]).map It.i by simp] at hsn
        have HSN := Lib.hid hsn; clear hsn
        generalize Pf.wst P x (Pf.hd0 P k x k) (pre.map It.i) = s at *
        have hyi := y.hi
        have hyv := y.hok
        have hyw := y.hv
        generalize y.v = yv at *
        subst hyv
        generalize y.i = j at *
        have z0 := hS.b0.cell; have z1 := hS.b1.cell; have z3 := hS.b3.cell; have z4 := hS.b4.cell; have y0 := hS.st.wl.c0
        have yw := hS.bl.cell hyi
        have yf := hS.bl.free j
        have FI := Lib.hid hS.st.fi
        have HS := Lib.hid hS; have HB5 := Lib.hid hb5
        clear hS hb5
        obtain ⟨hb1, hb2⟩ := hby
        have d1 := hb2 j
        have d2 := Gf.xor_lt hx hyw
        have HB2 := Lib.hid hb2; clear hb2
        have HGV := Lib.hid (show s.2 j = s.2 j from rfl)
        generalize hsj : s.2 j = sj at *
        have HSJ := Lib.hid hsj; clear hsj HGV
        have i2 : (j : Int) < (k : Int) := by omega
        gi_wp2
        refine Rb.wpIn_round_quiet_tail 13 (by kernel_rfl) (by kernel_rfl) (by kernel_rfl) ?_
        simp only [List.take_succ_cons, List.take_zero, List.drop_succ_cons, List.drop_zero]
        repeat (go_big_quiet_step ((go_at_call 121; exact Calls.quiet_of (mul_nat fb sj s.1 d1 hb1 _ (FI.out.drewN _)))))
        refine wpQuiet_nil ?_
        rintro _ ⟨k2, rfl⟩
        have hS2 := (HS.out.drewN k2).setw hyi (Gf.mul sj s.1)
        have hb52 : Boxed ((W.drewN k2).setCell ⟨w.heap.size + 1 + 1, j, none⟩ (.int .u8 (Gf.mul sj s.1 : Nat))) wr.heap.size 50 (.slice ap k cp) := bx_set HB5.out (by omega)
        have hK2 := KeepsOthers.trans (keeps_drewN W k2) (KeepsOthers.setCell (W.drewN k2) ⟨w.heap.size + 1 + 1, j, none⟩ (.int .u8 (Gf.mul sj s.1 : Nat)))
        gi_wp2
        clear z0 z1 z3 z4 y0 yw yf FI HS HB5
        generalize (W.drewN k2).setCell ⟨w.heap.size + 1 + 1, j, none⟩ (.int .u8 (Gf.mul sj s.1 : Nat)) = w7 at *
        have z0 := hS2.b0.cell; have z1 := hS2.b1.cell; have z4 := hS2.b4.cell; have y0 := hS2.st.wl.c0; have f4 := hS2.b4.frozen
        have FI := Lib.hid hS2.st.fi
        have HS := Lib.hid hS2; have HB5 := Lib.hid hb52; have HK := Lib.hid hK2
        clear hS2 hb52 hK2
        refine Rb.wpIn_round_quiet_tail 9 (by kernel_rfl) (by kernel_rfl) (by kernel_rfl) ?_
        simp only [List.take_succ_cons, List.take_zero, List.drop_succ_cons, List.drop_zero]
        repeat (go_big_quiet_step ((first | (go_at_call 121; exact Calls.quiet_of (mul_nat fb s.1 (x ^^^ P j) hb1 d2 _ (FI.out.drewN _))) | (go_at_call 120; exact Calls.quiet_of_same (add_nat x (P j) hx hyw _)))))
        refine wpQuiet_nil ?_
        rintro _ ⟨k3, rfl⟩
        have hS3 := (HS.out.drewN k3).setu (Gf.mul s.1 (x ^^^ P j))
        have hb53 : Boxed ((w7.drewN k3).setCell ⟨w.heap.size + 1 + 1 + 1 + 1, 0, none⟩ (.int .u8 (Gf.mul s.1 (x ^^^ P j) : Nat))) wr.heap.size 50 (.slice ap k cp) := bx_set HB5.out (by omega)
        have hK3 := KeepsOthers.trans HK.out (KeepsOthers.trans (keeps_drewN w7 k3) (KeepsOthers.setCell (w7.drewN k3) ⟨w.heap.size + 1 + 1 + 1 + 1, 0, none⟩ (.int .u8 (Gf.mul s.1 (x ^^^ P j) : Nat))))
        gi_wp2
        generalize (w7.drewN k3).setCell ⟨w.heap.size + 1 + 1 + 1 + 1, 0, none⟩ (.int .u8 (Gf.mul s.1 (x ^^^ P j) : Nat)) = w8 at *
        refine ⟨hK3.from _, fun _ => Good.of_rq hS3.st.pr HP.out hb53.cell, ?_, hb53⟩
        rw [HSN.out]
        exact hS3.congr fun i _ => rfl
      case done =>
        rintro D ys W hD hys ⟨hS, hb5⟩ hK
        clear b5 hG hS1 hal HS
        have hfin := fun i (hi : i < k) => Pf.wst_lw HP.out hx (n := k) hi
        rw [← hys] at hfin
        have z3 := hS.b3.cell
        have HS := Lib.hid hS; have HF := Lib.hid hfin
        clear hS hb5 hys hfin
        gi_wp2
        refine ⟨by simp, .inl ⟨_, _, rfl, run_takeDeferred hK, ?_⟩⟩
        exact ⟨_, results_tmp rfl _ _ _, rfl, (HS.out.bl.congr HF.out).kep (grownBy_putObj' _ D _) (fun r e => by cases e; exact ⟨_, hK, rfl⟩), HS.out.be.trans (belowK_b (w := w) (Nat.le_refl _) W D _ _ (by simp at hD; omega) hK rfl rfl)⟩
      case stop =>
        rintro D c pre W _ _ h _
        exact h.elim
end Go.Proofs.YtkejabhjlflknaaGreat
