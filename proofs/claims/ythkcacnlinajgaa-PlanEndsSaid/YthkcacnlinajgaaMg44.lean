import Derived.Deep.RegionHeld3
import Derived.BigQuiet
import Derived.BigRegion
import Derived.Test.YthkcacnlinajgaaMg43
namespace Go.Proofs.Ythkcacnlinajgaa.Pn
open Go.RowKit Go.Shelf
open Go.Proofs.Ythkcacnlinajgaa.Sz (RB roomI FitP bV)
open Go.Proofs.Ythkcacnlinajgaa.Wg (BoSays BoSays.same blk_si hi_own SmI sameInts_any own_below fourB)
attribute [local go_sem] Oper.semAt_some

/-- a row's block. -/
theorem own_blk13 {w : World} {B m c : Nat} {a : Option Addr} {xs : List Value} (h : w.ownsRow B 3 1 (.slice a m c) m xs) : ∀ g, Ai.blk a = some g → B ≤ g ∧ g < w.heap.size := fun g hg => h.lt g (by rw [Ai.own_blk]; exact hg)
def ra (g1 g2 g3 : Nat) (a : Option Addr) (i : Nat) : Option Addr := if i = 0 then some ⟨g1, 0, none⟩ else if i = 1 then some ⟨g2, 0, none⟩ else if i = 2 then some ⟨g3, 0, none⟩ else a
def rl (l v m k : Nat) (i : Nat) : Nat := if i = 0 then l else if i = 1 then v else if i = 2 then m else k
def rh (L V W K : Nat → Int) (i : Nat) : Nat → Int := if i = 0 then L else if i = 1 then V else if i = 2 then W else K
theorem four_i {i : Nat} (h : i < 4) : i = 0 ∨ i = 1 ∨ i = 2 ∨ i = 3 := by omega
theorem bag_four {w : World} {B g1 g2 g3 nl nv nm m c : Nat} {a : Option Addr} {L V W K : Nat → Int} (h1 : Block w g1 (lentI L nl 12) 3) (h2 : Block w g2 (lentI V nv 12) 3) (h3 : Block w g3 (lentI W nm 12) 3) (h4 : w.ownsRow B 3 1 (.slice a m c) m (inh K m)) (b1 : B ≤ g1) (b2 : B ≤ g2) (b3 : B ≤ g3) (n1 : nl ≤ 1000) (n2 : nv ≤ 1000) (n3 : nm ≤ 1000) :
    Ai.Bag (w.alloc (.cells #[.slice (some ⟨g1, 0, none⟩) nl (nl + 12), .slice (some ⟨g2, 0, none⟩) nv (nv + 12), .slice (some ⟨g3, 0, none⟩) nm (nm + 12), .slice a m c] 24)) B w.heap.size 4 (ra g1 g2 g3 a) (rl nl nv nm m) (rl nl nv nm m) (rl (nl + 12) (nv + 12) (nm + 12) c) (rh L V W K) := by
  have hB : Below w.heap.size w (w.alloc (.cells #[.slice (some ⟨g1, 0, none⟩) nl (nl + 12), .slice (some ⟨g2, 0, none⟩) nv (nv + 12), .slice (some ⟨g3, 0, none⟩) nm (nm + 12), .slice a m c] 24)) := (Below.refl _ w).alloc (Nat.le_refl _) _
  refine ⟨fun k hk => ?_, fun k hk => ?_⟩
  · rw [cell_of_row _ w.heap.size k _ _ _ (heap_alloc_new w _)]
    rcases four_i hk with rfl | rfl | rfl | rfl <;> rfl
  · rcases four_i hk with rfl | rfl | rfl | rfl
    · exact lent_own (n := nl) (h1.same hB) b1 (by omega)
    · exact lent_own (n := nv) (h2.same hB) b2 (by omega)
    · exact lent_own (n := nm) (h3.same hB) b3 (by omega)
    · exact own_below h4 hB
theorem sep_four {g1 g2 g3 : Nat} {a : Option Addr} (h1 : g1 < g2) (h2 : g2 < g3) (h3 : ∀ g, Ai.blk a = some g → g3 < g) : Ai.Sep (ra g1 g2 g3 a) 4 := by
  intro i j hi hj hij
  have b0 : Ai.blk (ra g1 g2 g3 a 0) = some g1 := rfl
  have b1 : Ai.blk (ra g1 g2 g3 a 1) = some g2 := rfl
  have b2 : Ai.blk (ra g1 g2 g3 a 2) = some g3 := rfl
  have b3 : Ai.blk (ra g1 g2 g3 a 3) = Ai.blk a := rfl
  rcases four_i hi with rfl | rfl | rfl | rfl <;> rcases four_i hj with rfl | rfl | rfl | rfl <;> simp only [b0, b1, b2, b3] <;> first
    | exact absurd rfl hij
    | (right; intro e; simp at e; omega)
    | (right; intro e; have := h3 _ e.symm; omega)
    | (cases h : Ai.blk a with
       | none => exact Or.inl rfl
       | some x => exact Or.inr fun e => by have := h3 x h; cases e; omega)
theorem _root_.Go.Proofs.Ythkcacnlinajgaa.Block.lt13 {w : World} {g : Nat} {vs : List Value} {e : TypeId} (h : Block w g vs e) : g < w.heap.size := (Array.getElem?_eq_some_iff.1 h).1
/-- what is lent, and what has not changed. -/
def S13 (w0 W : World) (g1 g2 g3 nl nv nm : Nat) (L V Wt : Nat → Int) : Prop := Below w0.heap.size w0 W ∧ Block W g1 (lentI L nl 12) 3 ∧ Block W g2 (lentI V nv 12) 3 ∧ Block W g3 (lentI Wt nm 12) 3
theorem S13.same {w0 W W' : World} {g1 g2 g3 nl nv nm : Nat} {L V Wt : Nat → Int} (h : S13 w0 W g1 g2 g3 nl nv nm L V Wt) (hB : Below W.heap.size W W') : S13 w0 W' g1 g2 g3 nl nv nm L V Wt :=
  ⟨h.1.trans (hB.mono h.1.size), h.2.1.same hB, h.2.2.1.same hB, h.2.2.2.same hB⟩
theorem rl_le {l v m k : Nat} (h1 : l ≤ 700) (h2 : v ≤ 700) (h3 : m ≤ 700) (h4 : k ≤ 8) (i : Nat) : rl l v m k i ≤ 1000000 := by
  unfold rl
  split
  · omega
  · split
    · omega
    · split <;> omega
theorem share {X G : Prop} (f : G → X) (g : G) : X := f g
theorem TAt.free {W : World} {g : Nat} {t : TypeId} {N M B : Int} {la va wa : Option Addr} {nl lc nv vc nm wc : Nat} (h : TAt W g t N M B la nl lc va nv vc wa nm wc) (i : Nat) : W.frozen? ⟨g, i, none⟩ = false := frozen_of_row W g i _ _ h
theorem put_six {W : World} {g : Nat} {t : TypeId} {a0 a1 a2 a3 a4 a5 : Value} (h : W.heap[g]? = some (.cells #[a0, a1, a2, a3, a4, a5] t (0, 0))) (v0 v1 v2 v3 v4 v5 : Value) : ((((((W.setCell ⟨g, 0, none⟩ v0).setCell ⟨g, 1, none⟩ v1).setCell ⟨g, 2, none⟩ v2).setCell ⟨g, 3, none⟩ v3).setCell ⟨g, 4, none⟩ v4).setCell ⟨g, 5, none⟩ v5).heap[g]? = some (.cells #[v0, v1, v2, v3, v4, v5] t (0, 0)) := by
  have e0 : (W.setCell ⟨g, 0, none⟩ v0).heap[g]? = some (.cells #[v0, a1, a2, a3, a4, a5] t (0, 0)) := heap_setCell_same W g 0 _ _ _ h
  have e1 : ((W.setCell ⟨g, 0, none⟩ v0).setCell ⟨g, 1, none⟩ v1).heap[g]? = some (.cells #[v0, v1, a2, a3, a4, a5] t (0, 0)) := heap_setCell_same _ g 1 _ _ _ e0
  have e2 : (((W.setCell ⟨g, 0, none⟩ v0).setCell ⟨g, 1, none⟩ v1).setCell ⟨g, 2, none⟩ v2).heap[g]? = some (.cells #[v0, v1, v2, a3, a4, a5] t (0, 0)) := heap_setCell_same _ g 2 _ _ _ e1
  have e3 : ((((W.setCell ⟨g, 0, none⟩ v0).setCell ⟨g, 1, none⟩ v1).setCell ⟨g, 2, none⟩ v2).setCell ⟨g, 3, none⟩ v3).heap[g]? = some (.cells #[v0, v1, v2, v3, a4, a5] t (0, 0)) := heap_setCell_same _ g 3 _ _ _ e2
  have e4 : (((((W.setCell ⟨g, 0, none⟩ v0).setCell ⟨g, 1, none⟩ v1).setCell ⟨g, 2, none⟩ v2).setCell ⟨g, 3, none⟩ v3).setCell ⟨g, 4, none⟩ v4).heap[g]? = some (.cells #[v0, v1, v2, v3, v4, a5] t (0, 0)) := heap_setCell_same _ g 4 _ _ _ e3
  exact heap_setCell_same _ g 5 _ _ _ e4
theorem below_six {X : Nat} {a W : World} {g : Nat} (h : Below X a W) (hg : X ≤ g) (v0 v1 v2 v3 v4 v5 : Value) : Below X a ((((((W.setCell ⟨g, 0, none⟩ v0).setCell ⟨g, 1, none⟩ v1).setCell ⟨g, 2, none⟩ v2).setCell ⟨g, 3, none⟩ v3).setCell ⟨g, 4, none⟩ v4).setCell ⟨g, 5, none⟩ v5) :=
  (((((h.setCell (p := ⟨g, 0, none⟩) hg v0).setCell (p := ⟨g, 1, none⟩) hg v1).setCell (p := ⟨g, 2, none⟩) hg v2).setCell (p := ⟨g, 3, none⟩) hg v3).setCell (p := ⟨g, 4, none⟩) hg v4).setCell (p := ⟨g, 5, none⟩) hg v5
theorem kept_six {W : World} {g x : Nat} {vs : List Value} {e : TypeId} (h : Block W x vs e) (hne : x ≠ g) (v0 v1 v2 v3 v4 v5 : Value) : Block ((((((W.setCell ⟨g, 0, none⟩ v0).setCell ⟨g, 1, none⟩ v1).setCell ⟨g, 2, none⟩ v2).setCell ⟨g, 3, none⟩ v3).setCell ⟨g, 4, none⟩ v4).setCell ⟨g, 5, none⟩ v5) x vs e := by
  have k : ∀ (U : World) (i : Nat) (v : Value), (U.setCell ⟨g, i, none⟩ v).heap[x]? = U.heap[x]? := fun U i v => Below.heap_setCell U ⟨g, i, none⟩ v x hne
  refine Eq.trans ?_ h
  rw [k, k, k, k, k, k]
/-- three rows lent, and the task over them. -/
structure Rdy (w0 W : World) (g1 g2 g3 gz : Nat) (t : TypeId) (N M B : Int) (nl nv nm : Nat) (L V Wt : Nat → Int) : Prop where
  lo : w0.heap.size ≤ g1
  l1 : g1 < g2
  l2 : g2 < g3
  be : Below w0.heap.size w0 W
  b1 : Block W g1 (lentI L nl 12) 3
  b2 : Block W g2 (lentI V nv 12) 3
  b3 : Block W g3 (lentI Wt nm 12) 3
  ta : TAt W gz t N M B (some ⟨g1, 0, none⟩) nl (nl + 12) (some ⟨g2, 0, none⟩) nv (nv + 12) (some ⟨g3, 0, none⟩) nm (nm + 12)
set_option maxHeartbeats 16000000 in
set_option maxRecDepth 100000 in
theorem planBest_any (hri : PRight) (hbe : PBest) (hsc : PScore) (N M B : Int) (la va wa : Option Addr) (nl lc nv vc nm wc : Nat) (L V W : Nat → Int) (h1 : nl ≤ 140737488355328) (h2 : nv ≤ 140737488355328) (h3 : nm ≤ 140737488355328) (w : World) (hL : Hi w la nl lc L) (hV : Hi w va nv vc V) (hW : Hi w wa nm wc W) :
    Calls Try.prog 3 #[tV N M B la nl lc va nv vc wa nm wc] w fun e w' => e = .returned (.bool true) ∧ Below w.heap.size w w' := by
  have HL := Lib.hid hL; have HV := Lib.hid hV; have HW := Lib.hid hW
  have HAW := Lib.hid (awake13_any hbe)
  have HRI := Lib.hid (fun (a b c : Option Addr) (d e f : Nat) w hL hV hW => hri N M B a b c nl d nv e nm f L V W h1 h2 h3 w hL hV hW)
  have HBE := Lib.hid (fun (a b c : Option Addr) (d e f : Nat) w hL hV hW => hbe N M B a b c nl d nv e nm f L V W h1 h2 h3 w hL hV hW)
  have HSC := Lib.hid (fun (a b c : Option Addr) (d e f : Nat) w hL hV hW => hsc N M B a b c nl d nv e nm f L V W h1 h2 h3 w hL hV hW)
  have HRR := Lib.hid (fun w hL hV hW => rtr_any N M B la va wa nl lc nv vc nm wc L V W h1 h2 h3 w hL hV hW)
  have HRB := Lib.hid (fun w hL hV hW => rbest_any N M B la va wa nl lc nv vc nm wc L V W h1 h2 h3 w hL hV hW)
  have HRS := Lib.hid (fun w hL hV hW => rbscore_any N M B la va wa nl lc nv vc nm wc L V W h1 h2 h3 w hL hV hW)
  have HTH := Lib.hid (fun w => theirs13_any N M B la va wa nl lc nv vc nm wc w)
  unfold tV at HRI HBE HSC HRR HRB HRS HTH ⊢
  obtain ⟨bm, bE, bK, hbm, hbb⟩ := best_both N M B nl nv nm L V W
  have HBB := Lib.hid hbb
  obtain ⟨qs, qE, hqq⟩ := score_both N M B nl nv nm L V W
  have HSB := Lib.hid hqq
  clear hbb hqq
  obtain ⟨w0, hw0⟩ : ∃ w0, w0 = w.alloc (.cells #[.int .i64 N, .int .i64 M, .int .i64 B, .slice la nl lc, .slice va nv vc, .slice wa nm wc] 26) := ⟨_, rfl⟩
  have HX0 := Lib.hid (show TAt w0 w.heap.size 26 N M B la nl lc va nv vc wa nm wc from by rw [hw0]; exact heap_alloc_new _ _)
  have HB0 := Lib.hid (show Below w.heap.size w w0 from by rw [hw0]; exact (Below.refl w.heap.size w).alloc (Nat.le_refl _) _)
  have hz0 : w.heap.size < w0.heap.size := by rw [hw0, World.size_alloc]; omega
  have HW0 := Lib.hid hw0
  have hs0 := HB0.out.size
  clear hL hV hW hw0 hri hbe hsc
  go_enter Try.func3, Try.ntmps3
  obtain ⟨c0, c1, c2, c3, c4, c5⟩ := HX0.out.c
  rw [HW0.out] at c0 c1 c2 c3 c4 c5
  by_cases hbig : (12 < N ∧ N < 256) ∨ 700 < nl + nv + nm
  · rcases (show (12 < N ∧ N < 256) ∨ (¬ (12 < N ∧ N < 256) ∧ 700 < nl + nv + nm) by omega) with ⟨p1, p2⟩ | ⟨p1, p2⟩
    · have g1 : decide (12 < N) = true := by simp; omega
      have g2 : decide (N < 256) = true := by simp; omega
      clear hbig
      go_wp2_with fail
      clear c0 c1 c2 c3 c4 c5
      rw [← HW0.out]
      refine (HAW.out _).mono ?_
      rintro e w1 ⟨rfl, hB⟩
      have HB1 := Lib.hid (HB0.out.trans (hB.mono hs0))
      clear hB
      go_wp2
      go_ret
      exact ⟨rfl, HB1.out⟩
    · have i1 : (700 : Int) < (nl : Int) + (nv : Int) + (nm : Int) := by omega
      by_cases q1 : 12 < N
      · have g1 : decide (12 < N) = true := by simp; omega
        have g2 : decide (N < 256) = false := by simp; omega
        clear hbig p1
        go_wp2_with fail
        clear c0 c1 c2 c3 c4 c5
        rw [← HW0.out]
        refine (HAW.out _).mono ?_
        rintro e w1 ⟨rfl, hB⟩
        have HB1 := Lib.hid (HB0.out.trans (hB.mono hs0))
        clear hB
        go_wp2
        go_ret
        exact ⟨rfl, HB1.out⟩
      · have g1 : decide (12 < N) = false := by simp; omega
        clear hbig p1
        go_wp2_with fail
        clear c0 c1 c2 c3 c4 c5
        rw [← HW0.out]
        refine (HAW.out _).mono ?_
        rintro e w1 ⟨rfl, hB⟩
        have HB1 := Lib.hid (HB0.out.trans (hB.mono hs0))
        clear hB
        go_wp2
        go_ret
        exact ⟨rfl, HB1.out⟩
  have i1 : ¬ (700 : Int) < (nl : Int) + (nv : Int) + (nm : Int) := by omega
  have n1 : nl ≤ 700 := by omega
  have n2 : nv ≤ 700 := by omega
  have n3 : nm ≤ 700 := by omega
  have hg12 : decide (12 < N) = false ∨ (decide (12 < N) = true ∧ decide (N < 256) = false) := by
    by_cases q1 : 12 < N
    · right; constructor <;> simp <;> omega
    · left; simp; omega
  clear hbig
  rcases hg12 with g1 | ⟨g1, g2⟩
  · go_wp2_with fail
    clear c0 c1 c2 c3 c4 c5 g1
    rw [← HW0.out]
    have HBx := Lib.hid (show Below w0.heap.size w0 w0.drew from (Below.refl _ w0).drew)
    refine wp_region_held_drew (S := fun W => Below w0.heap.size w0 W) (by kernel_rfl) (HBx.out) (fun hHeld => ?_)
    have HS := HBx
    have HLw := Lib.hid (HL.out.same HB0.out); have HVw := Lib.hid (HV.out.same HB0.out); have HWw := Lib.hid (HW.out.same HB0.out)
    generalize w0.drew = wd at *
    refine wpAnyH_take (i := 0) (oi := ⟨some 40, _, _, _, _, none⟩) (v := (.pointer (some ⟨w.heap.size, 0, none⟩))) rfl (by kernel_rfl) (by kernel_rfl) (by kernel_rfl) (fun _ _ _ h => h) (Or.inl ⟨by rfl, fun W hW => ?_⟩) (by assumption) ?_
    · go_simp
    simp only [Act.put, List.setIfInBounds_toArray, List.set_cons_zero, List.set_cons_succ]
    refine wpAnyH_take (i := 1) (oi := ⟨some 41, _, _, _, _, none⟩) (v := (.agg #[.int .i64 N, .int .i64 M, .int .i64 B])) rfl (by kernel_rfl) (by kernel_rfl) (by kernel_rfl) (fun _ _ _ h => h) (Or.inl ⟨by rfl, fun W hW => ?_⟩) (by assumption) ?_
    · (obtain ⟨c0, c1, c2, c3, c4, c5⟩ := (HX0.out.same hW).c; go_simp; try rfl)
    simp only [Act.put, List.setIfInBounds_toArray, List.set_cons_zero, List.set_cons_succ]
    refine wpAnyH_take (i := 2) (oi := ⟨some 42, _, _, _, _, none⟩) (v := (.pointer (some ⟨w.heap.size, 3, none⟩))) rfl (by kernel_rfl) (by kernel_rfl) (by kernel_rfl) (fun _ _ _ h => h) (Or.inl ⟨by rfl, fun W hW => ?_⟩) (by assumption) ?_
    · go_simp
    simp only [Act.put, List.setIfInBounds_toArray, List.set_cons_zero, List.set_cons_succ]
    refine wpAnyH_take (i := 3) (oi := ⟨some 43, _, _, _, _, none⟩) (v := (.slice la nl lc)) rfl (by kernel_rfl) (by kernel_rfl) (by kernel_rfl) (fun _ _ _ h => h) (Or.inl ⟨by rfl, fun W hW => ?_⟩) (by assumption) ?_
    · (obtain ⟨c0, c1, c2, c3, c4, c5⟩ := (HX0.out.same hW).c; go_simp; try rfl)
    simp only [Act.put, List.setIfInBounds_toArray, List.set_cons_zero, List.set_cons_succ]
    refine wpAnyH_take (i := 5) (oi := ⟨some 45, _, _, _, _, none⟩) (v := (.pointer (some ⟨w.heap.size, 4, none⟩))) rfl (by kernel_rfl) (by kernel_rfl) (by kernel_rfl) (fun _ _ _ h => h) (Or.inl ⟨by rfl, fun W hW => ?_⟩) (by assumption) ?_
    · go_simp
    simp only [Act.put, List.setIfInBounds_toArray, List.set_cons_zero, List.set_cons_succ]
    refine wpAnyH_take (i := 6) (oi := ⟨some 46, _, _, _, _, none⟩) (v := (.slice va nv vc)) rfl (by kernel_rfl) (by kernel_rfl) (by kernel_rfl) (fun _ _ _ h => h) (Or.inl ⟨by rfl, fun W hW => ?_⟩) (by assumption) ?_
    · (obtain ⟨c0, c1, c2, c3, c4, c5⟩ := (HX0.out.same hW).c; go_simp; try rfl)
    simp only [Act.put, List.setIfInBounds_toArray, List.set_cons_zero, List.set_cons_succ]
    refine wpAnyH_take (i := 8) (oi := ⟨some 48, _, _, _, _, none⟩) (v := (.pointer (some ⟨w.heap.size, 5, none⟩))) rfl (by kernel_rfl) (by kernel_rfl) (by kernel_rfl) (fun _ _ _ h => h) (Or.inl ⟨by rfl, fun W hW => ?_⟩) (by assumption) ?_
    · go_simp
    simp only [Act.put, List.setIfInBounds_toArray, List.set_cons_zero, List.set_cons_succ]
    refine wpAnyH_take (i := 9) (oi := ⟨some 49, _, _, _, _, none⟩) (v := (.slice wa nm wc)) rfl (by kernel_rfl) (by kernel_rfl) (by kernel_rfl) (fun _ _ _ h => h) (Or.inl ⟨by rfl, fun W hW => ?_⟩) (by assumption) ?_
    · (obtain ⟨c0, c1, c2, c3, c4, c5⟩ := (HX0.out.same hW).c; go_simp; try rfl)
    simp only [Act.put, List.setIfInBounds_toArray, List.set_cons_zero, List.set_cons_succ]
    refine @share _ ?shP (fun hG => ?shF) ?shG
    case shF =>
      have HGH := Lib.hid hG; clear hG
      refine wpAnyH_ready (rs := [4, 12]) (by kernel_rfl) (by simp) (AllReadyH.cons rfl (fun KK hKK => ?_) (AllReadyH.cons rfl (fun KK hKK => ?_) AllReadyH.nil))
      · go_simp
        refine (lentInts_any la nl lc L _ (HLw.out.same HS.out) (by omega)).mono ?_
        rintro e V1 ⟨rfl, hg, hB⟩
        dsimp only
        have hq1 := HS.out.size
        have hlt1 := hg.lt13
        have HG1 := Lib.hid hg
        have h0 := HS.out.trans (hB.mono HS.out.size)
        have HS := Lib.hid h0
        clear h0 hB hg
        refine hKK.out _ _ (HS.out) (fun hHeld => ?_)
        clear hKK KK
        try simp only [Act.put, List.setIfInBounds_toArray, List.set_cons_zero, List.set_cons_succ]
        refine wpAnyH_ready (rs := [7, 12]) (by kernel_rfl) (by simp) (AllReadyH.cons rfl (fun KK hKK => ?_) (AllReadyH.cons rfl (fun KK hKK => ?_) AllReadyH.nil))
        · go_simp
          refine (lentInts_any va nv vc V _ (HVw.out.same HS.out) (by omega)).mono ?_
          rintro e V2 ⟨rfl, hg, hB⟩
          dsimp only
          have hq2 := HS.out.size
          have hlt2 := hg.lt13
          have HG2 := Lib.hid hg
          have h0 := HG1.out.same hB
          have HG1 := Lib.hid h0
          clear h0
          have h0 := HS.out.trans (hB.mono HS.out.size)
          have HS := Lib.hid h0
          clear h0 hB hg
          refine hKK.out _ _ (HS.out) (fun hHeld => ?_)
          clear hKK KK
          try simp only [Act.put, List.setIfInBounds_toArray, List.set_cons_zero, List.set_cons_succ]
          refine wpAnyH_ready (rs := [10, 12]) (by kernel_rfl) (by simp) (AllReadyH.cons rfl (fun KK hKK => ?_) (AllReadyH.cons rfl (fun KK hKK => ?_) AllReadyH.nil))
          · go_simp
            refine (lentInts_any wa nm wc W _ (HWw.out.same HS.out) (by omega)).mono ?_
            rintro e V3 ⟨rfl, hg, hB⟩
            dsimp only
            have hq3 := HS.out.size
            have hlt3 := hg.lt13
            have HG3 := Lib.hid hg
            have h0 := HG1.out.same hB
            have HG1 := Lib.hid h0
            clear h0
            have h0 := HG2.out.same hB
            have HG2 := Lib.hid h0
            clear h0
            have h0 := HS.out.trans (hB.mono HS.out.size)
            have HS := Lib.hid h0
            clear h0 hB hg
            refine hKK.out _ _ (HS.out) (fun hHeld => ?_)
            clear hKK KK
            try simp only [Act.put, List.setIfInBounds_toArray, List.set_cons_zero, List.set_cons_succ]
            refine wpAnyH_take (i := 11) (oi := ⟨some 51, _, _, _, _, none⟩) (v := (.agg #[.int .i64 N, .int .i64 M, .int .i64 B, .slice (some ⟨wd.heap.size, 0, none⟩) nl (nl + 12), .slice (some ⟨V1.heap.size, 0, none⟩) nv (nv + 12), .slice (some ⟨V2.heap.size, 0, none⟩) nm (nm + 12)])) rfl (by kernel_rfl) (by kernel_rfl) (by kernel_rfl) (fun _ _ _ h => h) (Or.inl ⟨by rfl, fun W hW => ?_⟩) (by assumption) ?_
            · go_simp
            simp only [Act.put, List.setIfInBounds_toArray, List.set_cons_zero, List.set_cons_succ]
            refine wpAnyH_ready (rs := [12]) (by kernel_rfl) (by simp) (AllReadyH.cons rfl (fun KK hKK => ?_) AllReadyH.nil)
            go_simp
            have HSl := HS; have HG1l := HG1; have HG2l := HG2; have HG3l := HG3
            have hal := (Below.refl V3.heap.size V3).alloc (Nat.le_refl _) (.cells #[.int .i64 0, .int .i64 0, .int .i64 0, .slice none 0 0, .slice none 0 0, .slice none 0 0] 26)
            have h0 := HG1.out.same hal
            have HG1 := Lib.hid h0
            clear h0
            have h0 := HG2.out.same hal
            have HG2 := Lib.hid h0
            clear h0
            have h0 := HG3.out.same hal
            have HG3 := Lib.hid h0
            clear h0
            have hsz := HS.out.size
            have HZS := Lib.hid hsz
            have HTZ := Lib.hid (show TAt (V3.alloc (.cells #[.int .i64 0, .int .i64 0, .int .i64 0, .slice none 0 0, .slice none 0 0, .slice none 0 0] 26)) V3.heap.size 26 0 0 0 none 0 0 none 0 0 none 0 0 from heap_alloc_new _ _)
            have h0 := HS.out.trans (hal.mono HS.out.size)
            have HS := Lib.hid h0
            clear h0 hal hsz
            refine hKK.out _ _ (HS.out) (fun hHeld => ?_)
            clear hKK KK
            try simp only [Act.put, List.setIfInBounds_toArray, List.set_cons_zero, List.set_cons_succ]
            have hal := (Below.refl V3.heap.size V3).alloc (Nat.le_refl _) (.cells #[.int .i64 N, .int .i64 M, .int .i64 B, .slice (some ⟨wd.heap.size, 0, none⟩) nl (nl + 12), .slice (some ⟨V1.heap.size, 0, none⟩) nv (nv + 12), .slice (some ⟨V2.heap.size, 0, none⟩) nm (nm + 12)] 26)
            refine wpAnyH_ready (rs := [13]) (by kernel_rfl) (by simp) (AllReadyH.cons rfl (fun KK hKK => ?_) AllReadyH.nil)
            go_simp
            refine hKK.out _ _ (HSl.out.trans (hal.mono HSl.out.size)) (fun hHeld => ?_)
            clear hKK KK
            try simp only [Act.put, List.setIfInBounds_toArray, List.set_cons_zero, List.set_cons_succ]
            refine wpAnyH_done (by kernel_rfl) ?_ _
            have HALL := Lib.hid (show Rdy w0 (V3.alloc (.cells #[.int .i64 N, .int .i64 M, .int .i64 B, .slice (some ⟨wd.heap.size, 0, none⟩) nl (nl + 12), .slice (some ⟨V1.heap.size, 0, none⟩) nv (nv + 12), .slice (some ⟨V2.heap.size, 0, none⟩) nm (nm + 12)] 26)) wd.heap.size V1.heap.size V2.heap.size V3.heap.size 26 N M B nl nv nm L V W from ⟨hq1, hlt1, hlt2, HSl.out.trans (hal.mono HSl.out.size), HG1l.out.same hal, HG2l.out.same hal, HG3l.out.same hal, heap_alloc_new _ _⟩)
            generalize (V3.alloc (.cells #[.int .i64 N, .int .i64 M, .int .i64 B, .slice (some ⟨wd.heap.size, 0, none⟩) nl (nl + 12), .slice (some ⟨V1.heap.size, 0, none⟩) nv (nv + 12), .slice (some ⟨V2.heap.size, 0, none⟩) nm (nm + 12)] 26)) = W9 at HALL ⊢
            generalize V3.heap.size = gz at HALL ⊢
            generalize V2.heap.size = g3 at HALL ⊢
            generalize V1.heap.size = g2 at HALL ⊢
            generalize wd.heap.size = g1 at HALL ⊢
            revert HALL gz g3 g2 g1 W9
            exact HGH.out
          · go_simp
            have hal := (Below.refl V2.heap.size V2).alloc (Nat.le_refl _) (.cells #[.int .i64 0, .int .i64 0, .int .i64 0, .slice none 0 0, .slice none 0 0, .slice none 0 0] 26)
            have h0 := HG1.out.same hal
            have HG1 := Lib.hid h0
            clear h0
            have h0 := HG2.out.same hal
            have HG2 := Lib.hid h0
            clear h0
            have hsz := HS.out.size
            have HZS := Lib.hid hsz
            have HTZ := Lib.hid (show TAt (V2.alloc (.cells #[.int .i64 0, .int .i64 0, .int .i64 0, .slice none 0 0, .slice none 0 0, .slice none 0 0] 26)) V2.heap.size 26 0 0 0 none 0 0 none 0 0 none 0 0 from heap_alloc_new _ _)
            have h0 := HS.out.trans (hal.mono HS.out.size)
            have HS := Lib.hid h0
            clear h0 hal hsz
            refine hKK.out _ _ (HS.out) (fun hHeld => ?_)
            clear hKK KK
            try simp only [Act.put, List.setIfInBounds_toArray, List.set_cons_zero, List.set_cons_succ]
            have HZL := Lib.hid (show V2.heap.size < (V2.alloc (.cells #[.int .i64 0, .int .i64 0, .int .i64 0, .slice none 0 0, .slice none 0 0, .slice none 0 0] 26)).heap.size by rw [World.size_alloc]; omega)
            obtain ⟨U3, hU3⟩ : ∃ U, U = (V2.alloc (.cells #[.int .i64 0, .int .i64 0, .int .i64 0, .slice none 0 0, .slice none 0 0, .slice none 0 0] 26)) := ⟨_, rfl⟩
            rw [← hU3] at HS HTZ hHeld HZL ⊢
            rw [← hU3] at HG1
            rw [← hU3] at HG2
            clear hU3
            refine wpAnyH_ready (rs := [10]) (by kernel_rfl) (by simp) (AllReadyH.cons rfl (fun KK hKK => ?_) AllReadyH.nil)
            go_simp
            refine (lentInts_any wa nm wc W _ (HWw.out.same HS.out) (by omega)).mono ?_
            rintro e V4 ⟨rfl, hg, hB⟩
            dsimp only
            have hq3 := HS.out.size
            have hlt3 := hg.lt13
            have HG3 := Lib.hid hg
            have h0 := HG1.out.same hB
            have HG1 := Lib.hid h0
            clear h0
            have h0 := HG2.out.same hB
            have HG2 := Lib.hid h0
            clear h0
            have h0 := HTZ.out.same hB
            have HTZ := Lib.hid h0
            clear h0
            have h0 := HS.out.trans (hB.mono HS.out.size)
            have HS := Lib.hid h0
            clear h0 hB hg
            refine hKK.out _ _ (HS.out) (fun hHeld => ?_)
            clear hKK KK
            try simp only [Act.put, List.setIfInBounds_toArray, List.set_cons_zero, List.set_cons_succ]
            refine wpAnyH_take (i := 11) (oi := ⟨some 51, _, _, _, _, none⟩) (v := (.agg #[.int .i64 N, .int .i64 M, .int .i64 B, .slice (some ⟨wd.heap.size, 0, none⟩) nl (nl + 12), .slice (some ⟨V1.heap.size, 0, none⟩) nv (nv + 12), .slice (some ⟨U3.heap.size, 0, none⟩) nm (nm + 12)])) rfl (by kernel_rfl) (by kernel_rfl) (by kernel_rfl) (fun _ _ _ h => h) (Or.inl ⟨by rfl, fun W hW => ?_⟩) (by assumption) ?_
            · go_simp
            simp only [Act.put, List.setIfInBounds_toArray, List.set_cons_zero, List.set_cons_succ]
            obtain ⟨z0, z1, z2, z3, z4, z5⟩ := HTZ.out.c
            have f0 := HTZ.out.free 0
            have f1 := HTZ.out.free 1
            have f2 := HTZ.out.free 2
            have f3 := HTZ.out.free 3
            have f4 := HTZ.out.free 4
            have f5 := HTZ.out.free 5
            have hq0 : w0.heap.size ≤ V2.heap.size := HZS.out
            have hZL := HZL.out
            have hbel := below_six HS.out hq0 (.int .i64 N) (.int .i64 M) (.int .i64 B) (.slice (some ⟨wd.heap.size, 0, none⟩) nl (nl + 12)) (.slice (some ⟨V1.heap.size, 0, none⟩) nv (nv + 12)) (.slice (some ⟨U3.heap.size, 0, none⟩) nm (nm + 12))
            refine wpAnyH_ready (rs := [13]) (by kernel_rfl) (by simp) (AllReadyH.cons rfl (fun KK hKK => ?_) AllReadyH.nil)
            go_simp
            refine hKK.out _ _ hbel (fun hHeld => ?_)
            clear hKK KK
            try simp only [Act.put, List.setIfInBounds_toArray, List.set_cons_zero, List.set_cons_succ]
            refine wpAnyH_done (by kernel_rfl) ?_ _
            exact HGH.out _ _ _ _ _ (Lib.hid ⟨hq1, by omega, by omega, hbel, kept_six HG1.out (by omega) (.int .i64 N) (.int .i64 M) (.int .i64 B) (.slice (some ⟨wd.heap.size, 0, none⟩) nl (nl + 12)) (.slice (some ⟨V1.heap.size, 0, none⟩) nv (nv + 12)) (.slice (some ⟨U3.heap.size, 0, none⟩) nm (nm + 12)), kept_six HG2.out (by omega) (.int .i64 N) (.int .i64 M) (.int .i64 B) (.slice (some ⟨wd.heap.size, 0, none⟩) nl (nl + 12)) (.slice (some ⟨V1.heap.size, 0, none⟩) nv (nv + 12)) (.slice (some ⟨U3.heap.size, 0, none⟩) nm (nm + 12)), kept_six HG3.out (by omega) (.int .i64 N) (.int .i64 M) (.int .i64 B) (.slice (some ⟨wd.heap.size, 0, none⟩) nl (nl + 12)) (.slice (some ⟨V1.heap.size, 0, none⟩) nv (nv + 12)) (.slice (some ⟨U3.heap.size, 0, none⟩) nm (nm + 12)), put_six HTZ.out (.int .i64 N) (.int .i64 M) (.int .i64 B) (.slice (some ⟨wd.heap.size, 0, none⟩) nl (nl + 12)) (.slice (some ⟨V1.heap.size, 0, none⟩) nv (nv + 12)) (.slice (some ⟨U3.heap.size, 0, none⟩) nm (nm + 12))⟩)
        · go_simp
          have hal := (Below.refl V1.heap.size V1).alloc (Nat.le_refl _) (.cells #[.int .i64 0, .int .i64 0, .int .i64 0, .slice none 0 0, .slice none 0 0, .slice none 0 0] 26)
          have h0 := HG1.out.same hal
          have HG1 := Lib.hid h0
          clear h0
          have hsz := HS.out.size
          have HZS := Lib.hid hsz
          have HTZ := Lib.hid (show TAt (V1.alloc (.cells #[.int .i64 0, .int .i64 0, .int .i64 0, .slice none 0 0, .slice none 0 0, .slice none 0 0] 26)) V1.heap.size 26 0 0 0 none 0 0 none 0 0 none 0 0 from heap_alloc_new _ _)
          have h0 := HS.out.trans (hal.mono HS.out.size)
          have HS := Lib.hid h0
          clear h0 hal hsz
          refine hKK.out _ _ (HS.out) (fun hHeld => ?_)
          clear hKK KK
          try simp only [Act.put, List.setIfInBounds_toArray, List.set_cons_zero, List.set_cons_succ]
          have HZL := Lib.hid (show V1.heap.size < (V1.alloc (.cells #[.int .i64 0, .int .i64 0, .int .i64 0, .slice none 0 0, .slice none 0 0, .slice none 0 0] 26)).heap.size by rw [World.size_alloc]; omega)
          obtain ⟨U2, hU2⟩ : ∃ U, U = (V1.alloc (.cells #[.int .i64 0, .int .i64 0, .int .i64 0, .slice none 0 0, .slice none 0 0, .slice none 0 0] 26)) := ⟨_, rfl⟩
          rw [← hU2] at HS HTZ hHeld HZL ⊢
          rw [← hU2] at HG1
          clear hU2
          refine wpAnyH_ready (rs := [7]) (by kernel_rfl) (by simp) (AllReadyH.cons rfl (fun KK hKK => ?_) AllReadyH.nil)
          go_simp
          refine (lentInts_any va nv vc V _ (HVw.out.same HS.out) (by omega)).mono ?_
          rintro e V3 ⟨rfl, hg, hB⟩
          dsimp only
          have hq2 := HS.out.size
          have hlt2 := hg.lt13
          have HG2 := Lib.hid hg
          have h0 := HG1.out.same hB
          have HG1 := Lib.hid h0
          clear h0
          have h0 := HTZ.out.same hB
          have HTZ := Lib.hid h0
          clear h0
          have h0 := HS.out.trans (hB.mono HS.out.size)
          have HS := Lib.hid h0
          clear h0 hB hg
          refine hKK.out _ _ (HS.out) (fun hHeld => ?_)
          clear hKK KK
          try simp only [Act.put, List.setIfInBounds_toArray, List.set_cons_zero, List.set_cons_succ]
          refine wpAnyH_ready (rs := [10]) (by kernel_rfl) (by simp) (AllReadyH.cons rfl (fun KK hKK => ?_) AllReadyH.nil)
          go_simp
          refine (lentInts_any wa nm wc W _ (HWw.out.same HS.out) (by omega)).mono ?_
          rintro e V4 ⟨rfl, hg, hB⟩
          dsimp only
          have hq3 := HS.out.size
          have hlt3 := hg.lt13
          have HG3 := Lib.hid hg
          have h0 := HG1.out.same hB
          have HG1 := Lib.hid h0
          clear h0
          have h0 := HG2.out.same hB
          have HG2 := Lib.hid h0
          clear h0
          have h0 := HTZ.out.same hB
          have HTZ := Lib.hid h0
          clear h0
          have h0 := HS.out.trans (hB.mono HS.out.size)
          have HS := Lib.hid h0
          clear h0 hB hg
          refine hKK.out _ _ (HS.out) (fun hHeld => ?_)
          clear hKK KK
          try simp only [Act.put, List.setIfInBounds_toArray, List.set_cons_zero, List.set_cons_succ]
          refine wpAnyH_take (i := 11) (oi := ⟨some 51, _, _, _, _, none⟩) (v := (.agg #[.int .i64 N, .int .i64 M, .int .i64 B, .slice (some ⟨wd.heap.size, 0, none⟩) nl (nl + 12), .slice (some ⟨U2.heap.size, 0, none⟩) nv (nv + 12), .slice (some ⟨V3.heap.size, 0, none⟩) nm (nm + 12)])) rfl (by kernel_rfl) (by kernel_rfl) (by kernel_rfl) (fun _ _ _ h => h) (Or.inl ⟨by rfl, fun W hW => ?_⟩) (by assumption) ?_
          · go_simp
          simp only [Act.put, List.setIfInBounds_toArray, List.set_cons_zero, List.set_cons_succ]
          obtain ⟨z0, z1, z2, z3, z4, z5⟩ := HTZ.out.c
          have f0 := HTZ.out.free 0
          have f1 := HTZ.out.free 1
          have f2 := HTZ.out.free 2
          have f3 := HTZ.out.free 3
          have f4 := HTZ.out.free 4
          have f5 := HTZ.out.free 5
          have hq0 : w0.heap.size ≤ V1.heap.size := HZS.out
          have hZL := HZL.out
          have hbel := below_six HS.out hq0 (.int .i64 N) (.int .i64 M) (.int .i64 B) (.slice (some ⟨wd.heap.size, 0, none⟩) nl (nl + 12)) (.slice (some ⟨U2.heap.size, 0, none⟩) nv (nv + 12)) (.slice (some ⟨V3.heap.size, 0, none⟩) nm (nm + 12))
          refine wpAnyH_ready (rs := [13]) (by kernel_rfl) (by simp) (AllReadyH.cons rfl (fun KK hKK => ?_) AllReadyH.nil)
          go_simp
          refine hKK.out _ _ hbel (fun hHeld => ?_)
          clear hKK KK
          try simp only [Act.put, List.setIfInBounds_toArray, List.set_cons_zero, List.set_cons_succ]
          refine wpAnyH_done (by kernel_rfl) ?_ _
          exact HGH.out _ _ _ _ _ (Lib.hid ⟨hq1, by omega, by omega, hbel, kept_six HG1.out (by omega) (.int .i64 N) (.int .i64 M) (.int .i64 B) (.slice (some ⟨wd.heap.size, 0, none⟩) nl (nl + 12)) (.slice (some ⟨U2.heap.size, 0, none⟩) nv (nv + 12)) (.slice (some ⟨V3.heap.size, 0, none⟩) nm (nm + 12)), kept_six HG2.out (by omega) (.int .i64 N) (.int .i64 M) (.int .i64 B) (.slice (some ⟨wd.heap.size, 0, none⟩) nl (nl + 12)) (.slice (some ⟨U2.heap.size, 0, none⟩) nv (nv + 12)) (.slice (some ⟨V3.heap.size, 0, none⟩) nm (nm + 12)), kept_six HG3.out (by omega) (.int .i64 N) (.int .i64 M) (.int .i64 B) (.slice (some ⟨wd.heap.size, 0, none⟩) nl (nl + 12)) (.slice (some ⟨U2.heap.size, 0, none⟩) nv (nv + 12)) (.slice (some ⟨V3.heap.size, 0, none⟩) nm (nm + 12)), put_six HTZ.out (.int .i64 N) (.int .i64 M) (.int .i64 B) (.slice (some ⟨wd.heap.size, 0, none⟩) nl (nl + 12)) (.slice (some ⟨U2.heap.size, 0, none⟩) nv (nv + 12)) (.slice (some ⟨V3.heap.size, 0, none⟩) nm (nm + 12))⟩)
      · go_simp
        have hal := (Below.refl wd.heap.size wd).alloc (Nat.le_refl _) (.cells #[.int .i64 0, .int .i64 0, .int .i64 0, .slice none 0 0, .slice none 0 0, .slice none 0 0] 26)
        have hsz := HS.out.size
        have HZS := Lib.hid hsz
        have HTZ := Lib.hid (show TAt (wd.alloc (.cells #[.int .i64 0, .int .i64 0, .int .i64 0, .slice none 0 0, .slice none 0 0, .slice none 0 0] 26)) wd.heap.size 26 0 0 0 none 0 0 none 0 0 none 0 0 from heap_alloc_new _ _)
        have h0 := HS.out.trans (hal.mono HS.out.size)
        have HS := Lib.hid h0
        clear h0 hal hsz
        refine hKK.out _ _ (HS.out) (fun hHeld => ?_)
        clear hKK KK
        try simp only [Act.put, List.setIfInBounds_toArray, List.set_cons_zero, List.set_cons_succ]
        have HZL := Lib.hid (show wd.heap.size < (wd.alloc (.cells #[.int .i64 0, .int .i64 0, .int .i64 0, .slice none 0 0, .slice none 0 0, .slice none 0 0] 26)).heap.size by rw [World.size_alloc]; omega)
        obtain ⟨U1, hU1⟩ : ∃ U, U = (wd.alloc (.cells #[.int .i64 0, .int .i64 0, .int .i64 0, .slice none 0 0, .slice none 0 0, .slice none 0 0] 26)) := ⟨_, rfl⟩
        rw [← hU1] at HS HTZ hHeld HZL ⊢
        clear hU1
        refine wpAnyH_ready (rs := [4]) (by kernel_rfl) (by simp) (AllReadyH.cons rfl (fun KK hKK => ?_) AllReadyH.nil)
        go_simp
        refine (lentInts_any la nl lc L _ (HLw.out.same HS.out) (by omega)).mono ?_
        rintro e V2 ⟨rfl, hg, hB⟩
        dsimp only
        have hq1 := HS.out.size
        have hlt1 := hg.lt13
        have HG1 := Lib.hid hg
        have h0 := HTZ.out.same hB
        have HTZ := Lib.hid h0
        clear h0
        have h0 := HS.out.trans (hB.mono HS.out.size)
        have HS := Lib.hid h0
        clear h0 hB hg
        refine hKK.out _ _ (HS.out) (fun hHeld => ?_)
        clear hKK KK
        try simp only [Act.put, List.setIfInBounds_toArray, List.set_cons_zero, List.set_cons_succ]
        refine wpAnyH_ready (rs := [7]) (by kernel_rfl) (by simp) (AllReadyH.cons rfl (fun KK hKK => ?_) AllReadyH.nil)
        go_simp
        refine (lentInts_any va nv vc V _ (HVw.out.same HS.out) (by omega)).mono ?_
        rintro e V3 ⟨rfl, hg, hB⟩
        dsimp only
        have hq2 := HS.out.size
        have hlt2 := hg.lt13
        have HG2 := Lib.hid hg
        have h0 := HG1.out.same hB
        have HG1 := Lib.hid h0
        clear h0
        have h0 := HTZ.out.same hB
        have HTZ := Lib.hid h0
        clear h0
        have h0 := HS.out.trans (hB.mono HS.out.size)
        have HS := Lib.hid h0
        clear h0 hB hg
        refine hKK.out _ _ (HS.out) (fun hHeld => ?_)
        clear hKK KK
        try simp only [Act.put, List.setIfInBounds_toArray, List.set_cons_zero, List.set_cons_succ]
        refine wpAnyH_ready (rs := [10]) (by kernel_rfl) (by simp) (AllReadyH.cons rfl (fun KK hKK => ?_) AllReadyH.nil)
        go_simp
        refine (lentInts_any wa nm wc W _ (HWw.out.same HS.out) (by omega)).mono ?_
        rintro e V4 ⟨rfl, hg, hB⟩
        dsimp only
        have hq3 := HS.out.size
        have hlt3 := hg.lt13
        have HG3 := Lib.hid hg
        have h0 := HG1.out.same hB
        have HG1 := Lib.hid h0
        clear h0
        have h0 := HG2.out.same hB
        have HG2 := Lib.hid h0
        clear h0
        have h0 := HTZ.out.same hB
        have HTZ := Lib.hid h0
        clear h0
        have h0 := HS.out.trans (hB.mono HS.out.size)
        have HS := Lib.hid h0
        clear h0 hB hg
        refine hKK.out _ _ (HS.out) (fun hHeld => ?_)
        clear hKK KK
        try simp only [Act.put, List.setIfInBounds_toArray, List.set_cons_zero, List.set_cons_succ]
        refine wpAnyH_take (i := 11) (oi := ⟨some 51, _, _, _, _, none⟩) (v := (.agg #[.int .i64 N, .int .i64 M, .int .i64 B, .slice (some ⟨U1.heap.size, 0, none⟩) nl (nl + 12), .slice (some ⟨V2.heap.size, 0, none⟩) nv (nv + 12), .slice (some ⟨V3.heap.size, 0, none⟩) nm (nm + 12)])) rfl (by kernel_rfl) (by kernel_rfl) (by kernel_rfl) (fun _ _ _ h => h) (Or.inl ⟨by rfl, fun W hW => ?_⟩) (by assumption) ?_
        · go_simp
        simp only [Act.put, List.setIfInBounds_toArray, List.set_cons_zero, List.set_cons_succ]
        obtain ⟨z0, z1, z2, z3, z4, z5⟩ := HTZ.out.c
        have f0 := HTZ.out.free 0
        have f1 := HTZ.out.free 1
        have f2 := HTZ.out.free 2
        have f3 := HTZ.out.free 3
        have f4 := HTZ.out.free 4
        have f5 := HTZ.out.free 5
        have hq0 : w0.heap.size ≤ wd.heap.size := HZS.out
        have hZL := HZL.out
        have hbel := below_six HS.out hq0 (.int .i64 N) (.int .i64 M) (.int .i64 B) (.slice (some ⟨U1.heap.size, 0, none⟩) nl (nl + 12)) (.slice (some ⟨V2.heap.size, 0, none⟩) nv (nv + 12)) (.slice (some ⟨V3.heap.size, 0, none⟩) nm (nm + 12))
        refine wpAnyH_ready (rs := [13]) (by kernel_rfl) (by simp) (AllReadyH.cons rfl (fun KK hKK => ?_) AllReadyH.nil)
        go_simp
        refine hKK.out _ _ hbel (fun hHeld => ?_)
        clear hKK KK
        try simp only [Act.put, List.setIfInBounds_toArray, List.set_cons_zero, List.set_cons_succ]
        refine wpAnyH_done (by kernel_rfl) ?_ _
        exact HGH.out _ _ _ _ _ (Lib.hid ⟨hq1, by omega, by omega, hbel, kept_six HG1.out (by omega) (.int .i64 N) (.int .i64 M) (.int .i64 B) (.slice (some ⟨U1.heap.size, 0, none⟩) nl (nl + 12)) (.slice (some ⟨V2.heap.size, 0, none⟩) nv (nv + 12)) (.slice (some ⟨V3.heap.size, 0, none⟩) nm (nm + 12)), kept_six HG2.out (by omega) (.int .i64 N) (.int .i64 M) (.int .i64 B) (.slice (some ⟨U1.heap.size, 0, none⟩) nl (nl + 12)) (.slice (some ⟨V2.heap.size, 0, none⟩) nv (nv + 12)) (.slice (some ⟨V3.heap.size, 0, none⟩) nm (nm + 12)), kept_six HG3.out (by omega) (.int .i64 N) (.int .i64 M) (.int .i64 B) (.slice (some ⟨U1.heap.size, 0, none⟩) nl (nl + 12)) (.slice (some ⟨V2.heap.size, 0, none⟩) nv (nv + 12)) (.slice (some ⟨V3.heap.size, 0, none⟩) nm (nm + 12)), put_six HTZ.out (.int .i64 N) (.int .i64 M) (.int .i64 B) (.slice (some ⟨U1.heap.size, 0, none⟩) nl (nl + 12)) (.slice (some ⟨V2.heap.size, 0, none⟩) nv (nv + 12)) (.slice (some ⟨V3.heap.size, 0, none⟩) nm (nm + 12))⟩)
    case shG =>
      intro W9 gz g3 g2 g1 HALL
      have hlo := HALL.out.lo; have hl1 := HALL.out.l1; have hl2 := HALL.out.l2
      have HG1 := Lib.hid HALL.out.b1; have HG2 := Lib.hid HALL.out.b2; have HG3 := Lib.hid HALL.out.b3; have HS := Lib.hid HALL.out.be; have HT := Lib.hid HALL.out.ta
      clear HALL
      obtain ⟨z0, z1, z2, z3, z4, z5⟩ := HT.out.c
      go_wp2_with fail
      clear z0 z1 z2 z3 z4 z5
      refine (HBE.out (some ⟨g1, 0, none⟩) (some ⟨g2, 0, none⟩) (some ⟨g3, 0, none⟩) (nl + 12) (nv + 12) (nm + 12) _ (blk_si _ HG1.out) (blk_si _ HG2.out) (blk_si _ HG3.out)).mono ?_
      rintro e w1 ⟨hbs, hB⟩
      obtain ⟨a1, c1, rfl, ho⟩ := HBB.out _ _ _ hbs
      have HO1 := Lib.hid ho; have hs9 := (HS.out.size); have hg39 := HG3.out.lt13
      clear ho hbs
      have h0 := HG1.out.same hB
      have HG1 := Lib.hid h0
      clear h0
      have h0 := HG2.out.same hB
      have HG2 := Lib.hid h0
      clear h0
      have h0 := HG3.out.same hB
      have HG3 := Lib.hid h0
      clear h0
      have h0 := HT.out.same hB
      have HT := Lib.hid h0
      clear h0
      have h0 := HS.out.trans (hB.mono HS.out.size)
      have HS := Lib.hid h0
      clear h0 hB
      obtain ⟨z0, z1, z2, z3, z4, z5⟩ := (HX0.out.same HS.out).c
      go_wp2_with fail
      clear z0 z1 z2 z3 z4 z5
      refine (HTH.out _).mono ?_
      rintro e w2 ⟨rfl, hB⟩
      have h0 := HG1.out.same hB
      have HG1 := Lib.hid h0
      clear h0
      have h0 := HG2.out.same hB
      have HG2 := Lib.hid h0
      clear h0
      have h0 := HG3.out.same hB
      have HG3 := Lib.hid h0
      clear h0
      have h0 := HT.out.same hB
      have HT := Lib.hid h0
      clear h0
      have h0 := own_below HO1.out hB
      have HO1 := Lib.hid h0
      clear h0
      have h0 := HS.out.trans (hB.mono HS.out.size)
      have HS := Lib.hid h0
      clear h0 hB
      go_wp2_with fail
      refine (HRB.out _ (HLw.out.same HS.out).si (HVw.out.same HS.out).si (HWw.out.same HS.out).si).mono ?_
      rintro e w3 ⟨hbs, hB⟩
      obtain ⟨a2, c2, rfl, ho⟩ := HBB.out _ _ _ hbs
      have HO2 := Lib.hid ho
      clear ho hbs
      have h0 := HG1.out.same hB
      have HG1 := Lib.hid h0
      clear h0
      have h0 := HG2.out.same hB
      have HG2 := Lib.hid h0
      clear h0
      have h0 := HG3.out.same hB
      have HG3 := Lib.hid h0
      clear h0
      have h0 := HT.out.same hB
      have HT := Lib.hid h0
      clear h0
      have h0 := own_below HO1.out hB
      have HO1 := Lib.hid h0
      clear h0
      have h0 := HS.out.trans (hB.mono HS.out.size)
      have HS := Lib.hid h0
      clear h0 hB
      obtain ⟨z0, z1, z2, z3, z4, z5⟩ := HT.out.c
      go_wp2_with fail
      clear z0 z1 z2 z3 z4 z5
      refine (HSC.out (some ⟨g1, 0, none⟩) (some ⟨g2, 0, none⟩) (some ⟨g3, 0, none⟩) (nl + 12) (nv + 12) (nm + 12) _ (blk_si _ HG1.out) (blk_si _ HG2.out) (blk_si _ HG3.out)).mono ?_
      rintro e w4 ⟨hbs, hB⟩
      obtain rfl := HSB.out _ hbs
      clear hbs
      have h0 := HG1.out.same hB
      have HG1 := Lib.hid h0
      clear h0
      have h0 := HG2.out.same hB
      have HG2 := Lib.hid h0
      clear h0
      have h0 := HG3.out.same hB
      have HG3 := Lib.hid h0
      clear h0
      have h0 := HT.out.same hB
      have HT := Lib.hid h0
      clear h0
      have h0 := own_below HO1.out hB
      have HO1 := Lib.hid h0
      clear h0
      have h0 := own_below HO2.out hB
      have HO2 := Lib.hid h0
      clear h0
      have h0 := HS.out.trans (hB.mono HS.out.size)
      have HS := Lib.hid h0
      clear h0 hB
      obtain ⟨z0, z1, z2, z3, z4, z5⟩ := (HX0.out.same HS.out).c
      go_wp2_with fail
      clear z0 z1 z2 z3 z4 z5
      refine (HTH.out _).mono ?_
      rintro e w5 ⟨rfl, hB⟩
      have h0 := HG1.out.same hB
      have HG1 := Lib.hid h0
      clear h0
      have h0 := HG2.out.same hB
      have HG2 := Lib.hid h0
      clear h0
      have h0 := HG3.out.same hB
      have HG3 := Lib.hid h0
      clear h0
      have h0 := HT.out.same hB
      have HT := Lib.hid h0
      clear h0
      have h0 := own_below HO1.out hB
      have HO1 := Lib.hid h0
      clear h0
      have h0 := own_below HO2.out hB
      have HO2 := Lib.hid h0
      clear h0
      have h0 := HS.out.trans (hB.mono HS.out.size)
      have HS := Lib.hid h0
      clear h0 hB
      go_wp2_with fail
      refine (HRS.out _ (HLw.out.same HS.out).si (HVw.out.same HS.out).si (HWw.out.same HS.out).si).mono ?_
      rintro e w6 ⟨hbs, hB⟩
      obtain rfl := HSB.out _ hbs
      clear hbs
      have h0 := HG1.out.same hB
      have HG1 := Lib.hid h0
      clear h0
      have h0 := HG2.out.same hB
      have HG2 := Lib.hid h0
      clear h0
      have h0 := HG3.out.same hB
      have HG3 := Lib.hid h0
      clear h0
      have h0 := HT.out.same hB
      have HT := Lib.hid h0
      clear h0
      have h0 := own_below HO1.out hB
      have HO1 := Lib.hid h0
      clear h0
      have h0 := own_below HO2.out hB
      have HO2 := Lib.hid h0
      clear h0
      have h0 := HS.out.trans (hB.mono HS.out.size)
      have HS := Lib.hid h0
      clear h0 hB
      obtain ⟨z0, z1, z2, z3, z4, z5⟩ := HT.out.c
      go_wp2_with fail
      clear z0 z1 z2 z3 z4 z5
      have HW := Lib.hid (show Below w6.heap.size w6 w6.drew from (Below.refl _ w6).drew)
      refine wp_region_held_drew (S := fun W => Below w6.heap.size w6 W) (by kernel_rfl) (HW.out) (fun hHeld => ?_)
      refine wpAnyH_take (i := 0) (oi := ⟨some 74, _, _, _, _, none⟩) (v := (.int .i64 bE)) rfl (by kernel_rfl) (by kernel_rfl) (by kernel_rfl) (fun _ _ _ h => h) (Or.inl ⟨by rfl, fun W hW => ?_⟩) (by assumption) ?_
      · go_simp
      simp only [Act.put, List.setIfInBounds_toArray, List.set_cons_zero, List.set_cons_succ]
      refine wpAnyH_take (i := 1) (oi := ⟨some 75, _, _, _, _, none⟩) (v := (.int .i64 bE)) rfl (by kernel_rfl) (by kernel_rfl) (by kernel_rfl) (fun _ _ _ h => h) (Or.inl ⟨by rfl, fun W hW => ?_⟩) (by assumption) ?_
      · go_simp
      simp only [Act.put, List.setIfInBounds_toArray, List.set_cons_zero, List.set_cons_succ]
      refine wpAnyH_take (i := 2) (oi := ⟨some 76, _, _, _, _, none⟩) (v := (.bool true)) rfl (by kernel_rfl) (by kernel_rfl) (by kernel_rfl) (fun _ _ _ h => h) (Or.inl ⟨by rfl, fun W hW => ?_⟩) (by assumption) ?_
      · go_simp
      simp only [Act.put, List.setIfInBounds_toArray, List.set_cons_zero, List.set_cons_succ]
      refine wpAnyH_take (i := 3) (oi := ⟨some 77, _, _, _, _, none⟩) (v := (.bool true)) rfl (by kernel_rfl) (by kernel_rfl) (by kernel_rfl) (fun _ _ _ h => h) (Or.inl ⟨by rfl, fun W hW => ?_⟩) (by assumption) ?_
      · go_simp
      simp only [Act.put, List.setIfInBounds_toArray, List.set_cons_zero, List.set_cons_succ]
      refine wpAnyH_take (i := 4) (oi := ⟨some 78, _, _, _, _, some (3, true)⟩) (v := (.int .i64 qE)) rfl (by kernel_rfl) (by kernel_rfl) (by kernel_rfl) (fun _ _ _ h => h) (Or.inl ⟨by rfl, fun W hW => ?_⟩) (by assumption) ?_
      · go_simp
      simp only [Act.put, List.setIfInBounds_toArray, List.set_cons_zero, List.set_cons_succ]
      refine wpAnyH_take (i := 5) (oi := ⟨some 79, _, _, _, _, some (3, true)⟩) (v := (.int .i64 qE)) rfl (by kernel_rfl) (by kernel_rfl) (by kernel_rfl) (fun _ _ _ h => h) (Or.inl ⟨by rfl, fun W hW => ?_⟩) (by assumption) ?_
      · go_simp
      simp only [Act.put, List.setIfInBounds_toArray, List.set_cons_zero, List.set_cons_succ]
      refine wpAnyH_take (i := 6) (oi := ⟨some 80, _, _, _, _, some (3, true)⟩) (v := (.bool true)) rfl (by kernel_rfl) (by kernel_rfl) (by kernel_rfl) (fun _ _ _ h => h) (Or.inl ⟨by rfl, fun W hW => ?_⟩) (by assumption) ?_
      · go_simp
      simp only [Act.put, List.setIfInBounds_toArray, List.set_cons_zero, List.set_cons_succ]
      refine wpAnyH_take (i := 7) (oi := ⟨some 81, _, _, _, _, none⟩) (v := (.bool true)) rfl (by kernel_rfl) (by kernel_rfl) (by kernel_rfl) (fun _ _ _ h => h) (Or.inl ⟨by rfl, fun W hW => ?_⟩) (by assumption) ?_
      · go_simp
      simp only [Act.put, List.setIfInBounds_toArray, List.set_cons_zero, List.set_cons_succ]
      refine wpAnyH_take (i := 8) (oi := ⟨some 82, _, _, _, _, none⟩) (v := (.bool true)) rfl (by kernel_rfl) (by kernel_rfl) (by kernel_rfl) (fun _ _ _ h => h) (Or.inl ⟨by rfl, fun W hW => ?_⟩) (by assumption) ?_
      · go_simp
      simp only [Act.put, List.setIfInBounds_toArray, List.set_cons_zero, List.set_cons_succ]
      refine wpAnyH_take (i := 9) (oi := ⟨some 83, _, _, _, _, some (8, true)⟩) (v := (.int .i64 qs)) rfl (by kernel_rfl) (by kernel_rfl) (by kernel_rfl) (fun _ _ _ h => h) (Or.inl ⟨by rfl, fun W hW => ?_⟩) (by assumption) ?_
      · go_simp
      simp only [Act.put, List.setIfInBounds_toArray, List.set_cons_zero, List.set_cons_succ]
      refine wpAnyH_take (i := 10) (oi := ⟨some 84, _, _, _, _, some (8, true)⟩) (v := (.int .i64 qs)) rfl (by kernel_rfl) (by kernel_rfl) (by kernel_rfl) (fun _ _ _ h => h) (Or.inl ⟨by rfl, fun W hW => ?_⟩) (by assumption) ?_
      · go_simp
      simp only [Act.put, List.setIfInBounds_toArray, List.set_cons_zero, List.set_cons_succ]
      refine wpAnyH_take (i := 11) (oi := ⟨some 85, _, _, _, _, some (8, true)⟩) (v := (.bool true)) rfl (by kernel_rfl) (by kernel_rfl) (by kernel_rfl) (fun _ _ _ h => h) (Or.inl ⟨by rfl, fun W hW => ?_⟩) (by assumption) ?_
      · go_simp
      simp only [Act.put, List.setIfInBounds_toArray, List.set_cons_zero, List.set_cons_succ]
      refine wpAnyH_take (i := 12) (oi := ⟨some 86, _, _, _, _, none⟩) (v := (.bool true)) rfl (by kernel_rfl) (by kernel_rfl) (by kernel_rfl) (fun _ _ _ h => h) (Or.inl ⟨by rfl, fun W hW => ?_⟩) (by assumption) ?_
      · go_simp
      simp only [Act.put, List.setIfInBounds_toArray, List.set_cons_zero, List.set_cons_succ]
      refine wpAnyH_take (i := 13) (oi := ⟨some 87, _, _, _, _, none⟩) (v := (.bool true)) rfl (by kernel_rfl) (by kernel_rfl) (by kernel_rfl) (fun _ _ _ h => h) (Or.inl ⟨by rfl, fun W hW => ?_⟩) (by assumption) ?_
      · go_simp
      simp only [Act.put, List.setIfInBounds_toArray, List.set_cons_zero, List.set_cons_succ]
      refine wpAnyH_take (i := 14) (oi := ⟨some 88, _, _, _, _, some (13, true)⟩) (v := (.slice a1 bm c1)) rfl (by kernel_rfl) (by kernel_rfl) (by kernel_rfl) (fun _ _ _ h => h) (Or.inl ⟨by rfl, fun W hW => ?_⟩) (by assumption) ?_
      · go_simp
      simp only [Act.put, List.setIfInBounds_toArray, List.set_cons_zero, List.set_cons_succ]
      refine wpAnyH_take (i := 15) (oi := ⟨some 89, _, _, _, _, some (13, true)⟩) (v := (.slice a2 bm c2)) rfl (by kernel_rfl) (by kernel_rfl) (by kernel_rfl) (fun _ _ _ h => h) (Or.inl ⟨by rfl, fun W hW => ?_⟩) (by assumption) ?_
      · go_simp
      simp only [Act.put, List.setIfInBounds_toArray, List.set_cons_zero, List.set_cons_succ]
      refine wpAnyH_ready (rs := [16]) (by kernel_rfl) (by simp) (AllReadyH.cons rfl (fun KK hKK => ?_) AllReadyH.nil)
      go_simp
      refine (sameInts_any a1 a2 bm c1 bm c2 bK bK (by omega) (by omega) _ (hi_own (own_below HO1.out HW.out)).si (hi_own (own_below HO2.out HW.out)).si).mono ?_
      rintro e Y0 ⟨⟨v0, rfl, hv0⟩, hb0⟩
      dsimp only
      have hW0 := HW.out
      have HW := Lib.hid (show (fun W => Below w6.heap.size w6 W) Y0 from hW0.trans (hb0.mono hW0.size))
      clear hW0 hb0
      obtain rfl : v0 = true := hv0.2 ⟨rfl, fun _ _ => rfl⟩
      clear hv0
      refine hKK.out _ _ (HW.out) (fun hHeld => ?_)
      clear hKK KK
      try simp only [Act.put, List.setIfInBounds_toArray, List.set_cons_zero, List.set_cons_succ]
      refine wpAnyH_take (i := 17) (oi := ⟨some 91, _, _, _, _, none⟩) (v := (.bool true)) rfl (by kernel_rfl) (by kernel_rfl) (by kernel_rfl) (fun _ _ _ h => h) (Or.inl ⟨by rfl, fun W hW => ?_⟩) (by assumption) ?_
      · go_simp
      simp only [Act.put, List.setIfInBounds_toArray, List.set_cons_zero, List.set_cons_succ]
      refine wpAnyH_take (i := 18) (oi := ⟨some 92, _, _, _, _, none⟩) (v := (.bool true)) rfl (by kernel_rfl) (by kernel_rfl) (by kernel_rfl) (fun _ _ _ h => h) (Or.inl ⟨by rfl, fun W hW => ?_⟩) (by assumption) ?_
      · go_simp
      simp only [Act.put, List.setIfInBounds_toArray, List.set_cons_zero, List.set_cons_succ]
      refine wpAnyH_take (i := 19) (oi := ⟨some 93, _, _, _, _, some (18, true)⟩) (v := (.agg #[.int .i64 N, .int .i64 M, .int .i64 B, .slice (some ⟨g1, 0, none⟩) nl (nl + 12), .slice (some ⟨g2, 0, none⟩) nv (nv + 12), .slice (some ⟨g3, 0, none⟩) nm (nm + 12)])) rfl (by kernel_rfl) (by kernel_rfl) (by kernel_rfl) (fun _ _ _ h => h) (Or.inl ⟨by rfl, fun W hW => ?_⟩) (by assumption) ?_
      · (obtain ⟨z0, z1, z2, z3, z4, z5⟩ := (HT.out.same hW).c; go_simp; try rfl)
      simp only [Act.put, List.setIfInBounds_toArray, List.set_cons_zero, List.set_cons_succ]
      refine wpAnyH_take (i := 21) (oi := ⟨some 95, _, _, _, _, some (18, true)⟩) (v := (.agg #[.int .i64 N, .int .i64 M, .int .i64 B, .slice la nl lc, .slice va nv vc, .slice wa nm wc])) rfl (by kernel_rfl) (by kernel_rfl) (by kernel_rfl) (fun _ _ _ h => h) (Or.inl ⟨by rfl, fun W hW => ?_⟩) (by assumption) ?_
      · (obtain ⟨z0, z1, z2, z3, z4, z5⟩ := (HX0.out.same (HS.out.trans (hW.mono HS.out.size))).c; go_simp; try rfl)
      simp only [Act.put, List.setIfInBounds_toArray, List.set_cons_zero, List.set_cons_succ]
      refine wpAnyH_ready (rs := [20]) (by kernel_rfl) (by simp) (AllReadyH.cons rfl (fun KK hKK => ?_) AllReadyH.nil)
      go_simp
      refine (HRI.out (some ⟨g1, 0, none⟩) (some ⟨g2, 0, none⟩) (some ⟨g3, 0, none⟩) (nl + 12) (nv + 12) (nm + 12) _ (blk_si _ (HG1.out.same HW.out)) (blk_si _ (HG2.out.same HW.out)) (blk_si _ (HG3.out.same HW.out))).mono ?_
      rintro e Y1 ⟨⟨v1, rfl, hv1⟩, hb1⟩
      dsimp only
      have hW0 := HW.out
      have HW := Lib.hid (show (fun W => Below w6.heap.size w6 W) Y1 from hW0.trans (hb1.mono hW0.size))
      clear hW0 hb1
      refine hKK.out _ _ (HW.out) (fun hHeld => ?_)
      clear hKK KK
      try simp only [Act.put, List.setIfInBounds_toArray, List.set_cons_zero, List.set_cons_succ]
      refine wpAnyH_ready (rs := [22]) (by kernel_rfl) (by simp) (AllReadyH.cons rfl (fun KK hKK => ?_) AllReadyH.nil)
      go_simp
      refine (HTH.out _).mono ?_
      rintro e Y2 ⟨rfl, hb2⟩
      dsimp only
      have hW0 := HW.out
      have HW := Lib.hid (show (fun W => Below w6.heap.size w6 W) Y2 from hW0.trans (hb2.mono hW0.size))
      clear hW0 hb2
      refine hKK.out _ _ (HW.out) (fun hHeld => ?_)
      clear hKK KK
      try simp only [Act.put, List.setIfInBounds_toArray, List.set_cons_zero, List.set_cons_succ]
      refine wpAnyH_ready (rs := [23]) (by kernel_rfl) (by simp) (AllReadyH.cons rfl (fun KK hKK => ?_) AllReadyH.nil)
      go_simp
      refine (HRR.out _ (HLw.out.same (HS.out.trans (HW.out.mono HS.out.size))).si (HVw.out.same (HS.out.trans (HW.out.mono HS.out.size))).si (HWw.out.same (HS.out.trans (HW.out.mono HS.out.size))).si).mono ?_
      rintro e Y3 ⟨⟨v2, rfl, hv2⟩, hb3⟩
      dsimp only
      have hW0 := HW.out
      have HW := Lib.hid (show (fun W => Below w6.heap.size w6 W) Y3 from hW0.trans (hb3.mono hW0.size))
      clear hW0 hb3
      obtain rfl : v1 = v2 := Bool.eq_iff_iff.2 (hv1.trans hv2.symm)
      clear hv1 hv2
      refine hKK.out _ _ (HW.out) (fun hHeld => ?_)
      clear hKK KK
      try simp only [Act.put, List.setIfInBounds_toArray, List.set_cons_zero, List.set_cons_succ]
      refine wpAnyH_take (i := 24) (oi := ⟨some 98, _, _, _, _, some (18, true)⟩) (v := (.bool true)) rfl (by kernel_rfl) (by kernel_rfl) (by kernel_rfl) (fun _ _ _ h => h) (Or.inl ⟨by rfl, fun W hW => ?_⟩) (by assumption) ?_
      · go_simp
      simp only [Act.put, List.setIfInBounds_toArray, List.set_cons_zero, List.set_cons_succ]
      refine wpAnyH_take (i := 25) (oi := ⟨some 99, _, _, _, _, none⟩) (v := (.bool true)) rfl (by kernel_rfl) (by kernel_rfl) (by kernel_rfl) (fun _ _ _ h => h) (Or.inl ⟨by rfl, fun W hW => ?_⟩) (by assumption) ?_
      · go_simp
      simp only [Act.put, List.setIfInBounds_toArray, List.set_cons_zero, List.set_cons_succ]
      refine wpAnyH_ready (rs := [26]) (by kernel_rfl) (by simp) (AllReadyH.cons rfl (fun KK hKK => ?_) AllReadyH.nil)
      go_simp
      refine hKK.out _ _ (HW.out) (fun hHeld => ?_)
      clear hKK KK
      try simp only [Act.put, List.setIfInBounds_toArray, List.set_cons_zero, List.set_cons_succ]
      refine wpAnyH_done (by kernel_rfl) ?_ _
      have hB := HW.out
      clear HW
      have h0 := HG1.out.same hB
      have HG1 := Lib.hid h0
      clear h0
      have h0 := HG2.out.same hB
      have HG2 := Lib.hid h0
      clear h0
      have h0 := HG3.out.same hB
      have HG3 := Lib.hid h0
      clear h0
      have h0 := HT.out.same hB
      have HT := Lib.hid h0
      clear h0
      have h0 := own_below HO1.out hB
      have HO1 := Lib.hid h0
      clear h0
      have h0 := HS.out.trans (hB.mono HS.out.size)
      have HS := Lib.hid h0
      clear h0 hB
      obtain ⟨z0, z1, z2, z3, z4, z5⟩ := HT.out.c
      obtain ⟨x0, x1, x2, x3, x4, x5⟩ := (HX0.out.same HS.out).c
      go_wp2_with fail
      clear z0 z1 z2 z3 z4 z5
      clear x0 x1 x2 x3 x4 x5
      refine (keptInts_any g1 la nl lc L _ (HLw.out.same HS.out) HG1.out (by omega)).mono ?_
      rintro e k1 ⟨rfl, d, hd⟩
      have hB := (by rw [hd]; exact below_drewN (Below.refl _ _) d : Below Y3.heap.size Y3 k1)
      clear hd
      have h0 := HG1.out.same hB
      have HG1 := Lib.hid h0
      clear h0
      have h0 := HG2.out.same hB
      have HG2 := Lib.hid h0
      clear h0
      have h0 := HG3.out.same hB
      have HG3 := Lib.hid h0
      clear h0
      have h0 := HT.out.same hB
      have HT := Lib.hid h0
      clear h0
      have h0 := own_below HO1.out hB
      have HO1 := Lib.hid h0
      clear h0
      have h0 := HS.out.trans (hB.mono HS.out.size)
      have HS := Lib.hid h0
      clear h0 hB
      obtain ⟨z0, z1, z2, z3, z4, z5⟩ := HT.out.c
      obtain ⟨x0, x1, x2, x3, x4, x5⟩ := (HX0.out.same HS.out).c
      go_wp2_with fail
      clear z0 z1 z2 z3 z4 z5
      clear x0 x1 x2 x3 x4 x5
      refine (keptInts_any g2 va nv vc V _ (HVw.out.same HS.out) HG2.out (by omega)).mono ?_
      rintro e k2 ⟨rfl, d, hd⟩
      have hB := (by rw [hd]; exact below_drewN (Below.refl _ _) d : Below k1.heap.size k1 k2)
      clear hd
      have h0 := HG1.out.same hB
      have HG1 := Lib.hid h0
      clear h0
      have h0 := HG2.out.same hB
      have HG2 := Lib.hid h0
      clear h0
      have h0 := HG3.out.same hB
      have HG3 := Lib.hid h0
      clear h0
      have h0 := HT.out.same hB
      have HT := Lib.hid h0
      clear h0
      have h0 := own_below HO1.out hB
      have HO1 := Lib.hid h0
      clear h0
      have h0 := HS.out.trans (hB.mono HS.out.size)
      have HS := Lib.hid h0
      clear h0 hB
      obtain ⟨z0, z1, z2, z3, z4, z5⟩ := HT.out.c
      obtain ⟨x0, x1, x2, x3, x4, x5⟩ := (HX0.out.same HS.out).c
      go_wp2_with fail
      clear z0 z1 z2 z3 z4 z5
      clear x0 x1 x2 x3 x4 x5
      refine (keptInts_any g3 wa nm wc W _ (HWw.out.same HS.out) HG3.out (by omega)).mono ?_
      rintro e k3 ⟨rfl, d, hd⟩
      have hB := (by rw [hd]; exact below_drewN (Below.refl _ _) d : Below k2.heap.size k2 k3)
      clear hd
      have h0 := HG1.out.same hB
      have HG1 := Lib.hid h0
      clear h0
      have h0 := HG2.out.same hB
      have HG2 := Lib.hid h0
      clear h0
      have h0 := HG3.out.same hB
      have HG3 := Lib.hid h0
      clear h0
      have h0 := HT.out.same hB
      have HT := Lib.hid h0
      clear h0
      have h0 := own_below HO1.out hB
      have HO1 := Lib.hid h0
      clear h0
      have h0 := HS.out.trans (hB.mono HS.out.size)
      have HS := Lib.hid h0
      clear h0 hB
      obtain ⟨z0, z1, z2, z3, z4, z5⟩ := HT.out.c
      go_wp2_with fail
      clear z0 z1 z2 z3 z4 z5
      have hk3 := HS.out.size
      refine (Ai.apartInts_any w0.heap.size k3.heap.size 4 4 (ra g1 g2 g3 a1) (rl nl nv nm bm) (rl (nl + 12) (nv + 12) (nm + 12) c1) (rh L V W bK) _ (bag_four HG1.out HG2.out HG3.out (own_mono HO1.out hs9) (by omega) (by omega) (by omega) (by omega) (by omega) (by omega)) (sep_four hl1 hl2 (fun g e => Nat.lt_of_lt_of_le hg39 (own_blk13 HO1.out g e).1)) (by rw [World.size_alloc]; omega) (by rw [World.size_alloc]; omega) (Nat.le_refl _) (by omega) (by omega) (rl_le n1 n2 n3 hbm)).mono ?_
      rintro e k4 ⟨rfl, hB⟩
      have HB4 := Lib.hid (HB0.out.trans ((HS.out.trans (((Below.refl k3.heap.size k3).alloc (Nat.le_refl _) _).mono hk3)).trans hB |>.mono hs0))
      clear hB
      go_wp2_with fail
      refine (HAW.out _).mono ?_
      rintro e k5 ⟨rfl, hB⟩
      have HB5 := Lib.hid (HB4.out.trans (hB.mono HB4.out.size))
      clear hB
      go_wp2
      go_ret
      exact ⟨rfl, HB5.out⟩
  · go_wp2_with fail
    clear c0 c1 c2 c3 c4 c5 g1 g2
    rw [← HW0.out]
    have HBx := Lib.hid (show Below w0.heap.size w0 w0.drew from (Below.refl _ w0).drew)
    refine wp_region_held_drew (S := fun W => Below w0.heap.size w0 W) (by kernel_rfl) (HBx.out) (fun hHeld => ?_)
    have HS := HBx
    have HLw := Lib.hid (HL.out.same HB0.out); have HVw := Lib.hid (HV.out.same HB0.out); have HWw := Lib.hid (HW.out.same HB0.out)
    generalize w0.drew = wd at *
    refine wpAnyH_take (i := 0) (oi := ⟨some 40, _, _, _, _, none⟩) (v := (.pointer (some ⟨w.heap.size, 0, none⟩))) rfl (by kernel_rfl) (by kernel_rfl) (by kernel_rfl) (fun _ _ _ h => h) (Or.inl ⟨by rfl, fun W hW => ?_⟩) (by assumption) ?_
    · go_simp
    simp only [Act.put, List.setIfInBounds_toArray, List.set_cons_zero, List.set_cons_succ]
    refine wpAnyH_take (i := 1) (oi := ⟨some 41, _, _, _, _, none⟩) (v := (.agg #[.int .i64 N, .int .i64 M, .int .i64 B])) rfl (by kernel_rfl) (by kernel_rfl) (by kernel_rfl) (fun _ _ _ h => h) (Or.inl ⟨by rfl, fun W hW => ?_⟩) (by assumption) ?_
    · (obtain ⟨c0, c1, c2, c3, c4, c5⟩ := (HX0.out.same hW).c; go_simp; try rfl)
    simp only [Act.put, List.setIfInBounds_toArray, List.set_cons_zero, List.set_cons_succ]
    refine wpAnyH_take (i := 2) (oi := ⟨some 42, _, _, _, _, none⟩) (v := (.pointer (some ⟨w.heap.size, 3, none⟩))) rfl (by kernel_rfl) (by kernel_rfl) (by kernel_rfl) (fun _ _ _ h => h) (Or.inl ⟨by rfl, fun W hW => ?_⟩) (by assumption) ?_
    · go_simp
    simp only [Act.put, List.setIfInBounds_toArray, List.set_cons_zero, List.set_cons_succ]
    refine wpAnyH_take (i := 3) (oi := ⟨some 43, _, _, _, _, none⟩) (v := (.slice la nl lc)) rfl (by kernel_rfl) (by kernel_rfl) (by kernel_rfl) (fun _ _ _ h => h) (Or.inl ⟨by rfl, fun W hW => ?_⟩) (by assumption) ?_
    · (obtain ⟨c0, c1, c2, c3, c4, c5⟩ := (HX0.out.same hW).c; go_simp; try rfl)
    simp only [Act.put, List.setIfInBounds_toArray, List.set_cons_zero, List.set_cons_succ]
    refine wpAnyH_take (i := 5) (oi := ⟨some 45, _, _, _, _, none⟩) (v := (.pointer (some ⟨w.heap.size, 4, none⟩))) rfl (by kernel_rfl) (by kernel_rfl) (by kernel_rfl) (fun _ _ _ h => h) (Or.inl ⟨by rfl, fun W hW => ?_⟩) (by assumption) ?_
    · go_simp
    simp only [Act.put, List.setIfInBounds_toArray, List.set_cons_zero, List.set_cons_succ]
    refine wpAnyH_take (i := 6) (oi := ⟨some 46, _, _, _, _, none⟩) (v := (.slice va nv vc)) rfl (by kernel_rfl) (by kernel_rfl) (by kernel_rfl) (fun _ _ _ h => h) (Or.inl ⟨by rfl, fun W hW => ?_⟩) (by assumption) ?_
    · (obtain ⟨c0, c1, c2, c3, c4, c5⟩ := (HX0.out.same hW).c; go_simp; try rfl)
    simp only [Act.put, List.setIfInBounds_toArray, List.set_cons_zero, List.set_cons_succ]
    refine wpAnyH_take (i := 8) (oi := ⟨some 48, _, _, _, _, none⟩) (v := (.pointer (some ⟨w.heap.size, 5, none⟩))) rfl (by kernel_rfl) (by kernel_rfl) (by kernel_rfl) (fun _ _ _ h => h) (Or.inl ⟨by rfl, fun W hW => ?_⟩) (by assumption) ?_
    · go_simp
    simp only [Act.put, List.setIfInBounds_toArray, List.set_cons_zero, List.set_cons_succ]
    refine wpAnyH_take (i := 9) (oi := ⟨some 49, _, _, _, _, none⟩) (v := (.slice wa nm wc)) rfl (by kernel_rfl) (by kernel_rfl) (by kernel_rfl) (fun _ _ _ h => h) (Or.inl ⟨by rfl, fun W hW => ?_⟩) (by assumption) ?_
    · (obtain ⟨c0, c1, c2, c3, c4, c5⟩ := (HX0.out.same hW).c; go_simp; try rfl)
    simp only [Act.put, List.setIfInBounds_toArray, List.set_cons_zero, List.set_cons_succ]
    refine @share _ ?shP2 (fun hG => ?shF2) ?shG2
    case shF2 =>
      have HGH := Lib.hid hG; clear hG
      refine wpAnyH_ready (rs := [4, 12]) (by kernel_rfl) (by simp) (AllReadyH.cons rfl (fun KK hKK => ?_) (AllReadyH.cons rfl (fun KK hKK => ?_) AllReadyH.nil))
      · go_simp
        refine (lentInts_any la nl lc L _ (HLw.out.same HS.out) (by omega)).mono ?_
        rintro e V1 ⟨rfl, hg, hB⟩
        dsimp only
        have hq1 := HS.out.size
        have hlt1 := hg.lt13
        have HG1 := Lib.hid hg
        have h0 := HS.out.trans (hB.mono HS.out.size)
        have HS := Lib.hid h0
        clear h0 hB hg
        refine hKK.out _ _ (HS.out) (fun hHeld => ?_)
        clear hKK KK
        try simp only [Act.put, List.setIfInBounds_toArray, List.set_cons_zero, List.set_cons_succ]
        refine wpAnyH_ready (rs := [7, 12]) (by kernel_rfl) (by simp) (AllReadyH.cons rfl (fun KK hKK => ?_) (AllReadyH.cons rfl (fun KK hKK => ?_) AllReadyH.nil))
        · go_simp
          refine (lentInts_any va nv vc V _ (HVw.out.same HS.out) (by omega)).mono ?_
          rintro e V2 ⟨rfl, hg, hB⟩
          dsimp only
          have hq2 := HS.out.size
          have hlt2 := hg.lt13
          have HG2 := Lib.hid hg
          have h0 := HG1.out.same hB
          have HG1 := Lib.hid h0
          clear h0
          have h0 := HS.out.trans (hB.mono HS.out.size)
          have HS := Lib.hid h0
          clear h0 hB hg
          refine hKK.out _ _ (HS.out) (fun hHeld => ?_)
          clear hKK KK
          try simp only [Act.put, List.setIfInBounds_toArray, List.set_cons_zero, List.set_cons_succ]
          refine wpAnyH_ready (rs := [10, 12]) (by kernel_rfl) (by simp) (AllReadyH.cons rfl (fun KK hKK => ?_) (AllReadyH.cons rfl (fun KK hKK => ?_) AllReadyH.nil))
          · go_simp
            refine (lentInts_any wa nm wc W _ (HWw.out.same HS.out) (by omega)).mono ?_
            rintro e V3 ⟨rfl, hg, hB⟩
            dsimp only
            have hq3 := HS.out.size
            have hlt3 := hg.lt13
            have HG3 := Lib.hid hg
            have h0 := HG1.out.same hB
            have HG1 := Lib.hid h0
            clear h0
            have h0 := HG2.out.same hB
            have HG2 := Lib.hid h0
            clear h0
            have h0 := HS.out.trans (hB.mono HS.out.size)
            have HS := Lib.hid h0
            clear h0 hB hg
            refine hKK.out _ _ (HS.out) (fun hHeld => ?_)
            clear hKK KK
            try simp only [Act.put, List.setIfInBounds_toArray, List.set_cons_zero, List.set_cons_succ]
            refine wpAnyH_take (i := 11) (oi := ⟨some 51, _, _, _, _, none⟩) (v := (.agg #[.int .i64 N, .int .i64 M, .int .i64 B, .slice (some ⟨wd.heap.size, 0, none⟩) nl (nl + 12), .slice (some ⟨V1.heap.size, 0, none⟩) nv (nv + 12), .slice (some ⟨V2.heap.size, 0, none⟩) nm (nm + 12)])) rfl (by kernel_rfl) (by kernel_rfl) (by kernel_rfl) (fun _ _ _ h => h) (Or.inl ⟨by rfl, fun W hW => ?_⟩) (by assumption) ?_
            · go_simp
            simp only [Act.put, List.setIfInBounds_toArray, List.set_cons_zero, List.set_cons_succ]
            refine wpAnyH_ready (rs := [12]) (by kernel_rfl) (by simp) (AllReadyH.cons rfl (fun KK hKK => ?_) AllReadyH.nil)
            go_simp
            have HSl := HS; have HG1l := HG1; have HG2l := HG2; have HG3l := HG3
            have hal := (Below.refl V3.heap.size V3).alloc (Nat.le_refl _) (.cells #[.int .i64 0, .int .i64 0, .int .i64 0, .slice none 0 0, .slice none 0 0, .slice none 0 0] 26)
            have h0 := HG1.out.same hal
            have HG1 := Lib.hid h0
            clear h0
            have h0 := HG2.out.same hal
            have HG2 := Lib.hid h0
            clear h0
            have h0 := HG3.out.same hal
            have HG3 := Lib.hid h0
            clear h0
            have hsz := HS.out.size
            have HZS := Lib.hid hsz
            have HTZ := Lib.hid (show TAt (V3.alloc (.cells #[.int .i64 0, .int .i64 0, .int .i64 0, .slice none 0 0, .slice none 0 0, .slice none 0 0] 26)) V3.heap.size 26 0 0 0 none 0 0 none 0 0 none 0 0 from heap_alloc_new _ _)
            have h0 := HS.out.trans (hal.mono HS.out.size)
            have HS := Lib.hid h0
            clear h0 hal hsz
            refine hKK.out _ _ (HS.out) (fun hHeld => ?_)
            clear hKK KK
            try simp only [Act.put, List.setIfInBounds_toArray, List.set_cons_zero, List.set_cons_succ]
            have hal := (Below.refl V3.heap.size V3).alloc (Nat.le_refl _) (.cells #[.int .i64 N, .int .i64 M, .int .i64 B, .slice (some ⟨wd.heap.size, 0, none⟩) nl (nl + 12), .slice (some ⟨V1.heap.size, 0, none⟩) nv (nv + 12), .slice (some ⟨V2.heap.size, 0, none⟩) nm (nm + 12)] 26)
            refine wpAnyH_ready (rs := [13]) (by kernel_rfl) (by simp) (AllReadyH.cons rfl (fun KK hKK => ?_) AllReadyH.nil)
            go_simp
            refine hKK.out _ _ (HSl.out.trans (hal.mono HSl.out.size)) (fun hHeld => ?_)
            clear hKK KK
            try simp only [Act.put, List.setIfInBounds_toArray, List.set_cons_zero, List.set_cons_succ]
            refine wpAnyH_done (by kernel_rfl) ?_ _
            have HALL := Lib.hid (show Rdy w0 (V3.alloc (.cells #[.int .i64 N, .int .i64 M, .int .i64 B, .slice (some ⟨wd.heap.size, 0, none⟩) nl (nl + 12), .slice (some ⟨V1.heap.size, 0, none⟩) nv (nv + 12), .slice (some ⟨V2.heap.size, 0, none⟩) nm (nm + 12)] 26)) wd.heap.size V1.heap.size V2.heap.size V3.heap.size 26 N M B nl nv nm L V W from ⟨hq1, hlt1, hlt2, HSl.out.trans (hal.mono HSl.out.size), HG1l.out.same hal, HG2l.out.same hal, HG3l.out.same hal, heap_alloc_new _ _⟩)
            generalize (V3.alloc (.cells #[.int .i64 N, .int .i64 M, .int .i64 B, .slice (some ⟨wd.heap.size, 0, none⟩) nl (nl + 12), .slice (some ⟨V1.heap.size, 0, none⟩) nv (nv + 12), .slice (some ⟨V2.heap.size, 0, none⟩) nm (nm + 12)] 26)) = W9 at HALL ⊢
            generalize V3.heap.size = gz at HALL ⊢
            generalize V2.heap.size = g3 at HALL ⊢
            generalize V1.heap.size = g2 at HALL ⊢
            generalize wd.heap.size = g1 at HALL ⊢
            revert HALL gz g3 g2 g1 W9
            exact HGH.out
          · go_simp
            have hal := (Below.refl V2.heap.size V2).alloc (Nat.le_refl _) (.cells #[.int .i64 0, .int .i64 0, .int .i64 0, .slice none 0 0, .slice none 0 0, .slice none 0 0] 26)
            have h0 := HG1.out.same hal
            have HG1 := Lib.hid h0
            clear h0
            have h0 := HG2.out.same hal
            have HG2 := Lib.hid h0
            clear h0
            have hsz := HS.out.size
            have HZS := Lib.hid hsz
            have HTZ := Lib.hid (show TAt (V2.alloc (.cells #[.int .i64 0, .int .i64 0, .int .i64 0, .slice none 0 0, .slice none 0 0, .slice none 0 0] 26)) V2.heap.size 26 0 0 0 none 0 0 none 0 0 none 0 0 from heap_alloc_new _ _)
            have h0 := HS.out.trans (hal.mono HS.out.size)
            have HS := Lib.hid h0
            clear h0 hal hsz
            refine hKK.out _ _ (HS.out) (fun hHeld => ?_)
            clear hKK KK
            try simp only [Act.put, List.setIfInBounds_toArray, List.set_cons_zero, List.set_cons_succ]
            have HZL := Lib.hid (show V2.heap.size < (V2.alloc (.cells #[.int .i64 0, .int .i64 0, .int .i64 0, .slice none 0 0, .slice none 0 0, .slice none 0 0] 26)).heap.size by rw [World.size_alloc]; omega)
            obtain ⟨U3, hU3⟩ : ∃ U, U = (V2.alloc (.cells #[.int .i64 0, .int .i64 0, .int .i64 0, .slice none 0 0, .slice none 0 0, .slice none 0 0] 26)) := ⟨_, rfl⟩
            rw [← hU3] at HS HTZ hHeld HZL ⊢
            rw [← hU3] at HG1
            rw [← hU3] at HG2
            clear hU3
            refine wpAnyH_ready (rs := [10]) (by kernel_rfl) (by simp) (AllReadyH.cons rfl (fun KK hKK => ?_) AllReadyH.nil)
            go_simp
            refine (lentInts_any wa nm wc W _ (HWw.out.same HS.out) (by omega)).mono ?_
            rintro e V4 ⟨rfl, hg, hB⟩
            dsimp only
            have hq3 := HS.out.size
            have hlt3 := hg.lt13
            have HG3 := Lib.hid hg
            have h0 := HG1.out.same hB
            have HG1 := Lib.hid h0
            clear h0
            have h0 := HG2.out.same hB
            have HG2 := Lib.hid h0
            clear h0
            have h0 := HTZ.out.same hB
            have HTZ := Lib.hid h0
            clear h0
            have h0 := HS.out.trans (hB.mono HS.out.size)
            have HS := Lib.hid h0
            clear h0 hB hg
            refine hKK.out _ _ (HS.out) (fun hHeld => ?_)
            clear hKK KK
            try simp only [Act.put, List.setIfInBounds_toArray, List.set_cons_zero, List.set_cons_succ]
            refine wpAnyH_take (i := 11) (oi := ⟨some 51, _, _, _, _, none⟩) (v := (.agg #[.int .i64 N, .int .i64 M, .int .i64 B, .slice (some ⟨wd.heap.size, 0, none⟩) nl (nl + 12), .slice (some ⟨V1.heap.size, 0, none⟩) nv (nv + 12), .slice (some ⟨U3.heap.size, 0, none⟩) nm (nm + 12)])) rfl (by kernel_rfl) (by kernel_rfl) (by kernel_rfl) (fun _ _ _ h => h) (Or.inl ⟨by rfl, fun W hW => ?_⟩) (by assumption) ?_
            · go_simp
            simp only [Act.put, List.setIfInBounds_toArray, List.set_cons_zero, List.set_cons_succ]
            obtain ⟨z0, z1, z2, z3, z4, z5⟩ := HTZ.out.c
            have f0 := HTZ.out.free 0
            have f1 := HTZ.out.free 1
            have f2 := HTZ.out.free 2
            have f3 := HTZ.out.free 3
            have f4 := HTZ.out.free 4
            have f5 := HTZ.out.free 5
            have hq0 : w0.heap.size ≤ V2.heap.size := HZS.out
            have hZL := HZL.out
            have hbel := below_six HS.out hq0 (.int .i64 N) (.int .i64 M) (.int .i64 B) (.slice (some ⟨wd.heap.size, 0, none⟩) nl (nl + 12)) (.slice (some ⟨V1.heap.size, 0, none⟩) nv (nv + 12)) (.slice (some ⟨U3.heap.size, 0, none⟩) nm (nm + 12))
            refine wpAnyH_ready (rs := [13]) (by kernel_rfl) (by simp) (AllReadyH.cons rfl (fun KK hKK => ?_) AllReadyH.nil)
            go_simp
            refine hKK.out _ _ hbel (fun hHeld => ?_)
            clear hKK KK
            try simp only [Act.put, List.setIfInBounds_toArray, List.set_cons_zero, List.set_cons_succ]
            refine wpAnyH_done (by kernel_rfl) ?_ _
            exact HGH.out _ _ _ _ _ (Lib.hid ⟨hq1, by omega, by omega, hbel, kept_six HG1.out (by omega) (.int .i64 N) (.int .i64 M) (.int .i64 B) (.slice (some ⟨wd.heap.size, 0, none⟩) nl (nl + 12)) (.slice (some ⟨V1.heap.size, 0, none⟩) nv (nv + 12)) (.slice (some ⟨U3.heap.size, 0, none⟩) nm (nm + 12)), kept_six HG2.out (by omega) (.int .i64 N) (.int .i64 M) (.int .i64 B) (.slice (some ⟨wd.heap.size, 0, none⟩) nl (nl + 12)) (.slice (some ⟨V1.heap.size, 0, none⟩) nv (nv + 12)) (.slice (some ⟨U3.heap.size, 0, none⟩) nm (nm + 12)), kept_six HG3.out (by omega) (.int .i64 N) (.int .i64 M) (.int .i64 B) (.slice (some ⟨wd.heap.size, 0, none⟩) nl (nl + 12)) (.slice (some ⟨V1.heap.size, 0, none⟩) nv (nv + 12)) (.slice (some ⟨U3.heap.size, 0, none⟩) nm (nm + 12)), put_six HTZ.out (.int .i64 N) (.int .i64 M) (.int .i64 B) (.slice (some ⟨wd.heap.size, 0, none⟩) nl (nl + 12)) (.slice (some ⟨V1.heap.size, 0, none⟩) nv (nv + 12)) (.slice (some ⟨U3.heap.size, 0, none⟩) nm (nm + 12))⟩)
        · go_simp
          have hal := (Below.refl V1.heap.size V1).alloc (Nat.le_refl _) (.cells #[.int .i64 0, .int .i64 0, .int .i64 0, .slice none 0 0, .slice none 0 0, .slice none 0 0] 26)
          have h0 := HG1.out.same hal
          have HG1 := Lib.hid h0
          clear h0
          have hsz := HS.out.size
          have HZS := Lib.hid hsz
          have HTZ := Lib.hid (show TAt (V1.alloc (.cells #[.int .i64 0, .int .i64 0, .int .i64 0, .slice none 0 0, .slice none 0 0, .slice none 0 0] 26)) V1.heap.size 26 0 0 0 none 0 0 none 0 0 none 0 0 from heap_alloc_new _ _)
          have h0 := HS.out.trans (hal.mono HS.out.size)
          have HS := Lib.hid h0
          clear h0 hal hsz
          refine hKK.out _ _ (HS.out) (fun hHeld => ?_)
          clear hKK KK
          try simp only [Act.put, List.setIfInBounds_toArray, List.set_cons_zero, List.set_cons_succ]
          have HZL := Lib.hid (show V1.heap.size < (V1.alloc (.cells #[.int .i64 0, .int .i64 0, .int .i64 0, .slice none 0 0, .slice none 0 0, .slice none 0 0] 26)).heap.size by rw [World.size_alloc]; omega)
          obtain ⟨U2, hU2⟩ : ∃ U, U = (V1.alloc (.cells #[.int .i64 0, .int .i64 0, .int .i64 0, .slice none 0 0, .slice none 0 0, .slice none 0 0] 26)) := ⟨_, rfl⟩
          rw [← hU2] at HS HTZ hHeld HZL ⊢
          rw [← hU2] at HG1
          clear hU2
          refine wpAnyH_ready (rs := [7]) (by kernel_rfl) (by simp) (AllReadyH.cons rfl (fun KK hKK => ?_) AllReadyH.nil)
          go_simp
          refine (lentInts_any va nv vc V _ (HVw.out.same HS.out) (by omega)).mono ?_
          rintro e V3 ⟨rfl, hg, hB⟩
          dsimp only
          have hq2 := HS.out.size
          have hlt2 := hg.lt13
          have HG2 := Lib.hid hg
          have h0 := HG1.out.same hB
          have HG1 := Lib.hid h0
          clear h0
          have h0 := HTZ.out.same hB
          have HTZ := Lib.hid h0
          clear h0
          have h0 := HS.out.trans (hB.mono HS.out.size)
          have HS := Lib.hid h0
          clear h0 hB hg
          refine hKK.out _ _ (HS.out) (fun hHeld => ?_)
          clear hKK KK
          try simp only [Act.put, List.setIfInBounds_toArray, List.set_cons_zero, List.set_cons_succ]
          refine wpAnyH_ready (rs := [10]) (by kernel_rfl) (by simp) (AllReadyH.cons rfl (fun KK hKK => ?_) AllReadyH.nil)
          go_simp
          refine (lentInts_any wa nm wc W _ (HWw.out.same HS.out) (by omega)).mono ?_
          rintro e V4 ⟨rfl, hg, hB⟩
          dsimp only
          have hq3 := HS.out.size
          have hlt3 := hg.lt13
          have HG3 := Lib.hid hg
          have h0 := HG1.out.same hB
          have HG1 := Lib.hid h0
          clear h0
          have h0 := HG2.out.same hB
          have HG2 := Lib.hid h0
          clear h0
          have h0 := HTZ.out.same hB
          have HTZ := Lib.hid h0
          clear h0
          have h0 := HS.out.trans (hB.mono HS.out.size)
          have HS := Lib.hid h0
          clear h0 hB hg
          refine hKK.out _ _ (HS.out) (fun hHeld => ?_)
          clear hKK KK
          try simp only [Act.put, List.setIfInBounds_toArray, List.set_cons_zero, List.set_cons_succ]
          refine wpAnyH_take (i := 11) (oi := ⟨some 51, _, _, _, _, none⟩) (v := (.agg #[.int .i64 N, .int .i64 M, .int .i64 B, .slice (some ⟨wd.heap.size, 0, none⟩) nl (nl + 12), .slice (some ⟨U2.heap.size, 0, none⟩) nv (nv + 12), .slice (some ⟨V3.heap.size, 0, none⟩) nm (nm + 12)])) rfl (by kernel_rfl) (by kernel_rfl) (by kernel_rfl) (fun _ _ _ h => h) (Or.inl ⟨by rfl, fun W hW => ?_⟩) (by assumption) ?_
          · go_simp
          simp only [Act.put, List.setIfInBounds_toArray, List.set_cons_zero, List.set_cons_succ]
          obtain ⟨z0, z1, z2, z3, z4, z5⟩ := HTZ.out.c
          have f0 := HTZ.out.free 0
          have f1 := HTZ.out.free 1
          have f2 := HTZ.out.free 2
          have f3 := HTZ.out.free 3
          have f4 := HTZ.out.free 4
          have f5 := HTZ.out.free 5
          have hq0 : w0.heap.size ≤ V1.heap.size := HZS.out
          have hZL := HZL.out
          have hbel := below_six HS.out hq0 (.int .i64 N) (.int .i64 M) (.int .i64 B) (.slice (some ⟨wd.heap.size, 0, none⟩) nl (nl + 12)) (.slice (some ⟨U2.heap.size, 0, none⟩) nv (nv + 12)) (.slice (some ⟨V3.heap.size, 0, none⟩) nm (nm + 12))
          refine wpAnyH_ready (rs := [13]) (by kernel_rfl) (by simp) (AllReadyH.cons rfl (fun KK hKK => ?_) AllReadyH.nil)
          go_simp
          refine hKK.out _ _ hbel (fun hHeld => ?_)
          clear hKK KK
          try simp only [Act.put, List.setIfInBounds_toArray, List.set_cons_zero, List.set_cons_succ]
          refine wpAnyH_done (by kernel_rfl) ?_ _
          exact HGH.out _ _ _ _ _ (Lib.hid ⟨hq1, by omega, by omega, hbel, kept_six HG1.out (by omega) (.int .i64 N) (.int .i64 M) (.int .i64 B) (.slice (some ⟨wd.heap.size, 0, none⟩) nl (nl + 12)) (.slice (some ⟨U2.heap.size, 0, none⟩) nv (nv + 12)) (.slice (some ⟨V3.heap.size, 0, none⟩) nm (nm + 12)), kept_six HG2.out (by omega) (.int .i64 N) (.int .i64 M) (.int .i64 B) (.slice (some ⟨wd.heap.size, 0, none⟩) nl (nl + 12)) (.slice (some ⟨U2.heap.size, 0, none⟩) nv (nv + 12)) (.slice (some ⟨V3.heap.size, 0, none⟩) nm (nm + 12)), kept_six HG3.out (by omega) (.int .i64 N) (.int .i64 M) (.int .i64 B) (.slice (some ⟨wd.heap.size, 0, none⟩) nl (nl + 12)) (.slice (some ⟨U2.heap.size, 0, none⟩) nv (nv + 12)) (.slice (some ⟨V3.heap.size, 0, none⟩) nm (nm + 12)), put_six HTZ.out (.int .i64 N) (.int .i64 M) (.int .i64 B) (.slice (some ⟨wd.heap.size, 0, none⟩) nl (nl + 12)) (.slice (some ⟨U2.heap.size, 0, none⟩) nv (nv + 12)) (.slice (some ⟨V3.heap.size, 0, none⟩) nm (nm + 12))⟩)
      · go_simp
        have hal := (Below.refl wd.heap.size wd).alloc (Nat.le_refl _) (.cells #[.int .i64 0, .int .i64 0, .int .i64 0, .slice none 0 0, .slice none 0 0, .slice none 0 0] 26)
        have hsz := HS.out.size
        have HZS := Lib.hid hsz
        have HTZ := Lib.hid (show TAt (wd.alloc (.cells #[.int .i64 0, .int .i64 0, .int .i64 0, .slice none 0 0, .slice none 0 0, .slice none 0 0] 26)) wd.heap.size 26 0 0 0 none 0 0 none 0 0 none 0 0 from heap_alloc_new _ _)
        have h0 := HS.out.trans (hal.mono HS.out.size)
        have HS := Lib.hid h0
        clear h0 hal hsz
        refine hKK.out _ _ (HS.out) (fun hHeld => ?_)
        clear hKK KK
        try simp only [Act.put, List.setIfInBounds_toArray, List.set_cons_zero, List.set_cons_succ]
        have HZL := Lib.hid (show wd.heap.size < (wd.alloc (.cells #[.int .i64 0, .int .i64 0, .int .i64 0, .slice none 0 0, .slice none 0 0, .slice none 0 0] 26)).heap.size by rw [World.size_alloc]; omega)
        obtain ⟨U1, hU1⟩ : ∃ U, U = (wd.alloc (.cells #[.int .i64 0, .int .i64 0, .int .i64 0, .slice none 0 0, .slice none 0 0, .slice none 0 0] 26)) := ⟨_, rfl⟩
        rw [← hU1] at HS HTZ hHeld HZL ⊢
        clear hU1
        refine wpAnyH_ready (rs := [4]) (by kernel_rfl) (by simp) (AllReadyH.cons rfl (fun KK hKK => ?_) AllReadyH.nil)
        go_simp
        refine (lentInts_any la nl lc L _ (HLw.out.same HS.out) (by omega)).mono ?_
        rintro e V2 ⟨rfl, hg, hB⟩
        dsimp only
        have hq1 := HS.out.size
        have hlt1 := hg.lt13
        have HG1 := Lib.hid hg
        have h0 := HTZ.out.same hB
        have HTZ := Lib.hid h0
        clear h0
        have h0 := HS.out.trans (hB.mono HS.out.size)
        have HS := Lib.hid h0
        clear h0 hB hg
        refine hKK.out _ _ (HS.out) (fun hHeld => ?_)
        clear hKK KK
        try simp only [Act.put, List.setIfInBounds_toArray, List.set_cons_zero, List.set_cons_succ]
        refine wpAnyH_ready (rs := [7]) (by kernel_rfl) (by simp) (AllReadyH.cons rfl (fun KK hKK => ?_) AllReadyH.nil)
        go_simp
        refine (lentInts_any va nv vc V _ (HVw.out.same HS.out) (by omega)).mono ?_
        rintro e V3 ⟨rfl, hg, hB⟩
        dsimp only
        have hq2 := HS.out.size
        have hlt2 := hg.lt13
        have HG2 := Lib.hid hg
        have h0 := HG1.out.same hB
        have HG1 := Lib.hid h0
        clear h0
        have h0 := HTZ.out.same hB
        have HTZ := Lib.hid h0
        clear h0
        have h0 := HS.out.trans (hB.mono HS.out.size)
        have HS := Lib.hid h0
        clear h0 hB hg
        refine hKK.out _ _ (HS.out) (fun hHeld => ?_)
        clear hKK KK
        try simp only [Act.put, List.setIfInBounds_toArray, List.set_cons_zero, List.set_cons_succ]
        refine wpAnyH_ready (rs := [10]) (by kernel_rfl) (by simp) (AllReadyH.cons rfl (fun KK hKK => ?_) AllReadyH.nil)
        go_simp
        refine (lentInts_any wa nm wc W _ (HWw.out.same HS.out) (by omega)).mono ?_
        rintro e V4 ⟨rfl, hg, hB⟩
        dsimp only
        have hq3 := HS.out.size
        have hlt3 := hg.lt13
        have HG3 := Lib.hid hg
        have h0 := HG1.out.same hB
        have HG1 := Lib.hid h0
        clear h0
        have h0 := HG2.out.same hB
        have HG2 := Lib.hid h0
        clear h0
        have h0 := HTZ.out.same hB
        have HTZ := Lib.hid h0
        clear h0
        have h0 := HS.out.trans (hB.mono HS.out.size)
        have HS := Lib.hid h0
        clear h0 hB hg
        refine hKK.out _ _ (HS.out) (fun hHeld => ?_)
        clear hKK KK
        try simp only [Act.put, List.setIfInBounds_toArray, List.set_cons_zero, List.set_cons_succ]
        refine wpAnyH_take (i := 11) (oi := ⟨some 51, _, _, _, _, none⟩) (v := (.agg #[.int .i64 N, .int .i64 M, .int .i64 B, .slice (some ⟨U1.heap.size, 0, none⟩) nl (nl + 12), .slice (some ⟨V2.heap.size, 0, none⟩) nv (nv + 12), .slice (some ⟨V3.heap.size, 0, none⟩) nm (nm + 12)])) rfl (by kernel_rfl) (by kernel_rfl) (by kernel_rfl) (fun _ _ _ h => h) (Or.inl ⟨by rfl, fun W hW => ?_⟩) (by assumption) ?_
        · go_simp
        simp only [Act.put, List.setIfInBounds_toArray, List.set_cons_zero, List.set_cons_succ]
        obtain ⟨z0, z1, z2, z3, z4, z5⟩ := HTZ.out.c
        have f0 := HTZ.out.free 0
        have f1 := HTZ.out.free 1
        have f2 := HTZ.out.free 2
        have f3 := HTZ.out.free 3
        have f4 := HTZ.out.free 4
        have f5 := HTZ.out.free 5
        have hq0 : w0.heap.size ≤ wd.heap.size := HZS.out
        have hZL := HZL.out
        have hbel := below_six HS.out hq0 (.int .i64 N) (.int .i64 M) (.int .i64 B) (.slice (some ⟨U1.heap.size, 0, none⟩) nl (nl + 12)) (.slice (some ⟨V2.heap.size, 0, none⟩) nv (nv + 12)) (.slice (some ⟨V3.heap.size, 0, none⟩) nm (nm + 12))
        refine wpAnyH_ready (rs := [13]) (by kernel_rfl) (by simp) (AllReadyH.cons rfl (fun KK hKK => ?_) AllReadyH.nil)
        go_simp
        refine hKK.out _ _ hbel (fun hHeld => ?_)
        clear hKK KK
        try simp only [Act.put, List.setIfInBounds_toArray, List.set_cons_zero, List.set_cons_succ]
        refine wpAnyH_done (by kernel_rfl) ?_ _
        exact HGH.out _ _ _ _ _ (Lib.hid ⟨hq1, by omega, by omega, hbel, kept_six HG1.out (by omega) (.int .i64 N) (.int .i64 M) (.int .i64 B) (.slice (some ⟨U1.heap.size, 0, none⟩) nl (nl + 12)) (.slice (some ⟨V2.heap.size, 0, none⟩) nv (nv + 12)) (.slice (some ⟨V3.heap.size, 0, none⟩) nm (nm + 12)), kept_six HG2.out (by omega) (.int .i64 N) (.int .i64 M) (.int .i64 B) (.slice (some ⟨U1.heap.size, 0, none⟩) nl (nl + 12)) (.slice (some ⟨V2.heap.size, 0, none⟩) nv (nv + 12)) (.slice (some ⟨V3.heap.size, 0, none⟩) nm (nm + 12)), kept_six HG3.out (by omega) (.int .i64 N) (.int .i64 M) (.int .i64 B) (.slice (some ⟨U1.heap.size, 0, none⟩) nl (nl + 12)) (.slice (some ⟨V2.heap.size, 0, none⟩) nv (nv + 12)) (.slice (some ⟨V3.heap.size, 0, none⟩) nm (nm + 12)), put_six HTZ.out (.int .i64 N) (.int .i64 M) (.int .i64 B) (.slice (some ⟨U1.heap.size, 0, none⟩) nl (nl + 12)) (.slice (some ⟨V2.heap.size, 0, none⟩) nv (nv + 12)) (.slice (some ⟨V3.heap.size, 0, none⟩) nm (nm + 12))⟩)
    case shG2 =>
      intro W9 gz g3 g2 g1 HALL
      have hlo := HALL.out.lo; have hl1 := HALL.out.l1; have hl2 := HALL.out.l2
      have HG1 := Lib.hid HALL.out.b1; have HG2 := Lib.hid HALL.out.b2; have HG3 := Lib.hid HALL.out.b3; have HS := Lib.hid HALL.out.be; have HT := Lib.hid HALL.out.ta
      clear HALL
      obtain ⟨z0, z1, z2, z3, z4, z5⟩ := HT.out.c
      go_wp2_with fail
      clear z0 z1 z2 z3 z4 z5
      refine (HBE.out (some ⟨g1, 0, none⟩) (some ⟨g2, 0, none⟩) (some ⟨g3, 0, none⟩) (nl + 12) (nv + 12) (nm + 12) _ (blk_si _ HG1.out) (blk_si _ HG2.out) (blk_si _ HG3.out)).mono ?_
      rintro e w1 ⟨hbs, hB⟩
      obtain ⟨a1, c1, rfl, ho⟩ := HBB.out _ _ _ hbs
      have HO1 := Lib.hid ho; have hs9 := (HS.out.size); have hg39 := HG3.out.lt13
      clear ho hbs
      have h0 := HG1.out.same hB
      have HG1 := Lib.hid h0
      clear h0
      have h0 := HG2.out.same hB
      have HG2 := Lib.hid h0
      clear h0
      have h0 := HG3.out.same hB
      have HG3 := Lib.hid h0
      clear h0
      have h0 := HT.out.same hB
      have HT := Lib.hid h0
      clear h0
      have h0 := HS.out.trans (hB.mono HS.out.size)
      have HS := Lib.hid h0
      clear h0 hB
      obtain ⟨z0, z1, z2, z3, z4, z5⟩ := (HX0.out.same HS.out).c
      go_wp2_with fail
      clear z0 z1 z2 z3 z4 z5
      refine (HTH.out _).mono ?_
      rintro e w2 ⟨rfl, hB⟩
      have h0 := HG1.out.same hB
      have HG1 := Lib.hid h0
      clear h0
      have h0 := HG2.out.same hB
      have HG2 := Lib.hid h0
      clear h0
      have h0 := HG3.out.same hB
      have HG3 := Lib.hid h0
      clear h0
      have h0 := HT.out.same hB
      have HT := Lib.hid h0
      clear h0
      have h0 := own_below HO1.out hB
      have HO1 := Lib.hid h0
      clear h0
      have h0 := HS.out.trans (hB.mono HS.out.size)
      have HS := Lib.hid h0
      clear h0 hB
      go_wp2_with fail
      refine (HRB.out _ (HLw.out.same HS.out).si (HVw.out.same HS.out).si (HWw.out.same HS.out).si).mono ?_
      rintro e w3 ⟨hbs, hB⟩
      obtain ⟨a2, c2, rfl, ho⟩ := HBB.out _ _ _ hbs
      have HO2 := Lib.hid ho
      clear ho hbs
      have h0 := HG1.out.same hB
      have HG1 := Lib.hid h0
      clear h0
      have h0 := HG2.out.same hB
      have HG2 := Lib.hid h0
      clear h0
      have h0 := HG3.out.same hB
      have HG3 := Lib.hid h0
      clear h0
      have h0 := HT.out.same hB
      have HT := Lib.hid h0
      clear h0
      have h0 := own_below HO1.out hB
      have HO1 := Lib.hid h0
      clear h0
      have h0 := HS.out.trans (hB.mono HS.out.size)
      have HS := Lib.hid h0
      clear h0 hB
      obtain ⟨z0, z1, z2, z3, z4, z5⟩ := HT.out.c
      go_wp2_with fail
      clear z0 z1 z2 z3 z4 z5
      refine (HSC.out (some ⟨g1, 0, none⟩) (some ⟨g2, 0, none⟩) (some ⟨g3, 0, none⟩) (nl + 12) (nv + 12) (nm + 12) _ (blk_si _ HG1.out) (blk_si _ HG2.out) (blk_si _ HG3.out)).mono ?_
      rintro e w4 ⟨hbs, hB⟩
      obtain rfl := HSB.out _ hbs
      clear hbs
      have h0 := HG1.out.same hB
      have HG1 := Lib.hid h0
      clear h0
      have h0 := HG2.out.same hB
      have HG2 := Lib.hid h0
      clear h0
      have h0 := HG3.out.same hB
      have HG3 := Lib.hid h0
      clear h0
      have h0 := HT.out.same hB
      have HT := Lib.hid h0
      clear h0
      have h0 := own_below HO1.out hB
      have HO1 := Lib.hid h0
      clear h0
      have h0 := own_below HO2.out hB
      have HO2 := Lib.hid h0
      clear h0
      have h0 := HS.out.trans (hB.mono HS.out.size)
      have HS := Lib.hid h0
      clear h0 hB
      obtain ⟨z0, z1, z2, z3, z4, z5⟩ := (HX0.out.same HS.out).c
      go_wp2_with fail
      clear z0 z1 z2 z3 z4 z5
      refine (HTH.out _).mono ?_
      rintro e w5 ⟨rfl, hB⟩
      have h0 := HG1.out.same hB
      have HG1 := Lib.hid h0
      clear h0
      have h0 := HG2.out.same hB
      have HG2 := Lib.hid h0
      clear h0
      have h0 := HG3.out.same hB
      have HG3 := Lib.hid h0
      clear h0
      have h0 := HT.out.same hB
      have HT := Lib.hid h0
      clear h0
      have h0 := own_below HO1.out hB
      have HO1 := Lib.hid h0
      clear h0
      have h0 := own_below HO2.out hB
      have HO2 := Lib.hid h0
      clear h0
      have h0 := HS.out.trans (hB.mono HS.out.size)
      have HS := Lib.hid h0
      clear h0 hB
      go_wp2_with fail
      refine (HRS.out _ (HLw.out.same HS.out).si (HVw.out.same HS.out).si (HWw.out.same HS.out).si).mono ?_
      rintro e w6 ⟨hbs, hB⟩
      obtain rfl := HSB.out _ hbs
      clear hbs
      have h0 := HG1.out.same hB
      have HG1 := Lib.hid h0
      clear h0
      have h0 := HG2.out.same hB
      have HG2 := Lib.hid h0
      clear h0
      have h0 := HG3.out.same hB
      have HG3 := Lib.hid h0
      clear h0
      have h0 := HT.out.same hB
      have HT := Lib.hid h0
      clear h0
      have h0 := own_below HO1.out hB
      have HO1 := Lib.hid h0
      clear h0
      have h0 := own_below HO2.out hB
      have HO2 := Lib.hid h0
      clear h0
      have h0 := HS.out.trans (hB.mono HS.out.size)
      have HS := Lib.hid h0
      clear h0 hB
      obtain ⟨z0, z1, z2, z3, z4, z5⟩ := HT.out.c
      go_wp2_with fail
      clear z0 z1 z2 z3 z4 z5
      have HW := Lib.hid (show Below w6.heap.size w6 w6.drew from (Below.refl _ w6).drew)
      refine wp_region_held_drew (S := fun W => Below w6.heap.size w6 W) (by kernel_rfl) (HW.out) (fun hHeld => ?_)
      refine wpAnyH_take (i := 0) (oi := ⟨some 74, _, _, _, _, none⟩) (v := (.int .i64 bE)) rfl (by kernel_rfl) (by kernel_rfl) (by kernel_rfl) (fun _ _ _ h => h) (Or.inl ⟨by rfl, fun W hW => ?_⟩) (by assumption) ?_
      · go_simp
      simp only [Act.put, List.setIfInBounds_toArray, List.set_cons_zero, List.set_cons_succ]
      refine wpAnyH_take (i := 1) (oi := ⟨some 75, _, _, _, _, none⟩) (v := (.int .i64 bE)) rfl (by kernel_rfl) (by kernel_rfl) (by kernel_rfl) (fun _ _ _ h => h) (Or.inl ⟨by rfl, fun W hW => ?_⟩) (by assumption) ?_
      · go_simp
      simp only [Act.put, List.setIfInBounds_toArray, List.set_cons_zero, List.set_cons_succ]
      refine wpAnyH_take (i := 2) (oi := ⟨some 76, _, _, _, _, none⟩) (v := (.bool true)) rfl (by kernel_rfl) (by kernel_rfl) (by kernel_rfl) (fun _ _ _ h => h) (Or.inl ⟨by rfl, fun W hW => ?_⟩) (by assumption) ?_
      · go_simp
      simp only [Act.put, List.setIfInBounds_toArray, List.set_cons_zero, List.set_cons_succ]
      refine wpAnyH_take (i := 3) (oi := ⟨some 77, _, _, _, _, none⟩) (v := (.bool true)) rfl (by kernel_rfl) (by kernel_rfl) (by kernel_rfl) (fun _ _ _ h => h) (Or.inl ⟨by rfl, fun W hW => ?_⟩) (by assumption) ?_
      · go_simp
      simp only [Act.put, List.setIfInBounds_toArray, List.set_cons_zero, List.set_cons_succ]
      refine wpAnyH_take (i := 4) (oi := ⟨some 78, _, _, _, _, some (3, true)⟩) (v := (.int .i64 qE)) rfl (by kernel_rfl) (by kernel_rfl) (by kernel_rfl) (fun _ _ _ h => h) (Or.inl ⟨by rfl, fun W hW => ?_⟩) (by assumption) ?_
      · go_simp
      simp only [Act.put, List.setIfInBounds_toArray, List.set_cons_zero, List.set_cons_succ]
      refine wpAnyH_take (i := 5) (oi := ⟨some 79, _, _, _, _, some (3, true)⟩) (v := (.int .i64 qE)) rfl (by kernel_rfl) (by kernel_rfl) (by kernel_rfl) (fun _ _ _ h => h) (Or.inl ⟨by rfl, fun W hW => ?_⟩) (by assumption) ?_
      · go_simp
      simp only [Act.put, List.setIfInBounds_toArray, List.set_cons_zero, List.set_cons_succ]
      refine wpAnyH_take (i := 6) (oi := ⟨some 80, _, _, _, _, some (3, true)⟩) (v := (.bool true)) rfl (by kernel_rfl) (by kernel_rfl) (by kernel_rfl) (fun _ _ _ h => h) (Or.inl ⟨by rfl, fun W hW => ?_⟩) (by assumption) ?_
      · go_simp
      simp only [Act.put, List.setIfInBounds_toArray, List.set_cons_zero, List.set_cons_succ]
      refine wpAnyH_take (i := 7) (oi := ⟨some 81, _, _, _, _, none⟩) (v := (.bool true)) rfl (by kernel_rfl) (by kernel_rfl) (by kernel_rfl) (fun _ _ _ h => h) (Or.inl ⟨by rfl, fun W hW => ?_⟩) (by assumption) ?_
      · go_simp
      simp only [Act.put, List.setIfInBounds_toArray, List.set_cons_zero, List.set_cons_succ]
      refine wpAnyH_take (i := 8) (oi := ⟨some 82, _, _, _, _, none⟩) (v := (.bool true)) rfl (by kernel_rfl) (by kernel_rfl) (by kernel_rfl) (fun _ _ _ h => h) (Or.inl ⟨by rfl, fun W hW => ?_⟩) (by assumption) ?_
      · go_simp
      simp only [Act.put, List.setIfInBounds_toArray, List.set_cons_zero, List.set_cons_succ]
      refine wpAnyH_take (i := 9) (oi := ⟨some 83, _, _, _, _, some (8, true)⟩) (v := (.int .i64 qs)) rfl (by kernel_rfl) (by kernel_rfl) (by kernel_rfl) (fun _ _ _ h => h) (Or.inl ⟨by rfl, fun W hW => ?_⟩) (by assumption) ?_
      · go_simp
      simp only [Act.put, List.setIfInBounds_toArray, List.set_cons_zero, List.set_cons_succ]
      refine wpAnyH_take (i := 10) (oi := ⟨some 84, _, _, _, _, some (8, true)⟩) (v := (.int .i64 qs)) rfl (by kernel_rfl) (by kernel_rfl) (by kernel_rfl) (fun _ _ _ h => h) (Or.inl ⟨by rfl, fun W hW => ?_⟩) (by assumption) ?_
      · go_simp
      simp only [Act.put, List.setIfInBounds_toArray, List.set_cons_zero, List.set_cons_succ]
      refine wpAnyH_take (i := 11) (oi := ⟨some 85, _, _, _, _, some (8, true)⟩) (v := (.bool true)) rfl (by kernel_rfl) (by kernel_rfl) (by kernel_rfl) (fun _ _ _ h => h) (Or.inl ⟨by rfl, fun W hW => ?_⟩) (by assumption) ?_
      · go_simp
      simp only [Act.put, List.setIfInBounds_toArray, List.set_cons_zero, List.set_cons_succ]
      refine wpAnyH_take (i := 12) (oi := ⟨some 86, _, _, _, _, none⟩) (v := (.bool true)) rfl (by kernel_rfl) (by kernel_rfl) (by kernel_rfl) (fun _ _ _ h => h) (Or.inl ⟨by rfl, fun W hW => ?_⟩) (by assumption) ?_
      · go_simp
      simp only [Act.put, List.setIfInBounds_toArray, List.set_cons_zero, List.set_cons_succ]
      refine wpAnyH_take (i := 13) (oi := ⟨some 87, _, _, _, _, none⟩) (v := (.bool true)) rfl (by kernel_rfl) (by kernel_rfl) (by kernel_rfl) (fun _ _ _ h => h) (Or.inl ⟨by rfl, fun W hW => ?_⟩) (by assumption) ?_
      · go_simp
      simp only [Act.put, List.setIfInBounds_toArray, List.set_cons_zero, List.set_cons_succ]
      refine wpAnyH_take (i := 14) (oi := ⟨some 88, _, _, _, _, some (13, true)⟩) (v := (.slice a1 bm c1)) rfl (by kernel_rfl) (by kernel_rfl) (by kernel_rfl) (fun _ _ _ h => h) (Or.inl ⟨by rfl, fun W hW => ?_⟩) (by assumption) ?_
      · go_simp
      simp only [Act.put, List.setIfInBounds_toArray, List.set_cons_zero, List.set_cons_succ]
      refine wpAnyH_take (i := 15) (oi := ⟨some 89, _, _, _, _, some (13, true)⟩) (v := (.slice a2 bm c2)) rfl (by kernel_rfl) (by kernel_rfl) (by kernel_rfl) (fun _ _ _ h => h) (Or.inl ⟨by rfl, fun W hW => ?_⟩) (by assumption) ?_
      · go_simp
      simp only [Act.put, List.setIfInBounds_toArray, List.set_cons_zero, List.set_cons_succ]
      refine wpAnyH_ready (rs := [16]) (by kernel_rfl) (by simp) (AllReadyH.cons rfl (fun KK hKK => ?_) AllReadyH.nil)
      go_simp
      refine (sameInts_any a1 a2 bm c1 bm c2 bK bK (by omega) (by omega) _ (hi_own (own_below HO1.out HW.out)).si (hi_own (own_below HO2.out HW.out)).si).mono ?_
      rintro e Y0 ⟨⟨v0, rfl, hv0⟩, hb0⟩
      dsimp only
      have hW0 := HW.out
      have HW := Lib.hid (show (fun W => Below w6.heap.size w6 W) Y0 from hW0.trans (hb0.mono hW0.size))
      clear hW0 hb0
      obtain rfl : v0 = true := hv0.2 ⟨rfl, fun _ _ => rfl⟩
      clear hv0
      refine hKK.out _ _ (HW.out) (fun hHeld => ?_)
      clear hKK KK
      try simp only [Act.put, List.setIfInBounds_toArray, List.set_cons_zero, List.set_cons_succ]
      refine wpAnyH_take (i := 17) (oi := ⟨some 91, _, _, _, _, none⟩) (v := (.bool true)) rfl (by kernel_rfl) (by kernel_rfl) (by kernel_rfl) (fun _ _ _ h => h) (Or.inl ⟨by rfl, fun W hW => ?_⟩) (by assumption) ?_
      · go_simp
      simp only [Act.put, List.setIfInBounds_toArray, List.set_cons_zero, List.set_cons_succ]
      refine wpAnyH_take (i := 18) (oi := ⟨some 92, _, _, _, _, none⟩) (v := (.bool true)) rfl (by kernel_rfl) (by kernel_rfl) (by kernel_rfl) (fun _ _ _ h => h) (Or.inl ⟨by rfl, fun W hW => ?_⟩) (by assumption) ?_
      · go_simp
      simp only [Act.put, List.setIfInBounds_toArray, List.set_cons_zero, List.set_cons_succ]
      refine wpAnyH_take (i := 19) (oi := ⟨some 93, _, _, _, _, some (18, true)⟩) (v := (.agg #[.int .i64 N, .int .i64 M, .int .i64 B, .slice (some ⟨g1, 0, none⟩) nl (nl + 12), .slice (some ⟨g2, 0, none⟩) nv (nv + 12), .slice (some ⟨g3, 0, none⟩) nm (nm + 12)])) rfl (by kernel_rfl) (by kernel_rfl) (by kernel_rfl) (fun _ _ _ h => h) (Or.inl ⟨by rfl, fun W hW => ?_⟩) (by assumption) ?_
      · (obtain ⟨z0, z1, z2, z3, z4, z5⟩ := (HT.out.same hW).c; go_simp; try rfl)
      simp only [Act.put, List.setIfInBounds_toArray, List.set_cons_zero, List.set_cons_succ]
      refine wpAnyH_take (i := 21) (oi := ⟨some 95, _, _, _, _, some (18, true)⟩) (v := (.agg #[.int .i64 N, .int .i64 M, .int .i64 B, .slice la nl lc, .slice va nv vc, .slice wa nm wc])) rfl (by kernel_rfl) (by kernel_rfl) (by kernel_rfl) (fun _ _ _ h => h) (Or.inl ⟨by rfl, fun W hW => ?_⟩) (by assumption) ?_
      · (obtain ⟨z0, z1, z2, z3, z4, z5⟩ := (HX0.out.same (HS.out.trans (hW.mono HS.out.size))).c; go_simp; try rfl)
      simp only [Act.put, List.setIfInBounds_toArray, List.set_cons_zero, List.set_cons_succ]
      refine wpAnyH_ready (rs := [20]) (by kernel_rfl) (by simp) (AllReadyH.cons rfl (fun KK hKK => ?_) AllReadyH.nil)
      go_simp
      refine (HRI.out (some ⟨g1, 0, none⟩) (some ⟨g2, 0, none⟩) (some ⟨g3, 0, none⟩) (nl + 12) (nv + 12) (nm + 12) _ (blk_si _ (HG1.out.same HW.out)) (blk_si _ (HG2.out.same HW.out)) (blk_si _ (HG3.out.same HW.out))).mono ?_
      rintro e Y1 ⟨⟨v1, rfl, hv1⟩, hb1⟩
      dsimp only
      have hW0 := HW.out
      have HW := Lib.hid (show (fun W => Below w6.heap.size w6 W) Y1 from hW0.trans (hb1.mono hW0.size))
      clear hW0 hb1
      refine hKK.out _ _ (HW.out) (fun hHeld => ?_)
      clear hKK KK
      try simp only [Act.put, List.setIfInBounds_toArray, List.set_cons_zero, List.set_cons_succ]
      refine wpAnyH_ready (rs := [22]) (by kernel_rfl) (by simp) (AllReadyH.cons rfl (fun KK hKK => ?_) AllReadyH.nil)
      go_simp
      refine (HTH.out _).mono ?_
      rintro e Y2 ⟨rfl, hb2⟩
      dsimp only
      have hW0 := HW.out
      have HW := Lib.hid (show (fun W => Below w6.heap.size w6 W) Y2 from hW0.trans (hb2.mono hW0.size))
      clear hW0 hb2
      refine hKK.out _ _ (HW.out) (fun hHeld => ?_)
      clear hKK KK
      try simp only [Act.put, List.setIfInBounds_toArray, List.set_cons_zero, List.set_cons_succ]
      refine wpAnyH_ready (rs := [23]) (by kernel_rfl) (by simp) (AllReadyH.cons rfl (fun KK hKK => ?_) AllReadyH.nil)
      go_simp
      refine (HRR.out _ (HLw.out.same (HS.out.trans (HW.out.mono HS.out.size))).si (HVw.out.same (HS.out.trans (HW.out.mono HS.out.size))).si (HWw.out.same (HS.out.trans (HW.out.mono HS.out.size))).si).mono ?_
      rintro e Y3 ⟨⟨v2, rfl, hv2⟩, hb3⟩
      dsimp only
      have hW0 := HW.out
      have HW := Lib.hid (show (fun W => Below w6.heap.size w6 W) Y3 from hW0.trans (hb3.mono hW0.size))
      clear hW0 hb3
      obtain rfl : v1 = v2 := Bool.eq_iff_iff.2 (hv1.trans hv2.symm)
      clear hv1 hv2
      refine hKK.out _ _ (HW.out) (fun hHeld => ?_)
      clear hKK KK
      try simp only [Act.put, List.setIfInBounds_toArray, List.set_cons_zero, List.set_cons_succ]
      refine wpAnyH_take (i := 24) (oi := ⟨some 98, _, _, _, _, some (18, true)⟩) (v := (.bool true)) rfl (by kernel_rfl) (by kernel_rfl) (by kernel_rfl) (fun _ _ _ h => h) (Or.inl ⟨by rfl, fun W hW => ?_⟩) (by assumption) ?_
      · go_simp
      simp only [Act.put, List.setIfInBounds_toArray, List.set_cons_zero, List.set_cons_succ]
      refine wpAnyH_take (i := 25) (oi := ⟨some 99, _, _, _, _, none⟩) (v := (.bool true)) rfl (by kernel_rfl) (by kernel_rfl) (by kernel_rfl) (fun _ _ _ h => h) (Or.inl ⟨by rfl, fun W hW => ?_⟩) (by assumption) ?_
      · go_simp
      simp only [Act.put, List.setIfInBounds_toArray, List.set_cons_zero, List.set_cons_succ]
      refine wpAnyH_ready (rs := [26]) (by kernel_rfl) (by simp) (AllReadyH.cons rfl (fun KK hKK => ?_) AllReadyH.nil)
      go_simp
      refine hKK.out _ _ (HW.out) (fun hHeld => ?_)
      clear hKK KK
      try simp only [Act.put, List.setIfInBounds_toArray, List.set_cons_zero, List.set_cons_succ]
      refine wpAnyH_done (by kernel_rfl) ?_ _
      have hB := HW.out
      clear HW
      have h0 := HG1.out.same hB
      have HG1 := Lib.hid h0
      clear h0
      have h0 := HG2.out.same hB
      have HG2 := Lib.hid h0
      clear h0
      have h0 := HG3.out.same hB
      have HG3 := Lib.hid h0
      clear h0
      have h0 := HT.out.same hB
      have HT := Lib.hid h0
      clear h0
      have h0 := own_below HO1.out hB
      have HO1 := Lib.hid h0
      clear h0
      have h0 := HS.out.trans (hB.mono HS.out.size)
      have HS := Lib.hid h0
      clear h0 hB
      obtain ⟨z0, z1, z2, z3, z4, z5⟩ := HT.out.c
      obtain ⟨x0, x1, x2, x3, x4, x5⟩ := (HX0.out.same HS.out).c
      go_wp2_with fail
      clear z0 z1 z2 z3 z4 z5
      clear x0 x1 x2 x3 x4 x5
      refine (keptInts_any g1 la nl lc L _ (HLw.out.same HS.out) HG1.out (by omega)).mono ?_
      rintro e k1 ⟨rfl, d, hd⟩
      have hB := (by rw [hd]; exact below_drewN (Below.refl _ _) d : Below Y3.heap.size Y3 k1)
      clear hd
      have h0 := HG1.out.same hB
      have HG1 := Lib.hid h0
      clear h0
      have h0 := HG2.out.same hB
      have HG2 := Lib.hid h0
      clear h0
      have h0 := HG3.out.same hB
      have HG3 := Lib.hid h0
      clear h0
      have h0 := HT.out.same hB
      have HT := Lib.hid h0
      clear h0
      have h0 := own_below HO1.out hB
      have HO1 := Lib.hid h0
      clear h0
      have h0 := HS.out.trans (hB.mono HS.out.size)
      have HS := Lib.hid h0
      clear h0 hB
      obtain ⟨z0, z1, z2, z3, z4, z5⟩ := HT.out.c
      obtain ⟨x0, x1, x2, x3, x4, x5⟩ := (HX0.out.same HS.out).c
      go_wp2_with fail
      clear z0 z1 z2 z3 z4 z5
      clear x0 x1 x2 x3 x4 x5
      refine (keptInts_any g2 va nv vc V _ (HVw.out.same HS.out) HG2.out (by omega)).mono ?_
      rintro e k2 ⟨rfl, d, hd⟩
      have hB := (by rw [hd]; exact below_drewN (Below.refl _ _) d : Below k1.heap.size k1 k2)
      clear hd
      have h0 := HG1.out.same hB
      have HG1 := Lib.hid h0
      clear h0
      have h0 := HG2.out.same hB
      have HG2 := Lib.hid h0
      clear h0
      have h0 := HG3.out.same hB
      have HG3 := Lib.hid h0
      clear h0
      have h0 := HT.out.same hB
      have HT := Lib.hid h0
      clear h0
      have h0 := own_below HO1.out hB
      have HO1 := Lib.hid h0
      clear h0
      have h0 := HS.out.trans (hB.mono HS.out.size)
      have HS := Lib.hid h0
      clear h0 hB
      obtain ⟨z0, z1, z2, z3, z4, z5⟩ := HT.out.c
      obtain ⟨x0, x1, x2, x3, x4, x5⟩ := (HX0.out.same HS.out).c
      go_wp2_with fail
      clear z0 z1 z2 z3 z4 z5
      clear x0 x1 x2 x3 x4 x5
      refine (keptInts_any g3 wa nm wc W _ (HWw.out.same HS.out) HG3.out (by omega)).mono ?_
      rintro e k3 ⟨rfl, d, hd⟩
      have hB := (by rw [hd]; exact below_drewN (Below.refl _ _) d : Below k2.heap.size k2 k3)
      clear hd
      have h0 := HG1.out.same hB
      have HG1 := Lib.hid h0
      clear h0
      have h0 := HG2.out.same hB
      have HG2 := Lib.hid h0
      clear h0
      have h0 := HG3.out.same hB
      have HG3 := Lib.hid h0
      clear h0
      have h0 := HT.out.same hB
      have HT := Lib.hid h0
      clear h0
      have h0 := own_below HO1.out hB
      have HO1 := Lib.hid h0
      clear h0
      have h0 := HS.out.trans (hB.mono HS.out.size)
      have HS := Lib.hid h0
      clear h0 hB
      obtain ⟨z0, z1, z2, z3, z4, z5⟩ := HT.out.c
      go_wp2_with fail
      clear z0 z1 z2 z3 z4 z5
      have hk3 := HS.out.size
      refine (Ai.apartInts_any w0.heap.size k3.heap.size 4 4 (ra g1 g2 g3 a1) (rl nl nv nm bm) (rl (nl + 12) (nv + 12) (nm + 12) c1) (rh L V W bK) _ (bag_four HG1.out HG2.out HG3.out (own_mono HO1.out hs9) (by omega) (by omega) (by omega) (by omega) (by omega) (by omega)) (sep_four hl1 hl2 (fun g e => Nat.lt_of_lt_of_le hg39 (own_blk13 HO1.out g e).1)) (by rw [World.size_alloc]; omega) (by rw [World.size_alloc]; omega) (Nat.le_refl _) (by omega) (by omega) (rl_le n1 n2 n3 hbm)).mono ?_
      rintro e k4 ⟨rfl, hB⟩
      have HB4 := Lib.hid (HB0.out.trans ((HS.out.trans (((Below.refl k3.heap.size k3).alloc (Nat.le_refl _) _).mono hk3)).trans hB |>.mono hs0))
      clear hB
      go_wp2_with fail
      refine (HAW.out _).mono ?_
      rintro e k5 ⟨rfl, hB⟩
      have HB5 := Lib.hid (HB4.out.trans (hB.mono HB4.out.size))
      clear hB
      go_wp2
      go_ret
      exact ⟨rfl, HB5.out⟩
end Go.Proofs.Ythkcacnlinajgaa.Pn

namespace Go.Proofs.Ythkcacnlinajgaa.Pn
open Go.RowKit Go.Shelf

/-- a slice that reads, and lies elsewhere. -/
def GS (w : World) (bb : Nat) (a : Option Addr) (n c : Nat) : Prop := n ≤ 140737488355328 ∧ (∃ L, Hi w a n c L) ∧ ∀ ad, a = some ad → ad.block ≠ bb
theorem GS.same {w w' : World} {bb n c : Nat} {a : Option Addr} (h : GS w bb a n c) (hB : Below w.heap.size w w') : GS w' bb a n c := by
  obtain ⟨h1, ⟨L, h2⟩, h3⟩ := h
  exact ⟨h1, ⟨L, h2.same hB⟩, h3⟩
theorem GS.set {w : World} {bb n c : Nat} {a : Option Addr} (h : GS w bb a n c) (i : Nat) (v : Value) : GS (w.setCell ⟨bb, i, none⟩ v) bb a n c := by
  obtain ⟨h1, ⟨L, h2⟩, h3⟩ := h
  refine ⟨h1, ⟨L, h2.capOk, h2.maxOk, h2.nil, h2.spot, fun ad ha j hj => ?_⟩, h3⟩
  rw [World.cell?_of_block (a := ⟨ad.block, ad.off + j, none⟩) (Below.heap_setCell w ⟨bb, i, none⟩ v ad.block (h3 ad ha))]
  exact h2.cell ad ha j hj
/-- a task in a row of tasks. -/
def TRw (vs : Array Value) (g : Option Addr → Nat → Nat → Prop) (i : Nat) : Prop := ∃ (N M B : Int) (la : Option Addr) (nl lc : Nat) (va : Option Addr) (nv vc : Nat) (wa : Option Addr) (nm wc : Nat),
  vs[i * 6]? = some (.int .i64 N) ∧ vs[i * 6 + 1]? = some (.int .i64 M) ∧ vs[i * 6 + 2]? = some (.int .i64 B) ∧ vs[i * 6 + 3]? = some (.slice la nl lc) ∧ vs[i * 6 + 4]? = some (.slice va nv vc) ∧ vs[i * 6 + 5]? = some (.slice wa nm wc) ∧ g la nl lc ∧ g va nv vc ∧ g wa nm wc
/-- fourteen tasks in a block. -/
def TS (w : World) (bb : Nat) : Prop := ∃ vs : Array Value, w.heap[bb]? = some (.cells vs 26 (0, 0)) ∧ 84 ≤ vs.size ∧ ∀ i, i < 14 → TRw vs (GS w bb) i
section
variable {w w' : World} {bb : Nat}
theorem TS.lt (h : TS w bb) : bb < w.heap.size := by
  obtain ⟨vs, h1, _⟩ := h
  exact (Array.getElem?_eq_some_iff.1 h1).1
theorem TS.same (h : TS w bb) (hB : Below w.heap.size w w') : TS w' bb := by
  obtain ⟨vs, h1, h2, h3⟩ := h
  refine ⟨vs, (hB.block bb (Array.getElem?_eq_some_iff.1 h1).1).trans h1, h2, fun i hi => ?_⟩
  obtain ⟨N, M, B, la, nl, lc, va, nv, vc, wa, nm, wc, e0, e1, e2, e3, e4, e5, g1, g2, g3⟩ := h3 i hi
  exact ⟨N, M, B, la, nl, lc, va, nv, vc, wa, nm, wc, e0, e1, e2, e3, e4, e5, g1.same hB, g2.same hB, g3.same hB⟩
theorem TS.any (h : TS w bb) {j : Nat} (hj : j < 84) : ∃ v, w.cell? ⟨bb, j, none⟩ = some v := by
  obtain ⟨vs, h1, h2, _⟩ := h
  refine ⟨vs[j]'(by omega), ?_⟩
  rw [cell_of_row w bb j vs _ _ h1]
  simp [show j < vs.size by omega]
theorem TS.free (h : TS w bb) (j : Nat) : w.frozen? ⟨bb, j, none⟩ = false := by
  obtain ⟨vs, h1, _⟩ := h
  exact frozen_of_row w bb j vs _ h1
theorem TS.s0 (h : TS w bb) {i0 : Nat} (hi : i0 < 14) (x : Int) : TS (w.setCell ⟨bb, i0 * 6, none⟩ (.int .i64 x)) bb := by
  obtain ⟨vs, h1, h2, h3⟩ := h
  refine ⟨_, heap_setCell_same w bb (i0 * 6) vs _ _ h1, by simpa using h2, fun i hi2 => ?_⟩
  obtain ⟨N, M, B, la, nl, lc, va, nv, vc, wa, nm, wc, e0, e1, e2, e3, e4, e5, g1, g2, g3⟩ := h3 i hi2
  by_cases e : i = i0
  · subst e
    exact ⟨x, M, B, la, nl, lc, va, nv, vc, wa, nm, wc, by rw [Array.getElem?_setIfInBounds_self_of_lt (by omega)], by rw [Array.getElem?_setIfInBounds_ne (by omega)]; exact e1, by rw [Array.getElem?_setIfInBounds_ne (by omega)]; exact e2, by rw [Array.getElem?_setIfInBounds_ne (by omega)]; exact e3, by rw [Array.getElem?_setIfInBounds_ne (by omega)]; exact e4, by rw [Array.getElem?_setIfInBounds_ne (by omega)]; exact e5, g1.set _ _, g2.set _ _, g3.set _ _⟩
  · exact ⟨N, M, B, la, nl, lc, va, nv, vc, wa, nm, wc, by rw [Array.getElem?_setIfInBounds_ne (by omega)]; exact e0, by rw [Array.getElem?_setIfInBounds_ne (by omega)]; exact e1, by rw [Array.getElem?_setIfInBounds_ne (by omega)]; exact e2, by rw [Array.getElem?_setIfInBounds_ne (by omega)]; exact e3, by rw [Array.getElem?_setIfInBounds_ne (by omega)]; exact e4, by rw [Array.getElem?_setIfInBounds_ne (by omega)]; exact e5, g1.set _ _, g2.set _ _, g3.set _ _⟩
theorem TS.s1 (h : TS w bb) {i0 : Nat} (hi : i0 < 14) (x : Int) : TS (w.setCell ⟨bb, i0 * 6 + 1, none⟩ (.int .i64 x)) bb := by
  obtain ⟨vs, h1, h2, h3⟩ := h
  refine ⟨_, heap_setCell_same w bb (i0 * 6 + 1) vs _ _ h1, by simpa using h2, fun i hi2 => ?_⟩
  obtain ⟨N, M, B, la, nl, lc, va, nv, vc, wa, nm, wc, e0, e1, e2, e3, e4, e5, g1, g2, g3⟩ := h3 i hi2
  by_cases e : i = i0
  · subst e
    exact ⟨N, x, B, la, nl, lc, va, nv, vc, wa, nm, wc, by rw [Array.getElem?_setIfInBounds_ne (by omega)]; exact e0, by rw [Array.getElem?_setIfInBounds_self_of_lt (by omega)], by rw [Array.getElem?_setIfInBounds_ne (by omega)]; exact e2, by rw [Array.getElem?_setIfInBounds_ne (by omega)]; exact e3, by rw [Array.getElem?_setIfInBounds_ne (by omega)]; exact e4, by rw [Array.getElem?_setIfInBounds_ne (by omega)]; exact e5, g1.set _ _, g2.set _ _, g3.set _ _⟩
  · exact ⟨N, M, B, la, nl, lc, va, nv, vc, wa, nm, wc, by rw [Array.getElem?_setIfInBounds_ne (by omega)]; exact e0, by rw [Array.getElem?_setIfInBounds_ne (by omega)]; exact e1, by rw [Array.getElem?_setIfInBounds_ne (by omega)]; exact e2, by rw [Array.getElem?_setIfInBounds_ne (by omega)]; exact e3, by rw [Array.getElem?_setIfInBounds_ne (by omega)]; exact e4, by rw [Array.getElem?_setIfInBounds_ne (by omega)]; exact e5, g1.set _ _, g2.set _ _, g3.set _ _⟩
theorem TS.s2 (h : TS w bb) {i0 : Nat} (hi : i0 < 14) (x : Int) : TS (w.setCell ⟨bb, i0 * 6 + 2, none⟩ (.int .i64 x)) bb := by
  obtain ⟨vs, h1, h2, h3⟩ := h
  refine ⟨_, heap_setCell_same w bb (i0 * 6 + 2) vs _ _ h1, by simpa using h2, fun i hi2 => ?_⟩
  obtain ⟨N, M, B, la, nl, lc, va, nv, vc, wa, nm, wc, e0, e1, e2, e3, e4, e5, g1, g2, g3⟩ := h3 i hi2
  by_cases e : i = i0
  · subst e
    exact ⟨N, M, x, la, nl, lc, va, nv, vc, wa, nm, wc, by rw [Array.getElem?_setIfInBounds_ne (by omega)]; exact e0, by rw [Array.getElem?_setIfInBounds_ne (by omega)]; exact e1, by rw [Array.getElem?_setIfInBounds_self_of_lt (by omega)], by rw [Array.getElem?_setIfInBounds_ne (by omega)]; exact e3, by rw [Array.getElem?_setIfInBounds_ne (by omega)]; exact e4, by rw [Array.getElem?_setIfInBounds_ne (by omega)]; exact e5, g1.set _ _, g2.set _ _, g3.set _ _⟩
  · exact ⟨N, M, B, la, nl, lc, va, nv, vc, wa, nm, wc, by rw [Array.getElem?_setIfInBounds_ne (by omega)]; exact e0, by rw [Array.getElem?_setIfInBounds_ne (by omega)]; exact e1, by rw [Array.getElem?_setIfInBounds_ne (by omega)]; exact e2, by rw [Array.getElem?_setIfInBounds_ne (by omega)]; exact e3, by rw [Array.getElem?_setIfInBounds_ne (by omega)]; exact e4, by rw [Array.getElem?_setIfInBounds_ne (by omega)]; exact e5, g1.set _ _, g2.set _ _, g3.set _ _⟩
theorem TS.s3 (h : TS w bb) {i0 : Nat} (hi : i0 < 14) {a : Option Addr} {n c : Nat} (hg : GS w bb a n c) : TS (w.setCell ⟨bb, i0 * 6 + 3, none⟩ (.slice a n c)) bb := by
  obtain ⟨vs, h1, h2, h3⟩ := h
  refine ⟨_, heap_setCell_same w bb (i0 * 6 + 3) vs _ _ h1, by simpa using h2, fun i hi2 => ?_⟩
  obtain ⟨N, M, B, la, nl, lc, va, nv, vc, wa, nm, wc, e0, e1, e2, e3, e4, e5, g1, g2, g3⟩ := h3 i hi2
  by_cases e : i = i0
  · subst e
    exact ⟨N, M, B, a, n, c, va, nv, vc, wa, nm, wc, by rw [Array.getElem?_setIfInBounds_ne (by omega)]; exact e0, by rw [Array.getElem?_setIfInBounds_ne (by omega)]; exact e1, by rw [Array.getElem?_setIfInBounds_ne (by omega)]; exact e2, by rw [Array.getElem?_setIfInBounds_self_of_lt (by omega)], by rw [Array.getElem?_setIfInBounds_ne (by omega)]; exact e4, by rw [Array.getElem?_setIfInBounds_ne (by omega)]; exact e5, hg.set _ _, g2.set _ _, g3.set _ _⟩
  · exact ⟨N, M, B, la, nl, lc, va, nv, vc, wa, nm, wc, by rw [Array.getElem?_setIfInBounds_ne (by omega)]; exact e0, by rw [Array.getElem?_setIfInBounds_ne (by omega)]; exact e1, by rw [Array.getElem?_setIfInBounds_ne (by omega)]; exact e2, by rw [Array.getElem?_setIfInBounds_ne (by omega)]; exact e3, by rw [Array.getElem?_setIfInBounds_ne (by omega)]; exact e4, by rw [Array.getElem?_setIfInBounds_ne (by omega)]; exact e5, g1.set _ _, g2.set _ _, g3.set _ _⟩
theorem TS.s4 (h : TS w bb) {i0 : Nat} (hi : i0 < 14) {a : Option Addr} {n c : Nat} (hg : GS w bb a n c) : TS (w.setCell ⟨bb, i0 * 6 + 4, none⟩ (.slice a n c)) bb := by
  obtain ⟨vs, h1, h2, h3⟩ := h
  refine ⟨_, heap_setCell_same w bb (i0 * 6 + 4) vs _ _ h1, by simpa using h2, fun i hi2 => ?_⟩
  obtain ⟨N, M, B, la, nl, lc, va, nv, vc, wa, nm, wc, e0, e1, e2, e3, e4, e5, g1, g2, g3⟩ := h3 i hi2
  by_cases e : i = i0
  · subst e
    exact ⟨N, M, B, la, nl, lc, a, n, c, wa, nm, wc, by rw [Array.getElem?_setIfInBounds_ne (by omega)]; exact e0, by rw [Array.getElem?_setIfInBounds_ne (by omega)]; exact e1, by rw [Array.getElem?_setIfInBounds_ne (by omega)]; exact e2, by rw [Array.getElem?_setIfInBounds_ne (by omega)]; exact e3, by rw [Array.getElem?_setIfInBounds_self_of_lt (by omega)], by rw [Array.getElem?_setIfInBounds_ne (by omega)]; exact e5, g1.set _ _, hg.set _ _, g3.set _ _⟩
  · exact ⟨N, M, B, la, nl, lc, va, nv, vc, wa, nm, wc, by rw [Array.getElem?_setIfInBounds_ne (by omega)]; exact e0, by rw [Array.getElem?_setIfInBounds_ne (by omega)]; exact e1, by rw [Array.getElem?_setIfInBounds_ne (by omega)]; exact e2, by rw [Array.getElem?_setIfInBounds_ne (by omega)]; exact e3, by rw [Array.getElem?_setIfInBounds_ne (by omega)]; exact e4, by rw [Array.getElem?_setIfInBounds_ne (by omega)]; exact e5, g1.set _ _, g2.set _ _, g3.set _ _⟩
theorem TS.s5 (h : TS w bb) {i0 : Nat} (hi : i0 < 14) {a : Option Addr} {n c : Nat} (hg : GS w bb a n c) : TS (w.setCell ⟨bb, i0 * 6 + 5, none⟩ (.slice a n c)) bb := by
  obtain ⟨vs, h1, h2, h3⟩ := h
  refine ⟨_, heap_setCell_same w bb (i0 * 6 + 5) vs _ _ h1, by simpa using h2, fun i hi2 => ?_⟩
  obtain ⟨N, M, B, la, nl, lc, va, nv, vc, wa, nm, wc, e0, e1, e2, e3, e4, e5, g1, g2, g3⟩ := h3 i hi2
  by_cases e : i = i0
  · subst e
    exact ⟨N, M, B, la, nl, lc, va, nv, vc, a, n, c, by rw [Array.getElem?_setIfInBounds_ne (by omega)]; exact e0, by rw [Array.getElem?_setIfInBounds_ne (by omega)]; exact e1, by rw [Array.getElem?_setIfInBounds_ne (by omega)]; exact e2, by rw [Array.getElem?_setIfInBounds_ne (by omega)]; exact e3, by rw [Array.getElem?_setIfInBounds_ne (by omega)]; exact e4, by rw [Array.getElem?_setIfInBounds_self_of_lt (by omega)], g1.set _ _, g2.set _ _, hg.set _ _⟩
  · exact ⟨N, M, B, la, nl, lc, va, nv, vc, wa, nm, wc, by rw [Array.getElem?_setIfInBounds_ne (by omega)]; exact e0, by rw [Array.getElem?_setIfInBounds_ne (by omega)]; exact e1, by rw [Array.getElem?_setIfInBounds_ne (by omega)]; exact e2, by rw [Array.getElem?_setIfInBounds_ne (by omega)]; exact e3, by rw [Array.getElem?_setIfInBounds_ne (by omega)]; exact e4, by rw [Array.getElem?_setIfInBounds_ne (by omega)]; exact e5, g1.set _ _, g2.set _ _, g3.set _ _⟩
end
/-- copies of a task's cells, one behind the other. -/
def rep (cs : List Value) : Nat → List Value
  | 0 => []
  | n + 1 => rep cs n ++ cs
theorem rep_len {cs : List Value} (h : cs.length = 6) : ∀ n, (rep cs n).length = n * 6
  | 0 => rfl
  | n + 1 => by show (rep cs n ++ cs).length = _; rw [List.length_append, rep_len h n, h]; omega
theorem rep_get {cs : List Value} (h : cs.length = 6) : ∀ n i j, i < n → j < 6 → (rep cs n)[i * 6 + j]? = cs[j]?
  | 0, _, _, hi, _ => absurd hi (Nat.not_lt_zero _)
  | n + 1, i, j, hi, hj => by
    show (rep cs n ++ cs)[i * 6 + j]? = _
    by_cases e : i < n
    · rw [List.getElem?_append_left (by rw [rep_len h]; omega)]; exact rep_get h n i j e hj
    · rw [List.getElem?_append_right (by rw [rep_len h]; omega), rep_len h, show i * 6 + j - n * 6 = j by omega]
theorem TS.of_own {w : World} {H : Nat} {a : Option Addr} {c : Nat} {N M B : Int} {la va wa : Option Addr} {nl lc nv vc nm wc : Nat} (h : w.ownsRow H 26 6 (.slice a 14 c) 14 (rep [.int .i64 N, .int .i64 M, .int .i64 B, .slice la nl lc, .slice va nv vc, .slice wa nm wc] 14))
    (h1 : nl ≤ 140737488355328) (h2 : nv ≤ 140737488355328) (h3 : nm ≤ 140737488355328) {L V W : Nat → Int} (k1 : Hi w la nl lc L) (k2 : Hi w va nv vc V) (k3 : Hi w wa nm wc W) (b1 : ∀ ad, la = some ad → ad.block < H) (b2 : ∀ ad, va = some ad → ad.block < H) (b3 : ∀ ad, wa = some ad → ad.block < H) : ∃ bb, a = some ⟨bb, 0, none⟩ ∧ H ≤ bb ∧ TS w bb := by
  rcases h.2 with ⟨_, e⟩ | ⟨g, cap, cur, e, hb, hh, hl, hm, hsz, htk⟩
  · exact absurd e (by omega)
  · injection e with e1 e2 e3
    refine ⟨g, e1, hb, cur, hh, by omega, fun i hi => ?_⟩
    have key : ∀ j, j < 6 → cur[i * 6 + j]? = ([.int .i64 N, .int .i64 M, .int .i64 B, .slice la nl lc, .slice va nv vc, .slice wa nm wc] : List Value)[j]? := fun j hj => by
      have h := rep_get (cs := [.int .i64 N, .int .i64 M, .int .i64 B, .slice la nl lc, .slice va nv vc, .slice wa nm wc]) rfl 14 i j hi hj
      rw [← htk, List.getElem?_take, if_pos (by omega), Array.getElem?_toList] at h
      exact h
    exact ⟨N, M, B, la, nl, lc, va, nv, vc, wa, nm, wc, key 0 (by omega), key 1 (by omega), key 2 (by omega), key 3 (by omega), key 4 (by omega), key 5 (by omega), ⟨h1, ⟨L, k1⟩, fun ad e => by have := b1 ad e; omega⟩, ⟨h2, ⟨V, k2⟩, fun ad e => by have := b2 ad e; omega⟩, ⟨h3, ⟨W, k3⟩, fun ad e => by have := b3 ad e; omega⟩⟩
theorem GS.lit {w : World} {bb x : Nat} (vs : List Int) (hl : vs.length ≤ 1000) (hx : w.heap[x]? = some (.cells (vs.map (Value.int .i64)).toArray 3 (0, 0))) (hne : x ≠ bb) : GS w bb (some ⟨x, 0, none⟩) vs.length vs.length :=
  ⟨by omega, ⟨_, Wg.hi_lit2 w x vs vs.length (Nat.le_refl _) hl hx⟩, fun ad e => by cases e; exact hne⟩
theorem GS.nil (w : World) (bb : Nat) : GS w bb none 0 0 := ⟨by omega, ⟨fun _ => 0, Nat.le_refl _, by unfold maxLen; omega, fun _ => ⟨rfl, rfl⟩, fun ad e => (by cases e), fun ad e => (by cases e)⟩, fun ad e => (by cases e)⟩
theorem GS.zeros {w : World} {bb x n : Nat} (hn : n ≤ 1000) (hx : w.heap[x]? = some (.cells (madeCells #[.int .i64 0] n) 3 (0, 0))) (hne : x ≠ bb) : GS w bb (some ⟨x, 0, none⟩) n n := by
  refine ⟨by omega, ⟨fun _ => 0, Nat.le_refl _, by unfold maxLen; omega, fun e => (by cases e), fun ad e _ => (by cases e; rfl), fun ad e i hi => ?_⟩, fun ad e => by cases e; exact hne⟩
  cases e
  show World.cell? _ ⟨_, 0 + i, none⟩ = _
  rw [Nat.zero_add, cell_of_row _ _ i _ _ _ hx]
  simp [madeCells, hi, show i % 1 = 0 by omega]
theorem Try.infoPTask : (Try.prog.info? 26).map (fun i => (i.zero, i.size, i.bytes)) = some (some (.agg #[.int .i64 0, .int .i64 0, .int .i64 0, .slice none 0 0, .slice none 0 0, .slice none 0 0]), 6, 96) := by kernel_rfl
theorem inh_app (h : Nat → Int) (n : Nat) (v : Int) : inh h n ++ [.int .i64 v] = inh (fun i => if i = n then v else h i) (n + 1) := by
  rw [inh_s, if_pos rfl]
  congr 1
  unfold inh
  apply List.map_congr_left
  intro i hi
  show Value.int .i64 (h i) = Value.int .i64 (if i = n then v else h i)
  rw [if_neg (by have := List.mem_range.1 hi; omega)]
/-- append of one number to a row without room: a new row. -/
theorem run_append_fullI (ty : TypeId) (w : World) (g n c : Nat) (h : Nat → Int) (ad : Addr) (v : Int) (hn : n ≤ 1000) (hg : w.heap[g]? = some (.cells (inh h n).toArray 3 (0, 0))) (hc : w.cell? ad = some (.int .i64 v)) :
    ∃ g' cap' w', (Builtin.append_ #[24, 24] ty #[.slice (some ⟨g, 0, none⟩) n n, .slice (some ad) 1 c]).run Try.prog w = .ok (.slice (some ⟨g', 0, none⟩) (n + 1) cap') w' ∧ (∃ L, Hi w' (some ⟨g', 0, none⟩) (n + 1) cap' L) ∧ w.heap.size ≤ g' ∧ w.grownBy w' none := by
  obtain ⟨i0, hi, hz0, hz1, hz2⟩ := info_parts Try.infoInt2
  have hown : w.ownsRow 0 3 1 (.slice (some ⟨g, 0, none⟩) n n) n (inh h n) :=
    ⟨by unfold inh; simp, Or.inr ⟨g, n, _, rfl, Nat.zero_le _, hg, Nat.le_refl _, by unfold maxLen; omega, by unfold inh; simp, by rw [List.take_of_length_le]; unfold inh; simp⟩⟩
  obtain ⟨g', cap', w', hr, h2, h3, h4⟩ := run_append_bag (P := Try.prog) w 24 ty 0 3 i0 (.int .i64 0) 8 Try.underlying24 hi hz0 hz1 hz2 rfl (some ⟨g, 0, none⟩) n n (inh h n) hown ad 1 c [.int .i64 v] rfl (fun j u hj => by
    cases j with
    | zero => rw [List.getElem?_cons_zero] at hj; rw [← Option.some.inj hj]; exact hc
    | succ j => simp at hj) (fun u hu => by rw [List.mem_singleton.1 hu]; rfl) (by omega) (by unfold maxLen; omega) (by omega) (Nat.zero_le _)
  rw [inh_app] at h2
  refine ⟨g', cap', w', hr, ⟨_, Wg.hi_own h2⟩, ?_⟩
  rcases h3 with ⟨_, e, _⟩ | h3
  · have hq := h2.2
    rcases hq with ⟨e2, _⟩ | ⟨_, _, _, e2, _, _, q1, _⟩
    · exact absurd e2 (by simp)
    · simp only [Value.slice.injEq, true_and] at e2
      omega
  · exact h3
theorem wpList_append_fullI {ops : Array Oper} {rest : List Oper} {o : Oper} {a : Act} {Q : Exit → Act → World → Prop} {w : World} (hgd : o.guard = none) (s x : Operand)
    (ho : o.op = .call { callee := .builtin .append, args := #[s, x], argTypes := #[24, 24] })
    {g n : Nat} {h : Nat → Int} (hn : n ≤ 1000) (hg : w.heap[g]? = some (.cells (inh h n).toArray 3 (0, 0))) (hs : a.eval s = .slice (some ⟨g, 0, none⟩) n n) (ad : Addr) (c : Nat) (v : Int) (hx : a.eval x = .slice (some ad) 1 c) (hc : w.cell? ad = some (.int .i64 v))
    (hk : ∀ g' cap' w', (∃ L, Hi w' (some ⟨g', 0, none⟩) (n + 1) cap' L) → w.heap.size ≤ g' → w.grownBy w' none → wpList Try.prog ops Q rest (a.put o.dst (.slice (some ⟨g', 0, none⟩) (n + 1) cap')) w') : wpList Try.prog ops Q (o :: rest) a w := by
  refine wpList_plain hgd fun _ hK => ?_
  obtain ⟨g', cap', w', hr, h2, h3, h4⟩ := run_append_fullI o.type w g n c h ad v hn hg hc
  unfold Oper.wp execOp
  simp only [ho, resolve, invoke, builtin, Sem.run_bind, Sem.run_pure, Result.andThen_ok, List.map_toArray, List.map_cons, List.map_nil, hs, hx, hr]
  exact hK _ _ (hk g' cap' w' h2 h3 h4)
theorem hi_set {w : World} {bb n c : Nat} {a : Option Addr} {L : Nat → Int} (h : Hi w a n c L) (hne : ∀ ad, a = some ad → ad.block ≠ bb) (i : Nat) (v : Value) : Hi (w.setCell ⟨bb, i, none⟩ v) a n c L := by
  refine ⟨h.capOk, h.maxOk, h.nil, h.spot, fun ad ha j hj => ?_⟩
  rw [World.cell?_of_block (a := ⟨ad.block, ad.off + j, none⟩) (Below.heap_setCell w ⟨bb, i, none⟩ v ad.block (hne ad ha))]
  exact h.cell ad ha j hj
theorem cell_newN (w : World) (cs : List Value) (t : TypeId) : ∀ j u, cs[j]? = some u → (w.alloc (.cells cs.toArray t)).cell? (({ block := w.heap.size, off := 0 } : Addr).add j) = some u := fun j u hj => by
  rw [Addr.add_lit, Nat.zero_add, cell_of_row _ _ j _ _ _ (heap_alloc_new w _), List.getElem?_toArray]; exact hj
theorem six_ones (a b c : Int) (x y z : Option Addr) (n1 n2 n3 c1 c2 c3 : Nat) : ∀ u ∈ ([.int .i64 a, .int .i64 b, .int .i64 c, .slice x n1 c1, .slice y n2 c2, .slice z n3 c3] : List Value), u.oneCell' = true := fun u hu => by
  simp only [List.mem_cons, List.not_mem_nil, or_false] at hu
  rcases hu with rfl | rfl | rfl | rfl | rfl | rfl <;> rfl
/-- the cells of a task of the row. -/
theorem TS.task {w : World} {bb i : Nat} (h : TS w bb) (hi : i < 14) : ∃ (N M B : Int) (la : Option Addr) (nl lc : Nat) (va : Option Addr) (nv vc : Nat) (wa : Option Addr) (nm wc : Nat) (L V W : Nat → Int),
    (w.cell? ⟨bb, i * 6, none⟩ = some (.int .i64 N) ∧ w.cell? ⟨bb, i * 6 + 1, none⟩ = some (.int .i64 M) ∧ w.cell? ⟨bb, i * 6 + 2, none⟩ = some (.int .i64 B) ∧ w.cell? ⟨bb, i * 6 + 3, none⟩ = some (.slice la nl lc) ∧ w.cell? ⟨bb, i * 6 + 4, none⟩ = some (.slice va nv vc) ∧ w.cell? ⟨bb, i * 6 + 5, none⟩ = some (.slice wa nm wc)) ∧
    (nl ≤ 140737488355328 ∧ nv ≤ 140737488355328 ∧ nm ≤ 140737488355328) ∧ Hi w la nl lc L ∧ Hi w va nv vc V ∧ Hi w wa nm wc W := by
  obtain ⟨vs, h1, h2, h3⟩ := h
  obtain ⟨N, M, B, la, nl, lc, va, nv, vc, wa, nm, wc, e0, e1, e2, e3, e4, e5, ⟨a1, ⟨L, b1⟩, _⟩, ⟨a2, ⟨V, b2⟩, _⟩, ⟨a3, ⟨W, b3⟩, _⟩⟩ := h3 i hi
  exact ⟨N, M, B, la, nl, lc, va, nv, vc, wa, nm, wc, L, V, W, ⟨by rw [cell_of_row w bb _ vs _ _ h1]; exact e0, by rw [cell_of_row w bb _ vs _ _ h1]; exact e1, by rw [cell_of_row w bb _ vs _ _ h1]; exact e2, by rw [cell_of_row w bb _ vs _ _ h1]; exact e3, by rw [cell_of_row w bb _ vs _ _ h1]; exact e4, by rw [cell_of_row w bb _ vs _ _ h1]; exact e5⟩, ⟨a1, a2, a3⟩, b1, b2, b3⟩
end Go.Proofs.Ythkcacnlinajgaa.Pn

namespace Go.Proofs.Ythkcacnlinajgaa.Pn
open Go.RowKit Go.Shelf
open Go.Proofs.Ythkcacnlinajgaa.Wg (hi_lit2 twoB threeB fourB own_slice own_below)
attribute [local go_sem] Oper.semAt_some

theorem oneB (w : World) (a : Obj) : (w.alloc a).heap[w.heap.size]? = some a ∧ Below w.heap.size w (w.alloc a) := ⟨heap_alloc_new w a, (Below.refl _ w).alloc (Nat.le_refl _) _⟩
set_option maxHeartbeats 16000000 in
set_option maxRecDepth 100000 in
theorem planEnds_any (w : World) :
    Calls Try.prog 4 #[] w fun e w' => e = .returned (.bool true) ∧ Below w.heap.size w w' := by
  have HPB := Lib.hid (fun N M B la nl lc va nv vc wa nm wc L V W h1 h2 h3 w hL hV hW => planBest_any pRight pBest pScore N M B la va wa nl lc nv vc nm wc L V W h1 h2 h3 w hL hV hW)
  have HAW := Lib.hid (fun w => awake13_any pBest w)
  unfold tV at HPB
  -- the weights
  obtain ⟨u0, u1, u2, u3, ub⟩ := fourB w (.cells #[.int .i64 9, .int .i64 9, .int .i64 9, .int .i64 9] 3) (.cells #[.int .i64 9, .int .i64 9, .int .i64 9, .int .i64 0] 3) (.cells #[.int .i64 9, .int .i64 9, .int .i64 1, .int .i64 0] 3) (.cells #[.int .i64 0, .int .i64 0, .int .i64 0, .int .i64 0] 3)
  have hz4 : ((((w.alloc (.cells #[.int .i64 9, .int .i64 9, .int .i64 9, .int .i64 9] 3)).alloc (.cells #[.int .i64 9, .int .i64 9, .int .i64 9, .int .i64 0] 3)).alloc (.cells #[.int .i64 9, .int .i64 9, .int .i64 1, .int .i64 0] 3)).alloc (.cells #[.int .i64 0, .int .i64 0, .int .i64 0, .int .i64 0] 3)).heap.size = w.heap.size + 1 + 1 + 1 + 1 := by simp only [World.size_alloc]
  obtain ⟨v4, v5, vb⟩ := twoB ((((w.alloc (.cells #[.int .i64 9, .int .i64 9, .int .i64 9, .int .i64 9] 3)).alloc (.cells #[.int .i64 9, .int .i64 9, .int .i64 9, .int .i64 0] 3)).alloc (.cells #[.int .i64 9, .int .i64 9, .int .i64 1, .int .i64 0] 3)).alloc (.cells #[.int .i64 0, .int .i64 0, .int .i64 0, .int .i64 0] 3)) (.cells #[.int .i64 65536, .int .i64 65536, .int .i64 65535, .int .i64 1] 3) (.cells #[.slice (some ⟨w.heap.size, 0, none⟩) 4 4, .slice (some ⟨w.heap.size + 1, 0, none⟩) 4 4, .slice (some ⟨w.heap.size + 1 + 1, 0, none⟩) 4 4, .slice (some ⟨w.heap.size + 1 + 1 + 1, 0, none⟩) 4 4, .slice (some ⟨w.heap.size + 1 + 1 + 1 + 1, 0, none⟩) 4 4] 24)
  obtain ⟨W4, hW4⟩ : ∃ W4, W4 = (((w.alloc (.cells #[.int .i64 9, .int .i64 9, .int .i64 9, .int .i64 9] 3)).alloc (.cells #[.int .i64 9, .int .i64 9, .int .i64 9, .int .i64 0] 3)).alloc (.cells #[.int .i64 9, .int .i64 9, .int .i64 1, .int .i64 0] 3)).alloc (.cells #[.int .i64 0, .int .i64 0, .int .i64 0, .int .i64 0] 3) := ⟨_, rfl⟩
  rw [← hW4] at u0 u1 u2 u3 ub hz4 v4 v5 vb
  obtain ⟨W6, hW6⟩ : ∃ W6, W6 = (W4.alloc (.cells #[.int .i64 65536, .int .i64 65536, .int .i64 65535, .int .i64 1] 3)).alloc (.cells #[.slice (some ⟨w.heap.size, 0, none⟩) 4 4, .slice (some ⟨w.heap.size + 1, 0, none⟩) 4 4, .slice (some ⟨w.heap.size + 1 + 1, 0, none⟩) 4 4, .slice (some ⟨w.heap.size + 1 + 1 + 1, 0, none⟩) 4 4, .slice (some ⟨w.heap.size + 1 + 1 + 1 + 1, 0, none⟩) 4 4] 24) := ⟨_, rfl⟩
  rw [← hW6] at v4 v5 vb
  rw [hz4] at v4 v5
  obtain ⟨g, hg⟩ : ∃ g, g = w.heap.size := ⟨_, rfl⟩
  have hb6 : Below w.heap.size w W6 := ub.trans (vb.mono ub.size)
  have hrow : ∀ i, i < 5 → ∃ L, Hi W6 (some ⟨g + i, 0, none⟩) 4 4 L := fun i hi => by
    rw [hg]
    rcases (show i = 0 ∨ i = 1 ∨ i = 2 ∨ i = 3 ∨ i = 4 by omega) with rfl | rfl | rfl | rfl | rfl
    · exact ⟨_, (hi_lit2 W4 _ [9, 9, 9, 9] 4 (by decide) (by decide) u0).same vb⟩
    · exact ⟨_, (hi_lit2 W4 _ [9, 9, 9, 0] 4 (by decide) (by decide) u1).same vb⟩
    · exact ⟨_, (hi_lit2 W4 _ [9, 9, 1, 0] 4 (by decide) (by decide) u2).same vb⟩
    · exact ⟨_, (hi_lit2 W4 _ [0, 0, 0, 0] 4 (by decide) (by decide) u3).same vb⟩
    · exact ⟨_, hi_lit2 W6 _ [65536, 65536, 65535, 1] 4 (by decide) (by decide) v4⟩
  have hlst : ∀ i, i < 5 → W6.cell? ⟨g + 5, i, none⟩ = some (.slice (some ⟨g + i, 0, none⟩) 4 4) := fun i hi => by
    rw [hg, cell_of_row W6 _ i _ _ _ v5]
    rcases (show i = 0 ∨ i = 1 ∨ i = 2 ∨ i = 3 ∨ i = 4 by omega) with rfl | rfl | rfl | rfl | rfl <;> rfl
  have HROW := Lib.hid hrow; have HLST := Lib.hid hlst; have HB6 := Lib.hid hb6
  have HG6 := Lib.hid (show g + 5 < W6.heap.size by rw [hg]; exact (Array.getElem?_eq_some_iff.1 v5).1)
  have HW6 := Lib.hid (show W6 = ((((((w.alloc (.cells #[.int .i64 9, .int .i64 9, .int .i64 9, .int .i64 9] 3)).alloc (.cells #[.int .i64 9, .int .i64 9, .int .i64 9, .int .i64 0] 3)).alloc (.cells #[.int .i64 9, .int .i64 9, .int .i64 1, .int .i64 0] 3)).alloc (.cells #[.int .i64 0, .int .i64 0, .int .i64 0, .int .i64 0] 3)).alloc (.cells #[.int .i64 65536, .int .i64 65536, .int .i64 65535, .int .i64 1] 3)).alloc (.cells #[.slice (some ⟨w.heap.size, 0, none⟩) 4 4, .slice (some ⟨w.heap.size + 1, 0, none⟩) 4 4, .slice (some ⟨w.heap.size + 1 + 1, 0, none⟩) 4 4, .slice (some ⟨w.heap.size + 1 + 1 + 1, 0, none⟩) 4 4, .slice (some ⟨w.heap.size + 1 + 1 + 1 + 1, 0, none⟩) 4 4] 24)) by rw [hW6, hW4])
  clear u0 u1 u2 u3 ub v4 v5 vb hz4 hW4 hW6 hrow hlst hb6
  go_enter Try.func4, Try.ntmps4
  go_wp2_with fail
  rw [← HW6.out]
  clear HW6
  rw [show w.heap.size + 1 + 1 + 1 + 1 + 1 = g + 5 by rw [hg]]
  have HG := Lib.hid hg
  clear hg
  go_loopw [2] (fun i wr => ∃ (k : Nat) (W : World), W = wr ∧ k ≤ 10 ∧ i = .int .i64 k ∧ Below W6.heap.size W6 wr) (fun i _ => 10 - (intOf i).toNat)
  case atStart => exact ⟨0, _, rfl, by omega, rfl, Below.refl _ _⟩
  case round =>
    obtain ⟨k, wo, rfl, hk, rfl, hB⟩ := hrel
    have HBo := Lib.hid hB
    clear hB
    by_cases hk10 : k < 10
    · have i1 : (k : Int) < 10 := by omega
      go_wp2_with fail
      go_loopw [3] (fun i wr => ∃ (m : Nat) (W : World), W = wr ∧ m ≤ 60 ∧ i = .int .i64 m ∧ Below W6.heap.size W6 wr) (fun i _ => 60 - (intOf i).toNat)
      case atStart => exact ⟨0, _, rfl, by omega, rfl, HBo.out⟩
      case round =>
        obtain ⟨m, wx, rfl, hm, rfl, hB⟩ := hrel
        have HB := Lib.hid hB
        have hsx := hB.size
        clear hB
        by_cases hm60 : m < 60
        · have i2 : (m : Int) < 60 := by omega
          obtain ⟨r2, hr2⟩ : ∃ r, r = m % 2 := ⟨_, rfl⟩
          obtain ⟨r7, hr7⟩ : ∃ r, r = m % 7 := ⟨_, rfl⟩
          obtain ⟨r5, hr5⟩ : ∃ r, r = m % 5 := ⟨_, rfl⟩
          obtain ⟨r3, hr3⟩ : ∃ r, r = m % 3 := ⟨_, rfl⟩
          obtain ⟨q3, hq3⟩ : ∃ r, r = m / 3 := ⟨_, rfl⟩
          obtain ⟨r4, hr4⟩ : ∃ r, r = q3 % 4 := ⟨_, rfl⟩
          have k2 : (m : Int).tmod 2 = (r2 : Int) := by rw [hr2]; rfl
          have k7 : (m : Int).tmod 7 = (r7 : Int) := by rw [hr7]; rfl
          have k5 : (m : Int).tmod 5 = (r5 : Int) := by rw [hr5]; rfl
          have k3 : (m : Int).tmod 3 = (r3 : Int) := by rw [hr3]; rfl
          have kq : (m : Int).tdiv 3 = (q3 : Int) := by rw [hq3]; rfl
          have k4 : (q3 : Int).tmod 4 = (r4 : Int) := by rw [hr4]; rfl
          have b2 : r2 < 2 := by omega
          have b7 : r7 < 7 := by omega
          have b5 : r5 < 5 := by omega
          have b3 : r3 < 3 := by omega
          have bq : q3 < 20 := by omega
          have b4 : r4 < 4 := by omega
          clear hr2 hr7 hr5 hr3 hq3 hr4
          -- the bounds' box; two rows; the task's box
          obtain ⟨wb, hwb⟩ : ∃ wb, wb = wx.alloc (.cells #[.int .i64 3, .int .i64 (64 + (r2 : Int)), .int .i64 (3 * (24 + (k : Int)))] 23) := ⟨_, rfl⟩
          have hbb : wb.heap[wx.heap.size]? = some (.cells #[.int .i64 3, .int .i64 (64 + (r2 : Int)), .int .i64 (3 * (24 + (k : Int)))] 23 (0, 0)) := by rw [hwb]; exact heap_alloc_new _ _
          have HBb := Lib.hid (show Below wx.heap.size wx wb by rw [hwb]; exact (Below.refl _ wx).alloc (Nat.le_refl _) _)
          have HBw := Lib.hid (HB.out.trans (HBb.out.mono hsx))
          have c0 : wb.cell? ⟨wx.heap.size, 0, none⟩ = some (.int .i64 3) := by rw [cell_of_row wb _ 0 _ _ _ hbb]; rfl
          have c1 : wb.cell? ⟨wx.heap.size, 1, none⟩ = some (.int .i64 (64 + (r2 : Int))) := by rw [cell_of_row wb _ 1 _ _ _ hbb]; rfl
          have c2 : wb.cell? ⟨wx.heap.size, 2, none⟩ = some (.int .i64 (3 * (24 + (k : Int)))) := by rw [cell_of_row wb _ 2 _ _ _ hbb]; rfl
          have cL : wb.cell? ⟨g + 5, r5, none⟩ = some (.slice (some ⟨g + r5, 0, none⟩) 4 4) := by
            have h := HLST.out r5 b5
            rw [HBw.out.cell (World.block_lt_of_cell? _ _ h)]; exact h
          have i3 : (r5 : Int) < 5 := by omega
          have hgl : g + 5 < wb.heap.size := by have := HG6.out; have := HBw.out.size; omega
          have hxl : wx.heap.size < wb.heap.size := (Array.getElem?_eq_some_iff.1 hbb).1
          clear hbb
          go_upto_region 9 with fail
          rw [← hwb]
          clear hwb
          have HBd := Lib.hid (show Below wb.heap.size wb wb.drew from (Below.refl _ wb).drew)
          have FB := Lib.hid (show ∀ W, Below wb.heap.size wb W → W.cell? ⟨wx.heap.size, 0, none⟩ = some (.int .i64 3) ∧ W.cell? ⟨wx.heap.size, 1, none⟩ = some (.int .i64 (64 + (r2 : Int))) ∧ W.cell? ⟨wx.heap.size, 2, none⟩ = some (.int .i64 (3 * (24 + (k : Int)))) from fun W hW => ⟨by rw [hW.cell hxl]; exact c0, by rw [hW.cell hxl]; exact c1, by rw [hW.cell hxl]; exact c2⟩)
          have FL := Lib.hid (show ∀ W, Below wb.heap.size wb W → W.cell? ⟨g + 5, r5, none⟩ = some (.slice (some ⟨g + r5, 0, none⟩) 4 4) from fun W hW => by rw [hW.cell hgl]; exact cL)
          clear c0 c1 c2 cL
          refine wp_region_held_drew (S := fun W => Below wb.heap.size wb W) (by kernel_rfl) (HBd.out) (fun hHeld => ?_)
          have HS := HBd
          generalize wb.drew = wd at *
          refine wpAnyH_take (i := 0) (oi := ⟨some 31, _, _, _, _, none⟩) (v := (.agg #[.int .i64 3, .int .i64 (64 + (r2 : Int)), .int .i64 (3 * (24 + (k : Int)))])) rfl (by kernel_rfl) (by kernel_rfl) (by kernel_rfl) (fun _ _ _ h => h) (Or.inl ⟨by rfl, fun W hW => ?_⟩) (by assumption) ?_
          · (obtain ⟨y0, y1, y2⟩ := FB.out W hW; go_simp)
          simp only [Act.put, List.setIfInBounds_toArray, List.set_cons_zero, List.set_cons_succ]
          refine wpAnyH_take (i := 1) (oi := ⟨some 32, _, _, _, _, none⟩) (v := (.int .i64 (m : Nat))) rfl (by kernel_rfl) (by kernel_rfl) (by kernel_rfl) (fun _ _ _ h => h) (Or.inl ⟨by rfl, fun W hW => ?_⟩) (by assumption) ?_
          · go_simp
          simp only [Act.put, List.setIfInBounds_toArray, List.set_cons_zero, List.set_cons_succ]
          refine wpAnyH_take (i := 2) (oi := ⟨some 33, _, _, _, _, none⟩) (v := (.int .i64 (r7 : Nat))) rfl (by kernel_rfl) (by kernel_rfl) (by kernel_rfl) (fun _ _ _ h => h) (Or.inl ⟨by rfl, fun W hW => ?_⟩) (by assumption) ?_
          · go_simp
          simp only [Act.put, List.setIfInBounds_toArray, List.set_cons_zero, List.set_cons_succ]
          refine wpAnyH_take (i := 3) (oi := ⟨some 34, _, _, _, _, none⟩) (v := (.int .i64 (m : Nat))) rfl (by kernel_rfl) (by kernel_rfl) (by kernel_rfl) (fun _ _ _ h => h) (Or.inl ⟨by rfl, fun W hW => ?_⟩) (by assumption) ?_
          · go_simp
          simp only [Act.put, List.setIfInBounds_toArray, List.set_cons_zero, List.set_cons_succ]
          refine wpAnyH_take (i := 4) (oi := ⟨some 35, _, _, _, _, none⟩) (v := (.int .i64 (r5 : Nat))) rfl (by kernel_rfl) (by kernel_rfl) (by kernel_rfl) (fun _ _ _ h => h) (Or.inl ⟨by rfl, fun W hW => ?_⟩) (by assumption) ?_
          · go_simp
          simp only [Act.put, List.setIfInBounds_toArray, List.set_cons_zero, List.set_cons_succ]
          refine wpAnyH_take (i := 5) (oi := ⟨some 36, _, _, _, _, none⟩) (v := (.int .i64 (2 * (r5 : Int)))) rfl (by kernel_rfl) (by kernel_rfl) (by kernel_rfl) (fun _ _ _ h => h) (Or.inl ⟨by rfl, fun W hW => ?_⟩) (by assumption) ?_
          · (go_simp; exact IntWalk.i64_in _ (by omega))
          simp only [Act.put, List.setIfInBounds_toArray, List.set_cons_zero, List.set_cons_succ]
          refine wpAnyH_take (i := 7) (oi := ⟨some 38, _, _, _, _, none⟩) (v := (.int .i64 (m : Nat))) rfl (by kernel_rfl) (by kernel_rfl) (by kernel_rfl) (fun _ _ _ h => h) (Or.inl ⟨by rfl, fun W hW => ?_⟩) (by assumption) ?_
          · go_simp
          simp only [Act.put, List.setIfInBounds_toArray, List.set_cons_zero, List.set_cons_succ]
          refine wpAnyH_take (i := 8) (oi := ⟨some 39, _, _, _, _, none⟩) (v := (.int .i64 (r3 : Nat))) rfl (by kernel_rfl) (by kernel_rfl) (by kernel_rfl) (fun _ _ _ h => h) (Or.inl ⟨by rfl, fun W hW => ?_⟩) (by assumption) ?_
          · go_simp
          simp only [Act.put, List.setIfInBounds_toArray, List.set_cons_zero, List.set_cons_succ]
          refine wpAnyH_take (i := 9) (oi := ⟨some 40, _, _, _, _, none⟩) (v := (.int .i64 (m : Nat))) rfl (by kernel_rfl) (by kernel_rfl) (by kernel_rfl) (fun _ _ _ h => h) (Or.inl ⟨by rfl, fun W hW => ?_⟩) (by assumption) ?_
          · go_simp
          simp only [Act.put, List.setIfInBounds_toArray, List.set_cons_zero, List.set_cons_succ]
          refine wpAnyH_take (i := 10) (oi := ⟨some 41, _, _, _, _, none⟩) (v := (.int .i64 (q3 : Nat))) rfl (by kernel_rfl) (by kernel_rfl) (by kernel_rfl) (fun _ _ _ h => h) (Or.inl ⟨by rfl, fun W hW => ?_⟩) (by assumption) ?_
          · (go_simp; exact IntWalk.i64_in _ (by omega))
          simp only [Act.put, List.setIfInBounds_toArray, List.set_cons_zero, List.set_cons_succ]
          refine wpAnyH_take (i := 11) (oi := ⟨some 42, _, _, _, _, none⟩) (v := (.int .i64 (r4 : Nat))) rfl (by kernel_rfl) (by kernel_rfl) (by kernel_rfl) (fun _ _ _ h => h) (Or.inl ⟨by rfl, fun W hW => ?_⟩) (by assumption) ?_
          · go_simp
          simp only [Act.put, List.setIfInBounds_toArray, List.set_cons_zero, List.set_cons_succ]
          refine wpAnyH_take (i := 13) (oi := ⟨some 44, _, _, _, _, none⟩) (v := (.slice (some ⟨g + 5, 0, none⟩) 5 5)) rfl (by kernel_rfl) (by kernel_rfl) (by kernel_rfl) (fun _ _ _ h => h) (Or.inl ⟨by rfl, fun W hW => ?_⟩) (by assumption) ?_
          · go_simp
          simp only [Act.put, List.setIfInBounds_toArray, List.set_cons_zero, List.set_cons_succ]
          refine wpAnyH_take (i := 14) (oi := ⟨some 45, _, _, _, _, none⟩) (v := (.int .i64 (m : Nat))) rfl (by kernel_rfl) (by kernel_rfl) (by kernel_rfl) (fun _ _ _ h => h) (Or.inl ⟨by rfl, fun W hW => ?_⟩) (by assumption) ?_
          · go_simp
          simp only [Act.put, List.setIfInBounds_toArray, List.set_cons_zero, List.set_cons_succ]
          refine wpAnyH_take (i := 15) (oi := ⟨some 46, _, _, _, _, none⟩) (v := (.int .i64 (r5 : Nat))) rfl (by kernel_rfl) (by kernel_rfl) (by kernel_rfl) (fun _ _ _ h => h) (Or.inl ⟨by rfl, fun W hW => ?_⟩) (by assumption) ?_
          · go_simp
          simp only [Act.put, List.setIfInBounds_toArray, List.set_cons_zero, List.set_cons_succ]
          refine wpAnyH_take (i := 16) (oi := ⟨some 47, _, _, _, _, none⟩) (v := (.pointer (some ⟨g + 5, r5, none⟩))) rfl (by kernel_rfl) (by kernel_rfl) (by kernel_rfl) (fun _ _ _ h => h) (Or.inl ⟨by rfl, fun W hW => ?_⟩) (by assumption) ?_
          · go_simp
          simp only [Act.put, List.setIfInBounds_toArray, List.set_cons_zero, List.set_cons_succ]
          refine wpAnyH_take (i := 17) (oi := ⟨some 48, _, _, _, _, none⟩) (v := (.slice (some ⟨g + r5, 0, none⟩) 4 4)) rfl (by kernel_rfl) (by kernel_rfl) (by kernel_rfl) (fun _ _ _ h => h) (Or.inl ⟨by rfl, fun W hW => ?_⟩) (by assumption) ?_
          · (have y := FL.out W hW; go_simp)
          simp only [Act.put, List.setIfInBounds_toArray, List.set_cons_zero, List.set_cons_succ]
          refine @share _ ?shP9 (fun hG => ?shF9) ?shG9
          case shF9 =>
            have HGH := Lib.hid hG; clear hG
            refine wpAnyH_ready (rs := [6, 12, 19]) (by kernel_rfl) (by simp) (AllReadyH.cons rfl (fun KK hKK => ?_) (AllReadyH.cons rfl (fun KK hKK => ?_) (AllReadyH.cons rfl (fun KK hKK => ?_) AllReadyH.nil)))
            · go_simp
              refine hKK.out _ _ ((hHeld).alloc (Below.size hHeld) _) (fun hHeld => ?_)
              clear hKK KK
              try simp only [Act.put, List.setIfInBounds_toArray, List.set_cons_zero, List.set_cons_succ]
              refine wpAnyH_ready (rs := [12, 19]) (by kernel_rfl) (by simp) (AllReadyH.cons rfl (fun KK hKK => ?_) (AllReadyH.cons rfl (fun KK hKK => ?_) AllReadyH.nil))
              · go_simp
                refine hKK.out _ _ ((hHeld).alloc (Below.size hHeld) _) (fun hHeld => ?_)
                clear hKK KK
                try simp only [Act.put, List.setIfInBounds_toArray, List.set_cons_zero, List.set_cons_succ]
                refine wpAnyH_take (i := 18) (oi := ⟨some 49, _, _, _, _, none⟩) (v := (.agg #[.int .i64 3, .int .i64 (64 + (r2 : Int)), .int .i64 (3 * (24 + (k : Int))), .slice (some ⟨wd.heap.size, 0, none⟩) 2 2, .slice (some ⟨wd.heap.size + 1, 0, none⟩) 2 2, .slice (some ⟨g + r5, 0, none⟩) 4 4])) rfl (by kernel_rfl) (by kernel_rfl) (by kernel_rfl) (fun _ _ _ h => h) (Or.inl ⟨by rfl, fun W hW => ?_⟩) (by assumption) ?_
                · go_simp
                simp only [Act.put, List.setIfInBounds_toArray, List.set_cons_zero, List.set_cons_succ]
                refine wpAnyH_ready (rs := [19]) (by kernel_rfl) (by simp) (AllReadyH.cons rfl (fun KK hKK => ?_) AllReadyH.nil)
                go_simp
                refine hKK.out _ _ ((hHeld).alloc (Below.size hHeld) _) (fun hHeld => ?_)
                clear hKK KK
                try simp only [Act.put, List.setIfInBounds_toArray, List.set_cons_zero, List.set_cons_succ]
                have HALL := Lib.hid (show _ ∧ _ ∧ _ ∧ ((wd.heap.size) ≠ (wd.heap.size + 1) ∧ wb.heap.size ≤ (wd.heap.size) ∧ wb.heap.size ≤ (wd.heap.size + 1) ∧ wb.heap.size ≤ (wd.heap.size + 1 + 1)) ∧ _ from ⟨(threeB wd (.cells #[.int .i64 (r7 : Nat), .int .i64 (2 * (r5 : Int))] 3) (.cells #[.int .i64 (r3 : Nat), .int .i64 (r4 : Nat)] 3) (.cells #[.int .i64 0, .int .i64 0, .int .i64 0, .slice none 0 0, .slice none 0 0, .slice none 0 0] 26)).1, (threeB wd (.cells #[.int .i64 (r7 : Nat), .int .i64 (2 * (r5 : Int))] 3) (.cells #[.int .i64 (r3 : Nat), .int .i64 (r4 : Nat)] 3) (.cells #[.int .i64 0, .int .i64 0, .int .i64 0, .slice none 0 0, .slice none 0 0, .slice none 0 0] 26)).2.1, (threeB wd (.cells #[.int .i64 (r7 : Nat), .int .i64 (2 * (r5 : Int))] 3) (.cells #[.int .i64 (r3 : Nat), .int .i64 (r4 : Nat)] 3) (.cells #[.int .i64 0, .int .i64 0, .int .i64 0, .slice none 0 0, .slice none 0 0, .slice none 0 0] 26)).2.2.1, ⟨by omega, by have := HS.out.size; omega, by have := HS.out.size; omega, by have := HS.out.size; omega⟩, HS.out.trans ((threeB wd (.cells #[.int .i64 (r7 : Nat), .int .i64 (2 * (r5 : Int))] 3) (.cells #[.int .i64 (r3 : Nat), .int .i64 (r4 : Nat)] 3) (.cells #[.int .i64 0, .int .i64 0, .int .i64 0, .slice none 0 0, .slice none 0 0, .slice none 0 0] 26)).2.2.2.mono HS.out.size)⟩)
                generalize (((wd.alloc (.cells #[.int .i64 (r7 : Nat), .int .i64 (2 * (r5 : Int))] 3)).alloc (.cells #[.int .i64 (r3 : Nat), .int .i64 (r4 : Nat)] 3)).alloc (.cells #[.int .i64 0, .int .i64 0, .int .i64 0, .slice none 0 0, .slice none 0 0, .slice none 0 0] 26)) = W9 at HALL ⊢
                generalize wd.heap.size + 1 + 1 = x19_9 at HALL ⊢
                generalize wd.heap.size + 1 = x12_9 at HALL ⊢
                generalize wd.heap.size = x6_9 at HALL ⊢
                revert x6_9 x12_9 x19_9 W9
                exact HGH.out
              · go_simp
                refine hKK.out _ _ ((hHeld).alloc (Below.size hHeld) _) (fun hHeld => ?_)
                clear hKK KK
                try simp only [Act.put, List.setIfInBounds_toArray, List.set_cons_zero, List.set_cons_succ]
                refine wpAnyH_ready (rs := [12]) (by kernel_rfl) (by simp) (AllReadyH.cons rfl (fun KK hKK => ?_) AllReadyH.nil)
                go_simp
                refine hKK.out _ _ ((hHeld).alloc (Below.size hHeld) _) (fun hHeld => ?_)
                clear hKK KK
                try simp only [Act.put, List.setIfInBounds_toArray, List.set_cons_zero, List.set_cons_succ]
                refine wpAnyH_take (i := 18) (oi := ⟨some 49, _, _, _, _, none⟩) (v := (.agg #[.int .i64 3, .int .i64 (64 + (r2 : Int)), .int .i64 (3 * (24 + (k : Int))), .slice (some ⟨wd.heap.size, 0, none⟩) 2 2, .slice (some ⟨wd.heap.size + 1 + 1, 0, none⟩) 2 2, .slice (some ⟨g + r5, 0, none⟩) 4 4])) rfl (by kernel_rfl) (by kernel_rfl) (by kernel_rfl) (fun _ _ _ h => h) (Or.inl ⟨by rfl, fun W hW => ?_⟩) (by assumption) ?_
                · go_simp
                simp only [Act.put, List.setIfInBounds_toArray, List.set_cons_zero, List.set_cons_succ]
                exact HGH.out _ _ _ _ (Lib.hid ⟨(threeB wd (.cells #[.int .i64 (r7 : Nat), .int .i64 (2 * (r5 : Int))] 3) (.cells #[.int .i64 0, .int .i64 0, .int .i64 0, .slice none 0 0, .slice none 0 0, .slice none 0 0] 26) (.cells #[.int .i64 (r3 : Nat), .int .i64 (r4 : Nat)] 3)).1, (threeB wd (.cells #[.int .i64 (r7 : Nat), .int .i64 (2 * (r5 : Int))] 3) (.cells #[.int .i64 0, .int .i64 0, .int .i64 0, .slice none 0 0, .slice none 0 0, .slice none 0 0] 26) (.cells #[.int .i64 (r3 : Nat), .int .i64 (r4 : Nat)] 3)).2.2.1, (threeB wd (.cells #[.int .i64 (r7 : Nat), .int .i64 (2 * (r5 : Int))] 3) (.cells #[.int .i64 0, .int .i64 0, .int .i64 0, .slice none 0 0, .slice none 0 0, .slice none 0 0] 26) (.cells #[.int .i64 (r3 : Nat), .int .i64 (r4 : Nat)] 3)).2.1, ⟨by omega, by have := HS.out.size; omega, by have := HS.out.size; omega, by have := HS.out.size; omega⟩, HS.out.trans ((threeB wd (.cells #[.int .i64 (r7 : Nat), .int .i64 (2 * (r5 : Int))] 3) (.cells #[.int .i64 0, .int .i64 0, .int .i64 0, .slice none 0 0, .slice none 0 0, .slice none 0 0] 26) (.cells #[.int .i64 (r3 : Nat), .int .i64 (r4 : Nat)] 3)).2.2.2.mono HS.out.size)⟩)
            · go_simp
              refine hKK.out _ _ ((hHeld).alloc (Below.size hHeld) _) (fun hHeld => ?_)
              clear hKK KK
              try simp only [Act.put, List.setIfInBounds_toArray, List.set_cons_zero, List.set_cons_succ]
              refine wpAnyH_ready (rs := [6, 19]) (by kernel_rfl) (by simp) (AllReadyH.cons rfl (fun KK hKK => ?_) (AllReadyH.cons rfl (fun KK hKK => ?_) AllReadyH.nil))
              · go_simp
                refine hKK.out _ _ ((hHeld).alloc (Below.size hHeld) _) (fun hHeld => ?_)
                clear hKK KK
                try simp only [Act.put, List.setIfInBounds_toArray, List.set_cons_zero, List.set_cons_succ]
                refine wpAnyH_take (i := 18) (oi := ⟨some 49, _, _, _, _, none⟩) (v := (.agg #[.int .i64 3, .int .i64 (64 + (r2 : Int)), .int .i64 (3 * (24 + (k : Int))), .slice (some ⟨wd.heap.size + 1, 0, none⟩) 2 2, .slice (some ⟨wd.heap.size, 0, none⟩) 2 2, .slice (some ⟨g + r5, 0, none⟩) 4 4])) rfl (by kernel_rfl) (by kernel_rfl) (by kernel_rfl) (fun _ _ _ h => h) (Or.inl ⟨by rfl, fun W hW => ?_⟩) (by assumption) ?_
                · go_simp
                simp only [Act.put, List.setIfInBounds_toArray, List.set_cons_zero, List.set_cons_succ]
                refine wpAnyH_ready (rs := [19]) (by kernel_rfl) (by simp) (AllReadyH.cons rfl (fun KK hKK => ?_) AllReadyH.nil)
                go_simp
                refine hKK.out _ _ ((hHeld).alloc (Below.size hHeld) _) (fun hHeld => ?_)
                clear hKK KK
                try simp only [Act.put, List.setIfInBounds_toArray, List.set_cons_zero, List.set_cons_succ]
                exact HGH.out _ _ _ _ (Lib.hid ⟨(threeB wd (.cells #[.int .i64 (r3 : Nat), .int .i64 (r4 : Nat)] 3) (.cells #[.int .i64 (r7 : Nat), .int .i64 (2 * (r5 : Int))] 3) (.cells #[.int .i64 0, .int .i64 0, .int .i64 0, .slice none 0 0, .slice none 0 0, .slice none 0 0] 26)).2.1, (threeB wd (.cells #[.int .i64 (r3 : Nat), .int .i64 (r4 : Nat)] 3) (.cells #[.int .i64 (r7 : Nat), .int .i64 (2 * (r5 : Int))] 3) (.cells #[.int .i64 0, .int .i64 0, .int .i64 0, .slice none 0 0, .slice none 0 0, .slice none 0 0] 26)).1, (threeB wd (.cells #[.int .i64 (r3 : Nat), .int .i64 (r4 : Nat)] 3) (.cells #[.int .i64 (r7 : Nat), .int .i64 (2 * (r5 : Int))] 3) (.cells #[.int .i64 0, .int .i64 0, .int .i64 0, .slice none 0 0, .slice none 0 0, .slice none 0 0] 26)).2.2.1, ⟨by omega, by have := HS.out.size; omega, by have := HS.out.size; omega, by have := HS.out.size; omega⟩, HS.out.trans ((threeB wd (.cells #[.int .i64 (r3 : Nat), .int .i64 (r4 : Nat)] 3) (.cells #[.int .i64 (r7 : Nat), .int .i64 (2 * (r5 : Int))] 3) (.cells #[.int .i64 0, .int .i64 0, .int .i64 0, .slice none 0 0, .slice none 0 0, .slice none 0 0] 26)).2.2.2.mono HS.out.size)⟩)
              · go_simp
                refine hKK.out _ _ ((hHeld).alloc (Below.size hHeld) _) (fun hHeld => ?_)
                clear hKK KK
                try simp only [Act.put, List.setIfInBounds_toArray, List.set_cons_zero, List.set_cons_succ]
                refine wpAnyH_ready (rs := [6]) (by kernel_rfl) (by simp) (AllReadyH.cons rfl (fun KK hKK => ?_) AllReadyH.nil)
                go_simp
                refine hKK.out _ _ ((hHeld).alloc (Below.size hHeld) _) (fun hHeld => ?_)
                clear hKK KK
                try simp only [Act.put, List.setIfInBounds_toArray, List.set_cons_zero, List.set_cons_succ]
                refine wpAnyH_take (i := 18) (oi := ⟨some 49, _, _, _, _, none⟩) (v := (.agg #[.int .i64 3, .int .i64 (64 + (r2 : Int)), .int .i64 (3 * (24 + (k : Int))), .slice (some ⟨wd.heap.size + 1 + 1, 0, none⟩) 2 2, .slice (some ⟨wd.heap.size, 0, none⟩) 2 2, .slice (some ⟨g + r5, 0, none⟩) 4 4])) rfl (by kernel_rfl) (by kernel_rfl) (by kernel_rfl) (fun _ _ _ h => h) (Or.inl ⟨by rfl, fun W hW => ?_⟩) (by assumption) ?_
                · go_simp
                simp only [Act.put, List.setIfInBounds_toArray, List.set_cons_zero, List.set_cons_succ]
                exact HGH.out _ _ _ _ (Lib.hid ⟨(threeB wd (.cells #[.int .i64 (r3 : Nat), .int .i64 (r4 : Nat)] 3) (.cells #[.int .i64 0, .int .i64 0, .int .i64 0, .slice none 0 0, .slice none 0 0, .slice none 0 0] 26) (.cells #[.int .i64 (r7 : Nat), .int .i64 (2 * (r5 : Int))] 3)).2.2.1, (threeB wd (.cells #[.int .i64 (r3 : Nat), .int .i64 (r4 : Nat)] 3) (.cells #[.int .i64 0, .int .i64 0, .int .i64 0, .slice none 0 0, .slice none 0 0, .slice none 0 0] 26) (.cells #[.int .i64 (r7 : Nat), .int .i64 (2 * (r5 : Int))] 3)).1, (threeB wd (.cells #[.int .i64 (r3 : Nat), .int .i64 (r4 : Nat)] 3) (.cells #[.int .i64 0, .int .i64 0, .int .i64 0, .slice none 0 0, .slice none 0 0, .slice none 0 0] 26) (.cells #[.int .i64 (r7 : Nat), .int .i64 (2 * (r5 : Int))] 3)).2.1, ⟨by omega, by have := HS.out.size; omega, by have := HS.out.size; omega, by have := HS.out.size; omega⟩, HS.out.trans ((threeB wd (.cells #[.int .i64 (r3 : Nat), .int .i64 (r4 : Nat)] 3) (.cells #[.int .i64 0, .int .i64 0, .int .i64 0, .slice none 0 0, .slice none 0 0, .slice none 0 0] 26) (.cells #[.int .i64 (r7 : Nat), .int .i64 (2 * (r5 : Int))] 3)).2.2.2.mono HS.out.size)⟩)
            · go_simp
              refine hKK.out _ _ ((hHeld).alloc (Below.size hHeld) _) (fun hHeld => ?_)
              clear hKK KK
              try simp only [Act.put, List.setIfInBounds_toArray, List.set_cons_zero, List.set_cons_succ]
              refine wpAnyH_ready (rs := [6, 12]) (by kernel_rfl) (by simp) (AllReadyH.cons rfl (fun KK hKK => ?_) (AllReadyH.cons rfl (fun KK hKK => ?_) AllReadyH.nil))
              · go_simp
                refine hKK.out _ _ ((hHeld).alloc (Below.size hHeld) _) (fun hHeld => ?_)
                clear hKK KK
                try simp only [Act.put, List.setIfInBounds_toArray, List.set_cons_zero, List.set_cons_succ]
                refine wpAnyH_ready (rs := [12]) (by kernel_rfl) (by simp) (AllReadyH.cons rfl (fun KK hKK => ?_) AllReadyH.nil)
                go_simp
                refine hKK.out _ _ ((hHeld).alloc (Below.size hHeld) _) (fun hHeld => ?_)
                clear hKK KK
                try simp only [Act.put, List.setIfInBounds_toArray, List.set_cons_zero, List.set_cons_succ]
                refine wpAnyH_take (i := 18) (oi := ⟨some 49, _, _, _, _, none⟩) (v := (.agg #[.int .i64 3, .int .i64 (64 + (r2 : Int)), .int .i64 (3 * (24 + (k : Int))), .slice (some ⟨wd.heap.size + 1, 0, none⟩) 2 2, .slice (some ⟨wd.heap.size + 1 + 1, 0, none⟩) 2 2, .slice (some ⟨g + r5, 0, none⟩) 4 4])) rfl (by kernel_rfl) (by kernel_rfl) (by kernel_rfl) (fun _ _ _ h => h) (Or.inl ⟨by rfl, fun W hW => ?_⟩) (by assumption) ?_
                · go_simp
                simp only [Act.put, List.setIfInBounds_toArray, List.set_cons_zero, List.set_cons_succ]
                exact HGH.out _ _ _ _ (Lib.hid ⟨(threeB wd (.cells #[.int .i64 0, .int .i64 0, .int .i64 0, .slice none 0 0, .slice none 0 0, .slice none 0 0] 26) (.cells #[.int .i64 (r7 : Nat), .int .i64 (2 * (r5 : Int))] 3) (.cells #[.int .i64 (r3 : Nat), .int .i64 (r4 : Nat)] 3)).2.1, (threeB wd (.cells #[.int .i64 0, .int .i64 0, .int .i64 0, .slice none 0 0, .slice none 0 0, .slice none 0 0] 26) (.cells #[.int .i64 (r7 : Nat), .int .i64 (2 * (r5 : Int))] 3) (.cells #[.int .i64 (r3 : Nat), .int .i64 (r4 : Nat)] 3)).2.2.1, (threeB wd (.cells #[.int .i64 0, .int .i64 0, .int .i64 0, .slice none 0 0, .slice none 0 0, .slice none 0 0] 26) (.cells #[.int .i64 (r7 : Nat), .int .i64 (2 * (r5 : Int))] 3) (.cells #[.int .i64 (r3 : Nat), .int .i64 (r4 : Nat)] 3)).1, ⟨by omega, by have := HS.out.size; omega, by have := HS.out.size; omega, by have := HS.out.size; omega⟩, HS.out.trans ((threeB wd (.cells #[.int .i64 0, .int .i64 0, .int .i64 0, .slice none 0 0, .slice none 0 0, .slice none 0 0] 26) (.cells #[.int .i64 (r7 : Nat), .int .i64 (2 * (r5 : Int))] 3) (.cells #[.int .i64 (r3 : Nat), .int .i64 (r4 : Nat)] 3)).2.2.2.mono HS.out.size)⟩)
              · go_simp
                refine hKK.out _ _ ((hHeld).alloc (Below.size hHeld) _) (fun hHeld => ?_)
                clear hKK KK
                try simp only [Act.put, List.setIfInBounds_toArray, List.set_cons_zero, List.set_cons_succ]
                refine wpAnyH_ready (rs := [6]) (by kernel_rfl) (by simp) (AllReadyH.cons rfl (fun KK hKK => ?_) AllReadyH.nil)
                go_simp
                refine hKK.out _ _ ((hHeld).alloc (Below.size hHeld) _) (fun hHeld => ?_)
                clear hKK KK
                try simp only [Act.put, List.setIfInBounds_toArray, List.set_cons_zero, List.set_cons_succ]
                refine wpAnyH_take (i := 18) (oi := ⟨some 49, _, _, _, _, none⟩) (v := (.agg #[.int .i64 3, .int .i64 (64 + (r2 : Int)), .int .i64 (3 * (24 + (k : Int))), .slice (some ⟨wd.heap.size + 1 + 1, 0, none⟩) 2 2, .slice (some ⟨wd.heap.size + 1, 0, none⟩) 2 2, .slice (some ⟨g + r5, 0, none⟩) 4 4])) rfl (by kernel_rfl) (by kernel_rfl) (by kernel_rfl) (fun _ _ _ h => h) (Or.inl ⟨by rfl, fun W hW => ?_⟩) (by assumption) ?_
                · go_simp
                simp only [Act.put, List.setIfInBounds_toArray, List.set_cons_zero, List.set_cons_succ]
                exact HGH.out _ _ _ _ (Lib.hid ⟨(threeB wd (.cells #[.int .i64 0, .int .i64 0, .int .i64 0, .slice none 0 0, .slice none 0 0, .slice none 0 0] 26) (.cells #[.int .i64 (r3 : Nat), .int .i64 (r4 : Nat)] 3) (.cells #[.int .i64 (r7 : Nat), .int .i64 (2 * (r5 : Int))] 3)).2.2.1, (threeB wd (.cells #[.int .i64 0, .int .i64 0, .int .i64 0, .slice none 0 0, .slice none 0 0, .slice none 0 0] 26) (.cells #[.int .i64 (r3 : Nat), .int .i64 (r4 : Nat)] 3) (.cells #[.int .i64 (r7 : Nat), .int .i64 (2 * (r5 : Int))] 3)).2.1, (threeB wd (.cells #[.int .i64 0, .int .i64 0, .int .i64 0, .slice none 0 0, .slice none 0 0, .slice none 0 0] 26) (.cells #[.int .i64 (r3 : Nat), .int .i64 (r4 : Nat)] 3) (.cells #[.int .i64 (r7 : Nat), .int .i64 (2 * (r5 : Int))] 3)).1, ⟨by omega, by have := HS.out.size; omega, by have := HS.out.size; omega, by have := HS.out.size; omega⟩, HS.out.trans ((threeB wd (.cells #[.int .i64 0, .int .i64 0, .int .i64 0, .slice none 0 0, .slice none 0 0, .slice none 0 0] 26) (.cells #[.int .i64 (r3 : Nat), .int .i64 (r4 : Nat)] 3) (.cells #[.int .i64 (r7 : Nat), .int .i64 (2 * (r5 : Int))] 3)).2.2.2.mono HS.out.size)⟩)
          case shG9 =>
            intro W9 x19_9 x12_9 x6_9 HALL
            obtain ⟨hh6, hh12, hh19, hne, hHeld⟩ := HALL.out
            clear HALL
            have z0 : W9.cell? ⟨x19_9, 0, none⟩ = some (.int .i64 0) := by rw [cell_of_row W9 _ 0 _ _ _ hh19]; rfl
            have z1 : W9.cell? ⟨x19_9, 1, none⟩ = some (.int .i64 0) := by rw [cell_of_row W9 _ 1 _ _ _ hh19]; rfl
            have z2 : W9.cell? ⟨x19_9, 2, none⟩ = some (.int .i64 0) := by rw [cell_of_row W9 _ 2 _ _ _ hh19]; rfl
            have z3 : W9.cell? ⟨x19_9, 3, none⟩ = some (.slice none 0 0) := by rw [cell_of_row W9 _ 3 _ _ _ hh19]; rfl
            have z4 : W9.cell? ⟨x19_9, 4, none⟩ = some (.slice none 0 0) := by rw [cell_of_row W9 _ 4 _ _ _ hh19]; rfl
            have z5 : W9.cell? ⟨x19_9, 5, none⟩ = some (.slice none 0 0) := by rw [cell_of_row W9 _ 5 _ _ _ hh19]; rfl
            have f0 : W9.frozen? ⟨x19_9, 0, none⟩ = false := frozen_of_row W9 _ 0 _ _ hh19
            have f1 : W9.frozen? ⟨x19_9, 1, none⟩ = false := frozen_of_row W9 _ 1 _ _ hh19
            have f2 : W9.frozen? ⟨x19_9, 2, none⟩ = false := frozen_of_row W9 _ 2 _ _ hh19
            have f3 : W9.frozen? ⟨x19_9, 3, none⟩ = false := frozen_of_row W9 _ 3 _ _ hh19
            have f4 : W9.frozen? ⟨x19_9, 4, none⟩ = false := frozen_of_row W9 _ 4 _ _ hh19
            have f5 : W9.frozen? ⟨x19_9, 5, none⟩ = false := frozen_of_row W9 _ 5 _ _ hh19
            refine wpAnyH_ready (rs := [20]) (by kernel_rfl) (by simp) (AllReadyH.cons rfl (fun KK hKK => ?_) AllReadyH.nil)
            go_simp
            refine hKK.out _ _ (below_six hHeld hne.2.2.2 _ _ _ _ _ _) (fun hHeld => ?_)
            clear hKK KK
            try simp only [Act.put, List.setIfInBounds_toArray, List.set_cons_zero, List.set_cons_succ]
            refine wpAnyH_done (by kernel_rfl) ?_ _
            clear z0 z1 z2 z3 z4 z5 f0 f1 f2 f3 f4 f5
            obtain ⟨W10, hW10⟩ : ∃ W10, W10 = ((((((W9.setCell ⟨x19_9, 0, none⟩ (.int .i64 3)).setCell ⟨x19_9, 1, none⟩ (.int .i64 (64 + (r2 : Int)))).setCell ⟨x19_9, 2, none⟩ (.int .i64 (3 * (24 + (k : Int))))).setCell ⟨x19_9, 3, none⟩ (.slice (some ⟨x6_9, 0, none⟩) 2 2)).setCell ⟨x19_9, 4, none⟩ (.slice (some ⟨x12_9, 0, none⟩) 2 2)).setCell ⟨x19_9, 5, none⟩ (.slice (some ⟨g + r5, 0, none⟩) 4 4)) := ⟨_, rfl⟩
            have ht10 : TAt W10 x19_9 26 3 (64 + (r2 : Int)) (3 * (24 + (k : Int))) (some ⟨x6_9, 0, none⟩) 2 2 (some ⟨x12_9, 0, none⟩) 2 2 (some ⟨g + r5, 0, none⟩) 4 4 := by rw [hW10]; exact put_six hh19 _ _ _ _ _ _
            have hk10 : ∀ j, j ≠ x19_9 → W10.heap[j]? = W9.heap[j]? := fun j hj => by
              have k : ∀ (U : World) (i : Nat) (v : Value), (U.setCell ⟨x19_9, i, none⟩ v).heap[j]? = U.heap[j]? := fun U i v => Below.heap_setCell U ⟨x19_9, i, none⟩ v j hj
              rw [hW10, k, k, k, k, k, k]
            rw [← hW10] at hHeld ⊢
            have n6 : x6_9 ≠ x19_9 := fun e => by
              rw [e, hh19] at hh6
              injection hh6 with q; injection q with _ q
              exact absurd q (by decide)
            have n12 : x12_9 ≠ x19_9 := fun e => by
              rw [e, hh19] at hh12
              injection hh12 with q; injection q with _ q
              exact absurd q (by decide)
            have HT10 := Lib.hid ht10; have H6 := Lib.hid ((hk10 _ n6).trans hh6); have H12 := Lib.hid ((hk10 _ n12).trans hh12)
            have HBx := Lib.hid (HBw.out.trans (hHeld.mono HBw.out.size))
            obtain ⟨Lw, hLw⟩ := HROW.out r5 b5
            have HLW := Lib.hid hLw
            have HNE := Lib.hid hne
            obtain ⟨d0, d1, d2, d3, d4, d5⟩ := ht10.c
            clear hW10 ht10 hk10 hLw hh6 hh12 hh19 hne hHeld
            go_wp2_with fail
            refine (HPB.out 3 (64 + (r2 : Int)) (3 * (24 + (k : Int))) (some ⟨x6_9, 0, none⟩) 2 2 (some ⟨x12_9, 0, none⟩) 2 2 (some ⟨g + r5, 0, none⟩) 4 4 _ _ _ (by omega) (by omega) (by omega) W10 (hi_lit2 W10 x6_9 [(r7 : Int), 2 * (r5 : Int)] 2 (by simp) (by simp) H6.out) (hi_lit2 W10 x12_9 [(r3 : Int), (r4 : Int)] 2 (by simp) (by simp) H12.out) (HLW.out.same HBx.out)).mono ?_
            rintro e W11 ⟨rfl, hB11⟩
            have HT11 := Lib.hid (HT10.out.same hB11); have H611 := Lib.hid ((hB11.block _ (Array.getElem?_eq_some_iff.1 H6.out).1).trans H6.out); have H1211 := Lib.hid ((hB11.block _ (Array.getElem?_eq_some_iff.1 H12.out).1).trans H12.out)
            have HB11 := Lib.hid (HBx.out.trans (hB11.mono HBx.out.size))
            clear hB11 d0 d1 d2 d3 d4 d5 HT10 H6 H12 HBx
            -- one more length
            have hal := (Below.refl W11.heap.size W11).alloc (Nat.le_refl _) (.cells #[.int .i64 (k : Nat)] 3)
            have hH := (hal.block _ (Array.getElem?_eq_some_iff.1 H611.out).1).trans H611.out
            have hcc : (W11.alloc (.cells #[.int .i64 (k : Nat)] 3)).cell? ⟨W11.heap.size, 0, none⟩ = some (.int .i64 (k : Nat)) := by rw [cell_of_row _ _ 0 _ _ _ (heap_alloc_new W11 _)]; rfl
            have HAL := Lib.hid hal; have HH := Lib.hid hH; have HCC := Lib.hid hcc
            obtain ⟨d0, d1, d2, d3, d4, d5⟩ := HT11.out.c
            have hx11 := HT11.out.lt
            clear d0 d1 d2 d4 d5 hal hH hcc
            go_upto_region 13 with (at_builtin; refine wpList_append_fullI rfl (.tmp 54) (.tmp 56) rfl (g := x6_9) (n := 2) (h := fun i => ([(r7 : Int), 2 * (r5 : Int)] : List Int).getD i 0) (by omega) HH.out rfl ⟨W11.heap.size, 0, none⟩ 1 (k : Nat) rfl HCC.out ?_; intro g13 c13 W13 hi13 hg13 hgr13; have hB13 : Below W11.heap.size W11 W13 := (HAL.out.grown hgr13 HAL.out.size (fun j e => by cases e)); have HT13 := Lib.hid (HT11.out.same hB13); have H1213 := Lib.hid ((hB13.block _ (Array.getElem?_eq_some_iff.1 H1211.out).1).trans H1211.out); have HB13 := Lib.hid (HB11.out.trans (hB13.mono HB11.out.size)); have HI13 := Lib.hid hi13; have HG13 := Lib.hid (show g13 ≠ x19_9 by have h1 := HT11.out.lt; have h2 := HAL.out.size; omega); have y3 := HT13.out.c.2.2.2.1; have f3 := HT13.out.free 3; clear d3 hi13 hg13 hgr13 hB13)
            obtain ⟨W14, hW14⟩ : ∃ W14, W14 = W13.setCell ⟨x19_9, 3, none⟩ (.slice (some ⟨g13, 0, none⟩) 3 c13) := ⟨_, rfl⟩
            rw [← hW14]
            have ht14 : TAt W14 x19_9 26 3 (64 + (r2 : Int)) (3 * (24 + (k : Int))) (some ⟨g13, 0, none⟩) 3 c13 (some ⟨x12_9, 0, none⟩) 2 2 (some ⟨g + r5, 0, none⟩) 4 4 := by
              rw [hW14]; exact heap_setCell_same W13 x19_9 3 _ _ _ HT13.out
            have HT14 := Lib.hid ht14
            have H1214 := Lib.hid (show W14.heap[x12_9]? = some (.cells #[.int .i64 (r3 : Nat), .int .i64 (r4 : Nat)] 3 (0, 0)) by rw [hW14, Below.heap_setCell W13 ⟨x19_9, 3, none⟩ _ x12_9 n12]; exact H1213.out)
            obtain ⟨L13, hi13⟩ := HI13.out
            have HI14 := Lib.hid (show Hi W14 (some ⟨g13, 0, none⟩) 3 c13 L13 by rw [hW14]; exact hi_set hi13 (fun ad e => by cases e; exact HG13.out) _ _)
            have HB14 := Lib.hid (show Below W6.heap.size W6 W14 by
              rw [hW14]
              exact HB13.out.setCell (p := ⟨x19_9, 3, none⟩) (by show _ ≤ x19_9; have h1 := HNE.out.2.2.2; have h2 := HBw.out.size; omega) _)
            -- one more worth
            have hal := (Below.refl W14.heap.size W14).alloc (Nat.le_refl _) (.cells #[.int .i64 2] 3)
            have hH := (hal.block _ (Array.getElem?_eq_some_iff.1 H1214.out).1).trans H1214.out
            have hcc : (W14.alloc (.cells #[.int .i64 2] 3)).cell? ⟨W14.heap.size, 0, none⟩ = some (.int .i64 2) := by rw [cell_of_row _ _ 0 _ _ _ (heap_alloc_new W14 _)]; rfl
            have HAL4 := Lib.hid hal; have HH4 := Lib.hid hH; have HCC4 := Lib.hid hcc
            obtain ⟨d0, d1, d2, d3, d4, d5⟩ := ht14.c
            have hx14 := ht14.lt
            clear d0 d1 d2 d3 d5 hal hH hcc hW14 ht14 hi13 HT13 H1213 HB13 HI13 y3 f3 hx11 HAL HH HCC HT11 H611 H1211 HB11
            go_upto_region 14 with (at_builtin; refine wpList_append_fullI rfl (.tmp 60) (.tmp 61) rfl (g := x12_9) (n := 2) (h := fun i => ([(r3 : Int), (r4 : Int)] : List Int).getD i 0) (by omega) HH4.out rfl ⟨W14.heap.size, 0, none⟩ 1 2 rfl HCC4.out ?_; intro g15 c15 W15 hi15 hg15 hgr15; have hB15 : Below W14.heap.size W14 W15 := (HAL4.out.grown hgr15 HAL4.out.size (fun j e => by cases e)); have HT15 := Lib.hid (HT14.out.same hB15); have HB15 := Lib.hid (HB14.out.trans (hB15.mono HB14.out.size)); have HI15 := Lib.hid hi15; have HIL15 := Lib.hid (HI14.out.same hB15); have HG15 := Lib.hid (show g15 ≠ x19_9 by have h1 := HT14.out.lt; have h2 := HAL4.out.size; omega); have y4 := HT15.out.c.2.2.2.2.1; have f4 := HT15.out.free 4; clear d4 hi15 hg15 hgr15 hB15)
            obtain ⟨W16, hW16⟩ : ∃ W16, W16 = W15.setCell ⟨x19_9, 4, none⟩ (.slice (some ⟨g15, 0, none⟩) 3 c15) := ⟨_, rfl⟩
            rw [← hW16]
            have ht16 : TAt W16 x19_9 26 3 (64 + (r2 : Int)) (3 * (24 + (k : Int))) (some ⟨g13, 0, none⟩) 3 c13 (some ⟨g15, 0, none⟩) 3 c15 (some ⟨g + r5, 0, none⟩) 4 4 := by
              rw [hW16]; exact heap_setCell_same W15 x19_9 4 _ _ _ HT15.out
            obtain ⟨L15, hi15⟩ := HI15.out
            have HI16 := Lib.hid (show Hi W16 (some ⟨g15, 0, none⟩) 3 c15 L15 by rw [hW16]; exact hi_set hi15 (fun ad e => by cases e; exact HG15.out) _ _)
            have HL16 := Lib.hid (show Hi W16 (some ⟨g13, 0, none⟩) 3 c13 L13 by rw [hW16]; exact hi_set HIL15.out (fun ad e => by cases e; exact HG13.out) _ _)
            have HB16 := Lib.hid (show Below W6.heap.size W6 W16 by
              rw [hW16]
              exact HB15.out.setCell (p := ⟨x19_9, 4, none⟩) (by show _ ≤ x19_9; have h1 := HNE.out.2.2.2; have h2 := HBw.out.size; omega) _)
            obtain ⟨d0, d1, d2, d3, d4, d5⟩ := ht16.c
            clear hW16 ht16 hi15 HT14 H1214 HI14 HB14 HT15 HB15 HI15 HIL15 y4 f4 hx14 HAL4 HH4 HCC4
            go_wp2_with fail
            refine (HPB.out 3 (64 + (r2 : Int)) (3 * (24 + (k : Int))) (some ⟨g13, 0, none⟩) 3 c13 (some ⟨g15, 0, none⟩) 3 c15 (some ⟨g + r5, 0, none⟩) 4 4 _ _ _ (by omega) (by omega) (by omega) W16 HL16.out HI16.out (HLW.out.same HB16.out)).mono ?_
            rintro e W17 ⟨rfl, hB17⟩
            have HB17 := Lib.hid (HB16.out.trans (hB17.mono HB16.out.size))
            clear hB17 d0 d1 d2 d3 d4 d5 HB16 HI16 HL16
            go_wp2_with fail
            go_roundw
            case rel => exact ⟨m + 1, _, rfl, by omega, by go_num, HB17.out⟩
            case measure => simp [intOf]; omega
        · have i2 : ¬ (m : Int) < 60 := by omega
          go_wp2_with fail
          go_roundw
          case rel => exact ⟨k + 1, _, rfl, by omega, by go_num, HB.out⟩
          case measure => simp [intOf]; omega
    · have i1 : ¬ (k : Int) < 10 := by omega
      clear hk hk10
      -- a good task, fourteen times
      obtain ⟨t0, t1, tb⟩ := twoB wo (.cells #[.int .i64 5] 3) (.cells #[.int .i64 1] 3)
      obtain ⟨Wa, hWa⟩ : ∃ Wa, Wa = (wo.alloc (.cells #[.int .i64 5] 3)).alloc (.cells #[.int .i64 1] 3) := ⟨_, rfl⟩
      rw [← hWa] at t0 t1 tb
      have hza : Wa.heap.size = wo.heap.size + 1 + 1 := by rw [hWa, World.size_alloc, World.size_alloc]
      obtain ⟨Wb, hWb⟩ : ∃ Wb, Wb = Wa.alloc (.cells #[.int .i64 3, .int .i64 64, .int .i64 200, .slice (some ⟨wo.heap.size, 0, none⟩) 1 1, .slice (some ⟨wo.heap.size + 1, 0, none⟩) 1 1, .slice (some ⟨g, 0, none⟩) 4 4] 26) := ⟨_, rfl⟩
      have hbb : Below Wa.heap.size Wa Wb := by rw [hWb]; exact (Below.refl _ Wa).alloc (Nat.le_refl _) _
      have htb : TAt Wb (wo.heap.size + 1 + 1) 26 3 64 200 (some ⟨wo.heap.size, 0, none⟩) 1 1 (some ⟨wo.heap.size + 1, 0, none⟩) 1 1 (some ⟨g, 0, none⟩) 4 4 := by
        rw [hWb, ← hza]; exact heap_alloc_new _ _
      have HTb := Lib.hid htb
      have HBb := Lib.hid (HBo.out.trans ((tb.trans (hbb.mono tb.size)).mono HBo.out.size))
      have HLb := Lib.hid (hi_lit2 Wb wo.heap.size [5] 1 (by simp) (by simp) ((hbb.block _ (Array.getElem?_eq_some_iff.1 t0).1).trans t0))
      have HVb := Lib.hid (hi_lit2 Wb (wo.heap.size + 1) [1] 1 (by simp) (by simp) ((hbb.block _ (Array.getElem?_eq_some_iff.1 t1).1).trans t1))
      have cL : wo.cell? ⟨g + 5, 0, none⟩ = some (.slice (some ⟨g, 0, none⟩) 4 4) := by
        have h := HLST.out 0 (by omega)
        rw [HBo.out.cell (World.block_lt_of_cell? _ _ h)]; exact h
      have hgl : g + 5 < wo.heap.size := by have := HG6.out; have := HBo.out.size; omega
      have HWB := Lib.hid (show Wb = ((wo.alloc (.cells #[.int .i64 5] 3)).alloc (.cells #[.int .i64 1] 3)).alloc (.cells #[.int .i64 3, .int .i64 64, .int .i64 200, .slice (some ⟨wo.heap.size, 0, none⟩) 1 1, .slice (some ⟨wo.heap.size + 1, 0, none⟩) 1 1, .slice (some ⟨g, 0, none⟩) 4 4] 26) by rw [hWb, hWa])
      clear t0 t1 tb hWa hza hWb hbb htb
      go_wp2_with fail
      rw [← HWB.out]
      have HX5 := Lib.hid (show wo.heap.size + 1 < Wb.heap.size by have := HTb.out.lt; omega)
      have HG5 := Lib.hid (show g < Wb.heap.size by have := HG6.out; have := HBb.out.size; omega)
      clear HWB cL hgl i1
      generalize wo.heap.size = x5 at *
      obtain ⟨Lg, hLg⟩ := HROW.out 0 (by omega)
      have HLg := Lib.hid (show Hi Wb (some ⟨g, 0, none⟩) 4 4 Lg from hLg.same HBb.out)
      obtain ⟨i0, hi, hz0, hz1, hz2⟩ := info_parts Try.infoPTask
      have HI := Lib.hid hi; have HZ0 := Lib.hid hz0; have HZ1 := Lib.hid hz1; have HZ2 := Lib.hid hz2
      clear hLg hi hz0 hz1 hz2
      go_loopw [7, 8] (fun v i wr => ∃ (q : Nat) (a : Option Addr) (c : Nat) (W : World), W = wr ∧ q ≤ 14 ∧ i = .int .i64 q ∧ v = .slice a q c ∧ wr.ownsRow Wb.heap.size 26 6 (.slice a q c) q (rep [.int .i64 3, .int .i64 64, .int .i64 200, .slice (some ⟨x5, 0, none⟩) 1 1, .slice (some ⟨x5 + 1, 0, none⟩) 1 1, .slice (some ⟨g, 0, none⟩) 4 4] q) ∧ Below Wb.heap.size Wb wr) (fun _ i _ => 14 - (intOf i).toNat)
      case atStart => exact ⟨0, none, 0, _, rfl, by omega, rfl, rfl, World.ownsRow_nil _ _ _ _, Below.refl _ _⟩
      case round =>
        obtain ⟨q, a, c, wx, rfl, hq, rfl, rfl, hO, hB⟩ := hrel
        have HO := Lib.hid hO; have HBx := Lib.hid hB
        have hsx := hB.size
        clear hO hB
        by_cases hq14 : q < 14
        · have i1 : (q : Int) < 14 := by omega
          obtain ⟨d0, d1, d2, d3, d4, d5⟩ := (HTb.out.same HBx.out).c
          have hal := (Below.refl wx.heap.size wx).alloc (Nat.le_refl _) (.cells #[.int .i64 3, .int .i64 64, .int .i64 200, .slice (some ⟨x5, 0, none⟩) 1 1, .slice (some ⟨x5 + 1, 0, none⟩) 1 1, .slice (some ⟨g, 0, none⟩) 4 4] 26)
          have HOX := Lib.hid (own_below HO.out hal)
          have HBX := Lib.hid (HBx.out.trans (hal.mono hsx))
          have hbase : Wb.heap.size ≤ (wx.alloc (.cells #[.int .i64 3, .int .i64 64, .int .i64 200, .slice (some ⟨x5, 0, none⟩) 1 1, .slice (some ⟨x5 + 1, 0, none⟩) 1 1, .slice (some ⟨g, 0, none⟩) 4 4] 26)).heap.size := HBX.out.size
          clear hal
          go_wp2_with (at_builtin; refine wpList_append_own _ rfl (.tmp 78) (.tmp 80) 45 rfl Wb.heap.size 26 i0 (.agg #[.int .i64 0, .int .i64 0, .int .i64 0, .slice none 0 0, .slice none 0 0, .slice none 0 0]) 6 96 Try.underlying45 HI.out HZ0.out HZ1.out HZ2.out rfl (by decide) (.slice a q c) q _ rfl HOX.out ⟨wx.heap.size, 0, none⟩ 1 1 [.int .i64 3, .int .i64 64, .int .i64 200, .slice (some ⟨x5, 0, none⟩) 1 1, .slice (some ⟨x5 + 1, 0, none⟩) 1 1, .slice (some ⟨g, 0, none⟩) 4 4] rfl rfl (cell_newN wx _ 26) (six_ones _ _ _ _ _ _ _ _ _ _ _ _) (by unfold maxLen; omega) (by omega) hbase ?_; intro v9 w9 hown9 hgrow9 _; have HB9 := Lib.hid (HBX.out.grown hgrow9 hbase (fun j h => (HOX.out.lt j h).1)); obtain ⟨a9, c9, rfl⟩ := own_slice hown9; have HO9 := Lib.hid (show w9.ownsRow Wb.heap.size 26 6 (.slice a9 (q + 1) c9) (q + 1) (rep [.int .i64 3, .int .i64 64, .int .i64 200, .slice (some ⟨x5, 0, none⟩) 1 1, .slice (some ⟨x5 + 1, 0, none⟩) 1 1, .slice (some ⟨g, 0, none⟩) 4 4] (q + 1)) from hown9); clear hown9 hgrow9)
          refine ⟨⟨q + 1, a9, c9, _, rfl, by omega, by go_num, rfl, HO9.out, HB9.out⟩, ?_⟩
          simp [intOf]; omega
        · obtain rfl : q = 14 := by omega
          have i1 : ¬ ((14 : Nat) : Int) < 14 := by omega
          obtain ⟨bb, rfl, hbb, hts⟩ := TS.of_own HO.out (by omega) (by omega) (by omega) (HLb.out.same HBx.out) (HVb.out.same HBx.out) (HLg.out.same HBx.out) (fun ad e => by cases e; have := HX5.out; show x5 < _; omega) (fun ad e => by cases e; exact HX5.out) (fun ad e => by cases e; exact HG5.out)
          have HTS := Lib.hid hts
          have HBB := Lib.hid (show w.heap.size ≤ bb by have h1 := HB6.out.size; have h2 := HBb.out.size; omega)
          have HBw := Lib.hid (HB6.out.trans ((HBb.out.trans (HBx.out.mono HBb.out.size)).mono HB6.out.size))
          clear hts hbb HO HBx hsx hq hq14 HTb HBb HLb HVb HLg HX5 HG5 HI HZ0 HZ1 HZ2
          have hmk9 : ∀ W : World, (Instr.makeSlice 24 (.int .i64 9) (.int .i64 9)).run Try.prog W = .ok (.slice (some ⟨W.heap.size, 0, none⟩) 9 9) (W.alloc (.cells (madeCells #[.int .i64 0] 9) 3)) := Wg.hmkI 9 (by omega)
          go_upto_region 22 with fail
          obtain ⟨x, hx⟩ := HTS.out.any (j := 6) (by omega)
          have hf := HTS.out.free 6
          have hbl := HTS.out.lt
          obtain ⟨V22, hV22⟩ : ∃ V, V = wx.setCell ⟨bb, 6, none⟩ (.int .i64 0) := ⟨_, rfl⟩
          have HTS2 := Lib.hid (show TS V22 bb by rw [hV22]; exact HTS.out.s0 (i0 := 1) (by omega) 0)
          have HBw2 := Lib.hid (show Below w.heap.size w V22 by rw [hV22]; exact HBw.out.setCell (p := ⟨bb, 6, none⟩) HBB.out _)
          go_upto_region 23 with fail
          rw [← hV22]
          clear hV22 hx hf hbl HTS HBw
          have HTS := HTS2; have HBw := HBw2
          clear HTS2 HBw2
          obtain ⟨x, hx⟩ := HTS.out.any (j := 12) (by omega)
          have hf := HTS.out.free 12
          have hbl := HTS.out.lt
          obtain ⟨V23, hV23⟩ : ∃ V, V = V22.setCell ⟨bb, 12, none⟩ (.int .i64 2) := ⟨_, rfl⟩
          have HTS2 := Lib.hid (show TS V23 bb by rw [hV23]; exact HTS.out.s0 (i0 := 2) (by omega) 2)
          have HBw2 := Lib.hid (show Below w.heap.size w V23 by rw [hV23]; exact HBw.out.setCell (p := ⟨bb, 12, none⟩) HBB.out _)
          go_upto_region 24 with fail
          rw [← hV23]
          clear hV23 hx hf hbl HTS HBw
          have HTS := HTS2; have HBw := HBw2
          clear HTS2 HBw2
          obtain ⟨x, hx⟩ := HTS.out.any (j := 19) (by omega)
          have hf := HTS.out.free 19
          have hbl := HTS.out.lt
          obtain ⟨V24, hV24⟩ : ∃ V, V = V23.setCell ⟨bb, 19, none⟩ (.int .i64 63) := ⟨_, rfl⟩
          have HTS2 := Lib.hid (show TS V24 bb by rw [hV24]; exact HTS.out.s1 (i0 := 3) (by omega) 63)
          have HBw2 := Lib.hid (show Below w.heap.size w V24 by rw [hV24]; exact HBw.out.setCell (p := ⟨bb, 19, none⟩) HBB.out _)
          go_upto_region 25 with fail
          rw [← hV24]
          clear hV24 hx hf hbl HTS HBw
          have HTS := HTS2; have HBw := HBw2
          clear HTS2 HBw2
          obtain ⟨x, hx⟩ := HTS.out.any (j := 26) (by omega)
          have hf := HTS.out.free 26
          have hbl := HTS.out.lt
          obtain ⟨V25, hV25⟩ : ∃ V, V = V24.setCell ⟨bb, 26, none⟩ (.int .i64 0) := ⟨_, rfl⟩
          have HTS2 := Lib.hid (show TS V25 bb by rw [hV25]; exact HTS.out.s2 (i0 := 4) (by omega) 0)
          have HBw2 := Lib.hid (show Below w.heap.size w V25 by rw [hV25]; exact HBw.out.setCell (p := ⟨bb, 26, none⟩) HBB.out _)
          go_upto_region 26 with fail
          rw [← hV25]
          clear hV25 hx hf hbl HTS HBw
          have HTS := HTS2; have HBw := HBw2
          clear HTS2 HBw2
          obtain ⟨x, hx⟩ := HTS.out.any (j := 33) (by omega)
          have hf := HTS.out.free 33
          have hbl := HTS.out.lt
          obtain ⟨V26, hV26⟩ : ∃ V, V = V25.setCell ⟨bb, 33, none⟩ (.slice none 0 0) := ⟨_, rfl⟩
          have HTS2 := Lib.hid (show TS V26 bb by rw [hV26]; exact HTS.out.s3 (i0 := 5) (by omega) (GS.nil _ _))
          have HBw2 := Lib.hid (show Below w.heap.size w V26 by rw [hV26]; exact HBw.out.setCell (p := ⟨bb, 33, none⟩) HBB.out _)
          go_upto_region 27 with fail
          rw [← hV26]
          clear hV26 hx hf hbl HTS HBw
          have HTS := HTS2; have HBw := HBw2
          clear HTS2 HBw2
          obtain ⟨x, hx⟩ := HTS.out.any (j := 39) (by omega)
          have hf := HTS.out.free 39
          have hbl := HTS.out.lt
          have hal : Below V26.heap.size V26 (V26.alloc (.cells (madeCells #[.int .i64 0] 9) 3)) := (Below.refl _ V26).alloc (Nat.le_refl _) _
          obtain ⟨y, hy⟩ := (HTS.out.same hal).any (j := 39) (by omega)
          have hfy := (HTS.out.same hal).free 39
          obtain ⟨V27, hV27⟩ : ∃ V, V = (V26.alloc (.cells (madeCells #[.int .i64 0] 9) 3)).setCell ⟨bb, 39, none⟩ (.slice (some ⟨V26.heap.size, 0, none⟩) 9 9) := ⟨_, rfl⟩
          have hV27b : V27 = (V26.setCell ⟨bb, 39, none⟩ (.slice (some ⟨V26.heap.size, 0, none⟩) 9 9)).alloc (.cells (madeCells #[.int .i64 0] 9) 3) := by rw [hV27, World.setCell_alloc_past _ _ _ _ hbl]
          have HTS2 := Lib.hid (show TS V27 bb by rw [hV27]; exact (HTS.out.same hal).s3 (i0 := 6) (by omega) (GS.zeros (by omega) (heap_alloc_new V26 _) (by omega)))
          have HBw2 := Lib.hid (show Below w.heap.size w V27 by rw [hV27]; exact (HBw.out.trans (hal.mono HBw.out.size)).setCell (p := ⟨bb, 39, none⟩) HBB.out _)
          go_upto_region 28 with fail
          first | rw [← hV27b] | rw [← hV27]
          clear hV27 hV27b hx hf hbl hy hfy hal HTS HBw
          have HTS := HTS2; have HBw := HBw2
          clear HTS2 HBw2
          obtain ⟨x, hx⟩ := HTS.out.any (j := 40) (by omega)
          have hf := HTS.out.free 40
          have hbl := HTS.out.lt
          have hal : Below V27.heap.size V27 (V27.alloc (.cells (madeCells #[.int .i64 0] 9) 3)) := (Below.refl _ V27).alloc (Nat.le_refl _) _
          obtain ⟨y, hy⟩ := (HTS.out.same hal).any (j := 40) (by omega)
          have hfy := (HTS.out.same hal).free 40
          obtain ⟨V28, hV28⟩ : ∃ V, V = (V27.alloc (.cells (madeCells #[.int .i64 0] 9) 3)).setCell ⟨bb, 40, none⟩ (.slice (some ⟨V27.heap.size, 0, none⟩) 9 9) := ⟨_, rfl⟩
          have hV28b : V28 = (V27.setCell ⟨bb, 40, none⟩ (.slice (some ⟨V27.heap.size, 0, none⟩) 9 9)).alloc (.cells (madeCells #[.int .i64 0] 9) 3) := by rw [hV28, World.setCell_alloc_past _ _ _ _ hbl]
          have HTS2 := Lib.hid (show TS V28 bb by rw [hV28]; exact (HTS.out.same hal).s4 (i0 := 6) (by omega) (GS.zeros (by omega) (heap_alloc_new V27 _) (by omega)))
          have HBw2 := Lib.hid (show Below w.heap.size w V28 by rw [hV28]; exact (HBw.out.trans (hal.mono HBw.out.size)).setCell (p := ⟨bb, 40, none⟩) HBB.out _)
          go_upto_region 29 with fail
          first | rw [← hV28b] | rw [← hV28]
          clear hV28 hV28b hx hf hbl hy hfy hal HTS HBw
          have HTS := HTS2; have HBw := HBw2
          clear HTS2 HBw2
          obtain ⟨x, hx⟩ := HTS.out.any (j := 46) (by omega)
          have hf := HTS.out.free 46
          have hbl := HTS.out.lt
          obtain ⟨V29, hV29⟩ : ∃ V, V = V28.setCell ⟨bb, 46, none⟩ (.slice none 0 0) := ⟨_, rfl⟩
          have HTS2 := Lib.hid (show TS V29 bb by rw [hV29]; exact HTS.out.s4 (i0 := 7) (by omega) (GS.nil _ _))
          have HBw2 := Lib.hid (show Below w.heap.size w V29 by rw [hV29]; exact HBw.out.setCell (p := ⟨bb, 46, none⟩) HBB.out _)
          go_upto_region 30 with fail
          rw [← hV29]
          clear hV29 hx hf hbl HTS HBw
          have HTS := HTS2; have HBw := HBw2
          clear HTS2 HBw2
          obtain ⟨x, hx⟩ := HTS.out.any (j := 51) (by omega)
          have hf := HTS.out.free 51
          have hbl := HTS.out.lt
          have hal : Below V29.heap.size V29 (V29.alloc (.cells #[.int .i64 65536] 3)) := (Below.refl _ V29).alloc (Nat.le_refl _) _
          obtain ⟨y, hy⟩ := (HTS.out.same hal).any (j := 51) (by omega)
          have hfy := (HTS.out.same hal).free 51
          obtain ⟨V30, hV30⟩ : ∃ V, V = (V29.alloc (.cells #[.int .i64 65536] 3)).setCell ⟨bb, 51, none⟩ (.slice (some ⟨V29.heap.size, 0, none⟩) 1 1) := ⟨_, rfl⟩
          have hV30b : V30 = (V29.setCell ⟨bb, 51, none⟩ (.slice (some ⟨V29.heap.size, 0, none⟩) 1 1)).alloc (.cells #[.int .i64 65536] 3) := by rw [hV30, World.setCell_alloc_past _ _ _ _ hbl]
          have HTS2 := Lib.hid (show TS V30 bb by rw [hV30]; exact (HTS.out.same hal).s3 (i0 := 8) (by omega) (GS.lit [65536] (by simp) (heap_alloc_new V29 _) (by omega)))
          have HBw2 := Lib.hid (show Below w.heap.size w V30 by rw [hV30]; exact (HBw.out.trans (hal.mono HBw.out.size)).setCell (p := ⟨bb, 51, none⟩) HBB.out _)
          go_upto_region 31 with fail
          first | rw [← hV30b] | rw [← hV30]
          clear hV30 hV30b hx hf hbl hy hfy hal HTS HBw
          have HTS := HTS2; have HBw := HBw2
          clear HTS2 HBw2
          obtain ⟨x, hx⟩ := HTS.out.any (j := 57) (by omega)
          have hf := HTS.out.free 57
          have hbl := HTS.out.lt
          have hal : Below V30.heap.size V30 (V30.alloc (.cells #[.int .i64 (-1)] 3)) := (Below.refl _ V30).alloc (Nat.le_refl _) _
          obtain ⟨y, hy⟩ := (HTS.out.same hal).any (j := 57) (by omega)
          have hfy := (HTS.out.same hal).free 57
          obtain ⟨V31, hV31⟩ : ∃ V, V = (V30.alloc (.cells #[.int .i64 (-1)] 3)).setCell ⟨bb, 57, none⟩ (.slice (some ⟨V30.heap.size, 0, none⟩) 1 1) := ⟨_, rfl⟩
          have hV31b : V31 = (V30.setCell ⟨bb, 57, none⟩ (.slice (some ⟨V30.heap.size, 0, none⟩) 1 1)).alloc (.cells #[.int .i64 (-1)] 3) := by rw [hV31, World.setCell_alloc_past _ _ _ _ hbl]
          have HTS2 := Lib.hid (show TS V31 bb by rw [hV31]; exact (HTS.out.same hal).s3 (i0 := 9) (by omega) (GS.lit [-1] (by simp) (heap_alloc_new V30 _) (by omega)))
          have HBw2 := Lib.hid (show Below w.heap.size w V31 by rw [hV31]; exact (HBw.out.trans (hal.mono HBw.out.size)).setCell (p := ⟨bb, 57, none⟩) HBB.out _)
          go_upto_region 32 with fail
          first | rw [← hV31b] | rw [← hV31]
          clear hV31 hV31b hx hf hbl hy hfy hal HTS HBw
          have HTS := HTS2; have HBw := HBw2
          clear HTS2 HBw2
          obtain ⟨x, hx⟩ := HTS.out.any (j := 64) (by omega)
          have hf := HTS.out.free 64
          have hbl := HTS.out.lt
          have hal : Below V31.heap.size V31 (V31.alloc (.cells #[.int .i64 1048577] 3)) := (Below.refl _ V31).alloc (Nat.le_refl _) _
          obtain ⟨y, hy⟩ := (HTS.out.same hal).any (j := 64) (by omega)
          have hfy := (HTS.out.same hal).free 64
          obtain ⟨V32, hV32⟩ : ∃ V, V = (V31.alloc (.cells #[.int .i64 1048577] 3)).setCell ⟨bb, 64, none⟩ (.slice (some ⟨V31.heap.size, 0, none⟩) 1 1) := ⟨_, rfl⟩
          have hV32b : V32 = (V31.setCell ⟨bb, 64, none⟩ (.slice (some ⟨V31.heap.size, 0, none⟩) 1 1)).alloc (.cells #[.int .i64 1048577] 3) := by rw [hV32, World.setCell_alloc_past _ _ _ _ hbl]
          have HTS2 := Lib.hid (show TS V32 bb by rw [hV32]; exact (HTS.out.same hal).s4 (i0 := 10) (by omega) (GS.lit [1048577] (by simp) (heap_alloc_new V31 _) (by omega)))
          have HBw2 := Lib.hid (show Below w.heap.size w V32 by rw [hV32]; exact (HBw.out.trans (hal.mono HBw.out.size)).setCell (p := ⟨bb, 64, none⟩) HBB.out _)
          go_upto_region 33 with fail
          first | rw [← hV32b] | rw [← hV32]
          clear hV32 hV32b hx hf hbl hy hfy hal HTS HBw
          have HTS := HTS2; have HBw := HBw2
          clear HTS2 HBw2
          obtain ⟨x, hx⟩ := HTS.out.any (j := 70) (by omega)
          have hf := HTS.out.free 70
          have hbl := HTS.out.lt
          have hal : Below V32.heap.size V32 (V32.alloc (.cells #[.int .i64 (-1)] 3)) := (Below.refl _ V32).alloc (Nat.le_refl _) _
          obtain ⟨y, hy⟩ := (HTS.out.same hal).any (j := 70) (by omega)
          have hfy := (HTS.out.same hal).free 70
          obtain ⟨V33, hV33⟩ : ∃ V, V = (V32.alloc (.cells #[.int .i64 (-1)] 3)).setCell ⟨bb, 70, none⟩ (.slice (some ⟨V32.heap.size, 0, none⟩) 1 1) := ⟨_, rfl⟩
          have hV33b : V33 = (V32.setCell ⟨bb, 70, none⟩ (.slice (some ⟨V32.heap.size, 0, none⟩) 1 1)).alloc (.cells #[.int .i64 (-1)] 3) := by rw [hV33, World.setCell_alloc_past _ _ _ _ hbl]
          have HTS2 := Lib.hid (show TS V33 bb by rw [hV33]; exact (HTS.out.same hal).s4 (i0 := 11) (by omega) (GS.lit [-1] (by simp) (heap_alloc_new V32 _) (by omega)))
          have HBw2 := Lib.hid (show Below w.heap.size w V33 by rw [hV33]; exact (HBw.out.trans (hal.mono HBw.out.size)).setCell (p := ⟨bb, 70, none⟩) HBB.out _)
          go_upto_region 34 with fail
          first | rw [← hV33b] | rw [← hV33]
          clear hV33 hV33b hx hf hbl hy hfy hal HTS HBw
          have HTS := HTS2; have HBw := HBw2
          clear HTS2 HBw2
          obtain ⟨x, hx⟩ := HTS.out.any (j := 77) (by omega)
          have hf := HTS.out.free 77
          have hbl := HTS.out.lt
          have hal : Below V33.heap.size V33 (V33.alloc (.cells #[.int .i64 9, .int .i64 9, .int .i64 9, .int .i64 10] 3)) := (Below.refl _ V33).alloc (Nat.le_refl _) _
          obtain ⟨y, hy⟩ := (HTS.out.same hal).any (j := 77) (by omega)
          have hfy := (HTS.out.same hal).free 77
          obtain ⟨V34, hV34⟩ : ∃ V, V = (V33.alloc (.cells #[.int .i64 9, .int .i64 9, .int .i64 9, .int .i64 10] 3)).setCell ⟨bb, 77, none⟩ (.slice (some ⟨V33.heap.size, 0, none⟩) 4 4) := ⟨_, rfl⟩
          have hV34b : V34 = (V33.setCell ⟨bb, 77, none⟩ (.slice (some ⟨V33.heap.size, 0, none⟩) 4 4)).alloc (.cells #[.int .i64 9, .int .i64 9, .int .i64 9, .int .i64 10] 3) := by rw [hV34, World.setCell_alloc_past _ _ _ _ hbl]
          have HTS2 := Lib.hid (show TS V34 bb by rw [hV34]; exact (HTS.out.same hal).s5 (i0 := 12) (by omega) (GS.lit [9, 9, 9, 10] (by simp) (heap_alloc_new V33 _) (by omega)))
          have HBw2 := Lib.hid (show Below w.heap.size w V34 by rw [hV34]; exact (HBw.out.trans (hal.mono HBw.out.size)).setCell (p := ⟨bb, 77, none⟩) HBB.out _)
          go_upto_region 35 with fail
          first | rw [← hV34b] | rw [← hV34]
          clear hV34 hV34b hx hf hbl hy hfy hal HTS HBw
          have HTS := HTS2; have HBw := HBw2
          clear HTS2 HBw2
          obtain ⟨x, hx⟩ := HTS.out.any (j := 78) (by omega)
          have hf := HTS.out.free 78
          have hbl := HTS.out.lt
          obtain ⟨V35, hV35⟩ : ∃ V, V = V34.setCell ⟨bb, 78, none⟩ (.int .i64 256) := ⟨_, rfl⟩
          have HTS2 := Lib.hid (show TS V35 bb by rw [hV35]; exact HTS.out.s0 (i0 := 13) (by omega) 256)
          have HBw2 := Lib.hid (show Below w.heap.size w V35 by rw [hV35]; exact HBw.out.setCell (p := ⟨bb, 78, none⟩) HBB.out _)
          go_upto_region 36 with fail
          rw [← hV35]
          clear hV35 hx hf hbl HTS HBw
          have HTS := HTS2; have HBw := HBw2
          clear HTS2 HBw2
          go_wp2_with fail
          go_loopw [9] (fun i wr => ∃ (q : Nat) (W : World), W = wr ∧ q ≤ 14 ∧ i = .int .i64 q ∧ Below V35.heap.size V35 wr) (fun i _ => 14 - (intOf i).toNat)
          case atStart => exact ⟨0, _, rfl, by omega, rfl, Below.refl _ _⟩
          case round =>
            obtain ⟨q, wy, rfl, hq, rfl, hB⟩ := hrel
            have HBy := Lib.hid hB
            clear hB
            by_cases hq14 : q < 14
            · have i2 : (q : Int) < 14 := by omega
              obtain ⟨N, M, B, la, nl, lc, va, nv, vc, wa, nm, wc, L, V, Wt, ⟨c0, c1, c2, c3, c4, c5⟩, ⟨b1, b2, b3⟩, k1, k2, k3⟩ := (HTS.out.same HBy.out).task hq14
              have K1 := Lib.hid k1; have K2 := Lib.hid k2; have K3 := Lib.hid k3
              clear k1 k2 k3
              go_wp2_with fail
              refine (HPB.out N M B la nl lc va nv vc wa nm wc _ _ _ b1 b2 b3 wy K1.out K2.out K3.out).mono ?_
              rintro e wz ⟨rfl, hBz⟩
              have HBz := Lib.hid (HBy.out.trans (hBz.mono HBy.out.size))
              clear hBz c0 c1 c2 c3 c4 c5
              go_wp2_with fail
              go_roundw
              case rel => exact ⟨q + 1, _, rfl, by omega, by go_num, HBz.out⟩
              case measure => simp [intOf]; omega
            · obtain rfl : q = 14 := by omega
              have i2 : ¬ ((14 : Nat) : Int) < 14 := by omega
              go_wp2_with fail
              refine (HAW.out _).mono ?_
              rintro e wz ⟨rfl, hBz⟩
              have HBz := Lib.hid (HBw.out.trans ((HBy.out.trans (hBz.mono HBy.out.size)).mono HBw.out.size))
              clear hBz
              go_wp2
              go_ret
              exact ⟨rfl, HBz.out⟩
end Go.Proofs.Ythkcacnlinajgaa.Pn
