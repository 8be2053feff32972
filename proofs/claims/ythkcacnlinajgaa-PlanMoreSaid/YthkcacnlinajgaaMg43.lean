import Derived.Deep.RegionHeld3
import Derived.BigQuiet
import Derived.Deep.RegionWith
import Derived.Deep.RegionLaw
import Derived.Lib.QuietBelow
import Derived.Test.YthkcacnlinajgaaMg42
namespace Go.Proofs.Ythkcacnlinajgaa.Pn
open Go.RowKit Go.Shelf
open Go.Proofs.Ythkcacnlinajgaa.Sz (RB roomI FitP bV)
open Go.Proofs.Ythkcacnlinajgaa.Wg (BoSays BoSays.same blk_si hi_own SmI sameInts_any own_below fourB)
attribute [local go_sem] Oper.semAt_some

/-- a row's block. -/
theorem own_blk13 {w : World} {B m c : Nat} {a : Option Addr} {xs : List Value} (h : w.ownsRow B 3 1 (.slice a m c) m xs) : ∀ g, Ai.blk a = some g → B ≤ g ∧ g < w.heap.size := fun g hg => h.lt g (by rw [Ai.own_blk]; exact hg)
def ra (g1 g2 g3 : Nat) (a : Option Addr) (i : Nat) : Option Addr := if i = 0 then some ⟨g1, 0, none⟩ else if i = 1 then some ⟨g2, 0, none⟩ else if i = 2 then some ⟨g3, 0, none⟩ else a
def rl (l v m k : Nat) (i : Nat) : Nat := if i = 0 then l else if i = 1 then v else if i = 2 then m else k
def rh (L V W K : Nat → Int) (i : Nat) : Nat → Int := if i = 0 then L else if i = 1 then V else if i = 2 then W else K
theorem four_i {i : Nat} (h : i < 4) : i = 0 ∨ i = 1 ∨ i = 2 ∨ i = 3 := by omega
theorem bag_four {w : World} {B g1 g2 g3 nl nv nm m c : Nat} {a : Option Addr} {L V W K : Nat → Int} (h1 : Block w g1 (lentI L nl 12) 3) (h2 : Block w g2 (lentI V nv 12) 3) (h3 : Block w g3 (lentI W nm 12) 3) (h4 : w.ownsRow B 3 1 (.slice a m c) m (inh K m)) (b1 : B ≤ g1) (b2 : B ≤ g2) (b3 : B ≤ g3) (n1 : nl ≤ 1000) (n2 : nv ≤ 1000) (n3 : nm ≤ 1000) :
    Ai.Bag (w.alloc (.cells #[.slice (some ⟨g1, 0, none⟩) nl (nl + 12), .slice (some ⟨g2, 0, none⟩) nv (nv + 12), .slice (some ⟨g3, 0, none⟩) nm (nm + 12), .slice a m c] 24)) B w.heap.size 4 (ra g1 g2 g3 a) (rl nl nv nm m) (rl nl nv nm m) (rl (nl + 12) (nv + 12) (nm + 12) c) (rh L V W K) := by
  have hB : Below w.heap.size w (w.alloc (.cells #[.slice (some ⟨g1, 0, none⟩) nl (nl + 12), .slice (some ⟨g2, 0, none⟩) nv (nv + 12), .slice (some ⟨g3, 0, none⟩) nm (nm + 12), .slice a m c] 24)) := (Below.refl _ w).alloc (Nat.le_refl _) _
  refine ⟨fun k hk => ?_, fun k hk => ?_⟩
  · rw [cell_of_row _ w.heap.size k _ _ _ (heap_alloc_new w _)]
    rcases four_i hk with rfl | rfl | rfl | rfl <;> rfl
  · rcases four_i hk with rfl | rfl | rfl | rfl
    · exact lent_own (n := nl) (h1.same hB) b1 (by omega)
    · exact lent_own (n := nv) (h2.same hB) b2 (by omega)
    · exact lent_own (n := nm) (h3.same hB) b3 (by omega)
    · exact own_below h4 hB
theorem sep_four {g1 g2 g3 : Nat} {a : Option Addr} (h1 : g1 < g2) (h2 : g2 < g3) (h3 : ∀ g, Ai.blk a = some g → g3 < g) : Ai.Sep (ra g1 g2 g3 a) 4 := by
  intro i j hi hj hij
  have b0 : Ai.blk (ra g1 g2 g3 a 0) = some g1 := rfl
  have b1 : Ai.blk (ra g1 g2 g3 a 1) = some g2 := rfl
  have b2 : Ai.blk (ra g1 g2 g3 a 2) = some g3 := rfl
  have b3 : Ai.blk (ra g1 g2 g3 a 3) = Ai.blk a := rfl
  rcases four_i hi with rfl | rfl | rfl | rfl <;> rcases four_i hj with rfl | rfl | rfl | rfl <;> simp only [b0, b1, b2, b3] <;> first
    | exact absurd rfl hij
    | (right; intro e; simp at e; omega)
    | (right; intro e; have := h3 _ e.symm; omega)
    | (cases h : Ai.blk a with
       | none => exact Or.inl rfl
       | some x => exact Or.inr fun e => by have := h3 x h; cases e; omega)
theorem _root_.Go.Proofs.Ythkcacnlinajgaa.Block.lt13 {w : World} {g : Nat} {vs : List Value} {e : TypeId} (h : Block w g vs e) : g < w.heap.size := (Array.getElem?_eq_some_iff.1 h).1
/-- what is lent, and what has not changed. -/
def S13 (w0 W : World) (g1 g2 g3 nl nv nm : Nat) (L V Wt : Nat → Int) : Prop := Below w0.heap.size w0 W ∧ Block W g1 (lentI L nl 12) 3 ∧ Block W g2 (lentI V nv 12) 3 ∧ Block W g3 (lentI Wt nm 12) 3
theorem S13.same {w0 W W' : World} {g1 g2 g3 nl nv nm : Nat} {L V Wt : Nat → Int} (h : S13 w0 W g1 g2 g3 nl nv nm L V Wt) (hB : Below W.heap.size W W') : S13 w0 W' g1 g2 g3 nl nv nm L V Wt :=
  ⟨h.1.trans (hB.mono h.1.size), h.2.1.same hB, h.2.2.1.same hB, h.2.2.2.same hB⟩
theorem rl_le {l v m k : Nat} (h1 : l ≤ 700) (h2 : v ≤ 700) (h3 : m ≤ 700) (h4 : k ≤ 8) (i : Nat) : rl l v m k i ≤ 1000000 := by
  unfold rl
  split
  · omega
  · split
    · omega
    · split <;> omega
theorem share {X G : Prop} (f : G → X) (g : G) : X := f g
theorem TAt.free {W : World} {g : Nat} {t : TypeId} {N M B : Int} {la va wa : Option Addr} {nl lc nv vc nm wc : Nat} (h : TAt W g t N M B la nl lc va nv vc wa nm wc) (i : Nat) : W.frozen? ⟨g, i, none⟩ = false := frozen_of_row W g i _ _ h
theorem put_six {W : World} {g : Nat} {t : TypeId} {a0 a1 a2 a3 a4 a5 : Value} (h : W.heap[g]? = some (.cells #[a0, a1, a2, a3, a4, a5] t (0, 0))) (v0 v1 v2 v3 v4 v5 : Value) : ((((((W.setCell ⟨g, 0, none⟩ v0).setCell ⟨g, 1, none⟩ v1).setCell ⟨g, 2, none⟩ v2).setCell ⟨g, 3, none⟩ v3).setCell ⟨g, 4, none⟩ v4).setCell ⟨g, 5, none⟩ v5).heap[g]? = some (.cells #[v0, v1, v2, v3, v4, v5] t (0, 0)) := by
  have e0 : (W.setCell ⟨g, 0, none⟩ v0).heap[g]? = some (.cells #[v0, a1, a2, a3, a4, a5] t (0, 0)) := heap_setCell_same W g 0 _ _ _ h
  have e1 : ((W.setCell ⟨g, 0, none⟩ v0).setCell ⟨g, 1, none⟩ v1).heap[g]? = some (.cells #[v0, v1, a2, a3, a4, a5] t (0, 0)) := heap_setCell_same _ g 1 _ _ _ e0
  have e2 : (((W.setCell ⟨g, 0, none⟩ v0).setCell ⟨g, 1, none⟩ v1).setCell ⟨g, 2, none⟩ v2).heap[g]? = some (.cells #[v0, v1, v2, a3, a4, a5] t (0, 0)) := heap_setCell_same _ g 2 _ _ _ e1
  have e3 : ((((W.setCell ⟨g, 0, none⟩ v0).setCell ⟨g, 1, none⟩ v1).setCell ⟨g, 2, none⟩ v2).setCell ⟨g, 3, none⟩ v3).heap[g]? = some (.cells #[v0, v1, v2, v3, a4, a5] t (0, 0)) := heap_setCell_same _ g 3 _ _ _ e2
  have e4 : (((((W.setCell ⟨g, 0, none⟩ v0).setCell ⟨g, 1, none⟩ v1).setCell ⟨g, 2, none⟩ v2).setCell ⟨g, 3, none⟩ v3).setCell ⟨g, 4, none⟩ v4).heap[g]? = some (.cells #[v0, v1, v2, v3, v4, a5] t (0, 0)) := heap_setCell_same _ g 4 _ _ _ e3
  exact heap_setCell_same _ g 5 _ _ _ e4
theorem below_six {X : Nat} {a W : World} {g : Nat} (h : Below X a W) (hg : X ≤ g) (v0 v1 v2 v3 v4 v5 : Value) : Below X a ((((((W.setCell ⟨g, 0, none⟩ v0).setCell ⟨g, 1, none⟩ v1).setCell ⟨g, 2, none⟩ v2).setCell ⟨g, 3, none⟩ v3).setCell ⟨g, 4, none⟩ v4).setCell ⟨g, 5, none⟩ v5) :=
  (((((h.setCell (p := ⟨g, 0, none⟩) hg v0).setCell (p := ⟨g, 1, none⟩) hg v1).setCell (p := ⟨g, 2, none⟩) hg v2).setCell (p := ⟨g, 3, none⟩) hg v3).setCell (p := ⟨g, 4, none⟩) hg v4).setCell (p := ⟨g, 5, none⟩) hg v5
theorem kept_six {W : World} {g x : Nat} {vs : List Value} {e : TypeId} (h : Block W x vs e) (hne : x ≠ g) (v0 v1 v2 v3 v4 v5 : Value) : Block ((((((W.setCell ⟨g, 0, none⟩ v0).setCell ⟨g, 1, none⟩ v1).setCell ⟨g, 2, none⟩ v2).setCell ⟨g, 3, none⟩ v3).setCell ⟨g, 4, none⟩ v4).setCell ⟨g, 5, none⟩ v5) x vs e := by
  have k : ∀ (U : World) (i : Nat) (v : Value), (U.setCell ⟨g, i, none⟩ v).heap[x]? = U.heap[x]? := fun U i v => Below.heap_setCell U ⟨g, i, none⟩ v x hne
  refine Eq.trans ?_ h
  rw [k, k, k, k, k, k]
/-- three rows lent, and the task over them. -/
structure Rdy (w0 W : World) (g1 g2 g3 gz : Nat) (t : TypeId) (N M B : Int) (nl nv nm : Nat) (L V Wt : Nat → Int) : Prop where
  lo : w0.heap.size ≤ g1
  l1 : g1 < g2
  l2 : g2 < g3
  be : Below w0.heap.size w0 W
  b1 : Block W g1 (lentI L nl 12) 3
  b2 : Block W g2 (lentI V nv 12) 3
  b3 : Block W g3 (lentI Wt nm 12) 3
  ta : TAt W gz t N M B (some ⟨g1, 0, none⟩) nl (nl + 12) (some ⟨g2, 0, none⟩) nv (nv + 12) (some ⟨g3, 0, none⟩) nm (nm + 12)
set_option maxHeartbeats 16000000 in
set_option maxRecDepth 100000 in
theorem planBest_any (hri : PRight) (hbe : PBest) (hsc : PScore) (N M B : Int) (la va wa : Option Addr) (nl lc nv vc nm wc : Nat) (L V W : Nat → Int) (h1 : nl ≤ 140737488355328) (h2 : nv ≤ 140737488355328) (h3 : nm ≤ 140737488355328) (w : World) (hL : Hi w la nl lc L) (hV : Hi w va nv vc V) (hW : Hi w wa nm wc W) :
    Calls Try.prog 3 #[tV N M B la nl lc va nv vc wa nm wc] w fun e w' => e = .returned (.bool true) ∧ Below w.heap.size w w' := by
  have HL := Lib.hid hL; have HV := Lib.hid hV; have HW := Lib.hid hW
  have HAW := Lib.hid (awake13_any hbe)
  have HRI := Lib.hid (fun (a b c : Option Addr) (d e f : Nat) w hL hV hW => hri N M B a b c nl d nv e nm f L V W h1 h2 h3 w hL hV hW)
  have HBE := Lib.hid (fun (a b c : Option Addr) (d e f : Nat) w hL hV hW => hbe N M B a b c nl d nv e nm f L V W h1 h2 h3 w hL hV hW)
  have HSC := Lib.hid (fun (a b c : Option Addr) (d e f : Nat) w hL hV hW => hsc N M B a b c nl d nv e nm f L V W h1 h2 h3 w hL hV hW)
  have HRR := Lib.hid (fun w hL hV hW => rtr_any N M B la va wa nl lc nv vc nm wc L V W h1 h2 h3 w hL hV hW)
  have HRB := Lib.hid (fun w hL hV hW => rbest_any N M B la va wa nl lc nv vc nm wc L V W h1 h2 h3 w hL hV hW)
  have HRS := Lib.hid (fun w hL hV hW => rbscore_any N M B la va wa nl lc nv vc nm wc L V W h1 h2 h3 w hL hV hW)
  have HTH := Lib.hid (fun w => theirs13_any N M B la va wa nl lc nv vc nm wc w)
  unfold tV at HRI HBE HSC HRR HRB HRS HTH ⊢
  obtain ⟨bm, bE, bK, hbm, hbb⟩ := best_both N M B nl nv nm L V W
  have HBB := Lib.hid hbb
  obtain ⟨qs, qE, hqq⟩ := score_both N M B nl nv nm L V W
  have HSB := Lib.hid hqq
  clear hbb hqq
  obtain ⟨w0, hw0⟩ : ∃ w0, w0 = w.alloc (.cells #[.int .i64 N, .int .i64 M, .int .i64 B, .slice la nl lc, .slice va nv vc, .slice wa nm wc] 26) := ⟨_, rfl⟩
  have HX0 := Lib.hid (show TAt w0 w.heap.size 26 N M B la nl lc va nv vc wa nm wc from by rw [hw0]; exact heap_alloc_new _ _)
  have HB0 := Lib.hid (show Below w.heap.size w w0 from by rw [hw0]; exact (Below.refl w.heap.size w).alloc (Nat.le_refl _) _)
  have hz0 : w.heap.size < w0.heap.size := by rw [hw0, World.size_alloc]; omega
  have HW0 := Lib.hid hw0
  have hs0 := HB0.out.size
  clear hL hV hW hw0 hri hbe hsc
  go_enter Try.func3, Try.ntmps3
  obtain ⟨c0, c1, c2, c3, c4, c5⟩ := HX0.out.c
  rw [HW0.out] at c0 c1 c2 c3 c4 c5
  by_cases hbig : (12 < N ∧ N < 256) ∨ 700 < nl + nv + nm
  · rcases (show (12 < N ∧ N < 256) ∨ (¬ (12 < N ∧ N < 256) ∧ 700 < nl + nv + nm) by omega) with ⟨p1, p2⟩ | ⟨p1, p2⟩
    · have g1 : decide (12 < N) = true := by simp; omega
      have g2 : decide (N < 256) = true := by simp; omega
      clear hbig
      go_wp2_with fail
      clear c0 c1 c2 c3 c4 c5
      rw [← HW0.out]
      refine (HAW.out _).mono ?_
      rintro e w1 ⟨rfl, hB⟩
      have HB1 := Lib.hid (HB0.out.trans (hB.mono hs0))
      clear hB
      go_wp2
      go_ret
      exact ⟨rfl, HB1.out⟩
    · have i1 : (700 : Int) < (nl : Int) + (nv : Int) + (nm : Int) := by omega
      by_cases q1 : 12 < N
      · have g1 : decide (12 < N) = true := by simp; omega
        have g2 : decide (N < 256) = false := by simp; omega
        clear hbig p1
        go_wp2_with fail
        clear c0 c1 c2 c3 c4 c5
        rw [← HW0.out]
        refine (HAW.out _).mono ?_
        rintro e w1 ⟨rfl, hB⟩
        have HB1 := Lib.hid (HB0.out.trans (hB.mono hs0))
        clear hB
        go_wp2
        go_ret
        exact ⟨rfl, HB1.out⟩
      · have g1 : decide (12 < N) = false := by simp; omega
        clear hbig p1
        go_wp2_with fail
        clear c0 c1 c2 c3 c4 c5
        rw [← HW0.out]
        refine (HAW.out _).mono ?_
        rintro e w1 ⟨rfl, hB⟩
        have HB1 := Lib.hid (HB0.out.trans (hB.mono hs0))
        clear hB
        go_wp2
        go_ret
        exact ⟨rfl, HB1.out⟩
  have i1 : ¬ (700 : Int) < (nl : Int) + (nv : Int) + (nm : Int) := by omega
  have n1 : nl ≤ 700 := by omega
  have n2 : nv ≤ 700 := by omega
  have n3 : nm ≤ 700 := by omega
  have hg12 : decide (12 < N) = false ∨ (decide (12 < N) = true ∧ decide (N < 256) = false) := by
    by_cases q1 : 12 < N
    · right; constructor <;> simp <;> omega
    · left; simp; omega
  clear hbig
  rcases hg12 with g1 | ⟨g1, g2⟩
  · go_wp2_with fail
    clear c0 c1 c2 c3 c4 c5 g1
    rw [← HW0.out]
    have HBx := Lib.hid (show Below w0.heap.size w0 w0.drew from (Below.refl _ w0).drew)
    refine wp_region_held_drew (S := fun W => Below w0.heap.size w0 W) (by kernel_rfl) (HBx.out) (fun hHeld => ?_)
    have HS := HBx
    have HLw := Lib.hid (HL.out.same HB0.out); have HVw := Lib.hid (HV.out.same HB0.out); have HWw := Lib.hid (HW.out.same HB0.out)
    generalize w0.drew = wd at *
    refine wpAnyH_take (i := 0) (oi := ⟨some 40, _, _, _, _, none⟩) (v := (.pointer (some ⟨w.heap.size, 0, none⟩))) rfl (by kernel_rfl) (by kernel_rfl) (by kernel_rfl) (fun _ _ _ h => h) (Or.inl ⟨by rfl, fun W hW => ?_⟩) (by assumption) ?_
    · go_simp
    simp only [Act.put, List.setIfInBounds_toArray, List.set_cons_zero, List.set_cons_succ]
    refine wpAnyH_take (i := 1) (oi := ⟨some 41, _, _, _, _, none⟩) (v := (.agg #[.int .i64 N, .int .i64 M, .int .i64 B])) rfl (by kernel_rfl) (by kernel_rfl) (by kernel_rfl) (fun _ _ _ h => h) (Or.inl ⟨by rfl, fun W hW => ?_⟩) (by assumption) ?_
    · (obtain ⟨c0, c1, c2, c3, c4, c5⟩ := (HX0.out.same hW).c; go_simp; try rfl)
    simp only [Act.put, List.setIfInBounds_toArray, List.set_cons_zero, List.set_cons_succ]
    refine wpAnyH_take (i := 2) (oi := ⟨some 42, _, _, _, _, none⟩) (v := (.pointer (some ⟨w.heap.size, 3, none⟩))) rfl (by kernel_rfl) (by kernel_rfl) (by kernel_rfl) (fun _ _ _ h => h) (Or.inl ⟨by rfl, fun W hW => ?_⟩) (by assumption) ?_
    · go_simp
    simp only [Act.put, List.setIfInBounds_toArray, List.set_cons_zero, List.set_cons_succ]
    refine wpAnyH_take (i := 3) (oi := ⟨some 43, _, _, _, _, none⟩) (v := (.slice la nl lc)) rfl (by kernel_rfl) (by kernel_rfl) (by kernel_rfl) (fun _ _ _ h => h) (Or.inl ⟨by rfl, fun W hW => ?_⟩) (by assumption) ?_
    · (obtain ⟨c0, c1, c2, c3, c4, c5⟩ := (HX0.out.same hW).c; go_simp; try rfl)
    simp only [Act.put, List.setIfInBounds_toArray, List.set_cons_zero, List.set_cons_succ]
    refine wpAnyH_take (i := 5) (oi := ⟨some 45, _, _, _, _, none⟩) (v := (.pointer (some ⟨w.heap.size, 4, none⟩))) rfl (by kernel_rfl) (by kernel_rfl) (by kernel_rfl) (fun _ _ _ h => h) (Or.inl ⟨by rfl, fun W hW => ?_⟩) (by assumption) ?_
    · go_simp
    simp only [Act.put, List.setIfInBounds_toArray, List.set_cons_zero, List.set_cons_succ]
    refine wpAnyH_take (i := 6) (oi := ⟨some 46, _, _, _, _, none⟩) (v := (.slice va nv vc)) rfl (by kernel_rfl) (by kernel_rfl) (by kernel_rfl) (fun _ _ _ h => h) (Or.inl ⟨by rfl, fun W hW => ?_⟩) (by assumption) ?_
    · (obtain ⟨c0, c1, c2, c3, c4, c5⟩ := (HX0.out.same hW).c; go_simp; try rfl)
    simp only [Act.put, List.setIfInBounds_toArray, List.set_cons_zero, List.set_cons_succ]
    refine wpAnyH_take (i := 8) (oi := ⟨some 48, _, _, _, _, none⟩) (v := (.pointer (some ⟨w.heap.size, 5, none⟩))) rfl (by kernel_rfl) (by kernel_rfl) (by kernel_rfl) (fun _ _ _ h => h) (Or.inl ⟨by rfl, fun W hW => ?_⟩) (by assumption) ?_
    · go_simp
    simp only [Act.put, List.setIfInBounds_toArray, List.set_cons_zero, List.set_cons_succ]
    refine wpAnyH_take (i := 9) (oi := ⟨some 49, _, _, _, _, none⟩) (v := (.slice wa nm wc)) rfl (by kernel_rfl) (by kernel_rfl) (by kernel_rfl) (fun _ _ _ h => h) (Or.inl ⟨by rfl, fun W hW => ?_⟩) (by assumption) ?_
    · (obtain ⟨c0, c1, c2, c3, c4, c5⟩ := (HX0.out.same hW).c; go_simp; try rfl)
    simp only [Act.put, List.setIfInBounds_toArray, List.set_cons_zero, List.set_cons_succ]
    refine @share _ ?shP (fun hG => ?shF) ?shG
    case shF =>
      have HGH := Lib.hid hG; clear hG
      refine wpAnyH_ready (rs := [4, 12]) (by kernel_rfl) (by simp) (AllReadyH.cons rfl (fun KK hKK => ?_) (AllReadyH.cons rfl (fun KK hKK => ?_) AllReadyH.nil))
      · go_simp
        refine (lentInts_any la nl lc L _ (HLw.out.same HS.out) (by omega)).mono ?_
        rintro e V1 ⟨rfl, hg, hB⟩
        dsimp only
        have hq1 := HS.out.size
        have hlt1 := hg.lt13
        have HG1 := Lib.hid hg
        have h0 := HS.out.trans (hB.mono HS.out.size)
        have HS := Lib.hid h0
        clear h0 hB hg
        refine hKK.out _ _ (HS.out) (fun hHeld => ?_)
        clear hKK KK
        try simp only [Act.put, List.setIfInBounds_toArray, List.set_cons_zero, List.set_cons_succ]
        refine wpAnyH_ready (rs := [7, 12]) (by kernel_rfl) (by simp) (AllReadyH.cons rfl (fun KK hKK => ?_) (AllReadyH.cons rfl (fun KK hKK => ?_) AllReadyH.nil))
        · go_simp
          refine (lentInts_any va nv vc V _ (HVw.out.same HS.out) (by omega)).mono ?_
          rintro e V2 ⟨rfl, hg, hB⟩
          dsimp only
          have hq2 := HS.out.size
          have hlt2 := hg.lt13
          have HG2 := Lib.hid hg
          have h0 := HG1.out.same hB
          have HG1 := Lib.hid h0
          clear h0
          have h0 := HS.out.trans (hB.mono HS.out.size)
          have HS := Lib.hid h0
          clear h0 hB hg
          refine hKK.out _ _ (HS.out) (fun hHeld => ?_)
          clear hKK KK
          try simp only [Act.put, List.setIfInBounds_toArray, List.set_cons_zero, List.set_cons_succ]
          refine wpAnyH_ready (rs := [10, 12]) (by kernel_rfl) (by simp) (AllReadyH.cons rfl (fun KK hKK => ?_) (AllReadyH.cons rfl (fun KK hKK => ?_) AllReadyH.nil))
          · go_simp
            refine (lentInts_any wa nm wc W _ (HWw.out.same HS.out) (by omega)).mono ?_
            rintro e V3 ⟨rfl, hg, hB⟩
            dsimp only
            have hq3 := HS.out.size
            have hlt3 := hg.lt13
            have HG3 := Lib.hid hg
            have h0 := HG1.out.same hB
            have HG1 := Lib.hid h0
            clear h0
            have h0 := HG2.out.same hB
            have HG2 := Lib.hid h0
            clear h0
            have h0 := HS.out.trans (hB.mono HS.out.size)
            have HS := Lib.hid h0
            clear h0 hB hg
            refine hKK.out _ _ (HS.out) (fun hHeld => ?_)
            clear hKK KK
            try simp only [Act.put, List.setIfInBounds_toArray, List.set_cons_zero, List.set_cons_succ]
            refine wpAnyH_take (i := 11) (oi := ⟨some 51, _, _, _, _, none⟩) (v := (.agg #[.int .i64 N, .int .i64 M, .int .i64 B, .slice (some ⟨wd.heap.size, 0, none⟩) nl (nl + 12), .slice (some ⟨V1.heap.size, 0, none⟩) nv (nv + 12), .slice (some ⟨V2.heap.size, 0, none⟩) nm (nm + 12)])) rfl (by kernel_rfl) (by kernel_rfl) (by kernel_rfl) (fun _ _ _ h => h) (Or.inl ⟨by rfl, fun W hW => ?_⟩) (by assumption) ?_
            · go_simp
            simp only [Act.put, List.setIfInBounds_toArray, List.set_cons_zero, List.set_cons_succ]
            refine wpAnyH_ready (rs := [12]) (by kernel_rfl) (by simp) (AllReadyH.cons rfl (fun KK hKK => ?_) AllReadyH.nil)
            go_simp
            have HSl := HS; have HG1l := HG1; have HG2l := HG2; have HG3l := HG3
            have hal := (Below.refl V3.heap.size V3).alloc (Nat.le_refl _) (.cells #[.int .i64 0, .int .i64 0, .int .i64 0, .slice none 0 0, .slice none 0 0, .slice none 0 0] 26)
            have h0 := HG1.out.same hal
            have HG1 := Lib.hid h0
            clear h0
            have h0 := HG2.out.same hal
            have HG2 := Lib.hid h0
            clear h0
            have h0 := HG3.out.same hal
            have HG3 := Lib.hid h0
            clear h0
            have hsz := HS.out.size
            have HZS := Lib.hid hsz
            have HTZ := Lib.hid (show TAt (V3.alloc (.cells #[.int .i64 0, .int .i64 0, .int .i64 0, .slice none 0 0, .slice none 0 0, .slice none 0 0] 26)) V3.heap.size 26 0 0 0 none 0 0 none 0 0 none 0 0 from heap_alloc_new _ _)
            have h0 := HS.out.trans (hal.mono HS.out.size)
            have HS := Lib.hid h0
            clear h0 hal hsz
            refine hKK.out _ _ (HS.out) (fun hHeld => ?_)
            clear hKK KK
            try simp only [Act.put, List.setIfInBounds_toArray, List.set_cons_zero, List.set_cons_succ]
            have hal := (Below.refl V3.heap.size V3).alloc (Nat.le_refl _) (.cells #[.int .i64 N, .int .i64 M, .int .i64 B, .slice (some ⟨wd.heap.size, 0, none⟩) nl (nl + 12), .slice (some ⟨V1.heap.size, 0, none⟩) nv (nv + 12), .slice (some ⟨V2.heap.size, 0, none⟩) nm (nm + 12)] 26)
            refine wpAnyH_ready (rs := [13]) (by kernel_rfl) (by simp) (AllReadyH.cons rfl (fun KK hKK => ?_) AllReadyH.nil)
            go_simp
            refine hKK.out _ _ (HSl.out.trans (hal.mono HSl.out.size)) (fun hHeld => ?_)
            clear hKK KK
            try simp only [Act.put, List.setIfInBounds_toArray, List.set_cons_zero, List.set_cons_succ]
            refine wpAnyH_done (by kernel_rfl) ?_ _
            have HALL := Lib.hid (show Rdy w0 (V3.alloc (.cells #[.int .i64 N, .int .i64 M, .int .i64 B, .slice (some ⟨wd.heap.size, 0, none⟩) nl (nl + 12), .slice (some ⟨V1.heap.size, 0, none⟩) nv (nv + 12), .slice (some ⟨V2.heap.size, 0, none⟩) nm (nm + 12)] 26)) wd.heap.size V1.heap.size V2.heap.size V3.heap.size 26 N M B nl nv nm L V W from ⟨hq1, hlt1, hlt2, HSl.out.trans (hal.mono HSl.out.size), HG1l.out.same hal, HG2l.out.same hal, HG3l.out.same hal, heap_alloc_new _ _⟩)
            generalize (V3.alloc (.cells #[.int .i64 N, .int .i64 M, .int .i64 B, .slice (some ⟨wd.heap.size, 0, none⟩) nl (nl + 12), .slice (some ⟨V1.heap.size, 0, none⟩) nv (nv + 12), .slice (some ⟨V2.heap.size, 0, none⟩) nm (nm + 12)] 26)) = W9 at HALL ⊢
            generalize V3.heap.size = gz at HALL ⊢
            generalize V2.heap.size = g3 at HALL ⊢
            generalize V1.heap.size = g2 at HALL ⊢
            generalize wd.heap.size = g1 at HALL ⊢
            revert HALL gz g3 g2 g1 W9
            exact HGH.out
          · go_simp
            have hal := (Below.refl V2.heap.size V2).alloc (Nat.le_refl _) (.cells #[.int .i64 0, .int .i64 0, .int .i64 0, .slice none 0 0, .slice none 0 0, .slice none 0 0] 26)
            have h0 := HG1.out.same hal
            have HG1 := Lib.hid h0
            clear h0
            have h0 := HG2.out.same hal
            have HG2 := Lib.hid h0
            clear h0
            have hsz := HS.out.size
            have HZS := Lib.hid hsz
            have HTZ := Lib.hid (show TAt (V2.alloc (.cells #[.int .i64 0, .int .i64 0, .int .i64 0, .slice none 0 0, .slice none 0 0, .slice none 0 0] 26)) V2.heap.size 26 0 0 0 none 0 0 none 0 0 none 0 0 from heap_alloc_new _ _)
            have h0 := HS.out.trans (hal.mono HS.out.size)
            have HS := Lib.hid h0
            clear h0 hal hsz
            refine hKK.out _ _ (HS.out) (fun hHeld => ?_)
            clear hKK KK
            try simp only [Act.put, List.setIfInBounds_toArray, List.set_cons_zero, List.set_cons_succ]
            have HZL := Lib.hid (show V2.heap.size < (V2.alloc (.cells #[.int .i64 0, .int .i64 0, .int .i64 0, .slice none 0 0, .slice none 0 0, .slice none 0 0] 26)).heap.size by rw [World.size_alloc]; omega)
            obtain ⟨U3, hU3⟩ : ∃ U, U = (V2.alloc (.cells #[.int .i64 0, .int .i64 0, .int .i64 0, .slice none 0 0, .slice none 0 0, .slice none 0 0] 26)) := ⟨_, rfl⟩
            rw [← hU3] at HS HTZ hHeld HZL ⊢
            rw [← hU3] at HG1
            rw [← hU3] at HG2
            clear hU3
            refine wpAnyH_ready (rs := [10]) (by kernel_rfl) (by simp) (AllReadyH.cons rfl (fun KK hKK => ?_) AllReadyH.nil)
            go_simp
            refine (lentInts_any wa nm wc W _ (HWw.out.same HS.out) (by omega)).mono ?_
            rintro e V4 ⟨rfl, hg, hB⟩
            dsimp only
            have hq3 := HS.out.size
            have hlt3 := hg.lt13
            have HG3 := Lib.hid hg
            have h0 := HG1.out.same hB
            have HG1 := Lib.hid h0
            clear h0
            have h0 := HG2.out.same hB
            have HG2 := Lib.hid h0
            clear h0
            have h0 := HTZ.out.same hB
            have HTZ := Lib.hid h0
            clear h0
            have h0 := HS.out.trans (hB.mono HS.out.size)
            have HS := Lib.hid h0
            clear h0 hB hg
            refine hKK.out _ _ (HS.out) (fun hHeld => ?_)
            clear hKK KK
            try simp only [Act.put, List.setIfInBounds_toArray, List.set_cons_zero, List.set_cons_succ]
            refine wpAnyH_take (i := 11) (oi := ⟨some 51, _, _, _, _, none⟩) (v := (.agg #[.int .i64 N, .int .i64 M, .int .i64 B, .slice (some ⟨wd.heap.size, 0, none⟩) nl (nl + 12), .slice (some ⟨V1.heap.size, 0, none⟩) nv (nv + 12), .slice (some ⟨U3.heap.size, 0, none⟩) nm (nm + 12)])) rfl (by kernel_rfl) (by kernel_rfl) (by kernel_rfl) (fun _ _ _ h => h) (Or.inl ⟨by rfl, fun W hW => ?_⟩) (by assumption) ?_
            · go_simp
            simp only [Act.put, List.setIfInBounds_toArray, List.set_cons_zero, List.set_cons_succ]
            obtain ⟨z0, z1, z2, z3, z4, z5⟩ := HTZ.out.c
            have f0 := HTZ.out.free 0
            have f1 := HTZ.out.free 1
            have f2 := HTZ.out.free 2
            have f3 := HTZ.out.free 3
            have f4 := HTZ.out.free 4
            have f5 := HTZ.out.free 5
            have hq0 : w0.heap.size ≤ V2.heap.size := HZS.out
            have hZL := HZL.out
            have hbel := below_six HS.out hq0 (.int .i64 N) (.int .i64 M) (.int .i64 B) (.slice (some ⟨wd.heap.size, 0, none⟩) nl (nl + 12)) (.slice (some ⟨V1.heap.size, 0, none⟩) nv (nv + 12)) (.slice (some ⟨U3.heap.size, 0, none⟩) nm (nm + 12))
            refine wpAnyH_ready (rs := [13]) (by kernel_rfl) (by simp) (AllReadyH.cons rfl (fun KK hKK => ?_) AllReadyH.nil)
            go_simp
            refine hKK.out _ _ hbel (fun hHeld => ?_)
            clear hKK KK
            try simp only [Act.put, List.setIfInBounds_toArray, List.set_cons_zero, List.set_cons_succ]
            refine wpAnyH_done (by kernel_rfl) ?_ _
            exact HGH.out _ _ _ _ _ (Lib.hid ⟨hq1, by omega, by omega, hbel, kept_six HG1.out (by omega) (.int .i64 N) (.int .i64 M) (.int .i64 B) (.slice (some ⟨wd.heap.size, 0, none⟩) nl (nl + 12)) (.slice (some ⟨V1.heap.size, 0, none⟩) nv (nv + 12)) (.slice (some ⟨U3.heap.size, 0, none⟩) nm (nm + 12)), kept_six HG2.out (by omega) (.int .i64 N) (.int .i64 M) (.int .i64 B) (.slice (some ⟨wd.heap.size, 0, none⟩) nl (nl + 12)) (.slice (some ⟨V1.heap.size, 0, none⟩) nv (nv + 12)) (.slice (some ⟨U3.heap.size, 0, none⟩) nm (nm + 12)), kept_six HG3.out (by omega) (.int .i64 N) (.int .i64 M) (.int .i64 B) (.slice (some ⟨wd.heap.size, 0, none⟩) nl (nl + 12)) (.slice (some ⟨V1.heap.size, 0, none⟩) nv (nv + 12)) (.slice (some ⟨U3.heap.size, 0, none⟩) nm (nm + 12)), put_six HTZ.out (.int .i64 N) (.int .i64 M) (.int .i64 B) (.slice (some ⟨wd.heap.size, 0, none⟩) nl (nl + 12)) (.slice (some ⟨V1.heap.size, 0, none⟩) nv (nv + 12)) (.slice (some ⟨U3.heap.size, 0, none⟩) nm (nm + 12))⟩)
        · go_simp
          have hal := (Below.refl V1.heap.size V1).alloc (Nat.le_refl _) (.cells #[.int .i64 0, .int .i64 0, .int .i64 0, .slice none 0 0, .slice none 0 0, .slice none 0 0] 26)
          have h0 := HG1.out.same hal
          have HG1 := Lib.hid h0
          clear h0
          have hsz := HS.out.size
          have HZS := Lib.hid hsz
          have HTZ := Lib.hid (show TAt (V1.alloc (.cells #[.int .i64 0, .int .i64 0, .int .i64 0, .slice none 0 0, .slice none 0 0, .slice none 0 0] 26)) V1.heap.size 26 0 0 0 none 0 0 none 0 0 none 0 0 from heap_alloc_new _ _)
          have h0 := HS.out.trans (hal.mono HS.out.size)
          have HS := Lib.hid h0
          clear h0 hal hsz
          refine hKK.out _ _ (HS.out) (fun hHeld => ?_)
          clear hKK KK
          try simp only [Act.put, List.setIfInBounds_toArray, List.set_cons_zero, List.set_cons_succ]
          have HZL := Lib.hid (show V1.heap.size < (V1.alloc (.cells #[.int .i64 0, .int .i64 0, .int .i64 0, .slice none 0 0, .slice none 0 0, .slice none 0 0] 26)).heap.size by rw [World.size_alloc]; omega)
          obtain ⟨U2, hU2⟩ : ∃ U, U = (V1.alloc (.cells #[.int .i64 0, .int .i64 0, .int .i64 0, .slice none 0 0, .slice none 0 0, .slice none 0 0] 26)) := ⟨_, rfl⟩
          rw [← hU2] at HS HTZ hHeld HZL ⊢
          rw [← hU2] at HG1
          clear hU2
          refine wpAnyH_ready (rs := [7]) (by kernel_rfl) (by simp) (AllReadyH.cons rfl (fun KK hKK => ?_) AllReadyH.nil)
          go_simp
          refine (lentInts_any va nv vc V _ (HVw.out.same HS.out) (by omega)).mono ?_
          rintro e V3 ⟨rfl, hg, hB⟩
          dsimp only
          have hq2 := HS.out.size
          have hlt2 := hg.lt13
          have HG2 := Lib.hid hg
          have h0 := HG1.out.same hB
          have HG1 := Lib.hid h0
          clear h0
          have h0 := HTZ.out.same hB
          have HTZ := Lib.hid h0
          clear h0
          have h0 := HS.out.trans (hB.mono HS.out.size)
          have HS := Lib.hid h0
          clear h0 hB hg
          refine hKK.out _ _ (HS.out) (fun hHeld => ?_)
          clear hKK KK
          try simp only [Act.put, List.setIfInBounds_toArray, List.set_cons_zero, List.set_cons_succ]
          refine wpAnyH_ready (rs := [10]) (by kernel_rfl) (by simp) (AllReadyH.cons rfl (fun KK hKK => ?_) AllReadyH.nil)
          go_simp
          refine (lentInts_any wa nm wc W _ (HWw.out.same HS.out) (by omega)).mono ?_
          rintro e V4 ⟨rfl, hg, hB⟩
          dsimp only
          have hq3 := HS.out.size
          have hlt3 := hg.lt13
          have HG3 := Lib.hid hg
          have h0 := HG1.out.same hB
          have HG1 := Lib.hid h0
          clear h0
          have h0 := HG2.out.same hB
          have HG2 := Lib.hid h0
          clear h0
          have h0 := HTZ.out.same hB
          have HTZ := Lib.hid h0
          clear h0
          have h0 := HS.out.trans (hB.mono HS.out.size)
          have HS := Lib.hid h0
          clear h0 hB hg
          refine hKK.out _ _ (HS.out) (fun hHeld => ?_)
          clear hKK KK
          try simp only [Act.put, List.setIfInBounds_toArray, List.set_cons_zero, List.set_cons_succ]
          refine wpAnyH_take (i := 11) (oi := ⟨some 51, _, _, _, _, none⟩) (v := (.agg #[.int .i64 N, .int .i64 M, .int .i64 B, .slice (some ⟨wd.heap.size, 0, none⟩) nl (nl + 12), .slice (some ⟨U2.heap.size, 0, none⟩) nv (nv + 12), .slice (some ⟨V3.heap.size, 0, none⟩) nm (nm + 12)])) rfl (by kernel_rfl) (by kernel_rfl) (by kernel_rfl) (fun _ _ _ h => h) (Or.inl ⟨by rfl, fun W hW => ?_⟩) (by assumption) ?_
          · go_simp
          simp only [Act.put, List.setIfInBounds_toArray, List.set_cons_zero, List.set_cons_succ]
          obtain ⟨z0, z1, z2, z3, z4, z5⟩ := HTZ.out.c
          have f0 := HTZ.out.free 0
          have f1 := HTZ.out.free 1
          have f2 := HTZ.out.free 2
          have f3 := HTZ.out.free 3
          have f4 := HTZ.out.free 4
          have f5 := HTZ.out.free 5
          have hq0 : w0.heap.size ≤ V1.heap.size := HZS.out
          have hZL := HZL.out
          have hbel := below_six HS.out hq0 (.int .i64 N) (.int .i64 M) (.int .i64 B) (.slice (some ⟨wd.heap.size, 0, none⟩) nl (nl + 12)) (.slice (some ⟨U2.heap.size, 0, none⟩) nv (nv + 12)) (.slice (some ⟨V3.heap.size, 0, none⟩) nm (nm + 12))
          refine wpAnyH_ready (rs := [13]) (by kernel_rfl) (by simp) (AllReadyH.cons rfl (fun KK hKK => ?_) AllReadyH.nil)
          go_simp
          refine hKK.out _ _ hbel (fun hHeld => ?_)
          clear hKK KK
          try simp only [Act.put, List.setIfInBounds_toArray, List.set_cons_zero, List.set_cons_succ]
          refine wpAnyH_done (by kernel_rfl) ?_ _
          exact HGH.out _ _ _ _ _ (Lib.hid ⟨hq1, by omega, by omega, hbel, kept_six HG1.out (by omega) (.int .i64 N) (.int .i64 M) (.int .i64 B) (.slice (some ⟨wd.heap.size, 0, none⟩) nl (nl + 12)) (.slice (some ⟨U2.heap.size, 0, none⟩) nv (nv + 12)) (.slice (some ⟨V3.heap.size, 0, none⟩) nm (nm + 12)), kept_six HG2.out (by omega) (.int .i64 N) (.int .i64 M) (.int .i64 B) (.slice (some ⟨wd.heap.size, 0, none⟩) nl (nl + 12)) (.slice (some ⟨U2.heap.size, 0, none⟩) nv (nv + 12)) (.slice (some ⟨V3.heap.size, 0, none⟩) nm (nm + 12)), kept_six HG3.out (by omega) (.int .i64 N) (.int .i64 M) (.int .i64 B) (.slice (some ⟨wd.heap.size, 0, none⟩) nl (nl + 12)) (.slice (some ⟨U2.heap.size, 0, none⟩) nv (nv + 12)) (.slice (some ⟨V3.heap.size, 0, none⟩) nm (nm + 12)), put_six HTZ.out (.int .i64 N) (.int .i64 M) (.int .i64 B) (.slice (some ⟨wd.heap.size, 0, none⟩) nl (nl + 12)) (.slice (some ⟨U2.heap.size, 0, none⟩) nv (nv + 12)) (.slice (some ⟨V3.heap.size, 0, none⟩) nm (nm + 12))⟩)
      · go_simp
        have hal := (Below.refl wd.heap.size wd).alloc (Nat.le_refl _) (.cells #[.int .i64 0, .int .i64 0, .int .i64 0, .slice none 0 0, .slice none 0 0, .slice none 0 0] 26)
        have hsz := HS.out.size
        have HZS := Lib.hid hsz
        have HTZ := Lib.hid (show TAt (wd.alloc (.cells #[.int .i64 0, .int .i64 0, .int .i64 0, .slice none 0 0, .slice none 0 0, .slice none 0 0] 26)) wd.heap.size 26 0 0 0 none 0 0 none 0 0 none 0 0 from heap_alloc_new _ _)
        have h0 := HS.out.trans (hal.mono HS.out.size)
        have HS := Lib.hid h0
        clear h0 hal hsz
        refine hKK.out _ _ (HS.out) (fun hHeld => ?_)
        clear hKK KK
        try simp only [Act.put, List.setIfInBounds_toArray, List.set_cons_zero, List.set_cons_succ]
        have HZL := Lib.hid (show wd.heap.size < (wd.alloc (.cells #[.int .i64 0, .int .i64 0, .int .i64 0, .slice none 0 0, .slice none 0 0, .slice none 0 0] 26)).heap.size by rw [World.size_alloc]; omega)
        obtain ⟨U1, hU1⟩ : ∃ U, U = (wd.alloc (.cells #[.int .i64 0, .int .i64 0, .int .i64 0, .slice none 0 0, .slice none 0 0, .slice none 0 0] 26)) := ⟨_, rfl⟩
        rw [← hU1] at HS HTZ hHeld HZL ⊢
        clear hU1
        refine wpAnyH_ready (rs := [4]) (by kernel_rfl) (by simp) (AllReadyH.cons rfl (fun KK hKK => ?_) AllReadyH.nil)
        go_simp
        refine (lentInts_any la nl lc L _ (HLw.out.same HS.out) (by omega)).mono ?_
        rintro e V2 ⟨rfl, hg, hB⟩
        dsimp only
        have hq1 := HS.out.size
        have hlt1 := hg.lt13
        have HG1 := Lib.hid hg
        have h0 := HTZ.out.same hB
        have HTZ := Lib.hid h0
        clear h0
        have h0 := HS.out.trans (hB.mono HS.out.size)
        have HS := Lib.hid h0
        clear h0 hB hg
        refine hKK.out _ _ (HS.out) (fun hHeld => ?_)
        clear hKK KK
        try simp only [Act.put, List.setIfInBounds_toArray, List.set_cons_zero, List.set_cons_succ]
        refine wpAnyH_ready (rs := [7]) (by kernel_rfl) (by simp) (AllReadyH.cons rfl (fun KK hKK => ?_) AllReadyH.nil)
        go_simp
        refine (lentInts_any va nv vc V _ (HVw.out.same HS.out) (by omega)).mono ?_
        rintro e V3 ⟨rfl, hg, hB⟩
        dsimp only
        have hq2 := HS.out.size
        have hlt2 := hg.lt13
        have HG2 := Lib.hid hg
        have h0 := HG1.out.same hB
        have HG1 := Lib.hid h0
        clear h0
        have h0 := HTZ.out.same hB
        have HTZ := Lib.hid h0
        clear h0
        have h0 := HS.out.trans (hB.mono HS.out.size)
        have HS := Lib.hid h0
        clear h0 hB hg
        refine hKK.out _ _ (HS.out) (fun hHeld => ?_)
        clear hKK KK
        try simp only [Act.put, List.setIfInBounds_toArray, List.set_cons_zero, List.set_cons_succ]
        refine wpAnyH_ready (rs := [10]) (by kernel_rfl) (by simp) (AllReadyH.cons rfl (fun KK hKK => ?_) AllReadyH.nil)
        go_simp
        refine (lentInts_any wa nm wc W _ (HWw.out.same HS.out) (by omega)).mono ?_
        rintro e V4 ⟨rfl, hg, hB⟩
        dsimp only
        have hq3 := HS.out.size
        have hlt3 := hg.lt13
        have HG3 := Lib.hid hg
        have h0 := HG1.out.same hB
        have HG1 := Lib.hid h0
        clear h0
        have h0 := HG2.out.same hB
        have HG2 := Lib.hid h0
        clear h0
        have h0 := HTZ.out.same hB
        have HTZ := Lib.hid h0
        clear h0
        have h0 := HS.out.trans (hB.mono HS.out.size)
        have HS := Lib.hid h0
        clear h0 hB hg
        refine hKK.out _ _ (HS.out) (fun hHeld => ?_)
        clear hKK KK
        try simp only [Act.put, List.setIfInBounds_toArray, List.set_cons_zero, List.set_cons_succ]
        refine wpAnyH_take (i := 11) (oi := ⟨some 51, _, _, _, _, none⟩) (v := (.agg #[.int .i64 N, .int .i64 M, .int .i64 B, .slice (some ⟨U1.heap.size, 0, none⟩) nl (nl + 12), .slice (some ⟨V2.heap.size, 0, none⟩) nv (nv + 12), .slice (some ⟨V3.heap.size, 0, none⟩) nm (nm + 12)])) rfl (by kernel_rfl) (by kernel_rfl) (by kernel_rfl) (fun _ _ _ h => h) (Or.inl ⟨by rfl, fun W hW => ?_⟩) (by assumption) ?_
        · go_simp
        simp only [Act.put, List.setIfInBounds_toArray, List.set_cons_zero, List.set_cons_succ]
        obtain ⟨z0, z1, z2, z3, z4, z5⟩ := HTZ.out.c
        have f0 := HTZ.out.free 0
        have f1 := HTZ.out.free 1
        have f2 := HTZ.out.free 2
        have f3 := HTZ.out.free 3
        have f4 := HTZ.out.free 4
        have f5 := HTZ.out.free 5
        have hq0 : w0.heap.size ≤ wd.heap.size := HZS.out
        have hZL := HZL.out
        have hbel := below_six HS.out hq0 (.int .i64 N) (.int .i64 M) (.int .i64 B) (.slice (some ⟨U1.heap.size, 0, none⟩) nl (nl + 12)) (.slice (some ⟨V2.heap.size, 0, none⟩) nv (nv + 12)) (.slice (some ⟨V3.heap.size, 0, none⟩) nm (nm + 12))
        refine wpAnyH_ready (rs := [13]) (by kernel_rfl) (by simp) (AllReadyH.cons rfl (fun KK hKK => ?_) AllReadyH.nil)
        go_simp
        refine hKK.out _ _ hbel (fun hHeld => ?_)
        clear hKK KK
        try simp only [Act.put, List.setIfInBounds_toArray, List.set_cons_zero, List.set_cons_succ]
        refine wpAnyH_done (by kernel_rfl) ?_ _
        exact HGH.out _ _ _ _ _ (Lib.hid ⟨hq1, by omega, by omega, hbel, kept_six HG1.out (by omega) (.int .i64 N) (.int .i64 M) (.int .i64 B) (.slice (some ⟨U1.heap.size, 0, none⟩) nl (nl + 12)) (.slice (some ⟨V2.heap.size, 0, none⟩) nv (nv + 12)) (.slice (some ⟨V3.heap.size, 0, none⟩) nm (nm + 12)), kept_six HG2.out (by omega) (.int .i64 N) (.int .i64 M) (.int .i64 B) (.slice (some ⟨U1.heap.size, 0, none⟩) nl (nl + 12)) (.slice (some ⟨V2.heap.size, 0, none⟩) nv (nv + 12)) (.slice (some ⟨V3.heap.size, 0, none⟩) nm (nm + 12)), kept_six HG3.out (by omega) (.int .i64 N) (.int .i64 M) (.int .i64 B) (.slice (some ⟨U1.heap.size, 0, none⟩) nl (nl + 12)) (.slice (some ⟨V2.heap.size, 0, none⟩) nv (nv + 12)) (.slice (some ⟨V3.heap.size, 0, none⟩) nm (nm + 12)), put_six HTZ.out (.int .i64 N) (.int .i64 M) (.int .i64 B) (.slice (some ⟨U1.heap.size, 0, none⟩) nl (nl + 12)) (.slice (some ⟨V2.heap.size, 0, none⟩) nv (nv + 12)) (.slice (some ⟨V3.heap.size, 0, none⟩) nm (nm + 12))⟩)
    case shG =>
      intro W9 gz g3 g2 g1 HALL
      have hlo := HALL.out.lo; have hl1 := HALL.out.l1; have hl2 := HALL.out.l2
      have HG1 := Lib.hid HALL.out.b1; have HG2 := Lib.hid HALL.out.b2; have HG3 := Lib.hid HALL.out.b3; have HS := Lib.hid HALL.out.be; have HT := Lib.hid HALL.out.ta
      clear HALL
      obtain ⟨z0, z1, z2, z3, z4, z5⟩ := HT.out.c
      go_wp2_with fail
      clear z0 z1 z2 z3 z4 z5
      refine (HBE.out (some ⟨g1, 0, none⟩) (some ⟨g2, 0, none⟩) (some ⟨g3, 0, none⟩) (nl + 12) (nv + 12) (nm + 12) _ (blk_si _ HG1.out) (blk_si _ HG2.out) (blk_si _ HG3.out)).mono ?_
      rintro e w1 ⟨hbs, hB⟩
      obtain ⟨a1, c1, rfl, ho⟩ := HBB.out _ _ _ hbs
      have HO1 := Lib.hid ho; have hs9 := (HS.out.size); have hg39 := HG3.out.lt13
      clear ho hbs
      have h0 := HG1.out.same hB
      have HG1 := Lib.hid h0
      clear h0
      have h0 := HG2.out.same hB
      have HG2 := Lib.hid h0
      clear h0
      have h0 := HG3.out.same hB
      have HG3 := Lib.hid h0
      clear h0
      have h0 := HT.out.same hB
      have HT := Lib.hid h0
      clear h0
      have h0 := HS.out.trans (hB.mono HS.out.size)
      have HS := Lib.hid h0
      clear h0 hB
      obtain ⟨z0, z1, z2, z3, z4, z5⟩ := (HX0.out.same HS.out).c
      go_wp2_with fail
      clear z0 z1 z2 z3 z4 z5
      refine (HTH.out _).mono ?_
      rintro e w2 ⟨rfl, hB⟩
      have h0 := HG1.out.same hB
      have HG1 := Lib.hid h0
      clear h0
      have h0 := HG2.out.same hB
      have HG2 := Lib.hid h0
      clear h0
      have h0 := HG3.out.same hB
      have HG3 := Lib.hid h0
      clear h0
      have h0 := HT.out.same hB
      have HT := Lib.hid h0
      clear h0
      have h0 := own_below HO1.out hB
      have HO1 := Lib.hid h0
      clear h0
      have h0 := HS.out.trans (hB.mono HS.out.size)
      have HS := Lib.hid h0
      clear h0 hB
      go_wp2_with fail
      refine (HRB.out _ (HLw.out.same HS.out).si (HVw.out.same HS.out).si (HWw.out.same HS.out).si).mono ?_
      rintro e w3 ⟨hbs, hB⟩
      obtain ⟨a2, c2, rfl, ho⟩ := HBB.out _ _ _ hbs
      have HO2 := Lib.hid ho
      clear ho hbs
      have h0 := HG1.out.same hB
      have HG1 := Lib.hid h0
      clear h0
      have h0 := HG2.out.same hB
      have HG2 := Lib.hid h0
      clear h0
      have h0 := HG3.out.same hB
      have HG3 := Lib.hid h0
      clear h0
      have h0 := HT.out.same hB
      have HT := Lib.hid h0
      clear h0
      have h0 := own_below HO1.out hB
      have HO1 := Lib.hid h0
      clear h0
      have h0 := HS.out.trans (hB.mono HS.out.size)
      have HS := Lib.hid h0
      clear h0 hB
      obtain ⟨z0, z1, z2, z3, z4, z5⟩ := HT.out.c
      go_wp2_with fail
      clear z0 z1 z2 z3 z4 z5
      refine (HSC.out (some ⟨g1, 0, none⟩) (some ⟨g2, 0, none⟩) (some ⟨g3, 0, none⟩) (nl + 12) (nv + 12) (nm + 12) _ (blk_si _ HG1.out) (blk_si _ HG2.out) (blk_si _ HG3.out)).mono ?_
      rintro e w4 ⟨hbs, hB⟩
      obtain rfl := HSB.out _ hbs
      clear hbs
      have h0 := HG1.out.same hB
      have HG1 := Lib.hid h0
      clear h0
      have h0 := HG2.out.same hB
      have HG2 := Lib.hid h0
      clear h0
      have h0 := HG3.out.same hB
      have HG3 := Lib.hid h0
      clear h0
      have h0 := HT.out.same hB
      have HT := Lib.hid h0
      clear h0
      have h0 := own_below HO1.out hB
      have HO1 := Lib.hid h0
      clear h0
      have h0 := own_below HO2.out hB
      have HO2 := Lib.hid h0
      clear h0
      have h0 := HS.out.trans (hB.mono HS.out.size)
      have HS := Lib.hid h0
      clear h0 hB
      obtain ⟨z0, z1, z2, z3, z4, z5⟩ := (HX0.out.same HS.out).c
      go_wp2_with fail
      clear z0 z1 z2 z3 z4 z5
      refine (HTH.out _).mono ?_
      rintro e w5 ⟨rfl, hB⟩
      have h0 := HG1.out.same hB
      have HG1 := Lib.hid h0
      clear h0
      have h0 := HG2.out.same hB
      have HG2 := Lib.hid h0
      clear h0
      have h0 := HG3.out.same hB
      have HG3 := Lib.hid h0
      clear h0
      have h0 := HT.out.same hB
      have HT := Lib.hid h0
      clear h0
      have h0 := own_below HO1.out hB
      have HO1 := Lib.hid h0
      clear h0
      have h0 := own_below HO2.out hB
      have HO2 := Lib.hid h0
      clear h0
      have h0 := HS.out.trans (hB.mono HS.out.size)
      have HS := Lib.hid h0
      clear h0 hB
      go_wp2_with fail
      refine (HRS.out _ (HLw.out.same HS.out).si (HVw.out.same HS.out).si (HWw.out.same HS.out).si).mono ?_
      rintro e w6 ⟨hbs, hB⟩
      obtain rfl := HSB.out _ hbs
      clear hbs
      have h0 := HG1.out.same hB
      have HG1 := Lib.hid h0
      clear h0
      have h0 := HG2.out.same hB
      have HG2 := Lib.hid h0
      clear h0
      have h0 := HG3.out.same hB
      have HG3 := Lib.hid h0
      clear h0
      have h0 := HT.out.same hB
      have HT := Lib.hid h0
      clear h0
      have h0 := own_below HO1.out hB
      have HO1 := Lib.hid h0
      clear h0
      have h0 := own_below HO2.out hB
      have HO2 := Lib.hid h0
      clear h0
      have h0 := HS.out.trans (hB.mono HS.out.size)
      have HS := Lib.hid h0
      clear h0 hB
      obtain ⟨z0, z1, z2, z3, z4, z5⟩ := HT.out.c
      go_wp2_with fail
      clear z0 z1 z2 z3 z4 z5
      have HW := Lib.hid (show Below w6.heap.size w6 w6.drew from (Below.refl _ w6).drew)
      refine wp_region_held_drew (S := fun W => Below w6.heap.size w6 W) (by kernel_rfl) (HW.out) (fun hHeld => ?_)
      refine wpAnyH_take (i := 0) (oi := ⟨some 74, _, _, _, _, none⟩) (v := (.int .i64 bE)) rfl (by kernel_rfl) (by kernel_rfl) (by kernel_rfl) (fun _ _ _ h => h) (Or.inl ⟨by rfl, fun W hW => ?_⟩) (by assumption) ?_
      · go_simp
      simp only [Act.put, List.setIfInBounds_toArray, List.set_cons_zero, List.set_cons_succ]
      refine wpAnyH_take (i := 1) (oi := ⟨some 75, _, _, _, _, none⟩) (v := (.int .i64 bE)) rfl (by kernel_rfl) (by kernel_rfl) (by kernel_rfl) (fun _ _ _ h => h) (Or.inl ⟨by rfl, fun W hW => ?_⟩) (by assumption) ?_
      · go_simp
      simp only [Act.put, List.setIfInBounds_toArray, List.set_cons_zero, List.set_cons_succ]
      refine wpAnyH_take (i := 2) (oi := ⟨some 76, _, _, _, _, none⟩) (v := (.bool true)) rfl (by kernel_rfl) (by kernel_rfl) (by kernel_rfl) (fun _ _ _ h => h) (Or.inl ⟨by rfl, fun W hW => ?_⟩) (by assumption) ?_
      · go_simp
      simp only [Act.put, List.setIfInBounds_toArray, List.set_cons_zero, List.set_cons_succ]
      refine wpAnyH_take (i := 3) (oi := ⟨some 77, _, _, _, _, none⟩) (v := (.bool true)) rfl (by kernel_rfl) (by kernel_rfl) (by kernel_rfl) (fun _ _ _ h => h) (Or.inl ⟨by rfl, fun W hW => ?_⟩) (by assumption) ?_
      · go_simp
      simp only [Act.put, List.setIfInBounds_toArray, List.set_cons_zero, List.set_cons_succ]
      refine wpAnyH_take (i := 4) (oi := ⟨some 78, _, _, _, _, some (3, true)⟩) (v := (.int .i64 qE)) rfl (by kernel_rfl) (by kernel_rfl) (by kernel_rfl) (fun _ _ _ h => h) (Or.inl ⟨by rfl, fun W hW => ?_⟩) (by assumption) ?_
      · go_simp
      simp only [Act.put, List.setIfInBounds_toArray, List.set_cons_zero, List.set_cons_succ]
      refine wpAnyH_take (i := 5) (oi := ⟨some 79, _, _, _, _, some (3, true)⟩) (v := (.int .i64 qE)) rfl (by kernel_rfl) (by kernel_rfl) (by kernel_rfl) (fun _ _ _ h => h) (Or.inl ⟨by rfl, fun W hW => ?_⟩) (by assumption) ?_
      · go_simp
      simp only [Act.put, List.setIfInBounds_toArray, List.set_cons_zero, List.set_cons_succ]
      refine wpAnyH_take (i := 6) (oi := ⟨some 80, _, _, _, _, some (3, true)⟩) (v := (.bool true)) rfl (by kernel_rfl) (by kernel_rfl) (by kernel_rfl) (fun _ _ _ h => h) (Or.inl ⟨by rfl, fun W hW => ?_⟩) (by assumption) ?_
      · go_simp
      simp only [Act.put, List.setIfInBounds_toArray, List.set_cons_zero, List.set_cons_succ]
      refine wpAnyH_take (i := 7) (oi := ⟨some 81, _, _, _, _, none⟩) (v := (.bool true)) rfl (by kernel_rfl) (by kernel_rfl) (by kernel_rfl) (fun _ _ _ h => h) (Or.inl ⟨by rfl, fun W hW => ?_⟩) (by assumption) ?_
      · go_simp
      simp only [Act.put, List.setIfInBounds_toArray, List.set_cons_zero, List.set_cons_succ]
      refine wpAnyH_take (i := 8) (oi := ⟨some 82, _, _, _, _, none⟩) (v := (.bool true)) rfl (by kernel_rfl) (by kernel_rfl) (by kernel_rfl) (fun _ _ _ h => h) (Or.inl ⟨by rfl, fun W hW => ?_⟩) (by assumption) ?_
      · go_simp
      simp only [Act.put, List.setIfInBounds_toArray, List.set_cons_zero, List.set_cons_succ]
      refine wpAnyH_take (i := 9) (oi := ⟨some 83, _, _, _, _, some (8, true)⟩) (v := (.int .i64 qs)) rfl (by kernel_rfl) (by kernel_rfl) (by kernel_rfl) (fun _ _ _ h => h) (Or.inl ⟨by rfl, fun W hW => ?_⟩) (by assumption) ?_
      · go_simp
      simp only [Act.put, List.setIfInBounds_toArray, List.set_cons_zero, List.set_cons_succ]
      refine wpAnyH_take (i := 10) (oi := ⟨some 84, _, _, _, _, some (8, true)⟩) (v := (.int .i64 qs)) rfl (by kernel_rfl) (by kernel_rfl) (by kernel_rfl) (fun _ _ _ h => h) (Or.inl ⟨by rfl, fun W hW => ?_⟩) (by assumption) ?_
      · go_simp
      simp only [Act.put, List.setIfInBounds_toArray, List.set_cons_zero, List.set_cons_succ]
      refine wpAnyH_take (i := 11) (oi := ⟨some 85, _, _, _, _, some (8, true)⟩) (v := (.bool true)) rfl (by kernel_rfl) (by kernel_rfl) (by kernel_rfl) (fun _ _ _ h => h) (Or.inl ⟨by rfl, fun W hW => ?_⟩) (by assumption) ?_
      · go_simp
      simp only [Act.put, List.setIfInBounds_toArray, List.set_cons_zero, List.set_cons_succ]
      refine wpAnyH_take (i := 12) (oi := ⟨some 86, _, _, _, _, none⟩) (v := (.bool true)) rfl (by kernel_rfl) (by kernel_rfl) (by kernel_rfl) (fun _ _ _ h => h) (Or.inl ⟨by rfl, fun W hW => ?_⟩) (by assumption) ?_
      · go_simp
      simp only [Act.put, List.setIfInBounds_toArray, List.set_cons_zero, List.set_cons_succ]
      refine wpAnyH_take (i := 13) (oi := ⟨some 87, _, _, _, _, none⟩) (v := (.bool true)) rfl (by kernel_rfl) (by kernel_rfl) (by kernel_rfl) (fun _ _ _ h => h) (Or.inl ⟨by rfl, fun W hW => ?_⟩) (by assumption) ?_
      · go_simp
      simp only [Act.put, List.setIfInBounds_toArray, List.set_cons_zero, List.set_cons_succ]
      refine wpAnyH_take (i := 14) (oi := ⟨some 88, _, _, _, _, some (13, true)⟩) (v := (.slice a1 bm c1)) rfl (by kernel_rfl) (by kernel_rfl) (by kernel_rfl) (fun _ _ _ h => h) (Or.inl ⟨by rfl, fun W hW => ?_⟩) (by assumption) ?_
      · go_simp
      simp only [Act.put, List.setIfInBounds_toArray, List.set_cons_zero, List.set_cons_succ]
      refine wpAnyH_take (i := 15) (oi := ⟨some 89, _, _, _, _, some (13, true)⟩) (v := (.slice a2 bm c2)) rfl (by kernel_rfl) (by kernel_rfl) (by kernel_rfl) (fun _ _ _ h => h) (Or.inl ⟨by rfl, fun W hW => ?_⟩) (by assumption) ?_
      · go_simp
      simp only [Act.put, List.setIfInBounds_toArray, List.set_cons_zero, List.set_cons_succ]
      refine wpAnyH_ready (rs := [16]) (by kernel_rfl) (by simp) (AllReadyH.cons rfl (fun KK hKK => ?_) AllReadyH.nil)
      go_simp
      refine (sameInts_any a1 a2 bm c1 bm c2 bK bK (by omega) (by omega) _ (hi_own (own_below HO1.out HW.out)).si (hi_own (own_below HO2.out HW.out)).si).mono ?_
      rintro e Y0 ⟨⟨v0, rfl, hv0⟩, hb0⟩
      dsimp only
      have hW0 := HW.out
      have HW := Lib.hid (show (fun W => Below w6.heap.size w6 W) Y0 from hW0.trans (hb0.mono hW0.size))
      clear hW0 hb0
      obtain rfl : v0 = true := hv0.2 ⟨rfl, fun _ _ => rfl⟩
      clear hv0
      refine hKK.out _ _ (HW.out) (fun hHeld => ?_)
      clear hKK KK
      try simp only [Act.put, List.setIfInBounds_toArray, List.set_cons_zero, List.set_cons_succ]
      refine wpAnyH_take (i := 17) (oi := ⟨some 91, _, _, _, _, none⟩) (v := (.bool true)) rfl (by kernel_rfl) (by kernel_rfl) (by kernel_rfl) (fun _ _ _ h => h) (Or.inl ⟨by rfl, fun W hW => ?_⟩) (by assumption) ?_
      · go_simp
      simp only [Act.put, List.setIfInBounds_toArray, List.set_cons_zero, List.set_cons_succ]
      refine wpAnyH_take (i := 18) (oi := ⟨some 92, _, _, _, _, none⟩) (v := (.bool true)) rfl (by kernel_rfl) (by kernel_rfl) (by kernel_rfl) (fun _ _ _ h => h) (Or.inl ⟨by rfl, fun W hW => ?_⟩) (by assumption) ?_
      · go_simp
      simp only [Act.put, List.setIfInBounds_toArray, List.set_cons_zero, List.set_cons_succ]
      refine wpAnyH_take (i := 19) (oi := ⟨some 93, _, _, _, _, some (18, true)⟩) (v := (.agg #[.int .i64 N, .int .i64 M, .int .i64 B, .slice (some ⟨g1, 0, none⟩) nl (nl + 12), .slice (some ⟨g2, 0, none⟩) nv (nv + 12), .slice (some ⟨g3, 0, none⟩) nm (nm + 12)])) rfl (by kernel_rfl) (by kernel_rfl) (by kernel_rfl) (fun _ _ _ h => h) (Or.inl ⟨by rfl, fun W hW => ?_⟩) (by assumption) ?_
      · (obtain ⟨z0, z1, z2, z3, z4, z5⟩ := (HT.out.same hW).c; go_simp; try rfl)
      simp only [Act.put, List.setIfInBounds_toArray, List.set_cons_zero, List.set_cons_succ]
      refine wpAnyH_take (i := 21) (oi := ⟨some 95, _, _, _, _, some (18, true)⟩) (v := (.agg #[.int .i64 N, .int .i64 M, .int .i64 B, .slice la nl lc, .slice va nv vc, .slice wa nm wc])) rfl (by kernel_rfl) (by kernel_rfl) (by kernel_rfl) (fun _ _ _ h => h) (Or.inl ⟨by rfl, fun W hW => ?_⟩) (by assumption) ?_
      · (obtain ⟨z0, z1, z2, z3, z4, z5⟩ := (HX0.out.same (HS.out.trans (hW.mono HS.out.size))).c; go_simp; try rfl)
      simp only [Act.put, List.setIfInBounds_toArray, List.set_cons_zero, List.set_cons_succ]
      refine wpAnyH_ready (rs := [20]) (by kernel_rfl) (by simp) (AllReadyH.cons rfl (fun KK hKK => ?_) AllReadyH.nil)
      go_simp
      refine (HRI.out (some ⟨g1, 0, none⟩) (some ⟨g2, 0, none⟩) (some ⟨g3, 0, none⟩) (nl + 12) (nv + 12) (nm + 12) _ (blk_si _ (HG1.out.same HW.out)) (blk_si _ (HG2.out.same HW.out)) (blk_si _ (HG3.out.same HW.out))).mono ?_
      rintro e Y1 ⟨⟨v1, rfl, hv1⟩, hb1⟩
      dsimp only
      have hW0 := HW.out
      have HW := Lib.hid (show (fun W => Below w6.heap.size w6 W) Y1 from hW0.trans (hb1.mono hW0.size))
      clear hW0 hb1
      refine hKK.out _ _ (HW.out) (fun hHeld => ?_)
      clear hKK KK
      try simp only [Act.put, List.setIfInBounds_toArray, List.set_cons_zero, List.set_cons_succ]
      refine wpAnyH_ready (rs := [22]) (by kernel_rfl) (by simp) (AllReadyH.cons rfl (fun KK hKK => ?_) AllReadyH.nil)
      go_simp
      refine (HTH.out _).mono ?_
      rintro e Y2 ⟨rfl, hb2⟩
      dsimp only
      have hW0 := HW.out
      have HW := Lib.hid (show (fun W => Below w6.heap.size w6 W) Y2 from hW0.trans (hb2.mono hW0.size))
      clear hW0 hb2
      refine hKK.out _ _ (HW.out) (fun hHeld => ?_)
      clear hKK KK
      try simp only [Act.put, List.setIfInBounds_toArray, List.set_cons_zero, List.set_cons_succ]
      refine wpAnyH_ready (rs := [23]) (by kernel_rfl) (by simp) (AllReadyH.cons rfl (fun KK hKK => ?_) AllReadyH.nil)
      go_simp
      refine (HRR.out _ (HLw.out.same (HS.out.trans (HW.out.mono HS.out.size))).si (HVw.out.same (HS.out.trans (HW.out.mono HS.out.size))).si (HWw.out.same (HS.out.trans (HW.out.mono HS.out.size))).si).mono ?_
      rintro e Y3 ⟨⟨v2, rfl, hv2⟩, hb3⟩
      dsimp only
      have hW0 := HW.out
      have HW := Lib.hid (show (fun W => Below w6.heap.size w6 W) Y3 from hW0.trans (hb3.mono hW0.size))
      clear hW0 hb3
      obtain rfl : v1 = v2 := Bool.eq_iff_iff.2 (hv1.trans hv2.symm)
      clear hv1 hv2
      refine hKK.out _ _ (HW.out) (fun hHeld => ?_)
      clear hKK KK
      try simp only [Act.put, List.setIfInBounds_toArray, List.set_cons_zero, List.set_cons_succ]
      refine wpAnyH_take (i := 24) (oi := ⟨some 98, _, _, _, _, some (18, true)⟩) (v := (.bool true)) rfl (by kernel_rfl) (by kernel_rfl) (by kernel_rfl) (fun _ _ _ h => h) (Or.inl ⟨by rfl, fun W hW => ?_⟩) (by assumption) ?_
      · go_simp
      simp only [Act.put, List.setIfInBounds_toArray, List.set_cons_zero, List.set_cons_succ]
      refine wpAnyH_take (i := 25) (oi := ⟨some 99, _, _, _, _, none⟩) (v := (.bool true)) rfl (by kernel_rfl) (by kernel_rfl) (by kernel_rfl) (fun _ _ _ h => h) (Or.inl ⟨by rfl, fun W hW => ?_⟩) (by assumption) ?_
      · go_simp
      simp only [Act.put, List.setIfInBounds_toArray, List.set_cons_zero, List.set_cons_succ]
      refine wpAnyH_ready (rs := [26]) (by kernel_rfl) (by simp) (AllReadyH.cons rfl (fun KK hKK => ?_) AllReadyH.nil)
      go_simp
      refine hKK.out _ _ (HW.out) (fun hHeld => ?_)
      clear hKK KK
      try simp only [Act.put, List.setIfInBounds_toArray, List.set_cons_zero, List.set_cons_succ]
      refine wpAnyH_done (by kernel_rfl) ?_ _
      have hB := HW.out
      clear HW
      have h0 := HG1.out.same hB
      have HG1 := Lib.hid h0
      clear h0
      have h0 := HG2.out.same hB
      have HG2 := Lib.hid h0
      clear h0
      have h0 := HG3.out.same hB
      have HG3 := Lib.hid h0
      clear h0
      have h0 := HT.out.same hB
      have HT := Lib.hid h0
      clear h0
      have h0 := own_below HO1.out hB
      have HO1 := Lib.hid h0
      clear h0
      have h0 := HS.out.trans (hB.mono HS.out.size)
      have HS := Lib.hid h0
      clear h0 hB
      obtain ⟨z0, z1, z2, z3, z4, z5⟩ := HT.out.c
      obtain ⟨x0, x1, x2, x3, x4, x5⟩ := (HX0.out.same HS.out).c
      go_wp2_with fail
      clear z0 z1 z2 z3 z4 z5
      clear x0 x1 x2 x3 x4 x5
      refine (keptInts_any g1 la nl lc L _ (HLw.out.same HS.out) HG1.out (by omega)).mono ?_
      rintro e k1 ⟨rfl, d, hd⟩
      have hB := (by rw [hd]; exact below_drewN (Below.refl _ _) d : Below Y3.heap.size Y3 k1)
      clear hd
      have h0 := HG1.out.same hB
      have HG1 := Lib.hid h0
      clear h0
      have h0 := HG2.out.same hB
      have HG2 := Lib.hid h0
      clear h0
      have h0 := HG3.out.same hB
      have HG3 := Lib.hid h0
      clear h0
      have h0 := HT.out.same hB
      have HT := Lib.hid h0
      clear h0
      have h0 := own_below HO1.out hB
      have HO1 := Lib.hid h0
      clear h0
      have h0 := HS.out.trans (hB.mono HS.out.size)
      have HS := Lib.hid h0
      clear h0 hB
      obtain ⟨z0, z1, z2, z3, z4, z5⟩ := HT.out.c
      obtain ⟨x0, x1, x2, x3, x4, x5⟩ := (HX0.out.same HS.out).c
      go_wp2_with fail
      clear z0 z1 z2 z3 z4 z5
      clear x0 x1 x2 x3 x4 x5
      refine (keptInts_any g2 va nv vc V _ (HVw.out.same HS.out) HG2.out (by omega)).mono ?_
      rintro e k2 ⟨rfl, d, hd⟩
      have hB := (by rw [hd]; exact below_drewN (Below.refl _ _) d : Below k1.heap.size k1 k2)
      clear hd
      have h0 := HG1.out.same hB
      have HG1 := Lib.hid h0
      clear h0
      have h0 := HG2.out.same hB
      have HG2 := Lib.hid h0
      clear h0
      have h0 := HG3.out.same hB
      have HG3 := Lib.hid h0
      clear h0
      have h0 := HT.out.same hB
      have HT := Lib.hid h0
      clear h0
      have h0 := own_below HO1.out hB
      have HO1 := Lib.hid h0
      clear h0
      have h0 := HS.out.trans (hB.mono HS.out.size)
      have HS := Lib.hid h0
      clear h0 hB
      obtain ⟨z0, z1, z2, z3, z4, z5⟩ := HT.out.c
      obtain ⟨x0, x1, x2, x3, x4, x5⟩ := (HX0.out.same HS.out).c
      go_wp2_with fail
      clear z0 z1 z2 z3 z4 z5
      clear x0 x1 x2 x3 x4 x5
      refine (keptInts_any g3 wa nm wc W _ (HWw.out.same HS.out) HG3.out (by omega)).mono ?_
      rintro e k3 ⟨rfl, d, hd⟩
      have hB := (by rw [hd]; exact below_drewN (Below.refl _ _) d : Below k2.heap.size k2 k3)
      clear hd
      have h0 := HG1.out.same hB
      have HG1 := Lib.hid h0
      clear h0
      have h0 := HG2.out.same hB
      have HG2 := Lib.hid h0
      clear h0
      have h0 := HG3.out.same hB
      have HG3 := Lib.hid h0
      clear h0
      have h0 := HT.out.same hB
      have HT := Lib.hid h0
      clear h0
      have h0 := own_below HO1.out hB
      have HO1 := Lib.hid h0
      clear h0
      have h0 := HS.out.trans (hB.mono HS.out.size)
      have HS := Lib.hid h0
      clear h0 hB
      obtain ⟨z0, z1, z2, z3, z4, z5⟩ := HT.out.c
      go_wp2_with fail
      clear z0 z1 z2 z3 z4 z5
      have hk3 := HS.out.size
      refine (Ai.apartInts_any w0.heap.size k3.heap.size 4 4 (ra g1 g2 g3 a1) (rl nl nv nm bm) (rl (nl + 12) (nv + 12) (nm + 12) c1) (rh L V W bK) _ (bag_four HG1.out HG2.out HG3.out (own_mono HO1.out hs9) (by omega) (by omega) (by omega) (by omega) (by omega) (by omega)) (sep_four hl1 hl2 (fun g e => Nat.lt_of_lt_of_le hg39 (own_blk13 HO1.out g e).1)) (by rw [World.size_alloc]; omega) (by rw [World.size_alloc]; omega) (Nat.le_refl _) (by omega) (by omega) (rl_le n1 n2 n3 hbm)).mono ?_
      rintro e k4 ⟨rfl, hB⟩
      have HB4 := Lib.hid (HB0.out.trans ((HS.out.trans (((Below.refl k3.heap.size k3).alloc (Nat.le_refl _) _).mono hk3)).trans hB |>.mono hs0))
      clear hB
      go_wp2_with fail
      refine (HAW.out _).mono ?_
      rintro e k5 ⟨rfl, hB⟩
      have HB5 := Lib.hid (HB4.out.trans (hB.mono HB4.out.size))
      clear hB
      go_wp2
      go_ret
      exact ⟨rfl, HB5.out⟩
  · go_wp2_with fail
    clear c0 c1 c2 c3 c4 c5 g1 g2
    rw [← HW0.out]
    have HBx := Lib.hid (show Below w0.heap.size w0 w0.drew from (Below.refl _ w0).drew)
    refine wp_region_held_drew (S := fun W => Below w0.heap.size w0 W) (by kernel_rfl) (HBx.out) (fun hHeld => ?_)
    have HS := HBx
    have HLw := Lib.hid (HL.out.same HB0.out); have HVw := Lib.hid (HV.out.same HB0.out); have HWw := Lib.hid (HW.out.same HB0.out)
    generalize w0.drew = wd at *
    refine wpAnyH_take (i := 0) (oi := ⟨some 40, _, _, _, _, none⟩) (v := (.pointer (some ⟨w.heap.size, 0, none⟩))) rfl (by kernel_rfl) (by kernel_rfl) (by kernel_rfl) (fun _ _ _ h => h) (Or.inl ⟨by rfl, fun W hW => ?_⟩) (by assumption) ?_
    · go_simp
    simp only [Act.put, List.setIfInBounds_toArray, List.set_cons_zero, List.set_cons_succ]
    refine wpAnyH_take (i := 1) (oi := ⟨some 41, _, _, _, _, none⟩) (v := (.agg #[.int .i64 N, .int .i64 M, .int .i64 B])) rfl (by kernel_rfl) (by kernel_rfl) (by kernel_rfl) (fun _ _ _ h => h) (Or.inl ⟨by rfl, fun W hW => ?_⟩) (by assumption) ?_
    · (obtain ⟨c0, c1, c2, c3, c4, c5⟩ := (HX0.out.same hW).c; go_simp; try rfl)
    simp only [Act.put, List.setIfInBounds_toArray, List.set_cons_zero, List.set_cons_succ]
    refine wpAnyH_take (i := 2) (oi := ⟨some 42, _, _, _, _, none⟩) (v := (.pointer (some ⟨w.heap.size, 3, none⟩))) rfl (by kernel_rfl) (by kernel_rfl) (by kernel_rfl) (fun _ _ _ h => h) (Or.inl ⟨by rfl, fun W hW => ?_⟩) (by assumption) ?_
    · go_simp
    simp only [Act.put, List.setIfInBounds_toArray, List.set_cons_zero, List.set_cons_succ]
    refine wpAnyH_take (i := 3) (oi := ⟨some 43, _, _, _, _, none⟩) (v := (.slice la nl lc)) rfl (by kernel_rfl) (by kernel_rfl) (by kernel_rfl) (fun _ _ _ h => h) (Or.inl ⟨by rfl, fun W hW => ?_⟩) (by assumption) ?_
    · (obtain ⟨c0, c1, c2, c3, c4, c5⟩ := (HX0.out.same hW).c; go_simp; try rfl)
    simp only [Act.put, List.setIfInBounds_toArray, List.set_cons_zero, List.set_cons_succ]
    refine wpAnyH_take (i := 5) (oi := ⟨some 45, _, _, _, _, none⟩) (v := (.pointer (some ⟨w.heap.size, 4, none⟩))) rfl (by kernel_rfl) (by kernel_rfl) (by kernel_rfl) (fun _ _ _ h => h) (Or.inl ⟨by rfl, fun W hW => ?_⟩) (by assumption) ?_
    · go_simp
    simp only [Act.put, List.setIfInBounds_toArray, List.set_cons_zero, List.set_cons_succ]
    refine wpAnyH_take (i := 6) (oi := ⟨some 46, _, _, _, _, none⟩) (v := (.slice va nv vc)) rfl (by kernel_rfl) (by kernel_rfl) (by kernel_rfl) (fun _ _ _ h => h) (Or.inl ⟨by rfl, fun W hW => ?_⟩) (by assumption) ?_
    · (obtain ⟨c0, c1, c2, c3, c4, c5⟩ := (HX0.out.same hW).c; go_simp; try rfl)
    simp only [Act.put, List.setIfInBounds_toArray, List.set_cons_zero, List.set_cons_succ]
    refine wpAnyH_take (i := 8) (oi := ⟨some 48, _, _, _, _, none⟩) (v := (.pointer (some ⟨w.heap.size, 5, none⟩))) rfl (by kernel_rfl) (by kernel_rfl) (by kernel_rfl) (fun _ _ _ h => h) (Or.inl ⟨by rfl, fun W hW => ?_⟩) (by assumption) ?_
    · go_simp
    simp only [Act.put, List.setIfInBounds_toArray, List.set_cons_zero, List.set_cons_succ]
    refine wpAnyH_take (i := 9) (oi := ⟨some 49, _, _, _, _, none⟩) (v := (.slice wa nm wc)) rfl (by kernel_rfl) (by kernel_rfl) (by kernel_rfl) (fun _ _ _ h => h) (Or.inl ⟨by rfl, fun W hW => ?_⟩) (by assumption) ?_
    · (obtain ⟨c0, c1, c2, c3, c4, c5⟩ := (HX0.out.same hW).c; go_simp; try rfl)
    simp only [Act.put, List.setIfInBounds_toArray, List.set_cons_zero, List.set_cons_succ]
    refine @share _ ?shP2 (fun hG => ?shF2) ?shG2
    case shF2 =>
      have HGH := Lib.hid hG; clear hG
      refine wpAnyH_ready (rs := [4, 12]) (by kernel_rfl) (by simp) (AllReadyH.cons rfl (fun KK hKK => ?_) (AllReadyH.cons rfl (fun KK hKK => ?_) AllReadyH.nil))
      · go_simp
        refine (lentInts_any la nl lc L _ (HLw.out.same HS.out) (by omega)).mono ?_
        rintro e V1 ⟨rfl, hg, hB⟩
        dsimp only
        have hq1 := HS.out.size
        have hlt1 := hg.lt13
        have HG1 := Lib.hid hg
        have h0 := HS.out.trans (hB.mono HS.out.size)
        have HS := Lib.hid h0
        clear h0 hB hg
        refine hKK.out _ _ (HS.out) (fun hHeld => ?_)
        clear hKK KK
        try simp only [Act.put, List.setIfInBounds_toArray, List.set_cons_zero, List.set_cons_succ]
        refine wpAnyH_ready (rs := [7, 12]) (by kernel_rfl) (by simp) (AllReadyH.cons rfl (fun KK hKK => ?_) (AllReadyH.cons rfl (fun KK hKK => ?_) AllReadyH.nil))
        · go_simp
          refine (lentInts_any va nv vc V _ (HVw.out.same HS.out) (by omega)).mono ?_
          rintro e V2 ⟨rfl, hg, hB⟩
          dsimp only
          have hq2 := HS.out.size
          have hlt2 := hg.lt13
          have HG2 := Lib.hid hg
          have h0 := HG1.out.same hB
          have HG1 := Lib.hid h0
          clear h0
          have h0 := HS.out.trans (hB.mono HS.out.size)
          have HS := Lib.hid h0
          clear h0 hB hg
          refine hKK.out _ _ (HS.out) (fun hHeld => ?_)
          clear hKK KK
          try simp only [Act.put, List.setIfInBounds_toArray, List.set_cons_zero, List.set_cons_succ]
          refine wpAnyH_ready (rs := [10, 12]) (by kernel_rfl) (by simp) (AllReadyH.cons rfl (fun KK hKK => ?_) (AllReadyH.cons rfl (fun KK hKK => ?_) AllReadyH.nil))
          · go_simp
            refine (lentInts_any wa nm wc W _ (HWw.out.same HS.out) (by omega)).mono ?_
            rintro e V3 ⟨rfl, hg, hB⟩
            dsimp only
            have hq3 := HS.out.size
            have hlt3 := hg.lt13
            have HG3 := Lib.hid hg
            have h0 := HG1.out.same hB
            have HG1 := Lib.hid h0
            clear h0
            have h0 := HG2.out.same hB
            have HG2 := Lib.hid h0
            clear h0
            have h0 := HS.out.trans (hB.mono HS.out.size)
            have HS := Lib.hid h0
            clear h0 hB hg
            refine hKK.out _ _ (HS.out) (fun hHeld => ?_)
            clear hKK KK
            try simp only [Act.put, List.setIfInBounds_toArray, List.set_cons_zero, List.set_cons_succ]
            refine wpAnyH_take (i := 11) (oi := ⟨some 51, _, _, _, _, none⟩) (v := (.agg #[.int .i64 N, .int .i64 M, .int .i64 B, .slice (some ⟨wd.heap.size, 0, none⟩) nl (nl + 12), .slice (some ⟨V1.heap.size, 0, none⟩) nv (nv + 12), .slice (some ⟨V2.heap.size, 0, none⟩) nm (nm + 12)])) rfl (by kernel_rfl) (by kernel_rfl) (by kernel_rfl) (fun _ _ _ h => h) (Or.inl ⟨by rfl, fun W hW => ?_⟩) (by assumption) ?_
            · go_simp
            simp only [Act.put, List.setIfInBounds_toArray, List.set_cons_zero, List.set_cons_succ]
            refine wpAnyH_ready (rs := [12]) (by kernel_rfl) (by simp) (AllReadyH.cons rfl (fun KK hKK => ?_) AllReadyH.nil)
            go_simp
            have HSl := HS; have HG1l := HG1; have HG2l := HG2; have HG3l := HG3
            have hal := (Below.refl V3.heap.size V3).alloc (Nat.le_refl _) (.cells #[.int .i64 0, .int .i64 0, .int .i64 0, .slice none 0 0, .slice none 0 0, .slice none 0 0] 26)
            have h0 := HG1.out.same hal
            have HG1 := Lib.hid h0
            clear h0
            have h0 := HG2.out.same hal
            have HG2 := Lib.hid h0
            clear h0
            have h0 := HG3.out.same hal
            have HG3 := Lib.hid h0
            clear h0
            have hsz := HS.out.size
            have HZS := Lib.hid hsz
            have HTZ := Lib.hid (show TAt (V3.alloc (.cells #[.int .i64 0, .int .i64 0, .int .i64 0, .slice none 0 0, .slice none 0 0, .slice none 0 0] 26)) V3.heap.size 26 0 0 0 none 0 0 none 0 0 none 0 0 from heap_alloc_new _ _)
            have h0 := HS.out.trans (hal.mono HS.out.size)
            have HS := Lib.hid h0
            clear h0 hal hsz
            refine hKK.out _ _ (HS.out) (fun hHeld => ?_)
            clear hKK KK
            try simp only [Act.put, List.setIfInBounds_toArray, List.set_cons_zero, List.set_cons_succ]
            have hal := (Below.refl V3.heap.size V3).alloc (Nat.le_refl _) (.cells #[.int .i64 N, .int .i64 M, .int .i64 B, .slice (some ⟨wd.heap.size, 0, none⟩) nl (nl + 12), .slice (some ⟨V1.heap.size, 0, none⟩) nv (nv + 12), .slice (some ⟨V2.heap.size, 0, none⟩) nm (nm + 12)] 26)
            refine wpAnyH_ready (rs := [13]) (by kernel_rfl) (by simp) (AllReadyH.cons rfl (fun KK hKK => ?_) AllReadyH.nil)
            go_simp
            refine hKK.out _ _ (HSl.out.trans (hal.mono HSl.out.size)) (fun hHeld => ?_)
            clear hKK KK
            try simp only [Act.put, List.setIfInBounds_toArray, List.set_cons_zero, List.set_cons_succ]
            refine wpAnyH_done (by kernel_rfl) ?_ _
            have HALL := Lib.hid (show Rdy w0 (V3.alloc (.cells #[.int .i64 N, .int .i64 M, .int .i64 B, .slice (some ⟨wd.heap.size, 0, none⟩) nl (nl + 12), .slice (some ⟨V1.heap.size, 0, none⟩) nv (nv + 12), .slice (some ⟨V2.heap.size, 0, none⟩) nm (nm + 12)] 26)) wd.heap.size V1.heap.size V2.heap.size V3.heap.size 26 N M B nl nv nm L V W from ⟨hq1, hlt1, hlt2, HSl.out.trans (hal.mono HSl.out.size), HG1l.out.same hal, HG2l.out.same hal, HG3l.out.same hal, heap_alloc_new _ _⟩)
            generalize (V3.alloc (.cells #[.int .i64 N, .int .i64 M, .int .i64 B, .slice (some ⟨wd.heap.size, 0, none⟩) nl (nl + 12), .slice (some ⟨V1.heap.size, 0, none⟩) nv (nv + 12), .slice (some ⟨V2.heap.size, 0, none⟩) nm (nm + 12)] 26)) = W9 at HALL ⊢
            generalize V3.heap.size = gz at HALL ⊢
            generalize V2.heap.size = g3 at HALL ⊢
            generalize V1.heap.size = g2 at HALL ⊢
            generalize wd.heap.size = g1 at HALL ⊢
            revert HALL gz g3 g2 g1 W9
            exact HGH.out
          · go_simp
            have hal := (Below.refl V2.heap.size V2).alloc (Nat.le_refl _) (.cells #[.int .i64 0, .int .i64 0, .int .i64 0, .slice none 0 0, .slice none 0 0, .slice none 0 0] 26)
            have h0 := HG1.out.same hal
            have HG1 := Lib.hid h0
            clear h0
            have h0 := HG2.out.same hal
            have HG2 := Lib.hid h0
            clear h0
            have hsz := HS.out.size
            have HZS := Lib.hid hsz
            have HTZ := Lib.hid (show TAt (V2.alloc (.cells #[.int .i64 0, .int .i64 0, .int .i64 0, .slice none 0 0, .slice none 0 0, .slice none 0 0] 26)) V2.heap.size 26 0 0 0 none 0 0 none 0 0 none 0 0 from heap_alloc_new _ _)
            have h0 := HS.out.trans (hal.mono HS.out.size)
            have HS := Lib.hid h0
            clear h0 hal hsz
            refine hKK.out _ _ (HS.out) (fun hHeld => ?_)
            clear hKK KK
            try simp only [Act.put, List.setIfInBounds_toArray, List.set_cons_zero, List.set_cons_succ]
            have HZL := Lib.hid (show V2.heap.size < (V2.alloc (.cells #[.int .i64 0, .int .i64 0, .int .i64 0, .slice none 0 0, .slice none 0 0, .slice none 0 0] 26)).heap.size by rw [World.size_alloc]; omega)
            obtain ⟨U3, hU3⟩ : ∃ U, U = (V2.alloc (.cells #[.int .i64 0, .int .i64 0, .int .i64 0, .slice none 0 0, .slice none 0 0, .slice none 0 0] 26)) := ⟨_, rfl⟩
            rw [← hU3] at HS HTZ hHeld HZL ⊢
            rw [← hU3] at HG1
            rw [← hU3] at HG2
            clear hU3
            refine wpAnyH_ready (rs := [10]) (by kernel_rfl) (by simp) (AllReadyH.cons rfl (fun KK hKK => ?_) AllReadyH.nil)
            go_simp
            refine (lentInts_any wa nm wc W _ (HWw.out.same HS.out) (by omega)).mono ?_
            rintro e V4 ⟨rfl, hg, hB⟩
            dsimp only
            have hq3 := HS.out.size
            have hlt3 := hg.lt13
            have HG3 := Lib.hid hg
            have h0 := HG1.out.same hB
            have HG1 := Lib.hid h0
            clear h0
            have h0 := HG2.out.same hB
            have HG2 := Lib.hid h0
            clear h0
            have h0 := HTZ.out.same hB
            have HTZ := Lib.hid h0
            clear h0
            have h0 := HS.out.trans (hB.mono HS.out.size)
            have HS := Lib.hid h0
            clear h0 hB hg
            refine hKK.out _ _ (HS.out) (fun hHeld => ?_)
            clear hKK KK
            try simp only [Act.put, List.setIfInBounds_toArray, List.set_cons_zero, List.set_cons_succ]
            refine wpAnyH_take (i := 11) (oi := ⟨some 51, _, _, _, _, none⟩) (v := (.agg #[.int .i64 N, .int .i64 M, .int .i64 B, .slice (some ⟨wd.heap.size, 0, none⟩) nl (nl + 12), .slice (some ⟨V1.heap.size, 0, none⟩) nv (nv + 12), .slice (some ⟨U3.heap.size, 0, none⟩) nm (nm + 12)])) rfl (by kernel_rfl) (by kernel_rfl) (by kernel_rfl) (fun _ _ _ h => h) (Or.inl ⟨by rfl, fun W hW => ?_⟩) (by assumption) ?_
            · go_simp
            simp only [Act.put, List.setIfInBounds_toArray, List.set_cons_zero, List.set_cons_succ]
            obtain ⟨z0, z1, z2, z3, z4, z5⟩ := HTZ.out.c
            have f0 := HTZ.out.free 0
            have f1 := HTZ.out.free 1
            have f2 := HTZ.out.free 2
            have f3 := HTZ.out.free 3
            have f4 := HTZ.out.free 4
            have f5 := HTZ.out.free 5
            have hq0 : w0.heap.size ≤ V2.heap.size := HZS.out
            have hZL := HZL.out
            have hbel := below_six HS.out hq0 (.int .i64 N) (.int .i64 M) (.int .i64 B) (.slice (some ⟨wd.heap.size, 0, none⟩) nl (nl + 12)) (.slice (some ⟨V1.heap.size, 0, none⟩) nv (nv + 12)) (.slice (some ⟨U3.heap.size, 0, none⟩) nm (nm + 12))
            refine wpAnyH_ready (rs := [13]) (by kernel_rfl) (by simp) (AllReadyH.cons rfl (fun KK hKK => ?_) AllReadyH.nil)
            go_simp
            refine hKK.out _ _ hbel (fun hHeld => ?_)
            clear hKK KK
            try simp only [Act.put, List.setIfInBounds_toArray, List.set_cons_zero, List.set_cons_succ]
            refine wpAnyH_done (by kernel_rfl) ?_ _
            exact HGH.out _ _ _ _ _ (Lib.hid ⟨hq1, by omega, by omega, hbel, kept_six HG1.out (by omega) (.int .i64 N) (.int .i64 M) (.int .i64 B) (.slice (some ⟨wd.heap.size, 0, none⟩) nl (nl + 12)) (.slice (some ⟨V1.heap.size, 0, none⟩) nv (nv + 12)) (.slice (some ⟨U3.heap.size, 0, none⟩) nm (nm + 12)), kept_six HG2.out (by omega) (.int .i64 N) (.int .i64 M) (.int .i64 B) (.slice (some ⟨wd.heap.size, 0, none⟩) nl (nl + 12)) (.slice (some ⟨V1.heap.size, 0, none⟩) nv (nv + 12)) (.slice (some ⟨U3.heap.size, 0, none⟩) nm (nm + 12)), kept_six HG3.out (by omega) (.int .i64 N) (.int .i64 M) (.int .i64 B) (.slice (some ⟨wd.heap.size, 0, none⟩) nl (nl + 12)) (.slice (some ⟨V1.heap.size, 0, none⟩) nv (nv + 12)) (.slice (some ⟨U3.heap.size, 0, none⟩) nm (nm + 12)), put_six HTZ.out (.int .i64 N) (.int .i64 M) (.int .i64 B) (.slice (some ⟨wd.heap.size, 0, none⟩) nl (nl + 12)) (.slice (some ⟨V1.heap.size, 0, none⟩) nv (nv + 12)) (.slice (some ⟨U3.heap.size, 0, none⟩) nm (nm + 12))⟩)
        · go_simp
          have hal := (Below.refl V1.heap.size V1).alloc (Nat.le_refl _) (.cells #[.int .i64 0, .int .i64 0, .int .i64 0, .slice none 0 0, .slice none 0 0, .slice none 0 0] 26)
          have h0 := HG1.out.same hal
          have HG1 := Lib.hid h0
          clear h0
          have hsz := HS.out.size
          have HZS := Lib.hid hsz
          have HTZ := Lib.hid (show TAt (V1.alloc (.cells #[.int .i64 0, .int .i64 0, .int .i64 0, .slice none 0 0, .slice none 0 0, .slice none 0 0] 26)) V1.heap.size 26 0 0 0 none 0 0 none 0 0 none 0 0 from heap_alloc_new _ _)
          have h0 := HS.out.trans (hal.mono HS.out.size)
          have HS := Lib.hid h0
          clear h0 hal hsz
          refine hKK.out _ _ (HS.out) (fun hHeld => ?_)
          clear hKK KK
          try simp only [Act.put, List.setIfInBounds_toArray, List.set_cons_zero, List.set_cons_succ]
          have HZL := Lib.hid (show V1.heap.size < (V1.alloc (.cells #[.int .i64 0, .int .i64 0, .int .i64 0, .slice none 0 0, .slice none 0 0, .slice none 0 0] 26)).heap.size by rw [World.size_alloc]; omega)
          obtain ⟨U2, hU2⟩ : ∃ U, U = (V1.alloc (.cells #[.int .i64 0, .int .i64 0, .int .i64 0, .slice none 0 0, .slice none 0 0, .slice none 0 0] 26)) := ⟨_, rfl⟩
          rw [← hU2] at HS HTZ hHeld HZL ⊢
          rw [← hU2] at HG1
          clear hU2
          refine wpAnyH_ready (rs := [7]) (by kernel_rfl) (by simp) (AllReadyH.cons rfl (fun KK hKK => ?_) AllReadyH.nil)
          go_simp
          refine (lentInts_any va nv vc V _ (HVw.out.same HS.out) (by omega)).mono ?_
          rintro e V3 ⟨rfl, hg, hB⟩
          dsimp only
          have hq2 := HS.out.size
          have hlt2 := hg.lt13
          have HG2 := Lib.hid hg
          have h0 := HG1.out.same hB
          have HG1 := Lib.hid h0
          clear h0
          have h0 := HTZ.out.same hB
          have HTZ := Lib.hid h0
          clear h0
          have h0 := HS.out.trans (hB.mono HS.out.size)
          have HS := Lib.hid h0
          clear h0 hB hg
          refine hKK.out _ _ (HS.out) (fun hHeld => ?_)
          clear hKK KK
          try simp only [Act.put, List.setIfInBounds_toArray, List.set_cons_zero, List.set_cons_succ]
          refine wpAnyH_ready (rs := [10]) (by kernel_rfl) (by simp) (AllReadyH.cons rfl (fun KK hKK => ?_) AllReadyH.nil)
          go_simp
          refine (lentInts_any wa nm wc W _ (HWw.out.same HS.out) (by omega)).mono ?_
          rintro e V4 ⟨rfl, hg, hB⟩
          dsimp only
          have hq3 := HS.out.size
          have hlt3 := hg.lt13
          have HG3 := Lib.hid hg
          have h0 := HG1.out.same hB
          have HG1 := Lib.hid h0
          clear h0
          have h0 := HG2.out.same hB
          have HG2 := Lib.hid h0
          clear h0
          have h0 := HTZ.out.same hB
          have HTZ := Lib.hid h0
          clear h0
          have h0 := HS.out.trans (hB.mono HS.out.size)
          have HS := Lib.hid h0
          clear h0 hB hg
          refine hKK.out _ _ (HS.out) (fun hHeld => ?_)
          clear hKK KK
          try simp only [Act.put, List.setIfInBounds_toArray, List.set_cons_zero, List.set_cons_succ]
          refine wpAnyH_take (i := 11) (oi := ⟨some 51, _, _, _, _, none⟩) (v := (.agg #[.int .i64 N, .int .i64 M, .int .i64 B, .slice (some ⟨wd.heap.size, 0, none⟩) nl (nl + 12), .slice (some ⟨U2.heap.size, 0, none⟩) nv (nv + 12), .slice (some ⟨V3.heap.size, 0, none⟩) nm (nm + 12)])) rfl (by kernel_rfl) (by kernel_rfl) (by kernel_rfl) (fun _ _ _ h => h) (Or.inl ⟨by rfl, fun W hW => ?_⟩) (by assumption) ?_
          · go_simp
          simp only [Act.put, List.setIfInBounds_toArray, List.set_cons_zero, List.set_cons_succ]
          obtain ⟨z0, z1, z2, z3, z4, z5⟩ := HTZ.out.c
          have f0 := HTZ.out.free 0
          have f1 := HTZ.out.free 1
          have f2 := HTZ.out.free 2
          have f3 := HTZ.out.free 3
          have f4 := HTZ.out.free 4
          have f5 := HTZ.out.free 5
          have hq0 : w0.heap.size ≤ V1.heap.size := HZS.out
          have hZL := HZL.out
          have hbel := below_six HS.out hq0 (.int .i64 N) (.int .i64 M) (.int .i64 B) (.slice (some ⟨wd.heap.size, 0, none⟩) nl (nl + 12)) (.slice (some ⟨U2.heap.size, 0, none⟩) nv (nv + 12)) (.slice (some ⟨V3.heap.size, 0, none⟩) nm (nm + 12))
          refine wpAnyH_ready (rs := [13]) (by kernel_rfl) (by simp) (AllReadyH.cons rfl (fun KK hKK => ?_) AllReadyH.nil)
          go_simp
          refine hKK.out _ _ hbel (fun hHeld => ?_)
          clear hKK KK
          try simp only [Act.put, List.setIfInBounds_toArray, List.set_cons_zero, List.set_cons_succ]
          refine wpAnyH_done (by kernel_rfl) ?_ _
          exact HGH.out _ _ _ _ _ (Lib.hid ⟨hq1, by omega, by omega, hbel, kept_six HG1.out (by omega) (.int .i64 N) (.int .i64 M) (.int .i64 B) (.slice (some ⟨wd.heap.size, 0, none⟩) nl (nl + 12)) (.slice (some ⟨U2.heap.size, 0, none⟩) nv (nv + 12)) (.slice (some ⟨V3.heap.size, 0, none⟩) nm (nm + 12)), kept_six HG2.out (by omega) (.int .i64 N) (.int .i64 M) (.int .i64 B) (.slice (some ⟨wd.heap.size, 0, none⟩) nl (nl + 12)) (.slice (some ⟨U2.heap.size, 0, none⟩) nv (nv + 12)) (.slice (some ⟨V3.heap.size, 0, none⟩) nm (nm + 12)), kept_six HG3.out (by omega) (.int .i64 N) (.int .i64 M) (.int .i64 B) (.slice (some ⟨wd.heap.size, 0, none⟩) nl (nl + 12)) (.slice (some ⟨U2.heap.size, 0, none⟩) nv (nv + 12)) (.slice (some ⟨V3.heap.size, 0, none⟩) nm (nm + 12)), put_six HTZ.out (.int .i64 N) (.int .i64 M) (.int .i64 B) (.slice (some ⟨wd.heap.size, 0, none⟩) nl (nl + 12)) (.slice (some ⟨U2.heap.size, 0, none⟩) nv (nv + 12)) (.slice (some ⟨V3.heap.size, 0, none⟩) nm (nm + 12))⟩)
      · go_simp
        have hal := (Below.refl wd.heap.size wd).alloc (Nat.le_refl _) (.cells #[.int .i64 0, .int .i64 0, .int .i64 0, .slice none 0 0, .slice none 0 0, .slice none 0 0] 26)
        have hsz := HS.out.size
        have HZS := Lib.hid hsz
        have HTZ := Lib.hid (show TAt (wd.alloc (.cells #[.int .i64 0, .int .i64 0, .int .i64 0, .slice none 0 0, .slice none 0 0, .slice none 0 0] 26)) wd.heap.size 26 0 0 0 none 0 0 none 0 0 none 0 0 from heap_alloc_new _ _)
        have h0 := HS.out.trans (hal.mono HS.out.size)
        have HS := Lib.hid h0
        clear h0 hal hsz
        refine hKK.out _ _ (HS.out) (fun hHeld => ?_)
        clear hKK KK
        try simp only [Act.put, List.setIfInBounds_toArray, List.set_cons_zero, List.set_cons_succ]
        have HZL := Lib.hid (show wd.heap.size < (wd.alloc (.cells #[.int .i64 0, .int .i64 0, .int .i64 0, .slice none 0 0, .slice none 0 0, .slice none 0 0] 26)).heap.size by rw [World.size_alloc]; omega)
        obtain ⟨U1, hU1⟩ : ∃ U, U = (wd.alloc (.cells #[.int .i64 0, .int .i64 0, .int .i64 0, .slice none 0 0, .slice none 0 0, .slice none 0 0] 26)) := ⟨_, rfl⟩
        rw [← hU1] at HS HTZ hHeld HZL ⊢
        clear hU1
        refine wpAnyH_ready (rs := [4]) (by kernel_rfl) (by simp) (AllReadyH.cons rfl (fun KK hKK => ?_) AllReadyH.nil)
        go_simp
        refine (lentInts_any la nl lc L _ (HLw.out.same HS.out) (by omega)).mono ?_
        rintro e V2 ⟨rfl, hg, hB⟩
        dsimp only
        have hq1 := HS.out.size
        have hlt1 := hg.lt13
        have HG1 := Lib.hid hg
        have h0 := HTZ.out.same hB
        have HTZ := Lib.hid h0
        clear h0
        have h0 := HS.out.trans (hB.mono HS.out.size)
        have HS := Lib.hid h0
        clear h0 hB hg
        refine hKK.out _ _ (HS.out) (fun hHeld => ?_)
        clear hKK KK
        try simp only [Act.put, List.setIfInBounds_toArray, List.set_cons_zero, List.set_cons_succ]
        refine wpAnyH_ready (rs := [7]) (by kernel_rfl) (by simp) (AllReadyH.cons rfl (fun KK hKK => ?_) AllReadyH.nil)
        go_simp
        refine (lentInts_any va nv vc V _ (HVw.out.same HS.out) (by omega)).mono ?_
        rintro e V3 ⟨rfl, hg, hB⟩
        dsimp only
        have hq2 := HS.out.size
        have hlt2 := hg.lt13
        have HG2 := Lib.hid hg
        have h0 := HG1.out.same hB
        have HG1 := Lib.hid h0
        clear h0
        have h0 := HTZ.out.same hB
        have HTZ := Lib.hid h0
        clear h0
        have h0 := HS.out.trans (hB.mono HS.out.size)
        have HS := Lib.hid h0
        clear h0 hB hg
        refine hKK.out _ _ (HS.out) (fun hHeld => ?_)
        clear hKK KK
        try simp only [Act.put, List.setIfInBounds_toArray, List.set_cons_zero, List.set_cons_succ]
        refine wpAnyH_ready (rs := [10]) (by kernel_rfl) (by simp) (AllReadyH.cons rfl (fun KK hKK => ?_) AllReadyH.nil)
        go_simp
        refine (lentInts_any wa nm wc W _ (HWw.out.same HS.out) (by omega)).mono ?_
        rintro e V4 ⟨rfl, hg, hB⟩
        dsimp only
        have hq3 := HS.out.size
        have hlt3 := hg.lt13
        have HG3 := Lib.hid hg
        have h0 := HG1.out.same hB
        have HG1 := Lib.hid h0
        clear h0
        have h0 := HG2.out.same hB
        have HG2 := Lib.hid h0
        clear h0
        have h0 := HTZ.out.same hB
        have HTZ := Lib.hid h0
        clear h0
        have h0 := HS.out.trans (hB.mono HS.out.size)
        have HS := Lib.hid h0
        clear h0 hB hg
        refine hKK.out _ _ (HS.out) (fun hHeld => ?_)
        clear hKK KK
        try simp only [Act.put, List.setIfInBounds_toArray, List.set_cons_zero, List.set_cons_succ]
        refine wpAnyH_take (i := 11) (oi := ⟨some 51, _, _, _, _, none⟩) (v := (.agg #[.int .i64 N, .int .i64 M, .int .i64 B, .slice (some ⟨U1.heap.size, 0, none⟩) nl (nl + 12), .slice (some ⟨V2.heap.size, 0, none⟩) nv (nv + 12), .slice (some ⟨V3.heap.size, 0, none⟩) nm (nm + 12)])) rfl (by kernel_rfl) (by kernel_rfl) (by kernel_rfl) (fun _ _ _ h => h) (Or.inl ⟨by rfl, fun W hW => ?_⟩) (by assumption) ?_
        · go_simp
        simp only [Act.put, List.setIfInBounds_toArray, List.set_cons_zero, List.set_cons_succ]
        obtain ⟨z0, z1, z2, z3, z4, z5⟩ := HTZ.out.c
        have f0 := HTZ.out.free 0
        have f1 := HTZ.out.free 1
        have f2 := HTZ.out.free 2
        have f3 := HTZ.out.free 3
        have f4 := HTZ.out.free 4
        have f5 := HTZ.out.free 5
        have hq0 : w0.heap.size ≤ wd.heap.size := HZS.out
        have hZL := HZL.out
        have hbel := below_six HS.out hq0 (.int .i64 N) (.int .i64 M) (.int .i64 B) (.slice (some ⟨U1.heap.size, 0, none⟩) nl (nl + 12)) (.slice (some ⟨V2.heap.size, 0, none⟩) nv (nv + 12)) (.slice (some ⟨V3.heap.size, 0, none⟩) nm (nm + 12))
        refine wpAnyH_ready (rs := [13]) (by kernel_rfl) (by simp) (AllReadyH.cons rfl (fun KK hKK => ?_) AllReadyH.nil)
        go_simp
        refine hKK.out _ _ hbel (fun hHeld => ?_)
        clear hKK KK
        try simp only [Act.put, List.setIfInBounds_toArray, List.set_cons_zero, List.set_cons_succ]
        refine wpAnyH_done (by kernel_rfl) ?_ _
        exact HGH.out _ _ _ _ _ (Lib.hid ⟨hq1, by omega, by omega, hbel, kept_six HG1.out (by omega) (.int .i64 N) (.int .i64 M) (.int .i64 B) (.slice (some ⟨U1.heap.size, 0, none⟩) nl (nl + 12)) (.slice (some ⟨V2.heap.size, 0, none⟩) nv (nv + 12)) (.slice (some ⟨V3.heap.size, 0, none⟩) nm (nm + 12)), kept_six HG2.out (by omega) (.int .i64 N) (.int .i64 M) (.int .i64 B) (.slice (some ⟨U1.heap.size, 0, none⟩) nl (nl + 12)) (.slice (some ⟨V2.heap.size, 0, none⟩) nv (nv + 12)) (.slice (some ⟨V3.heap.size, 0, none⟩) nm (nm + 12)), kept_six HG3.out (by omega) (.int .i64 N) (.int .i64 M) (.int .i64 B) (.slice (some ⟨U1.heap.size, 0, none⟩) nl (nl + 12)) (.slice (some ⟨V2.heap.size, 0, none⟩) nv (nv + 12)) (.slice (some ⟨V3.heap.size, 0, none⟩) nm (nm + 12)), put_six HTZ.out (.int .i64 N) (.int .i64 M) (.int .i64 B) (.slice (some ⟨U1.heap.size, 0, none⟩) nl (nl + 12)) (.slice (some ⟨V2.heap.size, 0, none⟩) nv (nv + 12)) (.slice (some ⟨V3.heap.size, 0, none⟩) nm (nm + 12))⟩)
    case shG2 =>
      intro W9 gz g3 g2 g1 HALL
      have hlo := HALL.out.lo; have hl1 := HALL.out.l1; have hl2 := HALL.out.l2
      have HG1 := Lib.hid HALL.out.b1; have HG2 := Lib.hid HALL.out.b2; have HG3 := Lib.hid HALL.out.b3; have HS := Lib.hid HALL.out.be; have HT := Lib.hid HALL.out.ta
      clear HALL
      obtain ⟨z0, z1, z2, z3, z4, z5⟩ := HT.out.c
      go_wp2_with fail
      clear z0 z1 z2 z3 z4 z5
      refine (HBE.out (some ⟨g1, 0, none⟩) (some ⟨g2, 0, none⟩) (some ⟨g3, 0, none⟩) (nl + 12) (nv + 12) (nm + 12) _ (blk_si _ HG1.out) (blk_si _ HG2.out) (blk_si _ HG3.out)).mono ?_
      rintro e w1 ⟨hbs, hB⟩
      obtain ⟨a1, c1, rfl, ho⟩ := HBB.out _ _ _ hbs
      have HO1 := Lib.hid ho; have hs9 := (HS.out.size); have hg39 := HG3.out.lt13
      clear ho hbs
      have h0 := HG1.out.same hB
      have HG1 := Lib.hid h0
      clear h0
      have h0 := HG2.out.same hB
      have HG2 := Lib.hid h0
      clear h0
      have h0 := HG3.out.same hB
      have HG3 := Lib.hid h0
      clear h0
      have h0 := HT.out.same hB
      have HT := Lib.hid h0
      clear h0
      have h0 := HS.out.trans (hB.mono HS.out.size)
      have HS := Lib.hid h0
      clear h0 hB
      obtain ⟨z0, z1, z2, z3, z4, z5⟩ := (HX0.out.same HS.out).c
      go_wp2_with fail
      clear z0 z1 z2 z3 z4 z5
      refine (HTH.out _).mono ?_
      rintro e w2 ⟨rfl, hB⟩
      have h0 := HG1.out.same hB
      have HG1 := Lib.hid h0
      clear h0
      have h0 := HG2.out.same hB
      have HG2 := Lib.hid h0
      clear h0
      have h0 := HG3.out.same hB
      have HG3 := Lib.hid h0
      clear h0
      have h0 := HT.out.same hB
      have HT := Lib.hid h0
      clear h0
      have h0 := own_below HO1.out hB
      have HO1 := Lib.hid h0
      clear h0
      have h0 := HS.out.trans (hB.mono HS.out.size)
      have HS := Lib.hid h0
      clear h0 hB
      go_wp2_with fail
      refine (HRB.out _ (HLw.out.same HS.out).si (HVw.out.same HS.out).si (HWw.out.same HS.out).si).mono ?_
      rintro e w3 ⟨hbs, hB⟩
      obtain ⟨a2, c2, rfl, ho⟩ := HBB.out _ _ _ hbs
      have HO2 := Lib.hid ho
      clear ho hbs
      have h0 := HG1.out.same hB
      have HG1 := Lib.hid h0
      clear h0
      have h0 := HG2.out.same hB
      have HG2 := Lib.hid h0
      clear h0
      have h0 := HG3.out.same hB
      have HG3 := Lib.hid h0
      clear h0
      have h0 := HT.out.same hB
      have HT := Lib.hid h0
      clear h0
      have h0 := own_below HO1.out hB
      have HO1 := Lib.hid h0
      clear h0
      have h0 := HS.out.trans (hB.mono HS.out.size)
      have HS := Lib.hid h0
      clear h0 hB
      obtain ⟨z0, z1, z2, z3, z4, z5⟩ := HT.out.c
      go_wp2_with fail
      clear z0 z1 z2 z3 z4 z5
      refine (HSC.out (some ⟨g1, 0, none⟩) (some ⟨g2, 0, none⟩) (some ⟨g3, 0, none⟩) (nl + 12) (nv + 12) (nm + 12) _ (blk_si _ HG1.out) (blk_si _ HG2.out) (blk_si _ HG3.out)).mono ?_
      rintro e w4 ⟨hbs, hB⟩
      obtain rfl := HSB.out _ hbs
      clear hbs
      have h0 := HG1.out.same hB
      have HG1 := Lib.hid h0
      clear h0
      have h0 := HG2.out.same hB
      have HG2 := Lib.hid h0
      clear h0
      have h0 := HG3.out.same hB
      have HG3 := Lib.hid h0
      clear h0
      have h0 := HT.out.same hB
      have HT := Lib.hid h0
      clear h0
      have h0 := own_below HO1.out hB
      have HO1 := Lib.hid h0
      clear h0
      have h0 := own_below HO2.out hB
      have HO2 := Lib.hid h0
      clear h0
      have h0 := HS.out.trans (hB.mono HS.out.size)
      have HS := Lib.hid h0
      clear h0 hB
      obtain ⟨z0, z1, z2, z3, z4, z5⟩ := (HX0.out.same HS.out).c
      go_wp2_with fail
      clear z0 z1 z2 z3 z4 z5
      refine (HTH.out _).mono ?_
      rintro e w5 ⟨rfl, hB⟩
      have h0 := HG1.out.same hB
      have HG1 := Lib.hid h0
      clear h0
      have h0 := HG2.out.same hB
      have HG2 := Lib.hid h0
      clear h0
      have h0 := HG3.out.same hB
      have HG3 := Lib.hid h0
      clear h0
      have h0 := HT.out.same hB
      have HT := Lib.hid h0
      clear h0
      have h0 := own_below HO1.out hB
      have HO1 := Lib.hid h0
      clear h0
      have h0 := own_below HO2.out hB
      have HO2 := Lib.hid h0
      clear h0
      have h0 := HS.out.trans (hB.mono HS.out.size)
      have HS := Lib.hid h0
      clear h0 hB
      go_wp2_with fail
      refine (HRS.out _ (HLw.out.same HS.out).si (HVw.out.same HS.out).si (HWw.out.same HS.out).si).mono ?_
      rintro e w6 ⟨hbs, hB⟩
      obtain rfl := HSB.out _ hbs
      clear hbs
      have h0 := HG1.out.same hB
      have HG1 := Lib.hid h0
      clear h0
      have h0 := HG2.out.same hB
      have HG2 := Lib.hid h0
      clear h0
      have h0 := HG3.out.same hB
      have HG3 := Lib.hid h0
      clear h0
      have h0 := HT.out.same hB
      have HT := Lib.hid h0
      clear h0
      have h0 := own_below HO1.out hB
      have HO1 := Lib.hid h0
      clear h0
      have h0 := own_below HO2.out hB
      have HO2 := Lib.hid h0
      clear h0
      have h0 := HS.out.trans (hB.mono HS.out.size)
      have HS := Lib.hid h0
      clear h0 hB
      obtain ⟨z0, z1, z2, z3, z4, z5⟩ := HT.out.c
      go_wp2_with fail
      clear z0 z1 z2 z3 z4 z5
      have HW := Lib.hid (show Below w6.heap.size w6 w6.drew from (Below.refl _ w6).drew)
      refine wp_region_held_drew (S := fun W => Below w6.heap.size w6 W) (by kernel_rfl) (HW.out) (fun hHeld => ?_)
      refine wpAnyH_take (i := 0) (oi := ⟨some 74, _, _, _, _, none⟩) (v := (.int .i64 bE)) rfl (by kernel_rfl) (by kernel_rfl) (by kernel_rfl) (fun _ _ _ h => h) (Or.inl ⟨by rfl, fun W hW => ?_⟩) (by assumption) ?_
      · go_simp
      simp only [Act.put, List.setIfInBounds_toArray, List.set_cons_zero, List.set_cons_succ]
      refine wpAnyH_take (i := 1) (oi := ⟨some 75, _, _, _, _, none⟩) (v := (.int .i64 bE)) rfl (by kernel_rfl) (by kernel_rfl) (by kernel_rfl) (fun _ _ _ h => h) (Or.inl ⟨by rfl, fun W hW => ?_⟩) (by assumption) ?_
      · go_simp
      simp only [Act.put, List.setIfInBounds_toArray, List.set_cons_zero, List.set_cons_succ]
      refine wpAnyH_take (i := 2) (oi := ⟨some 76, _, _, _, _, none⟩) (v := (.bool true)) rfl (by kernel_rfl) (by kernel_rfl) (by kernel_rfl) (fun _ _ _ h => h) (Or.inl ⟨by rfl, fun W hW => ?_⟩) (by assumption) ?_
      · go_simp
      simp only [Act.put, List.setIfInBounds_toArray, List.set_cons_zero, List.set_cons_succ]
      refine wpAnyH_take (i := 3) (oi := ⟨some 77, _, _, _, _, none⟩) (v := (.bool true)) rfl (by kernel_rfl) (by kernel_rfl) (by kernel_rfl) (fun _ _ _ h => h) (Or.inl ⟨by rfl, fun W hW => ?_⟩) (by assumption) ?_
      · go_simp
      simp only [Act.put, List.setIfInBounds_toArray, List.set_cons_zero, List.set_cons_succ]
      refine wpAnyH_take (i := 4) (oi := ⟨some 78, _, _, _, _, some (3, true)⟩) (v := (.int .i64 qE)) rfl (by kernel_rfl) (by kernel_rfl) (by kernel_rfl) (fun _ _ _ h => h) (Or.inl ⟨by rfl, fun W hW => ?_⟩) (by assumption) ?_
      · go_simp
      simp only [Act.put, List.setIfInBounds_toArray, List.set_cons_zero, List.set_cons_succ]
      refine wpAnyH_take (i := 5) (oi := ⟨some 79, _, _, _, _, some (3, true)⟩) (v := (.int .i64 qE)) rfl (by kernel_rfl) (by kernel_rfl) (by kernel_rfl) (fun _ _ _ h => h) (Or.inl ⟨by rfl, fun W hW => ?_⟩) (by assumption) ?_
      · go_simp
      simp only [Act.put, List.setIfInBounds_toArray, List.set_cons_zero, List.set_cons_succ]
      refine wpAnyH_take (i := 6) (oi := ⟨some 80, _, _, _, _, some (3, true)⟩) (v := (.bool true)) rfl (by kernel_rfl) (by kernel_rfl) (by kernel_rfl) (fun _ _ _ h => h) (Or.inl ⟨by rfl, fun W hW => ?_⟩) (by assumption) ?_
      · go_simp
      simp only [Act.put, List.setIfInBounds_toArray, List.set_cons_zero, List.set_cons_succ]
      refine wpAnyH_take (i := 7) (oi := ⟨some 81, _, _, _, _, none⟩) (v := (.bool true)) rfl (by kernel_rfl) (by kernel_rfl) (by kernel_rfl) (fun _ _ _ h => h) (Or.inl ⟨by rfl, fun W hW => ?_⟩) (by assumption) ?_
      · go_simp
      simp only [Act.put, List.setIfInBounds_toArray, List.set_cons_zero, List.set_cons_succ]
      refine wpAnyH_take (i := 8) (oi := ⟨some 82, _, _, _, _, none⟩) (v := (.bool true)) rfl (by kernel_rfl) (by kernel_rfl) (by kernel_rfl) (fun _ _ _ h => h) (Or.inl ⟨by rfl, fun W hW => ?_⟩) (by assumption) ?_
      · go_simp
      simp only [Act.put, List.setIfInBounds_toArray, List.set_cons_zero, List.set_cons_succ]
      refine wpAnyH_take (i := 9) (oi := ⟨some 83, _, _, _, _, some (8, true)⟩) (v := (.int .i64 qs)) rfl (by kernel_rfl) (by kernel_rfl) (by kernel_rfl) (fun _ _ _ h => h) (Or.inl ⟨by rfl, fun W hW => ?_⟩) (by assumption) ?_
      · go_simp
      simp only [Act.put, List.setIfInBounds_toArray, List.set_cons_zero, List.set_cons_succ]
      refine wpAnyH_take (i := 10) (oi := ⟨some 84, _, _, _, _, some (8, true)⟩) (v := (.int .i64 qs)) rfl (by kernel_rfl) (by kernel_rfl) (by kernel_rfl) (fun _ _ _ h => h) (Or.inl ⟨by rfl, fun W hW => ?_⟩) (by assumption) ?_
      · go_simp
      simp only [Act.put, List.setIfInBounds_toArray, List.set_cons_zero, List.set_cons_succ]
      refine wpAnyH_take (i := 11) (oi := ⟨some 85, _, _, _, _, some (8, true)⟩) (v := (.bool true)) rfl (by kernel_rfl) (by kernel_rfl) (by kernel_rfl) (fun _ _ _ h => h) (Or.inl ⟨by rfl, fun W hW => ?_⟩) (by assumption) ?_
      · go_simp
      simp only [Act.put, List.setIfInBounds_toArray, List.set_cons_zero, List.set_cons_succ]
      refine wpAnyH_take (i := 12) (oi := ⟨some 86, _, _, _, _, none⟩) (v := (.bool true)) rfl (by kernel_rfl) (by kernel_rfl) (by kernel_rfl) (fun _ _ _ h => h) (Or.inl ⟨by rfl, fun W hW => ?_⟩) (by assumption) ?_
      · go_simp
      simp only [Act.put, List.setIfInBounds_toArray, List.set_cons_zero, List.set_cons_succ]
      refine wpAnyH_take (i := 13) (oi := ⟨some 87, _, _, _, _, none⟩) (v := (.bool true)) rfl (by kernel_rfl) (by kernel_rfl) (by kernel_rfl) (fun _ _ _ h => h) (Or.inl ⟨by rfl, fun W hW => ?_⟩) (by assumption) ?_
      · go_simp
      simp only [Act.put, List.setIfInBounds_toArray, List.set_cons_zero, List.set_cons_succ]
      refine wpAnyH_take (i := 14) (oi := ⟨some 88, _, _, _, _, some (13, true)⟩) (v := (.slice a1 bm c1)) rfl (by kernel_rfl) (by kernel_rfl) (by kernel_rfl) (fun _ _ _ h => h) (Or.inl ⟨by rfl, fun W hW => ?_⟩) (by assumption) ?_
      · go_simp
      simp only [Act.put, List.setIfInBounds_toArray, List.set_cons_zero, List.set_cons_succ]
      refine wpAnyH_take (i := 15) (oi := ⟨some 89, _, _, _, _, some (13, true)⟩) (v := (.slice a2 bm c2)) rfl (by kernel_rfl) (by kernel_rfl) (by kernel_rfl) (fun _ _ _ h => h) (Or.inl ⟨by rfl, fun W hW => ?_⟩) (by assumption) ?_
      · go_simp
      simp only [Act.put, List.setIfInBounds_toArray, List.set_cons_zero, List.set_cons_succ]
      refine wpAnyH_ready (rs := [16]) (by kernel_rfl) (by simp) (AllReadyH.cons rfl (fun KK hKK => ?_) AllReadyH.nil)
      go_simp
      refine (sameInts_any a1 a2 bm c1 bm c2 bK bK (by omega) (by omega) _ (hi_own (own_below HO1.out HW.out)).si (hi_own (own_below HO2.out HW.out)).si).mono ?_
      rintro e Y0 ⟨⟨v0, rfl, hv0⟩, hb0⟩
      dsimp only
      have hW0 := HW.out
      have HW := Lib.hid (show (fun W => Below w6.heap.size w6 W) Y0 from hW0.trans (hb0.mono hW0.size))
      clear hW0 hb0
      obtain rfl : v0 = true := hv0.2 ⟨rfl, fun _ _ => rfl⟩
      clear hv0
      refine hKK.out _ _ (HW.out) (fun hHeld => ?_)
      clear hKK KK
      try simp only [Act.put, List.setIfInBounds_toArray, List.set_cons_zero, List.set_cons_succ]
      refine wpAnyH_take (i := 17) (oi := ⟨some 91, _, _, _, _, none⟩) (v := (.bool true)) rfl (by kernel_rfl) (by kernel_rfl) (by kernel_rfl) (fun _ _ _ h => h) (Or.inl ⟨by rfl, fun W hW => ?_⟩) (by assumption) ?_
      · go_simp
      simp only [Act.put, List.setIfInBounds_toArray, List.set_cons_zero, List.set_cons_succ]
      refine wpAnyH_take (i := 18) (oi := ⟨some 92, _, _, _, _, none⟩) (v := (.bool true)) rfl (by kernel_rfl) (by kernel_rfl) (by kernel_rfl) (fun _ _ _ h => h) (Or.inl ⟨by rfl, fun W hW => ?_⟩) (by assumption) ?_
      · go_simp
      simp only [Act.put, List.setIfInBounds_toArray, List.set_cons_zero, List.set_cons_succ]
      refine wpAnyH_take (i := 19) (oi := ⟨some 93, _, _, _, _, some (18, true)⟩) (v := (.agg #[.int .i64 N, .int .i64 M, .int .i64 B, .slice (some ⟨g1, 0, none⟩) nl (nl + 12), .slice (some ⟨g2, 0, none⟩) nv (nv + 12), .slice (some ⟨g3, 0, none⟩) nm (nm + 12)])) rfl (by kernel_rfl) (by kernel_rfl) (by kernel_rfl) (fun _ _ _ h => h) (Or.inl ⟨by rfl, fun W hW => ?_⟩) (by assumption) ?_
      · (obtain ⟨z0, z1, z2, z3, z4, z5⟩ := (HT.out.same hW).c; go_simp; try rfl)
      simp only [Act.put, List.setIfInBounds_toArray, List.set_cons_zero, List.set_cons_succ]
      refine wpAnyH_take (i := 21) (oi := ⟨some 95, _, _, _, _, some (18, true)⟩) (v := (.agg #[.int .i64 N, .int .i64 M, .int .i64 B, .slice la nl lc, .slice va nv vc, .slice wa nm wc])) rfl (by kernel_rfl) (by kernel_rfl) (by kernel_rfl) (fun _ _ _ h => h) (Or.inl ⟨by rfl, fun W hW => ?_⟩) (by assumption) ?_
      · (obtain ⟨z0, z1, z2, z3, z4, z5⟩ := (HX0.out.same (HS.out.trans (hW.mono HS.out.size))).c; go_simp; try rfl)
      simp only [Act.put, List.setIfInBounds_toArray, List.set_cons_zero, List.set_cons_succ]
      refine wpAnyH_ready (rs := [20]) (by kernel_rfl) (by simp) (AllReadyH.cons rfl (fun KK hKK => ?_) AllReadyH.nil)
      go_simp
      refine (HRI.out (some ⟨g1, 0, none⟩) (some ⟨g2, 0, none⟩) (some ⟨g3, 0, none⟩) (nl + 12) (nv + 12) (nm + 12) _ (blk_si _ (HG1.out.same HW.out)) (blk_si _ (HG2.out.same HW.out)) (blk_si _ (HG3.out.same HW.out))).mono ?_
      rintro e Y1 ⟨⟨v1, rfl, hv1⟩, hb1⟩
      dsimp only
      have hW0 := HW.out
      have HW := Lib.hid (show (fun W => Below w6.heap.size w6 W) Y1 from hW0.trans (hb1.mono hW0.size))
      clear hW0 hb1
      refine hKK.out _ _ (HW.out) (fun hHeld => ?_)
      clear hKK KK
      try simp only [Act.put, List.setIfInBounds_toArray, List.set_cons_zero, List.set_cons_succ]
      refine wpAnyH_ready (rs := [22]) (by kernel_rfl) (by simp) (AllReadyH.cons rfl (fun KK hKK => ?_) AllReadyH.nil)
      go_simp
      refine (HTH.out _).mono ?_
      rintro e Y2 ⟨rfl, hb2⟩
      dsimp only
      have hW0 := HW.out
      have HW := Lib.hid (show (fun W => Below w6.heap.size w6 W) Y2 from hW0.trans (hb2.mono hW0.size))
      clear hW0 hb2
      refine hKK.out _ _ (HW.out) (fun hHeld => ?_)
      clear hKK KK
      try simp only [Act.put, List.setIfInBounds_toArray, List.set_cons_zero, List.set_cons_succ]
      refine wpAnyH_ready (rs := [23]) (by kernel_rfl) (by simp) (AllReadyH.cons rfl (fun KK hKK => ?_) AllReadyH.nil)
      go_simp
      refine (HRR.out _ (HLw.out.same (HS.out.trans (HW.out.mono HS.out.size))).si (HVw.out.same (HS.out.trans (HW.out.mono HS.out.size))).si (HWw.out.same (HS.out.trans (HW.out.mono HS.out.size))).si).mono ?_
      rintro e Y3 ⟨⟨v2, rfl, hv2⟩, hb3⟩
      dsimp only
      have hW0 := HW.out
      have HW := Lib.hid (show (fun W => Below w6.heap.size w6 W) Y3 from hW0.trans (hb3.mono hW0.size))
      clear hW0 hb3
      obtain rfl : v1 = v2 := Bool.eq_iff_iff.2 (hv1.trans hv2.symm)
      clear hv1 hv2
      refine hKK.out _ _ (HW.out) (fun hHeld => ?_)
      clear hKK KK
      try simp only [Act.put, List.setIfInBounds_toArray, List.set_cons_zero, List.set_cons_succ]
      refine wpAnyH_take (i := 24) (oi := ⟨some 98, _, _, _, _, some (18, true)⟩) (v := (.bool true)) rfl (by kernel_rfl) (by kernel_rfl) (by kernel_rfl) (fun _ _ _ h => h) (Or.inl ⟨by rfl, fun W hW => ?_⟩) (by assumption) ?_
      · go_simp
      simp only [Act.put, List.setIfInBounds_toArray, List.set_cons_zero, List.set_cons_succ]
      refine wpAnyH_take (i := 25) (oi := ⟨some 99, _, _, _, _, none⟩) (v := (.bool true)) rfl (by kernel_rfl) (by kernel_rfl) (by kernel_rfl) (fun _ _ _ h => h) (Or.inl ⟨by rfl, fun W hW => ?_⟩) (by assumption) ?_
      · go_simp
      simp only [Act.put, List.setIfInBounds_toArray, List.set_cons_zero, List.set_cons_succ]
      refine wpAnyH_ready (rs := [26]) (by kernel_rfl) (by simp) (AllReadyH.cons rfl (fun KK hKK => ?_) AllReadyH.nil)
      go_simp
      refine hKK.out _ _ (HW.out) (fun hHeld => ?_)
      clear hKK KK
      try simp only [Act.put, List.setIfInBounds_toArray, List.set_cons_zero, List.set_cons_succ]
      refine wpAnyH_done (by kernel_rfl) ?_ _
      have hB := HW.out
      clear HW
      have h0 := HG1.out.same hB
      have HG1 := Lib.hid h0
      clear h0
      have h0 := HG2.out.same hB
      have HG2 := Lib.hid h0
      clear h0
      have h0 := HG3.out.same hB
      have HG3 := Lib.hid h0
      clear h0
      have h0 := HT.out.same hB
      have HT := Lib.hid h0
      clear h0
      have h0 := own_below HO1.out hB
      have HO1 := Lib.hid h0
      clear h0
      have h0 := HS.out.trans (hB.mono HS.out.size)
      have HS := Lib.hid h0
      clear h0 hB
      obtain ⟨z0, z1, z2, z3, z4, z5⟩ := HT.out.c
      obtain ⟨x0, x1, x2, x3, x4, x5⟩ := (HX0.out.same HS.out).c
      go_wp2_with fail
      clear z0 z1 z2 z3 z4 z5
      clear x0 x1 x2 x3 x4 x5
      refine (keptInts_any g1 la nl lc L _ (HLw.out.same HS.out) HG1.out (by omega)).mono ?_
      rintro e k1 ⟨rfl, d, hd⟩
      have hB := (by rw [hd]; exact below_drewN (Below.refl _ _) d : Below Y3.heap.size Y3 k1)
      clear hd
      have h0 := HG1.out.same hB
      have HG1 := Lib.hid h0
      clear h0
      have h0 := HG2.out.same hB
      have HG2 := Lib.hid h0
      clear h0
      have h0 := HG3.out.same hB
      have HG3 := Lib.hid h0
      clear h0
      have h0 := HT.out.same hB
      have HT := Lib.hid h0
      clear h0
      have h0 := own_below HO1.out hB
      have HO1 := Lib.hid h0
      clear h0
      have h0 := HS.out.trans (hB.mono HS.out.size)
      have HS := Lib.hid h0
      clear h0 hB
      obtain ⟨z0, z1, z2, z3, z4, z5⟩ := HT.out.c
      obtain ⟨x0, x1, x2, x3, x4, x5⟩ := (HX0.out.same HS.out).c
      go_wp2_with fail
      clear z0 z1 z2 z3 z4 z5
      clear x0 x1 x2 x3 x4 x5
      refine (keptInts_any g2 va nv vc V _ (HVw.out.same HS.out) HG2.out (by omega)).mono ?_
      rintro e k2 ⟨rfl, d, hd⟩
      have hB := (by rw [hd]; exact below_drewN (Below.refl _ _) d : Below k1.heap.size k1 k2)
      clear hd
      have h0 := HG1.out.same hB
      have HG1 := Lib.hid h0
      clear h0
      have h0 := HG2.out.same hB
      have HG2 := Lib.hid h0
      clear h0
      have h0 := HG3.out.same hB
      have HG3 := Lib.hid h0
      clear h0
      have h0 := HT.out.same hB
      have HT := Lib.hid h0
      clear h0
      have h0 := own_below HO1.out hB
      have HO1 := Lib.hid h0
      clear h0
      have h0 := HS.out.trans (hB.mono HS.out.size)
      have HS := Lib.hid h0
      clear h0 hB
      obtain ⟨z0, z1, z2, z3, z4, z5⟩ := HT.out.c
      obtain ⟨x0, x1, x2, x3, x4, x5⟩ := (HX0.out.same HS.out).c
      go_wp2_with fail
      clear z0 z1 z2 z3 z4 z5
      clear x0 x1 x2 x3 x4 x5
      refine (keptInts_any g3 wa nm wc W _ (HWw.out.same HS.out) HG3.out (by omega)).mono ?_
      rintro e k3 ⟨rfl, d, hd⟩
      have hB := (by rw [hd]; exact below_drewN (Below.refl _ _) d : Below k2.heap.size k2 k3)
      clear hd
      have h0 := HG1.out.same hB
      have HG1 := Lib.hid h0
      clear h0
      have h0 := HG2.out.same hB
      have HG2 := Lib.hid h0
      clear h0
      have h0 := HG3.out.same hB
      have HG3 := Lib.hid h0
      clear h0
      have h0 := HT.out.same hB
      have HT := Lib.hid h0
      clear h0
      have h0 := own_below HO1.out hB
      have HO1 := Lib.hid h0
      clear h0
      have h0 := HS.out.trans (hB.mono HS.out.size)
      have HS := Lib.hid h0
      clear h0 hB
      obtain ⟨z0, z1, z2, z3, z4, z5⟩ := HT.out.c
      go_wp2_with fail
      clear z0 z1 z2 z3 z4 z5
      have hk3 := HS.out.size
      refine (Ai.apartInts_any w0.heap.size k3.heap.size 4 4 (ra g1 g2 g3 a1) (rl nl nv nm bm) (rl (nl + 12) (nv + 12) (nm + 12) c1) (rh L V W bK) _ (bag_four HG1.out HG2.out HG3.out (own_mono HO1.out hs9) (by omega) (by omega) (by omega) (by omega) (by omega) (by omega)) (sep_four hl1 hl2 (fun g e => Nat.lt_of_lt_of_le hg39 (own_blk13 HO1.out g e).1)) (by rw [World.size_alloc]; omega) (by rw [World.size_alloc]; omega) (Nat.le_refl _) (by omega) (by omega) (rl_le n1 n2 n3 hbm)).mono ?_
      rintro e k4 ⟨rfl, hB⟩
      have HB4 := Lib.hid (HB0.out.trans ((HS.out.trans (((Below.refl k3.heap.size k3).alloc (Nat.le_refl _) _).mono hk3)).trans hB |>.mono hs0))
      clear hB
      go_wp2_with fail
      refine (HAW.out _).mono ?_
      rintro e k5 ⟨rfl, hB⟩
      have HB5 := Lib.hid (HB4.out.trans (hB.mono HB4.out.size))
      clear hB
      go_wp2
      go_ret
      exact ⟨rfl, HB5.out⟩
end Go.Proofs.Ythkcacnlinajgaa.Pn

namespace Go.Proofs.Ythkcacnlinajgaa.Ly
open Go.RowKit Go.Shelf

section
variable {Pg : Program}
/-- an append, as one step of a region. -/
theorem step_apd {ops : Array Oper} {o : Oper} {act : Act} {w : World} {K : Act → World → Prop} {Q : Exit → Act → World → Prop} {E : Prop} (hgd : o.guard = none) (s x : Operand) (t : TypeId)
    (ho : o.op = .call { callee := .builtin .append, args := #[s, x], argTypes := #[t, t] })
    (base : Nat) (e : TypeId) (i : TypeInfo) (z : Value) (size bytes : Nat) (ht : Pg.underlying t = some (.slice e)) (hi : Pg.info? e = some i) (hz : i.zero = some z)
    (hsize : i.size = size) (hby : i.bytes = bytes) (hzs : z.cells.size = size) (hsz : 0 < size)
    (v : Value) (n : Nat) (xs : List Value) (hs : act.eval s = v) (hown : w.ownsRow base e size v n xs)
    (ad : Addr) (m c : Nat) (news : List Value) (hx : act.eval x = .slice (some ad) m c) (hl : news.length = m * size) (hnews : ∀ j u, news[j]? = some u → w.cell? (ad.add j) = some u) (h1 : ∀ u ∈ news, u.oneCell' = true)
    (h63 : n + m ≤ maxLen) (hbytes : (n + m) * bytes ≤ 140737488355328) (hbase : base ≤ w.heap.size)
    (h : ∀ v' w', w'.ownsRow base e size v' (n + m) (xs ++ news) → w.grownBy w' v.ownBlock → K (act.put o.dst v') w') :
    if Region.wanted o (yielded ops act.tmps) = true then Oper.wp Pg o act w K Q else E := by
  have hw : Region.wanted o (yielded ops act.tmps) = true := by simp [Region.wanted, hgd]
  rw [if_pos hw]
  exact wp_append_own w s x t ho base e i z size bytes ht hi hz hsize hby hzs hsz v n xs hs hown ad m c news hx hl hnews h1 h63 hbytes hbase fun v' w' h2 h3 _ => h v' w' h2 h3
end
theorem cell_new2 (w : World) (u v : Value) (t : TypeId) : ∀ j x, [u, v][j]? = some x → (w.alloc (.cells #[u, v] t)).cell? ((⟨w.heap.size, 0, none⟩ : Addr).add j) = some x := by
  intro j x hx
  have hj : j < 2 := by
    have := (List.getElem?_eq_some_iff.1 hx).1
    simpa using this
  rw [Addr.add_lit, World.cell?_alloc_new]
  rw [← hx]
  rcases (show j = 0 ∨ j = 1 by omega) with rfl | rfl <;> rfl
/-- rows of a table, put into a list. -/
def tdl (K L : Nat → Int) : Nat → List Value
  | 0 => []
  | t + 1 => tdl K L t ++ [.int .i64 (K t), .int .i64 (L t)]
theorem tdl_len (K L : Nat → Int) : ∀ t, (tdl K L t).length = t * 2
  | 0 => rfl
  | t + 1 => by unfold tdl; rw [List.length_append, tdl_len K L t]; simp; omega
theorem tdl_at (K L : Nat → Int) : ∀ t i, i < t → (tdl K L t)[i * 2]? = some (.int .i64 (K i)) ∧ (tdl K L t)[i * 2 + 1]? = some (.int .i64 (L i))
  | 0, i, h => absurd h (Nat.not_lt_zero i)
  | t + 1, i, h => by
    unfold tdl
    have hl := tdl_len K L t
    by_cases e : i = t
    · subst e
      rw [List.getElem?_append_right (by omega), List.getElem?_append_right (by omega), hl, Nat.sub_self, Nat.add_sub_cancel_left]
      exact ⟨rfl, rfl⟩
    · rw [List.getElem?_append_left (by omega), List.getElem?_append_left (by omega)]
      exact tdl_at K L t i (by omega)
theorem tdl_tb {w : World} {B t c : Nat} {a : Option Addr} {K L : Nat → Int} (ho : w.ownsRow B 54 2 (.slice a t c) t (tdl K L t)) : Tb w a t K L ∧ t ≤ c := by
  obtain ⟨_, ⟨e, h0⟩ | ⟨g, cap', cur, e, hg, hh, hnc, hcm, hs, ht⟩⟩ := ho
  · cases e
    exact ⟨⟨fun i hi => absurd hi (Nat.not_lt_zero i)⟩, Nat.le_refl _⟩
  · simp only [Value.slice.injEq, true_and] at e
    obtain ⟨rfl, rfl⟩ := e
    have hat : ∀ j, j < t * 2 → cur[j]? = (tdl K L t)[j]? := fun j hj => by
      rw [← ht, List.getElem?_take, if_pos hj, Array.getElem?_toList]
    refine ⟨⟨fun i hi => ?_⟩, hnc⟩
    obtain ⟨h1, h2⟩ := tdl_at K L t i hi
    refine ⟨g, 0, rfl, ?_, ?_⟩
    · rw [Nat.zero_add, cell_of_row w g _ cur _ _ hh, hat _ (by omega)]; exact h1
    · rw [Nat.zero_add, cell_of_row w g _ cur _ _ hh, hat _ (by omega)]; exact h2
theorem Try.infoTRow : (Try.prog.info? 54).map (fun i => (i.zero, i.size, i.bytes)) = some (some (.agg #[.int .i64 0, .int .i64 0]), 2, 16) := by kernel_rfl
theorem int_ones (x y : Int) : ∀ u ∈ [Value.int .i64 x, Value.int .i64 y], u.oneCell' = true := by
  intro u hu
  rcases List.mem_cons.1 hu with rfl | hu
  · rfl
  · rcases List.mem_singleton.1 hu with rfl; rfl
theorem hdl_cap {w : World} {B t c n : Nat} {e : TypeId} {z : Nat} {a : Option Addr} {xs : List Value} (ho : w.ownsRow B e z (.slice a t c) n xs) : t ≤ c ∧ c ≤ maxLen := by
  obtain ⟨_, ⟨e, h0⟩ | ⟨g, cap', cur, e, hg, hh, hnc, hcm, hs, ht⟩⟩ := ho
  · cases e; exact ⟨Nat.le_refl _, Nat.zero_le _⟩
  · simp only [Value.slice.injEq] at e
    obtain ⟨e1, e2, e3⟩ := e
    subst e3
    exact ⟨by omega, hcm⟩
theorem tab_mono {N : Int} {n : Nat} {K L : Nat → Int} (h : TabOk N n K L) {i : Nat} : ∀ j, i ≤ j → j < n → K i ≤ K j
  | 0, h1, _ => by obtain rfl : i = 0 := by omega
                   exact Int.le_refl _
  | j + 1, h1, h2 => by
    by_cases e : i = j + 1
    · rw [e]; exact Int.le_refl _
    · have h3 := tab_mono h (i := i) j (by omega) (by omega)
      have h4 := (h.2.2.2.2 (j + 1) h2).2.2.2.2 (by omega)
      rw [Nat.add_sub_cancel] at h4
      omega
theorem rdy_iff {N : Int} {n : Nat} {K L : Nat → Int} {came : Int} {mm : Nat} (h : TabOk N n K L) (hr : RdyN n K came mm) {i : Nat} (hi : i < n) : K i ≤ came ↔ i < mm := by
  constructor
  · intro hk
    rcases Nat.lt_or_ge i mm with c | c
    · exact c
    · have h1 := hr.2.2 (Nat.lt_of_le_of_lt c hi)
      have h2 := tab_mono h i c hi
      omega
  · exact hr.2.1 i
end Go.Proofs.Ythkcacnlinajgaa.Ly

namespace Go.Proofs.Ythkcacnlinajgaa.Sz
open Go.RowKit Go.Shelf
open Go.Proofs.Ythkcacnlinajgaa.Ly (TabOk RowOk off off_le off_mono widI widE widI_le width_any lst Tb tdl tdl_tb step_apd int_ones cell_new2)
open Go.Proofs.Ythkcacnlinajgaa.Sp (Bad)

def LenP (n : Nat) (L : Nat → Int) : Prop := 1 ≤ n ∧ n ≤ 8 ∧ ∀ i, i < n → 0 ≤ L i ∧ L i ≤ 65535
def LenSays (n : Nat) (L : Nat → Int) (e : Ending) : Prop := ∃ v : Bool, e = .returned (.bool v) ∧ (v = true ↔ LenP n L)
theorem fit_room {N M B y o : Int} (hB : RB N M B) (ho : 0 ≤ o) (hy : 1 ≤ y) : (18 + 3 * y + o ≤ M ∧ N * (18 + 3 * y + o) ≤ B) ↔ o ≤ roomI N M B y := by
  have := room_top (y := y) (r := o - 1) hB (by omega) hy
  rw [show 18 + 3 * y + (o - 1) + 1 = 18 + 3 * y + o by omega, show o - 1 + 1 = o by omega] at this
  exact this
theorem lenP_of {N : Int} {n : Nat} {K L : Nat → Int} (h : TabOk N n K L) : LenP n L := ⟨h.2.2.1, h.2.2.2.1, fun i hi => ⟨(h.2.2.2.2 i hi).2.2.1, (h.2.2.2.2 i hi).2.2.2.1⟩⟩
theorem FtSays.no {N M B : Int} {n m : Nat} {K L : Nat → Int} (h : ¬ (n = m ∧ FitP N M B n K L)) : FtSays N M B n m K L (.returned (.bool false)) := ⟨false, rfl, fun e => (by cases e), fun e => absurd e h⟩

end Go.Proofs.Ythkcacnlinajgaa.Sz

namespace Go.Proofs.Ythkcacnlinajgaa.Ly
open Go.RowKit Go.Shelf

/-- a row that marks. -/
def mkT (i : Nat) : Int := 8000024 + (i : Int)
theorem markT_any (i : Int) (hi0 : 0 ≤ i) (hi : i ≤ 1000000000000) (w : World) :
    Calls Try.prog 95 #[.int .i64 1, .int .i64 i] w fun e w' => e = .returned (.agg #[.int .i64 (8000024 + i), .int .i64 0]) ∧ Below w.heap.size w w' := by
  have hB := (Below.refl w.heap.size w).alloc (Nat.le_refl _) (.cells #[.int .i64 (8000024 + i), .int .i64 0] 54)
  have HB := Lib.hid hB; clear hB
  go_enter Try.func95, Try.ntmps95
  go_wp2_with fail
  refine (mark_any 1 i (by omega) (by omega) hi0 hi _).mono ?_
  rintro e w' ⟨rfl, hw'⟩
  rw [hw']; clear hw'
  have e8 : (1000003 * (1 + 7) + i : Int) = 8000024 + i := by omega
  rw [e8]
  go_wp2
  exact bodyPost_ret (results_cell_row rfl _ _ w.heap.size _ _ (0, 0) _ rfl (heap_alloc_new w _) Try.underlying54 rfl (by kernel_rfl)) rfl ⟨rfl, HB.out⟩
def tK (K : Nat → Int) (n i : Nat) : Int := if i < n then K i else mkT (i - n)
def tL (L : Nat → Int) (n i : Nat) : Int := if i < n then L i else 0
theorem tdl_congr {K K' L L' : Nat → Int} : ∀ t, (∀ i, i < t → K i = K' i ∧ L i = L' i) → tdl K L t = tdl K' L' t
  | 0, _ => rfl
  | t + 1, h => by
    unfold tdl
    rw [tdl_congr t (fun i hi => h i (by omega)), (h t (by omega)).1, (h t (by omega)).2]
theorem tdl_ones (K L : Nat → Int) : ∀ t, ∀ u ∈ tdl K L t, u.oneCell' = true
  | 0, u, h => by cases h
  | t + 1, u, h => by
    unfold tdl at h
    rcases List.mem_append.1 h with h | h
    · exact tdl_ones K L t u h
    · exact int_ones _ _ u h
theorem tb_news {w : World} {a : Option Addr} {n : Nat} {K L : Nat → Int} (hT : Tb w a n K L) : ∀ ad, a = some ad → ∀ j u, (tdl K L n)[j]? = some u → w.cell? (ad.add j) = some u := fun ad e j u hj => by
  have hjn : j < n * 2 := by have := (List.getElem?_eq_some_iff.1 hj).1; rwa [tdl_len] at this
  obtain ⟨b, o, ea, h1, h2⟩ := hT.cell (j / 2) (by omega)
  obtain ⟨t1, t2⟩ := tdl_at K L n (j / 2) (by omega)
  rw [e] at ea
  cases ea
  rw [Lib.add_plain8]
  rcases Nat.mod_two_eq_zero_or_one j with hm | hm
  · have ej : j / 2 * 2 = j := by omega
    rw [ej] at t1 h1
    rw [hj] at t1
    cases t1; exact h1
  · have ej : j / 2 * 2 + 1 = j := by omega
    rw [Nat.add_assoc, ej] at h2
    rw [ej, hj] at t2
    cases t2; exact h2
end Go.Proofs.Ythkcacnlinajgaa.Ly

namespace Go.Proofs.Ythkcacnlinajgaa.Ly
open Go.RowKit Go.Shelf

end Go.Proofs.Ythkcacnlinajgaa.Ly

namespace Go.Proofs.Ythkcacnlinajgaa.Sz
open Go.RowKit Go.Shelf
open Go.Proofs.Ythkcacnlinajgaa.Ly (TabOk RowOk off off_le off_mono widI widE widI_le width_any lst Tb tdl tdl_tb step_apd int_ones cell_new2)
open Go.Proofs.Ythkcacnlinajgaa.Sp (Bad)

/-- numbers in a block of their own. -/
theorem si_at {w : World} {x n : Nat} {vs : Array Value} {h : Nat → Int} (hx : w.heap[x]? = some (.cells vs 3 (0, 0))) (hv : ∀ i, i < n → vs[i]? = some (.int .i64 (h i))) : Si w (some ⟨x, 0, none⟩) n h := ⟨fun i hi => ⟨x, 0, rfl, by
  rw [Nat.zero_add, cell_of_row w x i vs _ _ hx]; exact hv i hi⟩⟩
theorem two_c {i : Nat} (h : i < 2) : i = 0 ∨ i = 1 := by omega
def aL (i : Nat) : Int := if i = 0 then 40 else 60
def aK (x : Int) (i : Nat) : Int := if i = 0 then x else 4
theorem aw_yes : FitP 4 64 200 2 (aK 4) aL := ⟨by unfold RB; omega, ⟨by decide, by decide, by decide, by decide, fun i hi => by rcases two_c hi with rfl | rfl <;> (unfold RowOk aK aL; decide)⟩, by
  have h1 : off (aK 4) aL 2 = 25 := by decide +kernel
  have h2 : roomI 4 64 200 ((2 : Nat) : Int) = 26 := by decide +kernel
  rw [h1, h2]; decide⟩
theorem aw_no : ¬ FitP 4 64 200 2 (aK 3) aL := fun h => by
  have h1 : off (aK 3) aL 2 = 29 := by decide +kernel
  have h2 : roomI 4 64 200 ((2 : Nat) : Int) = 26 := by decide +kernel
  have := h.2.2
  rw [h1, h2] at this
  revert this; decide
theorem aw_room : roomI 4 64 200 2 = 26 := by decide +kernel

theorem OfSays.form {N : Int} {n : Nat} {K L : Nat → Int} {e : Ending} (h : OfSays N n K L e) : ∃ s E : Int, e = .returned (.tuple #[.int .i64 s, .int .i64 E]) := by
  rcases h with ⟨_, rfl⟩ | ⟨_, rfl⟩ <;> exact ⟨_, _, rfl⟩
theorem OfSays.same {N : Int} {n : Nat} {K L : Nat → Int} {e e2 : Ending} (h : OfSays N n K L e) (h2 : OfSays N n K L e2) : e2 = e := by
  rcases h with ⟨h, rfl⟩ | ⟨h, rfl⟩ <;> rcases h2 with ⟨h2, rfl⟩ | ⟨h2, rfl⟩ <;> first | rfl | exact absurd h2 h | exact absurd h h2
theorem RoomSays.form {N M B y : Int} {e : Ending} (h : RoomSays N M B y e) : ∃ s E : Int, e = .returned (.tuple #[.int .i64 s, .int .i64 E]) := by
  rcases h with ⟨_, rfl⟩ | ⟨_, rfl⟩ <;> exact ⟨_, _, rfl⟩
theorem RoomSays.same {N M B y : Int} {e e2 : Ending} (h : RoomSays N M B y e) (h2 : RoomSays N M B y e2) : e2 = e := by
  rcases h with ⟨h, rfl⟩ | ⟨h, rfl⟩ <;> rcases h2 with ⟨h2, rfl⟩ | ⟨h2, rfl⟩ <;> first | rfl | exact absurd h2 h | exact absurd h h2
theorem bool_same {v v2 : Bool} {P : Prop} (h : v = true ↔ P) (h2 : v2 = true ↔ P) : v2 = v := by
  cases v <;> cases v2 <;> simp_all
end Go.Proofs.Ythkcacnlinajgaa.Sz

namespace Go.Proofs.Ythkcacnlinajgaa.Sz
open Go.RowKit Go.Shelf
open Go.Proofs.Ythkcacnlinajgaa.Ly (TabOk RowOk off off_le off_mono widI widE widI_le width_any lst Tb tdl tdl_tb step_apd int_ones cell_new2 tK tL)
open Go.Proofs.Ythkcacnlinajgaa.Sp (Bad)
attribute [local go_sem] Oper.semAt_some

theorem Tb.cong {w : World} {a : Option Addr} {n : Nat} {K L K' L' : Nat → Int} (s : Tb w a n K L) (hK : ∀ i, i < n → K i = K' i) (hL : ∀ i, i < n → L i = L' i) : Tb w a n K' L' := ⟨fun i hi => by
  obtain ⟨b, o, e, h1, h2⟩ := s.cell i hi
  exact ⟨b, o, e, by rw [← hK i hi]; exact h1, by rw [← hL i hi]; exact h2⟩⟩
theorem blk_si {g n : Nat} {h : Nat → Int} (W : World) (q : Block W g (lentI h n 12) 3) : Si W (some ⟨g, 0, none⟩) n h := ⟨fun i hh => ⟨g, 0, rfl, by rw [Nat.zero_add]; exact q.cell (lentI_lo hh)⟩⟩

end Go.Proofs.Ythkcacnlinajgaa.Sz

namespace Go.Proofs.Ythkcacnlinajgaa.Sz
open Go.RowKit Go.Shelf
open Go.Proofs.Ythkcacnlinajgaa.Ly (TabOk RowOk off off_le off_mono widI widE widI_le widI_ok width_any lst Tb tdl tdl_tb step_apd int_ones cell_new2 NumSays lLong_any)
open Go.Proofs.Ythkcacnlinajgaa.Sp (Bad wid wid_least wid_hi)
attribute [local go_sem] Oper.semAt_some

/-- greater thresholds need no more room. -/
theorem widI_mono {L k k' : Int} (hb : ¬ Bad L k) (hk : k ≤ k') (h5 : k' ≤ 255) : widI L k' ≤ widI L k := by
  have hb' := hb
  unfold Bad at hb'
  have hb2 : ¬ Bad L k' := by unfold Bad; omega
  rw [widI_ok hb, widI_ok hb2]
  exact wid_least (by omega) (Nat.le_trans (wid_hi (show 1 ≤ k.toNat by omega)) (Nat.mul_le_mul_right _ (by omega)))
theorem off_less {N : Int} (h5 : N ≤ 255) {K K' L : Nat → Int} : ∀ n, (∀ i, i < n → RowOk N K L i) → (∀ i, i < n → K i ≤ K' i ∧ K' i ≤ N) → off K' L n ≤ off K L n
  | 0, _, _ => Nat.le_refl _
  | n + 1, hr, hk => by
    show off K' L n + widI (L n) (K' n) ≤ off K L n + widI (L n) (K n)
    have h1 := off_less h5 n (fun i hi => hr i (by omega)) (fun i hi => hk i (by omega))
    have h2 := hr n (by omega)
    have h3 := hk n (by omega)
    have h4 := widI_mono (L := L n) (k := K n) (k' := K' n) (by unfold Bad; unfold RowOk at h2; omega) h3.1 (by omega)
    omega
theorem tab_all {N : Int} {n : Nat} {K L : Nat → Int} (h : TabOk N n K L) : TabOk N n (fun _ => N) L :=
  ⟨h.1, h.2.1, h.2.2.1, h.2.2.2.1, fun i hi => by
    have := h.2.2.2.2 i hi
    have h0 := h.1
    unfold RowOk at this ⊢
    exact ⟨h0, Int.le_refl _, this.2.2.1, this.2.2.2.1, fun _ => Int.le_refl _⟩⟩
/-- if some fit, the greatest do. -/
theorem fit_all {N M B : Int} {n : Nat} {K L : Nat → Int} (h : FitP N M B n K L) : FitP N M B n (fun _ => N) L := by
  refine ⟨h.1, tab_all h.2.1, Int.le_trans ?_ h.2.2⟩
  have := off_less (N := N) (K := K) (K' := fun _ => N) (L := L) h.2.1.2.1 n h.2.1.2.2.2.2 (fun i hi => ⟨(h.2.1.2.2.2.2 i hi).2.1, Int.le_refl _⟩)
  omega

end Go.Proofs.Ythkcacnlinajgaa.Sz

namespace Go.Proofs.Ythkcacnlinajgaa.Sz
open Go.RowKit Go.Shelf
open Go.Proofs.Ythkcacnlinajgaa.Ly (TabOk RowOk off off_le off_mono widI widE widI_le widI_ok width_any lst Tb tdl tdl_tb step_apd int_ones cell_new2)
open Go.Proofs.Ythkcacnlinajgaa.Sp (Bad wid wid_least wid_hi)
attribute [local go_sem] Oper.semAt_some

theorem widI_more {L L' k k' : Int} (hb : ¬ Bad L k) (h0 : 0 ≤ L') (hL : L' ≤ L) (hk : k ≤ k') (h5 : k' ≤ 255) : widI L' k' ≤ widI L k := by
  have hb' := hb
  unfold Bad at hb'
  have hb2 : ¬ Bad L' k' := by unfold Bad; omega
  rw [widI_ok hb, widI_ok hb2]
  exact wid_least (by omega) (Nat.le_trans (show L'.toNat ≤ L.toNat by omega) (Nat.le_trans (wid_hi (show 1 ≤ k.toNat by omega)) (Nat.mul_le_mul_right _ (by omega))))
theorem off_more {N : Int} (h5 : N ≤ 255) {K K' L L' : Nat → Int} : ∀ n, (∀ i, i < n → RowOk N K L i) → (∀ i, i < n → K i ≤ K' i ∧ K' i ≤ N) → (∀ i, i < n → 0 ≤ L' i ∧ L' i ≤ L i) → off K' L' n ≤ off K L n
  | 0, _, _, _ => Nat.le_refl _
  | n + 1, hr, hk, hl => by
    show off K' L' n + widI (L' n) (K' n) ≤ off K L n + widI (L n) (K n)
    have h1 := off_more h5 n (fun i hi => hr i (by omega)) (fun i hi => hk i (by omega)) (fun i hi => hl i (by omega))
    have h2 := hr n (by omega)
    have h3 := hk n (by omega)
    have h6 := hl n (by omega)
    have h4 := widI_more (L := L n) (L' := L' n) (k := K n) (k' := K' n) (by unfold Bad; unfold RowOk at h2; omega) h6.1 h6.2 h3.1 (by omega)
    omega
/-- what fits, fits with more room, greater thresholds, shorter layers. -/
theorem fit_more {N M B M' B' : Int} {n : Nat} {K K' L L' : Nat → Int} (h : FitP N M B n K L) (hB : RB N M' B') (hM : M ≤ M') (hBB : B ≤ B') (hK : ∀ i, i < n → K i ≤ K' i ∧ K' i ≤ N) (hm : ∀ i, i < n → 0 < i → K' (i - 1) ≤ K' i) (hL : ∀ i, i < n → 0 ≤ L' i ∧ L' i ≤ L i) : FitP N M' B' n K' L' := by
  have hr := h.2.1.2.2.2.2
  refine ⟨hB, ⟨h.2.1.1, h.2.1.2.1, h.2.1.2.2.1, h.2.1.2.2.2.1, fun i hi => ?_⟩, ?_⟩
  · have h1 := hr i hi
    have h2 := hK i hi
    have h3 := hL i hi
    unfold RowOk at h1 ⊢
    exact ⟨by omega, by omega, h3.1, by omega, hm i hi⟩
  · have h1 := off_more (N := N) h.2.1.2.1 n hr hK hL
    have h2 : roomI N M B n ≤ roomI N M' B' n := by
      have h3 : B / N ≤ B' / N := Int.ediv_le_ediv (by have := h.2.1.1; omega) hBB
      unfold roomI
      omega
    have h3 := h.2.2
    omega
/-- numbers in a block that may go on behind them. -/
def Bj (w : World) (g n : Nat) (h : Nat → Int) : Prop := ∃ vs : Array Value, w.heap[g]? = some (.cells vs 3 (0, 0)) ∧ n ≤ vs.size ∧ ∀ i, i < n → vs[i]? = some (.int .i64 (h i))
theorem Bj.lt {w : World} {g n : Nat} {h : Nat → Int} (b : Bj w g n h) : g < w.heap.size := by
  obtain ⟨vs, h1, _⟩ := b
  exact (Array.getElem?_eq_some_iff.1 h1).1
theorem Bj.kept {w w' : World} {g n : Nat} {h : Nat → Int} (b : Bj w g n h) (hk : w'.heap[g]? = w.heap[g]?) : Bj w' g n h := by
  obtain ⟨vs, h1, h2⟩ := b
  exact ⟨vs, hk.trans h1, h2⟩
theorem Bj.same {w w' : World} {g n : Nat} {h : Nat → Int} (b : Bj w g n h) (hB : Below w.heap.size w w') : Bj w' g n h := b.kept (hB.block _ b.lt)
theorem Bj.cell {w : World} {g n : Nat} {h : Nat → Int} (b : Bj w g n h) {i : Nat} (hi : i < n) : w.cell? ⟨g, i, none⟩ = some (.int .i64 (h i)) := by
  obtain ⟨vs, h1, h2, h3⟩ := b
  rw [cell_of_row w g i vs _ _ h1]; exact h3 i hi
theorem Bj.free {w : World} {g n : Nat} {h : Nat → Int} (b : Bj w g n h) (i : Nat) : w.frozen? ⟨g, i, none⟩ = false := by
  obtain ⟨vs, h1, _⟩ := b
  exact frozen_of_row w g i vs _ h1
theorem Bj.set {w : World} {g n : Nat} {h : Nat → Int} (b : Bj w g n h) {j : Nat} (hj : j < n) (v : Int) : Bj (w.setCell ⟨g, j, none⟩ (.int .i64 v)) g n (fun i => if i = j then v else h i) := by
  obtain ⟨vs, h1, h2, h3⟩ := b
  refine ⟨vs.setIfInBounds j (.int .i64 v), heap_setCell_same w g j vs _ _ h1, by simpa using h2, fun i hi => ?_⟩
  rw [Array.getElem?_setIfInBounds]
  show _ = some (Value.int .i64 (if i = j then v else h i))
  by_cases e : j = i
  · subst e; rw [if_pos rfl, if_pos (by omega), if_pos rfl]
  · rw [if_neg e, if_neg (fun q => e q.symm)]; exact h3 i hi
theorem Bj.si {w : World} {g n : Nat} {h : Nat → Int} (b : Bj w g n h) : Si w (some ⟨g, 0, none⟩) n h := ⟨fun i hi => ⟨g, 0, rfl, by rw [Nat.zero_add]; exact b.cell hi⟩⟩
theorem bj_of_own {w : World} {B n c : Nat} {a : Option Addr} {h : Nat → Int} (ho : w.ownsRow B 3 1 (.slice a n c) n (inh h n)) (hn : 0 < n) : ∃ g, a = some ⟨g, 0, none⟩ ∧ B ≤ g ∧ Bj w g n h := by
  obtain ⟨hlen, ⟨e, h0⟩ | ⟨g, cap', cur, e, hg, hh, hnc, hcm, hs, ht⟩⟩ := ho
  · omega
  · simp only [Value.slice.injEq, true_and] at e
    obtain ⟨rfl, rfl⟩ := e
    refine ⟨g, rfl, hg, cur, hh, by omega, fun i hi => ?_⟩
    have : (cur.toList.take (n * 1))[i]? = some (.int .i64 (h i)) := by rw [ht]; simp [inh, hi]
    rw [List.getElem?_take, if_pos (by omega), Array.getElem?_toList] at this
    exact this
/-- the bounds that are written on. -/
def Bx (w : World) (g : Nat) (N M B : Int) : Prop := w.heap[g]? = some (.cells #[.int .i64 N, .int .i64 M, .int .i64 B] 23 (0, 0))
theorem Bx.lt {w : World} {g : Nat} {N M B : Int} (b : Bx w g N M B) : g < w.heap.size := (Array.getElem?_eq_some_iff.1 b).1
theorem Bx.same {w w' : World} {g : Nat} {N M B : Int} (b : Bx w g N M B) (hB : Below w.heap.size w w') : Bx w' g N M B := (hB.block _ b.lt).trans b
theorem Bx.c {w : World} {g : Nat} {N M B : Int} (b : Bx w g N M B) : w.cell? ⟨g, 0, none⟩ = some (.int .i64 N) ∧ w.cell? ⟨g, 1, none⟩ = some (.int .i64 M) ∧ w.cell? ⟨g, 2, none⟩ = some (.int .i64 B) := box3 b
theorem Bx.free {w : World} {g : Nat} {N M B : Int} (b : Bx w g N M B) (i : Nat) : w.frozen? ⟨g, i, none⟩ = false := frozen_of_row w g i _ _ b
theorem Bx.set1 {w : World} {g : Nat} {N M B : Int} (b : Bx w g N M B) (v : Int) : Bx (w.setCell ⟨g, 1, none⟩ (.int .i64 v)) g N v B := heap_setCell_same w g 1 _ _ _ b
theorem Bx.set2 {w : World} {g : Nat} {N M B : Int} (b : Bx w g N M B) (v : Int) : Bx (w.setCell ⟨g, 2, none⟩ (.int .i64 v)) g N M v := heap_setCell_same w g 2 _ _ _ b
theorem Bx.past {w : World} {g g' i : Nat} {N M B : Int} {v : Value} (b : Bx w g N M B) (h : g ≠ g') : Bx (w.setCell ⟨g', i, none⟩ v) g N M B := (Below.heap_setCell w ⟨g', i, none⟩ v g h).trans b

end Go.Proofs.Ythkcacnlinajgaa.Sz

namespace Go.Proofs.Ythkcacnlinajgaa.Pn
open Go.RowKit Go.Shelf
open Go.Proofs.Ythkcacnlinajgaa.Ly (RowOk)
open Go.Proofs.Ythkcacnlinajgaa.Sz (RB roomI FitP bV box3 FtSays fits_any fit_more)
open Go.Proofs.Ythkcacnlinajgaa.Wg (RW BoSays SmI sc hi_own own_slice own_below better_any BtSays Btr FitW)
attribute [local go_sem] Oper.semAt_some

theorem fit_allN {N M B : Int} {n : Nat} {K L : Nat → Int} (h : FitP N M B n K L) : FitP N M B n (fun _ => N) L := by
  have hr := h.2.1.2.2.2.2
  exact fit_more h h.1 (Int.le_refl _) (Int.le_refl _) (fun i hi => ⟨by have := hr i hi; unfold RowOk at this; omega, Int.le_refl _⟩) (fun _ _ _ => Int.le_refl _) (fun i hi => ⟨by have := hr i hi; unfold RowOk at this; omega, Int.le_refl _⟩)
/-- what Better tells of thresholds that fit, against the best ones. -/
theorem not_better {N M B : Int} {n nv nm : Nat} {L V W K K' : Nat → Int} {e : Ending} (hT : TR N M B n nv nm L V W) (hI : IsBest N M B n L V W K) (hf : FitP N M B n K' L) (h : BtSays nv n n nm V K' K W e) : e = .returned (.tuple #[.bool false, .int .i64 0]) := by
  rcases h with ⟨hno, _⟩ | ⟨_, v, rfl, hv⟩
  · exact absurd ⟨fit_w hT hf, fit_w hT hI.1⟩ hno
  · cases v
    · rfl
    · have := hv.1 rfl
      rw [hT.2.2.1] at this
      exact absurd this (hI.2 K' hf)
set_option maxHeartbeats 8000000 in
set_option maxRecDepth 100000 in
theorem planNone_any (hri : PRight) (hbe : PBest) (N M B : Int) (la va wa ka : Option Addr) (nl lc nv vc nm wc nk kc : Nat) (L V W K0 : Nat → Int) (h1 : nl ≤ 140737488355328) (h2 : nv ≤ 140737488355328) (h3 : nm ≤ 140737488355328) (h4 : nk ≤ 140737488355328) (w : World) (hL : Hi w la nl lc L) (hV : Hi w va nv vc V) (hW : Hi w wa nm wc W) (hK : Hi w ka nk kc K0) :
    Calls Try.prog 5 #[tV N M B la nl lc va nv vc wa nm wc, .slice ka nk kc] w fun e w' => e = .returned (.bool true) ∧ Below w.heap.size w w' := by
  have HL := Lib.hid hL.si; have HV := Lib.hid hV.si; have HW := Lib.hid hW.si; have HK := Lib.hid hK.si
  have HAW := Lib.hid (awake13_any hbe)
  have HRI := Lib.hid (fun w hL hV hW => hri N M B la va wa nl lc nv vc nm wc L V W h1 h2 h3 w hL hV hW)
  have HBE := Lib.hid (fun w hL hV hW => hbe N M B la va wa nl lc nv vc nm wc L V W h1 h2 h3 w hL hV hW)
  have HFT := Lib.hid (fun (ka : Option Addr) (m kc : Nat) (K : Nat → Int) w hL hK => fits_any N M B la ka nl lc m kc K L h1 w hL hK)
  unfold bV at HFT
  unfold tV at HRI HBE ⊢
  obtain ⟨i3, hi, hz0, hz1, hz2⟩ := info_parts Try.infoInt2
  have HI := Lib.hid hi; have HZ0 := Lib.hid hz0; have HZ1 := Lib.hid hz1; have HZ2 := Lib.hid hz2
  obtain ⟨w0, hw0⟩ : ∃ w0, w0 = w.alloc (.cells #[.int .i64 N, .int .i64 M, .int .i64 B, .slice la nl lc, .slice va nv vc, .slice wa nm wc] 26) := ⟨_, rfl⟩
  have HX0 := Lib.hid (show TAt w0 w.heap.size 26 N M B la nl lc va nv vc wa nm wc from by rw [hw0]; exact heap_alloc_new _ _)
  have HB0 := Lib.hid (show Below w.heap.size w w0 from by rw [hw0]; exact (Below.refl w.heap.size w).alloc (Nat.le_refl _) _)
  have HW0 := Lib.hid hw0
  have hs0 := HB0.out.size
  clear hL hV hW hK hw0 hi hz0 hz1 hz2 hri hbe
  go_enter Try.func5, Try.ntmps5
  go_wp2_with fail
  rw [← HW0.out]
  refine (HAW.out _).mono ?_
  rintro e w1 ⟨rfl, hB⟩
  have HB1 := Lib.hid hB
  clear hB HW0 HAW
  obtain ⟨c0, c1, c2, c3, c4, c5⟩ := (HX0.out.same HB1.out).c
  by_cases hbig : 700 < nl + nv + nm + nk
  · have i1 : (700 : Int) < (nl : Int) + (nv : Int) + (nm : Int) + (nk : Int) := by omega
    go_wp2
    go_ret
    exact ⟨rfl, HB0.out.trans (HB1.out.mono hs0)⟩
  have i1 : ¬ (700 : Int) < (nl : Int) + (nv : Int) + (nm : Int) + (nk : Int) := by omega
  have HBa := Lib.hid (HB0.out.trans (HB1.out.mono hs0))
  go_wp2_with fail
  clear c0 c1 c2 c3 c4 c5 i1
  refine (HBE.out _ (HL.out.same HBa.out) (HV.out.same HBa.out) (HW.out.same HBa.out)).mono ?_
  rintro e w2 ⟨hbs, hB⟩
  have HBS := Lib.hid hbs
  have HB2 := Lib.hid (HB1.out.trans (hB.mono HB1.out.size))
  have HBb := Lib.hid (HB0.out.trans (HB2.out.mono hs0))
  obtain ⟨ba, bn, bc, E, rfl⟩ : ∃ (ba : Option Addr) (bn bc : Nat) (E : Int), e = .returned (.tuple #[.slice ba bn bc, .int .i64 E]) := by
    rcases hbs with ⟨_, rfl⟩ | ⟨_, _, rfl⟩ | ⟨_, a, c, K, rfl, _⟩
    · exact ⟨_, _, _, _, rfl⟩
    · exact ⟨_, _, _, _, rfl⟩
    · exact ⟨_, _, _, _, rfl⟩
  clear hbs hB HB1 HBa HBE
  obtain ⟨c0, c1, c2, c3, c4, c5⟩ := (HX0.out.same HB2.out).c
  go_wp2_with fail
  clear c0 c1 c2 c3 c4 c5
  refine (HRI.out _ (HL.out.same HBb.out) (HV.out.same HBb.out) (HW.out.same HBb.out)).mono ?_
  rintro e w3 ⟨⟨v, rfl, hv⟩, hB⟩
  have HVV := Lib.hid hv
  have HB3 := Lib.hid (HB2.out.trans (hB.mono HB2.out.size))
  have HBc := Lib.hid (HB0.out.trans (HB3.out.mono hs0))
  have HB23 := Lib.hid hB
  clear hv hB HRI
  cases v
  · rcases HBS.out with ⟨_, he⟩ | ⟨hT, _⟩ | ⟨hT, _⟩
    rotate_left
    · exact absurd (HVV.out.2 hT) (by simp)
    · exact absurd (HVV.out.2 hT) (by simp)
    simp only [Ending.returned.injEq, Value.tuple.injEq, Array.mk.injEq, List.cons.injEq, Value.slice.injEq, Value.int.injEq, true_and, and_true] at he
    obtain ⟨⟨rfl, rfl, rfl⟩, rfl⟩ := he
    clear HBS HVV
    go_wp2
    go_ret
    exact ⟨rfl, HBc.out⟩
  have HT := Lib.hid (show TR N M B nl nv nm L V W by first | exact HVV.out.1 rfl | exact HVV.out.1 trivial)
  clear HVV
  obtain ⟨c0, c1, c2, c3, c4, c5⟩ := (HX0.out.same HB3.out).c
  go_wp2_with fail
  clear c0 c1 c2 c3 c4 c5
  refine (HFT.out ka nk kc K0 _ (HL.out.same HBc.out) (HK.out.same HBc.out)).mono ?_
  rintro e w4 ⟨⟨v0, rfl, hv0⟩, hB⟩
  have HV0 := Lib.hid hv0
  have HB4 := Lib.hid (HB3.out.trans (hB.mono HB3.out.size))
  have HB24 := Lib.hid (HB23.out.trans (hB.mono HB23.out.size))
  clear hv0 hB HB3 HBc HB23
  have hn8 := HT.out.2.1
  go_wp2_with fail
  go_loopw [8, 9] (fun o i wr => ∃ (k : Nat) (a : Option Addr) (c : Nat), k ≤ nl ∧ i = .int .i64 (k : Nat) ∧ o = .slice a k c ∧ wr.ownsRow w4.heap.size 3 1 (.slice a k c) k (inh (fun _ => N) k) ∧ Below w4.heap.size w4 wr) (fun _ i _ => nl - (intOf i).toNat)
  case atStart => exact ⟨0, none, 0, by omega, rfl, rfl, World.ownsRow_nil _ _ _ _, Below.refl _ _⟩
  case round =>
    obtain ⟨k, a, c, hk, rfl, rfl, hO, hB⟩ := hrel
    obtain ⟨wq, rfl⟩ : ∃ wq, wq = wr := ⟨_, rfl⟩
    have HO := Lib.hid hO; have HB := Lib.hid hB
    have HBq := Lib.hid (HB4.out.trans (hB.mono HB4.out.size))
    have hsz := hB.size
    clear hO hB
    obtain ⟨c0, c1, c2, c3, c4, c5⟩ := (HX0.out.same HBq.out).c
    by_cases hkn : k < nl
    · have i1 : (k : Int) < (nl : Int) := by omega
      have hal : Below wq.heap.size wq (wq.alloc (.cells #[.int .i64 N] 3)) := (Below.refl _ wq).alloc (Nat.le_refl _) _
      have HOX := Lib.hid (own_below HO.out hal)
      have HBX := Lib.hid (HB.out.trans (hal.mono hsz))
      have hbase : w4.heap.size ≤ (wq.alloc (.cells #[.int .i64 N] 3)).heap.size := HBX.out.size
      have i5 : k ≤ 8 := by omega
      have HIN := Lib.hid (inh_s (fun _ => N) k)
      clear hal c4 c5 c1 c2
      go_wp2_with (at_builtin; refine wpList_append_own _ rfl _ _ 24 rfl w4.heap.size 3 i3 (.int .i64 0) 1 8 Try.underlying24 HI.out HZ0.out HZ1.out HZ2.out rfl (by decide) (.slice a k c) k (inh (fun _ => N) k) rfl HOX.out ⟨wq.heap.size, 0, none⟩ 1 1 [.int .i64 N] rfl rfl (cell_single _ _ _) (one_single _ _) (by unfold maxLen; omega) (by omega) hbase ?_; intro v9 w9 hown9 hgrow9 _; have HB9 := Lib.hid (HBX.out.grown hgrow9 hbase (fun j h => (HOX.out.lt j h).1)); obtain ⟨a9, c9, rfl⟩ := own_slice hown9; have HO9 := Lib.hid (show w9.ownsRow w4.heap.size 3 1 (.slice a9 (k + 1) c9) (k + 1) (inh (fun _ => N) (k + 1)) by rw [HIN.out]; exact hown9); clear hown9 hgrow9)
      refine ⟨⟨k + 1, a9, c9, by omega, by go_num, rfl, HO9.out, HB9.out⟩, ?_⟩
      simp [intOf]; omega
    · obtain rfl : k = nl := by omega
      have i1 : ¬ (k : Int) < (k : Int) := by omega
      have HB24q := Lib.hid (HB24.out.trans (HB.out.mono HB24.out.size))
      have HAL := Lib.hid (hi_own HO.out).si
      have HBw := Lib.hid (HB0.out.trans (HBq.out.mono hs0))
      clear HO HB HB4 HB24
      rcases HBS.out with ⟨hno, _⟩ | ⟨_, hno, he⟩ | ⟨_, ab, cb, K, he, hib, hob⟩
      · exact absurd HT.out hno
      · -- nothing fits
        simp only [Ending.returned.injEq, Value.tuple.injEq, Array.mk.injEq, List.cons.injEq, Value.slice.injEq, Value.int.injEq, true_and, and_true] at he
        obtain ⟨⟨rfl, rfl, rfl⟩, rfl⟩ := he
        have HNO := Lib.hid hno
        obtain rfl : v0 = false := by
          cases v0
          · rfl
          · exact absurd (HV0.out.1 rfl).2 (hno _)
        clear hno HBS HV0
        go_wp2_with fail
        clear c0 c1 c2 c3 c4 c5
        refine (HFT.out a k c (fun _ => N) _ (HL.out.same HBw.out) HAL.out).mono ?_
        rintro e w5 ⟨⟨v, rfl, hv⟩, hB⟩
        obtain rfl : v = false := by
          cases v
          · rfl
          · exact absurd (hv.1 rfl).2 (HNO.out _)
        have HB5 := Lib.hid (HBw.out.trans (hB.mono HBw.out.size))
        clear hv hB
        go_wp2
        go_ret
        exact ⟨rfl, HB5.out⟩
      · -- the best ones
        simp only [Ending.returned.injEq, Value.tuple.injEq, Array.mk.injEq, List.cons.injEq, Value.slice.injEq, Value.int.injEq, true_and, and_true] at he
        obtain ⟨⟨rfl, rfl, rfl⟩, rfl⟩ := he
        have HIB := Lib.hid hib
        have HKB := Lib.hid ((hi_own hob).si.same HB24q.out)
        clear hib hob HBS HB24q
        go_wp2_with fail
        clear c0 c1 c2 c3 c4 c5
        refine (HFT.out a bn c (fun _ => N) _ (HL.out.same HBw.out) HAL.out).mono ?_
        rintro e w5 ⟨⟨v, rfl, hv⟩, hB⟩
        obtain rfl : v = true := hv.2 ⟨rfl, fit_allN HIB.out.1⟩
        have HB5 := Lib.hid (HBq.out.trans (hB.mono HBq.out.size)); have HAL5 := Lib.hid (HAL.out.same hB); have HKB5 := Lib.hid (HKB.out.same hB)
        have HB5w := Lib.hid (HB0.out.trans (HB5.out.mono hs0))
        clear hv hB HAL HKB HBq HBw
        obtain ⟨c0, c1, c2, c3, c4, c5⟩ := (HX0.out.same HB5.out).c
        go_wp2_with fail
        clear c0 c1 c2 c3 c4 c5
        refine (HFT.out ba bn bc K _ (HL.out.same HB5w.out) HKB5.out).mono ?_
        rintro e w6 ⟨⟨v, rfl, hv⟩, hB⟩
        obtain rfl : v = true := hv.2 ⟨rfl, HIB.out.1⟩
        have HB6 := Lib.hid (HB5.out.trans (hB.mono HB5.out.size)); have HAL6 := Lib.hid (HAL5.out.same hB); have HKB6 := Lib.hid (HKB5.out.same hB)
        have HB6w := Lib.hid (HB0.out.trans (HB6.out.mono hs0))
        clear hv hB HAL5 HKB5 HB5 HB5w
        obtain ⟨c0, c1, c2, c3, c4, c5⟩ := (HX0.out.same HB6.out).c
        go_wp2_with fail
        clear c0 c1 c2 c3 c4 c5
        refine (better_any va a ba wa nv vc bn c bn bc nm wc V (fun _ => N) K W h2 h1 h1 h3 _ (HV.out.same HB6w.out) HAL6.out HKB6.out (HW.out.same HB6w.out)).mono ?_
        rintro e w7 ⟨hbt, hB⟩
        obtain rfl := not_better HT.out HIB.out (fit_allN HIB.out.1) hbt
        have HB7 := Lib.hid (HB6.out.trans (hB.mono HB6.out.size)); have HKB7 := Lib.hid (HKB6.out.same hB)
        have HB7w := Lib.hid (HB0.out.trans (HB7.out.mono hs0))
        clear hbt hB HAL6 HKB6 HB6 HB6w
        cases v0
        · clear HV0
          go_wp2
          go_ret
          exact ⟨rfl, HB7w.out⟩
        · obtain ⟨hnk, hfk⟩ := (show bn = nk ∧ FitP N M B bn K0 L by first | exact HV0.out.1 rfl | exact HV0.out.1 trivial)
          subst hnk
          have HFK := Lib.hid hfk
          clear hfk HV0
          obtain ⟨c0, c1, c2, c3, c4, c5⟩ := (HX0.out.same HB7.out).c
          go_wp2_with fail
          clear c0 c1 c2 c3 c4 c5
          refine (better_any va ka ba wa nv vc bn kc bn bc nm wc V K0 K W h2 h1 h1 h3 _ (HV.out.same HB7w.out) (HK.out.same HB7w.out) HKB7.out (HW.out.same HB7w.out)).mono ?_
          rintro e w8 ⟨hbt, hB⟩
          obtain rfl := not_better HT.out HIB.out HFK.out hbt
          have HB8 := Lib.hid (HB7w.out.trans (hB.mono HB7w.out.size))
          clear hbt hB
          go_wp2
          go_ret
          exact ⟨rfl, HB8.out⟩
end Go.Proofs.Ythkcacnlinajgaa.Pn

namespace Go.Proofs.Ythkcacnlinajgaa.Pn
open Go.RowKit Go.Shelf
open Go.Proofs.Ythkcacnlinajgaa.Sz (RB roomI FitP fit_more)
open Go.Proofs.Ythkcacnlinajgaa.Wg (RW sc Btr Ahd beh)
open Go.Proofs.Ythkcacnlinajgaa.Ly (off)

theorem more_fit {N M B M' B' : Int} {n : Nat} {K L : Nat → Int} (h : FitP N M B n K L) (hB : RB N M' B') (hM : M ≤ M') (hBB : B ≤ B') : FitP N M' B' n K L := by
  have hr := h.2.1.2.2.2.2
  exact fit_more h hB hM hBB (fun i hi => ⟨Int.le_refl _, (hr i hi).2.1⟩) (fun i hi h0 => (hr i hi).2.2.2.2 h0) (fun i hi => ⟨(hr i hi).2.2.1, Int.le_refl _⟩)
/-- greater bounds: the score does not sink. -/
theorem more_score {N M B M' B' : Int} {n : Nat} {L V W K K2 : Nat → Int} (hI : IsBest N M B n L V W K) (hB : RB N M' B') (hM : M ≤ M') (hBB : B ≤ B') (hI2 : IsBest N M' B' n L V W K2) : sc V K W n ≤ sc V K2 W n :=
  Int.not_lt.1 fun e => hI2.2 K (more_fit hI.1 hB hM hBB) (Or.inl e)
/-- what fits, fits where there is just room for it. -/
theorem tight_ok {N M B z : Int} {n : Nat} {K L : Nat → Int} (h : FitP N M B n K L) (hz : z = 18 + 3 * (n : Int) + (off K L n : Nat)) : RB N (max z 64) (z * N) ∧ max z 64 ≤ M ∧ z * N ≤ B ∧ FitP N (max z 64) (z * N) n K L := by
  obtain ⟨⟨hN, hM, hB⟩, hT, hr⟩ := h
  have hN0 : 0 < N := by omega
  unfold roomI at hr
  have hd : z ≤ B / N := by omega
  have hm : z ≤ M := by omega
  have hzb : z * N ≤ B := (Int.le_ediv_iff_mul_le hN0).1 hd
  have hz1 : 1 ≤ z * N := Int.mul_pos (show 0 < z by omega) hN0
  have hRB : RB N (max z 64) (z * N) := ⟨hN, by omega, hz1, by omega⟩
  refine ⟨hRB, by omega, hzb, hRB, hT, ?_⟩
  unfold roomI
  rw [Int.mul_ediv_cancel _ (by omega : N ≠ 0)]
  omega
theorem tight_best {N M B z : Int} {n : Nat} {L V W K : Nat → Int} (h : IsBest N M B n L V W K) (hz : z = 18 + 3 * (n : Int) + (off K L n : Nat)) : IsBest N (max z 64) (z * N) n L V W K := by
  obtain ⟨h1, h2, h3, h4⟩ := tight_ok h.1 hz
  exact ⟨h4, fun K' hf => h.2 K' (more_fit hf h.1.1 h2 h3)⟩
theorem even_rw {N : Int} {nm : Nat} (hN : 1 ≤ N ∧ N ≤ 255) (hm : (nm : Int) = N + 1) : RW N nm (fun _ => 65536) := by
  refine ⟨hN, hm, fun i _ => (by show (0 : Int) ≤ 65536; decide), fun i _ => ?_⟩
  rcases i with _ | i <;> exact Int.le_refl _
theorem flat_tr {N M B : Int} {nl nv nm : Nat} {L V W : Nat → Int} (h : TR N M B nl nv nm L V W) : TR N M B nl nv nm L V (fun _ => 65536) :=
  ⟨h.1, h.2.1, h.2.2.1, even_rw h.2.2.2.1.1 h.2.2.2.1.2.1, h.2.2.2.2⟩
theorem sc_even (V K K' : Nat → Int) : ∀ n, sc V K (fun _ => 65536) n = sc V K' (fun _ => 65536) n
  | 0 => rfl
  | n + 1 => by show sc V K _ n + _ = sc V K' _ n + _; rw [sc_even V K K' n]
/-- of weights all alike, the best thresholds are the least. -/
theorem least_ones {N M B : Int} {n : Nat} {L V K : Nat → Int} (h : IsBest N M B n L V (fun _ => 65536) K) (hf : FitP N M B n (fun _ => 1) L) : ∀ j, j < n → K j = 1 := by
  intro j
  induction j using Nat.strongRecOn with
  | ind j ih =>
    intro hj
    have h1 := (h.1.2.1.2.2.2.2 j hj).1
    by_cases e : K j = 1
    · exact e
    · exact absurd (Or.inr ⟨sc_even V _ K n, j, hj, fun i hi => (ih i hi (by omega)).symm, by show (1 : Int) < K j; omega⟩) (h.2 (fun _ => 1) hf)
end Go.Proofs.Ythkcacnlinajgaa.Pn

namespace Go.Proofs.Ythkcacnlinajgaa.Pn
open Go.RowKit Go.Shelf
open Go.Proofs.Ythkcacnlinajgaa.Sz
open Go.Proofs.Ythkcacnlinajgaa.Wg (RW sc sc_congr own_slice)
open Go.Proofs.Ythkcacnlinajgaa.Ly (Tb tdl tdl_tb step_apd int_ones cell_new2)
attribute [local go_sem] Oper.semAt_some
section
variable {W : World} {g g' i : Nat} {t : TypeId} {N M B : Int} {la va wa : Option Addr} {nl lc nv vc nm wc : Nat}
theorem TAt.past (h : TAt W g t N M B la nl lc va nv vc wa nm wc) (hne : g ≠ g') (v : Value) : TAt (W.setCell ⟨g', i, none⟩ v) g t N M B la nl lc va nv vc wa nm wc := (Below.heap_setCell W ⟨g', i, none⟩ v g hne).trans h
theorem TAt.set1 (h : TAt W g t N M B la nl lc va nv vc wa nm wc) (v : Int) : TAt (W.setCell ⟨g, 1, none⟩ (.int .i64 v)) g t N v B la nl lc va nv vc wa nm wc := heap_setCell_same W g 1 _ _ _ h
theorem TAt.set2 (h : TAt W g t N M B la nl lc va nv vc wa nm wc) (v : Int) : TAt (W.setCell ⟨g, 2, none⟩ (.int .i64 v)) g t N M v la nl lc va nv vc wa nm wc := heap_setCell_same W g 2 _ _ _ h
theorem TAt.set5 (h : TAt W g t N M B la nl lc va nv vc wa nm wc) (a : Option Addr) (n c : Nat) : TAt (W.setCell ⟨g, 5, none⟩ (.slice a n c)) g t N M B la nl lc va nv vc a n c := heap_setCell_same W g 5 _ _ _ h
theorem TAt.fr (h : TAt W g t N M B la nl lc va nv vc wa nm wc) (i : Nat) : W.frozen? ⟨g, i, none⟩ = false := frozen_of_row W g i _ _ h
end
theorem own_ty13 {w : World} {B B' s s' n n' : Nat} {e e' : TypeId} {v v' : Value} {xs xs' : List Value} (h : w.ownsRow B e s v n xs) (h' : w.ownsRow B' e' s' v' n' xs') (he : e ≠ e') : v.ownBlock = none ∨ v.ownBlock ≠ v'.ownBlock := by
  rcases h'.2 with ⟨q', _⟩ | ⟨g', c1', cur', q', _, hh', _⟩
  · cases hv : v.ownBlock with
    | none => left; rfl
    | some _ => right; rw [q']; simp [Value.ownBlock]
  · right; rw [q']; exact own_ne h hh' he
set_option maxHeartbeats 16000000 in
set_option maxRecDepth 100000 in
theorem planMore_any (hbe : PBest) (hsc : PScore) (N M B mt bu : Int) (la va wa : Option Addr) (nl lc nv vc nm wc : Nat) (L V W : Nat → Int) (h1 : nl ≤ 140737488355328) (h2 : nv ≤ 140737488355328) (h3 : nm ≤ 140737488355328) (w : World) (hL : Hi w la nl lc L) (hV : Hi w va nv vc V) (hW : Hi w wa nm wc W) :
    Calls Try.prog 6 #[tV N M B la nl lc va nv vc wa nm wc, .int .i64 mt, .int .i64 bu] w fun e w' => e = .returned (.bool true) ∧ Below w.heap.size w w' := by
  have HL := Lib.hid hL.si; have HV := Lib.hid hV.si; have HW := Lib.hid hW.si
  have HAW := Lib.hid (awake13_any hbe)
  have HBE := Lib.hid (fun (N M B : Int) (wa : Option Addr) (nm wc : Nat) (W : Nat → Int) h3 w hL hV hW => hbe N M B la va wa nl lc nv vc nm wc L V W h1 h2 h3 w hL hV hW)
  have HSC := Lib.hid (fun (N M B : Int) w hL hV hW => hsc N M B la va wa nl lc nv vc nm wc L V W h1 h2 h3 w hL hV hW)
  unfold tV at HSC HBE ⊢
  obtain ⟨w0, hw0⟩ : ∃ w0, w0 = w.alloc (.cells #[.int .i64 N, .int .i64 M, .int .i64 B, .slice la nl lc, .slice va nv vc, .slice wa nm wc] 26) := ⟨_, rfl⟩
  have HX0 := Lib.hid (show TAt w0 w.heap.size 26 N M B la nl lc va nv vc wa nm wc from by rw [hw0]; exact heap_alloc_new _ _)
  have HB0 := Lib.hid (show Below w.heap.size w w0 from by rw [hw0]; exact (Below.refl w.heap.size w).alloc (Nat.le_refl _) _)
  have HW0 := Lib.hid hw0
  have hs0 := HB0.out.size
  obtain ⟨i0, hj, hy0, hy1, hy2⟩ := info_parts Ly.Try.infoTRow
  have HJ := Lib.hid hj; have HY0 := Lib.hid hy0; have HY1 := Lib.hid hy1; have HY2 := Lib.hid hy2
  obtain ⟨i3, hi, hz0, hz1, hz2⟩ := info_parts Try.infoInt2
  have HI3 := Lib.hid hi; have HZ0 := Lib.hid hz0; have HZ1 := Lib.hid hz1; have HZ2 := Lib.hid hz2
  clear hL hV hW hw0 hsc hbe hi hz0 hz1 hz2 hj hy0 hy1 hy2
  go_enter Try.func6, Try.ntmps6
  go_wp2_with fail
  rw [← HW0.out]
  refine (HAW.out _).mono ?_
  rintro e w1 ⟨rfl, hB⟩
  have HB1 := Lib.hid (HB0.out.trans (hB.mono hs0)); have HX1 := Lib.hid (HX0.out.same hB)
  have hs1 := HB1.out.size
  clear hB HW0 HAW HX0 HB0 hs0
  obtain ⟨c0, c1, c2, c3, c4, c5⟩ := HX1.out.c
  by_cases hbig : 700 < nl + nv + nm
  · have i1 : (700 : Int) < (nl : Int) + (nv : Int) + (nm : Int) := by omega
    go_wp2
    go_ret
    exact ⟨rfl, HB1.out⟩
  have i1 : ¬ (700 : Int) < (nl : Int) + (nv : Int) + (nm : Int) := by omega
  go_wp2_with fail
  clear c0 c1 c2 c3 c4 c5 i1
  refine (HSC.out N M B _ (HL.out.same HB1.out) (HV.out.same HB1.out) (HW.out.same HB1.out)).mono ?_
  rintro e w2 ⟨hss, hB⟩
  have HB2 := Lib.hid (HB1.out.trans (hB.mono hs1)); have HX2 := Lib.hid (HX1.out.same hB)
  have hs2 := HB2.out.size
  clear hB HX1 HB1
  obtain ⟨s1, E1, rfl⟩ : ∃ s E : Int, e = .returned (.tuple #[.int .i64 s, .int .i64 E]) := by
    rcases hss with ⟨_, h⟩ | ⟨_, _, h⟩ | ⟨_, _, _, h⟩
    · exact ⟨_, _, h⟩
    · exact ⟨_, _, h⟩
    · exact ⟨_, _, h⟩
  have HSS := Lib.hid hss
  clear hss
  obtain ⟨c0, c1, c2, c3, c4, c5⟩ := HX2.out.c
  go_wp2_with fail
  clear c0 c1 c2 c3 c4 c5
  refine (HBE.out N M B wa nm wc W h3 _ (HL.out.same HB2.out) (HV.out.same HB2.out) (HW.out.same HB2.out)).mono ?_
  rintro e w3 ⟨hbs, hB⟩
  have HB3 := Lib.hid (HB2.out.trans (hB.mono hs2)); have HX3 := Lib.hid (HX2.out.same hB)
  have hs3 := HB3.out.size
  clear hB HX2 HB2
  rcases hbs with ⟨hT, rfl⟩ | ⟨hT, hno, rfl⟩ | ⟨hT, ba, bc, K, rfl, hI, hown⟩
  · rcases HSS.out with ⟨_, he⟩ | ⟨hT2, _⟩ | ⟨hT2, _⟩
    rotate_left
    · exact absurd hT2 hT
    · exact absurd hT2 hT
    cases he
    go_wp2
    go_ret
    exact ⟨rfl, HB3.out⟩
  · rcases HSS.out with ⟨hT2, _⟩ | ⟨_, _, he⟩ | ⟨_, K, hI, _⟩
    · exact absurd hT hT2
    · cases he
      go_wp2
      go_ret
      exact ⟨rfl, HB3.out⟩
    · exact absurd hI.1 (hno K)
  rcases HSS.out with ⟨hT2, _⟩ | ⟨_, hno, _⟩ | ⟨_, K', hI', he⟩
  · exact absurd hT hT2
  · exact absurd hI.1 (hno K)
  simp only [Ending.returned.injEq, Value.tuple.injEq, Array.mk.injEq, List.cons.injEq, Value.int.injEq, true_and, and_true] at he
  obtain ⟨rfl, rfl⟩ := he
  rw [sc_congr nl (best_uniq hI' hI)]
  have HT := Lib.hid hT; have HI := Lib.hid hI; have HO3 := Lib.hid hown
  clear hT hI hI' hown HSS
  obtain ⟨s, hs⟩ : ∃ s, s = sc V K W nl := ⟨_, rfl⟩
  have HSE := Lib.hid hs
  rw [← hs]
  clear hs
  obtain ⟨⟨n1, n2⟩, ⟨m1, m2⟩, b1, b2⟩ := HT.out.1
  obtain ⟨pM, hpM⟩ : ∃ p, p = pkv mt (1501 - M) := ⟨_, rfl⟩
  obtain ⟨pB, hpB⟩ : ∃ p, p = pkv bu (524289 - B) := ⟨_, rfl⟩
  have hpM1 := pkv_bd mt (n := 1501 - M) (by omega)
  have hpB1 := pkv_bd bu (n := 524289 - B) (by omega)
  rw [← hpM] at hpM1
  rw [← hpB] at hpB1
  have HPM := Lib.hid (fun (W : World) => (show Calls Try.prog 21 #[.int .i64 mt, .int .i64 (1501 - M)] W fun e w' => e = .returned (.int .i64 pM) ∧ w' = W from by rw [hpM]; exact pickv_any mt (1501 - M) (by omega) (by omega) W))
  have HPB := Lib.hid (fun (W : World) => (show Calls Try.prog 21 #[.int .i64 bu, .int .i64 (524289 - B)] W fun e w' => e = .returned (.int .i64 pB) ∧ w' = W from by rw [hpB]; exact pickv_any bu (524289 - B) (by omega) (by omega) W))
  clear hpM hpB
  have hb4 := (Below.refl w3.heap.size w3).alloc (Nat.le_refl _) (.cells #[.int .i64 N, .int .i64 M, .int .i64 B, .slice la nl lc, .slice va nv vc, .slice wa nm wc] 26)
  have HX4 := Lib.hid (HX3.out.same hb4); have HY4 := Lib.hid (show TAt (w3.alloc (.cells #[.int .i64 N, .int .i64 M, .int .i64 B, .slice la nl lc, .slice va nv vc, .slice wa nm wc] 26)) w3.heap.size 26 N M B la nl lc va nv vc wa nm wc from heap_alloc_new w3 _)
  have HB4 := Lib.hid (HB3.out.trans (hb4.mono hs3))
  have hgw : w.heap.size < w3.heap.size := HX3.out.lt
  obtain ⟨c0, c1, c2, c3, c4, c5⟩ := HX3.out.c
  have HO4 := Lib.hid (Wg.own_below HO3.out hb4)
  clear hb4
  go_wp2_with fail
  clear c0 c1 c2 c3 c4 c5 HX3 HB3 HO3
  generalize w3.alloc (.cells #[.int .i64 N, .int .i64 M, .int .i64 B, .slice la nl lc, .slice va nv vc, .slice wa nm wc] 26) = w4 at *
  generalize w3.heap.size = gw at *
  have d1 : ∀ q, (w4.drewN q).cell? ⟨w.heap.size, 1, none⟩ = some (.int .i64 M) := fun q => (HX4.out.same (below_dr (Below.refl _ w4) q)).c.2.1
  refine Rb.wp_region_quiet_tail 10 (by kernel_rfl) (by kernel_rfl) ?_
  simp only [List.take_succ_cons, List.take_zero, List.drop_succ_cons, List.drop_zero]
  repeat (go_big_quiet_step ((go_at_call 21; exact Calls.quiet_of_same (HPM.out _))))
  refine wpQuiet_nil ?_
  rintro _ ⟨k2, rfl⟩
  clear d1
  have hb5 := below_dr (Below.refl w4.heap.size w4) k2
  have HX5 := Lib.hid (HX4.out.same hb5); have HY5 := Lib.hid (HY4.out.same hb5); have HB5 := Lib.hid (HB4.out.trans (hb5.mono HB4.out.size)); have HO5 := Lib.hid (Wg.own_below HO4.out hb5)
  clear hb5 HX4 HY4 HB4 HO4
  generalize w4.drewN k2 = w5 at *
  have e1 := HY5.out.c.2.1
  have e2 := HY5.out.fr 1
  go_wp2_with fail
  clear e1 e2
  have HX6 := Lib.hid (HX5.out.past (g' := gw) (i := 1) (by omega) (.int .i64 (M + pM))); have HY6 := Lib.hid (HY5.out.set1 (M + pM)); have HB6 := Lib.hid (HB5.out.setCell (p := ⟨gw, 1, none⟩) (by show _ ≤ gw; omega) (.int .i64 (M + pM)))
  have HO6 := Lib.hid (ownsRow_setCell_other HO5.out (a := ⟨gw, 1, none⟩) (own_ne HO5.out HY5.out (by decide)) (.int .i64 (M + pM)))
  clear HX5 HY5 HB5 HO5
  generalize w5.setCell ⟨gw, 1, none⟩ (.int .i64 (M + pM)) = w6 at *
  have d1 : ∀ q, (w6.drewN q).cell? ⟨w.heap.size, 2, none⟩ = some (.int .i64 B) := fun q => (HX6.out.same (below_dr (Below.refl _ w6) q)).c.2.2.1
  refine Rb.wp_region_quiet_tail 10 (by kernel_rfl) (by kernel_rfl) ?_
  simp only [List.take_succ_cons, List.take_zero, List.drop_succ_cons, List.drop_zero]
  repeat (go_big_quiet_step ((go_at_call 21; exact Calls.quiet_of_same (HPB.out _))))
  refine wpQuiet_nil ?_
  rintro _ ⟨k3, rfl⟩
  clear d1 HPM HPB
  have hb7 := below_dr (Below.refl w6.heap.size w6) k3
  have HX7 := Lib.hid (HX6.out.same hb7); have HY7 := Lib.hid (HY6.out.same hb7); have HB7 := Lib.hid (HB6.out.trans (hb7.mono HB6.out.size)); have HO7 := Lib.hid (Wg.own_below HO6.out hb7)
  clear hb7 HX6 HY6 HB6 HO6
  generalize w6.drewN k3 = w7 at *
  have e1 := HY7.out.c.2.2.1
  have e2 := HY7.out.fr 2
  have HX8 := Lib.hid (HX7.out.past (g' := gw) (i := 2) (by omega) (.int .i64 (B + pB))); have HY8 := Lib.hid (HY7.out.set2 (B + pB)); have HB8 := Lib.hid (HB7.out.setCell (p := ⟨gw, 2, none⟩) (by show _ ≤ gw; omega) (.int .i64 (B + pB)))
  have HO8 := Lib.hid (ownsRow_setCell_other HO7.out (a := ⟨gw, 2, none⟩) (own_ne HO7.out HY7.out (by decide)) (.int .i64 (B + pB)))
  obtain ⟨c0, c1, c2, c3, c4, c5⟩ := HY8.out.c
  go_wp2_with fail
  clear e1 e2 c0 c1 c2 c3 c4 c5 HX7 HY7 HB7 HO7
  generalize w7.setCell ⟨gw, 2, none⟩ (.int .i64 (B + pB)) = w8 at *
  have hRB2 : RB N (M + pM) (B + pB) := ⟨⟨n1, n2⟩, ⟨by omega, by omega⟩, by omega, by omega⟩
  have hf2 := more_fit HI.out.1 hRB2 (by omega) (by omega)
  have hs8 := HB8.out.size
  refine (HSC.out N (M + pM) (B + pB) _ (HL.out.same HB8.out) (HV.out.same HB8.out) (HW.out.same HB8.out)).mono ?_
  rintro e w9 ⟨hss, hB⟩
  have HB9 := Lib.hid (HB8.out.trans (hB.mono hs8)); have HX9 := Lib.hid (HX8.out.same hB); have HO9 := Lib.hid (Wg.own_below HO8.out hB)
  have hs9 := HB9.out.size
  clear hB HX8 HY8 HB8 HO8
  rcases hss with ⟨hno, _⟩ | ⟨_, hno, _⟩ | ⟨_, K2, hI2, rfl⟩
  · exact absurd (⟨hRB2, HT.out.2⟩ : TR N (M + pM) (B + pB) nl nv nm L V W) hno
  · exact absurd hf2 (hno K)
  have hsc := more_score HI.out hRB2 (by omega) (by omega) hI2
  rw [← HSE.out] at hsc
  obtain ⟨s2, hs2⟩ : ∃ s2, s2 = sc V K2 W nl := ⟨_, rfl⟩
  rw [← hs2] at hsc ⊢
  clear hs2 hI2 hRB2 hf2 HSC
  obtain ⟨c0, c1, c2, c3, c4, c5⟩ := HX9.out.c
  go_wp2_with fail
  clear c0 c1 c2 c3 c4 c5
  refine (Wg.score_any va ba wa nv vc nl bc nm wc V K W h2 h1 h3 _ (HV.out.same HB9.out) (Wg.hi_own HO9.out).si (HW.out.same HB9.out)).mono ?_
  rintro e w10 ⟨hss, hB⟩
  have HB10 := Lib.hid (HB9.out.trans (hB.mono hs9)); have HX10 := Lib.hid (HX9.out.same hB); have HO10 := Lib.hid (Wg.own_below HO9.out hB)
  have hs10 := HB10.out.size
  clear hB HX9 HB9 HO9
  rcases hss with ⟨_, rfl⟩ | ⟨hno, _⟩
  rotate_left
  · exact absurd (fit_w HT.out HI.out.1) hno
  rw [← HSE.out]
  have j1 : ¬ s2 < s := by omega
  have j2 : (s != s) = false := by simp
  have hn8 := HT.out.2.1
  go_wp2_with fail
  clear j1 j2
  go_loopw [16, 17, 18] (fun o p i wr => ∃ (k : Nat) (ta : Option Addr) (tc : Nat) (oa : Option Addr) (oc : Nat) (X : World), X = wr ∧ k ≤ nl ∧ i = .int .i64 k ∧ o = .slice ta k tc ∧ p = .slice oa k oc ∧ wr.ownsRow w10.heap.size 54 2 (.slice ta k tc) k (tdl K L k) ∧ wr.ownsRow w10.heap.size 3 1 (.slice oa k oc) k (inh (fun _ => 1) k) ∧ Below w10.heap.size w10 wr) (fun _ _ i _ => nl - (intOf i).toNat)
  case atStart => exact ⟨0, none, 0, none, 0, _, rfl, by omega, rfl, rfl, rfl, World.ownsRow_nil _ _ _ _, World.ownsRow_nil _ _ _ _, Below.refl _ _⟩
  case round =>
    obtain ⟨k, ta, tc, oa, oc, wx, rfl, hk', rfl, rfl, rfl, hO, hP, hB⟩ := hrel
    have HO := Lib.hid hO; have HP := Lib.hid hP; have HB := Lib.hid hB
    have hsz := hB.size
    clear hO hP hB
    have hBw := HB10.out.trans (HB.out.mono hs10)
    have hob := Wg.own_below HO10.out HB.out
    by_cases hkm : k < nl
    · have i2 : (k : Int) < (nl : Int) := by omega
      obtain ⟨ab, ao, ea, c1⟩ := (Wg.hi_own hob).si.cell k hkm
      obtain ⟨lb, lo, el, c2⟩ := (HL.out.same hBw).cell k hkm
      subst ea el
      obtain ⟨_, _, _, x3, _, _⟩ := (HX10.out.same HB.out).c
      have HRO := Lib.hid (show ∀ W, Below wx.heap.size wx W → W.ownsRow w10.heap.size 54 2 (.slice ta k tc) k (tdl K L k) from fun W hW => Wg.own_below HO.out hW)
      have HRP := Lib.hid (show ∀ W, Below wx.heap.size wx W → W.ownsRow w10.heap.size 3 1 (.slice oa k oc) k (inh (fun _ => 1) k) from fun W hW => Wg.own_below HP.out hW)
      have hal : Below wx.heap.size wx (wx.alloc (.cells #[.int .i64 (K k), .int .i64 (L k)] 54)).drew := below_dr ((Below.refl _ wx).alloc (Nat.le_refl _) _) 1
      have hnew : ∀ j u, [Value.int .i64 (K k), Value.int .i64 (L k)][j]? = some u → ((wx.alloc (.cells #[.int .i64 (K k), .int .i64 (L k)] 54)).drew).cell? ((⟨wx.heap.size, 0, none⟩ : Addr).add j) = some u := cell_new2 wx _ _ 54
      have hbb : w10.heap.size ≤ ((wx.alloc (.cells #[.int .i64 (K k), .int .i64 (L k)] 54)).drew).heap.size := Nat.le_trans hsz hal.size
      have HAL := Lib.hid hal; have HNEW := Lib.hid hnew; have HBB := Lib.hid hbb
      clear hal hnew hbb hBw hob
      go_wp2_with fail
      go_region_law ((refine step_apd rfl (.tmp 119) (.tmp 130) 52 rfl w10.heap.size 54 i0 (.agg #[.int .i64 0, .int .i64 0]) 2 16 Try.underlying52 HJ.out HY0.out HY1.out HY2.out rfl (by decide) (.slice ta k tc) k _ rfl (HRO.out _ HAL.out) ⟨wx.heap.size, 0, none⟩ 1 1 [.int .i64 (K k), .int .i64 (L k)] rfl rfl HNEW.out (int_ones _ _) (by unfold maxLen; omega) (by omega) HBB.out ?_; intro v6 w11 hown6 hgrow6; obtain ⟨g6, c6, rfl⟩ := own_slice hown6; have HOWN6 := Lib.hid hown6; have HP6 := Lib.hid ((HRP.out _ HAL.out).kept hgrow6 (own_ty13 (HRP.out _ HAL.out) (HRO.out _ HAL.out) (by decide))); have HB6 := Lib.hid (HB.out.trans ((HAL.out.mono hsz).trans ((Below.refl w10.heap.size _).grown hgrow6 HBB.out (fun k e => ((HRO.out _ HAL.out).lt k e).1)))); clear hown6 hgrow6))
      all_goals
        have hal : Below w11.heap.size w11 (w11.alloc (.cells #[.int .i64 1] 3)) := (Below.refl _ w11).alloc (Nat.le_refl _) _
        have HOX := Lib.hid (Wg.own_below HP6.out hal)
        have HTX := Lib.hid (Wg.own_below HOWN6.out hal)
        have HBX := Lib.hid (HB6.out.trans (hal.mono HB6.out.size))
        have hbase : w10.heap.size ≤ (w11.alloc (.cells #[.int .i64 1] 3)).heap.size := HBX.out.size
        have HIN := Lib.hid (inh_s (fun _ => 1) k)
        clear hal
        go_wp2_with (at_builtin; refine wpList_append_own _ rfl _ _ 24 rfl w10.heap.size 3 i3 (.int .i64 0) 1 8 Try.underlying24 HI3.out HZ0.out HZ1.out HZ2.out rfl (by decide) (.slice oa k oc) k (inh (fun _ => 1) k) rfl HOX.out ⟨w11.heap.size, 0, none⟩ 1 1 [.int .i64 1] rfl rfl (cell_single _ _ _) (one_single _ _) (by unfold maxLen; omega) (by omega) hbase ?_; intro v9 w12 hown9 hgrow9 _; have HB9 := Lib.hid (HBX.out.grown hgrow9 hbase (fun j h => (HOX.out.lt j h).1)); have HT9 := Lib.hid (HTX.out.kept hgrow9 (own_ty13 HTX.out HOX.out (by decide))); obtain ⟨a9, c9, rfl⟩ := own_slice hown9; have HO9 := Lib.hid (show w12.ownsRow w10.heap.size 3 1 (.slice a9 (k + 1) c9) (k + 1) (inh (fun _ => 1) (k + 1)) by rw [HIN.out]; exact hown9); clear hown9 hgrow9)
        go_roundw
        case rel => exact ⟨k + 1, _, c6, a9, c9, _, rfl, by omega, by go_num, rfl, rfl, HT9.out, HO9.out, HB9.out⟩
        case measure => simp [intOf]; omega
    · obtain rfl : k = nl := by omega
      have i2 : ¬ (k : Int) < (k : Int) := by omega
      have HTb := Lib.hid (tdl_tb HO.out).1
      have HON := Lib.hid (Wg.hi_own HP.out).si
      have HBw := Lib.hid hBw; have HOb := Lib.hid hob
      have hsw := hBw.size
      have HXb := Lib.hid (HX10.out.same HB.out)
      clear hBw hob HX10 HB10 HO10
      obtain ⟨c0, c1, c2, c3, c4, c5⟩ := HXb.out.c
      go_wp2_with fail
      clear c0 c1 c2 c3 c4 c5 i2 hkm hk'
      refine (of_any N ta k tc K L _ HTb.out).mono ?_
      rintro e w11 ⟨hof, hB⟩
      have HB11 := Lib.hid (HBw.out.trans (hB.mono hsw)); have HX11 := Lib.hid (HXb.out.same hB); have HO11 := Lib.hid (Wg.own_below HOb.out hB); have HN11 := Lib.hid (HON.out.same hB)
      have hs11 := HB11.out.size
      have hgt := HX11.out.lt
      clear hB HXb HOb HON HTb HO HP HB HBw
      rcases hof with ⟨hno, _⟩ | ⟨_, rfl⟩
      · exact absurd HI.out.1.2.1 hno
      obtain ⟨z, hz⟩ : ∃ z : Int, z = ((18 + 3 * k + Ly.off K L k : Nat) : Int) := ⟨_, rfl⟩
      rw [← hz]
      have htb := tight_best (z := z) HI.out (by omega)
      obtain ⟨hr1, hr2, hr3, _⟩ := tight_ok (z := z) HI.out.1 (by omega)
      have hz0 : 0 ≤ z := by omega
      obtain ⟨⟨_, _⟩, ⟨_, _⟩, hr4, _⟩ := id hr1
      obtain ⟨c0, c1, c2, c3, c4, c5⟩ := HX11.out.c
      have hsp : (64 ≤ z ∧ max z 64 = z) ∨ (¬ 64 ≤ z ∧ max z 64 = 64) := by omega
      rcases hsp with ⟨h64, hm⟩ | ⟨h64, hm⟩
      · rw [hm] at htb hr1
        have HTB := Lib.hid htb; have HR1 := Lib.hid hr1
        have hal := (Below.refl w11.heap.size w11).alloc (Nat.le_refl _) (.cells #[.int .i64 N, .int .i64 z, .int .i64 (z * N), .slice la k lc, .slice va nv vc, .slice wa nm wc] 26)
        have HX12 := Lib.hid (HX11.out.same hal)
        have HB12 := Lib.hid (HB11.out.trans (hal.mono hs11)); have HO12 := Lib.hid (Wg.own_below HO11.out hal); have HN12 := Lib.hid (HN11.out.same hal)
        clear hal htb hr1 hz hm
        go_wp2_with fail
        clear c0 c1 c2 c3 c4 c5 HX11 HB11 HO11 HN11
        generalize w11.alloc (.cells #[.int .i64 N, .int .i64 z, .int .i64 (z * N), .slice la k lc, .slice va nv vc, .slice wa nm wc] 26) = w12 at *
        refine (HBE.out N z (z * N) wa nm wc W h3 _ (HL.out.same HB12.out) (HV.out.same HB12.out) (HW.out.same HB12.out)).mono ?_
        rintro e w13 ⟨hbs, hB⟩
        have HB13 := Lib.hid (HB12.out.trans (hB.mono HB12.out.size)); have HX13 := Lib.hid (HX12.out.same hB); have HO13 := Lib.hid (Wg.own_below HO12.out hB); have HN13 := Lib.hid (HN12.out.same hB)
        clear hB HX12 HB12 HO12 HN12
        rcases hbs with ⟨hno, _⟩ | ⟨_, hno, _⟩ | ⟨_, sa, sq, K3, rfl, hI3, hown3⟩
        · exact absurd (⟨HR1.out, HT.out.2⟩ : TR N z (z * N) k nv nm L V W) hno
        · exact absurd HTB.out.1 (hno K)
        have HEQ := Lib.hid (best_uniq hI3 HTB.out); have HS13 := Lib.hid hown3
        clear hI3 hown3 HTB HR1 hr2 hr3
        obtain ⟨c0, c1, c2, c3, c4, c5⟩ := HX13.out.c
        go_wp2_with fail
        clear c0 c1 c2 c3 c4 c5
        refine (Wg.even_any N _).mono ?_
        rintro e w14 hev
        rcases hev with ⟨hno, _⟩ | ⟨N', ea, ec, hNN, _, rfl, hei, hB⟩
        · exact absurd ⟨n1, n2⟩ hno
        obtain rfl : nm = N' + 1 := by have := HT.out.2.2.2.1.2.1; omega
        clear hNN
        have HB14 := Lib.hid (HB13.out.trans (hB.mono HB13.out.size)); have HX14 := Lib.hid (HX13.out.same hB); have HO14 := Lib.hid (Wg.own_below HO13.out hB); have HN14 := Lib.hid (HN13.out.same hB); have HS14 := Lib.hid (Wg.own_below HS13.out hB)
        have HE14 := Lib.hid hei.si
        clear hei hB HX13 HB13 HO13 HN13 HS13
        have hal := (Below.refl w14.heap.size w14).alloc (Nat.le_refl _) (.cells #[.int .i64 N, .int .i64 M, .int .i64 B, .slice la k lc, .slice va nv vc, .slice ea (N' + 1) ec] 26)
        have HX15 := Lib.hid (HX14.out.same hal); have HB15 := Lib.hid (HB14.out.trans (hal.mono HB14.out.size)); have HO15 := Lib.hid (Wg.own_below HO14.out hal); have HN15 := Lib.hid (HN14.out.same hal); have HS15 := Lib.hid (Wg.own_below HS14.out hal); have HE15 := Lib.hid (HE14.out.same hal)
        obtain ⟨c0, c1, c2, c3, c4, c5⟩ := HX14.out.c
        clear hal
        go_wp2_with fail
        clear c0 c1 c2 c3 c4 c5 HX14 HB14 HO14 HN14 HS14 HE14
        generalize w14.alloc (.cells #[.int .i64 N, .int .i64 M, .int .i64 B, .slice la k lc, .slice va nv vc, .slice ea (N' + 1) ec] 26) = w15 at *
        refine (HBE.out N M B ea (N' + 1) ec (fun _ => 65536) h3 _ (HL.out.same HB15.out) (HV.out.same HB15.out) HE15.out).mono ?_
        rintro e w16 ⟨hbs, hB⟩
        have HB16 := Lib.hid (HB15.out.trans (hB.mono HB15.out.size)); have HX16 := Lib.hid (HX15.out.same hB); have HO16 := Lib.hid (Wg.own_below HO15.out hB); have HN16 := Lib.hid (HN15.out.same hB); have HS16 := Lib.hid (Wg.own_below HS15.out hB)
        clear hB HX15 HB15 HO15 HN15 HS15 HE15
        rcases hbs with ⟨hno, _⟩ | ⟨_, hno, _⟩ | ⟨_, fa, fq, K4, rfl, hI4, hown4⟩
        · exact absurd (flat_tr HT.out) hno
        · exact absurd HI.out.1 (hno K)
        have HI4 := Lib.hid hI4; have HF16 := Lib.hid hown4
        clear hI4 hown4
        go_wp2_with fail
        refine (Wg.sameInts_any sa ba k sq k bc K3 K (by omega) (by omega) _ (Wg.hi_own HS16.out).si (Wg.hi_own HO16.out).si).mono ?_
        rintro e w17 ⟨⟨v, rfl, hv⟩, hB⟩
        obtain rfl : v = true := hv.2 ⟨rfl, HEQ.out⟩
        have HB17 := Lib.hid (HB16.out.trans (hB.mono HB16.out.size)); have HX17 := Lib.hid (HX16.out.same hB); have HN17 := Lib.hid (HN16.out.same hB); have HF17 := Lib.hid (Wg.own_below HF16.out hB)
        clear hv hB HX16 HB16 HO16 HN16 HS16 HF16 HEQ
        obtain ⟨c0, c1, c2, c3, c4, c5⟩ := HX17.out.c
        go_wp2_with fail
        clear c0 c1 c2 c3 c4 c5
        have HFT := Lib.hid (fits_any N M B la oa k lc k oc (fun _ => 1) L (by omega) _ (HL.out.same HB17.out) HN17.out)
        unfold bV at HFT
        refine HFT.out.mono ?_
        rintro e w18 ⟨⟨v, rfl, hv⟩, hB⟩
        have HB18 := Lib.hid (HB17.out.trans (hB.mono HB17.out.size)); have HN18 := Lib.hid (HN17.out.same hB); have HF18 := Lib.hid (Wg.own_below HF17.out hB)
        clear hB HX17 HB17 HN17 HF17 HFT
        cases v
        · clear hv
          go_wp2
          go_ret
          exact ⟨rfl, HB18.out⟩
        have hone := least_ones HI4.out (show FitP N M B k (fun _ => 1) L from by first | exact (hv.1 rfl).2 | exact (hv.1 trivial).2)
        have HONE := Lib.hid hone
        clear hv hone
        go_wp2_with fail
        refine (Wg.sameInts_any fa oa k fq k oc K4 (fun _ => 1) (by omega) (by omega) _ (Wg.hi_own HF18.out).si HN18.out).mono ?_
        rintro e w19 ⟨⟨v, rfl, hv⟩, hB⟩
        obtain rfl : v = true := hv.2 ⟨rfl, HONE.out⟩
        have HB19 := Lib.hid (HB18.out.trans (hB.mono HB18.out.size))
        clear hv hB
        go_wp2
        go_ret
        exact ⟨rfl, HB19.out⟩
      · rw [hm] at htb hr1
        have HTB := Lib.hid htb; have HR1 := Lib.hid hr1
        have hal := (Below.refl w11.heap.size w11).alloc (Nat.le_refl _) (.cells #[.int .i64 N, .int .i64 64, .int .i64 (z * N), .slice la k lc, .slice va nv vc, .slice wa nm wc] 26)
        have HX12 := Lib.hid (HX11.out.same hal)
        have HB12 := Lib.hid (HB11.out.trans (hal.mono hs11)); have HO12 := Lib.hid (Wg.own_below HO11.out hal); have HN12 := Lib.hid (HN11.out.same hal)
        clear hal htb hr1 hz hm
        go_wp2_with fail
        clear c0 c1 c2 c3 c4 c5 HX11 HB11 HO11 HN11
        generalize w11.alloc (.cells #[.int .i64 N, .int .i64 64, .int .i64 (z * N), .slice la k lc, .slice va nv vc, .slice wa nm wc] 26) = w12 at *
        refine (HBE.out N 64 (z * N) wa nm wc W h3 _ (HL.out.same HB12.out) (HV.out.same HB12.out) (HW.out.same HB12.out)).mono ?_
        rintro e w13 ⟨hbs, hB⟩
        have HB13 := Lib.hid (HB12.out.trans (hB.mono HB12.out.size)); have HX13 := Lib.hid (HX12.out.same hB); have HO13 := Lib.hid (Wg.own_below HO12.out hB); have HN13 := Lib.hid (HN12.out.same hB)
        clear hB HX12 HB12 HO12 HN12
        rcases hbs with ⟨hno, _⟩ | ⟨_, hno, _⟩ | ⟨_, sa, sq, K3, rfl, hI3, hown3⟩
        · exact absurd (⟨HR1.out, HT.out.2⟩ : TR N 64 (z * N) k nv nm L V W) hno
        · exact absurd HTB.out.1 (hno K)
        have HEQ := Lib.hid (best_uniq hI3 HTB.out); have HS13 := Lib.hid hown3
        clear hI3 hown3 HTB HR1 hr2 hr3
        obtain ⟨c0, c1, c2, c3, c4, c5⟩ := HX13.out.c
        go_wp2_with fail
        clear c0 c1 c2 c3 c4 c5
        refine (Wg.even_any N _).mono ?_
        rintro e w14 hev
        rcases hev with ⟨hno, _⟩ | ⟨N', ea, ec, hNN, _, rfl, hei, hB⟩
        · exact absurd ⟨n1, n2⟩ hno
        obtain rfl : nm = N' + 1 := by have := HT.out.2.2.2.1.2.1; omega
        clear hNN
        have HB14 := Lib.hid (HB13.out.trans (hB.mono HB13.out.size)); have HX14 := Lib.hid (HX13.out.same hB); have HO14 := Lib.hid (Wg.own_below HO13.out hB); have HN14 := Lib.hid (HN13.out.same hB); have HS14 := Lib.hid (Wg.own_below HS13.out hB)
        have HE14 := Lib.hid hei.si
        clear hei hB HX13 HB13 HO13 HN13 HS13
        have hal := (Below.refl w14.heap.size w14).alloc (Nat.le_refl _) (.cells #[.int .i64 N, .int .i64 M, .int .i64 B, .slice la k lc, .slice va nv vc, .slice ea (N' + 1) ec] 26)
        have HX15 := Lib.hid (HX14.out.same hal); have HB15 := Lib.hid (HB14.out.trans (hal.mono HB14.out.size)); have HO15 := Lib.hid (Wg.own_below HO14.out hal); have HN15 := Lib.hid (HN14.out.same hal); have HS15 := Lib.hid (Wg.own_below HS14.out hal); have HE15 := Lib.hid (HE14.out.same hal)
        obtain ⟨c0, c1, c2, c3, c4, c5⟩ := HX14.out.c
        clear hal
        go_wp2_with fail
        clear c0 c1 c2 c3 c4 c5 HX14 HB14 HO14 HN14 HS14 HE14
        generalize w14.alloc (.cells #[.int .i64 N, .int .i64 M, .int .i64 B, .slice la k lc, .slice va nv vc, .slice ea (N' + 1) ec] 26) = w15 at *
        refine (HBE.out N M B ea (N' + 1) ec (fun _ => 65536) h3 _ (HL.out.same HB15.out) (HV.out.same HB15.out) HE15.out).mono ?_
        rintro e w16 ⟨hbs, hB⟩
        have HB16 := Lib.hid (HB15.out.trans (hB.mono HB15.out.size)); have HX16 := Lib.hid (HX15.out.same hB); have HO16 := Lib.hid (Wg.own_below HO15.out hB); have HN16 := Lib.hid (HN15.out.same hB); have HS16 := Lib.hid (Wg.own_below HS15.out hB)
        clear hB HX15 HB15 HO15 HN15 HS15 HE15
        rcases hbs with ⟨hno, _⟩ | ⟨_, hno, _⟩ | ⟨_, fa, fq, K4, rfl, hI4, hown4⟩
        · exact absurd (flat_tr HT.out) hno
        · exact absurd HI.out.1 (hno K)
        have HI4 := Lib.hid hI4; have HF16 := Lib.hid hown4
        clear hI4 hown4
        go_wp2_with fail
        refine (Wg.sameInts_any sa ba k sq k bc K3 K (by omega) (by omega) _ (Wg.hi_own HS16.out).si (Wg.hi_own HO16.out).si).mono ?_
        rintro e w17 ⟨⟨v, rfl, hv⟩, hB⟩
        obtain rfl : v = true := hv.2 ⟨rfl, HEQ.out⟩
        have HB17 := Lib.hid (HB16.out.trans (hB.mono HB16.out.size)); have HX17 := Lib.hid (HX16.out.same hB); have HN17 := Lib.hid (HN16.out.same hB); have HF17 := Lib.hid (Wg.own_below HF16.out hB)
        clear hv hB HX16 HB16 HO16 HN16 HS16 HF16 HEQ
        obtain ⟨c0, c1, c2, c3, c4, c5⟩ := HX17.out.c
        go_wp2_with fail
        clear c0 c1 c2 c3 c4 c5
        have HFT := Lib.hid (fits_any N M B la oa k lc k oc (fun _ => 1) L (by omega) _ (HL.out.same HB17.out) HN17.out)
        unfold bV at HFT
        refine HFT.out.mono ?_
        rintro e w18 ⟨⟨v, rfl, hv⟩, hB⟩
        have HB18 := Lib.hid (HB17.out.trans (hB.mono HB17.out.size)); have HN18 := Lib.hid (HN17.out.same hB); have HF18 := Lib.hid (Wg.own_below HF17.out hB)
        clear hB HX17 HB17 HN17 HF17 HFT
        cases v
        · clear hv
          go_wp2
          go_ret
          exact ⟨rfl, HB18.out⟩
        have hone := least_ones HI4.out (show FitP N M B k (fun _ => 1) L from by first | exact (hv.1 rfl).2 | exact (hv.1 trivial).2)
        have HONE := Lib.hid hone
        clear hv hone
        go_wp2_with fail
        refine (Wg.sameInts_any fa oa k fq k oc K4 (fun _ => 1) (by omega) (by omega) _ (Wg.hi_own HF18.out).si HN18.out).mono ?_
        rintro e w19 ⟨⟨v, rfl, hv⟩, hB⟩
        obtain rfl : v = true := hv.2 ⟨rfl, HONE.out⟩
        have HB19 := Lib.hid (HB18.out.trans (hB.mono HB18.out.size))
        clear hv hB
        go_wp2
        go_ret
        exact ⟨rfl, HB19.out⟩
end Go.Proofs.Ythkcacnlinajgaa.Pn

namespace Go.Proofs.Ythkcacnlinajgaa.Pn
open Go.RowKit Go.Shelf
attribute [local go_sem] Oper.semAt_some

/-- a row of numbers in a block of its own, as it reads. -/
def Nr (ty : TypeId) (kd : IntKind) (w : World) (g c : Nat) (f : Nat → Int) : Prop := ∃ vs : Array Value, w.heap[g]? = some (.cells vs ty (0, 0)) ∧ vs.size = c ∧ ∀ i, i < c → vs[i]? = some (.int kd (f i))
section
variable {ty ty' : TypeId} {kd kd' : IntKind} {w w' : World} {g g' c : Nat} {f h : Nat → Int}
theorem Nr.lt (s : Nr ty kd w g c f) : g < w.heap.size := by
  obtain ⟨vs, h1, _⟩ := s
  exact (Array.getElem?_eq_some_iff.1 h1).1
theorem Nr.kept (s : Nr ty kd w g c f) (hk : w'.heap[g]? = w.heap[g]?) : Nr ty kd w' g c f := by
  obtain ⟨vs, h1, h2⟩ := s
  exact ⟨vs, hk.trans h1, h2⟩
theorem Nr.same (s : Nr ty kd w g c f) (hB : Below w.heap.size w w') : Nr ty kd w' g c f := s.kept (hB.block g s.lt)
theorem Nr.congr (s : Nr ty kd w g c f) (he : ∀ i, i < c → f i = h i) : Nr ty kd w g c h := by
  obtain ⟨vs, h1, h2, h3⟩ := s
  exact ⟨vs, h1, h2, fun i hi => by rw [← he i hi]; exact h3 i hi⟩
theorem Nr.cell (s : Nr ty kd w g c f) {i : Nat} (hi : i < c) : w.cell? ⟨g, i, none⟩ = some (.int kd (f i)) := by
  obtain ⟨vs, h1, h2, h3⟩ := s
  rw [cell_of_row w g i vs _ _ h1]; exact h3 i hi
theorem Nr.free (s : Nr ty kd w g c f) (i : Nat) : w.frozen? ⟨g, i, none⟩ = false := by
  obtain ⟨vs, h1, _⟩ := s
  exact frozen_of_row w g i vs _ h1
theorem Nr.obj (s : Nr ty kd w g c f) : ∃ vs, w.heap[g]? = some (.cells vs ty (0, 0)) := by
  obtain ⟨vs, h1, _⟩ := s
  exact ⟨vs, h1⟩
theorem Nr.ne (s : Nr ty kd w g c f) (s' : Nr ty' kd' w g' c f) (hne : ty ≠ ty') : g ≠ g' := fun e => by
  obtain ⟨vs, h1⟩ := s.obj
  obtain ⟨vs', h2⟩ := s'.obj
  rw [e, h2] at h1
  injection h1 with h1; injection h1 with _ h1
  exact hne h1.symm
theorem Nr.set (s : Nr ty kd w g c f) {i : Nat} (hi : i < c) (x : Int) : Nr ty kd (w.setCell ⟨g, i, none⟩ (.int kd x)) g c (fun j => if j = i then x else f j) := by
  obtain ⟨vs, h1, h2, h3⟩ := s
  refine ⟨_, heap_setCell_same w g i vs _ _ h1, by simpa using h2, fun j hj => ?_⟩
  show _ = some (Value.int kd (if j = i then x else f j))
  by_cases e : j = i
  · subst e
    rw [if_pos rfl, Array.getElem?_setIfInBounds_self_of_lt (by omega)]
  · rw [if_neg e, Array.getElem?_setIfInBounds_ne (fun q => e q.symm)]
    exact h3 j hj
theorem Nr.made (W : World) (ty : TypeId) (kd : IntKind) (N : Nat) : Nr ty kd (W.alloc (.cells (madeCells #[.int kd 0] N) ty)) W.heap.size N (fun _ => 0) :=
  ⟨_, heap_alloc_new W _, size_madeCells _ _, fun i hi => by simp [madeCells, hi, Nat.mod_one]⟩
theorem Nr.kep {row : Option Nat} (s : Nr ty kd w g c f) (hg : w.grownBy w' row) (hr : ∀ r, row = some r → ∃ o : Obj, w.heap[r]? = some o ∧ o.isCells = false) : Nr ty kd w' g c f := by
  obtain ⟨vs, h1, h2⟩ := s
  exact ⟨vs, (hg.block g (Array.getElem?_eq_some_iff.1 h1).1 (fun e => by obtain ⟨o, ho, hc⟩ := hr g e.symm; rw [h1] at ho; cases ho; cases hc)).trans h1, h2⟩
end
/-- a row is laid over another. -/
theorem run_copy_nr (sty ity ty : TypeId) (kd : IntKind) (hu : Try.prog.underlying sty = some (.slice ty)) (hs : (Try.prog.info? ty).map (·.size) = some 1) (w : World) (g g2 c : Nat) (f h : Nat → Int) (hg : Nr ty kd w g c f) (hh : Nr ty kd w g2 c h) :
    ∃ w', (Builtin.copy_ #[sty, sty] ity #[.slice (some ⟨g, 0, none⟩) c c, .slice (some ⟨g2, 0, none⟩) c c]).run Try.prog w = .ok (.int .i64 (c : Nat)) w' ∧ Nr ty kd w' g c h ∧ w.grownBy w' (some g) := by
  obtain ⟨vs, h1, h2, h3⟩ := hg
  obtain ⟨us, u1, u2, u3⟩ := hh
  have hl : us.toList.length = c := by rw [Array.length_toList]; exact u2
  have hrun := run_copy_row (P := Try.prog) w sty sty ity ty g 0 c c ⟨g2, 0, none⟩ c c vs ty us.toList hu hs h1 (by rw [hl]; exact (Nat.min_self c).symm) (fun j v hj => by
    rw [Addr.add_lit, Nat.zero_add, cell_of_row w g2 j us _ _ u1, ← Array.getElem?_toList]; exact hj) (by rw [hl]; omega) (fun v hv => by
    obtain ⟨i, hi⟩ := List.getElem?_of_mem hv
    have hic : i < c := by have := (List.getElem?_eq_some_iff.1 hi).1; omega
    rw [Array.getElem?_toList, u3 i hic] at hi
    rw [← Option.some.inj hi]; rfl)
  rw [hl] at hrun
  refine ⟨_, hrun, ⟨_, setRow_heap w g _ _ _ _ h1, ?_, fun i hi => ?_⟩, ⟨rfl, rfl, rfl, by simp [World.setRow], fun j _ hne => setRow_other w g j _ (fun e => hne (by rw [e]))⟩⟩
  · simp; omega
  · rw [List.getElem?_toArray]
    simp only [List.take_zero, List.nil_append]
    rw [List.getElem?_append_left (by omega), Array.getElem?_toList]
    exact u3 i hi
/-- a table of rows of numbers: its list, its rows. -/
structure Tab (tl ty : TypeId) (kd : IntKind) (w : World) (G n c : Nat) (b : Nat → Nat) (F : Nat → Nat → Int) : Prop where
  ls : ∃ vs : Array Value, w.heap[G]? = some (.cells vs tl (0, 0)) ∧ vs.size = n ∧ ∀ i, i < n → vs[i]? = some (.slice (some ⟨b i, 0, none⟩) c c)
  rw : ∀ i, i < n → Nr ty kd w (b i) c (F i)
  inj : ∀ i j, i < n → j < n → b i = b j → i = j
section
variable {tl ty : TypeId} {kd : IntKind} {w w' : World} {G n c : Nat} {b : Nat → Nat} {F H : Nat → Nat → Int}
theorem Tab.lt (s : Tab tl ty kd w G n c b F) : G < w.heap.size := by
  obtain ⟨vs, h1, _⟩ := s.ls
  exact (Array.getElem?_eq_some_iff.1 h1).1
theorem Tab.cell (s : Tab tl ty kd w G n c b F) {i : Nat} (hi : i < n) : w.cell? ⟨G, i, none⟩ = some (.slice (some ⟨b i, 0, none⟩) c c) := by
  obtain ⟨vs, h1, h2, h3⟩ := s.ls
  rw [cell_of_row w G i vs _ _ h1]; exact h3 i hi
theorem Tab.kept (s : Tab tl ty kd w G n c b F) (hG : w'.heap[G]? = w.heap[G]?) (hb : ∀ i, i < n → w'.heap[b i]? = w.heap[b i]?) : Tab tl ty kd w' G n c b F :=
  ⟨by obtain ⟨vs, h1, h2⟩ := s.ls; exact ⟨vs, hG.trans h1, h2⟩, fun i hi => (s.rw i hi).kept (hb i hi), s.inj⟩
theorem Tab.same (s : Tab tl ty kd w G n c b F) (hB : Below w.heap.size w w') : Tab tl ty kd w' G n c b F :=
  s.kept (hB.block G s.lt) (fun i hi => hB.block _ (s.rw i hi).lt)
theorem Tab.congr (s : Tab tl ty kd w G n c b F) (he : ∀ i j, i < n → j < c → F i j = H i j) : Tab tl ty kd w G n c b H :=
  ⟨s.ls, fun i hi => (s.rw i hi).congr (fun j hj => he i j hi hj), s.inj⟩
theorem Tab.kep {row : Option Nat} (s : Tab tl ty kd w G n c b F) (hg : w.grownBy w' row) (hr : ∀ r, row = some r → ∃ o : Obj, w.heap[r]? = some o ∧ o.isCells = false) : Tab tl ty kd w' G n c b F :=
  ⟨by
    obtain ⟨vs, h1, h2⟩ := s.ls
    exact ⟨vs, (hg.block G (Array.getElem?_eq_some_iff.1 h1).1 (fun e => by obtain ⟨o, ho, hc⟩ := hr G e.symm; rw [h1] at ho; cases ho; cases hc)).trans h1, h2⟩, fun i hi => (s.rw i hi).kep hg hr, s.inj⟩
/-- a block of another type is none of a table's. -/
theorem Tab.ne_list (s : Tab tl ty kd w G n c b F) {k : Nat} {vs : Array Value} {t : TypeId} (hk : w.heap[k]? = some (.cells vs t (0, 0))) (hne : tl ≠ t) : k ≠ G := fun e => by
  obtain ⟨us, h1, _⟩ := s.ls
  rw [e, h1] at hk
  injection hk with hk; injection hk with _ hk
  exact hne hk
theorem Tab.ne_row (s : Tab tl ty kd w G n c b F) {k : Nat} {vs : Array Value} {t : TypeId} (hk : w.heap[k]? = some (.cells vs t (0, 0))) (hne : ty ≠ t) {i : Nat} (hi : i < n) : k ≠ b i := fun e => by
  obtain ⟨us, h1⟩ := (s.rw i hi).obj
  rw [e, h1] at hk
  injection hk with hk; injection hk with _ hk
  exact hne hk
/-- a row is another one from now on. -/
theorem Tab.rowset (s : Tab tl ty kd w G n c b F) (hne : tl ≠ ty) {i : Nat} (hi : i < n) {h : Nat → Int} (hr : Nr ty kd w' (b i) c h) (hg : w.grownBy w' (some (b i))) : Tab tl ty kd w' G n c b (fun j => if j = i then h else F j) := by
  have hGi : G ≠ b i := by
    obtain ⟨vs, h1, _⟩ := s.ls
    exact s.ne_row h1 (fun e => hne e.symm) hi
  refine ⟨?_, fun j hj => ?_, s.inj⟩
  · obtain ⟨vs, h1, h2⟩ := s.ls
    exact ⟨vs, (hg.block G s.lt (by intro e; injection e with e; exact hGi e)).trans h1, h2⟩
  · show Nr ty kd w' (b j) c (if j = i then h else F j)
    by_cases e : j = i
    · rw [if_pos e, e]; exact hr
    · rw [if_neg e]
      exact (s.rw j hj).kept (hg.block _ (s.rw j hj).lt (by intro q; injection q with q; exact e (s.inj j i hj hi q)))
end
/-- all blocks but some stay. -/
structure Fr (S : Nat → Prop) (w w' : World) : Prop where
  os : w'.os = w.os
  tape : w'.tape = w.tape
  output : w'.output = w.output
  size : w.heap.size ≤ w'.heap.size
  block : ∀ k, k < w.heap.size → ¬ S k → w'.heap[k]? = w.heap[k]?
section
variable {S : Nat → Prop} {w w' w2 : World}
theorem Fr.refl (S : Nat → Prop) (w : World) : Fr S w w := ⟨rfl, rfl, rfl, Nat.le_refl _, fun _ _ _ => rfl⟩
theorem Fr.trans (h : Fr S w w') (k : Fr S w' w2) : Fr S w w2 := ⟨k.os.trans h.os, k.tape.trans h.tape, k.output.trans h.output, Nat.le_trans h.size k.size, fun i hi hs => (k.block i (Nat.lt_of_lt_of_le hi h.size) hs).trans (h.block i hi hs)⟩
theorem Fr.of_below (h : Below w.heap.size w w') : Fr S w w' := ⟨h.os, h.tape, h.output, h.size, fun k hk _ => h.block k hk⟩
theorem Fr.of_grown {g : Nat} (h : w.grownBy w' (some g)) (hg : S g) : Fr S w w' := ⟨h.os, h.tape, h.output, h.size, fun k hk hs => h.block k hk (by intro e; injection e with e; exact hs (e ▸ hg))⟩
theorem Fr.below (h : Fr S w w') {B : Nat} (hB : B ≤ w.heap.size) (hs : ∀ k, S k → B ≤ k) : Below B w w' := ⟨h.os, h.tape, h.output, h.size, fun k hk => h.block k (by omega) (fun q => by have := hs k q; omega)⟩
theorem Fr.setCell (w : World) {g : Nat} (hg : S g) (i : Nat) (v : Value) : Fr S w (w.setCell ⟨g, i, none⟩ v) := Fr.of_grown (grownSet w g i v) hg
theorem Fr.tab {tl ty : TypeId} {kd : IntKind} {G n c : Nat} {b : Nat → Nat} {F : Nat → Nat → Int} (h : Fr S w w') (s : Tab tl ty kd w G n c b F) (hG : ¬ S G) (hb : ∀ i, i < n → ¬ S (b i)) : Tab tl ty kd w' G n c b F :=
  s.kept (h.block G s.lt hG) (fun i hi => h.block _ (s.rw i hi).lt (hb i hi))
end
/-- the step down: what one more least threshold turns. -/
theorem run_down (l : Ly) (cb : Nat → Nat → Int × Nat) (r f : Nat) : ∀ j, (∀ k, f ≤ k → k < f + (j + 1) → 0 ≤ l.v k) →
    run l cb r f (j + 1) = if may l cb r f ∧ (run l cb r (f + 1) j).1 ≤ sum l cb r f then (sum l cb r f, f) else run l cb r (f + 1) j
  | 0, hv => by
    have h0 := hv f (Nat.le_refl _) (by omega)
    show (if may l cb r (f + 0) ∧ (-1 : Int) < sum l cb r (f + 0) then (sum l cb r (f + 0), f + 0) else ((-1 : Int), 0)) = (if may l cb r f ∧ (-1 : Int) ≤ sum l cb r f then (sum l cb r f, f) else ((-1 : Int), 0))
    rw [Nat.add_zero]
    by_cases hm : may l cb r f
    · have hs : 0 ≤ sum l cb r f := by have := hm.2; unfold sum; omega
      rw [if_pos ⟨hm, by omega⟩, if_pos ⟨hm, by omega⟩]
    · rw [if_neg (fun h => hm h.1), if_neg (fun h => hm h.1)]
  | j + 1, hv => by
    have ih := run_down l cb r f j (fun k h1 h2 => hv k h1 (by omega))
    have e1 : run l cb r f (j + 1 + 1) = if may l cb r (f + (j + 1)) ∧ (run l cb r f (j + 1)).1 < sum l cb r (f + (j + 1)) then (sum l cb r (f + (j + 1)), f + (j + 1)) else run l cb r f (j + 1) := rfl
    have e2 : run l cb r (f + 1) (j + 1) = if may l cb r (f + 1 + j) ∧ (run l cb r (f + 1) j).1 < sum l cb r (f + 1 + j) then (sum l cb r (f + 1 + j), f + 1 + j) else run l cb r (f + 1) j := rfl
    rw [e1, e2, ih, show f + (j + 1) = f + 1 + j by omega]
    generalize run l cb r (f + 1) j = p
    generalize sum l cb r f = s
    generalize sum l cb r (f + 1 + j) = t
    by_cases m1 : may l cb r f <;> by_cases m2 : may l cb r (f + 1 + j) <;> by_cases c1 : p.1 ≤ s <;> by_cases c2 : p.1 < t <;> by_cases c3 : s < t <;> by_cases c4 : t ≤ s <;> simp [m1, m2, c1, c2, c3, c4] <;> first | rfl | omega | (exfalso; omega)
theorem run_down' (l : Ly) (cb : Nat → Nat → Int × Nat) (r : Nat) {f n : Nat} (hf : f ≤ n) (hv : ∀ k, f ≤ k → k ≤ n → 0 ≤ l.v k) :
    run l cb r f (n + 1 - f) = if may l cb r f ∧ (run l cb r (f + 1) (n + 1 - (f + 1))).1 ≤ sum l cb r f then (sum l cb r f, f) else run l cb r (f + 1) (n + 1 - (f + 1)) := by
  have := run_down l cb r f (n - f) (fun k h1 h2 => hv k h1 (by omega))
  rw [show n + 1 - f = n - f + 1 by omega, show n + 1 - (f + 1) = n - f by omega]
  exact this
end Go.Proofs.Ythkcacnlinajgaa.Pn

namespace Go.Proofs.Ythkcacnlinajgaa.Pn
open Go.RowKit Go.Shelf
open Go.Proofs.Ythkcacnlinajgaa.Wg (mask32 hmkI)
attribute [local go_sem] Oper.semAt_some

theorem Try.sizeInt1 : (Try.prog.info? 3).map (·.size) = some 1 := by kernel_rfl
/-- a block of c numbers, the first k of which are v. -/
def Rk (ty : TypeId) (kd : IntKind) (v : Int) (w : World) (g c k : Nat) : Prop := ∃ vs : Array Value, w.heap[g]? = some (.cells vs ty (0, 0)) ∧ vs.size = c ∧ ∀ i, i < k → vs[i]? = some (.int kd v)
section
variable {ty : TypeId} {kd : IntKind} {v : Int} {w w' : World} {g c k : Nat}
theorem Rk.lt (h : Rk ty kd v w g c k) : g < w.heap.size := by
  obtain ⟨vs, h1, _⟩ := h
  exact (Array.getElem?_eq_some_iff.1 h1).1
theorem Rk.same (h : Rk ty kd v w g c k) (hB : Below w.heap.size w w') : Rk ty kd v w' g c k := by
  obtain ⟨vs, h1, h2⟩ := h
  exact ⟨vs, (hB.block g (Array.getElem?_eq_some_iff.1 h1).1).trans h1, h2⟩
theorem Rk.cell (h : Rk ty kd v w g c k) {i : Nat} (hi : i < k) : w.cell? ⟨g, i, none⟩ = some (.int kd v) := by
  obtain ⟨vs, h1, h2, h3⟩ := h
  rw [cell_of_row w g i vs _ _ h1]; exact h3 i hi
theorem Rk.nr (h : Rk ty kd v w g c c) : Nr ty kd w g c (fun _ => v) := h
end
theorem rk_made (W : World) (ty : TypeId) (kd : IntKind) (v : Int) (N : Nat) : Rk ty kd v (W.alloc (.cells (madeCells #[.int kd 0] N) ty)) W.heap.size N 0 :=
  ⟨_, heap_alloc_new W _, size_madeCells _ _, fun i hi => absurd hi (Nat.not_lt_zero i)⟩
theorem run_copy_rk (sty ity ty : TypeId) (kd : IntKind) (v : Int) (hu : Try.prog.underlying sty = some (.slice ty)) (hsz : (Try.prog.info? ty).map (·.size) = some 1) (w : World) (g c k m dLen dCap sLen sCap : Nat) (ad : Addr) (hm : m = Nat.min sLen dLen) (h : Rk ty kd v w g c k) (hs : ∀ j, j < m → w.cell? (ad.add j) = some (.int kd v)) (hfit : k + m ≤ c) :
    ∃ w', (Builtin.copy_ #[sty, sty] ity #[.slice (some ⟨g, k, none⟩) dLen dCap, .slice (some ad) sLen sCap]).run Try.prog w = .ok (.int .i64 (m : Nat)) w' ∧ Rk ty kd v w' g c (k + m) ∧ w.grownBy w' (some g) := by
  obtain ⟨vs, h1, h2, h3⟩ := h
  have hl : (List.replicate m (Value.int kd v)).length = m := List.length_replicate
  have hrun := run_copy_row (P := Try.prog) w sty sty ity ty g k dLen dCap ad sLen sCap vs ty (List.replicate m (Value.int kd v)) hu hsz h1 (by rw [hl]; exact hm) (fun j u hj => by
    have hjm := (List.getElem?_eq_some_iff.1 hj).1
    rw [hl] at hjm
    rw [List.getElem?_replicate, if_pos hjm] at hj
    rw [← Option.some.inj hj]; exact hs j hjm) (by rw [hl, h2]; exact hfit) (fun u hu => by rw [List.eq_of_mem_replicate hu]; rfl)
  rw [hl] at hrun
  refine ⟨_, hrun, ⟨_, setRow_heap w g _ _ _ _ h1, ?_, fun i hi => ?_⟩, ⟨rfl, rfl, rfl, by simp [World.setRow], fun j _ hne => setRow_other w g j _ (fun e => hne (by rw [e]))⟩⟩
  · simp; omega
  · rw [List.getElem?_toArray]
    simp only [List.append_assoc]
    by_cases e : i < k
    · rw [List.getElem?_append_left (by simp; omega), List.getElem?_take, if_pos e, Array.getElem?_toList]
      exact h3 i e
    · rw [List.getElem?_append_right (by simp; omega)]
      have e1 : (List.take k vs.toList).length = k := by simp; omega
      rw [e1, List.getElem?_append_left (by rw [hl]; omega), List.getElem?_replicate, if_pos (by omega)]
set_option maxHeartbeats 1000000 in
theorem mul64_one2 (c : Nat) (hc : c ≤ 1000000) (w : World) :
    Calls Try.prog 106 #[.int .u64 1, .int .u64 (c : Nat)] w fun e w' => e = .returned (.tuple #[.int .u64 0, .int .u64 (c : Nat)]) ∧ w' = w := by
  have m0 : bits .and .u64 0 4294967295 = 0 := mask32 0 (by omega)
  have m1 : bits .and .u64 1 4294967295 = 1 := mask32 1 (by omega)
  have m2 := mask32 c (by omega)
  have m3 : (c : Int) / 4294967296 = 0 := by omega
  go_enter Try.func106, Try.ntmps106
  go_wp2
  go_ret2
  exact ⟨rfl, rfl⟩
set_option maxHeartbeats 1000000 in
theorem mul_one2 (c : Nat) (hc : c ≤ 1000000) (w : World) :
    Calls Try.prog 82 #[.int .u64 1, .int .u64 (c : Nat)] w fun e w' => e = .returned (.tuple #[.int .u64 0, .int .u64 (c : Nat)]) ∧ w' = w := by
  go_enter Try.func82, Try.ntmps82
  go_wp2_with fail
  refine (mul64_one2 c hc _).mono ?_
  rintro e w1 ⟨rfl, rfl⟩
  go_wp2
  go_ret2
  exact ⟨rfl, rfl⟩
theorem hmkB (N : Nat) (hN : N ≤ 1000000000) : ∀ W : World, (Instr.makeSlice 139 (.int .i64 (N : Nat)) (.int .i64 (N : Nat))).run Try.prog W = .ok (.slice (some ⟨W.heap.size, 0, none⟩) N N) (W.alloc (.cells (madeCells #[.int .u8 0] N) 5)) := hmk8 N (by omega)
/-- a row of one number alone, in a block of its own. -/
def RkSays (ty : TypeId) (kd : IntKind) (v : Int) (w : World) (c : Nat) (e : Ending) (w' : World) : Prop := ∃ g, w.heap.size ≤ g ∧ e = .returned (.slice (some ⟨g, 0, none⟩) c c) ∧ Rk ty kd v w' g c c ∧ Below w.heap.size w w'
set_option maxHeartbeats 4000000 in
set_option maxRecDepth 100000 in
theorem repeatI_any (v : Int) (x c : Nat) (hc : c ≤ 1000000) (h1 : 1 ≤ c) (w : World) (hx : Rk 3 .i64 v w x 1 1) :
    Calls Try.prog 49 #[.slice (some ⟨x, 0, none⟩) 1 1, .int .i64 (c : Nat)] w (RkSays 3 .i64 v w c) := by
  have hmk := hmkI c (by omega)
  have HX := Lib.hid hx; clear hx
  have hb1 : Below w.heap.size w (w.alloc (.cells (madeCells #[.int .i64 0] c) 3)) := (Below.refl _ w).alloc (Nat.le_refl _) _
  obtain ⟨w2, hrun, hr2, hg2⟩ := run_copy_rk 24 3 3 .i64 v Try.underlying24 Try.sizeInt1 (w.alloc (.cells (madeCells #[.int .i64 0] c) 3)) w.heap.size c 0 1 c c 1 1 ⟨x, 0, none⟩ (show 1 = min 1 c by omega) (rk_made w _ _ v c) (fun j hj => by
    obtain rfl : j = 0 := by omega
    rw [Addr.add_lit]; exact (HX.out.same hb1).cell (by omega)) (by omega)
  have HR2 := Lib.hid hr2; have HB2 := Lib.hid (hb1.grown hg2 hb1.size (fun g e => by cases e; exact Nat.le_refl _))
  clear hb1 hr2 hg2
  have i1 : ¬ (c : Int) < 0 := by omega
  have i3 : ¬ (9223372036854775807 : Int) < (c : Int) := by omega
  go_enter Try.func49, Try.ntmps49
  go_wp2_with fail
  refine (mul_one2 c hc _).mono ?_
  rintro e w1 ⟨rfl, rfl⟩
  go_wp2_with fail
  clear hrun hmk
  obtain ⟨g, hg⟩ : ∃ g, g = w1.heap.size := ⟨_, rfl⟩
  rw [← hg] at HR2 ⊢
  have HG := Lib.hid hg
  clear hg i1 i3
  go_loopw [8] (fun n wr => ∃ k : Nat, 1 ≤ k ∧ k ≤ c ∧ n = .int .i64 (k : Nat) ∧ Rk 3 .i64 v wr g c k ∧ Below w1.heap.size w1 wr) (fun n _ => c - (intOf n).toNat)
  case atStart => exact ⟨1, by omega, by omega, rfl, HR2.out, HB2.out⟩
  case round =>
    obtain ⟨k, hk1, hk, rfl, hr, hB⟩ := hrel
    have HR := Lib.hid hr; have HB := Lib.hid hB
    clear hr hB
    by_cases hkc : k < c
    · have i1 : (k : Int) < (c : Int) := by omega
      have i2 : ¬ c = k := by omega
      have i3 : (k : Int) ≤ (c : Int) := by omega
      obtain ⟨m, hm⟩ : ∃ m, m = min k (c - k) := ⟨_, rfl⟩
      have hm1 : 1 ≤ m := by omega
      have hmk2 : k + m ≤ c := by omega
      obtain ⟨w3, hw3⟩ : ∃ w3, w3 = wr.drew := ⟨_, rfl⟩
      have hr3 : Rk 3 .i64 v w3 g c k := by rw [hw3]; exact HR.out
      obtain ⟨w4, hrun, hr4, hg4⟩ := run_copy_rk 24 3 3 .i64 v Try.underlying24 Try.sizeInt1 w3 g c k m (c - k) (c - k) k c ⟨g, 0, none⟩ hm hr3 (fun j hj => by rw [Addr.add_lit, Nat.zero_add]; exact hr3.cell (by omega)) hmk2
      have HR4 := Lib.hid hr4
      have hb3 : Below w1.heap.size w1 w3 := by rw [hw3]; exact HB.out.drew
      have HB4 := Lib.hid (hb3.grown hg4 hb3.size (fun j e => by cases e; rw [HG.out]; exact Nat.le_refl _))
      have HW3 := Lib.hid hw3
      have HM := Lib.hid hm
      clear hr3 hr4 hg4 hb3 hw3 hm
      go_wp2_with fail
      rw [HW3.out] at hrun
      go_region
      go_wp2
      go_roundw
      case rel => exact ⟨k + m, by omega, by omega, by go_num, HR4.out, HB4.out⟩
      case measure => simp [intOf]; omega
    · obtain rfl : k = c := by omega
      have i1 : ¬ (k : Int) < (k : Int) := by omega
      go_wp2
      go_ret
      exact ⟨g, by rw [HG.out]; exact Nat.le_refl _, rfl, HR.out, HB.out⟩
set_option maxHeartbeats 4000000 in
set_option maxRecDepth 100000 in
theorem repeatB_any (v : Int) (x c : Nat) (hc : c ≤ 1000000) (h1 : 1 ≤ c) (w : World) (hx : Rk 5 .u8 v w x 1 1) :
    Calls Try.prog 85 #[.slice (some ⟨x, 0, none⟩) 1 1, .int .i64 (c : Nat)] w (RkSays 5 .u8 v w c) := by
  have hmk := hmkB c (by omega)
  have HX := Lib.hid hx; clear hx
  have hb1 : Below w.heap.size w (w.alloc (.cells (madeCells #[.int .u8 0] c) 5)) := (Below.refl _ w).alloc (Nat.le_refl _) _
  obtain ⟨w2, hrun, hr2, hg2⟩ := run_copy_rk 139 3 5 .u8 v Try.underlying139 Try.sizeU8 (w.alloc (.cells (madeCells #[.int .u8 0] c) 5)) w.heap.size c 0 1 c c 1 1 ⟨x, 0, none⟩ (show 1 = min 1 c by omega) (rk_made w _ _ v c) (fun j hj => by
    obtain rfl : j = 0 := by omega
    rw [Addr.add_lit]; exact (HX.out.same hb1).cell (by omega)) (by omega)
  have HR2 := Lib.hid hr2; have HB2 := Lib.hid (hb1.grown hg2 hb1.size (fun g e => by cases e; exact Nat.le_refl _))
  clear hb1 hr2 hg2
  have i1 : ¬ (c : Int) < 0 := by omega
  have i3 : ¬ (9223372036854775807 : Int) < (c : Int) := by omega
  go_enter Try.func85, Try.ntmps85
  go_wp2_with fail
  refine (mul_one2 c hc _).mono ?_
  rintro e w1 ⟨rfl, rfl⟩
  go_wp2_with fail
  clear hrun hmk
  obtain ⟨g, hg⟩ : ∃ g, g = w1.heap.size := ⟨_, rfl⟩
  rw [← hg] at HR2 ⊢
  have HG := Lib.hid hg
  clear hg i1 i3
  go_loopw [8] (fun n wr => ∃ k : Nat, 1 ≤ k ∧ k ≤ c ∧ n = .int .i64 (k : Nat) ∧ Rk 5 .u8 v wr g c k ∧ Below w1.heap.size w1 wr) (fun n _ => c - (intOf n).toNat)
  case atStart => exact ⟨1, by omega, by omega, rfl, HR2.out, HB2.out⟩
  case round =>
    obtain ⟨k, hk1, hk, rfl, hr, hB⟩ := hrel
    have HR := Lib.hid hr; have HB := Lib.hid hB
    clear hr hB
    by_cases hkc : k < c
    · have i1 : (k : Int) < (c : Int) := by omega
      have i2 : ¬ c = k := by omega
      have i3 : (k : Int) ≤ (c : Int) := by omega
      obtain ⟨m, hm⟩ : ∃ m, m = min k (c - k) := ⟨_, rfl⟩
      have hm1 : 1 ≤ m := by omega
      have hmk2 : k + m ≤ c := by omega
      obtain ⟨w3, hw3⟩ : ∃ w3, w3 = wr.drew := ⟨_, rfl⟩
      have hr3 : Rk 5 .u8 v w3 g c k := by rw [hw3]; exact HR.out
      obtain ⟨w4, hrun, hr4, hg4⟩ := run_copy_rk 139 3 5 .u8 v Try.underlying139 Try.sizeU8 w3 g c k m (c - k) (c - k) k c ⟨g, 0, none⟩ hm hr3 (fun j hj => by rw [Addr.add_lit, Nat.zero_add]; exact hr3.cell (by omega)) hmk2
      have HR4 := Lib.hid hr4
      have hb3 : Below w1.heap.size w1 w3 := by rw [hw3]; exact HB.out.drew
      have HB4 := Lib.hid (hb3.grown hg4 hb3.size (fun j e => by cases e; rw [HG.out]; exact Nat.le_refl _))
      have HW3 := Lib.hid hw3
      have HM := Lib.hid hm
      clear hr3 hr4 hg4 hb3 hw3 hm
      go_wp2_with fail
      rw [HW3.out] at hrun
      go_region
      go_wp2
      go_roundw
      case rel => exact ⟨k + m, by omega, by omega, by go_num, HR4.out, HB4.out⟩
      case measure => simp [intOf]; omega
    · obtain rfl : k = c := by omega
      have i1 : ¬ (k : Int) < (k : Int) := by omega
      go_wp2
      go_ret
      exact ⟨g, by rw [HG.out]; exact Nat.le_refl _, rfl, HR.out, HB.out⟩
end Go.Proofs.Ythkcacnlinajgaa.Pn

namespace Go.Proofs.Ythkcacnlinajgaa.Pn
open Go.RowKit Go.Shelf
attribute [local go_sem] Oper.semAt_some

/-- a table that is made: k rows of one number. -/
structure Tp (tl ty : TypeId) (kd : IntKind) (v : Int) (w : World) (G n c k : Nat) (b : Nat → Nat) : Prop where
  ls : ∃ vs : Array Value, w.heap[G]? = some (.cells vs tl (0, 0)) ∧ vs.size = n ∧ ∀ i, i < k → vs[i]? = some (.slice (some ⟨b i, 0, none⟩) c c)
  rw : ∀ i, i < k → G < b i ∧ Nr ty kd w (b i) c (fun _ => v)
  inj : ∀ i j, i < k → j < k → b i = b j → i = j
section
variable {tl ty : TypeId} {kd : IntKind} {v : Int} {w w' : World} {G n c k : Nat} {b : Nat → Nat}
theorem Tp.lt (s : Tp tl ty kd v w G n c k b) : G < w.heap.size := by
  obtain ⟨vs, h1, _⟩ := s.ls
  exact (Array.getElem?_eq_some_iff.1 h1).1
theorem Tp.same (s : Tp tl ty kd v w G n c k b) (hB : Below w.heap.size w w') : Tp tl ty kd v w' G n c k b :=
  ⟨by obtain ⟨vs, h1, h2⟩ := s.ls; exact ⟨vs, (hB.block G s.lt).trans h1, h2⟩, fun i hi => ⟨(s.rw i hi).1, (s.rw i hi).2.same hB⟩, s.inj⟩
theorem Tp.any (s : Tp tl ty kd v w G n c k b) {j : Nat} (hj : j < n) : ∃ x, w.cell? ⟨G, j, none⟩ = some x := by
  obtain ⟨vs, h1, h2, _⟩ := s.ls
  refine ⟨vs[j]'(by omega), ?_⟩
  rw [cell_of_row w G j vs _ _ h1]
  simp [show j < vs.size by omega]
theorem Tp.free (s : Tp tl ty kd v w G n c k b) (j : Nat) : w.frozen? ⟨G, j, none⟩ = false := by
  obtain ⟨vs, h1, _⟩ := s.ls
  exact frozen_of_row w G j vs _ h1
theorem Tp.new (w : World) (tl ty : TypeId) (kd : IntKind) (v : Int) (n c : Nat) (b : Nat → Nat) : Tp tl ty kd v (w.alloc (.cells (madeCells #[.slice none 0 0] n) tl)) w.heap.size n c 0 b :=
  ⟨⟨_, heap_alloc_new w _, by rw [size_madeCells], fun i hi => absurd hi (Nat.not_lt_zero i)⟩, fun i hi => absurd hi (Nat.not_lt_zero i), fun i j hi => absurd hi (Nat.not_lt_zero i)⟩
theorem Tp.put (s : Tp tl ty kd v w G n c k b) (hk : k < n) {g : Nat} (hg : G < g) (hn : ∀ i, i < k → b i ≠ g) (hr : Nr ty kd w g c (fun _ => v)) : Tp tl ty kd v (w.setCell ⟨G, k, none⟩ (.slice (some ⟨g, 0, none⟩) c c)) G n c (k + 1) (fun i => if i = k then g else b i) := by
  have ho : ∀ j, j ≠ G → (w.setCell ⟨G, k, none⟩ (.slice (some ⟨g, 0, none⟩) c c)).heap[j]? = w.heap[j]? := fun j hj => Below.heap_setCell w ⟨G, k, none⟩ _ j hj
  refine ⟨?_, fun i hi => ?_, fun i j hi hj => ?_⟩
  · obtain ⟨vs, h1, h2, h3⟩ := s.ls
    refine ⟨_, heap_setCell_same w G k vs _ _ h1, by simpa using h2, fun i hi => ?_⟩
    show _ = some (Value.slice (some ⟨if i = k then g else b i, 0, none⟩) c c)
    by_cases e : i = k
    · subst e
      rw [if_pos rfl, Array.getElem?_setIfInBounds_self_of_lt (by omega)]
    · rw [if_neg e, Array.getElem?_setIfInBounds_ne (fun q => e q.symm)]
      exact h3 i (by omega)
  · show G < (if i = k then g else b i) ∧ Nr ty kd _ (if i = k then g else b i) c _
    by_cases e : i = k
    · rw [if_pos e]; exact ⟨hg, hr.kept (ho g (by omega))⟩
    · rw [if_neg e]
      obtain ⟨h1, h2⟩ := s.rw i (by omega)
      exact ⟨h1, h2.kept (ho _ (by omega))⟩
  · show (if i = k then g else b i) = (if j = k then g else b j) → i = j
    by_cases e : i = k <;> by_cases e2 : j = k
    · intro _; omega
    · rw [if_pos e, if_neg e2]; intro q; exact absurd q.symm (hn j (by omega))
    · rw [if_neg e, if_pos e2]; intro q; exact absurd q (hn i (by omega))
    · rw [if_neg e, if_neg e2]; exact s.inj i j (by omega) (by omega)
theorem Tp.tab (s : Tp tl ty kd v w G n c n b) : Tab tl ty kd w G n c b (fun _ _ => v) := ⟨s.ls, fun i hi => (s.rw i hi).2, s.inj⟩
end
theorem rk_one (W : World) (ty : TypeId) (kd : IntKind) (v : Int) : Rk ty kd v (W.alloc (.cells #[.int kd v] ty)) W.heap.size 1 1 := by
  refine ⟨_, heap_alloc_new W _, rfl, fun i hi => ?_⟩
  cases i with
  | zero => rfl
  | succ i => omega
/-- what a filled table is told as. -/
def FilSays (tl ty : TypeId) (kd : IntKind) (v : Int) (w : World) (n c : Nat) (e : Ending) (w' : World) : Prop := ∃ G b, e = .returned (.slice (some ⟨G, 0, none⟩) n n) ∧ w.heap.size ≤ G ∧ (∀ i, i < n → w.heap.size ≤ b i) ∧ Tab tl ty kd w' G n c b (fun _ _ => v) ∧ Below w.heap.size w w'
theorem Try.infoRowI : (Try.prog.info? 24).map (fun i => (i.zero, i.size, i.bytes)) = some (some (.slice none 0 0), 1, 24) := by kernel_rfl
theorem hmkTbI (N : Nat) (hN : N ≤ 1000000000) : ∀ W : World, (Instr.makeSlice 102 (.int .i64 (N : Nat)) (.int .i64 (N : Nat))).run Try.prog W = .ok (.slice (some ⟨W.heap.size, 0, none⟩) N N) (W.alloc (.cells (madeCells #[.slice none 0 0] N) 24)) := fun W => by
  obtain ⟨i0, hi, hz0, hz1, hz2⟩ := info_parts Try.infoRowI
  have := run_make (P := Try.prog) W 102 24 i0 (.slice none 0 0) Try.underlying102 hi hz0 .i64 .i64 (N : Int) (N : Int) (by omega) (Int.le_refl _) (by rw [hz2]; omega) (by omega)
  have e : (Value.slice none 0 0).cells = #[.slice none 0 0] := rfl
  rw [hz1, e, Int.toNat_natCast, Nat.mul_one] at this; exact this
set_option maxHeartbeats 4000000 in
set_option maxRecDepth 100000 in
theorem filledI_any (v : Int) (n R : Nat) (hn : n ≤ 1000) (hR : R ≤ 100000) (w : World) :
    Calls Try.prog 51 #[.int .i64 (n : Nat), .int .i64 (R : Nat), .int .i64 v] w (FilSays 24 3 .i64 v w (n + 2) (R + 1)) := by
  obtain ⟨T, hT⟩ : ∃ T, T = n + 2 := ⟨_, rfl⟩
  obtain ⟨Q, hQ⟩ : ∃ Q, Q = R + 1 := ⟨_, rfl⟩
  have hnT : (n : Int) + 2 = (T : Int) := by omega
  have hRQ : (R : Int) + 1 = (Q : Int) := by omega
  have hT2 : T ≤ 1002 := by omega
  have hQ2 : Q ≤ 100001 := by omega
  have HQ1 := Lib.hid (show 1 ≤ Q by omega)
  rw [← hT, ← hQ]
  have hmk := hmkTbI T (by omega)
  have HTP := Lib.hid (Tp.new w 24 3 .i64 v T Q (fun _ => 0))
  have HB0 := Lib.hid ((Below.refl w.heap.size w).alloc (Nat.le_refl _) (.cells (madeCells #[.slice none 0 0] T) 24))
  clear hT hQ
  go_enter Try.func51, Try.ntmps51
  go_wp2_with fail
  obtain ⟨G, hG⟩ : ∃ G, G = w.heap.size := ⟨_, rfl⟩
  rw [← hG] at HTP ⊢
  have HG := Lib.hid hG
  clear hG hmk
  generalize w.alloc (.cells (madeCells #[.slice none 0 0] T) 24) = w0 at *
  go_loopw [14] (fun i wr => ∃ (k : Nat) (b : Nat → Nat), k ≤ T ∧ i = .int .i64 (k : Nat) ∧ Tp 24 3 .i64 v wr G T Q k b ∧ Below w.heap.size w wr) (fun i _ => T - (intOf i).toNat)
  case atStart => exact ⟨0, fun _ => 0, by omega, rfl, HTP.out, HB0.out⟩
  case round =>
    obtain ⟨k, b, hk, rfl, hp, hB⟩ := hrel
    have HP := Lib.hid hp; have HB := Lib.hid hB
    clear hp hB
    by_cases hkT : k < T
    · have i1 : (k : Int) < (T : Int) := by omega
      have hal : Below wr.heap.size wr (wr.alloc (.cells #[.int .i64 v] 3)) := (Below.refl _ wr).alloc (Nat.le_refl _) _
      have HX := Lib.hid (show Rk 3 .i64 v (wr.alloc (.cells #[.int .i64 v] 3)) wr.heap.size 1 1 from rk_one wr _ _ v)
      have HPa := Lib.hid (HP.out.same hal)
      have HBa := Lib.hid (HB.out.trans (hal.mono HB.out.size))
      have HZ := Lib.hid (show wr.heap.size ≤ (wr.alloc (.cells #[.int .i64 v] 3)).heap.size from hal.size)
      have HLT := Lib.hid HP.out.lt
      clear hal HP HB
      go_wp2_with fail
      generalize hwa : wr.alloc (.cells #[.int .i64 v] 3) = wa at *
      clear hwa
      refine (repeatI_any v _ Q (by omega) HQ1.out _ HX.out).mono ?_
      rintro e w2 ⟨g, hg, rfl, hrk, hB2⟩
      have hP2 := HPa.out.same hB2
      obtain ⟨x, hx⟩ := hP2.any hkT
      have hfr := hP2.free k
      have hput := hP2.put hkT (g := g) (by have := HPa.out.lt; omega) (fun i hi q => by have := ((HPa.out.rw i hi).2).lt; omega) hrk.nr
      have HPUT := Lib.hid hput
      have HBf := Lib.hid ((HBa.out.trans (hB2.mono HBa.out.size)).setCell (p := ⟨G, k, none⟩) (by show _ ≤ G; rw [HG.out]; exact Nat.le_refl _) (.slice (some ⟨g, 0, none⟩) Q Q))
      clear hP2 hput hrk hB2
      go_wp2
      go_roundw
      case rel => exact ⟨k + 1, _, by omega, by go_num, HPUT.out, HBf.out⟩
      case measure => simp [intOf]; omega
    · obtain rfl : k = T := by omega
      have i1 : ¬ (k : Int) < (k : Int) := by omega
      go_wp2
      go_ret
      exact ⟨G, b, rfl, by rw [HG.out]; exact Nat.le_refl _, fun i hi => by have := (HP.out.rw i hi).1; have := HG.out; omega, HP.out.tab, HB.out⟩
theorem Try.infoRowB : (Try.prog.info? 139).map (fun i => (i.zero, i.size, i.bytes)) = some (some (.slice none 0 0), 1, 24) := by kernel_rfl
theorem hmkTbB (N : Nat) (hN : N ≤ 1000000000) : ∀ W : World, (Instr.makeSlice 110 (.int .i64 (N : Nat)) (.int .i64 (N : Nat))).run Try.prog W = .ok (.slice (some ⟨W.heap.size, 0, none⟩) N N) (W.alloc (.cells (madeCells #[.slice none 0 0] N) 139)) := fun W => by
  obtain ⟨i0, hi, hz0, hz1, hz2⟩ := info_parts Try.infoRowB
  have := run_make (P := Try.prog) W 110 139 i0 (.slice none 0 0) Try.underlying110 hi hz0 .i64 .i64 (N : Int) (N : Int) (by omega) (Int.le_refl _) (by rw [hz2]; omega) (by omega)
  have e : (Value.slice none 0 0).cells = #[.slice none 0 0] := rfl
  rw [hz1, e, Int.toNat_natCast, Nat.mul_one] at this; exact this
set_option maxHeartbeats 4000000 in
set_option maxRecDepth 100000 in
theorem filledB_any (v : Int) (n R : Nat) (hn : n ≤ 1000) (hR : R ≤ 100000) (w : World) :
    Calls Try.prog 53 #[.int .i64 (n : Nat), .int .i64 (R : Nat), .int .u8 v] w (FilSays 139 5 .u8 v w (n + 2) (R + 1)) := by
  obtain ⟨T, hT⟩ : ∃ T, T = n + 2 := ⟨_, rfl⟩
  obtain ⟨Q, hQ⟩ : ∃ Q, Q = R + 1 := ⟨_, rfl⟩
  have hnT : (n : Int) + 2 = (T : Int) := by omega
  have hRQ : (R : Int) + 1 = (Q : Int) := by omega
  have hT2 : T ≤ 1002 := by omega
  have hQ2 : Q ≤ 100001 := by omega
  have HQ1 := Lib.hid (show 1 ≤ Q by omega)
  rw [← hT, ← hQ]
  have hmk := hmkTbB T (by omega)
  have HTP := Lib.hid (Tp.new w 139 5 .u8 v T Q (fun _ => 0))
  have HB0 := Lib.hid ((Below.refl w.heap.size w).alloc (Nat.le_refl _) (.cells (madeCells #[.slice none 0 0] T) 139))
  clear hT hQ
  go_enter Try.func53, Try.ntmps53
  go_wp2_with fail
  obtain ⟨G, hG⟩ : ∃ G, G = w.heap.size := ⟨_, rfl⟩
  rw [← hG] at HTP ⊢
  have HG := Lib.hid hG
  clear hG hmk
  generalize w.alloc (.cells (madeCells #[.slice none 0 0] T) 139) = w0 at *
  go_loopw [14] (fun i wr => ∃ (k : Nat) (b : Nat → Nat), k ≤ T ∧ i = .int .i64 (k : Nat) ∧ Tp 139 5 .u8 v wr G T Q k b ∧ Below w.heap.size w wr) (fun i _ => T - (intOf i).toNat)
  case atStart => exact ⟨0, fun _ => 0, by omega, rfl, HTP.out, HB0.out⟩
  case round =>
    obtain ⟨k, b, hk, rfl, hp, hB⟩ := hrel
    have HP := Lib.hid hp; have HB := Lib.hid hB
    clear hp hB
    by_cases hkT : k < T
    · have i1 : (k : Int) < (T : Int) := by omega
      have hal : Below wr.heap.size wr (wr.alloc (.cells #[.int .u8 v] 5)) := (Below.refl _ wr).alloc (Nat.le_refl _) _
      have HX := Lib.hid (show Rk 5 .u8 v (wr.alloc (.cells #[.int .u8 v] 5)) wr.heap.size 1 1 from rk_one wr _ _ v)
      have HPa := Lib.hid (HP.out.same hal)
      have HBa := Lib.hid (HB.out.trans (hal.mono HB.out.size))
      have HZ := Lib.hid (show wr.heap.size ≤ (wr.alloc (.cells #[.int .u8 v] 5)).heap.size from hal.size)
      have HLT := Lib.hid HP.out.lt
      clear hal HP HB
      go_wp2_with fail
      generalize hwa : wr.alloc (.cells #[.int .u8 v] 5) = wa at *
      clear hwa
      refine (repeatB_any v _ Q (by omega) HQ1.out _ HX.out).mono ?_
      rintro e w2 ⟨g, hg, rfl, hrk, hB2⟩
      have hP2 := HPa.out.same hB2
      obtain ⟨x, hx⟩ := hP2.any hkT
      have hfr := hP2.free k
      have hput := hP2.put hkT (g := g) (by have := HPa.out.lt; omega) (fun i hi q => by have := ((HPa.out.rw i hi).2).lt; omega) hrk.nr
      have HPUT := Lib.hid hput
      have HBf := Lib.hid ((HBa.out.trans (hB2.mono HBa.out.size)).setCell (p := ⟨G, k, none⟩) (by show _ ≤ G; rw [HG.out]; exact Nat.le_refl _) (.slice (some ⟨g, 0, none⟩) Q Q))
      clear hP2 hput hrk hB2
      go_wp2
      go_roundw
      case rel => exact ⟨k + 1, _, by omega, by go_num, HPUT.out, HBf.out⟩
      case measure => simp [intOf]; omega
    · obtain rfl : k = T := by omega
      have i1 : ¬ (k : Int) < (k : Int) := by omega
      go_wp2
      go_ret
      exact ⟨G, b, rfl, by rw [HG.out]; exact Nat.le_refl _, fun i hi => by have := (HP.out.rw i hi).1; have := HG.out; omega, HP.out.tab, HB.out⟩
end Go.Proofs.Ythkcacnlinajgaa.Pn

namespace Go.Proofs.Ythkcacnlinajgaa.Pn
open Go.RowKit Go.Shelf
attribute [local go_sem] Oper.semAt_some

set_option maxHeartbeats 2000000 in
set_option maxRecDepth 100000 in
theorem inheritI_any (G n c k : Nat) (b : Nat → Nat) (F : Nat → Nat → Int) (hk : k + 1 < n) (hn : n ≤ 100000) (w : World) (hs : Tab 24 3 .i64 w G n c b F) :
    Calls Try.prog 86 #[.slice (some ⟨G, 0, none⟩) n n, .int .i64 (k : Nat)] w fun e w' => e = .returned (.tuple #[]) ∧ Nr 3 .i64 w' (b k) c (F (k + 1)) ∧ w.grownBy w' (some (b k)) := by
  have c1 := hs.cell (i := k) (by omega)
  have c2 := hs.cell (i := k + 1) hk
  have r1 := hs.rw k (by omega)
  have r2 := hs.rw (k + 1) hk
  have i1 : (k : Int) < (n : Int) := by omega
  have i2 : ((k + 1 : Nat) : Int) < (n : Int) := by omega
  have i3 : (k : Int) + 1 = ((k + 1 : Nat) : Int) := by omega
  obtain ⟨w2, hrun, hr2, hg2⟩ := run_copy_nr 24 3 3 .i64 Try.underlying24 Try.sizeInt1 w.drew (b k) (b (k + 1)) c _ _ (r1.same (Below.refl _ w).drew) (r2.same (Below.refl _ w).drew)
  have HR := Lib.hid hr2
  have HG := Lib.hid (show w.grownBy w2 (some (b k)) from ⟨hg2.os, hg2.tape, hg2.output, hg2.size, hg2.block⟩)
  clear hr2 hg2 r1 r2 hs
  generalize b (k + 1) = b2 at *
  generalize hkk : k + 1 = k2 at *
  go_enter Try.func86, Try.ntmps86
  go_region
  go_wp2
  go_end0
  exact ⟨rfl, HR.out, HG.out⟩

set_option maxHeartbeats 2000000 in
set_option maxRecDepth 100000 in
theorem inheritB_any (G n c k : Nat) (b : Nat → Nat) (F : Nat → Nat → Int) (hk : k + 1 < n) (hn : n ≤ 100000) (w : World) (hs : Tab 139 5 .u8 w G n c b F) :
    Calls Try.prog 87 #[.slice (some ⟨G, 0, none⟩) n n, .int .i64 (k : Nat)] w fun e w' => e = .returned (.tuple #[]) ∧ Nr 5 .u8 w' (b k) c (F (k + 1)) ∧ w.grownBy w' (some (b k)) := by
  have c1 := hs.cell (i := k) (by omega)
  have c2 := hs.cell (i := k + 1) hk
  have r1 := hs.rw k (by omega)
  have r2 := hs.rw (k + 1) hk
  have i1 : (k : Int) < (n : Int) := by omega
  have i2 : ((k + 1 : Nat) : Int) < (n : Int) := by omega
  have i3 : (k : Int) + 1 = ((k + 1 : Nat) : Int) := by omega
  obtain ⟨w2, hrun, hr2, hg2⟩ := run_copy_nr 139 3 5 .u8 Try.underlying139 Try.sizeU8 w.drew (b k) (b (k + 1)) c _ _ (r1.same (Below.refl _ w).drew) (r2.same (Below.refl _ w).drew)
  have HR := Lib.hid hr2
  have HG := Lib.hid (show w.grownBy w2 (some (b k)) from ⟨hg2.os, hg2.tape, hg2.output, hg2.size, hg2.block⟩)
  clear hr2 hg2 r1 r2 hs
  generalize b (k + 1) = b2 at *
  generalize hkk : k + 1 = k2 at *
  go_enter Try.func87, Try.ntmps87
  go_region
  go_wp2
  go_end0
  exact ⟨rfl, HR.out, HG.out⟩
end Go.Proofs.Ythkcacnlinajgaa.Pn
