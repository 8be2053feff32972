import Derived.Test.YtmabdfcabpnabaaPx
namespace Go.Proofs.Ytmabdfcabpnabaa.Pf
open Gf
/-- the places 0, 1 and so on. -/
def idf (l i : Nat) : Nat := if i < l then i else 0
/-- the values there. -/
def vf (p : Nat → Nat) (l i : Nat) : Nat := if i < l then ev p i l else 0
/-- how many of the first k bytes a polynomial is 0 at. -/
def cnt (p : Nat → Nat) (l k : Nat) : Nat := ((List.range k).filter fun x => decide (ev p x l = 0)).length
theorem idf_by {l : Nat} (h : l ≤ 256) : By (idf l) := fun i => by unfold idf; split <;> omega
theorem idf_up (l : Nat) : Up (idf l) l := fun i hi => by unfold idf; rw [if_neg (by omega)]
theorem vf_by {p : Nat → Nat} {l : Nat} (hp : By p) (h : l ≤ 256) : By (vf p l) := fun i => by
  unfold vf; split
  · exact ev_lt hp (by omega) l
  · omega
theorem vf_up (p : Nat → Nat) (l : Nat) : Up (vf p l) l := fun i hi => by unfold vf; rw [if_neg (by omega)]
theorem cnt_zero (p : Nat → Nat) (l : Nat) : cnt p l 0 = 0 := rfl
theorem cnt_at {p : Nat → Nat} {l k : Nat} (h : ev p k l = 0) : cnt p l (k + 1) = cnt p l k + 1 := by
  unfold cnt; rw [List.range_succ, List.filter_append, List.length_append]; simp [h]
theorem cnt_not {p : Nat → Nat} {l k : Nat} (h : ev p k l ≠ 0) : cnt p l (k + 1) = cnt p l k := by
  unfold cnt; rw [List.range_succ, List.filter_append, List.length_append]; simp [h]
theorem cnt_le (p : Nat → Nat) (l k : Nat) : cnt p l k ≤ k := by
  unfold cnt
  exact Nat.le_trans (List.length_filter_le _ _) (by simp)
theorem through_back {p S N : Nat → Nat} {l : Nat} (hp : By p) (hu : Up p l) (hl : l ≤ 256) (h : Newt (idf l) (vf p l) l S N) : S = p :=
  same_through (xs := idf l) (l := l) (idf_by hl) h.two h.sb hp h.su hu fun i hi => by
    rw [h.at_ i hi]
    unfold vf idf
    rw [if_pos hi, if_pos hi]
theorem cnt_zeros {p : Nat → Nat} {l : Nat} (hp : By p) (hu : Up p l) (h0 : ln p l ≠ 0) : cnt p l 256 + 1 ≤ ln p l := by
  rcases Nat.lt_or_ge (cnt p l 256) (ln p l) with h | h
  · exact h
  exfalso
  have hL := ln_Ln l hu
  have := roots (ln p l) p ((List.range 256).filter fun x => decide (ev p x l = 0)) hp ((List.nodup_range).filter _) (fun r hr => by
      have := (List.mem_filter.1 hr).1
      exact List.mem_range.1 this) h (fun r hr => by
      have := of_decide_eq_true (List.mem_filter.1 hr).2
      rw [← this]
      exact ev_any r hu hL.1) (ln p l - 1) (by omega)
  rcases hL.2 with h1 | h1
  · exact h0 h1
  · exact h1 this
end Go.Proofs.Ytmabdfcabpnabaa.Pf
