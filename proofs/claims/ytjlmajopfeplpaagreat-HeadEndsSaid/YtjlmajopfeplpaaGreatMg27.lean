import Derived.Test.YtjlmajopfeplpaaGreatMg19
import Derived.Test.YtjlmajopfeplpaaGreatMg26
namespace Go.Proofs.YtjlmajopfeplpaaGreat
open Go.RowKit Go.Shelf

theorem dst_no {P : Nat → Nat} {n : Nat} (h : ∃ i j, i < j ∧ j < n ∧ P i = P j) : ¬ Pf.Dst P n := fun hd => by
  obtain ⟨i, j, h1, h2, h3⟩ := h
  exact hd i j h1 h2 h3

theorem bl_unit (W : World) (n k : Nat) (hk : k < n) : Bl (W.alloc (.cells ((madeCells #[.int .u8 0] n).setIfInBounds k (.int .u8 1)) 5)) W.heap.size n n (Pf.dlt k) := by
  refine ⟨_, heap_alloc_new _ _, by rw [Array.size_setIfInBounds]; exact size_madeCells _ _, fun i hi => ?_⟩
  have hz := get_zeros (n := n) hi
  rw [Array.getElem?_toList] at hz
  rw [Array.getElem?_setIfInBounds]
  have hs : (madeCells #[Value.int .u8 0] n).size = n := size_madeCells _ _
  unfold Pf.dlt
  by_cases e : k = i
  · subst e; rw [if_pos rfl, if_pos (by omega), if_pos rfl]; rfl
  · rw [if_neg e, if_neg (Ne.symm e)]; exact hz
/-- what Weights answers. -/
def WgtSays (w : World) (n x : Nat) (P : Nat → Nat) (e : Ending) (w' : World) : Prop := (Pf.Dst P n ∧ GivesV w n (Pf.lw P n x) e w') ∨ (¬ Pf.Dst P n ∧ e = .returned (.tuple #[.slice none 0 0, .int .i64 9]) ∧ Below w.heap.size w w')

end Go.Proofs.YtjlmajopfeplpaaGreat

namespace Go.Proofs.YtjlmajopfeplpaaGreat
open Go.RowKit Go.Shelf

/-- the first K bytes, and no more. -/
def idk (K i : Nat) : Nat := if i < K then i else 0
theorem idk_by {K : Nat} (h : K ≤ 256) : Pf.By (idk K) := fun i => by unfold idk; split <;> omega
theorem idk_up (K : Nat) : Pf.Up (idk K) K := fun i hi => by unfold idk; rw [if_neg (by omega)]
theorem idk_idn {K : Nat} (h : K ≤ 256) (x : Nat) : Pf.lw (idk K) K x = Pf.lw Pf.idn K x := Pf.lw_congr (fun j hj => by unfold idk; rw [if_pos hj, Pf.idn_at (by omega)]) x
theorem idk_dst {K : Nat} : Pf.Dst (idk K) K := fun i j hi hj => by unfold idk; rw [if_pos (by omega), if_pos hj]; omega

/-- what the document's Table answers. -/
def TabR (w : World) (N K : Nat) (e : Ending) (w' : World) : Prop :=
  ∃ a cap b c, e = .returned (.tuple #[.slice a N cap, .int .i64 0]) ∧ Go_ w' w.heap.size a N cap b (fun _ => K) c (Pf.tbl K) ∧ Below w.heap.size w w'

end Go.Proofs.YtjlmajopfeplpaaGreat
