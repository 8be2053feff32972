import Derived.Test.YtdempjkkahjekaaGA
namespace Go.Proofs.Ytdempjkkahjekaa
open Go.RowKit Go.Shelf

/-- what stands within so many rows and columns, else 0. -/
def cl (h w : Nat) (M : Nat → Nat → Nat) (i j : Nat) : Nat := if i < h ∧ j < w then M i j else 0
theorem cl_bm {M : Nat → Nat → Nat} (hM : Mt.Bm M) (h w : Nat) : Mt.Bm (cl h w M) := fun i j => by
  unfold cl; split
  · exact hM i j
  · omega
theorem cl_in {M : Nat → Nat → Nat} {h w i j : Nat} (hi : i < h) (hj : j < w) : cl h w M i j = M i j := if_pos ⟨hi, hj⟩
theorem cl_up (h w : Nat) (M : Nat → Nat → Nat) (i : Nat) : Pf.Up (cl h w M i) w := fun j hj => if_neg (by omega)
theorem unit_cl {n i j : Nat} (hi : i < n) : cutf Mt.dl n 0 n i j = cl n n Mt.dl i j := by
  unfold cutf sub cl
  rw [if_pos hi, Nat.zero_add]
  by_cases h : j < n
  · rw [if_pos h, if_pos ⟨hi, h⟩]
  · rw [if_neg h, if_neg (by omega)]
/-- what a call answers that hands out a row of bytes, and no error. -/
def GivesE (w : World) (n : Nat) (f : Nat → Nat) (e : Ending) (w' : World) : Prop :=
  ∃ g, e = .returned (.tuple #[.slice (some ⟨g, 0, none⟩) n n, .int .i64 0]) ∧ w.heap.size ≤ g ∧ Bl w' g n n f ∧ Below w.heap.size w w'
/-- what a call answers that refuses. -/
def Refuses (w : World) (k : Int) (e : Ending) (w' : World) : Prop := e = .returned (.tuple #[.slice none 0 0, .int .i64 k]) ∧ Below w.heap.size w w'

end Go.Proofs.Ytdempjkkahjekaa
