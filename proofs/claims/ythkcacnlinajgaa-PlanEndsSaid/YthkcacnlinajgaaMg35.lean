import Derived.Laws.AppendOwnNone
import Derived.Test.YthkcacnlinajgaaMg13
import Derived.Test.YthkcacnlinajgaaMg15
import Derived.Test.YthkcacnlinajgaaMg23
namespace Go.Proofs.Ythkcacnlinajgaa
open Go.RowKit Go.Shelf

/-- the first k bytes of a sum. -/
def Crc.bytN (s k i : Nat) : Nat := if i < k then Crc.byt s i else 0
theorem Crc.bytN_by (s k : Nat) : Pf.By (Crc.bytN s k) := fun i => by
  unfold Crc.bytN; split
  · exact Crc.byt_lt s i
  · omega
theorem Crc.bytN_up (s k : Nat) : Pf.Up (Crc.bytN s k) k := fun i hi => by unfold Crc.bytN; rw [if_neg (by omega)]
theorem Crc.byt_i (s k : Nat) : IntKind.u8.wrap ((s : Int) / 2 ^ (8 * k)) = ((Crc.byt s k : Nat) : Int) := by
  have h : (s : Int) / 2 ^ (8 * k) = ((s / 2 ^ (8 * k) : Nat) : Int) := by simp
  rw [h, IntKind.wrap_u8]
  unfold Crc.byt
  rw [show 256 = 2 ^ 8 from rfl, ← Nat.pow_mul]; omega

end Go.Proofs.Ythkcacnlinajgaa

namespace Go.Proofs.Ythkcacnlinajgaa
open Go.RowKit Go.Shelf

end Go.Proofs.Ythkcacnlinajgaa

namespace Go.Proofs.Ythkcacnlinajgaa
open Go.RowKit Go.Shelf

/-- what a call answers that hands out a matrix of so many rows and columns, made row by row. -/
def Puts (w : World) (h wi : Nat) (f : Nat → Nat → Nat) (e : Ending) (w' : World) : Prop :=
  ∃ a cap b, e = .returned (.slice a h cap) ∧ Go_ w' w.heap.size a h cap b (fun _ => wi) (fun _ => wi) f ∧ Below w.heap.size w w'

end Go.Proofs.Ythkcacnlinajgaa
