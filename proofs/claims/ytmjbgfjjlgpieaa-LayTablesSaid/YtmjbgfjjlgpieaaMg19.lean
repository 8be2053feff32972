import Derived.Test.YtmjbgfjjlgpieaaMg12
import Derived.Test.YtmjbgfjjlgpieaaMg16
import Derived.Test.YtmjbgfjjlgpieaaMg18
namespace Go.Proofs.Ytmjbgfjjlgpieaa
open Go.RowKit Go.Shelf

/-- the first k bytes of a sum. -/
def Crc.bytN (s k i : Nat) : Nat := if i < k then Crc.byt s i else 0
theorem Crc.bytN_by (s k : Nat) : Pf.By (Crc.bytN s k) := fun i => by
  unfold Crc.bytN; split
  · exact Crc.byt_lt s i
  · omega
theorem Crc.bytN_up (s k : Nat) : Pf.Up (Crc.bytN s k) k := fun i hi => by unfold Crc.bytN; rw [if_neg (by omega)]
theorem Crc.byt_i (s k : Nat) : IntKind.u8.wrap ((s : Int) / 2 ^ (8 * k)) = ((Crc.byt s k : Nat) : Int) := by
  have h : (s : Int) / 2 ^ (8 * k) = ((s / 2 ^ (8 * k) : Nat) : Int) := by simp
  rw [h, IntKind.wrap_u8]
  unfold Crc.byt
  rw [show 256 = 2 ^ 8 from rfl, ← Nat.pow_mul]; omega

end Go.Proofs.Ytmjbgfjjlgpieaa
