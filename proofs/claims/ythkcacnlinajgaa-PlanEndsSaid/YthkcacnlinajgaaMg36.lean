import Derived.Lib.MakeNoZero
import Derived.Laws.Externs
import Derived.Test.YthkcacnlinajgaaMg35
namespace Go.Proofs.Ythkcacnlinajgaa
open Go.RowKit Go.Shelf

theorem bl_none {w : World} {g : Nat} {cs : Array Value} (h : w.heap[g]? = some (.cells cs 5 (0, 0))) : Bl w g 0 cs.size (fun _ => 0) := ⟨cs, h, rfl, fun _ hi => absurd hi (Nat.not_lt_zero _)⟩

/-- where the second row is laid. -/
def JTwo (w w2 : World) (n m T C : Nat) (f h : Nat → Nat) (s i : Value) (wr : World) : Prop := (s = .int .i64 n ∧ i = .int .i64 0 ∧ wr = w2) ∨ (s = .int .i64 T ∧ i = .int .i64 1 ∧ Bl wr w.heap.size T C (cpy n m h (cpy 0 n f (fun _ => 0))) ∧ Below w.heap.size w wr)
/-- how long the first ones are. -/
def JLen (n m : Nat) (s i : Value) : Prop := (s = .int .i64 0 ∧ i = .int .i64 0) ∨ (s = .int .i64 n ∧ i = .int .i64 1) ∨ (s = .int .i64 ((n + m : Nat) : Int) ∧ i = .int .i64 2)
def JLeft (n : Nat) (i : Value) : Nat := n - (intOf i).toNat
end Go.Proofs.Ythkcacnlinajgaa
