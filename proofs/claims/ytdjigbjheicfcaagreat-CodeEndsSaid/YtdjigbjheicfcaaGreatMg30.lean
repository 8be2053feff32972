import Derived.Laws.AppendOwnNone
import Derived.Test.YtdjigbjheicfcaaGreatMg22
namespace Go.Proofs.YtdjigbjheicfcaaGreat
open Go.RowKit Go.Shelf

end Go.Proofs.YtdjigbjheicfcaaGreat

namespace Go.Proofs.YtdjigbjheicfcaaGreat
open Go.RowKit Go.Shelf

/-- what a call answers that hands out a matrix of so many rows and columns, made row by row. -/
def Puts (w : World) (h wi : Nat) (f : Nat → Nat → Nat) (e : Ending) (w' : World) : Prop :=
  ∃ a cap b, e = .returned (.slice a h cap) ∧ Go_ w' w.heap.size a h cap b (fun _ => wi) (fun _ => wi) f ∧ Below w.heap.size w w'

end Go.Proofs.YtdjigbjheicfcaaGreat
