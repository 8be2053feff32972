/-
  No cell of these rows narrows 'for every input' (looked for: loops, veiled, ifaces, maps, wideKeys, modest, calm, conditions, laid).
  DERIVED. THE GIVEN ROWS OF THIS SEAT. 4 by the template 'for every input the law returns true; each argument reads behind the call as it read before'; 0 by the template 'total and deterministic' (their statements: YtgflpfopiofjeaaTotals.lean).
  GIVEN WITH THE SEED: the statements are not yours to turn. If you find one false, say at which input.
  Laid BY PROGRAM, IN A SANDBOX (cutbox-rows.mjs): the forced cells as the released guide's own fill.sh prints them over the translation e11c18166ef5b9de… (all of the seat's roots in one cut). By AI agents, Wed Nov 11 2026. No macro, syntax, notation, axiom, sorry.
-/
import Derived.Test.YtgflpfopiofjeaaChecked
import GoSem.Claim
import GoSem.ClaimJoined
import GoSem.ClaimMapViews
import Derived.JoinedTies
import Derived.KernelRfl
namespace Go.Proofs.Ytgflpfopiofjeaa
/- THE CELL 'sum', in the pinned program and in every row, IS THE sha256 OF THE DUMP (.gsa) THAT YtgflpfopiofjeaaProg.lean LOADS. Nothing in Lean hashes anything: it is a label: what it is worth is what the hold of that sum in a sandbox is worth. -/
noncomputable def Try.pinned : Pinned := { name := "ytgflpfopiofjeaa", sum := "e11c18166ef5b9dea66f410094d9301e5c01b09e962bbc2dd763fce39f20d9b2", checked := Try.checked }
namespace Rows
def none {H : Type} : Left H := { results := [], args := [] }

/-- 'hourglasslaw03.RowsDo': WHATEVER THE INPUT: true; the input reads as it did. -/
def rowsDoSpec : ChangeSpec := { name := "rowsDo", fn := fun _ => fun
  | [d1, d2, d3, d4] => { results := [.lit (.bool true)], args := [d1, d2, d3, d4] }
  | _ => none }
def rowsDoRow : OpenClaim := { program := "ytgflpfopiofjeaa", sum := "e11c18166ef5b9dea66f410094d9301e5c01b09e962bbc2dd763fce39f20d9b2", func := "hourglass/hourglasslaw03.RowsDo", spec := "rowsDo", apart := false }
def RowsDoSaid : Prop := rowsDoRow.holds Try.pinned (OpenSpec.ofChange rowsDoSpec)

/-- ITS FALSE NEIGHBOUR: 'it returns false'. Refute it at one input. -/
def rowsDoWrong : ChangeSpec := { name := "rowsDo", fn := fun _ => fun
  | [d1, d2, d3, d4] => { results := [.lit (.bool false)], args := [d1, d2, d3, d4] }
  | _ => none }
def RowsDoWrongFalsely : Prop := rowsDoRow.holds Try.pinned (OpenSpec.ofChange rowsDoWrong)

/-- 'hourglasslaw03.RowsEnds': WHATEVER THE INPUT: true; the input reads as it did. -/
def rowsEndsSpec : ChangeSpec := { name := "rowsEnds", fn := fun _ => fun
  | [] => { results := [.lit (.bool true)], args := [] }
  | _ => none }
def rowsEndsRow : OpenClaim := { program := "ytgflpfopiofjeaa", sum := "e11c18166ef5b9dea66f410094d9301e5c01b09e962bbc2dd763fce39f20d9b2", func := "hourglass/hourglasslaw03.RowsEnds", spec := "rowsEnds", apart := false }
def RowsEndsSaid : Prop := rowsEndsRow.holds Try.pinned (OpenSpec.ofChange rowsEndsSpec)

/-- ITS FALSE NEIGHBOUR: 'it returns false'. Refute it at one input. -/
def rowsEndsWrong : ChangeSpec := { name := "rowsEnds", fn := fun _ => fun
  | [] => { results := [.lit (.bool false)], args := [] }
  | _ => none }
def RowsEndsWrongFalsely : Prop := rowsEndsRow.holds Try.pinned (OpenSpec.ofChange rowsEndsWrong)

/-- 'hourglasslaw03.RowsBack': WHATEVER THE INPUT: true; the input reads as it did. -/
def rowsBackSpec : ChangeSpec := { name := "rowsBack", fn := fun _ => fun
  | [d1, d2] => { results := [.lit (.bool true)], args := [d1, d2] }
  | _ => none }
def rowsBackRow : OpenClaim := { program := "ytgflpfopiofjeaa", sum := "e11c18166ef5b9dea66f410094d9301e5c01b09e962bbc2dd763fce39f20d9b2", func := "hourglass/hourglasslaw03.RowsBack", spec := "rowsBack", apart := false }
def RowsBackSaid : Prop := rowsBackRow.holds Try.pinned (OpenSpec.ofChange rowsBackSpec)

/-- ITS FALSE NEIGHBOUR: 'it returns false'. Refute it at one input. -/
def rowsBackWrong : ChangeSpec := { name := "rowsBack", fn := fun _ => fun
  | [d1, d2] => { results := [.lit (.bool false)], args := [d1, d2] }
  | _ => none }
def RowsBackWrongFalsely : Prop := rowsBackRow.holds Try.pinned (OpenSpec.ofChange rowsBackWrong)

/-- 'hourglasslaw03.RowsNest': WHATEVER THE INPUT: true; the input reads as it did. -/
def rowsNestSpec : ChangeSpec := { name := "rowsNest", fn := fun _ => fun
  | [d1, d2, d3] => { results := [.lit (.bool true)], args := [d1, d2, d3] }
  | _ => none }
def rowsNestRow : OpenClaim := { program := "ytgflpfopiofjeaa", sum := "e11c18166ef5b9dea66f410094d9301e5c01b09e962bbc2dd763fce39f20d9b2", func := "hourglass/hourglasslaw03.RowsNest", spec := "rowsNest", apart := false }
def RowsNestSaid : Prop := rowsNestRow.holds Try.pinned (OpenSpec.ofChange rowsNestSpec)

/-- ITS FALSE NEIGHBOUR: 'it returns false'. Refute it at one input. -/
def rowsNestWrong : ChangeSpec := { name := "rowsNest", fn := fun _ => fun
  | [d1, d2, d3] => { results := [.lit (.bool false)], args := [d1, d2, d3] }
  | _ => none }
def RowsNestWrongFalsely : Prop := rowsNestRow.holds Try.pinned (OpenSpec.ofChange rowsNestWrong)

/- THE SECOND FORM. 'bulk': how many values and letters a reading holds, each counted each time it is reached (what is shared counts as often as it is met; a slice's spare places count too). A statement '..UptoSaid' is the law's where the arguments, and the package variables that the reading takes, are together of bulk at most 1048576: NARROWER than '..Said'. Prove '..Said' where nothing that the law and all that it calls make is longer than what came in: it says more and counts as full. Else prove '..UptoSaid'. A law counts once. -/
mutual
def uptoBulk {H : Type} : DataW H → Nat
  | .lit (.string bytes) => bytes.length + 1
  | .lit _ => 1
  | .nil => 1
  | .ptr d => uptoBulk d + 1
  | .slice elems spare => uptoBulkAll elems + uptoBulkAll spare + 1
  | .agg parts => uptoBulkAll parts + 1
  | .iface _ d => uptoBulk d + 1
  | .map entries => uptoBulkEntries entries + 1
  | .held _ => 1
def uptoBulkAll {H : Type} : List (DataW H) → Nat
  | [] => 0
  | d :: r => uptoBulk d + uptoBulkAll r
def uptoBulkEntries {H : Type} : List (Lit × DataW H) → Nat
  | [] => 0
  | x :: r => uptoBulkEntry x + uptoBulkEntries r
def uptoBulkEntry {H : Type} : Lit × DataW H → Nat
  | (.string bytes, d) => bytes.length + uptoBulk d + 1
  | (_, d) => uptoBulk d + 1
 end
def uptoSmall : (H : Type) → List (DataW H) → Bool := fun _ ds => decide (uptoBulkAll ds ≤ 1048576)
def OpenSpec.upto (s : _root_.Go.ChangeSpec) : _root_.Go.OpenSpec := { _root_.Go.OpenSpec.ofChange s with cond := some uptoSmall }

/-- 'hourglasslaw03.RowsDo', WHERE WHAT IT READS IS OF BULK AT MOST 1048576: true; the input reads as it did. -/
def rowsDoUptoRow : OpenClaim := { program := "ytgflpfopiofjeaa", sum := "e11c18166ef5b9dea66f410094d9301e5c01b09e962bbc2dd763fce39f20d9b2", func := "hourglass/hourglasslaw03.RowsDo", spec := "rowsDo", apart := false, narrowed := true }
def RowsDoUptoSaid : Prop := rowsDoUptoRow.holds Try.pinned (OpenSpec.upto rowsDoSpec)

/-- 'hourglasslaw03.RowsEnds', WHERE WHAT IT READS IS OF BULK AT MOST 1048576: true; the input reads as it did. -/
def rowsEndsUptoRow : OpenClaim := { program := "ytgflpfopiofjeaa", sum := "e11c18166ef5b9dea66f410094d9301e5c01b09e962bbc2dd763fce39f20d9b2", func := "hourglass/hourglasslaw03.RowsEnds", spec := "rowsEnds", apart := false, narrowed := true }
def RowsEndsUptoSaid : Prop := rowsEndsUptoRow.holds Try.pinned (OpenSpec.upto rowsEndsSpec)

/-- 'hourglasslaw03.RowsBack', WHERE WHAT IT READS IS OF BULK AT MOST 1048576: true; the input reads as it did. -/
def rowsBackUptoRow : OpenClaim := { program := "ytgflpfopiofjeaa", sum := "e11c18166ef5b9dea66f410094d9301e5c01b09e962bbc2dd763fce39f20d9b2", func := "hourglass/hourglasslaw03.RowsBack", spec := "rowsBack", apart := false, narrowed := true }
def RowsBackUptoSaid : Prop := rowsBackUptoRow.holds Try.pinned (OpenSpec.upto rowsBackSpec)

/-- 'hourglasslaw03.RowsNest', WHERE WHAT IT READS IS OF BULK AT MOST 1048576: true; the input reads as it did. -/
def rowsNestUptoRow : OpenClaim := { program := "ytgflpfopiofjeaa", sum := "e11c18166ef5b9dea66f410094d9301e5c01b09e962bbc2dd763fce39f20d9b2", func := "hourglass/hourglasslaw03.RowsNest", spec := "rowsNest", apart := false, narrowed := true }
def RowsNestUptoSaid : Prop := rowsNestUptoRow.holds Try.pinned (OpenSpec.upto rowsNestSpec)

end Rows
end Go.Proofs.Ytgflpfopiofjeaa
