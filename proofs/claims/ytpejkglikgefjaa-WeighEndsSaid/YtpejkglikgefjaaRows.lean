/-
  No cell of these rows narrows 'for every input' (looked for: loops, veiled, ifaces, maps, wideKeys, modest, calm, conditions, laid).
  DERIVED. THE GIVEN ROWS OF THIS SEAT. 4 by the template 'for every input the law returns true; each argument reads behind the call as it read before'; 0 by the template 'total and deterministic' (their statements: YtpejkglikgefjaaTotals.lean).
  GIVEN WITH THE SEED: the statements are not yours to turn. If you find one false, say at which input.
  Laid BY PROGRAM, IN A SANDBOX (cutbox-rows.mjs): the forced cells as the released guide's own fill.sh prints them over the translation 89450fe6f864779b… (all of the seat's roots in one cut). By AI agents, Wed Nov 11 2026. No macro, syntax, notation, axiom, sorry.
-/
import Derived.Test.YtpejkglikgefjaaChecked
import GoSem.Claim
import GoSem.ClaimJoined
import GoSem.ClaimMapViews
import Derived.JoinedTies
import Derived.KernelRfl
namespace Go.Proofs.Ytpejkglikgefjaa
/- THE CELL 'sum', in the pinned program and in every row, IS THE sha256 OF THE DUMP (.gsa) THAT YtpejkglikgefjaaProg.lean LOADS. Nothing in Lean hashes anything: it is a label: what it is worth is what the hold of that sum in a sandbox is worth. -/
noncomputable def Try.pinned : Pinned := { name := "ytpejkglikgefjaa", sum := "89450fe6f864779bc8655a9ea1041829fd7414ad8eb8ed98b36410e8018c2b8d", checked := Try.checked }
namespace Rows
def none {H : Type} : Left H := { results := [], args := [] }

/-- 'hourglasslaw12.WeighDoes': WHATEVER THE INPUT: true; the input reads as it did. -/
def weighDoesSpec : ChangeSpec := { name := "weighDoes", fn := fun _ => fun
  | [d1, d2, d3, d4, d5] => { results := [.lit (.bool true)], args := [d1, d2, d3, d4, d5] }
  | _ => none }
def weighDoesRow : OpenClaim := { program := "ytpejkglikgefjaa", sum := "89450fe6f864779bc8655a9ea1041829fd7414ad8eb8ed98b36410e8018c2b8d", func := "hourglass/hourglasslaw12.WeighDoes", spec := "weighDoes", unfollowed := true, recurses := true, apart := false }
def WeighDoesSaid : Prop := weighDoesRow.holds Try.pinned (OpenSpec.ofChange weighDoesSpec)

/-- ITS FALSE NEIGHBOUR: 'it returns false'. Refute it at one input. -/
def weighDoesWrong : ChangeSpec := { name := "weighDoes", fn := fun _ => fun
  | [d1, d2, d3, d4, d5] => { results := [.lit (.bool false)], args := [d1, d2, d3, d4, d5] }
  | _ => none }
def WeighDoesWrongFalsely : Prop := weighDoesRow.holds Try.pinned (OpenSpec.ofChange weighDoesWrong)

/-- 'hourglasslaw12.WeighEnds': WHATEVER THE INPUT: true; the input reads as it did. -/
def weighEndsSpec : ChangeSpec := { name := "weighEnds", fn := fun _ => fun
  | [] => { results := [.lit (.bool true)], args := [] }
  | _ => none }
def weighEndsRow : OpenClaim := { program := "ytpejkglikgefjaa", sum := "89450fe6f864779bc8655a9ea1041829fd7414ad8eb8ed98b36410e8018c2b8d", func := "hourglass/hourglasslaw12.WeighEnds", spec := "weighEnds", unfollowed := true, recurses := true, apart := false }
def WeighEndsSaid : Prop := weighEndsRow.holds Try.pinned (OpenSpec.ofChange weighEndsSpec)

/-- ITS FALSE NEIGHBOUR: 'it returns false'. Refute it at one input. -/
def weighEndsWrong : ChangeSpec := { name := "weighEnds", fn := fun _ => fun
  | [] => { results := [.lit (.bool false)], args := [] }
  | _ => none }
def WeighEndsWrongFalsely : Prop := weighEndsRow.holds Try.pinned (OpenSpec.ofChange weighEndsWrong)

/-- 'hourglasslaw12.WeighOrder': WHATEVER THE INPUT: true; the input reads as it did. -/
def weighOrderSpec : ChangeSpec := { name := "weighOrder", fn := fun _ => fun
  | [d1, d2, d3, d4, d5] => { results := [.lit (.bool true)], args := [d1, d2, d3, d4, d5] }
  | _ => none }
def weighOrderRow : OpenClaim := { program := "ytpejkglikgefjaa", sum := "89450fe6f864779bc8655a9ea1041829fd7414ad8eb8ed98b36410e8018c2b8d", func := "hourglass/hourglasslaw12.WeighOrder", spec := "weighOrder", unfollowed := true, recurses := true, apart := false }
def WeighOrderSaid : Prop := weighOrderRow.holds Try.pinned (OpenSpec.ofChange weighOrderSpec)

/-- ITS FALSE NEIGHBOUR: 'it returns false'. Refute it at one input. -/
def weighOrderWrong : ChangeSpec := { name := "weighOrder", fn := fun _ => fun
  | [d1, d2, d3, d4, d5] => { results := [.lit (.bool false)], args := [d1, d2, d3, d4, d5] }
  | _ => none }
def WeighOrderWrongFalsely : Prop := weighOrderRow.holds Try.pinned (OpenSpec.ofChange weighOrderWrong)

/-- 'hourglasslaw12.WeighLess': WHATEVER THE INPUT: true; the input reads as it did. -/
def weighLessSpec : ChangeSpec := { name := "weighLess", fn := fun _ => fun
  | [d1, d2, d3, d4, d5] => { results := [.lit (.bool true)], args := [d1, d2, d3, d4, d5] }
  | _ => none }
def weighLessRow : OpenClaim := { program := "ytpejkglikgefjaa", sum := "89450fe6f864779bc8655a9ea1041829fd7414ad8eb8ed98b36410e8018c2b8d", func := "hourglass/hourglasslaw12.WeighLess", spec := "weighLess", unfollowed := true, recurses := true, apart := false }
def WeighLessSaid : Prop := weighLessRow.holds Try.pinned (OpenSpec.ofChange weighLessSpec)

/-- ITS FALSE NEIGHBOUR: 'it returns false'. Refute it at one input. -/
def weighLessWrong : ChangeSpec := { name := "weighLess", fn := fun _ => fun
  | [d1, d2, d3, d4, d5] => { results := [.lit (.bool false)], args := [d1, d2, d3, d4, d5] }
  | _ => none }
def WeighLessWrongFalsely : Prop := weighLessRow.holds Try.pinned (OpenSpec.ofChange weighLessWrong)

/- THE SECOND FORM. 'bulk': how many values and letters a reading holds, each counted each time it is reached (what is shared counts as often as it is met; a slice's spare places count too). A statement '..UptoSaid' is the law's where the arguments, and the package variables that the reading takes, are together of bulk at most 1048576: NARROWER than '..Said'. Prove '..Said' where nothing that the law and all that it calls make is longer than what came in: it says more and counts as full. Else prove '..UptoSaid'. A law counts once. -/
mutual
def uptoBulk {H : Type} : DataW H → Nat
  | .lit (.string bytes) => bytes.length + 1
  | .lit _ => 1
  | .nil => 1
  | .ptr d => uptoBulk d + 1
  | .slice elems spare => uptoBulkAll elems + uptoBulkAll spare + 1
  | .agg parts => uptoBulkAll parts + 1
  | .iface _ d => uptoBulk d + 1
  | .map entries => uptoBulkEntries entries + 1
  | .held _ => 1
def uptoBulkAll {H : Type} : List (DataW H) → Nat
  | [] => 0
  | d :: r => uptoBulk d + uptoBulkAll r
def uptoBulkEntries {H : Type} : List (Lit × DataW H) → Nat
  | [] => 0
  | x :: r => uptoBulkEntry x + uptoBulkEntries r
def uptoBulkEntry {H : Type} : Lit × DataW H → Nat
  | (.string bytes, d) => bytes.length + uptoBulk d + 1
  | (_, d) => uptoBulk d + 1
 end
def uptoSmall : (H : Type) → List (DataW H) → Bool := fun _ ds => decide (uptoBulkAll ds ≤ 1048576)
def OpenSpec.upto (s : _root_.Go.ChangeSpec) : _root_.Go.OpenSpec := { _root_.Go.OpenSpec.ofChange s with cond := some uptoSmall }

/-- 'hourglasslaw12.WeighDoes', WHERE WHAT IT READS IS OF BULK AT MOST 1048576: true; the input reads as it did. -/
def weighDoesUptoRow : OpenClaim := { program := "ytpejkglikgefjaa", sum := "89450fe6f864779bc8655a9ea1041829fd7414ad8eb8ed98b36410e8018c2b8d", func := "hourglass/hourglasslaw12.WeighDoes", spec := "weighDoes", unfollowed := true, recurses := true, apart := false, narrowed := true }
def WeighDoesUptoSaid : Prop := weighDoesUptoRow.holds Try.pinned (OpenSpec.upto weighDoesSpec)

/-- 'hourglasslaw12.WeighEnds', WHERE WHAT IT READS IS OF BULK AT MOST 1048576: true; the input reads as it did. -/
def weighEndsUptoRow : OpenClaim := { program := "ytpejkglikgefjaa", sum := "89450fe6f864779bc8655a9ea1041829fd7414ad8eb8ed98b36410e8018c2b8d", func := "hourglass/hourglasslaw12.WeighEnds", spec := "weighEnds", unfollowed := true, recurses := true, apart := false, narrowed := true }
def WeighEndsUptoSaid : Prop := weighEndsUptoRow.holds Try.pinned (OpenSpec.upto weighEndsSpec)

/-- 'hourglasslaw12.WeighOrder', WHERE WHAT IT READS IS OF BULK AT MOST 1048576: true; the input reads as it did. -/
def weighOrderUptoRow : OpenClaim := { program := "ytpejkglikgefjaa", sum := "89450fe6f864779bc8655a9ea1041829fd7414ad8eb8ed98b36410e8018c2b8d", func := "hourglass/hourglasslaw12.WeighOrder", spec := "weighOrder", unfollowed := true, recurses := true, apart := false, narrowed := true }
def WeighOrderUptoSaid : Prop := weighOrderUptoRow.holds Try.pinned (OpenSpec.upto weighOrderSpec)

/-- 'hourglasslaw12.WeighLess', WHERE WHAT IT READS IS OF BULK AT MOST 1048576: true; the input reads as it did. -/
def weighLessUptoRow : OpenClaim := { program := "ytpejkglikgefjaa", sum := "89450fe6f864779bc8655a9ea1041829fd7414ad8eb8ed98b36410e8018c2b8d", func := "hourglass/hourglasslaw12.WeighLess", spec := "weighLess", unfollowed := true, recurses := true, apart := false, narrowed := true }
def WeighLessUptoSaid : Prop := weighLessUptoRow.holds Try.pinned (OpenSpec.upto weighLessSpec)

end Rows
end Go.Proofs.Ytpejkglikgefjaa
