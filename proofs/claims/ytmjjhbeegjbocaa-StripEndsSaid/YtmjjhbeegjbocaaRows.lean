/-
  No cell of these rows narrows 'for every input' (looked for: loops, veiled, ifaces, maps, wideKeys, modest, calm, conditions, laid).
  DERIVED. THE GIVEN ROWS OF THIS SEAT. 4 by the template 'for every input the law returns true; each argument reads behind the call as it read before'; 0 by the template 'total and deterministic' (their statements: YtmjjhbeegjbocaaTotals.lean).
  GIVEN WITH THE SEED: the statements are not yours to turn. If you find one false, say at which input.
  Laid BY PROGRAM, IN A SANDBOX (cutbox-rows.mjs): the forced cells as the released guide's own fill.sh prints them over the translation 53f60d49ceb1a4ee… (all of the seat's roots in one cut). By AI agents, Wed Nov 11 2026. No macro, syntax, notation, axiom, sorry.
-/
import Derived.Test.YtmjjhbeegjbocaaChecked
import GoSem.Claim
import GoSem.ClaimJoined
import GoSem.ClaimMapViews
import Derived.JoinedTies
import Derived.KernelRfl
namespace Go.Proofs.Ytmjjhbeegjbocaa
/- THE CELL 'sum', in the pinned program and in every row, IS THE sha256 OF THE DUMP (.gsa) THAT YtmjjhbeegjbocaaProg.lean LOADS. Nothing in Lean hashes anything: it is a label: what it is worth is what the hold of that sum in a sandbox is worth. -/
noncomputable def Try.pinned : Pinned := { name := "ytmjjhbeegjbocaa", sum := "53f60d49ceb1a4ee3bfffbbdaad00f246a5f5a990bbfd867a82ea8795f282b01", checked := Try.checked }
namespace Rows
def none {H : Type} : Left H := { results := [], args := [] }

/-- 'hourglasslaw09.StripDoes': WHATEVER THE INPUT: true; the input reads as it did. -/
def stripDoesSpec : ChangeSpec := { name := "stripDoes", fn := fun _ => fun
  | [d1, d2, d3, d4] => { results := [.lit (.bool true)], args := [d1, d2, d3, d4] }
  | _ => none }
def stripDoesRow : OpenClaim := { program := "ytmjjhbeegjbocaa", sum := "53f60d49ceb1a4ee3bfffbbdaad00f246a5f5a990bbfd867a82ea8795f282b01", func := "hourglass/hourglasslaw09.StripDoes", spec := "stripDoes", unfollowed := true, recurses := true, apart := false }
def StripDoesSaid : Prop := stripDoesRow.holds Try.pinned (OpenSpec.ofChange stripDoesSpec)

/-- ITS FALSE NEIGHBOUR: 'it returns false'. Refute it at one input. -/
def stripDoesWrong : ChangeSpec := { name := "stripDoes", fn := fun _ => fun
  | [d1, d2, d3, d4] => { results := [.lit (.bool false)], args := [d1, d2, d3, d4] }
  | _ => none }
def StripDoesWrongFalsely : Prop := stripDoesRow.holds Try.pinned (OpenSpec.ofChange stripDoesWrong)

/-- 'hourglasslaw09.StripEnds': WHATEVER THE INPUT: true; the input reads as it did. -/
def stripEndsSpec : ChangeSpec := { name := "stripEnds", fn := fun _ => fun
  | [] => { results := [.lit (.bool true)], args := [] }
  | _ => none }
def stripEndsRow : OpenClaim := { program := "ytmjjhbeegjbocaa", sum := "53f60d49ceb1a4ee3bfffbbdaad00f246a5f5a990bbfd867a82ea8795f282b01", func := "hourglass/hourglasslaw09.StripEnds", spec := "stripEnds", unfollowed := true, recurses := true, apart := false }
def StripEndsSaid : Prop := stripEndsRow.holds Try.pinned (OpenSpec.ofChange stripEndsSpec)

/-- ITS FALSE NEIGHBOUR: 'it returns false'. Refute it at one input. -/
def stripEndsWrong : ChangeSpec := { name := "stripEnds", fn := fun _ => fun
  | [] => { results := [.lit (.bool false)], args := [] }
  | _ => none }
def StripEndsWrongFalsely : Prop := stripEndsRow.holds Try.pinned (OpenSpec.ofChange stripEndsWrong)

/-- 'hourglasslaw09.StripBack': WHATEVER THE INPUT: true; the input reads as it did. -/
def stripBackSpec : ChangeSpec := { name := "stripBack", fn := fun _ => fun
  | [d1, d2, d3, d4] => { results := [.lit (.bool true)], args := [d1, d2, d3, d4] }
  | _ => none }
def stripBackRow : OpenClaim := { program := "ytmjjhbeegjbocaa", sum := "53f60d49ceb1a4ee3bfffbbdaad00f246a5f5a990bbfd867a82ea8795f282b01", func := "hourglass/hourglasslaw09.StripBack", spec := "stripBack", unfollowed := true, recurses := true, apart := false }
def StripBackSaid : Prop := stripBackRow.holds Try.pinned (OpenSpec.ofChange stripBackSpec)

/-- ITS FALSE NEIGHBOUR: 'it returns false'. Refute it at one input. -/
def stripBackWrong : ChangeSpec := { name := "stripBack", fn := fun _ => fun
  | [d1, d2, d3, d4] => { results := [.lit (.bool false)], args := [d1, d2, d3, d4] }
  | _ => none }
def StripBackWrongFalsely : Prop := stripBackRow.holds Try.pinned (OpenSpec.ofChange stripBackWrong)

/-- 'hourglasslaw09.StripLess': WHATEVER THE INPUT: true; the input reads as it did. -/
def stripLessSpec : ChangeSpec := { name := "stripLess", fn := fun _ => fun
  | [d1, d2, d3, d4] => { results := [.lit (.bool true)], args := [d1, d2, d3, d4] }
  | _ => none }
def stripLessRow : OpenClaim := { program := "ytmjjhbeegjbocaa", sum := "53f60d49ceb1a4ee3bfffbbdaad00f246a5f5a990bbfd867a82ea8795f282b01", func := "hourglass/hourglasslaw09.StripLess", spec := "stripLess", unfollowed := true, recurses := true, apart := false }
def StripLessSaid : Prop := stripLessRow.holds Try.pinned (OpenSpec.ofChange stripLessSpec)

/-- ITS FALSE NEIGHBOUR: 'it returns false'. Refute it at one input. -/
def stripLessWrong : ChangeSpec := { name := "stripLess", fn := fun _ => fun
  | [d1, d2, d3, d4] => { results := [.lit (.bool false)], args := [d1, d2, d3, d4] }
  | _ => none }
def StripLessWrongFalsely : Prop := stripLessRow.holds Try.pinned (OpenSpec.ofChange stripLessWrong)

/- THE SECOND FORM. 'bulk': how many values and letters a reading holds, each counted each time it is reached (what is shared counts as often as it is met; a slice's spare places count too). A statement '..UptoSaid' is the law's where the arguments, and the package variables that the reading takes, are together of bulk at most 1048576: NARROWER than '..Said'. Prove '..Said' where nothing that the law and all that it calls make is longer than what came in: it says more and counts as full. Else prove '..UptoSaid'. A law counts once. -/
mutual
def uptoBulk {H : Type} : DataW H → Nat
  | .lit (.string bytes) => bytes.length + 1
  | .lit _ => 1
  | .nil => 1
  | .ptr d => uptoBulk d + 1
  | .slice elems spare => uptoBulkAll elems + uptoBulkAll spare + 1
  | .agg parts => uptoBulkAll parts + 1
  | .iface _ d => uptoBulk d + 1
  | .map entries => uptoBulkEntries entries + 1
  | .held _ => 1
def uptoBulkAll {H : Type} : List (DataW H) → Nat
  | [] => 0
  | d :: r => uptoBulk d + uptoBulkAll r
def uptoBulkEntries {H : Type} : List (Lit × DataW H) → Nat
  | [] => 0
  | x :: r => uptoBulkEntry x + uptoBulkEntries r
def uptoBulkEntry {H : Type} : Lit × DataW H → Nat
  | (.string bytes, d) => bytes.length + uptoBulk d + 1
  | (_, d) => uptoBulk d + 1
 end
def uptoSmall : (H : Type) → List (DataW H) → Bool := fun _ ds => decide (uptoBulkAll ds ≤ 1048576)
def OpenSpec.upto (s : _root_.Go.ChangeSpec) : _root_.Go.OpenSpec := { _root_.Go.OpenSpec.ofChange s with cond := some uptoSmall }

/-- 'hourglasslaw09.StripDoes', WHERE WHAT IT READS IS OF BULK AT MOST 1048576: true; the input reads as it did. -/
def stripDoesUptoRow : OpenClaim := { program := "ytmjjhbeegjbocaa", sum := "53f60d49ceb1a4ee3bfffbbdaad00f246a5f5a990bbfd867a82ea8795f282b01", func := "hourglass/hourglasslaw09.StripDoes", spec := "stripDoes", unfollowed := true, recurses := true, apart := false, narrowed := true }
def StripDoesUptoSaid : Prop := stripDoesUptoRow.holds Try.pinned (OpenSpec.upto stripDoesSpec)

/-- 'hourglasslaw09.StripEnds', WHERE WHAT IT READS IS OF BULK AT MOST 1048576: true; the input reads as it did. -/
def stripEndsUptoRow : OpenClaim := { program := "ytmjjhbeegjbocaa", sum := "53f60d49ceb1a4ee3bfffbbdaad00f246a5f5a990bbfd867a82ea8795f282b01", func := "hourglass/hourglasslaw09.StripEnds", spec := "stripEnds", unfollowed := true, recurses := true, apart := false, narrowed := true }
def StripEndsUptoSaid : Prop := stripEndsUptoRow.holds Try.pinned (OpenSpec.upto stripEndsSpec)

/-- 'hourglasslaw09.StripBack', WHERE WHAT IT READS IS OF BULK AT MOST 1048576: true; the input reads as it did. -/
def stripBackUptoRow : OpenClaim := { program := "ytmjjhbeegjbocaa", sum := "53f60d49ceb1a4ee3bfffbbdaad00f246a5f5a990bbfd867a82ea8795f282b01", func := "hourglass/hourglasslaw09.StripBack", spec := "stripBack", unfollowed := true, recurses := true, apart := false, narrowed := true }
def StripBackUptoSaid : Prop := stripBackUptoRow.holds Try.pinned (OpenSpec.upto stripBackSpec)

/-- 'hourglasslaw09.StripLess', WHERE WHAT IT READS IS OF BULK AT MOST 1048576: true; the input reads as it did. -/
def stripLessUptoRow : OpenClaim := { program := "ytmjjhbeegjbocaa", sum := "53f60d49ceb1a4ee3bfffbbdaad00f246a5f5a990bbfd867a82ea8795f282b01", func := "hourglass/hourglasslaw09.StripLess", spec := "stripLess", unfollowed := true, recurses := true, apart := false, narrowed := true }
def StripLessUptoSaid : Prop := stripLessUptoRow.holds Try.pinned (OpenSpec.upto stripLessSpec)

end Rows
end Go.Proofs.Ytmjjhbeegjbocaa
