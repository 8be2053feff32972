/-
  No cell of these rows narrows 'for every input' (looked for: loops, veiled, ifaces, maps, wideKeys, modest, calm, conditions, laid).
  DERIVED. THE GIVEN ROWS OF THIS SEAT. 4 by the template 'for every input the law returns true; each argument reads behind the call as it read before'; 0 by the template 'total and deterministic' (their statements: YtdempjkkahjekaaTotals.lean).
  GIVEN WITH THE SEED: the statements are not yours to turn. If you find one false, say at which input.
  Laid BY PROGRAM, IN A SANDBOX (cutbox-rows.mjs): the forced cells as the released guide's own fill.sh prints them over the translation 26d5d16aed9ec3fc… (all of the seat's roots in one cut). By AI agents, Wed Nov 11 2026. No macro, syntax, notation, axiom, sorry.
-/
import Derived.Test.YtdempjkkahjekaaChecked
import GoSem.Claim
import GoSem.ClaimJoined
import GoSem.ClaimMapViews
import Derived.JoinedTies
import Derived.KernelRfl
namespace Go.Proofs.Ytdempjkkahjekaa
/- THE CELL 'sum', in the pinned program and in every row, IS THE sha256 OF THE DUMP (.gsa) THAT YtdempjkkahjekaaProg.lean LOADS. Nothing in Lean hashes anything: it is a label: what it is worth is what the hold of that sum in a sandbox is worth. -/
noncomputable def Try.pinned : Pinned := { name := "ytdempjkkahjekaa", sum := "26d5d16aed9ec3fce31015f4ead953b2db2fdfe268b8050dfb02c84b98781381", checked := Try.checked }
namespace Rows
def none {H : Type} : Left H := { results := [], args := [] }

/-- 'hourglasslaw04.LagrDoes': WHATEVER THE INPUT: true; the input reads as it did. -/
def lagrDoesSpec : ChangeSpec := { name := "lagrDoes", fn := fun _ => fun
  | [d1, d2, d3, d4] => { results := [.lit (.bool true)], args := [d1, d2, d3, d4] }
  | _ => none }
def lagrDoesRow : OpenClaim := { program := "ytdempjkkahjekaa", sum := "26d5d16aed9ec3fce31015f4ead953b2db2fdfe268b8050dfb02c84b98781381", func := "hourglass/hourglasslaw04.LagrDoes", spec := "lagrDoes", unfollowed := true, recurses := true, apart := false }
def LagrDoesSaid : Prop := lagrDoesRow.holds Try.pinned (OpenSpec.ofChange lagrDoesSpec)

/-- ITS FALSE NEIGHBOUR: 'it returns false'. Refute it at one input. -/
def lagrDoesWrong : ChangeSpec := { name := "lagrDoes", fn := fun _ => fun
  | [d1, d2, d3, d4] => { results := [.lit (.bool false)], args := [d1, d2, d3, d4] }
  | _ => none }
def LagrDoesWrongFalsely : Prop := lagrDoesRow.holds Try.pinned (OpenSpec.ofChange lagrDoesWrong)

/-- 'hourglasslaw04.LagrTables': WHATEVER THE INPUT: true; the input reads as it did. -/
def lagrTablesSpec : ChangeSpec := { name := "lagrTables", fn := fun _ => fun
  | [] => { results := [.lit (.bool true)], args := [] }
  | _ => none }
def lagrTablesRow : OpenClaim := { program := "ytdempjkkahjekaa", sum := "26d5d16aed9ec3fce31015f4ead953b2db2fdfe268b8050dfb02c84b98781381", func := "hourglass/hourglasslaw04.LagrTables", spec := "lagrTables", unfollowed := true, recurses := true, apart := false }
def LagrTablesSaid : Prop := lagrTablesRow.holds Try.pinned (OpenSpec.ofChange lagrTablesSpec)

/-- ITS FALSE NEIGHBOUR: 'it returns false'. Refute it at one input. -/
def lagrTablesWrong : ChangeSpec := { name := "lagrTables", fn := fun _ => fun
  | [] => { results := [.lit (.bool false)], args := [] }
  | _ => none }
def LagrTablesWrongFalsely : Prop := lagrTablesRow.holds Try.pinned (OpenSpec.ofChange lagrTablesWrong)

/-- 'hourglasslaw04.LagrAny': WHATEVER THE INPUT: true; the input reads as it did. -/
def lagrAnySpec : ChangeSpec := { name := "lagrAny", fn := fun _ => fun
  | [d1, d2, d3, d4, d5, d6] => { results := [.lit (.bool true)], args := [d1, d2, d3, d4, d5, d6] }
  | _ => none }
def lagrAnyRow : OpenClaim := { program := "ytdempjkkahjekaa", sum := "26d5d16aed9ec3fce31015f4ead953b2db2fdfe268b8050dfb02c84b98781381", func := "hourglass/hourglasslaw04.LagrAny", spec := "lagrAny", unfollowed := true, recurses := true, apart := false }
def LagrAnySaid : Prop := lagrAnyRow.holds Try.pinned (OpenSpec.ofChange lagrAnySpec)

/-- ITS FALSE NEIGHBOUR: 'it returns false'. Refute it at one input. -/
def lagrAnyWrong : ChangeSpec := { name := "lagrAny", fn := fun _ => fun
  | [d1, d2, d3, d4, d5, d6] => { results := [.lit (.bool false)], args := [d1, d2, d3, d4, d5, d6] }
  | _ => none }
def LagrAnyWrongFalsely : Prop := lagrAnyRow.holds Try.pinned (OpenSpec.ofChange lagrAnyWrong)

/-- 'hourglasslaw04.LagrOnes': WHATEVER THE INPUT: true; the input reads as it did. -/
def lagrOnesSpec : ChangeSpec := { name := "lagrOnes", fn := fun _ => fun
  | [d1, d2, d3, d4] => { results := [.lit (.bool true)], args := [d1, d2, d3, d4] }
  | _ => none }
def lagrOnesRow : OpenClaim := { program := "ytdempjkkahjekaa", sum := "26d5d16aed9ec3fce31015f4ead953b2db2fdfe268b8050dfb02c84b98781381", func := "hourglass/hourglasslaw04.LagrOnes", spec := "lagrOnes", unfollowed := true, recurses := true, apart := false }
def LagrOnesSaid : Prop := lagrOnesRow.holds Try.pinned (OpenSpec.ofChange lagrOnesSpec)

/-- ITS FALSE NEIGHBOUR: 'it returns false'. Refute it at one input. -/
def lagrOnesWrong : ChangeSpec := { name := "lagrOnes", fn := fun _ => fun
  | [d1, d2, d3, d4] => { results := [.lit (.bool false)], args := [d1, d2, d3, d4] }
  | _ => none }
def LagrOnesWrongFalsely : Prop := lagrOnesRow.holds Try.pinned (OpenSpec.ofChange lagrOnesWrong)

/- THE SECOND FORM. 'bulk': how many values and letters a reading holds, each counted each time it is reached (what is shared counts as often as it is met; a slice's spare places count too). A statement '..UptoSaid' is the law's where the arguments, and the package variables that the reading takes, are together of bulk at most 1048576: NARROWER than '..Said'. Prove '..Said' where nothing that the law and all that it calls make is longer than what came in: it says more and counts as full. Else prove '..UptoSaid'. A law counts once. -/
mutual
def uptoBulk {H : Type} : DataW H → Nat
  | .lit (.string bytes) => bytes.length + 1
  | .lit _ => 1
  | .nil => 1
  | .ptr d => uptoBulk d + 1
  | .slice elems spare => uptoBulkAll elems + uptoBulkAll spare + 1
  | .agg parts => uptoBulkAll parts + 1
  | .iface _ d => uptoBulk d + 1
  | .map entries => uptoBulkEntries entries + 1
  | .held _ => 1
def uptoBulkAll {H : Type} : List (DataW H) → Nat
  | [] => 0
  | d :: r => uptoBulk d + uptoBulkAll r
def uptoBulkEntries {H : Type} : List (Lit × DataW H) → Nat
  | [] => 0
  | x :: r => uptoBulkEntry x + uptoBulkEntries r
def uptoBulkEntry {H : Type} : Lit × DataW H → Nat
  | (.string bytes, d) => bytes.length + uptoBulk d + 1
  | (_, d) => uptoBulk d + 1
 end
def uptoSmall : (H : Type) → List (DataW H) → Bool := fun _ ds => decide (uptoBulkAll ds ≤ 1048576)
def OpenSpec.upto (s : _root_.Go.ChangeSpec) : _root_.Go.OpenSpec := { _root_.Go.OpenSpec.ofChange s with cond := some uptoSmall }

/-- 'hourglasslaw04.LagrDoes', WHERE WHAT IT READS IS OF BULK AT MOST 1048576: true; the input reads as it did. -/
def lagrDoesUptoRow : OpenClaim := { program := "ytdempjkkahjekaa", sum := "26d5d16aed9ec3fce31015f4ead953b2db2fdfe268b8050dfb02c84b98781381", func := "hourglass/hourglasslaw04.LagrDoes", spec := "lagrDoes", unfollowed := true, recurses := true, apart := false, narrowed := true }
def LagrDoesUptoSaid : Prop := lagrDoesUptoRow.holds Try.pinned (OpenSpec.upto lagrDoesSpec)

/-- 'hourglasslaw04.LagrTables', WHERE WHAT IT READS IS OF BULK AT MOST 1048576: true; the input reads as it did. -/
def lagrTablesUptoRow : OpenClaim := { program := "ytdempjkkahjekaa", sum := "26d5d16aed9ec3fce31015f4ead953b2db2fdfe268b8050dfb02c84b98781381", func := "hourglass/hourglasslaw04.LagrTables", spec := "lagrTables", unfollowed := true, recurses := true, apart := false, narrowed := true }
def LagrTablesUptoSaid : Prop := lagrTablesUptoRow.holds Try.pinned (OpenSpec.upto lagrTablesSpec)

/-- 'hourglasslaw04.LagrAny', WHERE WHAT IT READS IS OF BULK AT MOST 1048576: true; the input reads as it did. -/
def lagrAnyUptoRow : OpenClaim := { program := "ytdempjkkahjekaa", sum := "26d5d16aed9ec3fce31015f4ead953b2db2fdfe268b8050dfb02c84b98781381", func := "hourglass/hourglasslaw04.LagrAny", spec := "lagrAny", unfollowed := true, recurses := true, apart := false, narrowed := true }
def LagrAnyUptoSaid : Prop := lagrAnyUptoRow.holds Try.pinned (OpenSpec.upto lagrAnySpec)

/-- 'hourglasslaw04.LagrOnes', WHERE WHAT IT READS IS OF BULK AT MOST 1048576: true; the input reads as it did. -/
def lagrOnesUptoRow : OpenClaim := { program := "ytdempjkkahjekaa", sum := "26d5d16aed9ec3fce31015f4ead953b2db2fdfe268b8050dfb02c84b98781381", func := "hourglass/hourglasslaw04.LagrOnes", spec := "lagrOnes", unfollowed := true, recurses := true, apart := false, narrowed := true }
def LagrOnesUptoSaid : Prop := lagrOnesUptoRow.holds Try.pinned (OpenSpec.upto lagrOnesSpec)

end Rows
end Go.Proofs.Ytdempjkkahjekaa
