/-
  No cell of these rows narrows 'for every input' (looked for: loops, veiled, ifaces, maps, wideKeys, modest, calm, conditions, laid).
  DERIVED. THE GIVEN ROWS OF THIS SEAT. 4 by the template 'for every input the law returns true; each argument reads behind the call as it read before'; 0 by the template 'total and deterministic' (their statements: YtkejabhjlflknaaTotals.lean).
  GIVEN WITH THE SEED: the statements are not yours to turn. If you find one false, say at which input.
  Laid BY PROGRAM, IN A SANDBOX (cutbox-rows.mjs): the forced cells as the released guide's own fill.sh prints them over the translation fc9d8a46fb312f68… (all of the seat's roots in one cut). By AI agents, Wed Nov 11 2026. No macro, syntax, notation, axiom, sorry.
-/
import Derived.Test.YtkejabhjlflknaaChecked
import GoSem.Claim
import GoSem.ClaimJoined
import GoSem.ClaimMapViews
import Derived.JoinedTies
import Derived.KernelRfl
namespace Go.Proofs.Ytkejabhjlflknaa
/- THE CELL 'sum', in the pinned program and in every row, IS THE sha256 OF THE DUMP (.gsa) THAT YtkejabhjlflknaaProg.lean LOADS. Nothing in Lean hashes anything: it is a label: what it is worth is what the hold of that sum in a sandbox is worth. -/
noncomputable def Try.pinned : Pinned := { name := "ytkejabhjlflknaa", sum := "fc9d8a46fb312f68bafaa2585076ab8900743e0134da8fff9ffd56a55ce2826f", checked := Try.checked }
namespace Rows
def none {H : Type} : Left H := { results := [], args := [] }

/-- 'hourglasslaw11.SizeDoes': WHATEVER THE INPUT: true; the input reads as it did. -/
def sizeDoesSpec : ChangeSpec := { name := "sizeDoes", fn := fun _ => fun
  | [d1, d2, d3, d4, d5, d6] => { results := [.lit (.bool true)], args := [d1, d2, d3, d4, d5, d6] }
  | _ => none }
def sizeDoesRow : OpenClaim := { program := "ytkejabhjlflknaa", sum := "fc9d8a46fb312f68bafaa2585076ab8900743e0134da8fff9ffd56a55ce2826f", func := "hourglass/hourglasslaw11.SizeDoes", spec := "sizeDoes", unfollowed := true, recurses := true, apart := false }
def SizeDoesSaid : Prop := sizeDoesRow.holds Try.pinned (OpenSpec.ofChange sizeDoesSpec)

/-- ITS FALSE NEIGHBOUR: 'it returns false'. Refute it at one input. -/
def sizeDoesWrong : ChangeSpec := { name := "sizeDoes", fn := fun _ => fun
  | [d1, d2, d3, d4, d5, d6] => { results := [.lit (.bool false)], args := [d1, d2, d3, d4, d5, d6] }
  | _ => none }
def SizeDoesWrongFalsely : Prop := sizeDoesRow.holds Try.pinned (OpenSpec.ofChange sizeDoesWrong)

/-- 'hourglasslaw11.SizeEnds': WHATEVER THE INPUT: true; the input reads as it did. -/
def sizeEndsSpec : ChangeSpec := { name := "sizeEnds", fn := fun _ => fun
  | [] => { results := [.lit (.bool true)], args := [] }
  | _ => none }
def sizeEndsRow : OpenClaim := { program := "ytkejabhjlflknaa", sum := "fc9d8a46fb312f68bafaa2585076ab8900743e0134da8fff9ffd56a55ce2826f", func := "hourglass/hourglasslaw11.SizeEnds", spec := "sizeEnds", unfollowed := true, recurses := true, apart := false }
def SizeEndsSaid : Prop := sizeEndsRow.holds Try.pinned (OpenSpec.ofChange sizeEndsSpec)

/-- ITS FALSE NEIGHBOUR: 'it returns false'. Refute it at one input. -/
def sizeEndsWrong : ChangeSpec := { name := "sizeEnds", fn := fun _ => fun
  | [] => { results := [.lit (.bool false)], args := [] }
  | _ => none }
def SizeEndsWrongFalsely : Prop := sizeEndsRow.holds Try.pinned (OpenSpec.ofChange sizeEndsWrong)

/-- 'hourglasslaw11.SizeGreatest': WHATEVER THE INPUT: true; the input reads as it did. -/
def sizeGreatestSpec : ChangeSpec := { name := "sizeGreatest", fn := fun _ => fun
  | [d1, d2, d3] => { results := [.lit (.bool true)], args := [d1, d2, d3] }
  | _ => none }
def sizeGreatestRow : OpenClaim := { program := "ytkejabhjlflknaa", sum := "fc9d8a46fb312f68bafaa2585076ab8900743e0134da8fff9ffd56a55ce2826f", func := "hourglass/hourglasslaw11.SizeGreatest", spec := "sizeGreatest", unfollowed := true, recurses := true, apart := false }
def SizeGreatestSaid : Prop := sizeGreatestRow.holds Try.pinned (OpenSpec.ofChange sizeGreatestSpec)

/-- ITS FALSE NEIGHBOUR: 'it returns false'. Refute it at one input. -/
def sizeGreatestWrong : ChangeSpec := { name := "sizeGreatest", fn := fun _ => fun
  | [d1, d2, d3] => { results := [.lit (.bool false)], args := [d1, d2, d3] }
  | _ => none }
def SizeGreatestWrongFalsely : Prop := sizeGreatestRow.holds Try.pinned (OpenSpec.ofChange sizeGreatestWrong)

/-- 'hourglasslaw11.SizeMore': WHATEVER THE INPUT: true; the input reads as it did. -/
def sizeMoreSpec : ChangeSpec := { name := "sizeMore", fn := fun _ => fun
  | [d1, d2, d3, d4, d5, d6] => { results := [.lit (.bool true)], args := [d1, d2, d3, d4, d5, d6] }
  | _ => none }
def sizeMoreRow : OpenClaim := { program := "ytkejabhjlflknaa", sum := "fc9d8a46fb312f68bafaa2585076ab8900743e0134da8fff9ffd56a55ce2826f", func := "hourglass/hourglasslaw11.SizeMore", spec := "sizeMore", unfollowed := true, recurses := true, apart := false }
def SizeMoreSaid : Prop := sizeMoreRow.holds Try.pinned (OpenSpec.ofChange sizeMoreSpec)

/-- ITS FALSE NEIGHBOUR: 'it returns false'. Refute it at one input. -/
def sizeMoreWrong : ChangeSpec := { name := "sizeMore", fn := fun _ => fun
  | [d1, d2, d3, d4, d5, d6] => { results := [.lit (.bool false)], args := [d1, d2, d3, d4, d5, d6] }
  | _ => none }
def SizeMoreWrongFalsely : Prop := sizeMoreRow.holds Try.pinned (OpenSpec.ofChange sizeMoreWrong)

/- THE SECOND FORM. 'bulk': how many values and letters a reading holds, each counted each time it is reached (what is shared counts as often as it is met; a slice's spare places count too). A statement '..UptoSaid' is the law's where the arguments, and the package variables that the reading takes, are together of bulk at most 1048576: NARROWER than '..Said'. Prove '..Said' where nothing that the law and all that it calls make is longer than what came in: it says more and counts as full. Else prove '..UptoSaid'. A law counts once. -/
mutual
def uptoBulk {H : Type} : DataW H → Nat
  | .lit (.string bytes) => bytes.length + 1
  | .lit _ => 1
  | .nil => 1
  | .ptr d => uptoBulk d + 1
  | .slice elems spare => uptoBulkAll elems + uptoBulkAll spare + 1
  | .agg parts => uptoBulkAll parts + 1
  | .iface _ d => uptoBulk d + 1
  | .map entries => uptoBulkEntries entries + 1
  | .held _ => 1
def uptoBulkAll {H : Type} : List (DataW H) → Nat
  | [] => 0
  | d :: r => uptoBulk d + uptoBulkAll r
def uptoBulkEntries {H : Type} : List (Lit × DataW H) → Nat
  | [] => 0
  | x :: r => uptoBulkEntry x + uptoBulkEntries r
def uptoBulkEntry {H : Type} : Lit × DataW H → Nat
  | (.string bytes, d) => bytes.length + uptoBulk d + 1
  | (_, d) => uptoBulk d + 1
 end
def uptoSmall : (H : Type) → List (DataW H) → Bool := fun _ ds => decide (uptoBulkAll ds ≤ 1048576)
def OpenSpec.upto (s : _root_.Go.ChangeSpec) : _root_.Go.OpenSpec := { _root_.Go.OpenSpec.ofChange s with cond := some uptoSmall }

/-- 'hourglasslaw11.SizeDoes', WHERE WHAT IT READS IS OF BULK AT MOST 1048576: true; the input reads as it did. -/
def sizeDoesUptoRow : OpenClaim := { program := "ytkejabhjlflknaa", sum := "fc9d8a46fb312f68bafaa2585076ab8900743e0134da8fff9ffd56a55ce2826f", func := "hourglass/hourglasslaw11.SizeDoes", spec := "sizeDoes", unfollowed := true, recurses := true, apart := false, narrowed := true }
def SizeDoesUptoSaid : Prop := sizeDoesUptoRow.holds Try.pinned (OpenSpec.upto sizeDoesSpec)

/-- 'hourglasslaw11.SizeEnds', WHERE WHAT IT READS IS OF BULK AT MOST 1048576: true; the input reads as it did. -/
def sizeEndsUptoRow : OpenClaim := { program := "ytkejabhjlflknaa", sum := "fc9d8a46fb312f68bafaa2585076ab8900743e0134da8fff9ffd56a55ce2826f", func := "hourglass/hourglasslaw11.SizeEnds", spec := "sizeEnds", unfollowed := true, recurses := true, apart := false, narrowed := true }
def SizeEndsUptoSaid : Prop := sizeEndsUptoRow.holds Try.pinned (OpenSpec.upto sizeEndsSpec)

/-- 'hourglasslaw11.SizeGreatest', WHERE WHAT IT READS IS OF BULK AT MOST 1048576: true; the input reads as it did. -/
def sizeGreatestUptoRow : OpenClaim := { program := "ytkejabhjlflknaa", sum := "fc9d8a46fb312f68bafaa2585076ab8900743e0134da8fff9ffd56a55ce2826f", func := "hourglass/hourglasslaw11.SizeGreatest", spec := "sizeGreatest", unfollowed := true, recurses := true, apart := false, narrowed := true }
def SizeGreatestUptoSaid : Prop := sizeGreatestUptoRow.holds Try.pinned (OpenSpec.upto sizeGreatestSpec)

/-- 'hourglasslaw11.SizeMore', WHERE WHAT IT READS IS OF BULK AT MOST 1048576: true; the input reads as it did. -/
def sizeMoreUptoRow : OpenClaim := { program := "ytkejabhjlflknaa", sum := "fc9d8a46fb312f68bafaa2585076ab8900743e0134da8fff9ffd56a55ce2826f", func := "hourglass/hourglasslaw11.SizeMore", spec := "sizeMore", unfollowed := true, recurses := true, apart := false, narrowed := true }
def SizeMoreUptoSaid : Prop := sizeMoreUptoRow.holds Try.pinned (OpenSpec.upto sizeMoreSpec)

end Rows
end Go.Proofs.Ytkejabhjlflknaa
