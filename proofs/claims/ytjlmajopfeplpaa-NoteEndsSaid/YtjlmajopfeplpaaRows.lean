/-
  No cell of these rows narrows 'for every input' (looked for: loops, veiled, ifaces, maps, wideKeys, modest, calm, conditions, laid).
  DERIVED. THE GIVEN ROWS OF THIS SEAT. 5 by the template 'for every input the law returns true; each argument reads behind the call as it read before'; 0 by the template 'total and deterministic' (their statements: YtjlmajopfeplpaaTotals.lean).
  GIVEN WITH THE SEED: the statements are not yours to turn. If you find one false, say at which input.
  Laid BY PROGRAM, IN A SANDBOX (cutbox-rows.mjs): the forced cells as the released guide's own fill.sh prints them over the translation 236e8635906b2c6c… (all of the seat's roots in one cut). By AI agents, Wed Nov 11 2026. No macro, syntax, notation, axiom, sorry.
-/
import Derived.Test.YtjlmajopfeplpaaChecked
import GoSem.Claim
import GoSem.ClaimJoined
import GoSem.ClaimMapViews
import Derived.JoinedTies
import Derived.KernelRfl
namespace Go.Proofs.Ytjlmajopfeplpaa
/- THE CELL 'sum', in the pinned program and in every row, IS THE sha256 OF THE DUMP (.gsa) THAT YtjlmajopfeplpaaProg.lean LOADS. Nothing in Lean hashes anything: it is a label: what it is worth is what the hold of that sum in a sandbox is worth. -/
noncomputable def Try.pinned : Pinned := { name := "ytjlmajopfeplpaa", sum := "236e8635906b2c6c4d24098672544d368d61ce3924721430d52da009f4ea647b", checked := Try.checked }
namespace Rows
def none {H : Type} : Left H := { results := [], args := [] }

/-- 'hourglasslaw15.NotePuts': WHATEVER THE INPUT: true; the input reads as it did. -/
def notePutsSpec : ChangeSpec := { name := "notePuts", fn := fun _ => fun
  | [d1, d2] => { results := [.lit (.bool true)], args := [d1, d2] }
  | _ => none }
def notePutsRow : OpenClaim := { program := "ytjlmajopfeplpaa", sum := "236e8635906b2c6c4d24098672544d368d61ce3924721430d52da009f4ea647b", func := "hourglass/hourglasslaw15.NotePuts", spec := "notePuts", inPlace := ["internal/bytealg.MakeNoZero"], unfollowed := true, recurses := true, apart := false }
def NotePutsSaid : Prop := notePutsRow.holds Try.pinned (OpenSpec.ofChange notePutsSpec)

/-- ITS FALSE NEIGHBOUR: 'it returns false'. Refute it at one input. -/
def notePutsWrong : ChangeSpec := { name := "notePuts", fn := fun _ => fun
  | [d1, d2] => { results := [.lit (.bool false)], args := [d1, d2] }
  | _ => none }
def NotePutsWrongFalsely : Prop := notePutsRow.holds Try.pinned (OpenSpec.ofChange notePutsWrong)

/-- 'hourglasslaw15.NoteParses': WHATEVER THE INPUT: true; the input reads as it did. -/
def noteParsesSpec : ChangeSpec := { name := "noteParses", fn := fun _ => fun
  | [d] => { results := [.lit (.bool true)], args := [d] }
  | _ => none }
def noteParsesRow : OpenClaim := { program := "ytjlmajopfeplpaa", sum := "236e8635906b2c6c4d24098672544d368d61ce3924721430d52da009f4ea647b", func := "hourglass/hourglasslaw15.NoteParses", spec := "noteParses", inPlace := ["internal/bytealg.MakeNoZero"], unfollowed := true, recurses := true, apart := false }
def NoteParsesSaid : Prop := noteParsesRow.holds Try.pinned (OpenSpec.ofChange noteParsesSpec)

/-- ITS FALSE NEIGHBOUR: 'it returns false'. Refute it at one input. -/
def noteParsesWrong : ChangeSpec := { name := "noteParses", fn := fun _ => fun
  | [d] => { results := [.lit (.bool false)], args := [d] }
  | _ => none }
def NoteParsesWrongFalsely : Prop := noteParsesRow.holds Try.pinned (OpenSpec.ofChange noteParsesWrong)

/-- 'hourglasslaw15.NoteEnds': WHATEVER THE INPUT: true; the input reads as it did. -/
def noteEndsSpec : ChangeSpec := { name := "noteEnds", fn := fun _ => fun
  | [] => { results := [.lit (.bool true)], args := [] }
  | _ => none }
def noteEndsRow : OpenClaim := { program := "ytjlmajopfeplpaa", sum := "236e8635906b2c6c4d24098672544d368d61ce3924721430d52da009f4ea647b", func := "hourglass/hourglasslaw15.NoteEnds", spec := "noteEnds", inPlace := ["internal/bytealg.MakeNoZero"], unfollowed := true, recurses := true, apart := false }
def NoteEndsSaid : Prop := noteEndsRow.holds Try.pinned (OpenSpec.ofChange noteEndsSpec)

/-- ITS FALSE NEIGHBOUR: 'it returns false'. Refute it at one input. -/
def noteEndsWrong : ChangeSpec := { name := "noteEnds", fn := fun _ => fun
  | [] => { results := [.lit (.bool false)], args := [] }
  | _ => none }
def NoteEndsWrongFalsely : Prop := noteEndsRow.holds Try.pinned (OpenSpec.ofChange noteEndsWrong)

/-- 'hourglasslaw15.NoteBack': WHATEVER THE INPUT: true; the input reads as it did. -/
def noteBackSpec : ChangeSpec := { name := "noteBack", fn := fun _ => fun
  | [d1, d2, d3] => { results := [.lit (.bool true)], args := [d1, d2, d3] }
  | _ => none }
def noteBackRow : OpenClaim := { program := "ytjlmajopfeplpaa", sum := "236e8635906b2c6c4d24098672544d368d61ce3924721430d52da009f4ea647b", func := "hourglass/hourglasslaw15.NoteBack", spec := "noteBack", inPlace := ["internal/bytealg.MakeNoZero"], unfollowed := true, recurses := true, apart := false }
def NoteBackSaid : Prop := noteBackRow.holds Try.pinned (OpenSpec.ofChange noteBackSpec)

/-- ITS FALSE NEIGHBOUR: 'it returns false'. Refute it at one input. -/
def noteBackWrong : ChangeSpec := { name := "noteBack", fn := fun _ => fun
  | [d1, d2, d3] => { results := [.lit (.bool false)], args := [d1, d2, d3] }
  | _ => none }
def NoteBackWrongFalsely : Prop := noteBackRow.holds Try.pinned (OpenSpec.ofChange noteBackWrong)

/-- 'hourglasslaw15.NoteSums': WHATEVER THE INPUT: true; the input reads as it did. -/
def noteSumsSpec : ChangeSpec := { name := "noteSums", fn := fun _ => fun
  | [d1, d2] => { results := [.lit (.bool true)], args := [d1, d2] }
  | _ => none }
def noteSumsRow : OpenClaim := { program := "ytjlmajopfeplpaa", sum := "236e8635906b2c6c4d24098672544d368d61ce3924721430d52da009f4ea647b", func := "hourglass/hourglasslaw15.NoteSums", spec := "noteSums", inPlace := ["internal/bytealg.MakeNoZero"], unfollowed := true, recurses := true, apart := false }
def NoteSumsSaid : Prop := noteSumsRow.holds Try.pinned (OpenSpec.ofChange noteSumsSpec)

/-- ITS FALSE NEIGHBOUR: 'it returns false'. Refute it at one input. -/
def noteSumsWrong : ChangeSpec := { name := "noteSums", fn := fun _ => fun
  | [d1, d2] => { results := [.lit (.bool false)], args := [d1, d2] }
  | _ => none }
def NoteSumsWrongFalsely : Prop := noteSumsRow.holds Try.pinned (OpenSpec.ofChange noteSumsWrong)

/- THE SECOND FORM. 'bulk': how many values and letters a reading holds, each counted each time it is reached (what is shared counts as often as it is met; a slice's spare places count too). A statement '..UptoSaid' is the law's where the arguments, and the package variables that the reading takes, are together of bulk at most 1048576: NARROWER than '..Said'. Prove '..Said' where nothing that the law and all that it calls make is longer than what came in: it says more and counts as full. Else prove '..UptoSaid'. A law counts once. -/
mutual
def uptoBulk {H : Type} : DataW H → Nat
  | .lit (.string bytes) => bytes.length + 1
  | .lit _ => 1
  | .nil => 1
  | .ptr d => uptoBulk d + 1
  | .slice elems spare => uptoBulkAll elems + uptoBulkAll spare + 1
  | .agg parts => uptoBulkAll parts + 1
  | .iface _ d => uptoBulk d + 1
  | .map entries => uptoBulkEntries entries + 1
  | .held _ => 1
def uptoBulkAll {H : Type} : List (DataW H) → Nat
  | [] => 0
  | d :: r => uptoBulk d + uptoBulkAll r
def uptoBulkEntries {H : Type} : List (Lit × DataW H) → Nat
  | [] => 0
  | x :: r => uptoBulkEntry x + uptoBulkEntries r
def uptoBulkEntry {H : Type} : Lit × DataW H → Nat
  | (.string bytes, d) => bytes.length + uptoBulk d + 1
  | (_, d) => uptoBulk d + 1
 end
def uptoSmall : (H : Type) → List (DataW H) → Bool := fun _ ds => decide (uptoBulkAll ds ≤ 1048576)
def OpenSpec.upto (s : _root_.Go.ChangeSpec) : _root_.Go.OpenSpec := { _root_.Go.OpenSpec.ofChange s with cond := some uptoSmall }

/-- 'hourglasslaw15.NotePuts', WHERE WHAT IT READS IS OF BULK AT MOST 1048576: true; the input reads as it did. -/
def notePutsUptoRow : OpenClaim := { program := "ytjlmajopfeplpaa", sum := "236e8635906b2c6c4d24098672544d368d61ce3924721430d52da009f4ea647b", func := "hourglass/hourglasslaw15.NotePuts", spec := "notePuts", inPlace := ["internal/bytealg.MakeNoZero"], unfollowed := true, recurses := true, apart := false, narrowed := true }
def NotePutsUptoSaid : Prop := notePutsUptoRow.holds Try.pinned (OpenSpec.upto notePutsSpec)

/-- 'hourglasslaw15.NoteParses', WHERE WHAT IT READS IS OF BULK AT MOST 1048576: true; the input reads as it did. -/
def noteParsesUptoRow : OpenClaim := { program := "ytjlmajopfeplpaa", sum := "236e8635906b2c6c4d24098672544d368d61ce3924721430d52da009f4ea647b", func := "hourglass/hourglasslaw15.NoteParses", spec := "noteParses", inPlace := ["internal/bytealg.MakeNoZero"], unfollowed := true, recurses := true, apart := false, narrowed := true }
def NoteParsesUptoSaid : Prop := noteParsesUptoRow.holds Try.pinned (OpenSpec.upto noteParsesSpec)

/-- 'hourglasslaw15.NoteEnds', WHERE WHAT IT READS IS OF BULK AT MOST 1048576: true; the input reads as it did. -/
def noteEndsUptoRow : OpenClaim := { program := "ytjlmajopfeplpaa", sum := "236e8635906b2c6c4d24098672544d368d61ce3924721430d52da009f4ea647b", func := "hourglass/hourglasslaw15.NoteEnds", spec := "noteEnds", inPlace := ["internal/bytealg.MakeNoZero"], unfollowed := true, recurses := true, apart := false, narrowed := true }
def NoteEndsUptoSaid : Prop := noteEndsUptoRow.holds Try.pinned (OpenSpec.upto noteEndsSpec)

/-- 'hourglasslaw15.NoteBack', WHERE WHAT IT READS IS OF BULK AT MOST 1048576: true; the input reads as it did. -/
def noteBackUptoRow : OpenClaim := { program := "ytjlmajopfeplpaa", sum := "236e8635906b2c6c4d24098672544d368d61ce3924721430d52da009f4ea647b", func := "hourglass/hourglasslaw15.NoteBack", spec := "noteBack", inPlace := ["internal/bytealg.MakeNoZero"], unfollowed := true, recurses := true, apart := false, narrowed := true }
def NoteBackUptoSaid : Prop := noteBackUptoRow.holds Try.pinned (OpenSpec.upto noteBackSpec)

/-- 'hourglasslaw15.NoteSums', WHERE WHAT IT READS IS OF BULK AT MOST 1048576: true; the input reads as it did. -/
def noteSumsUptoRow : OpenClaim := { program := "ytjlmajopfeplpaa", sum := "236e8635906b2c6c4d24098672544d368d61ce3924721430d52da009f4ea647b", func := "hourglass/hourglasslaw15.NoteSums", spec := "noteSums", inPlace := ["internal/bytealg.MakeNoZero"], unfollowed := true, recurses := true, apart := false, narrowed := true }
def NoteSumsUptoSaid : Prop := noteSumsUptoRow.holds Try.pinned (OpenSpec.upto noteSumsSpec)

end Rows
end Go.Proofs.Ytjlmajopfeplpaa
