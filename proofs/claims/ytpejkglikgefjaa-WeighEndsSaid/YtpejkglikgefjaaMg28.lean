import Derived.Lib.QuietBelow
import Derived.Test.YtpejkglikgefjaaMg19
import Derived.Test.YtpejkglikgefjaaMg22
namespace Go.Proofs.Ytpejkglikgefjaa
open Go.RowKit Go.Shelf

/-- what size answers: a number; if it is at most 900, no rows and no row are more than 900. -/
def SizeSays (n : Nat) (l : Nat → Nat) (e : Ending) : Prop := ∃ s : Nat, e = .returned (.int .i64 (s : Nat)) ∧ s ≤ 281474976710656 ∧ (s ≤ 900 → n ≤ 900 ∧ ∀ i, i < n → l i ≤ 900)

/-- a matrix written out. -/
def matL (L : List (List Nat)) (i j : Nat) : Nat := (L.getD i []).getD j 0
theorem Bl.allocd {W : World} {g n cap : Nat} {h : Nat → Nat} (hb : Bl W g n cap h) (o : Obj) : Bl (W.alloc o) g n cap h := hb.kept (Below.heap_alloc W o g hb.lt)
theorem isM2 : IsM 2 (fun _ => 2) := ⟨fun _ _ => rfl, by omega, by decide⟩
theorem wd2 : wd 2 (fun _ => 2) = 2 := rfl
theorem awake_rk1 : Mt.rk 2 2 (matL [[1, 1], [0, 2]]) = 2 := by decide +kernel
theorem awake_rk2 : Mt.rk 2 2 (matL [[1, 1], [1, 1]]) = 1 := by decide +kernel
theorem awake_inv' : ∀ i, i < 2 → ∀ j, j < 2 → Mt.inv (matL [[1, 1], [0, 2]]) 2 i j = matL [[1, 142], [0, 142]] i j := by decide +kernel
end Go.Proofs.Ytpejkglikgefjaa
