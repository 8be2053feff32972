import Derived.Test.YtjnfghhochcpaaaProg
import Derived.Test.YtjnfghhochcpaaaGf
import Derived.WalkKit
import Derived.WalkSpells
import Derived.WalkLawsBesides
import Derived.BigQuiet
import Derived.Deep.QuietTactic
import Derived.Lib.Hide
namespace Go.Proofs.Ytjnfghhochcpaaa
open Go.RowKit

/-- the cells of a field that is none yet. -/
def zerosF : Array Value := Array.replicate 766 (.int .u8 0)

/-- a block that holds so many bytes. -/
def Tab (F : Nat → Nat) (b : Nat) (w : World) : Prop :=
  ∀ j, j < 766 → w.cell? ⟨b, j, none⟩ = some (.int .u8 (F j : Nat)) ∧ w.frozen? ⟨b, j, none⟩ = false

theorem Tab.set {F : Nat → Nat} {b : Nat} {w : World} (h : Tab F b w) {i : Nat} (hi : i < 766) (v : Nat) :
    Tab (fun j => if j = i then v else F j) b (w.setCell ⟨b, i, none⟩ (.int .u8 (v : Nat))) := by
  intro j hj
  refine ⟨?_, by rw [World.frozen?_setCell]; exact (h j hj).2⟩
  by_cases e : j = i
  · subst e
    rw [World.cell?_setCell_same _ _ _ (h j hj).1]; simp
  · rw [World.cell?_setCell_other _ _ _ _ (by intro hh; cases hh; exact e rfl), (h j hj).1]; simp [e]
theorem Tab.drewN {F : Nat → Nat} {b : Nat} {w : World} (h : Tab F b w) (n : Nat) : Tab F b (w.drewN n) := h
theorem Tab.drew {F : Nat → Nat} {b : Nat} {w : World} (h : Tab F b w) : Tab F b w.drew := h

theorem and128_no : ∀ n, n < 128 → n &&& 128 = 0 := by decide +kernel
theorem and128_yes : ∀ n, n < 256 → 128 ≤ n → n &&& 128 = 128 := by decide +kernel

/-- a field: its tables, filled. -/
def IsField (b : Nat) (w : World) : Prop := Tab (Gf.tabF 255) b w

end Go.Proofs.Ytjnfghhochcpaaa
