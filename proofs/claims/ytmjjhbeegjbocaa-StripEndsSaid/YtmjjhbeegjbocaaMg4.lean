import Derived.OpenShut
import Derived.Test.YtmjjhbeegjbocaaMg3
namespace Go.Proofs.Ytmjjhbeegjbocaa
open Go.RowKit

/-- the inverse of a byte, as a number from 0 on. -/
def ivN (b : Nat) : Nat := if b = 0 then 0 else Gf.pwr b (-1)
theorem ivN_lt (b : Nat) : ivN b < 256 := by unfold ivN; split; omega; exact Gf.pwr_lt _ _
theorem invOf_nat (b : Nat) : invOf (b : Int) = (ivN b : Nat) := by
  unfold invOf ivN
  by_cases h : b = 0
  · rw [if_pos h, if_pos (by omega)]; rfl
  · rw [if_neg h, if_neg (by omega), Int.toNat_natCast]
theorem ne_no {x y : Nat} (h : x = y) : (((x : Nat) : Int) != (y : Int)) = false := by simp [h]
theorem eq_yes {x y : Nat} (h : x = y) : (((x : Nat) : Int) == (y : Int)) = true := by simp [h]
theorem eq_no {x y : Nat} (h : x ≠ y) : (((x : Nat) : Int) == (y : Int)) = false := by simp; omega
theorem ne_yes {x y : Nat} (h : x ≠ y) : (((x : Nat) : Int) != (y : Int)) = true := by simp; omega

theorem IsField.below {fb B : Nat} {w w' : World} (h : IsField fb w) (hB : Below B w w') (hl : fb < B) : IsField fb w' := fun j hj => by
  rw [hB.cell (p := ⟨fb, j, none⟩) hl, hB.frozen (p := ⟨fb, j, none⟩) hl]; exact h j hj

theorem byte_of {a : Int} (h : (Lit.int .u8 a).wf = true) : ∃ n : Nat, a = (n : Int) ∧ n < 256 := by
  have hb := bounds_u8 h
  exact ⟨a.toNat, by omega, by omega⟩
end Go.Proofs.Ytmjjhbeegjbocaa
