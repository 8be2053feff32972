import Derived.Test.YtjnfghhochcpaaaFw
namespace Go.Proofs.Ytjnfghhochcpaaa
open Go.RowKit

theorem tm_pos (n : Int) (h : 0 ≤ n) : n.tmod 255 = n % 255 := Int.tmod_eq_emod_of_nonneg h
theorem tm_neg (n : Int) (h : n < 0) : (n % 255 = 0 ∧ n.tmod 255 = 0) ∨ (0 < n % 255 ∧ n.tmod 255 = n % 255 - 255) := by
  have := @Int.tmod_eq_emod n 255
  by_cases hd : (255 : Int) ∣ n
  · rw [if_pos (Or.inr hd)] at this
    left; omega
  · rw [if_neg (by omega)] at this
    right
    have h1 : (Int.natAbs 255 : Int) = 255 := rfl
    rw [this]; omega

theorem IsField.drewN {b : Nat} {w : World} (h : IsField b w) (n : Nat) : IsField b (w.drewN n) := h
theorem IsField.log {b : Nat} {w : World} (h : IsField b w) {a : Nat} (ha : a < 256) : w.cell? ⟨b, 510 + a, none⟩ = some (.int .u8 (Gf.lg a : Nat)) := (h (510 + a) (by omega)).1
theorem IsField.pow {b : Nat} {w : World} (h : IsField b w) {j : Nat} (hj : j < 510) : w.cell? ⟨b, j, none⟩ = some (.int .u8 (Gf.pw j : Nat)) := by
  rw [← Gf.tab_pw hj]; exact (h j (by omega)).1

theorem Gf.pwr_mod (a : Nat) (n : Int) : Gf.pw ((((Gf.lg a : Nat) : Int) * (n % 255)) % 255).toNat = Gf.pwr a n := by
  unfold Gf.pwr
  rw [← Gf.pw_mod (Gf.lg a * _)]
  have h : 0 ≤ n % 255 := by omega
  obtain ⟨t, ht⟩ := Int.eq_ofNat_of_zero_le h
  rw [ht, Int.toNat_natCast]
  congr 1

/-- the error of what a byte that is 0 has none of. -/
def zeroErr (x : Int) : Int := if x = 0 then 6 else 0
/-- the inverse; 0 of 0. -/
def invOf (x : Int) : Int := if x = 0 then 0 else (Gf.pwr x.toNat (-1) : Nat)
/-- the power; of 0 to a number below 0: 0. -/
def powOf (x n : Int) : Int := if x = 0 then (if n = 0 then 1 else 0) else (Gf.pwr x.toNat n : Nat)
def powErr (x n : Int) : Int := if x = 0 ∧ n < 0 then 6 else 0
def logOf (x : Int) : Int := if x = 0 then 0 else (Gf.lg x.toNat : Nat)
def mulOf (x y : Int) : Int := (Gf.mul x.toNat y.toNat : Nat)
def expOf (n : Int) : Int := (Gf.pw (n % 255).toNat : Nat)

theorem powOf_inv (x : Int) : powOf x (-1) = invOf x := by unfold powOf invOf; split <;> simp
theorem powErr_inv (x : Int) : powErr x (-1) = zeroErr x := by unfold powErr zeroErr; simp

end Go.Proofs.Ytjnfghhochcpaaa
