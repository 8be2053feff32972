import Derived.Test.YtjlmajopfeplpaaProg
import Derived.WalkKit
import Derived.WalkSpells
import Derived.WalkLawsBesides
import Derived.BigQuiet
import Derived.Deep.QuietTactic
import Derived.Lib.Hide
import Derived.Test.YtjlmajopfeplpaaMg0
namespace Go.Proofs.Ytjlmajopfeplpaa
open Go.RowKit

/-- the cells of a field that is none yet. -/
def zerosF : Array Value := Array.replicate 766 (.int .u8 0)

/-- a block that holds so many bytes. -/
def Tab (F : Nat → Nat) (b : Nat) (w : World) : Prop :=
  ∀ j, j < 766 → w.cell? ⟨b, j, none⟩ = some (.int .u8 (F j : Nat)) ∧ w.frozen? ⟨b, j, none⟩ = false

theorem Tab.set {F : Nat → Nat} {b : Nat} {w : World} (h : Tab F b w) {i : Nat} (hi : i < 766) (v : Nat) :
    Tab (fun j => if j = i then v else F j) b (w.setCell ⟨b, i, none⟩ (.int .u8 (v : Nat))) := by
  intro j hj
  refine ⟨?_, by rw [World.frozen?_setCell]; exact (h j hj).2⟩
  by_cases e : j = i
  · subst e
    rw [World.cell?_setCell_same _ _ _ (h j hj).1]; simp
  · rw [World.cell?_setCell_other _ _ _ _ (by intro hh; cases hh; exact e rfl), (h j hj).1]; simp [e]
theorem Tab.drewN {F : Nat → Nat} {b : Nat} {w : World} (h : Tab F b w) (n : Nat) : Tab F b (w.drewN n) := h
theorem Tab.drew {F : Nat → Nat} {b : Nat} {w : World} (h : Tab F b w) : Tab F b w.drew := h

theorem and128_no : ∀ n, n < 128 → n &&& 128 = 0 := by decide +kernel
theorem and128_yes : ∀ n, n < 256 → 128 ≤ n → n &&& 128 = 128 := by decide +kernel

/-- a field: its tables, filled. -/
def IsField (b : Nat) (w : World) : Prop := Tab (Gf.tabF 255) b w

end Go.Proofs.Ytjlmajopfeplpaa

namespace Go.Proofs.Ytjlmajopfeplpaa
open Go.RowKit

theorem tm_pos (n : Int) (h : 0 ≤ n) : n.tmod 255 = n % 255 := Int.tmod_eq_emod_of_nonneg h
theorem tm_neg (n : Int) (h : n < 0) : (n % 255 = 0 ∧ n.tmod 255 = 0) ∨ (0 < n % 255 ∧ n.tmod 255 = n % 255 - 255) := by
  have := @Int.tmod_eq_emod n 255
  by_cases hd : (255 : Int) ∣ n
  · rw [if_pos (Or.inr hd)] at this
    left; omega
  · rw [if_neg (by omega)] at this
    right
    have h1 : (Int.natAbs 255 : Int) = 255 := rfl
    rw [this]; omega

theorem IsField.drewN {b : Nat} {w : World} (h : IsField b w) (n : Nat) : IsField b (w.drewN n) := h
theorem IsField.log {b : Nat} {w : World} (h : IsField b w) {a : Nat} (ha : a < 256) : w.cell? ⟨b, 510 + a, none⟩ = some (.int .u8 (Gf.lg a : Nat)) := (h (510 + a) (by omega)).1
theorem IsField.pow {b : Nat} {w : World} (h : IsField b w) {j : Nat} (hj : j < 510) : w.cell? ⟨b, j, none⟩ = some (.int .u8 (Gf.pw j : Nat)) := by
  rw [← Gf.tab_pw hj]; exact (h j (by omega)).1

theorem Gf.pwr_mod (a : Nat) (n : Int) : Gf.pw ((((Gf.lg a : Nat) : Int) * (n % 255)) % 255).toNat = Gf.pwr a n := by
  unfold Gf.pwr
  rw [← Gf.pw_mod (Gf.lg a * _)]
  have h : 0 ≤ n % 255 := by omega
  obtain ⟨t, ht⟩ := Int.eq_ofNat_of_zero_le h
  rw [ht, Int.toNat_natCast]
  congr 1

/-- the error of what a byte that is 0 has none of. -/
def zeroErr (x : Int) : Int := if x = 0 then 6 else 0
/-- the inverse; 0 of 0. -/
def invOf (x : Int) : Int := if x = 0 then 0 else (Gf.pwr x.toNat (-1) : Nat)
/-- the power; of 0 to a number below 0: 0. -/
def powOf (x n : Int) : Int := if x = 0 then (if n = 0 then 1 else 0) else (Gf.pwr x.toNat n : Nat)
def powErr (x n : Int) : Int := if x = 0 ∧ n < 0 then 6 else 0
def logOf (x : Int) : Int := if x = 0 then 0 else (Gf.lg x.toNat : Nat)
def mulOf (x y : Int) : Int := (Gf.mul x.toNat y.toNat : Nat)
def expOf (n : Int) : Int := (Gf.pw (n % 255).toNat : Nat)

theorem powOf_inv (x : Int) : powOf x (-1) = invOf x := by unfold powOf invOf; split <;> simp
theorem powErr_inv (x : Int) : powErr x (-1) = zeroErr x := by unfold powErr zeroErr; simp

end Go.Proofs.Ytjlmajopfeplpaa

namespace Go.Proofs.Ytjlmajopfeplpaa
open Go.RowKit

theorem i64_xor_nat (a b : Nat) (ha : a < 2 ^ 62) (hb : b < 2 ^ 62) : bits .xor .i64 (a : Int) (b : Int) = ((a ^^^ b : Nat) : Int) := by
  have hx : a ^^^ b < 2 ^ 62 := Nat.xor_lt_two_pow ha hb
  show IntKind.i64.wrap ((BitVec.ofInt 64 (a : Int) ^^^ BitVec.ofInt 64 (b : Int)).toNat : Int) = _
  rw [BitVec.toNat_xor, ofInt_u64 a (by omega), ofInt_u64 b (by omega), IntKind.wrap_i64]
  omega
theorem i64_and_nat (a b : Nat) (ha : a < 2 ^ 62) (hb : b < 2 ^ 62) : bits .and .i64 (a : Int) (b : Int) = ((a &&& b : Nat) : Int) := by
  have hx : a &&& b < 2 ^ 62 := Nat.and_lt_two_pow _ hb
  show IntKind.i64.wrap ((BitVec.ofInt 64 (a : Int) &&& BitVec.ofInt 64 (b : Int)).toNat : Int) = _
  rw [BitVec.toNat_and, ofInt_u64 a (by omega), ofInt_u64 b (by omega), IntKind.wrap_i64]
  omega
theorem bit_of (p k : Nat) : ((p / 2 ^ k &&& 1) == 1) = p.testBit k := by
  rw [Nat.testBit_eq_decide_div_mod_eq, Nat.and_one_is_mod, Bool.eq_iff_iff]; simp
theorem u8_bit (m k : Nat) (hm : m < 256) : (bits .and .u8 ((m : Int) / 2 ^ k) 1 == 1) = m.testBit k := by
  have h : (m : Int) / 2 ^ k = ((m / 2 ^ k : Nat) : Int) := by simp
  have hl : m / 2 ^ k ≤ m := Nat.div_le_self _ _
  rw [h, show (1 : Int) = ((1 : Nat) : Int) from rfl, u8_and_nat _ _ (by omega) (by omega), ← bit_of]
  rw [Bool.eq_iff_iff]; simp; omega
theorem i64_bit (m k : Nat) (hm : m < 2 ^ 62) : (bits .and .i64 ((m : Int) / 2 ^ k) 1 == 1) = m.testBit k := by
  have h : (m : Int) / 2 ^ k = ((m / 2 ^ k : Nat) : Int) := by simp
  have hl : m / 2 ^ k ≤ m := Nat.div_le_self _ _
  rw [h, show (1 : Int) = ((1 : Nat) : Int) from rfl, i64_and_nat _ _ (by omega) (by omega), ← bit_of]
  rw [Bool.eq_iff_iff]; simp; omega

theorem Gf.shl_lt {n k : Nat} (hn : n < 256) (hk : k < 8) : n <<< k < 32768 := by
  rw [Nat.shiftLeft_eq]
  have : 2 ^ k ≤ 2 ^ 7 := Nat.pow_le_pow_right (by omega) (by omega)
  have := Nat.mul_le_mul (show n ≤ 255 by omega) this
  omega
theorem Gf.acc_lt {n m : Nat} (hn : n < 256) : ∀ k, k ≤ 8 → Gf.acc n m k < 32768
  | 0, _ => by show 0 < _; omega
  | k + 1, hk => by
    have h1 := Gf.acc_lt (m := m) hn k (by omega)
    unfold Gf.acc
    split
    · exact Nat.xor_lt_two_pow (n := 15) h1 (Gf.shl_lt hn (by omega))
    · exact h1
theorem Gf.red_lt {p : Nat} (hp : p < 32768) : ∀ k, k ≤ 8 → Gf.red p k < 65536
  | 0, _ => by show p < _; omega
  | k + 1, hk => by
    have h1 := Gf.red_lt hp k (by omega)
    unfold Gf.red
    split
    · refine Nat.xor_lt_two_pow (n := 16) h1 ?_
      rw [Nat.shiftLeft_eq]
      have : 2 ^ (7 - k) ≤ 2 ^ 7 := Nat.pow_le_pow_right (by omega) (by omega)
      have := Nat.mul_le_mul (Nat.le_refl 285) this
      omega
    · exact h1
theorem Gf.acc_yes {n m k : Nat} (hn : n < 256) (hk : k < 8) (h : m.testBit k = true) : bits .xor .i64 ((Gf.acc n m k : Nat) : Int) ((n : Int) * 2 ^ k) = ((Gf.acc n m (k + 1) : Nat) : Int) := by
  have h1 := Gf.acc_lt (m := m) hn k (by omega)
  have h2 := Gf.shl_lt hn hk
  rw [show (n : Int) * 2 ^ k = ((n <<< k : Nat) : Int) by rw [Nat.shiftLeft_eq]; simp, i64_xor_nat _ _ (by omega) (by omega)]
  conv => rhs; unfold Gf.acc
  rw [if_pos h]
theorem Gf.acc_no {n m k : Nat} (h : m.testBit k = false) : Gf.acc n m (k + 1) = Gf.acc n m k := by
  conv => lhs; unfold Gf.acc
  rw [if_neg (by simp [h])]
theorem Gf.red_yes {p k : Nat} (hp : p < 32768) (hk : k < 8) (h : (Gf.red p k).testBit (15 - k) = true) : bits .xor .i64 ((Gf.red p k : Nat) : Int) (285 * 2 ^ (7 - k)) = ((Gf.red p (k + 1) : Nat) : Int) := by
  have h1 := Gf.red_lt hp k (by omega)
  have h2 : 285 <<< (7 - k) < 65536 := by
    rw [Nat.shiftLeft_eq]
    have : 2 ^ (7 - k) ≤ 2 ^ 7 := Nat.pow_le_pow_right (by omega) (by omega)
    have := Nat.mul_le_mul (Nat.le_refl 285) this
    omega
  rw [show (285 : Int) * (2 : Int) ^ (7 - k) = ((285 <<< (7 - k) : Nat) : Int) by rw [Nat.shiftLeft_eq]; simp, i64_xor_nat _ _ (by omega) (by omega)]
  conv => rhs; unfold Gf.red
  rw [if_pos h]
theorem Gf.red_no {p k : Nat} (h : (Gf.red p k).testBit (15 - k) = false) : Gf.red p (k + 1) = Gf.red p k := by
  conv => lhs; unfold Gf.red
  rw [if_neg (by simp [h])]

/-- where the inverse stands. -/
theorem inv_at {a : Nat} (ha : a < 256) (h0 : a ≠ 0) (b : Nat) (hb : b < 256) : (Gf.mul a b = 1) ↔ b = Gf.pwr a (-1) := by
  have hi := Gf.pwr_lt a (-1)
  constructor
  · intro h
    rw [← Gf.mul_one b hb, ← Gf.mul_inv ha h0, ← Gf.mul_assoc hi ha hb, h, Gf.mul_one' hi]
  · intro h
    rw [h, Gf.mul_comm ha hi, Gf.mul_inv ha h0]

end Go.Proofs.Ytjlmajopfeplpaa
