import Derived.Test.YtjlmajopfeplpaaMg13
import Derived.Test.YtjlmajopfeplpaaMg19
namespace Go.Proofs.Ytjlmajopfeplpaa
open Go.RowKit Go.Shelf

theorem Crc.bit_in (v r : Nat) (hv : v < 256) (hr : r < 8) : bits .xor .u8 (v : Int) ((2 : Int) ^ r % 256) = ((v ^^^ 2 ^ r : Nat) : Int) := by
  have hp : 2 ^ r < 256 := Nat.lt_of_lt_of_le (Nat.pow_lt_pow_right (a := 2) (by omega) hr) (by decide)
  have h1 : (2 : Int) ^ r % 256 = ((2 ^ r : Nat) : Int) := by
    have h2 : (2 : Int) ^ r = ((2 ^ r : Nat) : Int) := by simp
    rw [h2]
    generalize 2 ^ r = p at hp
    omega
  rw [h1, u8_xor_nat _ _ hv hp]
/-- a slice of a block that goes on. -/
theorem Bl.sl2 {w : World} {g n C cap : Nat} {h : Nat → Nat} (hb : Bl w g n C h) (h1 : n ≤ cap) (h2 : cap ≤ maxLen) (h3 : Pf.By h) (h4 : Pf.Up h n) : Sl w (some ⟨g, 0, none⟩) n cap h :=
  ⟨h1, h2, h3, h4, fun e => (by cases e), fun ad e _ => (by cases e; rfl), fun ad e i hi => by
    cases e
    show w.cell? ⟨g, 0 + i, none⟩ = _
    rw [Nat.zero_add]; exact hb.cell hi⟩
/-- as many bits turned, from the bit k on, by w. -/
def flipT (s : Nat → Nat) (k w : Nat) : Nat → Nat → Nat
  | 0, j => s j
  | i + 1, j => if w.testBit i = true ∧ (k + i) / 8 = j then flipT s k w i j ^^^ 2 ^ ((k + i) % 8) else flipT s k w i j
theorem flipT_by {s : Nat → Nat} (hs : Pf.By s) (k w : Nat) : ∀ i, Pf.By (flipT s k w i)
  | 0 => hs
  | i + 1 => fun j => by
    unfold flipT
    split
    · refine Nat.xor_lt_two_pow (n := 8) (flipT_by hs k w i j) ?_
      exact Nat.pow_lt_pow_right (by omega) (Nat.mod_lt _ (by omega))
    · exact flipT_by hs k w i j
theorem flipT_up {s : Nat → Nat} {k w N : Nat} (hs : Pf.Up s N) : ∀ {i}, k + i ≤ 8 * N → Pf.Up (flipT s k w i) N
  | 0, _ => hs
  | i + 1, h => fun j hj => by
    unfold flipT
    rw [if_neg (fun hh => by have := hh.2; omega)]
    exact flipT_up hs (i := i) (by omega) j hj
theorem flipT_no {s : Nat → Nat} {k w i : Nat} (h : w.testBit i = false) (j : Nat) : flipT s k w i j = flipT s k w (i + 1) j := by
  conv => rhs; unfold flipT
  rw [if_neg (by rw [h]; simp)]
theorem flipT_yes {s : Nat → Nat} {k w i : Nat} (h : w.testBit i = true) (j : Nat) : (if j = (k + i) / 8 then flipT s k w i ((k + i) / 8) ^^^ 2 ^ ((k + i) % 8) else flipT s k w i j) = flipT s k w (i + 1) j := by
  conv => rhs; unfold flipT
  by_cases e : j = (k + i) / 8
  · subst e; rw [if_pos rfl, if_pos ⟨h, rfl⟩]
  · rw [if_neg e, if_neg (fun hh => e hh.2.symm)]
theorem flipT_bit (s : Nat → Nat) (k w p : Nat) : ∀ i, (flipT s k w i (p / 8)).testBit (p % 8) = ((s (p / 8)).testBit (p % 8) ^^ (decide (k ≤ p ∧ p < k + i) && w.testBit (p - k)))
  | 0 => by
    have : ¬ (k ≤ p ∧ p < k + 0) := by omega
    rw [decide_eq_false this]; simp [flipT]
  | i + 1 => by
    have ih := flipT_bit s k w p i
    by_cases e : p = k + i
    · subst e
      have h0 : ¬ (k ≤ k + i ∧ k + i < k + i) := by omega
      have h1 : k ≤ k + i ∧ k + i < k + (i + 1) := by omega
      rw [decide_eq_false h0, Bool.false_and, Bool.xor_false] at ih
      rw [decide_eq_true h1, Bool.true_and, Nat.add_sub_cancel_left]
      cases hw : w.testBit i with
      | false => rw [← flipT_no hw, ih]; simp
      | true =>
        rw [← flipT_yes hw, if_pos rfl, Nat.testBit_xor, ih, Nat.testBit_two_pow_self]
    · have h2 : decide (k ≤ p ∧ p < k + (i + 1)) = decide (k ≤ p ∧ p < k + i) := by
        rw [Bool.eq_iff_iff, decide_eq_true_iff, decide_eq_true_iff]; omega
      rw [h2, ← ih]
      cases hw : w.testBit i with
      | false => rw [← flipT_no hw]
      | true =>
        rw [← flipT_yes hw]
        by_cases e2 : p / 8 = (k + i) / 8
        · rw [if_pos e2, Nat.testBit_xor, Nat.testBit_two_pow_of_ne (by omega), Bool.xor_false, e2]
        · rw [if_neg e2]
/-- was one turned? -/
def anyT (w : Nat) : Nat → Bool
  | 0 => false
  | i + 1 => anyT w i || w.testBit i
theorem anyT_ex {w : Nat} : ∀ {i}, anyT w i = true → ∃ j, j < i ∧ w.testBit j = true
  | 0, h => by cases h
  | i + 1, h => by
    unfold anyT at h
    rcases Bool.or_eq_true .. ▸ h with h | h
    · obtain ⟨j, h1, h2⟩ := anyT_ex h
      exact ⟨j, by omega, h2⟩
    · exact ⟨i, by omega, h⟩
/-- what was turned is told. -/
theorem flip_told {f : Nat → Nat} {n k w I : Nat} (hf : Pf.By f) (hw : w < 2 ^ 32) (hI : I ≤ 32) (hk : k + I ≤ 8 * (n + 4)) (he : I = 32 ∨ k + I = 8 * (n + 4)) (ht : anyT w I = true) :
    eqB (Crc.byt (Crc.go 0 (flipT (Crc.sealed f n) k w I) n)) (fun i => flipT (Crc.sealed f n) k w I (n + i)) 4 = false := by
  cases hb : eqB (Crc.byt (Crc.go 0 (flipT (Crc.sealed f n) k w I) n)) (fun i => flipT (Crc.sealed f n) k w I (n + i)) 4 with
  | false => rfl
  | true =>
    exfalso
    rw [eqB_iff] at hb
    obtain ⟨j, hj1, hj2⟩ := anyT_ex ht
    refine Crc.told (k := k) (w := w) hf (flipT_by (fun i => Crc.sealed_lt hf n i) k w I) hw (fun p hp => ?_) ⟨j, by omega, by omega, hj2⟩ (fun i hi => (hb i hi).symm)
    rw [flipT_bit]
    congr 2
    rw [Bool.eq_iff_iff, decide_eq_true_iff, decide_eq_true_iff]
    omega
theorem sealed_sub {f : Nat → Nat} {n : Nat} (hu : Pf.Up f n) : sub (Crc.sealed f n) 0 n = f := funext fun i => by
  unfold sub
  split
  · rename_i h; rw [Nat.zero_add]; exact Crc.sealed_lo h
  · rename_i h; exact (hu i (by omega)).symm
theorem sealed_ok {f : Nat → Nat} (n : Nat) : eqB (Crc.byt (Crc.go 0 (Crc.sealed f n) n)) (fun i => Crc.sealed f n (n + i)) 4 = true := by
  rw [eqB_iff]
  intro i hi
  rw [Crc.sealed_go, Crc.sealed_hi hi]
end Go.Proofs.Ytjlmajopfeplpaa
