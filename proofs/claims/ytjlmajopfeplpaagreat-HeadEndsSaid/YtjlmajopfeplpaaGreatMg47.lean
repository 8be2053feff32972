import Derived.Test.YtjlmajopfeplpaaGreatMg10
import Derived.Test.YtjlmajopfeplpaaGreatMg31
import Derived.Test.YtjlmajopfeplpaaGreatMg41
import Derived.Test.YtjlmajopfeplpaaGreatMg46
namespace Go.Proofs.YtjlmajopfeplpaaGreat
open Go.RowKit Go.Shelf

theorem Crc.bit_in (v r : Nat) (hv : v < 256) (hr : r < 8) : bits .xor .u8 (v : Int) ((2 : Int) ^ r % 256) = ((v ^^^ 2 ^ r : Nat) : Int) := by
  have hp : 2 ^ r < 256 := Nat.lt_of_lt_of_le (Nat.pow_lt_pow_right (a := 2) (by omega) hr) (by decide)
  have h1 : (2 : Int) ^ r % 256 = ((2 ^ r : Nat) : Int) := by
    have h2 : (2 : Int) ^ r = ((2 ^ r : Nat) : Int) := by simp
    rw [h2]
    generalize 2 ^ r = p at hp
    omega
  rw [h1, u8_xor_nat _ _ hv hp]
/-- a slice of a block that goes on. -/
theorem Bl.sl2 {w : World} {g n C cap : Nat} {h : Nat → Nat} (hb : Bl w g n C h) (h1 : n ≤ cap) (h2 : cap ≤ maxLen) (h3 : Pf.By h) (h4 : Pf.Up h n) : Sl w (some ⟨g, 0, none⟩) n cap h :=
  ⟨h1, h2, h3, h4, fun e => (by cases e), fun ad e _ => (by cases e; rfl), fun ad e i hi => by
    cases e
    show w.cell? ⟨g, 0 + i, none⟩ = _
    rw [Nat.zero_add]; exact hb.cell hi⟩
/-- as many bits turned, from the bit k on, by w. -/
def flipT (s : Nat → Nat) (k w : Nat) : Nat → Nat → Nat
  | 0, j => s j
  | i + 1, j => if w.testBit i = true ∧ (k + i) / 8 = j then flipT s k w i j ^^^ 2 ^ ((k + i) % 8) else flipT s k w i j
theorem flipT_by {s : Nat → Nat} (hs : Pf.By s) (k w : Nat) : ∀ i, Pf.By (flipT s k w i)
  | 0 => hs
  | i + 1 => fun j => by
    unfold flipT
    split
    · refine Nat.xor_lt_two_pow (n := 8) (flipT_by hs k w i j) ?_
      exact Nat.pow_lt_pow_right (by omega) (Nat.mod_lt _ (by omega))
    · exact flipT_by hs k w i j
theorem flipT_up {s : Nat → Nat} {k w N : Nat} (hs : Pf.Up s N) : ∀ {i}, k + i ≤ 8 * N → Pf.Up (flipT s k w i) N
  | 0, _ => hs
  | i + 1, h => fun j hj => by
    unfold flipT
    rw [if_neg (fun hh => by have := hh.2; omega)]
    exact flipT_up hs (i := i) (by omega) j hj
theorem flipT_no {s : Nat → Nat} {k w i : Nat} (h : w.testBit i = false) (j : Nat) : flipT s k w i j = flipT s k w (i + 1) j := by
  conv => rhs; unfold flipT
  rw [if_neg (by rw [h]; simp)]
theorem flipT_yes {s : Nat → Nat} {k w i : Nat} (h : w.testBit i = true) (j : Nat) : (if j = (k + i) / 8 then flipT s k w i ((k + i) / 8) ^^^ 2 ^ ((k + i) % 8) else flipT s k w i j) = flipT s k w (i + 1) j := by
  conv => rhs; unfold flipT
  by_cases e : j = (k + i) / 8
  · subst e; rw [if_pos rfl, if_pos ⟨h, rfl⟩]
  · rw [if_neg e, if_neg (fun hh => e hh.2.symm)]
theorem flipT_bit (s : Nat → Nat) (k w p : Nat) : ∀ i, (flipT s k w i (p / 8)).testBit (p % 8) = ((s (p / 8)).testBit (p % 8) ^^ (decide (k ≤ p ∧ p < k + i) && w.testBit (p - k)))
  | 0 => by
    have : ¬ (k ≤ p ∧ p < k + 0) := by omega
    rw [decide_eq_false this]; simp [flipT]
  | i + 1 => by
    have ih := flipT_bit s k w p i
    by_cases e : p = k + i
    · subst e
      have h0 : ¬ (k ≤ k + i ∧ k + i < k + i) := by omega
      have h1 : k ≤ k + i ∧ k + i < k + (i + 1) := by omega
      rw [decide_eq_false h0, Bool.false_and, Bool.xor_false] at ih
      rw [decide_eq_true h1, Bool.true_and, Nat.add_sub_cancel_left]
      cases hw : w.testBit i with
      | false => rw [← flipT_no hw, ih]; simp
      | true =>
        rw [← flipT_yes hw, if_pos rfl, Nat.testBit_xor, ih, Nat.testBit_two_pow_self]
    · have h2 : decide (k ≤ p ∧ p < k + (i + 1)) = decide (k ≤ p ∧ p < k + i) := by
        rw [Bool.eq_iff_iff, decide_eq_true_iff, decide_eq_true_iff]; omega
      rw [h2, ← ih]
      cases hw : w.testBit i with
      | false => rw [← flipT_no hw]
      | true =>
        rw [← flipT_yes hw]
        by_cases e2 : p / 8 = (k + i) / 8
        · rw [if_pos e2, Nat.testBit_xor, Nat.testBit_two_pow_of_ne (by omega), Bool.xor_false, e2]
        · rw [if_neg e2]
/-- was one turned? -/
def anyT (w : Nat) : Nat → Bool
  | 0 => false
  | i + 1 => anyT w i || w.testBit i
theorem anyT_ex {w : Nat} : ∀ {i}, anyT w i = true → ∃ j, j < i ∧ w.testBit j = true
  | 0, h => by cases h
  | i + 1, h => by
    unfold anyT at h
    rcases Bool.or_eq_true .. ▸ h with h | h
    · obtain ⟨j, h1, h2⟩ := anyT_ex h
      exact ⟨j, by omega, h2⟩
    · exact ⟨i, by omega, h⟩
/-- what was turned is told. -/
theorem flip_told {f : Nat → Nat} {n k w I : Nat} (hf : Pf.By f) (hw : w < 2 ^ 32) (hI : I ≤ 32) (hk : k + I ≤ 8 * (n + 4)) (he : I = 32 ∨ k + I = 8 * (n + 4)) (ht : anyT w I = true) :
    eqB (Crc.byt (Crc.go 0 (flipT (Crc.sealed f n) k w I) n)) (fun i => flipT (Crc.sealed f n) k w I (n + i)) 4 = false := by
  cases hb : eqB (Crc.byt (Crc.go 0 (flipT (Crc.sealed f n) k w I) n)) (fun i => flipT (Crc.sealed f n) k w I (n + i)) 4 with
  | false => rfl
  | true =>
    exfalso
    rw [eqB_iff] at hb
    obtain ⟨j, hj1, hj2⟩ := anyT_ex ht
    refine Crc.told (k := k) (w := w) hf (flipT_by (fun i => Crc.sealed_lt hf n i) k w I) hw (fun p hp => ?_) ⟨j, by omega, by omega, hj2⟩ (fun i hi => (hb i hi).symm)
    rw [flipT_bit]
    congr 2
    rw [Bool.eq_iff_iff, decide_eq_true_iff, decide_eq_true_iff]
    omega
theorem sealed_sub {f : Nat → Nat} {n : Nat} (hu : Pf.Up f n) : sub (Crc.sealed f n) 0 n = f := funext fun i => by
  unfold sub
  split
  · rename_i h; rw [Nat.zero_add]; exact Crc.sealed_lo h
  · rename_i h; exact (hu i (by omega)).symm
theorem sealed_ok {f : Nat → Nat} (n : Nat) : eqB (Crc.byt (Crc.go 0 (Crc.sealed f n) n)) (fun i => Crc.sealed f n (n + i)) 4 = true := by
  rw [eqB_iff]
  intro i hi
  rw [Crc.sealed_go, Crc.sealed_hi hi]
end Go.Proofs.YtjlmajopfeplpaaGreat

namespace Go.Proofs.YtjlmajopfeplpaaGreat
open Go.RowKit Go.Shelf

/-- what Open answers, as numbers. -/
def openE (n : Nat) (f : Nat → Nat) : Int := if n < 4 then 4 else if okB f (n - 4) = true then 0 else 10
def openN (n : Nat) (f : Nat → Nat) : Nat := if n < 4 then 0 else if okB f (n - 4) = true then n - 4 else 0
def openF (n : Nat) (f : Nat → Nat) : Nat → Nat := if n < 4 then (fun _ => 0) else if okB f (n - 4) = true then sub f 0 (n - 4) else (fun _ => 0)
theorem openN_le (n : Nat) (f : Nat → Nat) : openN n f ≤ n := by unfold openN; (repeat' split) <;> omega
def OpenOut (w : World) (n : Nat) (f : Nat → Nat) (e : Ending) (w' : World) : Prop :=
  ∃ a c, e = .returned (.tuple #[.slice a (openN n f) c, .int .i64 (openE n f)]) ∧ Nw w' w.heap.size a (openN n f) c (openF n f) ∧ Below w.heap.size w w'
theorem OpenSays.out {w : World} {n : Nat} {f : Nat → Nat} {e : Ending} {w' : World} (h : OpenSays w n f e w') : OpenOut w n f e w' := by
  unfold OpenOut openN openE openF
  rcases h with ⟨h1, rfl, hB⟩ | ⟨h1, h2, rfl, hB⟩ | ⟨h1, h2, a, c, rfl, hn, hB⟩
  · rw [if_pos h1, if_pos h1, if_pos h1]
    exact ⟨none, 0, rfl, Nw.nil _ _ (fun _ => rfl), hB⟩
  · have h1' : ¬ n < 4 := by omega
    rw [if_neg h1', if_neg h1', if_neg h1', h2]
    exact ⟨none, 0, rfl, Nw.nil _ _ (fun _ => rfl), hB⟩
  · have h1' : ¬ n < 4 := by omega
    rw [if_neg h1', if_neg h1', if_neg h1', h2]
    exact ⟨a, c, rfl, hn, hB⟩
/-- a slice of a block that goes on, as a row of its own. -/
theorem Bl.oz {w : World} {B g n cap C : Nat} {h : Nat → Nat} (hb : Bl w g n C h) (h1 : n ≤ cap) (h2 : cap ≤ C) (h3 : cap ≤ maxLen) (hB : B ≤ g) : Oz.OzRow w B 5 1 (.slice (some ⟨g, 0, none⟩) n cap) n (rowv h n) := by
  obtain ⟨vs, e1, e2, e3⟩ := hb
  refine ⟨by rw [rowv_len, Nat.mul_one], Or.inr ⟨g, cap, vs, rfl, hB, e1, h1, h3, by omega, ?_⟩⟩
  rw [Nat.mul_one]
  apply List.ext_getElem?
  intro i
  by_cases hi : i < n
  · rw [List.getElem?_take, if_pos hi, Array.getElem?_toList, e3 i hi, rowv_get hi]
  · rw [List.getElem?_take, if_neg hi, List.getElem?_eq_none (by rw [rowv_len]; omega)]
theorem Nw.oz {w : World} {B n cap : Nat} {a : Option Addr} {h : Nat → Nat} (hn : Nw w B a n cap h) : Oz.OzRow w B 5 1 (.slice a n cap) n (rowv h n) := by
  have h1 := hn.sl.capOk; have h2 := hn.sl.maxOk
  rcases hn.cond with ⟨rfl, rfl, rfl, _⟩ | ⟨g, rfl, hB, hb⟩
  · exact Oz.OzRow_nil _ _ _ _
  · exact hb.oz h1 (Nat.le_refl _) h2 hB
/-- one of three. -/
def of3 {α : Type} (x y z : α) (i : Nat) : α := if i = 0 then x else if i = 1 then y else z
theorem bag_three {w : World} {B N : Nat} {a0 a1 a2 : Option Addr} {n0 n1 n2 c0 c1 c2 : Nat} {h0 h1 h2 : Nat → Nat} (hN : N = w.heap.size)
    (o0 : Oz.OzRow w B 5 1 (.slice a0 n0 c0) n0 (rowv h0 n0)) (o1 : Oz.OzRow w B 5 1 (.slice a1 n1 c1) n1 (rowv h1 n1)) (o2 : Oz.OzRow w B 5 1 (.slice a2 n2 c2) n2 (rowv h2 n2)) :
    Oz.Bag (w.alloc (.cells #[.slice a0 n0 c0, .slice a1 n1 c1, .slice a2 n2 c2] 28)) B N 3 (of3 a0 a1 a2) (of3 n0 n1 n2) (of3 n0 n1 n2) (of3 c0 c1 c2) (of3 h0 h1 h2) := by
  subst hN
  refine ⟨fun k hk => ?_, fun k hk => ?_⟩
  · rw [World.cell?_alloc_new]
    match k, hk with
    | 0, _ => rfl | 1, _ => rfl | 2, _ => rfl
    | k + 3, hk => exact absurd hk (by omega)
  · match k, hk with
    | 0, _ => exact o0.alloc _
    | 1, _ => exact o1.alloc _
    | 2, _ => exact o2.alloc _
    | k + 3, hk => exact absurd hk (by omega)
theorem sep_three {a0 a1 a2 : Option Addr} (h01 : Oz.blk a0 = none ∨ Oz.blk a0 ≠ Oz.blk a1) (h02 : Oz.blk a0 = none ∨ Oz.blk a0 ≠ Oz.blk a2) (h12 : Oz.blk a1 = none ∨ Oz.blk a1 ≠ Oz.blk a2) : Oz.Sep (of3 a0 a1 a2) 3 := by
  have sy : ∀ {x y : Option Nat}, (x = none ∨ x ≠ y) → (y = none ∨ y ≠ x) := fun {x y} h => by
    rcases h with h | h
    · cases y with
      | none => exact Or.inl rfl
      | some v => right; rw [h]; simp
    · exact Or.inr (Ne.symm h)
  intro i j hi hj hij
  match i, j, hi, hj, hij with
  | 0, 0, _, _, h => exact absurd rfl h
  | 0, 1, _, _, _ => exact h01
  | 0, 2, _, _, _ => exact h02
  | 1, 0, _, _, _ => exact sy h01
  | 1, 1, _, _, h => exact absurd rfl h
  | 1, 2, _, _, _ => exact h12
  | 2, 0, _, _, _ => exact sy h02
  | 2, 1, _, _, _ => exact sy h12
  | 2, 2, _, _, h => exact absurd rfl h
  | i + 3, _, hi, _, _ => exact absurd hi (by omega)
  | 0, j + 3, _, hj, _ => exact absurd hj (by omega)
  | 1, j + 3, _, hj, _ => exact absurd hj (by omega)
  | 2, j + 3, _, hj, _ => exact absurd hj (by omega)
end Go.Proofs.YtjlmajopfeplpaaGreat
