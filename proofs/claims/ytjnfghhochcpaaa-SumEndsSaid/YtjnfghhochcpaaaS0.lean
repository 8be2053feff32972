/-
  Checksums: plain facts, no program in sight. A row of bytes is a function.
-/
import Derived.KernelRfl
namespace Go.Proofs.Ytjnfghhochcpaaa.Crc

/-- what goes in where the bit that goes was 1. -/
def pp (b : Bool) : Nat := if b then 3988292384 else 0
/-- one bit goes. -/
def m1 (s : Nat) : Nat := (s >>> 1) ^^^ pp (s.testBit 0)
/-- n bits go. -/
def mn (s : Nat) : Nat → Nat
  | 0 => s
  | n + 1 => m1 (mn s n)
/-- n bytes are put in, by f. -/
def run (s : Nat) (f : Nat → Nat) : Nat → Nat
  | 0 => s
  | n + 1 => mn (run s f n ^^^ f n) 8
/-- all bits turned. -/
def inv (s : Nat) : Nat := s ^^^ 4294967295
/-- the sum of bytes of which the first ones have the sum s, and the others are f's first n. -/
def go (s : Nat) (f : Nat → Nat) (n : Nat) : Nat := inv (run (inv s) f n)

theorem pp_xor (a b : Bool) : pp (a ^^ b) = pp a ^^^ pp b := by cases a <;> cases b <;> simp [pp]
theorem m1_xor (a b : Nat) : m1 (a ^^^ b) = m1 a ^^^ m1 b := by
  unfold m1
  rw [Nat.shiftRight_xor_distrib, Nat.testBit_xor, pp_xor]; ac_rfl
theorem mn_xor (a b : Nat) : ∀ n, mn (a ^^^ b) n = mn a n ^^^ mn b n
  | 0 => rfl
  | n + 1 => by show m1 _ = m1 _ ^^^ m1 _; rw [mn_xor a b n, m1_xor]
theorem m1_0 : m1 0 = 0 := rfl
theorem mn_0 : ∀ n, mn 0 n = 0
  | 0 => rfl
  | n + 1 => by show m1 _ = 0; rw [mn_0 n, m1_0]
theorem mn_s (s : Nat) : ∀ n, mn s (n + 1) = mn (m1 s) n
  | 0 => rfl
  | n + 1 => by show m1 (mn s (n + 1)) = m1 (mn (m1 s) n); rw [mn_s s n]
theorem mn_add (s n : Nat) : ∀ k, mn s (n + k) = mn (mn s n) k
  | 0 => rfl
  | k + 1 => by show m1 (mn s (n + k)) = m1 (mn (mn s n) k); rw [mn_add s n k]
theorem m1_2 (h : Nat) : m1 (2 * h) = h := by
  unfold m1
  have : (2 * h).testBit 0 = false := by simp [Nat.testBit_zero]
  rw [this, Nat.shiftRight_eq_div_pow]; simp [pp]
theorem mn_pow (h : Nat) : ∀ n, mn (2 ^ n * h) n = h
  | 0 => by simp [mn]
  | n + 1 => by rw [mn_s, Nat.pow_succ, Nat.mul_comm (2 ^ n) 2, Nat.mul_assoc, m1_2, mn_pow h n]
theorem pp_lt (b : Bool) : pp b < 2 ^ 32 := by cases b <;> decide
theorem m1_lt {s : Nat} (h : s < 2 ^ 32) : m1 s < 2 ^ 32 := by
  unfold m1
  refine Nat.xor_lt_two_pow ?_ (pp_lt _)
  rw [Nat.shiftRight_eq_div_pow]; omega
theorem mn_lt {s : Nat} (h : s < 2 ^ 32) : ∀ n, mn s n < 2 ^ 32
  | 0 => h
  | n + 1 => m1_lt (mn_lt h n)
theorem xor_lt {a b : Nat} (h : a < 2 ^ 32) (hb : b < 256) : a ^^^ b < 2 ^ 32 := Nat.xor_lt_two_pow h (by omega)
theorem run_lt {s : Nat} {f : Nat → Nat} (h : s < 2 ^ 32) (hf : ∀ i, f i < 256) : ∀ n, run s f n < 2 ^ 32
  | 0 => h
  | n + 1 => mn_lt (xor_lt (run_lt h hf n) (hf n)) 8
theorem inv_lt {s : Nat} (h : s < 2 ^ 32) : inv s < 2 ^ 32 := Nat.xor_lt_two_pow h (by decide)
theorem inv_inv (s : Nat) : inv (inv s) = s := by unfold inv; rw [Nat.xor_assoc, Nat.xor_self, Nat.xor_zero]
theorem go_lt {s : Nat} {f : Nat → Nat} (h : s < 2 ^ 32) (hf : ∀ i, f i < 256) (n : Nat) : go s f n < 2 ^ 32 := inv_lt (run_lt (inv_lt h) hf n)
theorem go_0 (s : Nat) (f : Nat → Nat) : go s f 0 = s := inv_inv s
/-- by a table: the higher bits come down as they are. -/
theorem by_table (r b : Nat) (_hb : b < 256) : mn (r ^^^ b) 8 = (r / 256) ^^^ mn (r % 256 ^^^ b) 8 := by
  have h : r = 2 ^ 8 * (r / 256) ^^^ r % 256 := by
    conv => lhs; rw [← Nat.div_add_mod r 256]
    rw [show 256 * (r / 256) = 2 ^ 8 * (r / 256) from rfl, Nat.two_pow_add_eq_or_of_lt (i := 8) (by omega)]
    apply Nat.eq_of_testBit_eq; intro i
    rw [Nat.testBit_or, Nat.testBit_xor]
    by_cases hi : i < 8
    · rw [Nat.testBit_two_pow_mul]
      have : ¬ 8 ≤ i := by omega
      simp [this]
    · rw [Nat.testBit_lt_two_pow (x := r % 256) (i := i) (by have := Nat.pow_le_pow_right (n := 2) (by omega) (show 8 ≤ i by omega); omega)]; simp
  conv => lhs; rw [h, Nat.xor_assoc, mn_xor, mn_pow]
theorem run_congr {s : Nat} {f g : Nat → Nat} : ∀ n, (∀ i, i < n → f i = g i) → run s f n = run s g n
  | 0, _ => rfl
  | n + 1, h => by show mn _ 8 = mn _ 8; rw [run_congr n fun i hi => h i (by omega), h n (by omega)]
theorem go_congr {s : Nat} {f g : Nat → Nat} {n : Nat} (h : ∀ i, i < n → f i = g i) : go s f n = go s g n := by unfold go; rw [run_congr n h]
theorem run_add (s : Nat) (f : Nat → Nat) (n : Nat) : ∀ k, run s f (n + k) = run (run s f n) (fun i => f (n + i)) k
  | 0 => rfl
  | k + 1 => by show mn (run s f (n + k) ^^^ f (n + k)) 8 = mn _ 8; rw [run_add s f n k]
theorem go_add (s : Nat) (f : Nat → Nat) (n k : Nat) : go s f (n + k) = go (go s f n) (fun i => f (n + i)) k := by
  unfold go; rw [inv_inv, run_add]
/-- a sum of rows: one behind the other. -/
def rows (s : Nat) (l : Nat → Nat) (f : Nat → Nat → Nat) : Nat → Nat
  | 0 => s
  | n + 1 => go (rows s l f n) (f n) (l n)
theorem rows_lt {s : Nat} {l : Nat → Nat} {f : Nat → Nat → Nat} (h : s < 2 ^ 32) (hf : ∀ i j, f i j < 256) : ∀ n, rows s l f n < 2 ^ 32
  | 0 => h
  | n + 1 => go_lt (rows_lt h hf n) (hf n) (l n)
/-- the rest, gone on with by whole rows. -/
def rrows (s : Nat) (l : Nat → Nat) (f : Nat → Nat → Nat) : Nat → Nat
  | 0 => s
  | n + 1 => run (rrows s l f n) (f n) (l n)
theorem rrows_eq (s : Nat) (l : Nat → Nat) (f : Nat → Nat → Nat) : ∀ n, rrows (inv s) l f n = inv (rows s l f n)
  | 0 => rfl
  | n + 1 => by show run _ _ _ = inv (inv (run (inv _) _ _)); rw [rrows_eq s l f n, inv_inv]
/-- the bytes of a sum, the lowest first. -/
def byt (s k : Nat) : Nat := s / 256 ^ k % 256
/-- sealed. -/
def sealed (f : Nat → Nat) (n : Nat) (i : Nat) : Nat := if i < n then f i else if i < n + 4 then byt (go 0 f n) (i - n) else 0

/-! of two rows the sums differ by what their difference makes -/
theorem run_xor (s t : Nat) (f g : Nat → Nat) : ∀ n, run (s ^^^ t) (fun i => f i ^^^ g i) n = run s f n ^^^ run t g n
  | 0 => rfl
  | n + 1 => by
    show mn (run (s ^^^ t) (fun i => f i ^^^ g i) n ^^^ (f n ^^^ g n)) 8 = mn _ 8 ^^^ mn _ 8
    rw [run_xor s t f g n, ← mn_xor]; congr 1; ac_rfl
theorem inv_xor (a b : Nat) : inv a ^^^ inv b = a ^^^ b := by
  unfold inv
  rw [show a ^^^ 4294967295 ^^^ (b ^^^ 4294967295) = a ^^^ b ^^^ (4294967295 ^^^ 4294967295) by ac_rfl]; simp
theorem go_diff (f g d : Nat → Nat) (n : Nat) (h : ∀ i, i < n → d i = f i ^^^ g i) : go 0 f n ^^^ go 0 g n = go 0 d n ^^^ go 0 (fun _ => 0) n := by
  unfold go
  rw [inv_xor, inv_xor, run_congr n h, ← run_xor, ← run_xor]
  have e : run (inv 0 ^^^ inv 0) (fun i => f i ^^^ g i ^^^ 0) n = run (inv 0 ^^^ inv 0) (fun i => f i ^^^ g i) n := run_congr n fun i _ => by simp
  rw [e]

/-! turned bits -/
theorem m1_inj0 {s : Nat} (hs : s < 2 ^ 32) (h : m1 s = 0) : s = 0 := by
  unfold m1 at h
  cases hb : s.testBit 0 with
  | false =>
    rw [hb] at h
    simp [pp, Nat.shiftRight_eq_div_pow] at h
    rw [Nat.testBit_zero] at hb
    have : ¬ s % 2 = 1 := by simpa using hb
    omega
  | true =>
    rw [hb] at h
    exfalso
    have h2 : (s >>> 1 ^^^ pp true).testBit 31 = true := by
      rw [Nat.testBit_xor, Nat.testBit_lt_two_pow (x := s >>> 1) (by rw [Nat.shiftRight_eq_div_pow]; omega)]
      decide
    rw [h] at h2; simp at h2
theorem mn_inj0 {s : Nat} (hs : s < 2 ^ 32) : ∀ n, mn s n = 0 → s = 0
  | 0, h => h
  | n + 1, h => mn_inj0 hs n (m1_inj0 (mn_lt hs n) h)
theorem mn_inj {a b n : Nat} (ha : a < 2 ^ 32) (hb : b < 2 ^ 32) (h : mn a n = mn b n) : a = b := by
  have h0 : mn (a ^^^ b) n = 0 := by rw [mn_xor, h, Nat.xor_self]
  have := mn_inj0 (Nat.xor_lt_two_pow ha hb) n h0
  have e : a ^^^ b ^^^ b = 0 ^^^ b := by rw [this]
  rw [Nat.xor_assoc, Nat.xor_self, Nat.xor_zero, Nat.zero_xor] at e; exact e
theorem run0 {f : Nat → Nat} : ∀ n, (∀ i, i < n → f i = 0) → run 0 f n = 0
  | 0, _ => rfl
  | n + 1, h => by show mn _ 8 = 0; rw [run0 n fun i hi => h i (by omega), h n (by omega)]; exact mn_0 8
theorem run_back {s : Nat} {f : Nat → Nat} (hs : s < 2 ^ 32) : ∀ n, (∀ i, i < n → f i = 0) → run s f n = 0 → s = 0
  | 0, _, h => h
  | n + 1, hf, h => by
    have h1 : run s f (n + 1) = mn (run s f n) 8 := by show mn _ 8 = mn _ 8; rw [hf n (by omega), Nat.xor_zero]
    rw [h1] at h
    have hl : run s f n < 2 ^ 32 := by
      have e : run s f n = run s (fun _ => 0) n := run_congr n fun i hi => hf i (by omega)
      rw [e]; exact run_lt hs (fun _ => by omega) n
    exact run_back hs n (fun i hi => hf i (by omega)) (mn_inj0 hl 8 h)

/-- bits are put in one by one. -/
def bst (r : Nat) (e : Nat → Bool) : Nat → Nat
  | 0 => r
  | n + 1 => m1 (bst r e n ^^^ (e n).toNat)
theorem bst_congr {r : Nat} {e d : Nat → Bool} : ∀ n, (∀ i, i < n → e i = d i) → bst r e n = bst r d n
  | 0, _ => rfl
  | n + 1, h => by show m1 _ = m1 _; rw [bst_congr n fun i hi => h i (by omega), h n (by omega)]
theorem bst_add (r : Nat) (e : Nat → Bool) (n : Nat) : ∀ k, bst r e (n + k) = bst (bst r e n) (fun i => e (n + i)) k
  | 0 => rfl
  | k + 1 => by show m1 (bst r e (n + k) ^^^ (e (n + k)).toNat) = m1 _; rw [bst_add r e n k]
theorem bst_none (r : Nat) : ∀ n, bst r (fun _ => false) n = mn r n
  | 0 => rfl
  | n + 1 => by show m1 (bst r (fun _ => false) n ^^^ 0) = m1 _; rw [bst_none r n, Nat.xor_zero]
theorem mod_s (b k : Nat) : b % 2 ^ (k + 1) = b % 2 ^ k ^^^ 2 ^ k * (b.testBit k).toNat := by
  apply Nat.eq_of_testBit_eq; intro i
  rw [Nat.testBit_xor, Nat.testBit_mod_two_pow, Nat.testBit_mod_two_pow, Nat.testBit_two_pow_mul]
  rcases Nat.lt_trichotomy i k with h | rfl | h
  · have h1 : i < k + 1 := by omega
    have h2 : ¬ k ≤ i := by omega
    simp [h, h1, h2]
  · cases b.testBit i <;> simp
  · have h1 : ¬ i < k + 1 := by omega
    have h2 : ¬ i < k := by omega
    have h3 : k ≤ i := by omega
    obtain ⟨d, hd⟩ : ∃ d, i - k = d + 1 := ⟨i - k - 1, by omega⟩
    rw [hd]
    cases b.testBit k <;> simp [h1, h2, Nat.testBit_succ]
theorem bst_nat (r b : Nat) : ∀ k, bst r (fun i => b.testBit i) k = mn (r ^^^ b % 2 ^ k) k
  | 0 => by show r = r ^^^ b % 1; rw [Nat.mod_one, Nat.xor_zero]
  | k + 1 => by
    show m1 (bst r (fun i => b.testBit i) k ^^^ (b.testBit k).toNat) = m1 (mn _ k)
    rw [bst_nat r b k, mod_s, ← Nat.xor_assoc, mn_xor (r ^^^ b % 2 ^ k), mn_pow]
theorem run_bst (r : Nat) (x : Nat → Nat) (hx : ∀ i, x i < 256) : ∀ n, run r x n = bst r (fun j => (x (j / 8)).testBit (j % 8)) (8 * n)
  | 0 => rfl
  | n + 1 => by
    show mn (run r x n ^^^ x n) 8 = _
    rw [run_bst r x hx n, show 8 * (n + 1) = 8 * n + 8 from rfl, bst_add]
    rw [bst_congr (d := fun i => (x n).testBit i) 8 (fun i hi => by
      show (x ((8 * n + i) / 8)).testBit ((8 * n + i) % 8) = _
      rw [show (8 * n + i) / 8 = n by omega, show (8 * n + i) % 8 = i by omega]), bst_nat, Nat.mod_eq_of_lt (show x n < 2 ^ 8 from hx n)]
theorem byt_lt (s k : Nat) : byt s k < 256 := Nat.mod_lt _ (by decide)
theorem byt_bit (c j : Nat) : (byt c (j / 8)).testBit (j % 8) = c.testBit j := by
  unfold byt
  rw [show 256 = 2 ^ 8 from rfl, ← Nat.pow_mul, Nat.testBit_mod_two_pow, Nat.testBit_div_two_pow]
  have h : j % 8 < 8 := by omega
  rw [show j % 8 + 8 * (j / 8) = j by omega]; simp [h]
theorem run_byt (s c : Nat) (hc : c < 2 ^ 32) : run s (byt c) 4 = mn (s ^^^ c) 32 := by
  rw [run_bst s _ (byt_lt c), bst_congr (d := fun j => c.testBit j) (8 * 4) (fun j _ => byt_bit c j), bst_nat, Nat.mod_eq_of_lt hc]
/-- what is sealed has one rest. -/
theorem rest_of {t : Nat → Nat} {n : Nat} (ht : ∀ i, t i < 256) (h : ∀ i, i < 4 → t (n + i) = byt (go 0 t n) i) : run (inv 0) t (n + 4) = mn 4294967295 32 := by
  have hl := go_lt (s := 0) (by decide) ht n
  rw [run_add, run_congr 4 h, run_byt _ _ hl]
  congr 1
  show run (inv 0) t n ^^^ inv (run (inv 0) t n) = _
  unfold inv
  rw [← Nat.xor_assoc, Nat.xor_self, Nat.zero_xor]
theorem sealed_lt {f : Nat → Nat} (hf : ∀ i, f i < 256) (n i : Nat) : sealed f n i < 256 := by
  unfold sealed; split
  · exact hf i
  · split
    · exact byt_lt _ _
    · decide
theorem sealed_lo {f : Nat → Nat} {n i : Nat} (h : i < n) : sealed f n i = f i := if_pos h
theorem sealed_hi {f : Nat → Nat} {n i : Nat} (h : i < 4) : sealed f n (n + i) = byt (go 0 f n) i := by
  unfold sealed; rw [if_neg (by omega), if_pos (by omega)]; congr 1; omega
theorem sealed_up {f : Nat → Nat} {n i : Nat} (h : n + 4 ≤ i) : sealed f n i = 0 := by
  unfold sealed; rw [if_neg (by omega), if_neg (by omega)]
theorem sealed_go (f : Nat → Nat) (n : Nat) : go 0 (sealed f n) n = go 0 f n := go_congr fun _ hi => sealed_lo hi
theorem sealed_rest {f : Nat → Nat} (hf : ∀ i, f i < 256) (n : Nat) : run (inv 0) (sealed f n) (n + 4) = mn 4294967295 32 :=
  rest_of (sealed_lt hf n) fun i hi => by rw [sealed_hi hi, sealed_go]
/-- some bits within 32 make a rest. -/
theorem burst {x : Nat → Nat} {L k w : Nat} (hx : ∀ i, x i < 256) (hw : w < 2 ^ 32) (he : ∀ j, j < 8 * L → (x (j / 8)).testBit (j % 8) = (decide (k ≤ j ∧ j < k + 32) && w.testBit (j - k)))
    (hj : ∃ j, j < 32 ∧ k + j < 8 * L ∧ w.testBit j = true) : run 0 x L ≠ 0 := by
  obtain ⟨j, hj1, hj2, hj3⟩ := hj
  rw [run_bst 0 x hx, bst_congr _ he]
  obtain ⟨d, hd⟩ : ∃ d, 8 * L = k + d := ⟨8 * L - k, by omega⟩
  rw [hd, bst_add, bst_congr (d := fun _ => false) k (fun i hi => by
    have : ¬ (k ≤ i ∧ i < k + 32) := by omega
    simp [this]), bst_none, mn_0]
  by_cases h32 : d ≤ 32
  · rw [bst_congr (d := fun i => w.testBit i) d (fun i hi => by
      have : k ≤ k + i ∧ k + i < k + 32 := by omega
      show (decide (k ≤ k + i ∧ k + i < k + 32) && w.testBit (k + i - k)) = _
      rw [Nat.add_sub_cancel_left]; simp [this]), bst_nat, Nat.zero_xor]
    intro h
    have h0 := mn_inj0 (Nat.lt_of_le_of_lt (Nat.mod_le _ _) hw) d h
    have : (w % 2 ^ d).testBit j = true := by rw [Nat.testBit_mod_two_pow, hj3]; simp; omega
    rw [h0] at this; simp at this
  · obtain ⟨r, rfl⟩ : ∃ r, d = 32 + r := ⟨d - 32, by omega⟩
    rw [bst_add, bst_congr (d := fun i => w.testBit i) 32 (fun i hi => by
      have : k ≤ k + i ∧ k + i < k + 32 := by omega
      show (decide (k ≤ k + i ∧ k + i < k + 32) && w.testBit (k + i - k)) = _
      rw [Nat.add_sub_cancel_left]; simp [this]), bst_nat, Nat.zero_xor, Nat.mod_eq_of_lt hw, bst_congr (d := fun _ => false) r (fun i hi => by
      have : ¬ (k ≤ k + (32 + i) ∧ k + (32 + i) < k + 32) := by omega
      show (decide (k ≤ k + (32 + i) ∧ k + (32 + i) < k + 32) && _) = _
      rw [decide_eq_false this]; rfl), bst_none, ← mn_add]
    intro h
    have h0 := mn_inj0 hw _ h
    rw [h0] at hj3; simp at hj3
/-- of what is sealed some bits within 32 are turned: it is told. -/
theorem told {f t : Nat → Nat} {n k w : Nat} (hf : ∀ i, f i < 256) (ht : ∀ i, t i < 256) (hw : w < 2 ^ 32)
    (he : ∀ j, j < 8 * (n + 4) → (t (j / 8)).testBit (j % 8) = ((sealed f n (j / 8)).testBit (j % 8) ^^ (decide (k ≤ j ∧ j < k + 32) && w.testBit (j - k))))
    (hj : ∃ j, j < 32 ∧ k + j < 8 * (n + 4) ∧ w.testBit j = true) : ¬ ∀ i, i < 4 → t (n + i) = byt (go 0 t n) i := by
  intro h
  have h1 := rest_of ht h
  rw [← sealed_rest hf n] at h1
  have h2 : run (inv 0 ^^^ inv 0) (fun i => t i ^^^ sealed f n i) (n + 4) = 0 := by rw [run_xor, h1, Nat.xor_self]
  rw [Nat.xor_self] at h2
  exact burst (x := fun i => t i ^^^ sealed f n i) (k := k) (fun i => Nat.xor_lt_two_pow (n := 8) (ht i) (sealed_lt hf n i)) hw (fun j hj => by
    show (t (j / 8) ^^^ sealed f n (j / 8)).testBit (j % 8) = _
    rw [Nat.testBit_xor, he j hj]
    cases (sealed f n (j / 8)).testBit (j % 8) <;> simp) hj h2
end Go.Proofs.Ytjnfghhochcpaaa.Crc
