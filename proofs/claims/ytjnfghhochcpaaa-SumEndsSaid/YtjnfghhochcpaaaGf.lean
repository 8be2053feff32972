/-
  Bytes as a field: plain facts, no program in sight.
-/
import Derived.KernelRfl
namespace Go.Proofs.Ytjnfghhochcpaaa.Gf

/-- times x. -/
def xt (a : Nat) : Nat := if a < 128 then 2 * a else (2 * a - 256) ^^^ 29
/-- the power of 2 to n. -/
def pw : Nat → Nat
  | 0 => 1
  | n + 1 => xt (pw n)
/-- the product ahead of the rest: after k bits. -/
def acc (a b : Nat) : Nat → Nat
  | 0 => 0
  | k + 1 => if b.testBit k then acc a b k ^^^ (a <<< k) else acc a b k
/-- what is left after k bits from 15 down. -/
def red (p : Nat) : Nat → Nat
  | 0 => p
  | k + 1 => if (red p k).testBit (15 - k) then red p k ^^^ (285 <<< (7 - k)) else red p k
def mul (a b : Nat) : Nat := red (acc a b 8) 8

theorem acc_xor (a b c : Nat) : ∀ k, acc a (b ^^^ c) k = acc a b k ^^^ acc a c k
  | 0 => by simp [acc]
  | k + 1 => by
    simp only [acc, acc_xor a b c k, Nat.testBit_xor]
    cases b.testBit k <;> cases c.testBit k <;> simp <;> (try ac_rfl)
    rw [show acc a b k ^^^ a <<< k ^^^ (acc a c k ^^^ a <<< k) = acc a b k ^^^ acc a c k ^^^ (a <<< k ^^^ a <<< k) from by ac_rfl]; simp
theorem red_xor (p q : Nat) : ∀ k, red (p ^^^ q) k = red p k ^^^ red q k
  | 0 => rfl
  | k + 1 => by
    simp only [red, red_xor p q k, Nat.testBit_xor]
    cases (red p k).testBit (15 - k) <;> cases (red q k).testBit (15 - k) <;> simp <;> (try ac_rfl)
    generalize 285 <<< (7 - k) = z
    rw [show red p k ^^^ z ^^^ (red q k ^^^ z) = red p k ^^^ red q k ^^^ (z ^^^ z) from by ac_rfl]; simp
theorem mul_xor (a b c : Nat) : mul a (b ^^^ c) = mul a b ^^^ mul a c := by
  unfold mul; rw [acc_xor, red_xor]

/-- a byte is the sum of its bits. -/
theorem xor_bits {P : Nat → Prop} (h0 : P 0) (hx : ∀ b c, b < 256 → c < 256 → P b → P c → P (b ^^^ c)) (h1 : ∀ i, i < 8 → P (1 <<< i)) : ∀ b, b < 256 → P b := by
  have : ∀ n, n ≤ 8 → ∀ b, b < 2 ^ n → P b := by
    intro n
    induction n with
    | zero => intro _ b hb; have : b = 0 := by simp at hb; omega
              rw [this]; exact h0
    | succ n ih =>
      intro hn b hb
      by_cases h : b < 2 ^ n
      · exact ih (by omega) b h
      · have hp : 2 ^ (n + 1) = 2 * 2 ^ n := by rw [Nat.pow_succ]; omega
        have hq : 2 ^ (n + 1) ≤ 256 := by
          have := Nat.pow_le_pow_right (n := 2) (by omega) hn
          simpa using this
        have e : b = (b - 2 ^ n) ^^^ (1 <<< n) := by
          apply Nat.eq_of_testBit_eq
          intro i
          rw [Nat.testBit_xor, Nat.one_shiftLeft, Nat.testBit_two_pow]
          have hb' : b = 2 ^ n + (b - 2 ^ n) := by omega
          by_cases hi : n = i
          · subst hi
            have h1 : (b - 2 ^ n).testBit n = false := Nat.testBit_lt_two_pow (by omega)
            rw [h1]
            conv => lhs; rw [hb']
            rw [Nat.testBit_two_pow_add_eq, h1]; simp
          · conv => lhs; rw [hb']
            by_cases hl : i < n
            · rw [Nat.testBit_two_pow_add_gt hl]; simp [hi]
            · rw [Nat.testBit_lt_two_pow (x := 2 ^ n + (b - 2 ^ n)) (i := i), Nat.testBit_lt_two_pow (x := b - 2 ^ n) (i := i)]
              · simp [hi]
              · have := Nat.pow_le_pow_right (n := 2) (by omega) (show n ≤ i by omega); omega
              · have := Nat.pow_le_pow_right (n := 2) (by omega) (show n + 1 ≤ i by omega); omega
        rw [e]
        refine hx _ _ (by omega) ?_ (ih (by omega) _ (by omega)) (h1 n (by omega))
        rw [Nat.one_shiftLeft]; omega
  intro b hb; exact this 8 (by omega) b (by simpa using hb)

theorem xor_lt {a b : Nat} (ha : a < 256) (hb : b < 256) : a ^^^ b < 256 := Nat.xor_lt_two_pow (n := 8) ha hb
theorem xt_lt {a : Nat} (h : a < 256) : xt a < 256 := by
  unfold xt; split
  · omega
  · exact xor_lt (by omega) (by omega)
/-- times x, by its highest bit. -/
def xb (a : Nat) : Nat := if a.testBit 7 then a <<< 1 ^^^ 285 else a <<< 1
theorem xt_eq : ∀ a, a < 256 → xt a = xb a := by decide +kernel
theorem xb_xor (a b : Nat) : xb (a ^^^ b) = xb a ^^^ xb b := by
  unfold xb
  rw [Nat.testBit_xor, Nat.shiftLeft_xor_distrib]
  generalize a <<< 1 = x
  generalize b <<< 1 = y
  generalize 285 = z
  cases a.testBit 7 <;> cases b.testBit 7 <;> simp <;> (try ac_rfl)
  rw [show x ^^^ z ^^^ (y ^^^ z) = x ^^^ y ^^^ (z ^^^ z) from by ac_rfl]; simp
theorem xt_xor (a : Nat) (ha : a < 256) (b : Nat) (hb : b < 256) : xt (a ^^^ b) = xt a ^^^ xt b := by
  rw [xt_eq _ (xor_lt ha hb), xt_eq _ ha, xt_eq _ hb, xb_xor]
theorem pw_lt : ∀ n, pw n < 256
  | 0 => by decide
  | n + 1 => xt_lt (pw_lt n)
theorem mul_one : ∀ b, b < 256 → mul 1 b = b := by decide +kernel
theorem mul_lt_bit : ∀ a, a < 256 → ∀ i, i < 8 → mul a (1 <<< i) < 256 := by decide +kernel
theorem mul_xt_bit : ∀ a, a < 256 → ∀ i, i < 8 → mul (xt a) (1 <<< i) = xt (mul a (1 <<< i)) := by decide +kernel
theorem acc_zero (a : Nat) : ∀ k, acc a 0 k = 0
  | 0 => rfl
  | k + 1 => by simp [acc, acc_zero a k]
theorem zero_acc (b : Nat) : ∀ k, acc 0 b k = 0
  | 0 => rfl
  | k + 1 => by simp [acc, zero_acc b k]
theorem red_zero : ∀ k, red 0 k = 0
  | 0 => rfl
  | k + 1 => by simp [red, red_zero k]
theorem mul_zero (a : Nat) : mul a 0 = 0 := by unfold mul; rw [acc_zero, red_zero]
theorem zero_mul (b : Nat) : mul 0 b = 0 := by unfold mul; rw [zero_acc, red_zero]
theorem mul_lt {a b : Nat} (ha : a < 256) (hb : b < 256) : mul a b < 256 :=
  xor_bits (P := fun b => mul a b < 256) (by rw [mul_zero]; omega) (fun b c _ _ h1 h2 => by rw [mul_xor]; exact xor_lt h1 h2) (fun i hi => mul_lt_bit a ha i hi) b hb
theorem xt_mul {a b : Nat} (ha : a < 256) (hb : b < 256) : mul (xt a) b = xt (mul a b) :=
  xor_bits (P := fun b => mul (xt a) b = xt (mul a b)) (by rw [mul_zero, mul_zero]; rfl)
    (fun b c h3 h4 h1 h2 => by rw [mul_xor, mul_xor, h1, h2, xt_xor _ (mul_lt ha h3) _ (mul_lt ha h4)]) (fun i hi => mul_xt_bit a ha i hi) b hb
theorem pw_mul {b : Nat} (hb : b < 256) : ∀ n, mul (pw (n + 1)) b = xt (mul (pw n) b) := fun n => xt_mul (pw_lt n) hb
theorem pw_add (m : Nat) : ∀ n, mul (pw n) (pw m) = pw (n + m)
  | 0 => by rw [Nat.zero_add]; exact mul_one _ (pw_lt m)
  | n + 1 => by
    rw [pw_mul (pw_lt m), pw_add m n, Nat.add_right_comm]; rfl
theorem pw_255 : pw 255 = 1 := by decide +kernel
theorem pw_round : ∀ n, pw (n + 255) = pw n
  | 0 => by rw [Nat.zero_add]; exact pw_255
  | n + 1 => by
    show xt (pw (n + 255)) = xt (pw n)
    rw [pw_round n]
theorem pw_rounds (n : Nat) : ∀ k, pw (n + 255 * k) = pw n
  | 0 => rfl
  | k + 1 => by rw [show n + 255 * (k + 1) = (n + 255 * k) + 255 by omega, pw_round, pw_rounds n k]
theorem pw_mod (n : Nat) : pw (n % 255) = pw n := by
  conv => rhs; rw [← Nat.mod_add_div n 255]
  rw [pw_rounds]
theorem xt_pos : ∀ a, a < 256 → a ≠ 0 → xt a ≠ 0 := by decide +kernel
theorem pw_pos : ∀ n, pw n ≠ 0
  | 0 => by decide
  | n + 1 => xt_pos _ (pw_lt n) (pw_pos n)
/-- so many powers, one behind the other. -/
def pwl : Nat → Nat → List Nat
  | _, 0 => []
  | p, n + 1 => p :: pwl (xt p) n
theorem pwl_get : ∀ (n m i : Nat) (_ : i < n), (pwl (pw m) n)[i]? = some (pw (m + i))
  | 0, _, _, h => by omega
  | n + 1, m, 0, _ => by simp [pwl]
  | n + 1, m, i + 1, h => by
    show (pwl (pw (m + 1)) n)[i]? = _
    rw [pwl_get n (m + 1) i (by omega), show m + 1 + i = m + (i + 1) by omega]
theorem pwl_all : ∀ a, a < 256 → a ≠ 0 → a ∈ pwl 1 255 := by decide +kernel
theorem pwl_len : (pwl 1 255).length = 255 := by decide +kernel
theorem pwl_nodup : (pwl 1 255).Nodup := by decide +kernel
theorem pw_all (a : Nat) (h : a < 256) (h0 : a ≠ 0) : ∃ n, n < 255 ∧ pw n = a := by
  obtain ⟨i, hi, e⟩ := List.getElem_of_mem (pwl_all a h h0)
  rw [pwl_len] at hi
  have := pwl_get 255 0 i hi
  rw [Nat.zero_add] at this
  rw [show pw 0 = 1 from rfl, List.getElem?_eq_getElem (by rw [pwl_len]; exact hi), e] at this
  exact ⟨i, hi, by simpa using this.symm⟩
theorem pw_inj {n m : Nat} (hn : n < 255) (hm : m < 255) (h : pw n = pw m) : n = m := by
  have a := pwl_get 255 0 n hn
  have b := pwl_get 255 0 m hm
  rw [Nat.zero_add, show pw 0 = 1 from rfl] at a b
  rw [List.getElem?_eq_getElem (by rw [pwl_len]; exact hn)] at a
  rw [List.getElem?_eq_getElem (by rw [pwl_len]; exact hm)] at b
  exact (List.getElem_inj pwl_nodup).1 (by
    have a' := Option.some.inj a
    have b' := Option.some.inj b
    rw [a', b', h])

/-- the tables behind k rounds. -/
def tabF : Nat → Nat → Nat
  | 0, _ => 0
  | k + 1, j => if j = 510 + pw k then k else if j = k + 255 then pw k else if j = k then pw k else tabF k j
theorem tabF_pw : ∀ k, k ≤ 255 → ∀ j, j < k → tabF k j = pw j ∧ tabF k (j + 255) = pw j
  | 0, _, _, h => by omega
  | k + 1, hk, j, h => by
    by_cases e : j = k
    · subst e
      constructor
      · simp only [tabF]; rw [if_neg (by omega), if_neg (by omega), if_pos trivial]
      · simp only [tabF]; rw [if_neg (by omega), if_pos trivial]
    · have ih := tabF_pw k (by omega) j (by omega)
      constructor
      · simp only [tabF]; rw [if_neg (by omega), if_neg (by omega), if_neg (by omega)]; exact ih.1
      · simp only [tabF]; rw [if_neg (by omega), if_neg (by omega), if_neg (by omega)]; exact ih.2
theorem tabF_lg : ∀ k, k ≤ 255 → ∀ n, n < k → pw (tabF k (510 + pw n)) = pw n ∧ tabF k (510 + pw n) < k
  | 0, _, _, h => by omega
  | k + 1, hk, n, h => by
    by_cases e : pw n = pw k
    · simp only [tabF]; rw [if_pos (by omega), e]; exact ⟨rfl, by omega⟩
    · have : n ≠ k := fun hh => e (by rw [hh])
      have ih := tabF_lg k (by omega) n (by omega)
      simp only [tabF]; rw [if_neg (by omega), if_neg (by omega), if_neg (by omega)]
      exact ⟨ih.1, by omega⟩
/-- the logarithm. -/
def lg (a : Nat) : Nat := tabF 255 (510 + a)
theorem lg_lt {a : Nat} (h : a < 256) (h0 : a ≠ 0) : lg a < 255 := by
  obtain ⟨n, hn, rfl⟩ := pw_all a h h0
  exact (tabF_lg 255 (by omega) n hn).2
theorem pw_lg {a : Nat} (h : a < 256) (h0 : a ≠ 0) : pw (lg a) = a := by
  obtain ⟨n, hn, rfl⟩ := pw_all a h h0
  exact (tabF_lg 255 (by omega) n hn).1
theorem lg_pw {n : Nat} (h : n < 255) : lg (pw n) = n :=
  pw_inj (lg_lt (pw_lt n) (pw_pos n)) h (pw_lg (pw_lt n) (pw_pos n))
theorem tab_pw {j : Nat} (h : j < 510) : tabF 255 j = pw j := by
  by_cases e : j < 255
  · exact (tabF_pw 255 (by omega) j e).1
  · have := (tabF_pw 255 (by omega) (j - 255) (by omega)).2
    rw [show j - 255 + 255 = j by omega] at this
    rw [this, ← pw_round, show j - 255 + 255 = j by omega]

theorem mul_pw {a b : Nat} (ha : a < 256) (hb : b < 256) (a0 : a ≠ 0) (b0 : b ≠ 0) : mul a b = pw (lg a + lg b) := by
  rw [← pw_add, pw_lg ha a0, pw_lg hb b0]
theorem mul_pos {a b : Nat} (ha : a < 256) (hb : b < 256) (a0 : a ≠ 0) (b0 : b ≠ 0) : mul a b ≠ 0 := by
  rw [mul_pw ha hb a0 b0]; exact pw_pos _
theorem mul_comm {a b : Nat} (ha : a < 256) (hb : b < 256) : mul a b = mul b a := by
  by_cases a0 : a = 0
  · subst a0; rw [zero_mul, mul_zero]
  by_cases b0 : b = 0
  · subst b0; rw [zero_mul, mul_zero]
  rw [mul_pw ha hb a0 b0, mul_pw hb ha b0 a0, Nat.add_comm]
theorem mul_assoc {a b c : Nat} (ha : a < 256) (hb : b < 256) (hc : c < 256) : mul a (mul b c) = mul (mul a b) c := by
  by_cases a0 : a = 0
  · subst a0; rw [zero_mul, zero_mul, zero_mul]
  by_cases b0 : b = 0
  · subst b0; rw [zero_mul, mul_zero, zero_mul]
  by_cases c0 : c = 0
  · subst c0; rw [mul_zero, mul_zero, mul_zero]
  rw [mul_pw hb hc b0 c0, mul_pw ha hb a0 b0]
  conv => lhs; rw [← pw_lg ha a0]
  conv => rhs; rw [← pw_lg hc c0]
  rw [pw_add, pw_add, Nat.add_assoc]
theorem mul_one' {a : Nat} (ha : a < 256) : mul a 1 = a := by rw [mul_comm ha (by omega), mul_one _ ha]
theorem xor_mul {a b c : Nat} (ha : a < 256) (hb : b < 256) (hc : c < 256) : mul (a ^^^ b) c = mul a c ^^^ mul b c := by
  rw [mul_comm (xor_lt ha hb) hc, mul_xor, mul_comm hc ha, mul_comm hc hb]

/-- the power of a byte that is not 0, to any number. -/
def pwr (a : Nat) (n : Int) : Nat := pw (lg a * (n % 255).toNat)
theorem pwr_lt (a : Nat) (n : Int) : pwr a n < 256 := pw_lt _
theorem pwr_pos (a : Nat) (n : Int) : pwr a n ≠ 0 := pw_pos _
theorem pw_mul_mod (x : Nat) (n : Nat) : pw (x * (n % 255)) = pw (x * n) := by
  conv => rhs; rw [← Nat.mod_add_div n 255]
  rw [Nat.mul_add, show x * (255 * (n / 255)) = 255 * (x * (n / 255)) by rw [Nat.mul_left_comm], pw_rounds]
theorem pwr_add (a : Nat) (m n : Int) : mul (pwr a m) (pwr a n) = pwr a (m + n) := by
  unfold pwr
  rw [pw_add, ← Nat.mul_add, ← pw_mul_mod]
  congr 2
  omega
theorem pwr_one {a : Nat} (h : a < 256) (h0 : a ≠ 0) : pwr a 1 = a := by
  unfold pwr
  rw [show ((1 : Int) % 255).toNat = 1 from rfl, Nat.mul_one, pw_lg h h0]
theorem pwr_zero (a : Nat) : pwr a 0 = 1 := rfl
theorem mul_inv {a : Nat} (h : a < 256) (h0 : a ≠ 0) : mul (pwr a (-1)) a = 1 := by
  conv => lhs; rw [← pwr_one h h0]
  rw [show pwr (pwr a 1) (-1) = pwr a (-1) by rw [pwr_one h h0], pwr_add]; rfl
theorem lg_mul {a b : Nat} (ha : a < 256) (hb : b < 256) (a0 : a ≠ 0) (b0 : b ≠ 0) : lg (mul a b) = (lg a + lg b) % 255 := by
  rw [mul_pw ha hb a0 b0, ← pw_mod, lg_pw (Nat.mod_lt _ (by omega))]
end Go.Proofs.Ytjnfghhochcpaaa.Gf
