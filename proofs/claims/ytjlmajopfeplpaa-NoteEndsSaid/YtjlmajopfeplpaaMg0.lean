import Derived.KernelRfl
/-
  Bytes as a field: plain facts, no program in sight.
-/
namespace Go.Proofs.Ytjlmajopfeplpaa.Gf

/-- times x. -/
def xt (a : Nat) : Nat := if a < 128 then 2 * a else (2 * a - 256) ^^^ 29
/-- the power of 2 to n. -/
def pw : Nat → Nat
  | 0 => 1
  | n + 1 => xt (pw n)
/-- the product ahead of the rest: after k bits. -/
def acc (a b : Nat) : Nat → Nat
  | 0 => 0
  | k + 1 => if b.testBit k then acc a b k ^^^ (a <<< k) else acc a b k
/-- what is left after k bits from 15 down. -/
def red (p : Nat) : Nat → Nat
  | 0 => p
  | k + 1 => if (red p k).testBit (15 - k) then red p k ^^^ (285 <<< (7 - k)) else red p k
def mul (a b : Nat) : Nat := red (acc a b 8) 8

theorem acc_xor (a b c : Nat) : ∀ k, acc a (b ^^^ c) k = acc a b k ^^^ acc a c k
  | 0 => by simp [acc]
  | k + 1 => by
    simp only [acc, acc_xor a b c k, Nat.testBit_xor]
    cases b.testBit k <;> cases c.testBit k <;> simp <;> (try ac_rfl)
    rw [show acc a b k ^^^ a <<< k ^^^ (acc a c k ^^^ a <<< k) = acc a b k ^^^ acc a c k ^^^ (a <<< k ^^^ a <<< k) from by ac_rfl]; simp
theorem red_xor (p q : Nat) : ∀ k, red (p ^^^ q) k = red p k ^^^ red q k
  | 0 => rfl
  | k + 1 => by
    simp only [red, red_xor p q k, Nat.testBit_xor]
    cases (red p k).testBit (15 - k) <;> cases (red q k).testBit (15 - k) <;> simp <;> (try ac_rfl)
    generalize 285 <<< (7 - k) = z
    rw [show red p k ^^^ z ^^^ (red q k ^^^ z) = red p k ^^^ red q k ^^^ (z ^^^ z) from by ac_rfl]; simp
theorem mul_xor (a b c : Nat) : mul a (b ^^^ c) = mul a b ^^^ mul a c := by
  unfold mul; rw [acc_xor, red_xor]

/-- a byte is the sum of its bits. -/
theorem xor_bits {P : Nat → Prop} (h0 : P 0) (hx : ∀ b c, b < 256 → c < 256 → P b → P c → P (b ^^^ c)) (h1 : ∀ i, i < 8 → P (1 <<< i)) : ∀ b, b < 256 → P b := by
  have : ∀ n, n ≤ 8 → ∀ b, b < 2 ^ n → P b := by
    intro n
    induction n with
    | zero => intro _ b hb; have : b = 0 := by simp at hb; omega
              rw [this]; exact h0
    | succ n ih =>
      intro hn b hb
      by_cases h : b < 2 ^ n
      · exact ih (by omega) b h
      · have hp : 2 ^ (n + 1) = 2 * 2 ^ n := by rw [Nat.pow_succ]; omega
        have hq : 2 ^ (n + 1) ≤ 256 := by
          have := Nat.pow_le_pow_right (n := 2) (by omega) hn
          simpa using this
        have e : b = (b - 2 ^ n) ^^^ (1 <<< n) := by
          apply Nat.eq_of_testBit_eq
          intro i
          rw [Nat.testBit_xor, Nat.one_shiftLeft, Nat.testBit_two_pow]
          have hb' : b = 2 ^ n + (b - 2 ^ n) := by omega
          by_cases hi : n = i
          · subst hi
            have h1 : (b - 2 ^ n).testBit n = false := Nat.testBit_lt_two_pow (by omega)
            rw [h1]
            conv => lhs; rw [hb']
            rw [Nat.testBit_two_pow_add_eq, h1]; simp
          · conv => lhs; rw [hb']
            by_cases hl : i < n
            · rw [Nat.testBit_two_pow_add_gt hl]; simp [hi]
            · rw [Nat.testBit_lt_two_pow (x := 2 ^ n + (b - 2 ^ n)) (i := i), Nat.testBit_lt_two_pow (x := b - 2 ^ n) (i := i)]
              · simp [hi]
              · have := Nat.pow_le_pow_right (n := 2) (by omega) (show n ≤ i by omega); omega
              · have := Nat.pow_le_pow_right (n := 2) (by omega) (show n + 1 ≤ i by omega); omega
        rw [e]
        refine hx _ _ (by omega) ?_ (ih (by omega) _ (by omega)) (h1 n (by omega))
        rw [Nat.one_shiftLeft]; omega
  intro b hb; exact this 8 (by omega) b (by simpa using hb)

theorem xor_lt {a b : Nat} (ha : a < 256) (hb : b < 256) : a ^^^ b < 256 := Nat.xor_lt_two_pow (n := 8) ha hb
theorem xt_lt {a : Nat} (h : a < 256) : xt a < 256 := by
  unfold xt; split
  · omega
  · exact xor_lt (by omega) (by omega)
/-- times x, by its highest bit. -/
def xb (a : Nat) : Nat := if a.testBit 7 then a <<< 1 ^^^ 285 else a <<< 1
theorem xt_eq : ∀ a, a < 256 → xt a = xb a := by decide +kernel
theorem xb_xor (a b : Nat) : xb (a ^^^ b) = xb a ^^^ xb b := by
  unfold xb
  rw [Nat.testBit_xor, Nat.shiftLeft_xor_distrib]
  generalize a <<< 1 = x
  generalize b <<< 1 = y
  generalize 285 = z
  cases a.testBit 7 <;> cases b.testBit 7 <;> simp <;> (try ac_rfl)
  rw [show x ^^^ z ^^^ (y ^^^ z) = x ^^^ y ^^^ (z ^^^ z) from by ac_rfl]; simp
theorem xt_xor (a : Nat) (ha : a < 256) (b : Nat) (hb : b < 256) : xt (a ^^^ b) = xt a ^^^ xt b := by
  rw [xt_eq _ (xor_lt ha hb), xt_eq _ ha, xt_eq _ hb, xb_xor]
theorem pw_lt : ∀ n, pw n < 256
  | 0 => by decide
  | n + 1 => xt_lt (pw_lt n)
theorem mul_one : ∀ b, b < 256 → mul 1 b = b := by decide +kernel
theorem mul_lt_bit : ∀ a, a < 256 → ∀ i, i < 8 → mul a (1 <<< i) < 256 := by decide +kernel
theorem mul_xt_bit : ∀ a, a < 256 → ∀ i, i < 8 → mul (xt a) (1 <<< i) = xt (mul a (1 <<< i)) := by decide +kernel
theorem acc_zero (a : Nat) : ∀ k, acc a 0 k = 0
  | 0 => rfl
  | k + 1 => by simp [acc, acc_zero a k]
theorem zero_acc (b : Nat) : ∀ k, acc 0 b k = 0
  | 0 => rfl
  | k + 1 => by simp [acc, zero_acc b k]
theorem red_zero : ∀ k, red 0 k = 0
  | 0 => rfl
  | k + 1 => by simp [red, red_zero k]
theorem mul_zero (a : Nat) : mul a 0 = 0 := by unfold mul; rw [acc_zero, red_zero]
theorem zero_mul (b : Nat) : mul 0 b = 0 := by unfold mul; rw [zero_acc, red_zero]
theorem mul_lt {a b : Nat} (ha : a < 256) (hb : b < 256) : mul a b < 256 :=
  xor_bits (P := fun b => mul a b < 256) (by rw [mul_zero]; omega) (fun b c _ _ h1 h2 => by rw [mul_xor]; exact xor_lt h1 h2) (fun i hi => mul_lt_bit a ha i hi) b hb
theorem xt_mul {a b : Nat} (ha : a < 256) (hb : b < 256) : mul (xt a) b = xt (mul a b) :=
  xor_bits (P := fun b => mul (xt a) b = xt (mul a b)) (by rw [mul_zero, mul_zero]; rfl)
    (fun b c h3 h4 h1 h2 => by rw [mul_xor, mul_xor, h1, h2, xt_xor _ (mul_lt ha h3) _ (mul_lt ha h4)]) (fun i hi => mul_xt_bit a ha i hi) b hb
theorem pw_mul {b : Nat} (hb : b < 256) : ∀ n, mul (pw (n + 1)) b = xt (mul (pw n) b) := fun n => xt_mul (pw_lt n) hb
theorem pw_add (m : Nat) : ∀ n, mul (pw n) (pw m) = pw (n + m)
  | 0 => by rw [Nat.zero_add]; exact mul_one _ (pw_lt m)
  | n + 1 => by
    rw [pw_mul (pw_lt m), pw_add m n, Nat.add_right_comm]; rfl
theorem pw_255 : pw 255 = 1 := by decide +kernel
theorem pw_round : ∀ n, pw (n + 255) = pw n
  | 0 => by rw [Nat.zero_add]; exact pw_255
  | n + 1 => by
    show xt (pw (n + 255)) = xt (pw n)
    rw [pw_round n]
theorem pw_rounds (n : Nat) : ∀ k, pw (n + 255 * k) = pw n
  | 0 => rfl
  | k + 1 => by rw [show n + 255 * (k + 1) = (n + 255 * k) + 255 by omega, pw_round, pw_rounds n k]
theorem pw_mod (n : Nat) : pw (n % 255) = pw n := by
  conv => rhs; rw [← Nat.mod_add_div n 255]
  rw [pw_rounds]
theorem xt_pos : ∀ a, a < 256 → a ≠ 0 → xt a ≠ 0 := by decide +kernel
theorem pw_pos : ∀ n, pw n ≠ 0
  | 0 => by decide
  | n + 1 => xt_pos _ (pw_lt n) (pw_pos n)
/-- so many powers, one behind the other. -/
def pwl : Nat → Nat → List Nat
  | _, 0 => []
  | p, n + 1 => p :: pwl (xt p) n
theorem pwl_get : ∀ (n m i : Nat) (_ : i < n), (pwl (pw m) n)[i]? = some (pw (m + i))
  | 0, _, _, h => by omega
  | n + 1, m, 0, _ => by simp [pwl]
  | n + 1, m, i + 1, h => by
    show (pwl (pw (m + 1)) n)[i]? = _
    rw [pwl_get n (m + 1) i (by omega), show m + 1 + i = m + (i + 1) by omega]
theorem pwl_all : ∀ a, a < 256 → a ≠ 0 → a ∈ pwl 1 255 := by decide +kernel
theorem pwl_len : (pwl 1 255).length = 255 := by decide +kernel
theorem pwl_nodup : (pwl 1 255).Nodup := by decide +kernel
theorem pw_all (a : Nat) (h : a < 256) (h0 : a ≠ 0) : ∃ n, n < 255 ∧ pw n = a := by
  obtain ⟨i, hi, e⟩ := List.getElem_of_mem (pwl_all a h h0)
  rw [pwl_len] at hi
  have := pwl_get 255 0 i hi
  rw [Nat.zero_add] at this
  rw [show pw 0 = 1 from rfl, List.getElem?_eq_getElem (by rw [pwl_len]; exact hi), e] at this
  exact ⟨i, hi, by simpa using this.symm⟩
theorem pw_inj {n m : Nat} (hn : n < 255) (hm : m < 255) (h : pw n = pw m) : n = m := by
  have a := pwl_get 255 0 n hn
  have b := pwl_get 255 0 m hm
  rw [Nat.zero_add, show pw 0 = 1 from rfl] at a b
  rw [List.getElem?_eq_getElem (by rw [pwl_len]; exact hn)] at a
  rw [List.getElem?_eq_getElem (by rw [pwl_len]; exact hm)] at b
  exact (List.getElem_inj pwl_nodup).1 (by
    have a' := Option.some.inj a
    have b' := Option.some.inj b
    rw [a', b', h])

/-- the tables behind k rounds. -/
def tabF : Nat → Nat → Nat
  | 0, _ => 0
  | k + 1, j => if j = 510 + pw k then k else if j = k + 255 then pw k else if j = k then pw k else tabF k j
theorem tabF_pw : ∀ k, k ≤ 255 → ∀ j, j < k → tabF k j = pw j ∧ tabF k (j + 255) = pw j
  | 0, _, _, h => by omega
  | k + 1, hk, j, h => by
    by_cases e : j = k
    · subst e
      constructor
      · simp only [tabF]; rw [if_neg (by omega), if_neg (by omega), if_pos trivial]
      · simp only [tabF]; rw [if_neg (by omega), if_pos trivial]
    · have ih := tabF_pw k (by omega) j (by omega)
      constructor
      · simp only [tabF]; rw [if_neg (by omega), if_neg (by omega), if_neg (by omega)]; exact ih.1
      · simp only [tabF]; rw [if_neg (by omega), if_neg (by omega), if_neg (by omega)]; exact ih.2
theorem tabF_lg : ∀ k, k ≤ 255 → ∀ n, n < k → pw (tabF k (510 + pw n)) = pw n ∧ tabF k (510 + pw n) < k
  | 0, _, _, h => by omega
  | k + 1, hk, n, h => by
    by_cases e : pw n = pw k
    · simp only [tabF]; rw [if_pos (by omega), e]; exact ⟨rfl, by omega⟩
    · have : n ≠ k := fun hh => e (by rw [hh])
      have ih := tabF_lg k (by omega) n (by omega)
      simp only [tabF]; rw [if_neg (by omega), if_neg (by omega), if_neg (by omega)]
      exact ⟨ih.1, by omega⟩
/-- the logarithm. -/
def lg (a : Nat) : Nat := tabF 255 (510 + a)
theorem lg_lt {a : Nat} (h : a < 256) (h0 : a ≠ 0) : lg a < 255 := by
  obtain ⟨n, hn, rfl⟩ := pw_all a h h0
  exact (tabF_lg 255 (by omega) n hn).2
theorem pw_lg {a : Nat} (h : a < 256) (h0 : a ≠ 0) : pw (lg a) = a := by
  obtain ⟨n, hn, rfl⟩ := pw_all a h h0
  exact (tabF_lg 255 (by omega) n hn).1
theorem lg_pw {n : Nat} (h : n < 255) : lg (pw n) = n :=
  pw_inj (lg_lt (pw_lt n) (pw_pos n)) h (pw_lg (pw_lt n) (pw_pos n))
theorem tab_pw {j : Nat} (h : j < 510) : tabF 255 j = pw j := by
  by_cases e : j < 255
  · exact (tabF_pw 255 (by omega) j e).1
  · have := (tabF_pw 255 (by omega) (j - 255) (by omega)).2
    rw [show j - 255 + 255 = j by omega] at this
    rw [this, ← pw_round, show j - 255 + 255 = j by omega]

theorem mul_pw {a b : Nat} (ha : a < 256) (hb : b < 256) (a0 : a ≠ 0) (b0 : b ≠ 0) : mul a b = pw (lg a + lg b) := by
  rw [← pw_add, pw_lg ha a0, pw_lg hb b0]
theorem mul_pos {a b : Nat} (ha : a < 256) (hb : b < 256) (a0 : a ≠ 0) (b0 : b ≠ 0) : mul a b ≠ 0 := by
  rw [mul_pw ha hb a0 b0]; exact pw_pos _
theorem mul_comm {a b : Nat} (ha : a < 256) (hb : b < 256) : mul a b = mul b a := by
  by_cases a0 : a = 0
  · subst a0; rw [zero_mul, mul_zero]
  by_cases b0 : b = 0
  · subst b0; rw [zero_mul, mul_zero]
  rw [mul_pw ha hb a0 b0, mul_pw hb ha b0 a0, Nat.add_comm]
theorem mul_assoc {a b c : Nat} (ha : a < 256) (hb : b < 256) (hc : c < 256) : mul a (mul b c) = mul (mul a b) c := by
  by_cases a0 : a = 0
  · subst a0; rw [zero_mul, zero_mul, zero_mul]
  by_cases b0 : b = 0
  · subst b0; rw [zero_mul, mul_zero, zero_mul]
  by_cases c0 : c = 0
  · subst c0; rw [mul_zero, mul_zero, mul_zero]
  rw [mul_pw hb hc b0 c0, mul_pw ha hb a0 b0]
  conv => lhs; rw [← pw_lg ha a0]
  conv => rhs; rw [← pw_lg hc c0]
  rw [pw_add, pw_add, Nat.add_assoc]
theorem mul_one' {a : Nat} (ha : a < 256) : mul a 1 = a := by rw [mul_comm ha (by omega), mul_one _ ha]
theorem xor_mul {a b c : Nat} (ha : a < 256) (hb : b < 256) (hc : c < 256) : mul (a ^^^ b) c = mul a c ^^^ mul b c := by
  rw [mul_comm (xor_lt ha hb) hc, mul_xor, mul_comm hc ha, mul_comm hc hb]

/-- the power of a byte that is not 0, to any number. -/
def pwr (a : Nat) (n : Int) : Nat := pw (lg a * (n % 255).toNat)
theorem pwr_lt (a : Nat) (n : Int) : pwr a n < 256 := pw_lt _
theorem pwr_pos (a : Nat) (n : Int) : pwr a n ≠ 0 := pw_pos _
theorem pw_mul_mod (x : Nat) (n : Nat) : pw (x * (n % 255)) = pw (x * n) := by
  conv => rhs; rw [← Nat.mod_add_div n 255]
  rw [Nat.mul_add, show x * (255 * (n / 255)) = 255 * (x * (n / 255)) by rw [Nat.mul_left_comm], pw_rounds]
theorem pwr_add (a : Nat) (m n : Int) : mul (pwr a m) (pwr a n) = pwr a (m + n) := by
  unfold pwr
  rw [pw_add, ← Nat.mul_add, ← pw_mul_mod]
  congr 2
  omega
theorem pwr_one {a : Nat} (h : a < 256) (h0 : a ≠ 0) : pwr a 1 = a := by
  unfold pwr
  rw [show ((1 : Int) % 255).toNat = 1 from rfl, Nat.mul_one, pw_lg h h0]
theorem pwr_zero (a : Nat) : pwr a 0 = 1 := rfl
theorem mul_inv {a : Nat} (h : a < 256) (h0 : a ≠ 0) : mul (pwr a (-1)) a = 1 := by
  conv => lhs; rw [← pwr_one h h0]
  rw [show pwr (pwr a 1) (-1) = pwr a (-1) by rw [pwr_one h h0], pwr_add]; rfl
theorem lg_mul {a b : Nat} (ha : a < 256) (hb : b < 256) (a0 : a ≠ 0) (b0 : b ≠ 0) : lg (mul a b) = (lg a + lg b) % 255 := by
  rw [mul_pw ha hb a0 b0, ← pw_mod, lg_pw (Nat.mod_lt _ (by omega))]
end Go.Proofs.Ytjlmajopfeplpaa.Gf

/-
  Polynomials over bytes: plain facts, no program in sight. A polynomial is a function: its coefficient at each place.
-/
namespace Go.Proofs.Ytjlmajopfeplpaa.Pf
open Gf

/-- the sum of the first so many. -/
def xsum (f : Nat → Nat) : Nat → Nat
  | 0 => 0
  | n + 1 => xsum f n ^^^ f n
theorem xsum_congr {f g : Nat → Nat} : ∀ n, (∀ i, i < n → f i = g i) → xsum f n = xsum g n
  | 0, _ => rfl
  | n + 1, h => by
    show xsum f n ^^^ f n = xsum g n ^^^ g n
    rw [xsum_congr n (fun i hi => h i (by omega)), h n (by omega)]
theorem xsum_zero {f : Nat → Nat} : ∀ n, (∀ i, i < n → f i = 0) → xsum f n = 0
  | 0, _ => rfl
  | n + 1, h => by
    show xsum f n ^^^ f n = 0
    rw [xsum_zero n (fun i hi => h i (by omega)), h n (by omega)]; rfl
theorem xor4 (a b c d : Nat) : a ^^^ b ^^^ (c ^^^ d) = a ^^^ c ^^^ (b ^^^ d) := by ac_rfl
theorem xsum_xor (f g : Nat → Nat) : ∀ n, xsum (fun i => f i ^^^ g i) n = xsum f n ^^^ xsum g n
  | 0 => by show 0 = 0 ^^^ 0; rfl
  | n + 1 => by
    show xsum _ n ^^^ (f n ^^^ g n) = xsum f n ^^^ f n ^^^ (xsum g n ^^^ g n)
    rw [xsum_xor f g n, xor4]
theorem xsum_lt {f : Nat → Nat} : ∀ n, (∀ i, i < n → f i < 256) → xsum f n < 256
  | 0, _ => by show 0 < 256; omega
  | n + 1, h => xor_lt (xsum_lt n (fun i hi => h i (by omega))) (h n (by omega))
theorem mul_xsum (c : Nat) (f : Nat → Nat) : ∀ n, mul c (xsum f n) = xsum (fun i => mul c (f i)) n
  | 0 => mul_zero c
  | n + 1 => by
    show mul c (xsum f n ^^^ f n) = xsum _ n ^^^ mul c (f n)
    rw [mul_xor, mul_xsum c f n]
theorem xsum_mul {c : Nat} {f : Nat → Nat} (hc : c < 256) (n : Nat) (h : ∀ i, i < n → f i < 256) : mul (xsum f n) c = xsum (fun i => mul (f i) c) n := by
  rw [mul_comm (xsum_lt n h) hc, mul_xsum]
  exact xsum_congr n fun i hi => mul_comm hc (h i hi)
theorem xsum_mono {f : Nat → Nat} (m : Nat) : ∀ k, (∀ i, m ≤ i → i < m + k → f i = 0) → xsum f (m + k) = xsum f m
  | 0, _ => rfl
  | k + 1, h => by
    show xsum f (m + k) ^^^ f (m + k) = _
    rw [xsum_mono m k (fun i h1 h2 => h i h1 (by omega)), h (m + k) (by omega) (by omega), Nat.xor_zero]
theorem xsum_le {f : Nat → Nat} {m n : Nat} (hmn : m ≤ n) (h : ∀ i, m ≤ i → i < n → f i = 0) : xsum f n = xsum f m := by
  obtain ⟨k, rfl⟩ := Nat.exists_eq_add_of_le hmn
  exact xsum_mono m k h
theorem xsum_one {f : Nat → Nat} {j : Nat} : ∀ n, j < n → (∀ i, i < n → i ≠ j → f i = 0) → xsum f n = f j
  | 0, h, _ => by omega
  | n + 1, h, hz => by
    show xsum f n ^^^ f n = _
    by_cases e : j = n
    · subst e
      rw [xsum_zero j (fun i hi => hz i (by omega) (by omega)), Nat.zero_xor]
    · rw [xsum_one n (by omega) (fun i hi hne => hz i (by omega) hne), hz n (by omega) (fun h => e h.symm), Nat.xor_zero]
theorem xsum_first (f : Nat → Nat) : ∀ n, xsum f (n + 1) = f 0 ^^^ xsum (fun i => f (i + 1)) n
  | 0 => by show 0 ^^^ f 0 = f 0 ^^^ 0; rw [Nat.zero_xor, Nat.xor_zero]
  | n + 1 => by
    show xsum f (n + 1) ^^^ f (n + 1) = f 0 ^^^ (xsum (fun i => f (i + 1)) n ^^^ f (n + 1))
    rw [xsum_first f n, Nat.xor_assoc]
theorem xsum_shift (g : Nat → Nat) (k : Nat) : ∀ m, xsum (fun n => if k ≤ n then g (n - k) else 0) (k + m) = xsum g m
  | 0 => by
    rw [Nat.add_zero]
    exact xsum_zero k fun i hi => if_neg (by omega)
  | m + 1 => by
    show xsum _ (k + m) ^^^ (if k ≤ k + m then g (k + m - k) else 0) = xsum g m ^^^ g m
    rw [xsum_shift g k m, if_pos (by omega), Nat.add_sub_cancel_left]

/-- a byte, so many times. -/
def pn (x : Nat) : Nat → Nat
  | 0 => 1
  | k + 1 => mul (pn x k) x
theorem pn_lt {x : Nat} (hx : x < 256) : ∀ k, pn x k < 256
  | 0 => by show 1 < 256; omega
  | k + 1 => mul_lt (pn_lt hx k) hx
theorem pn_add {x : Nat} (hx : x < 256) (i : Nat) : ∀ j, pn x (i + j) = mul (pn x i) (pn x j)
  | 0 => (mul_one' (pn_lt hx i)).symm
  | j + 1 => by
    show mul (pn x (i + j)) x = mul (pn x i) (mul (pn x j) x)
    rw [pn_add hx i j, mul_assoc (pn_lt hx i) (pn_lt hx j) hx]

/-- all coefficients are bytes. -/
def By (p : Nat → Nat) : Prop := ∀ i, p i < 256
/-- nothing stands from the n-th place on. -/
def Up (p : Nat → Nat) (n : Nat) : Prop := ∀ i, n ≤ i → p i = 0
/-- lean, of so many coefficients. -/
def Ln (p : Nat → Nat) (n : Nat) : Prop := Up p n ∧ (n = 0 ∨ p (n - 1) ≠ 0)
theorem Up.mono {p : Nat → Nat} {m n : Nat} (h : Up p m) (hmn : m ≤ n) : Up p n := fun i hi => h i (by omega)
theorem Ln.uniq {p : Nat → Nat} {m n : Nat} (h : Ln p m) (k : Ln p n) : m = n := by
  rcases Nat.lt_trichotomy m n with hl | e | hl
  · rcases k.2 with e | e
    · omega
    · exact absurd (h.1 (n - 1) (by omega)) e
  · exact e
  · rcases h.2 with e | e
    · omega
    · exact absurd (k.1 (m - 1) (by omega)) e
theorem Ln.le {p : Nat → Nat} {m n : Nat} (h : Ln p m) (k : Up p n) : m ≤ n := by
  rcases Nat.lt_or_ge n m with hl | hl
  · rcases h.2 with e | e
    · omega
    · exact absurd (k (m - 1) (by omega)) e
  · exact hl
/-- how many coefficients the lean one has, of n. -/
def ln (p : Nat → Nat) : Nat → Nat
  | 0 => 0
  | k + 1 => if p k = 0 then ln p k else k + 1
theorem ln_le (p : Nat → Nat) : ∀ n, ln p n ≤ n
  | 0 => Nat.le_refl _
  | k + 1 => by
    unfold ln; split
    · exact Nat.le_succ_of_le (ln_le p k)
    · exact Nat.le_refl _
theorem ln_Ln {p : Nat → Nat} : ∀ n, Up p n → Ln p (ln p n)
  | 0, h => ⟨h, Or.inl rfl⟩
  | k + 1, h => by
    unfold ln
    by_cases e : p k = 0
    · rw [if_pos e]
      exact ln_Ln k fun i hi => by
        rcases Nat.lt_or_ge k i with hl | hl
        · exact h i (by omega)
        · obtain rfl : i = k := by omega
          exact e
    · rw [if_neg e]
      exact ⟨h, Or.inr (by simpa using e)⟩

/-- the value, of n coefficients. -/
def ev (p : Nat → Nat) (x n : Nat) : Nat := xsum (fun i => mul (p i) (pn x i)) n
theorem ev_lt {p : Nat → Nat} {x : Nat} (hp : By p) (hx : x < 256) (n : Nat) : ev p x n < 256 := xsum_lt n fun i _ => mul_lt (hp i) (pn_lt hx i)
theorem ev_up {p : Nat → Nat} {m n : Nat} (x : Nat) (h : Up p m) (hmn : m ≤ n) : ev p x n = ev p x m :=
  xsum_le hmn fun i hi _ => by rw [h i hi, zero_mul]
theorem ev_any {p : Nat → Nat} {m n : Nat} (x : Nat) (h : Up p m) (k : Up p n) : ev p x n = ev p x m := by
  rcases Nat.le_total m n with hl | hl
  · exact ev_up x h hl
  · exact (ev_up x k hl).symm
theorem ev_congr {p q : Nat → Nat} (x n : Nat) (h : ∀ i, i < n → p i = q i) : ev p x n = ev q x n := xsum_congr n fun i hi => by rw [h i hi]
theorem ev_xor {p q : Nat → Nat} {x : Nat} (hp : By p) (hq : By q) (hx : x < 256) (n : Nat) : ev (fun i => p i ^^^ q i) x n = ev p x n ^^^ ev q x n := by
  unfold ev
  rw [← xsum_xor]
  exact xsum_congr n fun i _ => xor_mul (hp i) (hq i) (pn_lt hx i)
theorem ev_first {p : Nat → Nat} {x : Nat} (hp : By p) (hx : x < 256) (n : Nat) : ev p x (n + 1) = p 0 ^^^ mul (ev (fun i => p (i + 1)) x n) x := by
  unfold ev
  rw [xsum_first, xsum_mul hx n (fun i _ => mul_lt (hp _) (pn_lt hx i))]
  congr 1
  · exact mul_one' (hp 0)
  · exact xsum_congr n fun i _ => mul_assoc (hp _) (pn_lt hx i) hx

/-- the value as it grows from the end. -/
def hn (p : Nat → Nat) (x n : Nat) : Nat → Nat
  | 0 => 0
  | k + 1 => mul (hn p x n k) x ^^^ p (n - 1 - k)
theorem hn_eq {p : Nat → Nat} {x : Nat} (hp : By p) (hx : x < 256) (n : Nat) : ∀ k, k ≤ n → hn p x n k = ev (fun i => p (n - k + i)) x k
  | 0, _ => rfl
  | k + 1, h => by
    show mul (hn p x n k) x ^^^ p (n - 1 - k) = _
    rw [ev_first (fun i => hp _) hx, hn_eq hp hx n k (by omega), Nat.xor_comm]
    show p (n - 1 - k) ^^^ _ = p (n - (k + 1) + 0) ^^^ mul (ev (fun i => p (n - (k + 1) + (i + 1))) x k) x
    rw [show n - (k + 1) + 0 = n - 1 - k by omega]
    congr 2
    exact ev_congr x k fun i _ => by rw [show n - (k + 1) + (i + 1) = n - k + i by omega]
theorem hn_all {p : Nat → Nat} {x : Nat} (hp : By p) (hx : x < 256) (n : Nat) : hn p x n n = ev p x n := by
  rw [hn_eq hp hx n n (Nat.le_refl _)]
  exact ev_congr x n fun i _ => by rw [Nat.sub_self, Nat.zero_add]

/-- the product: k rows of it. -/
def cv (p q : Nat → Nat) (k n : Nat) : Nat := xsum (fun i => if i ≤ n then mul (p i) (q (n - i)) else 0) k
theorem cv_by {p q : Nat → Nat} (hp : By p) (hq : By q) (k : Nat) : By (cv p q k) := fun n => xsum_lt k fun i _ => by
  split
  · exact mul_lt (hp _) (hq _)
  · omega
theorem cv_succ (p q : Nat → Nat) (k n : Nat) : cv p q (k + 1) n = cv p q k n ^^^ (if k ≤ n then mul (p k) (q (n - k)) else 0) := rfl
theorem cv_rows {p q : Nat → Nat} {k m : Nat} (h : Up p k) (hkm : k ≤ m) (n : Nat) : cv p q m n = cv p q k n :=
  xsum_le hkm fun i hi _ => by rw [h i hi, zero_mul]; split <;> rfl
theorem cv_up {p q : Nat → Nat} {k m : Nat} (hq : Up q m) : Up (cv p q k) (k + m) := fun n hn => xsum_zero k fun i hi => by
  split
  · rw [hq (n - i) (by omega), mul_zero]
  · rfl
theorem cv_up1 {p q : Nat → Nat} {k m : Nat} (hq : Up q m) (hm : 0 < m) : Up (cv p q k) (k + m - 1) := fun n hn => xsum_zero k fun i hi => by
  split
  · rw [hq (n - i) (by omega), mul_zero]
  · rfl
theorem cv_xor {p p' q : Nat → Nat} (hp : By p) (hp' : By p') (hq : By q) (k n : Nat) : cv (fun i => p i ^^^ p' i) q k n = cv p q k n ^^^ cv p' q k n := by
  unfold cv
  rw [← xsum_xor]
  refine xsum_congr k fun i _ => ?_
  by_cases h : i ≤ n
  · rw [if_pos h, if_pos h, if_pos h, xor_mul (hp i) (hp' i) (hq _)]
  · rw [if_neg h, if_neg h, if_neg h]; rfl
theorem cv_zero {p q : Nat → Nat} (h : ∀ i, p i = 0) (k n : Nat) : cv p q k n = 0 := xsum_zero k fun i _ => by rw [h i, zero_mul]; split <;> rfl
theorem cv_top {p q : Nat → Nat} {t m K : Nat} (hp : Up p (t + 1)) (hq : Up q (m + 1)) (hK : t < K) : cv p q K (t + m) = mul (p t) (q m) := by
  unfold cv
  rw [xsum_one (j := t) K hK]
  · rw [if_pos (by omega), Nat.add_sub_cancel_left]
  · intro i hi hne
    by_cases hl : i ≤ t + m
    · rw [if_pos hl]
      rcases Nat.lt_or_ge i t with h | h
      · rw [hq (t + m - i) (by omega), mul_zero]
      · rw [hp i (by omega), zero_mul]
    · rw [if_neg hl]
theorem cv_Ln {p q : Nat → Nat} {k m : Nat} (hp : By p) (hq : By q) (h : Ln p (k + 1)) (h' : Ln q (m + 1)) : Ln (cv p q (k + 1)) (k + m + 1) := by
  refine ⟨fun n hn => cv_up1 h'.1 (by omega) n (by omega), Or.inr ?_⟩
  · show cv p q (k + 1) (k + m) ≠ 0
    rw [cv_top h.1 h'.1 (by omega)]
    have a := h.2.resolve_left (by omega)
    have b := h'.2.resolve_left (by omega)
    exact mul_pos (hp _) (hq _) (by simpa using a) (by simpa using b)

theorem ev_row {q : Nat → Nat} {x a : Nat} (hq : By q) (hx : x < 256) (ha : a < 256) (k m N : Nat) (hm : Up q m) (hN : k + m ≤ N) :
    ev (fun n => if k ≤ n then mul a (q (n - k)) else 0) x N = mul (mul a (pn x k)) (ev q x m) := by
  have e : Up (fun n => if k ≤ n then mul a (q (n - k)) else 0) (k + m) := fun n hn => by
    show (if k ≤ n then mul a (q (n - k)) else 0) = 0
    rw [if_pos (by omega), hm (n - k) (by omega), mul_zero]
  rw [ev_up x e hN]
  unfold ev
  rw [mul_xsum, ← xsum_shift _ k m]
  refine xsum_congr _ fun n _ => ?_
  show mul (if k ≤ n then mul a (q (n - k)) else 0) (pn x n) = if k ≤ n then mul (mul a (pn x k)) (mul (q (n - k)) (pn x (n - k))) else 0
  by_cases h : k ≤ n
  · rw [if_pos h, if_pos h]
    rw [show pn x n = mul (pn x k) (pn x (n - k)) by rw [← pn_add hx, show k + (n - k) = n by omega]]
    have h1 := pn_lt hx k
    have h2 := pn_lt hx (n - k)
    have h3 := hq (n - k)
    rw [mul_assoc (mul_lt ha h3) h1 h2, mul_assoc (mul_lt ha h1) h3 h2, ← mul_assoc ha h3 h1, ← mul_assoc ha h1 h3, mul_comm h3 h1]
  · rw [if_neg h, if_neg h, zero_mul]
theorem ev_cv {p q : Nat → Nat} {x : Nat} (hp : By p) (hq : By q) (hx : x < 256) (m N : Nat) (hm : Up q m) : ∀ k, k + m ≤ N → ev (cv p q k) x N = mul (ev p x k) (ev q x m)
  | 0, _ => by
    show ev (fun _ => 0) x N = mul 0 _
    rw [zero_mul]
    exact xsum_zero N fun i _ => zero_mul _
  | k + 1, h => by
    have e : ev (cv p q (k + 1)) x N = ev (fun n => cv p q k n ^^^ (if k ≤ n then mul (p k) (q (n - k)) else 0)) x N := rfl
    have hrow : By (fun n => if k ≤ n then mul (p k) (q (n - k)) else 0) := fun n => by
      show (if k ≤ n then mul (p k) (q (n - k)) else 0) < 256
      split
      · exact mul_lt (hp _) (hq _)
      · omega
    rw [e, ev_xor (cv_by hp hq k) hrow hx, ev_cv hp hq hx m N hm k (by omega), ev_row hq hx (hp k) k m N hm (by omega)]
    show _ = mul (ev p x k ^^^ mul (p k) (pn x k)) _
    rw [xor_mul (ev_lt hp hx k) (mul_lt (hp k) (pn_lt hx k)) (ev_lt hq hx m)]
/-- values of products are products of values. -/
theorem ev_mul {p q : Nat → Nat} {x k m n : Nat} (hp : By p) (hq : By q) (hx : x < 256) (hm : Up q m) (hn : Up (cv p q k) n) : ev (cv p q k) x n = mul (ev p x k) (ev q x m) := by
  rw [← ev_cv hp hq hx m (k + m) hm k (Nat.le_refl _)]
  exact ev_any x (cv_up hm) hn

/-- a quotient and a rest are the only ones. -/
theorem div_uniq {b d d' r r' : Nat → Nat} {m k k' : Nat} (hb : By b) (hd : By d) (hd' : By d') (hbm : Ln b (m + 1)) (hdk : Up d k) (hdk' : Up d' k') (hr : Up r m) (hr' : Up r' m)
    (h : ∀ n, cv d b k n ^^^ r n = cv d' b k' n ^^^ r' n) : (∀ n, d n = d' n) ∧ ∀ n, r n = r' n := by
  have hK : ∀ n, cv (fun i => d i ^^^ d' i) b (k + k') n = r n ^^^ r' n := fun n => by
    rw [cv_xor hd hd' hb, cv_rows hdk (by omega), cv_rows hdk' (by omega)]
    have := h n
    have e : cv d b k n = cv d' b k' n ^^^ r' n ^^^ r n := by rw [← this, Nat.xor_assoc, Nat.xor_self, Nat.xor_zero]
    rw [e]
    rw [show cv d' b k' n ^^^ r' n ^^^ r n ^^^ cv d' b k' n = r n ^^^ r' n ^^^ (cv d' b k' n ^^^ cv d' b k' n) from by ac_rfl, Nat.xor_self, Nat.xor_zero]
  have hu : Up (fun i => d i ^^^ d' i) (k + k') := fun i hi => by
    show d i ^^^ d' i = 0
    rw [hdk i (by omega), hdk' i (by omega)]; rfl
  have hL := ln_Ln _ hu
  have hle := ln_le (fun i => d i ^^^ d' i) (k + k')
  generalize ln (fun i => d i ^^^ d' i) (k + k') = t at *
  have hz : ∀ n, d n ^^^ d' n = 0 := by
    cases t with
    | zero => exact fun n => hL.1 n (by omega)
    | succ t =>
      exfalso
      have h1 := hL.2.resolve_left (by omega)
      have h2 := hbm.2.resolve_left (by omega)
      have h3 := cv_top (K := k + k') hL.1 hbm.1 (by omega)
      rw [hK, hr _ (by omega), hr' _ (by omega)] at h3
      exact mul_pos (xor_lt (hd t) (hd' t)) (hb m) (by simpa using h1) (by simpa using h2) h3.symm
  have hdd : ∀ n, d n = d' n := fun n => by
    have := hz n
    have e : d n = (d n ^^^ d' n) ^^^ d' n := by rw [Nat.xor_assoc, Nat.xor_self, Nat.xor_zero]
    rw [e, this, Nat.zero_xor]
  refine ⟨hdd, fun n => ?_⟩
  have := hK n
  rw [cv_zero hz] at this
  have e : r n = (r n ^^^ r' n) ^^^ r' n := by rw [Nat.xor_assoc, Nat.xor_self, Nat.xor_zero]
  rw [e, ← this, Nat.zero_xor]

/-- what is left of a polynomial by a place of its. -/
def sy (p : Nat → Nat) (r n j : Nat) : Nat := ev (fun i => p (j + 1 + i)) r (n - j)
theorem sy_by {p : Nat → Nat} {r : Nat} (hp : By p) (hr : r < 256) (n : Nat) : By (sy p r n) := fun _ => ev_lt (fun _ => hp _) hr _
theorem xor_cancel {a b : Nat} (h : a ^^^ b = 0) : a = b := by
  have e : a = (a ^^^ b) ^^^ b := by rw [Nat.xor_assoc, Nat.xor_self, Nat.xor_zero]
  rw [e, h, Nat.zero_xor]
theorem sy_eq {x r : Nat} (hx : x < 256) (hr : r < 256) : ∀ (n : Nat) (p : Nat → Nat), By p → ev p x (n + 1) ^^^ ev p r (n + 1) = mul (x ^^^ r) (ev (sy p r n) x n)
  | 0, p, hp => by
    rw [ev_first hp hx, ev_first hp hr]
    show p 0 ^^^ mul 0 x ^^^ (p 0 ^^^ mul 0 r) = mul _ 0
    rw [zero_mul, zero_mul, mul_zero, Nat.xor_self]
  | m + 1, p, hp => by
    have hp' : By (fun i => p (i + 1)) := fun i => hp _
    have ih := sy_eq hx hr m _ hp'
    rw [ev_first hp hx, ev_first hp hr, ev_first (sy_by hp hr _) hx]
    have e1 : sy p r (m + 1) 0 = ev (fun i => p (i + 1)) r (m + 1) := ev_congr r _ fun i _ => by show p (0 + 1 + i) = p (i + 1); rw [show 0 + 1 + i = i + 1 by omega]
    have e2 : ev (fun i => sy p r (m + 1) (i + 1)) x m = ev (sy (fun i => p (i + 1)) r m) x m := ev_congr x m fun j _ => by
      show ev (fun i => p (j + 1 + 1 + i)) r (m + 1 - (j + 1)) = ev (fun i => p (j + 1 + i + 1)) r (m - j)
      rw [show m + 1 - (j + 1) = m - j by omega]
      exact ev_congr r _ fun i _ => by rw [show j + 1 + 1 + i = j + 1 + i + 1 by omega]
    rw [e1, e2]
    have hA := ev_lt hp' hx (m + 1)
    have hB := ev_lt hp' hr (m + 1)
    have hC := ev_lt (sy_by hp' hr m) hx m
    generalize ev (fun i => p (i + 1)) x (m + 1) = A at *
    generalize ev (fun i => p (i + 1)) r (m + 1) = B at *
    generalize ev (sy (fun i => p (i + 1)) r m) x m = C at *
    have hxr := xor_lt hx hr
    have hA' : A = mul (x ^^^ r) C ^^^ B := by rw [← ih, Nat.xor_assoc, Nat.xor_self, Nat.xor_zero]
    rw [show p 0 ^^^ mul A x ^^^ (p 0 ^^^ mul B r) = (p 0 ^^^ p 0) ^^^ (mul A x ^^^ mul B r) from by ac_rfl, Nat.xor_self, Nat.zero_xor]
    rw [hA', xor_mul (mul_lt hxr hC) hB hx, mul_xor, ← mul_assoc hxr hC hx]
    rw [Nat.xor_assoc, ← mul_xor, mul_comm hB hxr, Nat.xor_comm]
theorem sy_step {p : Nat → Nat} {r : Nat} (hp : By p) (hr : r < 256) {n j : Nat} (hj : j < n) : sy p r n j = p (j + 1) ^^^ mul (sy p r n (j + 1)) r := by
  unfold sy
  rw [show n - j = (n - (j + 1)) + 1 by omega, ev_first (fun i => hp _) hr]
  show p (j + 1 + 0) ^^^ _ = _
  congr 2
  exact ev_congr r _ fun i _ => by rw [show j + 1 + (i + 1) = j + 1 + 1 + i by omega]

/-- one that is 0 at as many places as it has coefficients is none. -/
theorem roots : ∀ (n : Nat) (p : Nat → Nat) (rs : List Nat), By p → rs.Nodup → (∀ r ∈ rs, r < 256) → n ≤ rs.length → (∀ r ∈ rs, ev p r n = 0) → ∀ i, i < n → p i = 0
  | 0, _, _, _, _, _, _, _, _, h => by omega
  | n + 1, p, [], _, _, _, h, _, _, _ => by simp at h
  | n + 1, p, r :: rs, hp, hnd, hlt, hlen, hz, i, hi => by
    have hr := hlt r (by simp)
    have hnd' := List.nodup_cons.1 hnd
    have hpr := hz r (by simp)
    have hq : ∀ j, j < n → sy p r n j = 0 := roots n (sy p r n) rs (sy_by hp hr n) hnd'.2 (fun s hs => hlt s (by simp [hs])) (by simpa using hlen) (fun s hs => by
      have hs' := hlt s (by simp [hs])
      have h1 := sy_eq hs' hr n p hp
      rw [hpr, hz s (by simp [hs])] at h1
      have hne : s ^^^ r ≠ 0 := fun h => hnd'.1 (by rw [← xor_cancel h]; exact hs)
      exact Decidable.byContradiction fun hh => mul_pos (xor_lt hs' hr) (ev_lt (sy_by hp hr n) hs' n) hne hh h1.symm)
    have hqn : ∀ j, sy p r n j = 0 := fun j => by
      rcases Nat.lt_or_ge j n with h | h
      · exact hq j h
      · unfold sy; rw [show n - j = 0 by omega]; rfl
    have hpp : ∀ j, j < n → p (j + 1) = 0 := fun j hj => by
      have := sy_step hp hr hj
      rw [hqn, hqn, zero_mul, Nat.xor_zero] at this
      exact this.symm
    cases i with
    | succ j => exact hpp j (by omega)
    | zero =>
      rw [ev_first hp hr] at hpr
      have : ev (fun i => p (i + 1)) r n = 0 := xsum_zero n fun j hj => by
        show mul (p (j + 1)) _ = 0
        rw [hpp j hj, zero_mul]
      rw [this, zero_mul, Nat.xor_zero] at hpr
      exact hpr
/-- through points there is one polynomial. -/
theorem through_uniq {p q : Nat → Nat} {rs : List Nat} (hp : By p) (hq : By q) (hnd : rs.Nodup) (hlt : ∀ r ∈ rs, r < 256) (hpu : Up p rs.length) (hqu : Up q rs.length)
    (h : ∀ r ∈ rs, ev p r rs.length = ev q r rs.length) : ∀ i, p i = q i := fun i => by
  refine xor_cancel ?_
  rcases Nat.lt_or_ge i rs.length with hi | hi
  · exact roots rs.length (fun i => p i ^^^ q i) rs (fun i => xor_lt (hp i) (hq i)) hnd hlt (Nat.le_refl _) (fun r hr => by
      rw [ev_xor hp hq (hlt r hr), h r hr, Nat.xor_self]) i hi
  · rw [hpu i hi, hqu i hi]; rfl
end Go.Proofs.Ytjlmajopfeplpaa.Pf

/-
  Products of polynomials: plain facts, no program in sight.
-/
namespace Go.Proofs.Ytjlmajopfeplpaa.Pf
open Gf

/-- the product. -/
def pm (p q : Nat → Nat) (n : Nat) : Nat := cv p q (n + 1) n
theorem cv_late {p q : Nat → Nat} {n k : Nat} (h : n + 1 ≤ k) : cv p q k n = pm p q n :=
  xsum_le h fun i hi _ => by rw [if_neg (by omega)]
theorem cv_eq {p q : Nat → Nat} {k : Nat} (h : Up p k) (n : Nat) : cv p q k n = pm p q n := by
  rcases Nat.le_total (n + 1) k with hl | hl
  · exact cv_late hl
  · exact (cv_rows h hl n).symm
theorem pm_by {p q : Nat → Nat} (hp : By p) (hq : By q) : By (pm p q) := fun n => cv_by hp hq _ n
theorem pm_up {p q : Nat → Nat} {k m : Nat} (hp : Up p k) (hq : Up q m) : Up (pm p q) (k + m) := fun n hn => by
  rw [← cv_eq hp]; exact cv_up hq n hn
theorem pm_up1 {p q : Nat → Nat} {k m : Nat} (hp : Up p k) (hq : Up q m) (hm : 0 < m) : Up (pm p q) (k + m - 1) := fun n hn => by
  rw [← cv_eq hp]; exact cv_up1 hq hm n hn
/-- how many coefficients a product has. -/
def pl (k m : Nat) : Nat := if k = 0 ∨ m = 0 then 0 else k + m - 1
theorem pm_Ln {p q : Nat → Nat} {k m : Nat} (hp : By p) (hq : By q) (h : Ln p k) (h' : Ln q m) : Ln (pm p q) (pl k m) := by
  unfold pl
  cases k with
  | zero => exact ⟨fun n _ => by rw [← cv_eq h.1]; rfl, by simp⟩
  | succ k =>
    cases m with
    | zero => exact ⟨fun n _ => cv_up (p := p) h'.1 (k := 0) (m := 0) n (Nat.zero_le _) |> fun _ => by
                unfold pm; exact xsum_zero _ fun i _ => by rw [h'.1 _ (Nat.zero_le _), mul_zero]; split <;> rfl, by simp⟩
    | succ m =>
      rw [if_neg (by omega)]
      have := cv_Ln hp hq h h'
      refine ⟨fun n hn => by rw [← cv_eq h.1]; exact this.1 n (by omega), Or.inr ?_⟩
      have h2 := this.2.resolve_left (by omega)
      rw [cv_eq h.1] at h2
      rw [show k + 1 + (m + 1) - 1 - 1 = k + m + 1 - 1 by omega]; exact h2
theorem pm_ev {p q : Nat → Nat} {x k m n : Nat} (hp : By p) (hq : By q) (hx : x < 256) (hk : Up p k) (hm : Up q m) (hn : Up (pm p q) n) : ev (pm p q) x n = mul (ev p x k) (ev q x m) := by
  have e : (fun i => pm p q i) = cv p q k := funext fun i => (cv_eq hk i).symm
  rw [show pm p q = cv p q k from e] at hn ⊢
  exact ev_mul hp hq hx hm hn
/-- one coefficient. -/
def sc (c : Nat) (n : Nat) : Nat := if n = 0 then c else 0
theorem sc_by {c : Nat} (h : c < 256) : By (sc c) := fun n => by unfold sc; split <;> omega
theorem sc_up (c : Nat) : Up (sc c) 1 := fun n hn => by unfold sc; rw [if_neg (by omega)]
/-- a row, in the midst of it. -/
def md (p q : Nat → Nat) (k j n : Nat) : Nat := if n < k + j then cv p q (k + 1) n else cv p q k n
theorem md_by {p q : Nat → Nat} (hp : By p) (hq : By q) (k j : Nat) : By (md p q k j) := fun n => by
  unfold md; split
  · exact cv_by hp hq _ n
  · exact cv_by hp hq _ n
theorem md_0 (p q : Nat → Nat) (k n : Nat) : cv p q k n = md p q k 0 n := by
  unfold md
  split
  · rw [cv_succ, if_neg (by omega), Nat.xor_zero]
  · rfl
theorem md_s {p q : Nat → Nat} (k j n : Nat) : (if n = k + j then md p q k j (k + j) ^^^ mul (p k) (q j) else md p q k j n) = md p q k (j + 1) n := by
  unfold md
  by_cases e : n = k + j
  · subst e
    rw [if_pos rfl, if_neg (by omega), if_pos (by omega), cv_succ, if_pos (by omega), Nat.add_sub_cancel_left]
  · rw [if_neg e]
    by_cases h : n < k + j
    · rw [if_pos h, if_pos (by omega)]
    · rw [if_neg h, if_neg (by omega)]
theorem md_e {p q : Nat → Nat} {k m : Nat} (hq : Up q m) (n : Nat) : md p q k m n = cv p q (k + 1) n := by
  unfold md
  split
  · rfl
  · rw [cv_succ, if_pos (by omega), hq (n - k) (by omega), mul_zero, Nat.xor_zero]
end Go.Proofs.Ytjlmajopfeplpaa.Pf

/-
  Matrices over bytes: plain facts, no program in sight. A matrix is a function of two places; its sizes are told beside it.
-/
namespace Go.Proofs.Ytjlmajopfeplpaa.Mt
open Gf Pf

/-- all are bytes. -/
def Bm (M : Nat → Nat → Nat) : Prop := ∀ i j, M i j < 256
/-- the unit. -/
def dl (i j : Nat) : Nat := if i = j then 1 else 0
theorem dl_lt : Bm dl := fun i j => by unfold dl; split <;> omega
theorem dl_same (i : Nat) : dl i i = 1 := if_pos rfl
theorem dl_ne {i j : Nat} (h : i ≠ j) : dl i j = 0 := if_neg h
/-- the product, over n places. -/
def mm (n : Nat) (A B : Nat → Nat → Nat) (i j : Nat) : Nat := xsum (fun k => mul (A i k) (B k j)) n
theorem mm_lt {A B : Nat → Nat → Nat} (hA : Bm A) (hB : Bm B) (n : Nat) : Bm (mm n A B) := fun i j => xsum_lt n fun k _ => mul_lt (hA i k) (hB k j)
theorem mm_congr {A A' B B' : Nat → Nat → Nat} {n i j : Nat} (h1 : ∀ k, k < n → A i k = A' i k) (h2 : ∀ k, k < n → B k j = B' k j) : mm n A B i j = mm n A' B' i j :=
  xsum_congr n fun k hk => by rw [h1 k hk, h2 k hk]
theorem xsum_swap (f : Nat → Nat → Nat) (m : Nat) : ∀ n, xsum (fun i => xsum (fun j => f i j) m) n = xsum (fun j => xsum (fun i => f i j) n) m
  | 0 => (xsum_zero m fun _ _ => rfl).symm
  | n + 1 => by
    show xsum _ n ^^^ xsum (fun j => f n j) m = xsum (fun j => xsum (fun i => f i j) n ^^^ f n j) m
    rw [xsum_swap f m n, xsum_xor]
theorem mm_assoc {A B C : Nat → Nat → Nat} (hA : Bm A) (hB : Bm B) (hC : Bm C) (n m i j : Nat) : mm m (mm n A B) C i j = mm n A (mm m B C) i j := by
  unfold mm
  have e1 : xsum (fun k => mul (xsum (fun k' => mul (A i k') (B k' k)) n) (C k j)) m = xsum (fun k => xsum (fun k' => mul (A i k') (mul (B k' k) (C k j))) n) m :=
    xsum_congr m fun k _ => by
      rw [xsum_mul (hC k j) n (fun k' _ => mul_lt (hA i k') (hB k' k))]
      exact xsum_congr n fun k' _ => (mul_assoc (hA i k') (hB k' k) (hC k j)).symm
  rw [e1, xsum_swap]
  exact xsum_congr n fun k' _ => (mul_xsum _ _ m).symm
theorem mm_one {B : Nat → Nat → Nat} (hB : Bm B) {n i j : Nat} (hi : i < n) : mm n dl B i j = B i j := by
  unfold mm
  rw [xsum_one (j := i) n hi (fun k _ hne => by rw [dl_ne (fun h => hne h.symm), zero_mul]), dl_same, mul_one _ (hB i j)]
theorem one_mm {A : Nat → Nat → Nat} (hA : Bm A) {n i j : Nat} (hj : j < n) : mm n A dl i j = A i j := by
  unfold mm
  rw [xsum_one (j := j) n hj (fun k _ hne => by rw [dl_ne hne, mul_zero]), dl_same, mul_one' (hA i j)]
theorem mm_zero {A B : Nat → Nat → Nat} {n i j : Nat} (h : ∀ k, k < n → A i k = 0) : mm n A B i j = 0 := xsum_zero n fun k hk => by rw [h k hk, zero_mul]
theorem mm_less {A B : Nat → Nat → Nat} {n m i j : Nat} (hmn : m ≤ n) (h : ∀ k, m ≤ k → k < n → B k j = 0) : mm n A B i j = mm m A B i j :=
  xsum_le hmn fun k h1 h2 => by rw [h k h1 h2, mul_zero]

/-- each the other's inverse. -/
structure Two (h : Nat) (T S : Nat → Nat → Nat) : Prop where
  bt : Bm T
  bs : Bm S
  ts : ∀ i j, i < h → j < h → mm h T S i j = dl i j
  st : ∀ i j, i < h → j < h → mm h S T i j = dl i j
theorem Two.one (h : Nat) : Two h dl dl := ⟨dl_lt, dl_lt, fun _ _ hi _ => mm_one dl_lt hi, fun _ _ hi _ => mm_one dl_lt hi⟩
theorem four {h : Nat} {A B C D : Nat → Nat → Nat} (hA : Bm A) (hB : Bm B) (hC : Bm C) (hD : Bm D) (h1 : ∀ i j, i < h → j < h → mm h B C i j = dl i j) (h2 : ∀ i j, i < h → j < h → mm h A D i j = dl i j) {i j : Nat} (hi : i < h) (hj : j < h) :
    mm h (mm h A B) (mm h C D) i j = dl i j := by
  rw [mm_assoc hA hB (mm_lt hC hD h), mm_congr (A' := A) (B' := D) (fun _ _ => rfl) (fun k hk => ?_)]
  · exact h2 i j hi hj
  · rw [← mm_assoc hB hC hD, mm_congr (A' := dl) (B' := D) (fun m hm => h1 k m hk hm) (fun _ _ => rfl), mm_one hD hk]
theorem Two.mul {h : Nat} {T S T' S' : Nat → Nat → Nat} (a : Two h T S) (b : Two h T' S') : Two h (mm h T' T) (mm h S S') :=
  ⟨mm_lt b.bt a.bt h, mm_lt a.bs b.bs h, fun _ _ hi hj => four b.bt a.bt a.bs b.bs a.ts b.ts hi hj, fun _ _ hi hj => four a.bs b.bs b.bt a.bt b.st a.st hi hj⟩

/-- the rows of the one are sums of the other's, and back. -/
def Rw (h : Nat) (M M' : Nat → Nat → Nat) : Prop := ∃ T S, Two h T S ∧ ∀ i j, i < h → M' i j = mm h T M i j
theorem Rw.refl {h : Nat} {M : Nat → Nat → Nat} (hM : Bm M) : Rw h M M := ⟨dl, dl, Two.one h, fun _ _ hi => (mm_one hM hi).symm⟩
theorem Rw.trans {h : Nat} {M M' M'' : Nat → Nat → Nat} (hM : Bm M) (a : Rw h M M') (b : Rw h M' M'') : Rw h M M'' := by
  obtain ⟨T, S, t, e⟩ := a
  obtain ⟨T', S', t', e'⟩ := b
  refine ⟨_, _, t.mul t', fun i j hi => ?_⟩
  rw [e' i j hi, mm_assoc t'.bt t.bt hM]
  exact mm_congr (fun _ _ => rfl) fun k hk => e k j hk

/-- two rows in each other's place. -/
def swp (M : Nat → Nat → Nat) (p l i j : Nat) : Nat := if i = l then M p j else if i = p then M l j else M i j
/-- which row comes where. -/
def tau (p l i : Nat) : Nat := if i = l then p else if i = p then l else i
theorem swp_tau (M : Nat → Nat → Nat) (p l i j : Nat) : swp M p l i j = M (tau p l i) j := by unfold swp tau; split <;> (try split) <;> rfl
theorem tau_tau (p l i : Nat) : tau p l (tau p l i) = i := by unfold tau; split <;> (try split) <;> (try split) <;> omega
theorem tau_lt {p l i h : Nat} (hp : p < h) (hl : l < h) (hi : i < h) : tau p l i < h := by unfold tau; split <;> (try split) <;> omega
theorem swp_bm {M : Nat → Nat → Nat} (hM : Bm M) (p l : Nat) : Bm (swp M p l) := fun i j => by rw [swp_tau]; exact hM _ _
theorem sw_mm {M : Nat → Nat → Nat} (hM : Bm M) {p l h i j : Nat} (hp : p < h) (hl : l < h) (hi : i < h) : mm h (fun i k => dl (tau p l i) k) M i j = M (tau p l i) j := by
  have := mm_one hM (i := tau p l i) (j := j) (tau_lt hp hl hi)
  rw [← this]; rfl
theorem rw_swp {M : Nat → Nat → Nat} (hM : Bm M) {p l h : Nat} (hp : p < h) (hl : l < h) : Rw h M (swp M p l) := by
  have hb : Bm (fun i k => dl (tau p l i) k) := fun i k => dl_lt _ _
  have hs : ∀ i j, i < h → j < h → mm h (fun i k => dl (tau p l i) k) (fun i k => dl (tau p l i) k) i j = dl i j := fun i j hi hj => by
    rw [sw_mm hb hp hl hi, tau_tau]
  exact ⟨_, _, ⟨hb, hb, hs, hs⟩, fun i j hi => by rw [swp_tau, sw_mm hM hp hl hi]⟩

/-- the inverse of a byte; 0 of 0. -/
def iv (b : Nat) : Nat := if b = 0 then 0 else pwr b (-1)
theorem iv_lt (b : Nat) : iv b < 256 := by unfold iv; split; omega; exact pwr_lt _ _
theorem iv_mul {b : Nat} (hb : b < 256) (h0 : b ≠ 0) : mul (iv b) b = 1 := by unfold iv; rw [if_neg h0]; exact mul_inv hb h0
theorem mul_iv {b : Nat} (hb : b < 256) (h0 : b ≠ 0) : mul b (iv b) = 1 := by rw [mul_comm hb (iv_lt b)]; exact iv_mul hb h0
/-- the unit, but for a column. -/
def el (l : Nat) (v : Nat → Nat) (i k : Nat) : Nat := if k = l then v i else dl i k
theorem el_bm {l : Nat} {v : Nat → Nat} (hv : ∀ i, v i < 256) : Bm (el l v) := fun i k => by unfold el; split; exact hv i; exact dl_lt i k
theorem el_mm {l h : Nat} {v : Nat → Nat} {M : Nat → Nat → Nat} (hM : Bm M) (hl : l < h) {i j : Nat} (hi : i < h) : mm h (el l v) M i j = if i = l then mul (v l) (M l j) else M i j ^^^ mul (v i) (M l j) := by
  have e : ∀ k, mul (el l v i k) (M k j) = (if k = l then mul (v i) (M l j) else 0) ^^^ (if k = i then (if i = l then 0 else M i j) else 0) := fun k => by
    unfold el
    by_cases h1 : k = l
    · subst h1
      rw [if_pos rfl, if_pos rfl]
      by_cases h2 : k = i
      · subst h2; rw [if_pos rfl, if_pos rfl, Nat.xor_zero]
      · rw [if_neg h2, Nat.xor_zero]
    · rw [if_neg h1, if_neg h1, Nat.zero_xor]
      by_cases h2 : k = i
      · subst h2; rw [if_pos rfl, if_neg h1, dl_same, mul_one _ (hM _ _)]
      · rw [if_neg h2, dl_ne (fun h => h2 h.symm), zero_mul]
  unfold mm
  rw [xsum_congr h (fun k _ => e k), xsum_xor, xsum_one (j := l) h hl (fun k _ hne => if_neg hne), if_pos rfl, xsum_one (j := i) h hi (fun k _ hne => if_neg hne), if_pos rfl]
  by_cases h1 : i = l
  · rw [if_pos h1, if_pos h1, Nat.xor_zero, h1]
  · rw [if_neg h1, if_neg h1, Nat.xor_comm]
theorem el_el {l h : Nat} {v u : Nat → Nat} (hu : ∀ i, u i < 256) (hl : l < h) (h1 : mul (v l) (u l) = 1) (h2 : ∀ i, i ≠ l → u i ^^^ mul (v i) (u l) = 0) {i j : Nat} (hi : i < h) : mm h (el l v) (el l u) i j = dl i j := by
  rw [el_mm (el_bm hu) hl hi]
  by_cases e : i = l
  · subst e
    rw [if_pos rfl]
    unfold el
    by_cases e2 : j = i
    · subst e2; rw [if_pos rfl, h1, dl_same]
    · rw [if_neg e2, dl_ne (fun h => e2 h.symm), mul_zero]
  · rw [if_neg e]
    unfold el
    by_cases e2 : j = l
    · subst e2; rw [if_pos rfl, if_pos rfl, h2 i e, dl_ne e]
    · rw [if_neg e2, if_neg e2, dl_ne (i := l) (fun h => e2 h.symm), mul_zero, Nat.xor_zero]
/-- a row leads: the byte in the column c of the row l made 1, and in all others 0. -/
def ldd (M : Nat → Nat → Nat) (l c i j : Nat) : Nat := if i = l then mul (M l j) (iv (M l c)) else M i j ^^^ mul (mul (M l j) (iv (M l c))) (M i c)
theorem ldd_bm {M : Nat → Nat → Nat} (hM : Bm M) (l c : Nat) : Bm (ldd M l c) := fun i j => by
  unfold ldd; split
  · exact mul_lt (hM _ _) (iv_lt _)
  · exact xor_lt (hM _ _) (mul_lt (mul_lt (hM _ _) (iv_lt _)) (hM _ _))
theorem rw_ldd {M : Nat → Nat → Nat} (hM : Bm M) {l c h : Nat} (hl : l < h) (h0 : M l c ≠ 0) : Rw h M (ldd M l c) := by
  have hi := iv_lt (M l c)
  have hb := hM l c
  have hv : ∀ i, (if i = l then iv (M l c) else mul (M i c) (iv (M l c))) < 256 := fun i => by split; exact hi; exact mul_lt (hM _ _) hi
  have hu : ∀ i, (if i = l then M l c else M i c) < 256 := fun i => by split <;> exact hM _ _
  refine ⟨el l (fun i => if i = l then iv (M l c) else mul (M i c) (iv (M l c))), el l (fun i => if i = l then M l c else M i c), ⟨el_bm hv, el_bm hu, fun i j h1 _ => el_el hu hl ?_ (fun i e => ?_) h1, fun i j h1 _ => el_el hv hl ?_ (fun i e => ?_) h1⟩, fun i j h1 => ?_⟩
  · show mul (if l = l then _ else _) (if l = l then _ else _) = 1
    rw [if_pos rfl, if_pos rfl, iv_mul hb h0]
  · show (if i = l then _ else _) ^^^ mul (if i = l then _ else _) (if l = l then _ else _) = 0
    rw [if_neg e, if_neg e, if_pos rfl, ← mul_assoc (hM i c) hi hb, iv_mul hb h0, mul_one' (hM i c), Nat.xor_self]
  · show mul (if l = l then _ else _) (if l = l then _ else _) = 1
    rw [if_pos rfl, if_pos rfl, mul_iv hb h0]
  · show (if i = l then _ else _) ^^^ mul (if i = l then _ else _) (if l = l then _ else _) = 0
    rw [if_neg e, if_neg e, if_pos rfl, Nat.xor_self]
  · rw [el_mm hM hl h1]
    show (if i = l then _ else _) = (if i = l then mul (if l = l then _ else _) _ else _ ^^^ mul (if i = l then _ else _) _)
    by_cases e : i = l
    · rw [if_pos e, if_pos e, if_pos rfl, mul_comm (hM l j) hi]
    · rw [if_neg e, if_neg e, if_neg e, mul_comm (mul_lt (hM l j) hi) (hM i c), mul_comm (hM l j) hi, mul_assoc (hM i c) hi (hM l j)]

/-- the first place from l on, of so many, at which something else than 0 stands; the end, if there is none. -/
def pvk (f : Nat → Nat) : Nat → Nat → Nat
  | 0, l => l
  | k + 1, l => if f l = 0 then pvk f k (l + 1) else l
def pv (f : Nat → Nat) (l h : Nat) : Nat := pvk f (h - l) l
theorem pvk_spec (f : Nat → Nat) : ∀ k l, l ≤ pvk f k l ∧ pvk f k l ≤ l + k ∧ (∀ j, l ≤ j → j < pvk f k l → f j = 0) ∧ (pvk f k l = l + k ∨ f (pvk f k l) ≠ 0)
  | 0, l => ⟨Nat.le_refl _, Nat.le_refl _, fun j h1 h2 => by have : pvk f 0 l = l := rfl; omega, Or.inl rfl⟩
  | k + 1, l => by
    unfold pvk
    by_cases h : f l = 0
    · rw [if_pos h]
      obtain ⟨a, b, c, d⟩ := pvk_spec f k (l + 1)
      refine ⟨by omega, by omega, fun j h1 h2 => ?_, ?_⟩
      · by_cases e : j = l
        · rw [e]; exact h
        · exact c j (by omega) h2
      · rcases d with d | d
        · left; omega
        · exact Or.inr d
    · rw [if_neg h]
      exact ⟨Nat.le_refl _, by omega, fun j h1 h2 => by omega, Or.inr h⟩
theorem pv_spec {f : Nat → Nat} {l h : Nat} (hl : l ≤ h) : l ≤ pv f l h ∧ pv f l h ≤ h ∧ (∀ j, l ≤ j → j < pv f l h → f j = 0) ∧ (pv f l h = h ∨ f (pv f l h) ≠ 0) := by
  have := pvk_spec f (h - l) l
  rw [show l + (h - l) = h by omega] at this
  exact this
theorem pv_eq {f : Nat → Nat} {l h i : Nat} (h1 : l ≤ i) (h2 : i ≤ h) (h3 : ∀ j, l ≤ j → j < i → f j = 0) (h4 : i = h ∨ f i ≠ 0) : pv f l h = i := by
  obtain ⟨a, b, c, d⟩ := pv_spec (f := f) (l := l) (h := h) (by omega)
  rcases Nat.lt_trichotomy (pv f l h) i with g | g | g
  · rcases d with d | d
    · omega
    · exact absurd (h3 _ a g) d
  · exact g
  · rcases h4 with h4 | h4
    · omega
    · exact absurd (c i h1 g) h4
theorem pv_congr {f g : Nat → Nat} {l h : Nat} (hl : l ≤ h) (e : ∀ i, i < h → f i = g i) : pv f l h = pv g l h := by
  obtain ⟨a, b, c, d⟩ := pv_spec (f := g) hl
  refine pv_eq a b (fun j h1 h2 => by rw [e j (by omega)]; exact c j h1 h2) ?_
  rcases d with d | d
  · exact Or.inl d
  · by_cases hh : pv g l h = h
    · exact Or.inl hh
    · right; rw [e _ (by omega)]; exact d

/-- one column gone through: how many rows lead, and the rows. -/
def stp (h c : Nat) (s : Nat × (Nat → Nat → Nat)) : Nat × (Nat → Nat → Nat) :=
  if pv (fun i => s.2 i c) s.1 h = h then s else (s.1 + 1, ldd (swp s.2 (pv (fun i => s.2 i c) s.1 h) s.1) s.1 c)
/-- the first columns gone through. -/
def gj (h : Nat) (M : Nat → Nat → Nat) : Nat → Nat × (Nat → Nat → Nat)
  | 0 => (0, M)
  | c + 1 => stp h c (gj h M c)
theorem stp_no {h c : Nat} {s : Nat × (Nat → Nat → Nat)} (e : pv (fun i => s.2 i c) s.1 h = h) : stp h c s = s := if_pos e
theorem stp_yes {h c p : Nat} {s : Nat × (Nat → Nat → Nat)} (e : pv (fun i => s.2 i c) s.1 h = p) (hp : p ≠ h) : stp h c s = (s.1 + 1, ldd (swp s.2 p s.1) s.1 c) := by
  unfold stp; rw [e, if_neg hp]
/-- columns with noughts alone from the leading rows on stay. -/
theorem ldd_keep {M : Nat → Nat → Nat} {p l h c : Nat} (hlp : l ≤ p) (hp : p < h) {j : Nat} (hz : ∀ i, l ≤ i → i < h → M i j = 0) {i : Nat} : ldd (swp M p l) l c i j = M i j := by
  have hs : ∀ i, swp M p l i j = M i j := fun i => by
    unfold swp
    by_cases e : i = l
    · rw [if_pos e, hz p hlp hp, e, hz l (Nat.le_refl _) (by omega)]
    · rw [if_neg e]
      by_cases e2 : i = p
      · rw [if_pos e2, hz l (Nat.le_refl _) (by omega), e2, hz p hlp hp]
      · rw [if_neg e2]
  unfold ldd
  rw [hs l, hs i, hz l (Nat.le_refl _) (by omega), zero_mul, zero_mul, Nat.xor_zero]
  by_cases e : i = l
  · rw [if_pos e, e, hz l (Nat.le_refl _) (by omega)]
  · rw [if_neg e]
theorem stp_keep {h c : Nat} {s : Nat × (Nat → Nat → Nat)} (hl : s.1 ≤ h) {j : Nat} (hz : ∀ i, s.1 ≤ i → i < h → s.2 i j = 0) {i : Nat} : (stp h c s).2 i j = s.2 i j := by
  obtain ⟨a, b, _, _⟩ := pv_spec (f := fun i => s.2 i c) hl
  by_cases e : pv (fun i => s.2 i c) s.1 h = h
  · rw [stp_no e]
  · rw [stp_yes rfl e]; exact ldd_keep a (by omega) hz
theorem ldd_col {M : Nat → Nat → Nat} (hM : Bm M) {l c i : Nat} (h0 : M l c ≠ 0) : ldd M l c i c = dl i l := by
  unfold ldd
  by_cases e : i = l
  · rw [if_pos e, mul_iv (hM _ _) h0, e, dl_same]
  · rw [if_neg e, mul_iv (hM _ _) h0, mul_one _ (hM _ _), Nat.xor_self, dl_ne e]
/-- what is so of the first columns gone through. -/
structure Ech (h c : Nat) (M : Nat → Nat → Nat) (s : Nat × (Nat → Nat → Nat)) : Prop where
  bm : Bm s.2
  lh : s.1 ≤ h
  lc : s.1 ≤ c
  rw : Rw h M s.2
  low : ∀ i j, s.1 ≤ i → i < h → j < c → s.2 i j = 0
  pc : ∃ p : Nat → Nat, ∀ k, k < s.1 → p k < c ∧ ∀ i, i < h → s.2 i (p k) = dl i k
  full : s.1 = c → ∀ i j, i < h → j < c → s.2 i j = dl i j
theorem gj_ech {M : Nat → Nat → Nat} (hM : Bm M) (h : Nat) : ∀ c, Ech h c M (gj h M c)
  | 0 => ⟨hM, Nat.zero_le _, Nat.le_refl _, Rw.refl hM, fun _ _ _ _ hj => absurd hj (Nat.not_lt_zero _), ⟨fun _ => 0, fun _ hk => absurd hk (Nat.not_lt_zero _)⟩, fun _ _ _ _ hj => absurd hj (Nat.not_lt_zero _)⟩
  | c + 1 => by
    have E := gj_ech hM h c
    show Ech h (c + 1) M (stp h c (gj h M c))
    generalize gj h M c = s at E
    obtain ⟨q1, q2, q3, q4⟩ := pv_spec (f := fun i => s.2 i c) E.lh
    by_cases e : pv (fun i => s.2 i c) s.1 h = h
    · rw [stp_no e]
      have := E.lc
      obtain ⟨p, hp⟩ := E.pc
      refine ⟨E.bm, E.lh, by omega, E.rw, fun i j h1 h2 h3 => ?_, ⟨p, fun k hk => ⟨by have := (hp k hk).1; omega, (hp k hk).2⟩⟩, fun hh => by omega⟩
      by_cases ej : j = c
      · rw [ej]; exact q3 i h1 (by omega)
      · exact E.low i j h1 h2 (by omega)
    · have hk : ∀ j, j < c → ∀ i, (stp h c s).2 i j = s.2 i j := fun j hj i => stp_keep E.lh (fun i h1 h2 => E.low i j h1 h2 hj)
      have hplt : pv (fun i => s.2 i c) s.1 h < h := by omega
      have h0 : swp s.2 (pv (fun i => s.2 i c) s.1 h) s.1 s.1 c ≠ 0 := by
        unfold swp; rw [if_pos rfl]
        rcases q4 with q4 | q4
        · omega
        · exact q4
      have hb := swp_bm E.bm (pv (fun i => s.2 i c) s.1 h) s.1
      have hcol : ∀ i, (stp h c s).2 i c = dl i s.1 := fun i => by rw [stp_yes rfl e]; exact ldd_col hb h0
      have h1 : (stp h c s).1 = s.1 + 1 := by rw [stp_yes rfl e]
      have hlc := E.lc
      obtain ⟨p, hp⟩ := E.pc
      refine ⟨by rw [stp_yes rfl e]; exact ldd_bm hb _ _, by omega, by omega, ?_, fun i j g1 g2 g3 => ?_, ⟨fun k => if k = s.1 then c else p k, fun k hk' => ?_⟩, fun hh i j g1 g2 => ?_⟩
      · rw [stp_yes rfl e]
        exact ((E.rw.trans hM (rw_swp E.bm hplt (by omega))).trans hM (rw_ldd hb (by omega) h0))
      · by_cases ej : j = c
        · rw [ej, hcol, dl_ne (by omega)]
        · rw [hk j (by omega)]; exact E.low i j (by omega) g2 (by omega)
      · show (if k = s.1 then c else p k) < c + 1 ∧ ∀ i, i < h → (stp h c s).2 i (if k = s.1 then c else p k) = dl i k
        by_cases ek : k = s.1
        · rw [if_pos ek]; exact ⟨by omega, fun i _ => by rw [hcol, ek]⟩
        · rw [if_neg ek]
          obtain ⟨g1, g2⟩ := hp k (by omega)
          exact ⟨by omega, fun i hi => by rw [hk _ g1]; exact g2 i hi⟩
      · have hs : s.1 = c := by omega
        by_cases ej : j = c
        · rw [ej, hcol, hs]
        · rw [hk j (by omega)]; exact E.full hs i j g1 (by omega)

/-- the rank. -/
def rk (h c : Nat) (M : Nat → Nat → Nat) : Nat := (gj h M c).1
theorem gj_congr {M M' : Nat → Nat → Nat} {h w : Nat} (hM : Bm M) (hM' : Bm M') (e : ∀ i j, i < h → j < w → M i j = M' i j) : ∀ c, c ≤ w → (gj h M c).1 = (gj h M' c).1 ∧ ∀ i j, i < h → j < w → (gj h M c).2 i j = (gj h M' c).2 i j
  | 0, _ => ⟨rfl, e⟩
  | c + 1, hc => by
    obtain ⟨e1, e2⟩ := gj_congr hM hM' e c (by omega)
    have E := gj_ech hM h c
    have E' := gj_ech hM' h c
    show (stp h c (gj h M c)).1 = (stp h c (gj h M' c)).1 ∧ ∀ i j, i < h → j < w → (stp h c (gj h M c)).2 i j = (stp h c (gj h M' c)).2 i j
    generalize gj h M c = s at *
    generalize gj h M' c = s' at *
    have hp : pv (fun i => s.2 i c) s.1 h = pv (fun i => s'.2 i c) s'.1 h := by
      rw [← e1]; exact pv_congr E.lh fun i hi => e2 i c hi (by omega)
    obtain ⟨q1, q2, _, _⟩ := pv_spec (f := fun i => s'.2 i c) E'.lh
    by_cases g : pv (fun i => s'.2 i c) s'.1 h = h
    · rw [stp_no (hp.trans g), stp_no g]; exact ⟨e1, e2⟩
    · have g2 := hp
      rw [stp_yes hp g, stp_yes rfl g]
      refine ⟨by rw [e1], fun i j hi hj => ?_⟩
      have hs : ∀ i j, i < h → j < w → swp s.2 (pv (fun i => s'.2 i c) s'.1 h) s'.1 i j = swp s'.2 (pv (fun i => s'.2 i c) s'.1 h) s'.1 i j := fun i j hi hj => by
        rw [swp_tau, swp_tau]; exact e2 _ _ (tau_lt (by omega) (by omega) hi) hj
      show ldd (swp s.2 _ s.1) s.1 c i j = ldd (swp s'.2 _ s'.1) s'.1 c i j
      rw [e1]
      unfold ldd
      rw [hs i j hi hj, hs s'.1 j (by omega) hj, hs s'.1 c (by omega) (by omega), hs i c hi (by omega)]
theorem rk_congr {M M' : Nat → Nat → Nat} {h w : Nat} (hM : Bm M) (hM' : Bm M') (e : ∀ i j, i < h → j < w → M i j = M' i j) : rk h w M = rk h w M' := (gj_congr hM hM' e w (Nat.le_refl _)).1
theorem rk_le_rows {M : Nat → Nat → Nat} (hM : Bm M) (h w : Nat) : rk h w M ≤ h := (gj_ech hM h w).lh
theorem rk_le_cols {M : Nat → Nat → Nat} (hM : Bm M) (h w : Nat) : rk h w M ≤ w := (gj_ech hM h w).lc

/-- no unit of r rows goes through fewer columns. -/
theorem no_wide {X Y : Nat → Nat → Nat} (hX : Bm X) (hY : Bm Y) {r l : Nat} (h : ∀ i j, i < r → j < r → mm l X Y i j = dl i j) : r ≤ l := by
  rcases Nat.lt_or_ge l r with hlt | hge
  · exfalso
    have E := gj_ech hX r l
    obtain ⟨T, S, t, e⟩ := E.rw
    have hlc := E.lc
    have hz : ∀ j, j < r → T (r - 1) j = 0 := fun j hj => by
      rw [← one_mm t.bt (n := r) (i := r - 1) hj, ← mm_congr (A := T) (B := mm l X Y) (fun _ _ => rfl) (fun k hk => h k j hk hj), ← mm_assoc t.bt hX hY]
      exact mm_zero fun k hk => by
        rw [← e (r - 1) k (by omega)]; exact E.low _ _ (by omega) (by omega) hk
    have := t.ts (r - 1) (r - 1) (by omega) (by omega)
    rw [mm_zero hz, dl_same] at this
    omega
  · exact hge
theorem rk_ge {M P Q : Nat → Nat → Nat} (hM : Bm M) (hP : Bm P) (hQ : Bm Q) {h w r : Nat} (e : ∀ i j, i < r → j < r → mm h P (mm w M Q) i j = dl i j) : r ≤ rk h w M := by
  have E := gj_ech hM h w
  obtain ⟨T, S, t, g⟩ := E.rw
  have hR := E.bm
  refine no_wide (X := mm h P S) (Y := mm w (gj h M w).2 Q) (mm_lt hP t.bs h) (mm_lt hR hQ w) (fun i j hi hj => ?_)
  have hM2 : ∀ i j, i < h → M i j = mm h S (gj h M w).2 i j := fun i j hi => by
    rw [mm_congr (A' := S) (B' := mm h T M) (fun _ _ => rfl) (fun k hk => g k j hk), ← mm_assoc t.bs t.bt hM, mm_congr (A' := dl) (B' := M) (fun k hk => t.st i k hi hk) (fun _ _ => rfl), mm_one hM hi]
  show mm (gj h M w).1 _ _ i j = _
  rw [← mm_less (n := h) E.lh (fun k h1 h2 => mm_zero fun k' hk' => E.low k k' h1 h2 hk'), ← e i j hi hj, mm_assoc hP t.bs (mm_lt hR hQ w)]
  refine mm_congr (fun _ _ => rfl) fun k hk => ?_
  rw [← mm_assoc t.bs hR hQ]
  exact mm_congr (fun m hm => (hM2 k m hk).symm) (fun _ _ => rfl)
theorem rk_through {M : Nat → Nat → Nat} (hM : Bm M) (h w : Nat) : ∃ P Q, Bm P ∧ Bm Q ∧ ∀ i j, i < rk h w M → j < rk h w M → mm h P (mm w M Q) i j = dl i j := by
  have E := gj_ech hM h w
  obtain ⟨T, S, t, g⟩ := E.rw
  obtain ⟨p, hp⟩ := E.pc
  have hQ : Bm (fun k j => dl k (p j)) := fun k j => dl_lt _ _
  have hlh := E.lh
  refine ⟨T, fun k j => dl k (p j), t.bt, hQ, fun i j hi hj => ?_⟩
  unfold rk at hi hj
  rw [← mm_assoc t.bt hM hQ, mm_congr (A := mm h T M) (B := fun k j => dl k (p j)) (A' := (gj h M w).2) (B' := fun k j => dl k (p j)) (fun k hk => (g i k (by omega)).symm) (fun _ _ => rfl)]
  have : mm w (gj h M w).2 (fun k j => dl k (p j)) i j = mm w (gj h M w).2 dl i (p j) := rfl
  rw [this, one_mm E.bm (hp j hj).1]
  exact (hp j hj).2 i (by omega)
theorem rk_mul_left {A B : Nat → Nat → Nat} (hA : Bm A) (hB : Bm B) (h c w : Nat) : rk h w (mm c A B) ≤ rk h c A := by
  obtain ⟨P, Q, hP, hQ, e⟩ := rk_through (mm_lt hA hB c) h w
  refine rk_ge hA hP (mm_lt hB hQ w) fun i j hi hj => ?_
  rw [← e i j hi hj]
  exact mm_congr (fun _ _ => rfl) fun k hk => (mm_assoc hA hB hQ c w k j).symm
theorem rk_mul_right {A B : Nat → Nat → Nat} (hA : Bm A) (hB : Bm B) (h c w : Nat) : rk h w (mm c A B) ≤ rk c w B := by
  obtain ⟨P, Q, hP, hQ, e⟩ := rk_through (mm_lt hA hB c) h w
  refine rk_ge hB (mm_lt hP hA h) hQ fun i j hi hj => ?_
  rw [← e i j hi hj, mm_assoc hP hA (mm_lt hB hQ w)]
  exact mm_congr (fun _ _ => rfl) fun k hk => (mm_assoc hA hB hQ c w k j).symm
/-- with a row that is a sum of the others it stays. -/
theorem rk_more {A A' : Nat → Nat → Nat} (hA : Bm A) (hA' : Bm A') {h w : Nat} {v : Nat → Nat} (hv : ∀ k, v k < 256) (e : ∀ i j, i < h → j < w → A' i j = A i j) (en : ∀ j, j < w → A' h j = xsum (fun k => mul (v k) (A k j)) h) : rk (h + 1) w A' = rk h w A := by
  have hE : Bm (fun i k => if i < h then dl i k else v k) := fun i k => by
    show (if i < h then _ else _) < 256
    split
    · exact dl_lt _ _
    · exact hv k
  have e1 : rk (h + 1) w A' = rk (h + 1) w (mm h (fun i k => if i < h then dl i k else v k) A) := rk_congr hA' (mm_lt hE hA h) fun i j hi hj => by
    by_cases c : i < h
    · rw [e i j c hj, ← mm_one hA (n := h) (j := j) c]
      exact mm_congr (fun k _ => (if_pos c).symm) (fun _ _ => rfl)
    · obtain rfl : i = h := by omega
      rw [en j hj]
      exact xsum_congr i fun k _ => congrArg (fun z => mul z (A k j)) (if_neg c).symm
  have e2 : rk h w A = rk h w (mm (h + 1) dl A') := rk_congr hA (mm_lt dl_lt hA' _) fun i j hi hj => by
    rw [mm_one hA' (by omega), e i j hi hj]
  have l1 := rk_mul_right hE hA (h + 1) h w
  have l2 := rk_mul_right dl_lt hA' h (h + 1) w
  omega

/-- a matrix with the unit behind it. -/
def wu (A : Nat → Nat → Nat) (n i j : Nat) : Nat := if j < n then A i j else dl i (j - n)
theorem wu_bm {A : Nat → Nat → Nat} (hA : Bm A) (n : Nat) : Bm (wu A n) := fun i j => by unfold wu; split; exact hA _ _; exact dl_lt _ _
theorem wu_lo {A : Nat → Nat → Nat} {n i j : Nat} (h : j < n) : wu A n i j = A i j := if_pos h
theorem wu_hi {A : Nat → Nat → Nat} {n i j : Nat} : wu A n i (n + j) = dl i j := by unfold wu; rw [if_neg (by omega), show n + j - n = j by omega]
/-- the inverse. -/
def inv (A : Nat → Nat → Nat) (n i j : Nat) : Nat := (gj n (wu A n) n).2 i (n + j)
theorem inv_bm {A : Nat → Nat → Nat} (hA : Bm A) (n : Nat) : Bm (inv A n) := fun _ _ => (gj_ech (wu_bm hA n) n n).bm _ _
theorem rk_wu {A : Nat → Nat → Nat} (hA : Bm A) (n : Nat) : rk n n (wu A n) = rk n n A := rk_congr (wu_bm hA n) hA fun _ _ _ hj => wu_lo hj
theorem inv_two {A : Nat → Nat → Nat} (hA : Bm A) {n : Nat} (h : rk n n A = n) : Two n (inv A n) A := by
  have E := gj_ech (wu_bm hA n) n n
  obtain ⟨T, S, t, g⟩ := E.rw
  have hf := E.full ((rk_wu hA n).trans h)
  have hT : ∀ i j, i < n → j < n → inv A n i j = T i j := fun i j hi hj => by
    unfold inv
    rw [g i _ hi, ← one_mm t.bt (n := n) (i := i) hj]
    show mm n T (fun k j => wu A n k (n + j)) i j = _
    exact mm_congr (fun _ _ => rfl) fun k _ => wu_hi
  have hTA : ∀ i j, i < n → j < n → mm n T A i j = dl i j := fun i j hi hj => by
    rw [← hf i j hi hj, g i j hi]
    exact mm_congr (fun _ _ => rfl) fun k _ => (wu_lo hj).symm
  have hS : ∀ i j, i < n → j < n → A i j = S i j := fun i j hi hj => by
    rw [← one_mm t.bs (n := n) (i := i) hj, ← mm_congr (A := S) (B := mm n T A) (fun _ _ => rfl) (fun k hk => hTA k j hk hj), ← mm_assoc t.bs t.bt hA,
      mm_congr (A' := dl) (B' := A) (fun k hk => t.st i k hi hk) (fun _ _ => rfl), mm_one hA hi]
  refine ⟨inv_bm hA n, hA, fun i j hi hj => ?_, fun i j hi hj => ?_⟩
  · rw [mm_congr (A' := T) (B' := A) (fun k hk => hT i k hi hk) (fun _ _ => rfl)]; exact hTA i j hi hj
  · rw [mm_congr (A' := S) (B' := T) (fun k hk => hS i k hi hk) (fun k hk => hT k j hk hj)]; exact t.st i j hi hj
theorem rk_two {A B : Nat → Nat → Nat} {n : Nat} (t : Two n A B) : rk n n A = n := by
  refine Nat.le_antisymm (rk_le_rows t.bt n n) (rk_ge t.bt dl_lt t.bs (P := dl) (Q := B) fun i j hi hj => ?_)
  rw [mm_one (mm_lt t.bt t.bs n) hi]; exact t.ts i j hi hj
theorem two_uniq {A B C : Nat → Nat → Nat} {n : Nat} (t : Two n B A) (u : Two n C A) {i j : Nat} (hi : i < n) (hj : j < n) : B i j = C i j := by
  rw [← one_mm t.bt (n := n) (i := i) hj, ← mm_congr (A := B) (B := mm n A C) (fun _ _ => rfl) (fun k hk => u.st k j hk hj), ← mm_assoc t.bt t.bs u.bt,
    mm_congr (A' := dl) (B' := C) (fun k hk => t.ts i k hi hk) (fun _ _ => rfl), mm_one u.bt hi]
theorem Two.turn {A B : Nat → Nat → Nat} {n : Nat} (t : Two n A B) : Two n B A := ⟨t.bs, t.bt, t.st, t.ts⟩
theorem inv_inv {A : Nat → Nat → Nat} (hA : Bm A) {n : Nat} (h : rk n n A = n) {i j : Nat} (hi : i < n) (hj : j < n) : inv (inv A n) n i j = A i j :=
  two_uniq (inv_two (inv_bm hA n) (rk_two (inv_two hA h))) (inv_two hA h).turn hi hj
theorem inv_congr {A A' : Nat → Nat → Nat} (hA : Bm A) (hA' : Bm A') {n : Nat} (e : ∀ i j, i < n → j < n → A i j = A' i j) {i j : Nat} (hi : i < n) (hj : j < n) : inv A n i j = inv A' n i j :=
  (gj_congr (wu_bm hA n) (wu_bm hA' n) (w := n + n) (fun i j hi _ => by
    unfold wu
    by_cases h : j < n
    · rw [if_pos h, if_pos h, e i j hi h]
    · rw [if_neg h, if_neg h]) n (by omega)).2 i (n + j) hi (by omega)
end Go.Proofs.Ytjlmajopfeplpaa.Mt

/-
  Checksums: plain facts, no program in sight. A row of bytes is a function.
-/
namespace Go.Proofs.Ytjlmajopfeplpaa.Crc

/-- what goes in where the bit that goes was 1. -/
def pp (b : Bool) : Nat := if b then 3988292384 else 0
/-- one bit goes. -/
def m1 (s : Nat) : Nat := (s >>> 1) ^^^ pp (s.testBit 0)
/-- n bits go. -/
def mn (s : Nat) : Nat → Nat
  | 0 => s
  | n + 1 => m1 (mn s n)
/-- n bytes are put in, by f. -/
def run (s : Nat) (f : Nat → Nat) : Nat → Nat
  | 0 => s
  | n + 1 => mn (run s f n ^^^ f n) 8
/-- all bits turned. -/
def inv (s : Nat) : Nat := s ^^^ 4294967295
/-- the sum of bytes of which the first ones have the sum s, and the others are f's first n. -/
def go (s : Nat) (f : Nat → Nat) (n : Nat) : Nat := inv (run (inv s) f n)

theorem pp_xor (a b : Bool) : pp (a ^^ b) = pp a ^^^ pp b := by cases a <;> cases b <;> simp [pp]
theorem m1_xor (a b : Nat) : m1 (a ^^^ b) = m1 a ^^^ m1 b := by
  unfold m1
  rw [Nat.shiftRight_xor_distrib, Nat.testBit_xor, pp_xor]; ac_rfl
theorem mn_xor (a b : Nat) : ∀ n, mn (a ^^^ b) n = mn a n ^^^ mn b n
  | 0 => rfl
  | n + 1 => by show m1 _ = m1 _ ^^^ m1 _; rw [mn_xor a b n, m1_xor]
theorem m1_0 : m1 0 = 0 := rfl
theorem mn_0 : ∀ n, mn 0 n = 0
  | 0 => rfl
  | n + 1 => by show m1 _ = 0; rw [mn_0 n, m1_0]
theorem mn_s (s : Nat) : ∀ n, mn s (n + 1) = mn (m1 s) n
  | 0 => rfl
  | n + 1 => by show m1 (mn s (n + 1)) = m1 (mn (m1 s) n); rw [mn_s s n]
theorem mn_add (s n : Nat) : ∀ k, mn s (n + k) = mn (mn s n) k
  | 0 => rfl
  | k + 1 => by show m1 (mn s (n + k)) = m1 (mn (mn s n) k); rw [mn_add s n k]
theorem m1_2 (h : Nat) : m1 (2 * h) = h := by
  unfold m1
  have : (2 * h).testBit 0 = false := by simp [Nat.testBit_zero]
  rw [this, Nat.shiftRight_eq_div_pow]; simp [pp]
theorem mn_pow (h : Nat) : ∀ n, mn (2 ^ n * h) n = h
  | 0 => by simp [mn]
  | n + 1 => by rw [mn_s, Nat.pow_succ, Nat.mul_comm (2 ^ n) 2, Nat.mul_assoc, m1_2, mn_pow h n]
theorem pp_lt (b : Bool) : pp b < 2 ^ 32 := by cases b <;> decide
theorem m1_lt {s : Nat} (h : s < 2 ^ 32) : m1 s < 2 ^ 32 := by
  unfold m1
  refine Nat.xor_lt_two_pow ?_ (pp_lt _)
  rw [Nat.shiftRight_eq_div_pow]; omega
theorem mn_lt {s : Nat} (h : s < 2 ^ 32) : ∀ n, mn s n < 2 ^ 32
  | 0 => h
  | n + 1 => m1_lt (mn_lt h n)
theorem xor_lt {a b : Nat} (h : a < 2 ^ 32) (hb : b < 256) : a ^^^ b < 2 ^ 32 := Nat.xor_lt_two_pow h (by omega)
theorem run_lt {s : Nat} {f : Nat → Nat} (h : s < 2 ^ 32) (hf : ∀ i, f i < 256) : ∀ n, run s f n < 2 ^ 32
  | 0 => h
  | n + 1 => mn_lt (xor_lt (run_lt h hf n) (hf n)) 8
theorem inv_lt {s : Nat} (h : s < 2 ^ 32) : inv s < 2 ^ 32 := Nat.xor_lt_two_pow h (by decide)
theorem inv_inv (s : Nat) : inv (inv s) = s := by unfold inv; rw [Nat.xor_assoc, Nat.xor_self, Nat.xor_zero]
theorem go_lt {s : Nat} {f : Nat → Nat} (h : s < 2 ^ 32) (hf : ∀ i, f i < 256) (n : Nat) : go s f n < 2 ^ 32 := inv_lt (run_lt (inv_lt h) hf n)
theorem go_0 (s : Nat) (f : Nat → Nat) : go s f 0 = s := inv_inv s
/-- by a table: the higher bits come down as they are. -/
theorem by_table (r b : Nat) (_hb : b < 256) : mn (r ^^^ b) 8 = (r / 256) ^^^ mn (r % 256 ^^^ b) 8 := by
  have h : r = 2 ^ 8 * (r / 256) ^^^ r % 256 := by
    conv => lhs; rw [← Nat.div_add_mod r 256]
    rw [show 256 * (r / 256) = 2 ^ 8 * (r / 256) from rfl, Nat.two_pow_add_eq_or_of_lt (i := 8) (by omega)]
    apply Nat.eq_of_testBit_eq; intro i
    rw [Nat.testBit_or, Nat.testBit_xor]
    by_cases hi : i < 8
    · rw [Nat.testBit_two_pow_mul]
      have : ¬ 8 ≤ i := by omega
      simp [this]
    · rw [Nat.testBit_lt_two_pow (x := r % 256) (i := i) (by have := Nat.pow_le_pow_right (n := 2) (by omega) (show 8 ≤ i by omega); omega)]; simp
  conv => lhs; rw [h, Nat.xor_assoc, mn_xor, mn_pow]
theorem run_congr {s : Nat} {f g : Nat → Nat} : ∀ n, (∀ i, i < n → f i = g i) → run s f n = run s g n
  | 0, _ => rfl
  | n + 1, h => by show mn _ 8 = mn _ 8; rw [run_congr n fun i hi => h i (by omega), h n (by omega)]
theorem go_congr {s : Nat} {f g : Nat → Nat} {n : Nat} (h : ∀ i, i < n → f i = g i) : go s f n = go s g n := by unfold go; rw [run_congr n h]
theorem run_add (s : Nat) (f : Nat → Nat) (n : Nat) : ∀ k, run s f (n + k) = run (run s f n) (fun i => f (n + i)) k
  | 0 => rfl
  | k + 1 => by show mn (run s f (n + k) ^^^ f (n + k)) 8 = mn _ 8; rw [run_add s f n k]
theorem go_add (s : Nat) (f : Nat → Nat) (n k : Nat) : go s f (n + k) = go (go s f n) (fun i => f (n + i)) k := by
  unfold go; rw [inv_inv, run_add]
/-- a sum of rows: one behind the other. -/
def rows (s : Nat) (l : Nat → Nat) (f : Nat → Nat → Nat) : Nat → Nat
  | 0 => s
  | n + 1 => go (rows s l f n) (f n) (l n)
theorem rows_lt {s : Nat} {l : Nat → Nat} {f : Nat → Nat → Nat} (h : s < 2 ^ 32) (hf : ∀ i j, f i j < 256) : ∀ n, rows s l f n < 2 ^ 32
  | 0 => h
  | n + 1 => go_lt (rows_lt h hf n) (hf n) (l n)
/-- the rest, gone on with by whole rows. -/
def rrows (s : Nat) (l : Nat → Nat) (f : Nat → Nat → Nat) : Nat → Nat
  | 0 => s
  | n + 1 => run (rrows s l f n) (f n) (l n)
theorem rrows_eq (s : Nat) (l : Nat → Nat) (f : Nat → Nat → Nat) : ∀ n, rrows (inv s) l f n = inv (rows s l f n)
  | 0 => rfl
  | n + 1 => by show run _ _ _ = inv (inv (run (inv _) _ _)); rw [rrows_eq s l f n, inv_inv]
/-- the bytes of a sum, the lowest first. -/
def byt (s k : Nat) : Nat := s / 256 ^ k % 256
/-- sealed. -/
def sealed (f : Nat → Nat) (n : Nat) (i : Nat) : Nat := if i < n then f i else if i < n + 4 then byt (go 0 f n) (i - n) else 0

/-! of two rows the sums differ by what their difference makes -/
theorem run_xor (s t : Nat) (f g : Nat → Nat) : ∀ n, run (s ^^^ t) (fun i => f i ^^^ g i) n = run s f n ^^^ run t g n
  | 0 => rfl
  | n + 1 => by
    show mn (run (s ^^^ t) (fun i => f i ^^^ g i) n ^^^ (f n ^^^ g n)) 8 = mn _ 8 ^^^ mn _ 8
    rw [run_xor s t f g n, ← mn_xor]; congr 1; ac_rfl
theorem inv_xor (a b : Nat) : inv a ^^^ inv b = a ^^^ b := by
  unfold inv
  rw [show a ^^^ 4294967295 ^^^ (b ^^^ 4294967295) = a ^^^ b ^^^ (4294967295 ^^^ 4294967295) by ac_rfl]; simp
theorem go_diff (f g d : Nat → Nat) (n : Nat) (h : ∀ i, i < n → d i = f i ^^^ g i) : go 0 f n ^^^ go 0 g n = go 0 d n ^^^ go 0 (fun _ => 0) n := by
  unfold go
  rw [inv_xor, inv_xor, run_congr n h, ← run_xor, ← run_xor]
  have e : run (inv 0 ^^^ inv 0) (fun i => f i ^^^ g i ^^^ 0) n = run (inv 0 ^^^ inv 0) (fun i => f i ^^^ g i) n := run_congr n fun i _ => by simp
  rw [e]

/-! turned bits -/
theorem m1_inj0 {s : Nat} (hs : s < 2 ^ 32) (h : m1 s = 0) : s = 0 := by
  unfold m1 at h
  cases hb : s.testBit 0 with
  | false =>
    rw [hb] at h
    simp [pp, Nat.shiftRight_eq_div_pow] at h
    rw [Nat.testBit_zero] at hb
    have : ¬ s % 2 = 1 := by simpa using hb
    omega
  | true =>
    rw [hb] at h
    exfalso
    have h2 : (s >>> 1 ^^^ pp true).testBit 31 = true := by
      rw [Nat.testBit_xor, Nat.testBit_lt_two_pow (x := s >>> 1) (by rw [Nat.shiftRight_eq_div_pow]; omega)]
      decide
    rw [h] at h2; simp at h2
theorem mn_inj0 {s : Nat} (hs : s < 2 ^ 32) : ∀ n, mn s n = 0 → s = 0
  | 0, h => h
  | n + 1, h => mn_inj0 hs n (m1_inj0 (mn_lt hs n) h)
theorem mn_inj {a b n : Nat} (ha : a < 2 ^ 32) (hb : b < 2 ^ 32) (h : mn a n = mn b n) : a = b := by
  have h0 : mn (a ^^^ b) n = 0 := by rw [mn_xor, h, Nat.xor_self]
  have := mn_inj0 (Nat.xor_lt_two_pow ha hb) n h0
  have e : a ^^^ b ^^^ b = 0 ^^^ b := by rw [this]
  rw [Nat.xor_assoc, Nat.xor_self, Nat.xor_zero, Nat.zero_xor] at e; exact e
theorem run0 {f : Nat → Nat} : ∀ n, (∀ i, i < n → f i = 0) → run 0 f n = 0
  | 0, _ => rfl
  | n + 1, h => by show mn _ 8 = 0; rw [run0 n fun i hi => h i (by omega), h n (by omega)]; exact mn_0 8
theorem run_back {s : Nat} {f : Nat → Nat} (hs : s < 2 ^ 32) : ∀ n, (∀ i, i < n → f i = 0) → run s f n = 0 → s = 0
  | 0, _, h => h
  | n + 1, hf, h => by
    have h1 : run s f (n + 1) = mn (run s f n) 8 := by show mn _ 8 = mn _ 8; rw [hf n (by omega), Nat.xor_zero]
    rw [h1] at h
    have hl : run s f n < 2 ^ 32 := by
      have e : run s f n = run s (fun _ => 0) n := run_congr n fun i hi => hf i (by omega)
      rw [e]; exact run_lt hs (fun _ => by omega) n
    exact run_back hs n (fun i hi => hf i (by omega)) (mn_inj0 hl 8 h)

/-- bits are put in one by one. -/
def bst (r : Nat) (e : Nat → Bool) : Nat → Nat
  | 0 => r
  | n + 1 => m1 (bst r e n ^^^ (e n).toNat)
theorem bst_congr {r : Nat} {e d : Nat → Bool} : ∀ n, (∀ i, i < n → e i = d i) → bst r e n = bst r d n
  | 0, _ => rfl
  | n + 1, h => by show m1 _ = m1 _; rw [bst_congr n fun i hi => h i (by omega), h n (by omega)]
theorem bst_add (r : Nat) (e : Nat → Bool) (n : Nat) : ∀ k, bst r e (n + k) = bst (bst r e n) (fun i => e (n + i)) k
  | 0 => rfl
  | k + 1 => by show m1 (bst r e (n + k) ^^^ (e (n + k)).toNat) = m1 _; rw [bst_add r e n k]
theorem bst_none (r : Nat) : ∀ n, bst r (fun _ => false) n = mn r n
  | 0 => rfl
  | n + 1 => by show m1 (bst r (fun _ => false) n ^^^ 0) = m1 _; rw [bst_none r n, Nat.xor_zero]
theorem mod_s (b k : Nat) : b % 2 ^ (k + 1) = b % 2 ^ k ^^^ 2 ^ k * (b.testBit k).toNat := by
  apply Nat.eq_of_testBit_eq; intro i
  rw [Nat.testBit_xor, Nat.testBit_mod_two_pow, Nat.testBit_mod_two_pow, Nat.testBit_two_pow_mul]
  rcases Nat.lt_trichotomy i k with h | rfl | h
  · have h1 : i < k + 1 := by omega
    have h2 : ¬ k ≤ i := by omega
    simp [h, h1, h2]
  · cases b.testBit i <;> simp
  · have h1 : ¬ i < k + 1 := by omega
    have h2 : ¬ i < k := by omega
    have h3 : k ≤ i := by omega
    obtain ⟨d, hd⟩ : ∃ d, i - k = d + 1 := ⟨i - k - 1, by omega⟩
    rw [hd]
    cases b.testBit k <;> simp [h1, h2, Nat.testBit_succ]
theorem bst_nat (r b : Nat) : ∀ k, bst r (fun i => b.testBit i) k = mn (r ^^^ b % 2 ^ k) k
  | 0 => by show r = r ^^^ b % 1; rw [Nat.mod_one, Nat.xor_zero]
  | k + 1 => by
    show m1 (bst r (fun i => b.testBit i) k ^^^ (b.testBit k).toNat) = m1 (mn _ k)
    rw [bst_nat r b k, mod_s, ← Nat.xor_assoc, mn_xor (r ^^^ b % 2 ^ k), mn_pow]
theorem run_bst (r : Nat) (x : Nat → Nat) (hx : ∀ i, x i < 256) : ∀ n, run r x n = bst r (fun j => (x (j / 8)).testBit (j % 8)) (8 * n)
  | 0 => rfl
  | n + 1 => by
    show mn (run r x n ^^^ x n) 8 = _
    rw [run_bst r x hx n, show 8 * (n + 1) = 8 * n + 8 from rfl, bst_add]
    rw [bst_congr (d := fun i => (x n).testBit i) 8 (fun i hi => by
      show (x ((8 * n + i) / 8)).testBit ((8 * n + i) % 8) = _
      rw [show (8 * n + i) / 8 = n by omega, show (8 * n + i) % 8 = i by omega]), bst_nat, Nat.mod_eq_of_lt (show x n < 2 ^ 8 from hx n)]
theorem byt_lt (s k : Nat) : byt s k < 256 := Nat.mod_lt _ (by decide)
theorem byt_bit (c j : Nat) : (byt c (j / 8)).testBit (j % 8) = c.testBit j := by
  unfold byt
  rw [show 256 = 2 ^ 8 from rfl, ← Nat.pow_mul, Nat.testBit_mod_two_pow, Nat.testBit_div_two_pow]
  have h : j % 8 < 8 := by omega
  rw [show j % 8 + 8 * (j / 8) = j by omega]; simp [h]
theorem run_byt (s c : Nat) (hc : c < 2 ^ 32) : run s (byt c) 4 = mn (s ^^^ c) 32 := by
  rw [run_bst s _ (byt_lt c), bst_congr (d := fun j => c.testBit j) (8 * 4) (fun j _ => byt_bit c j), bst_nat, Nat.mod_eq_of_lt hc]
/-- what is sealed has one rest. -/
theorem rest_of {t : Nat → Nat} {n : Nat} (ht : ∀ i, t i < 256) (h : ∀ i, i < 4 → t (n + i) = byt (go 0 t n) i) : run (inv 0) t (n + 4) = mn 4294967295 32 := by
  have hl := go_lt (s := 0) (by decide) ht n
  rw [run_add, run_congr 4 h, run_byt _ _ hl]
  congr 1
  show run (inv 0) t n ^^^ inv (run (inv 0) t n) = _
  unfold inv
  rw [← Nat.xor_assoc, Nat.xor_self, Nat.zero_xor]
theorem sealed_lt {f : Nat → Nat} (hf : ∀ i, f i < 256) (n i : Nat) : sealed f n i < 256 := by
  unfold sealed; split
  · exact hf i
  · split
    · exact byt_lt _ _
    · decide
theorem sealed_lo {f : Nat → Nat} {n i : Nat} (h : i < n) : sealed f n i = f i := if_pos h
theorem sealed_hi {f : Nat → Nat} {n i : Nat} (h : i < 4) : sealed f n (n + i) = byt (go 0 f n) i := by
  unfold sealed; rw [if_neg (by omega), if_pos (by omega)]; congr 1; omega
theorem sealed_up {f : Nat → Nat} {n i : Nat} (h : n + 4 ≤ i) : sealed f n i = 0 := by
  unfold sealed; rw [if_neg (by omega), if_neg (by omega)]
theorem sealed_go (f : Nat → Nat) (n : Nat) : go 0 (sealed f n) n = go 0 f n := go_congr fun _ hi => sealed_lo hi
theorem sealed_rest {f : Nat → Nat} (hf : ∀ i, f i < 256) (n : Nat) : run (inv 0) (sealed f n) (n + 4) = mn 4294967295 32 :=
  rest_of (sealed_lt hf n) fun i hi => by rw [sealed_hi hi, sealed_go]
/-- some bits within 32 make a rest. -/
theorem burst {x : Nat → Nat} {L k w : Nat} (hx : ∀ i, x i < 256) (hw : w < 2 ^ 32) (he : ∀ j, j < 8 * L → (x (j / 8)).testBit (j % 8) = (decide (k ≤ j ∧ j < k + 32) && w.testBit (j - k)))
    (hj : ∃ j, j < 32 ∧ k + j < 8 * L ∧ w.testBit j = true) : run 0 x L ≠ 0 := by
  obtain ⟨j, hj1, hj2, hj3⟩ := hj
  rw [run_bst 0 x hx, bst_congr _ he]
  obtain ⟨d, hd⟩ : ∃ d, 8 * L = k + d := ⟨8 * L - k, by omega⟩
  rw [hd, bst_add, bst_congr (d := fun _ => false) k (fun i hi => by
    have : ¬ (k ≤ i ∧ i < k + 32) := by omega
    simp [this]), bst_none, mn_0]
  by_cases h32 : d ≤ 32
  · rw [bst_congr (d := fun i => w.testBit i) d (fun i hi => by
      have : k ≤ k + i ∧ k + i < k + 32 := by omega
      show (decide (k ≤ k + i ∧ k + i < k + 32) && w.testBit (k + i - k)) = _
      rw [Nat.add_sub_cancel_left]; simp [this]), bst_nat, Nat.zero_xor]
    intro h
    have h0 := mn_inj0 (Nat.lt_of_le_of_lt (Nat.mod_le _ _) hw) d h
    have : (w % 2 ^ d).testBit j = true := by rw [Nat.testBit_mod_two_pow, hj3]; simp; omega
    rw [h0] at this; simp at this
  · obtain ⟨r, rfl⟩ : ∃ r, d = 32 + r := ⟨d - 32, by omega⟩
    rw [bst_add, bst_congr (d := fun i => w.testBit i) 32 (fun i hi => by
      have : k ≤ k + i ∧ k + i < k + 32 := by omega
      show (decide (k ≤ k + i ∧ k + i < k + 32) && w.testBit (k + i - k)) = _
      rw [Nat.add_sub_cancel_left]; simp [this]), bst_nat, Nat.zero_xor, Nat.mod_eq_of_lt hw, bst_congr (d := fun _ => false) r (fun i hi => by
      have : ¬ (k ≤ k + (32 + i) ∧ k + (32 + i) < k + 32) := by omega
      show (decide (k ≤ k + (32 + i) ∧ k + (32 + i) < k + 32) && _) = _
      rw [decide_eq_false this]; rfl), bst_none, ← mn_add]
    intro h
    have h0 := mn_inj0 hw _ h
    rw [h0] at hj3; simp at hj3
/-- of what is sealed some bits within 32 are turned: it is told. -/
theorem told {f t : Nat → Nat} {n k w : Nat} (hf : ∀ i, f i < 256) (ht : ∀ i, t i < 256) (hw : w < 2 ^ 32)
    (he : ∀ j, j < 8 * (n + 4) → (t (j / 8)).testBit (j % 8) = ((sealed f n (j / 8)).testBit (j % 8) ^^ (decide (k ≤ j ∧ j < k + 32) && w.testBit (j - k))))
    (hj : ∃ j, j < 32 ∧ k + j < 8 * (n + 4) ∧ w.testBit j = true) : ¬ ∀ i, i < 4 → t (n + i) = byt (go 0 t n) i := by
  intro h
  have h1 := rest_of ht h
  rw [← sealed_rest hf n] at h1
  have h2 : run (inv 0 ^^^ inv 0) (fun i => t i ^^^ sealed f n i) (n + 4) = 0 := by rw [run_xor, h1, Nat.xor_self]
  rw [Nat.xor_self] at h2
  exact burst (x := fun i => t i ^^^ sealed f n i) (k := k) (fun i => Nat.xor_lt_two_pow (n := 8) (ht i) (sealed_lt hf n i)) hw (fun j hj => by
    show (t (j / 8) ^^^ sealed f n (j / 8)).testBit (j % 8) = _
    rw [Nat.testBit_xor, he j hj]
    cases (sealed f n (j / 8)).testBit (j % 8) <;> simp) hj h2
end Go.Proofs.Ytjlmajopfeplpaa.Crc
