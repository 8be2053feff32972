/-
  Polynomials over bytes: plain facts, no program in sight. A polynomial is a function: its coefficient at each place.
-/
import Derived.Test.YtjnfghhochcpaaaGf
namespace Go.Proofs.Ytjnfghhochcpaaa.Pf
open Gf

/-- the sum of the first so many. -/
def xsum (f : Nat → Nat) : Nat → Nat
  | 0 => 0
  | n + 1 => xsum f n ^^^ f n
theorem xsum_congr {f g : Nat → Nat} : ∀ n, (∀ i, i < n → f i = g i) → xsum f n = xsum g n
  | 0, _ => rfl
  | n + 1, h => by
    show xsum f n ^^^ f n = xsum g n ^^^ g n
    rw [xsum_congr n (fun i hi => h i (by omega)), h n (by omega)]
theorem xsum_zero {f : Nat → Nat} : ∀ n, (∀ i, i < n → f i = 0) → xsum f n = 0
  | 0, _ => rfl
  | n + 1, h => by
    show xsum f n ^^^ f n = 0
    rw [xsum_zero n (fun i hi => h i (by omega)), h n (by omega)]; rfl
theorem xor4 (a b c d : Nat) : a ^^^ b ^^^ (c ^^^ d) = a ^^^ c ^^^ (b ^^^ d) := by ac_rfl
theorem xsum_xor (f g : Nat → Nat) : ∀ n, xsum (fun i => f i ^^^ g i) n = xsum f n ^^^ xsum g n
  | 0 => by show 0 = 0 ^^^ 0; rfl
  | n + 1 => by
    show xsum _ n ^^^ (f n ^^^ g n) = xsum f n ^^^ f n ^^^ (xsum g n ^^^ g n)
    rw [xsum_xor f g n, xor4]
theorem xsum_lt {f : Nat → Nat} : ∀ n, (∀ i, i < n → f i < 256) → xsum f n < 256
  | 0, _ => by show 0 < 256; omega
  | n + 1, h => xor_lt (xsum_lt n (fun i hi => h i (by omega))) (h n (by omega))
theorem mul_xsum (c : Nat) (f : Nat → Nat) : ∀ n, mul c (xsum f n) = xsum (fun i => mul c (f i)) n
  | 0 => mul_zero c
  | n + 1 => by
    show mul c (xsum f n ^^^ f n) = xsum _ n ^^^ mul c (f n)
    rw [mul_xor, mul_xsum c f n]
theorem xsum_mul {c : Nat} {f : Nat → Nat} (hc : c < 256) (n : Nat) (h : ∀ i, i < n → f i < 256) : mul (xsum f n) c = xsum (fun i => mul (f i) c) n := by
  rw [mul_comm (xsum_lt n h) hc, mul_xsum]
  exact xsum_congr n fun i hi => mul_comm hc (h i hi)
theorem xsum_mono {f : Nat → Nat} (m : Nat) : ∀ k, (∀ i, m ≤ i → i < m + k → f i = 0) → xsum f (m + k) = xsum f m
  | 0, _ => rfl
  | k + 1, h => by
    show xsum f (m + k) ^^^ f (m + k) = _
    rw [xsum_mono m k (fun i h1 h2 => h i h1 (by omega)), h (m + k) (by omega) (by omega), Nat.xor_zero]
theorem xsum_le {f : Nat → Nat} {m n : Nat} (hmn : m ≤ n) (h : ∀ i, m ≤ i → i < n → f i = 0) : xsum f n = xsum f m := by
  obtain ⟨k, rfl⟩ := Nat.exists_eq_add_of_le hmn
  exact xsum_mono m k h
theorem xsum_one {f : Nat → Nat} {j : Nat} : ∀ n, j < n → (∀ i, i < n → i ≠ j → f i = 0) → xsum f n = f j
  | 0, h, _ => by omega
  | n + 1, h, hz => by
    show xsum f n ^^^ f n = _
    by_cases e : j = n
    · subst e
      rw [xsum_zero j (fun i hi => hz i (by omega) (by omega)), Nat.zero_xor]
    · rw [xsum_one n (by omega) (fun i hi hne => hz i (by omega) hne), hz n (by omega) (fun h => e h.symm), Nat.xor_zero]
theorem xsum_first (f : Nat → Nat) : ∀ n, xsum f (n + 1) = f 0 ^^^ xsum (fun i => f (i + 1)) n
  | 0 => by show 0 ^^^ f 0 = f 0 ^^^ 0; rw [Nat.zero_xor, Nat.xor_zero]
  | n + 1 => by
    show xsum f (n + 1) ^^^ f (n + 1) = f 0 ^^^ (xsum (fun i => f (i + 1)) n ^^^ f (n + 1))
    rw [xsum_first f n, Nat.xor_assoc]
theorem xsum_shift (g : Nat → Nat) (k : Nat) : ∀ m, xsum (fun n => if k ≤ n then g (n - k) else 0) (k + m) = xsum g m
  | 0 => by
    rw [Nat.add_zero]
    exact xsum_zero k fun i hi => if_neg (by omega)
  | m + 1 => by
    show xsum _ (k + m) ^^^ (if k ≤ k + m then g (k + m - k) else 0) = xsum g m ^^^ g m
    rw [xsum_shift g k m, if_pos (by omega), Nat.add_sub_cancel_left]

/-- a byte, so many times. -/
def pn (x : Nat) : Nat → Nat
  | 0 => 1
  | k + 1 => mul (pn x k) x
theorem pn_lt {x : Nat} (hx : x < 256) : ∀ k, pn x k < 256
  | 0 => by show 1 < 256; omega
  | k + 1 => mul_lt (pn_lt hx k) hx
theorem pn_add {x : Nat} (hx : x < 256) (i : Nat) : ∀ j, pn x (i + j) = mul (pn x i) (pn x j)
  | 0 => (mul_one' (pn_lt hx i)).symm
  | j + 1 => by
    show mul (pn x (i + j)) x = mul (pn x i) (mul (pn x j) x)
    rw [pn_add hx i j, mul_assoc (pn_lt hx i) (pn_lt hx j) hx]

/-- all coefficients are bytes. -/
def By (p : Nat → Nat) : Prop := ∀ i, p i < 256
/-- nothing stands from the n-th place on. -/
def Up (p : Nat → Nat) (n : Nat) : Prop := ∀ i, n ≤ i → p i = 0
/-- lean, of so many coefficients. -/
def Ln (p : Nat → Nat) (n : Nat) : Prop := Up p n ∧ (n = 0 ∨ p (n - 1) ≠ 0)
theorem Up.mono {p : Nat → Nat} {m n : Nat} (h : Up p m) (hmn : m ≤ n) : Up p n := fun i hi => h i (by omega)
theorem Ln.uniq {p : Nat → Nat} {m n : Nat} (h : Ln p m) (k : Ln p n) : m = n := by
  rcases Nat.lt_trichotomy m n with hl | e | hl
  · rcases k.2 with e | e
    · omega
    · exact absurd (h.1 (n - 1) (by omega)) e
  · exact e
  · rcases h.2 with e | e
    · omega
    · exact absurd (k.1 (m - 1) (by omega)) e
theorem Ln.le {p : Nat → Nat} {m n : Nat} (h : Ln p m) (k : Up p n) : m ≤ n := by
  rcases Nat.lt_or_ge n m with hl | hl
  · rcases h.2 with e | e
    · omega
    · exact absurd (k (m - 1) (by omega)) e
  · exact hl
/-- how many coefficients the lean one has, of n. -/
def ln (p : Nat → Nat) : Nat → Nat
  | 0 => 0
  | k + 1 => if p k = 0 then ln p k else k + 1
theorem ln_le (p : Nat → Nat) : ∀ n, ln p n ≤ n
  | 0 => Nat.le_refl _
  | k + 1 => by
    unfold ln; split
    · exact Nat.le_succ_of_le (ln_le p k)
    · exact Nat.le_refl _
theorem ln_Ln {p : Nat → Nat} : ∀ n, Up p n → Ln p (ln p n)
  | 0, h => ⟨h, Or.inl rfl⟩
  | k + 1, h => by
    unfold ln
    by_cases e : p k = 0
    · rw [if_pos e]
      exact ln_Ln k fun i hi => by
        rcases Nat.lt_or_ge k i with hl | hl
        · exact h i (by omega)
        · obtain rfl : i = k := by omega
          exact e
    · rw [if_neg e]
      exact ⟨h, Or.inr (by simpa using e)⟩

/-- the value, of n coefficients. -/
def ev (p : Nat → Nat) (x n : Nat) : Nat := xsum (fun i => mul (p i) (pn x i)) n
theorem ev_lt {p : Nat → Nat} {x : Nat} (hp : By p) (hx : x < 256) (n : Nat) : ev p x n < 256 := xsum_lt n fun i _ => mul_lt (hp i) (pn_lt hx i)
theorem ev_up {p : Nat → Nat} {m n : Nat} (x : Nat) (h : Up p m) (hmn : m ≤ n) : ev p x n = ev p x m :=
  xsum_le hmn fun i hi _ => by rw [h i hi, zero_mul]
theorem ev_any {p : Nat → Nat} {m n : Nat} (x : Nat) (h : Up p m) (k : Up p n) : ev p x n = ev p x m := by
  rcases Nat.le_total m n with hl | hl
  · exact ev_up x h hl
  · exact (ev_up x k hl).symm
theorem ev_congr {p q : Nat → Nat} (x n : Nat) (h : ∀ i, i < n → p i = q i) : ev p x n = ev q x n := xsum_congr n fun i hi => by rw [h i hi]
theorem ev_xor {p q : Nat → Nat} {x : Nat} (hp : By p) (hq : By q) (hx : x < 256) (n : Nat) : ev (fun i => p i ^^^ q i) x n = ev p x n ^^^ ev q x n := by
  unfold ev
  rw [← xsum_xor]
  exact xsum_congr n fun i _ => xor_mul (hp i) (hq i) (pn_lt hx i)
theorem ev_first {p : Nat → Nat} {x : Nat} (hp : By p) (hx : x < 256) (n : Nat) : ev p x (n + 1) = p 0 ^^^ mul (ev (fun i => p (i + 1)) x n) x := by
  unfold ev
  rw [xsum_first, xsum_mul hx n (fun i _ => mul_lt (hp _) (pn_lt hx i))]
  congr 1
  · exact mul_one' (hp 0)
  · exact xsum_congr n fun i _ => mul_assoc (hp _) (pn_lt hx i) hx

/-- the value as it grows from the end. -/
def hn (p : Nat → Nat) (x n : Nat) : Nat → Nat
  | 0 => 0
  | k + 1 => mul (hn p x n k) x ^^^ p (n - 1 - k)
theorem hn_eq {p : Nat → Nat} {x : Nat} (hp : By p) (hx : x < 256) (n : Nat) : ∀ k, k ≤ n → hn p x n k = ev (fun i => p (n - k + i)) x k
  | 0, _ => rfl
  | k + 1, h => by
    show mul (hn p x n k) x ^^^ p (n - 1 - k) = _
    rw [ev_first (fun i => hp _) hx, hn_eq hp hx n k (by omega), Nat.xor_comm]
    show p (n - 1 - k) ^^^ _ = p (n - (k + 1) + 0) ^^^ mul (ev (fun i => p (n - (k + 1) + (i + 1))) x k) x
    rw [show n - (k + 1) + 0 = n - 1 - k by omega]
    congr 2
    exact ev_congr x k fun i _ => by rw [show n - (k + 1) + (i + 1) = n - k + i by omega]
theorem hn_all {p : Nat → Nat} {x : Nat} (hp : By p) (hx : x < 256) (n : Nat) : hn p x n n = ev p x n := by
  rw [hn_eq hp hx n n (Nat.le_refl _)]
  exact ev_congr x n fun i _ => by rw [Nat.sub_self, Nat.zero_add]

/-- the product: k rows of it. -/
def cv (p q : Nat → Nat) (k n : Nat) : Nat := xsum (fun i => if i ≤ n then mul (p i) (q (n - i)) else 0) k
theorem cv_by {p q : Nat → Nat} (hp : By p) (hq : By q) (k : Nat) : By (cv p q k) := fun n => xsum_lt k fun i _ => by
  split
  · exact mul_lt (hp _) (hq _)
  · omega
theorem cv_succ (p q : Nat → Nat) (k n : Nat) : cv p q (k + 1) n = cv p q k n ^^^ (if k ≤ n then mul (p k) (q (n - k)) else 0) := rfl
theorem cv_rows {p q : Nat → Nat} {k m : Nat} (h : Up p k) (hkm : k ≤ m) (n : Nat) : cv p q m n = cv p q k n :=
  xsum_le hkm fun i hi _ => by rw [h i hi, zero_mul]; split <;> rfl
theorem cv_up {p q : Nat → Nat} {k m : Nat} (hq : Up q m) : Up (cv p q k) (k + m) := fun n hn => xsum_zero k fun i hi => by
  split
  · rw [hq (n - i) (by omega), mul_zero]
  · rfl
theorem cv_up1 {p q : Nat → Nat} {k m : Nat} (hq : Up q m) (hm : 0 < m) : Up (cv p q k) (k + m - 1) := fun n hn => xsum_zero k fun i hi => by
  split
  · rw [hq (n - i) (by omega), mul_zero]
  · rfl
theorem cv_xor {p p' q : Nat → Nat} (hp : By p) (hp' : By p') (hq : By q) (k n : Nat) : cv (fun i => p i ^^^ p' i) q k n = cv p q k n ^^^ cv p' q k n := by
  unfold cv
  rw [← xsum_xor]
  refine xsum_congr k fun i _ => ?_
  by_cases h : i ≤ n
  · rw [if_pos h, if_pos h, if_pos h, xor_mul (hp i) (hp' i) (hq _)]
  · rw [if_neg h, if_neg h, if_neg h]; rfl
theorem cv_zero {p q : Nat → Nat} (h : ∀ i, p i = 0) (k n : Nat) : cv p q k n = 0 := xsum_zero k fun i _ => by rw [h i, zero_mul]; split <;> rfl
theorem cv_top {p q : Nat → Nat} {t m K : Nat} (hp : Up p (t + 1)) (hq : Up q (m + 1)) (hK : t < K) : cv p q K (t + m) = mul (p t) (q m) := by
  unfold cv
  rw [xsum_one (j := t) K hK]
  · rw [if_pos (by omega), Nat.add_sub_cancel_left]
  · intro i hi hne
    by_cases hl : i ≤ t + m
    · rw [if_pos hl]
      rcases Nat.lt_or_ge i t with h | h
      · rw [hq (t + m - i) (by omega), mul_zero]
      · rw [hp i (by omega), zero_mul]
    · rw [if_neg hl]
theorem cv_Ln {p q : Nat → Nat} {k m : Nat} (hp : By p) (hq : By q) (h : Ln p (k + 1)) (h' : Ln q (m + 1)) : Ln (cv p q (k + 1)) (k + m + 1) := by
  refine ⟨fun n hn => cv_up1 h'.1 (by omega) n (by omega), Or.inr ?_⟩
  · show cv p q (k + 1) (k + m) ≠ 0
    rw [cv_top h.1 h'.1 (by omega)]
    have a := h.2.resolve_left (by omega)
    have b := h'.2.resolve_left (by omega)
    exact mul_pos (hp _) (hq _) (by simpa using a) (by simpa using b)

theorem ev_row {q : Nat → Nat} {x a : Nat} (hq : By q) (hx : x < 256) (ha : a < 256) (k m N : Nat) (hm : Up q m) (hN : k + m ≤ N) :
    ev (fun n => if k ≤ n then mul a (q (n - k)) else 0) x N = mul (mul a (pn x k)) (ev q x m) := by
  have e : Up (fun n => if k ≤ n then mul a (q (n - k)) else 0) (k + m) := fun n hn => by
    show (if k ≤ n then mul a (q (n - k)) else 0) = 0
    rw [if_pos (by omega), hm (n - k) (by omega), mul_zero]
  rw [ev_up x e hN]
  unfold ev
  rw [mul_xsum, ← xsum_shift _ k m]
  refine xsum_congr _ fun n _ => ?_
  show mul (if k ≤ n then mul a (q (n - k)) else 0) (pn x n) = if k ≤ n then mul (mul a (pn x k)) (mul (q (n - k)) (pn x (n - k))) else 0
  by_cases h : k ≤ n
  · rw [if_pos h, if_pos h]
    rw [show pn x n = mul (pn x k) (pn x (n - k)) by rw [← pn_add hx, show k + (n - k) = n by omega]]
    have h1 := pn_lt hx k
    have h2 := pn_lt hx (n - k)
    have h3 := hq (n - k)
    rw [mul_assoc (mul_lt ha h3) h1 h2, mul_assoc (mul_lt ha h1) h3 h2, ← mul_assoc ha h3 h1, ← mul_assoc ha h1 h3, mul_comm h3 h1]
  · rw [if_neg h, if_neg h, zero_mul]
theorem ev_cv {p q : Nat → Nat} {x : Nat} (hp : By p) (hq : By q) (hx : x < 256) (m N : Nat) (hm : Up q m) : ∀ k, k + m ≤ N → ev (cv p q k) x N = mul (ev p x k) (ev q x m)
  | 0, _ => by
    show ev (fun _ => 0) x N = mul 0 _
    rw [zero_mul]
    exact xsum_zero N fun i _ => zero_mul _
  | k + 1, h => by
    have e : ev (cv p q (k + 1)) x N = ev (fun n => cv p q k n ^^^ (if k ≤ n then mul (p k) (q (n - k)) else 0)) x N := rfl
    have hrow : By (fun n => if k ≤ n then mul (p k) (q (n - k)) else 0) := fun n => by
      show (if k ≤ n then mul (p k) (q (n - k)) else 0) < 256
      split
      · exact mul_lt (hp _) (hq _)
      · omega
    rw [e, ev_xor (cv_by hp hq k) hrow hx, ev_cv hp hq hx m N hm k (by omega), ev_row hq hx (hp k) k m N hm (by omega)]
    show _ = mul (ev p x k ^^^ mul (p k) (pn x k)) _
    rw [xor_mul (ev_lt hp hx k) (mul_lt (hp k) (pn_lt hx k)) (ev_lt hq hx m)]
/-- values of products are products of values. -/
theorem ev_mul {p q : Nat → Nat} {x k m n : Nat} (hp : By p) (hq : By q) (hx : x < 256) (hm : Up q m) (hn : Up (cv p q k) n) : ev (cv p q k) x n = mul (ev p x k) (ev q x m) := by
  rw [← ev_cv hp hq hx m (k + m) hm k (Nat.le_refl _)]
  exact ev_any x (cv_up hm) hn

/-- a quotient and a rest are the only ones. -/
theorem div_uniq {b d d' r r' : Nat → Nat} {m k k' : Nat} (hb : By b) (hd : By d) (hd' : By d') (hbm : Ln b (m + 1)) (hdk : Up d k) (hdk' : Up d' k') (hr : Up r m) (hr' : Up r' m)
    (h : ∀ n, cv d b k n ^^^ r n = cv d' b k' n ^^^ r' n) : (∀ n, d n = d' n) ∧ ∀ n, r n = r' n := by
  have hK : ∀ n, cv (fun i => d i ^^^ d' i) b (k + k') n = r n ^^^ r' n := fun n => by
    rw [cv_xor hd hd' hb, cv_rows hdk (by omega), cv_rows hdk' (by omega)]
    have := h n
    have e : cv d b k n = cv d' b k' n ^^^ r' n ^^^ r n := by rw [← this, Nat.xor_assoc, Nat.xor_self, Nat.xor_zero]
    rw [e]
    rw [show cv d' b k' n ^^^ r' n ^^^ r n ^^^ cv d' b k' n = r n ^^^ r' n ^^^ (cv d' b k' n ^^^ cv d' b k' n) from by ac_rfl, Nat.xor_self, Nat.xor_zero]
  have hu : Up (fun i => d i ^^^ d' i) (k + k') := fun i hi => by
    show d i ^^^ d' i = 0
    rw [hdk i (by omega), hdk' i (by omega)]; rfl
  have hL := ln_Ln _ hu
  have hle := ln_le (fun i => d i ^^^ d' i) (k + k')
  generalize ln (fun i => d i ^^^ d' i) (k + k') = t at *
  have hz : ∀ n, d n ^^^ d' n = 0 := by
    cases t with
    | zero => exact fun n => hL.1 n (by omega)
    | succ t =>
      exfalso
      have h1 := hL.2.resolve_left (by omega)
      have h2 := hbm.2.resolve_left (by omega)
      have h3 := cv_top (K := k + k') hL.1 hbm.1 (by omega)
      rw [hK, hr _ (by omega), hr' _ (by omega)] at h3
      exact mul_pos (xor_lt (hd t) (hd' t)) (hb m) (by simpa using h1) (by simpa using h2) h3.symm
  have hdd : ∀ n, d n = d' n := fun n => by
    have := hz n
    have e : d n = (d n ^^^ d' n) ^^^ d' n := by rw [Nat.xor_assoc, Nat.xor_self, Nat.xor_zero]
    rw [e, this, Nat.zero_xor]
  refine ⟨hdd, fun n => ?_⟩
  have := hK n
  rw [cv_zero hz] at this
  have e : r n = (r n ^^^ r' n) ^^^ r' n := by rw [Nat.xor_assoc, Nat.xor_self, Nat.xor_zero]
  rw [e, ← this, Nat.zero_xor]

/-- what is left of a polynomial by a place of its. -/
def sy (p : Nat → Nat) (r n j : Nat) : Nat := ev (fun i => p (j + 1 + i)) r (n - j)
theorem sy_by {p : Nat → Nat} {r : Nat} (hp : By p) (hr : r < 256) (n : Nat) : By (sy p r n) := fun _ => ev_lt (fun _ => hp _) hr _
theorem xor_cancel {a b : Nat} (h : a ^^^ b = 0) : a = b := by
  have e : a = (a ^^^ b) ^^^ b := by rw [Nat.xor_assoc, Nat.xor_self, Nat.xor_zero]
  rw [e, h, Nat.zero_xor]
theorem sy_eq {x r : Nat} (hx : x < 256) (hr : r < 256) : ∀ (n : Nat) (p : Nat → Nat), By p → ev p x (n + 1) ^^^ ev p r (n + 1) = mul (x ^^^ r) (ev (sy p r n) x n)
  | 0, p, hp => by
    rw [ev_first hp hx, ev_first hp hr]
    show p 0 ^^^ mul 0 x ^^^ (p 0 ^^^ mul 0 r) = mul _ 0
    rw [zero_mul, zero_mul, mul_zero, Nat.xor_self]
  | m + 1, p, hp => by
    have hp' : By (fun i => p (i + 1)) := fun i => hp _
    have ih := sy_eq hx hr m _ hp'
    rw [ev_first hp hx, ev_first hp hr, ev_first (sy_by hp hr _) hx]
    have e1 : sy p r (m + 1) 0 = ev (fun i => p (i + 1)) r (m + 1) := ev_congr r _ fun i _ => by show p (0 + 1 + i) = p (i + 1); rw [show 0 + 1 + i = i + 1 by omega]
    have e2 : ev (fun i => sy p r (m + 1) (i + 1)) x m = ev (sy (fun i => p (i + 1)) r m) x m := ev_congr x m fun j _ => by
      show ev (fun i => p (j + 1 + 1 + i)) r (m + 1 - (j + 1)) = ev (fun i => p (j + 1 + i + 1)) r (m - j)
      rw [show m + 1 - (j + 1) = m - j by omega]
      exact ev_congr r _ fun i _ => by rw [show j + 1 + 1 + i = j + 1 + i + 1 by omega]
    rw [e1, e2]
    have hA := ev_lt hp' hx (m + 1)
    have hB := ev_lt hp' hr (m + 1)
    have hC := ev_lt (sy_by hp' hr m) hx m
    generalize ev (fun i => p (i + 1)) x (m + 1) = A at *
    generalize ev (fun i => p (i + 1)) r (m + 1) = B at *
    generalize ev (sy (fun i => p (i + 1)) r m) x m = C at *
    have hxr := xor_lt hx hr
    have hA' : A = mul (x ^^^ r) C ^^^ B := by rw [← ih, Nat.xor_assoc, Nat.xor_self, Nat.xor_zero]
    rw [show p 0 ^^^ mul A x ^^^ (p 0 ^^^ mul B r) = (p 0 ^^^ p 0) ^^^ (mul A x ^^^ mul B r) from by ac_rfl, Nat.xor_self, Nat.zero_xor]
    rw [hA', xor_mul (mul_lt hxr hC) hB hx, mul_xor, ← mul_assoc hxr hC hx]
    rw [Nat.xor_assoc, ← mul_xor, mul_comm hB hxr, Nat.xor_comm]
theorem sy_step {p : Nat → Nat} {r : Nat} (hp : By p) (hr : r < 256) {n j : Nat} (hj : j < n) : sy p r n j = p (j + 1) ^^^ mul (sy p r n (j + 1)) r := by
  unfold sy
  rw [show n - j = (n - (j + 1)) + 1 by omega, ev_first (fun i => hp _) hr]
  show p (j + 1 + 0) ^^^ _ = _
  congr 2
  exact ev_congr r _ fun i _ => by rw [show j + 1 + (i + 1) = j + 1 + 1 + i by omega]

/-- one that is 0 at as many places as it has coefficients is none. -/
theorem roots : ∀ (n : Nat) (p : Nat → Nat) (rs : List Nat), By p → rs.Nodup → (∀ r ∈ rs, r < 256) → n ≤ rs.length → (∀ r ∈ rs, ev p r n = 0) → ∀ i, i < n → p i = 0
  | 0, _, _, _, _, _, _, _, _, h => by omega
  | n + 1, p, [], _, _, _, h, _, _, _ => by simp at h
  | n + 1, p, r :: rs, hp, hnd, hlt, hlen, hz, i, hi => by
    have hr := hlt r (by simp)
    have hnd' := List.nodup_cons.1 hnd
    have hpr := hz r (by simp)
    have hq : ∀ j, j < n → sy p r n j = 0 := roots n (sy p r n) rs (sy_by hp hr n) hnd'.2 (fun s hs => hlt s (by simp [hs])) (by simpa using hlen) (fun s hs => by
      have hs' := hlt s (by simp [hs])
      have h1 := sy_eq hs' hr n p hp
      rw [hpr, hz s (by simp [hs])] at h1
      have hne : s ^^^ r ≠ 0 := fun h => hnd'.1 (by rw [← xor_cancel h]; exact hs)
      exact Decidable.byContradiction fun hh => mul_pos (xor_lt hs' hr) (ev_lt (sy_by hp hr n) hs' n) hne hh h1.symm)
    have hqn : ∀ j, sy p r n j = 0 := fun j => by
      rcases Nat.lt_or_ge j n with h | h
      · exact hq j h
      · unfold sy; rw [show n - j = 0 by omega]; rfl
    have hpp : ∀ j, j < n → p (j + 1) = 0 := fun j hj => by
      have := sy_step hp hr hj
      rw [hqn, hqn, zero_mul, Nat.xor_zero] at this
      exact this.symm
    cases i with
    | succ j => exact hpp j (by omega)
    | zero =>
      rw [ev_first hp hr] at hpr
      have : ev (fun i => p (i + 1)) r n = 0 := xsum_zero n fun j hj => by
        show mul (p (j + 1)) _ = 0
        rw [hpp j hj, zero_mul]
      rw [this, zero_mul, Nat.xor_zero] at hpr
      exact hpr
/-- through points there is one polynomial. -/
theorem through_uniq {p q : Nat → Nat} {rs : List Nat} (hp : By p) (hq : By q) (hnd : rs.Nodup) (hlt : ∀ r ∈ rs, r < 256) (hpu : Up p rs.length) (hqu : Up q rs.length)
    (h : ∀ r ∈ rs, ev p r rs.length = ev q r rs.length) : ∀ i, p i = q i := fun i => by
  refine xor_cancel ?_
  rcases Nat.lt_or_ge i rs.length with hi | hi
  · exact roots rs.length (fun i => p i ^^^ q i) rs (fun i => xor_lt (hp i) (hq i)) hnd hlt (Nat.le_refl _) (fun r hr => by
      rw [ev_xor hp hq (hlt r hr), h r hr, Nat.xor_self]) i hi
  · rw [hpu i hi, hqu i hi]; rfl
end Go.Proofs.Ytjnfghhochcpaaa.Pf
