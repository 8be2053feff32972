/-
  Matrices over bytes: plain facts, no program in sight. A matrix is a function of two places; its sizes are told beside it.
-/
import Derived.Test.YtjnfghhochcpaaaPf
namespace Go.Proofs.Ytjnfghhochcpaaa.Mt
open Gf Pf

/-- all are bytes. -/
def Bm (M : Nat → Nat → Nat) : Prop := ∀ i j, M i j < 256
/-- the unit. -/
def dl (i j : Nat) : Nat := if i = j then 1 else 0
theorem dl_lt : Bm dl := fun i j => by unfold dl; split <;> omega
theorem dl_same (i : Nat) : dl i i = 1 := if_pos rfl
theorem dl_ne {i j : Nat} (h : i ≠ j) : dl i j = 0 := if_neg h
/-- the product, over n places. -/
def mm (n : Nat) (A B : Nat → Nat → Nat) (i j : Nat) : Nat := xsum (fun k => mul (A i k) (B k j)) n
theorem mm_lt {A B : Nat → Nat → Nat} (hA : Bm A) (hB : Bm B) (n : Nat) : Bm (mm n A B) := fun i j => xsum_lt n fun k _ => mul_lt (hA i k) (hB k j)
theorem mm_congr {A A' B B' : Nat → Nat → Nat} {n i j : Nat} (h1 : ∀ k, k < n → A i k = A' i k) (h2 : ∀ k, k < n → B k j = B' k j) : mm n A B i j = mm n A' B' i j :=
  xsum_congr n fun k hk => by rw [h1 k hk, h2 k hk]
theorem xsum_swap (f : Nat → Nat → Nat) (m : Nat) : ∀ n, xsum (fun i => xsum (fun j => f i j) m) n = xsum (fun j => xsum (fun i => f i j) n) m
  | 0 => (xsum_zero m fun _ _ => rfl).symm
  | n + 1 => by
    show xsum _ n ^^^ xsum (fun j => f n j) m = xsum (fun j => xsum (fun i => f i j) n ^^^ f n j) m
    rw [xsum_swap f m n, xsum_xor]
theorem mm_assoc {A B C : Nat → Nat → Nat} (hA : Bm A) (hB : Bm B) (hC : Bm C) (n m i j : Nat) : mm m (mm n A B) C i j = mm n A (mm m B C) i j := by
  unfold mm
  have e1 : xsum (fun k => mul (xsum (fun k' => mul (A i k') (B k' k)) n) (C k j)) m = xsum (fun k => xsum (fun k' => mul (A i k') (mul (B k' k) (C k j))) n) m :=
    xsum_congr m fun k _ => by
      rw [xsum_mul (hC k j) n (fun k' _ => mul_lt (hA i k') (hB k' k))]
      exact xsum_congr n fun k' _ => (mul_assoc (hA i k') (hB k' k) (hC k j)).symm
  rw [e1, xsum_swap]
  exact xsum_congr n fun k' _ => (mul_xsum _ _ m).symm
theorem mm_one {B : Nat → Nat → Nat} (hB : Bm B) {n i j : Nat} (hi : i < n) : mm n dl B i j = B i j := by
  unfold mm
  rw [xsum_one (j := i) n hi (fun k _ hne => by rw [dl_ne (fun h => hne h.symm), zero_mul]), dl_same, mul_one _ (hB i j)]
theorem one_mm {A : Nat → Nat → Nat} (hA : Bm A) {n i j : Nat} (hj : j < n) : mm n A dl i j = A i j := by
  unfold mm
  rw [xsum_one (j := j) n hj (fun k _ hne => by rw [dl_ne hne, mul_zero]), dl_same, mul_one' (hA i j)]
theorem mm_zero {A B : Nat → Nat → Nat} {n i j : Nat} (h : ∀ k, k < n → A i k = 0) : mm n A B i j = 0 := xsum_zero n fun k hk => by rw [h k hk, zero_mul]
theorem mm_less {A B : Nat → Nat → Nat} {n m i j : Nat} (hmn : m ≤ n) (h : ∀ k, m ≤ k → k < n → B k j = 0) : mm n A B i j = mm m A B i j :=
  xsum_le hmn fun k h1 h2 => by rw [h k h1 h2, mul_zero]

/-- each the other's inverse. -/
structure Two (h : Nat) (T S : Nat → Nat → Nat) : Prop where
  bt : Bm T
  bs : Bm S
  ts : ∀ i j, i < h → j < h → mm h T S i j = dl i j
  st : ∀ i j, i < h → j < h → mm h S T i j = dl i j
theorem Two.one (h : Nat) : Two h dl dl := ⟨dl_lt, dl_lt, fun _ _ hi _ => mm_one dl_lt hi, fun _ _ hi _ => mm_one dl_lt hi⟩
theorem four {h : Nat} {A B C D : Nat → Nat → Nat} (hA : Bm A) (hB : Bm B) (hC : Bm C) (hD : Bm D) (h1 : ∀ i j, i < h → j < h → mm h B C i j = dl i j) (h2 : ∀ i j, i < h → j < h → mm h A D i j = dl i j) {i j : Nat} (hi : i < h) (hj : j < h) :
    mm h (mm h A B) (mm h C D) i j = dl i j := by
  rw [mm_assoc hA hB (mm_lt hC hD h), mm_congr (A' := A) (B' := D) (fun _ _ => rfl) (fun k hk => ?_)]
  · exact h2 i j hi hj
  · rw [← mm_assoc hB hC hD, mm_congr (A' := dl) (B' := D) (fun m hm => h1 k m hk hm) (fun _ _ => rfl), mm_one hD hk]
theorem Two.mul {h : Nat} {T S T' S' : Nat → Nat → Nat} (a : Two h T S) (b : Two h T' S') : Two h (mm h T' T) (mm h S S') :=
  ⟨mm_lt b.bt a.bt h, mm_lt a.bs b.bs h, fun _ _ hi hj => four b.bt a.bt a.bs b.bs a.ts b.ts hi hj, fun _ _ hi hj => four a.bs b.bs b.bt a.bt b.st a.st hi hj⟩

/-- the rows of the one are sums of the other's, and back. -/
def Rw (h : Nat) (M M' : Nat → Nat → Nat) : Prop := ∃ T S, Two h T S ∧ ∀ i j, i < h → M' i j = mm h T M i j
theorem Rw.refl {h : Nat} {M : Nat → Nat → Nat} (hM : Bm M) : Rw h M M := ⟨dl, dl, Two.one h, fun _ _ hi => (mm_one hM hi).symm⟩
theorem Rw.trans {h : Nat} {M M' M'' : Nat → Nat → Nat} (hM : Bm M) (a : Rw h M M') (b : Rw h M' M'') : Rw h M M'' := by
  obtain ⟨T, S, t, e⟩ := a
  obtain ⟨T', S', t', e'⟩ := b
  refine ⟨_, _, t.mul t', fun i j hi => ?_⟩
  rw [e' i j hi, mm_assoc t'.bt t.bt hM]
  exact mm_congr (fun _ _ => rfl) fun k hk => e k j hk

/-- two rows in each other's place. -/
def swp (M : Nat → Nat → Nat) (p l i j : Nat) : Nat := if i = l then M p j else if i = p then M l j else M i j
/-- which row comes where. -/
def tau (p l i : Nat) : Nat := if i = l then p else if i = p then l else i
theorem swp_tau (M : Nat → Nat → Nat) (p l i j : Nat) : swp M p l i j = M (tau p l i) j := by unfold swp tau; split <;> (try split) <;> rfl
theorem tau_tau (p l i : Nat) : tau p l (tau p l i) = i := by unfold tau; split <;> (try split) <;> (try split) <;> omega
theorem tau_lt {p l i h : Nat} (hp : p < h) (hl : l < h) (hi : i < h) : tau p l i < h := by unfold tau; split <;> (try split) <;> omega
theorem swp_bm {M : Nat → Nat → Nat} (hM : Bm M) (p l : Nat) : Bm (swp M p l) := fun i j => by rw [swp_tau]; exact hM _ _
theorem sw_mm {M : Nat → Nat → Nat} (hM : Bm M) {p l h i j : Nat} (hp : p < h) (hl : l < h) (hi : i < h) : mm h (fun i k => dl (tau p l i) k) M i j = M (tau p l i) j := by
  have := mm_one hM (i := tau p l i) (j := j) (tau_lt hp hl hi)
  rw [← this]; rfl
theorem rw_swp {M : Nat → Nat → Nat} (hM : Bm M) {p l h : Nat} (hp : p < h) (hl : l < h) : Rw h M (swp M p l) := by
  have hb : Bm (fun i k => dl (tau p l i) k) := fun i k => dl_lt _ _
  have hs : ∀ i j, i < h → j < h → mm h (fun i k => dl (tau p l i) k) (fun i k => dl (tau p l i) k) i j = dl i j := fun i j hi hj => by
    rw [sw_mm hb hp hl hi, tau_tau]
  exact ⟨_, _, ⟨hb, hb, hs, hs⟩, fun i j hi => by rw [swp_tau, sw_mm hM hp hl hi]⟩

/-- the inverse of a byte; 0 of 0. -/
def iv (b : Nat) : Nat := if b = 0 then 0 else pwr b (-1)
theorem iv_lt (b : Nat) : iv b < 256 := by unfold iv; split; omega; exact pwr_lt _ _
theorem iv_mul {b : Nat} (hb : b < 256) (h0 : b ≠ 0) : mul (iv b) b = 1 := by unfold iv; rw [if_neg h0]; exact mul_inv hb h0
theorem mul_iv {b : Nat} (hb : b < 256) (h0 : b ≠ 0) : mul b (iv b) = 1 := by rw [mul_comm hb (iv_lt b)]; exact iv_mul hb h0
/-- the unit, but for a column. -/
def el (l : Nat) (v : Nat → Nat) (i k : Nat) : Nat := if k = l then v i else dl i k
theorem el_bm {l : Nat} {v : Nat → Nat} (hv : ∀ i, v i < 256) : Bm (el l v) := fun i k => by unfold el; split; exact hv i; exact dl_lt i k
theorem el_mm {l h : Nat} {v : Nat → Nat} {M : Nat → Nat → Nat} (hM : Bm M) (hl : l < h) {i j : Nat} (hi : i < h) : mm h (el l v) M i j = if i = l then mul (v l) (M l j) else M i j ^^^ mul (v i) (M l j) := by
  have e : ∀ k, mul (el l v i k) (M k j) = (if k = l then mul (v i) (M l j) else 0) ^^^ (if k = i then (if i = l then 0 else M i j) else 0) := fun k => by
    unfold el
    by_cases h1 : k = l
    · subst h1
      rw [if_pos rfl, if_pos rfl]
      by_cases h2 : k = i
      · subst h2; rw [if_pos rfl, if_pos rfl, Nat.xor_zero]
      · rw [if_neg h2, Nat.xor_zero]
    · rw [if_neg h1, if_neg h1, Nat.zero_xor]
      by_cases h2 : k = i
      · subst h2; rw [if_pos rfl, if_neg h1, dl_same, mul_one _ (hM _ _)]
      · rw [if_neg h2, dl_ne (fun h => h2 h.symm), zero_mul]
  unfold mm
  rw [xsum_congr h (fun k _ => e k), xsum_xor, xsum_one (j := l) h hl (fun k _ hne => if_neg hne), if_pos rfl, xsum_one (j := i) h hi (fun k _ hne => if_neg hne), if_pos rfl]
  by_cases h1 : i = l
  · rw [if_pos h1, if_pos h1, Nat.xor_zero, h1]
  · rw [if_neg h1, if_neg h1, Nat.xor_comm]
theorem el_el {l h : Nat} {v u : Nat → Nat} (hu : ∀ i, u i < 256) (hl : l < h) (h1 : mul (v l) (u l) = 1) (h2 : ∀ i, i ≠ l → u i ^^^ mul (v i) (u l) = 0) {i j : Nat} (hi : i < h) : mm h (el l v) (el l u) i j = dl i j := by
  rw [el_mm (el_bm hu) hl hi]
  by_cases e : i = l
  · subst e
    rw [if_pos rfl]
    unfold el
    by_cases e2 : j = i
    · subst e2; rw [if_pos rfl, h1, dl_same]
    · rw [if_neg e2, dl_ne (fun h => e2 h.symm), mul_zero]
  · rw [if_neg e]
    unfold el
    by_cases e2 : j = l
    · subst e2; rw [if_pos rfl, if_pos rfl, h2 i e, dl_ne e]
    · rw [if_neg e2, if_neg e2, dl_ne (i := l) (fun h => e2 h.symm), mul_zero, Nat.xor_zero]
/-- a row leads: the byte in the column c of the row l made 1, and in all others 0. -/
def ldd (M : Nat → Nat → Nat) (l c i j : Nat) : Nat := if i = l then mul (M l j) (iv (M l c)) else M i j ^^^ mul (mul (M l j) (iv (M l c))) (M i c)
theorem ldd_bm {M : Nat → Nat → Nat} (hM : Bm M) (l c : Nat) : Bm (ldd M l c) := fun i j => by
  unfold ldd; split
  · exact mul_lt (hM _ _) (iv_lt _)
  · exact xor_lt (hM _ _) (mul_lt (mul_lt (hM _ _) (iv_lt _)) (hM _ _))
theorem rw_ldd {M : Nat → Nat → Nat} (hM : Bm M) {l c h : Nat} (hl : l < h) (h0 : M l c ≠ 0) : Rw h M (ldd M l c) := by
  have hi := iv_lt (M l c)
  have hb := hM l c
  have hv : ∀ i, (if i = l then iv (M l c) else mul (M i c) (iv (M l c))) < 256 := fun i => by split; exact hi; exact mul_lt (hM _ _) hi
  have hu : ∀ i, (if i = l then M l c else M i c) < 256 := fun i => by split <;> exact hM _ _
  refine ⟨el l (fun i => if i = l then iv (M l c) else mul (M i c) (iv (M l c))), el l (fun i => if i = l then M l c else M i c), ⟨el_bm hv, el_bm hu, fun i j h1 _ => el_el hu hl ?_ (fun i e => ?_) h1, fun i j h1 _ => el_el hv hl ?_ (fun i e => ?_) h1⟩, fun i j h1 => ?_⟩
  · show mul (if l = l then _ else _) (if l = l then _ else _) = 1
    rw [if_pos rfl, if_pos rfl, iv_mul hb h0]
  · show (if i = l then _ else _) ^^^ mul (if i = l then _ else _) (if l = l then _ else _) = 0
    rw [if_neg e, if_neg e, if_pos rfl, ← mul_assoc (hM i c) hi hb, iv_mul hb h0, mul_one' (hM i c), Nat.xor_self]
  · show mul (if l = l then _ else _) (if l = l then _ else _) = 1
    rw [if_pos rfl, if_pos rfl, mul_iv hb h0]
  · show (if i = l then _ else _) ^^^ mul (if i = l then _ else _) (if l = l then _ else _) = 0
    rw [if_neg e, if_neg e, if_pos rfl, Nat.xor_self]
  · rw [el_mm hM hl h1]
    show (if i = l then _ else _) = (if i = l then mul (if l = l then _ else _) _ else _ ^^^ mul (if i = l then _ else _) _)
    by_cases e : i = l
    · rw [if_pos e, if_pos e, if_pos rfl, mul_comm (hM l j) hi]
    · rw [if_neg e, if_neg e, if_neg e, mul_comm (mul_lt (hM l j) hi) (hM i c), mul_comm (hM l j) hi, mul_assoc (hM i c) hi (hM l j)]

/-- the first place from l on, of so many, at which something else than 0 stands; the end, if there is none. -/
def pvk (f : Nat → Nat) : Nat → Nat → Nat
  | 0, l => l
  | k + 1, l => if f l = 0 then pvk f k (l + 1) else l
def pv (f : Nat → Nat) (l h : Nat) : Nat := pvk f (h - l) l
theorem pvk_spec (f : Nat → Nat) : ∀ k l, l ≤ pvk f k l ∧ pvk f k l ≤ l + k ∧ (∀ j, l ≤ j → j < pvk f k l → f j = 0) ∧ (pvk f k l = l + k ∨ f (pvk f k l) ≠ 0)
  | 0, l => ⟨Nat.le_refl _, Nat.le_refl _, fun j h1 h2 => by have : pvk f 0 l = l := rfl; omega, Or.inl rfl⟩
  | k + 1, l => by
    unfold pvk
    by_cases h : f l = 0
    · rw [if_pos h]
      obtain ⟨a, b, c, d⟩ := pvk_spec f k (l + 1)
      refine ⟨by omega, by omega, fun j h1 h2 => ?_, ?_⟩
      · by_cases e : j = l
        · rw [e]; exact h
        · exact c j (by omega) h2
      · rcases d with d | d
        · left; omega
        · exact Or.inr d
    · rw [if_neg h]
      exact ⟨Nat.le_refl _, by omega, fun j h1 h2 => by omega, Or.inr h⟩
theorem pv_spec {f : Nat → Nat} {l h : Nat} (hl : l ≤ h) : l ≤ pv f l h ∧ pv f l h ≤ h ∧ (∀ j, l ≤ j → j < pv f l h → f j = 0) ∧ (pv f l h = h ∨ f (pv f l h) ≠ 0) := by
  have := pvk_spec f (h - l) l
  rw [show l + (h - l) = h by omega] at this
  exact this
theorem pv_eq {f : Nat → Nat} {l h i : Nat} (h1 : l ≤ i) (h2 : i ≤ h) (h3 : ∀ j, l ≤ j → j < i → f j = 0) (h4 : i = h ∨ f i ≠ 0) : pv f l h = i := by
  obtain ⟨a, b, c, d⟩ := pv_spec (f := f) (l := l) (h := h) (by omega)
  rcases Nat.lt_trichotomy (pv f l h) i with g | g | g
  · rcases d with d | d
    · omega
    · exact absurd (h3 _ a g) d
  · exact g
  · rcases h4 with h4 | h4
    · omega
    · exact absurd (c i h1 g) h4
theorem pv_congr {f g : Nat → Nat} {l h : Nat} (hl : l ≤ h) (e : ∀ i, i < h → f i = g i) : pv f l h = pv g l h := by
  obtain ⟨a, b, c, d⟩ := pv_spec (f := g) hl
  refine pv_eq a b (fun j h1 h2 => by rw [e j (by omega)]; exact c j h1 h2) ?_
  rcases d with d | d
  · exact Or.inl d
  · by_cases hh : pv g l h = h
    · exact Or.inl hh
    · right; rw [e _ (by omega)]; exact d

/-- one column gone through: how many rows lead, and the rows. -/
def stp (h c : Nat) (s : Nat × (Nat → Nat → Nat)) : Nat × (Nat → Nat → Nat) :=
  if pv (fun i => s.2 i c) s.1 h = h then s else (s.1 + 1, ldd (swp s.2 (pv (fun i => s.2 i c) s.1 h) s.1) s.1 c)
/-- the first columns gone through. -/
def gj (h : Nat) (M : Nat → Nat → Nat) : Nat → Nat × (Nat → Nat → Nat)
  | 0 => (0, M)
  | c + 1 => stp h c (gj h M c)
theorem stp_no {h c : Nat} {s : Nat × (Nat → Nat → Nat)} (e : pv (fun i => s.2 i c) s.1 h = h) : stp h c s = s := if_pos e
theorem stp_yes {h c p : Nat} {s : Nat × (Nat → Nat → Nat)} (e : pv (fun i => s.2 i c) s.1 h = p) (hp : p ≠ h) : stp h c s = (s.1 + 1, ldd (swp s.2 p s.1) s.1 c) := by
  unfold stp; rw [e, if_neg hp]
/-- columns with noughts alone from the leading rows on stay. -/
theorem ldd_keep {M : Nat → Nat → Nat} {p l h c : Nat} (hlp : l ≤ p) (hp : p < h) {j : Nat} (hz : ∀ i, l ≤ i → i < h → M i j = 0) {i : Nat} : ldd (swp M p l) l c i j = M i j := by
  have hs : ∀ i, swp M p l i j = M i j := fun i => by
    unfold swp
    by_cases e : i = l
    · rw [if_pos e, hz p hlp hp, e, hz l (Nat.le_refl _) (by omega)]
    · rw [if_neg e]
      by_cases e2 : i = p
      · rw [if_pos e2, hz l (Nat.le_refl _) (by omega), e2, hz p hlp hp]
      · rw [if_neg e2]
  unfold ldd
  rw [hs l, hs i, hz l (Nat.le_refl _) (by omega), zero_mul, zero_mul, Nat.xor_zero]
  by_cases e : i = l
  · rw [if_pos e, e, hz l (Nat.le_refl _) (by omega)]
  · rw [if_neg e]
theorem stp_keep {h c : Nat} {s : Nat × (Nat → Nat → Nat)} (hl : s.1 ≤ h) {j : Nat} (hz : ∀ i, s.1 ≤ i → i < h → s.2 i j = 0) {i : Nat} : (stp h c s).2 i j = s.2 i j := by
  obtain ⟨a, b, _, _⟩ := pv_spec (f := fun i => s.2 i c) hl
  by_cases e : pv (fun i => s.2 i c) s.1 h = h
  · rw [stp_no e]
  · rw [stp_yes rfl e]; exact ldd_keep a (by omega) hz
theorem ldd_col {M : Nat → Nat → Nat} (hM : Bm M) {l c i : Nat} (h0 : M l c ≠ 0) : ldd M l c i c = dl i l := by
  unfold ldd
  by_cases e : i = l
  · rw [if_pos e, mul_iv (hM _ _) h0, e, dl_same]
  · rw [if_neg e, mul_iv (hM _ _) h0, mul_one _ (hM _ _), Nat.xor_self, dl_ne e]
/-- what is so of the first columns gone through. -/
structure Ech (h c : Nat) (M : Nat → Nat → Nat) (s : Nat × (Nat → Nat → Nat)) : Prop where
  bm : Bm s.2
  lh : s.1 ≤ h
  lc : s.1 ≤ c
  rw : Rw h M s.2
  low : ∀ i j, s.1 ≤ i → i < h → j < c → s.2 i j = 0
  pc : ∃ p : Nat → Nat, ∀ k, k < s.1 → p k < c ∧ ∀ i, i < h → s.2 i (p k) = dl i k
  full : s.1 = c → ∀ i j, i < h → j < c → s.2 i j = dl i j
theorem gj_ech {M : Nat → Nat → Nat} (hM : Bm M) (h : Nat) : ∀ c, Ech h c M (gj h M c)
  | 0 => ⟨hM, Nat.zero_le _, Nat.le_refl _, Rw.refl hM, fun _ _ _ _ hj => absurd hj (Nat.not_lt_zero _), ⟨fun _ => 0, fun _ hk => absurd hk (Nat.not_lt_zero _)⟩, fun _ _ _ _ hj => absurd hj (Nat.not_lt_zero _)⟩
  | c + 1 => by
    have E := gj_ech hM h c
    show Ech h (c + 1) M (stp h c (gj h M c))
    generalize gj h M c = s at E
    obtain ⟨q1, q2, q3, q4⟩ := pv_spec (f := fun i => s.2 i c) E.lh
    by_cases e : pv (fun i => s.2 i c) s.1 h = h
    · rw [stp_no e]
      have := E.lc
      obtain ⟨p, hp⟩ := E.pc
      refine ⟨E.bm, E.lh, by omega, E.rw, fun i j h1 h2 h3 => ?_, ⟨p, fun k hk => ⟨by have := (hp k hk).1; omega, (hp k hk).2⟩⟩, fun hh => by omega⟩
      by_cases ej : j = c
      · rw [ej]; exact q3 i h1 (by omega)
      · exact E.low i j h1 h2 (by omega)
    · have hk : ∀ j, j < c → ∀ i, (stp h c s).2 i j = s.2 i j := fun j hj i => stp_keep E.lh (fun i h1 h2 => E.low i j h1 h2 hj)
      have hplt : pv (fun i => s.2 i c) s.1 h < h := by omega
      have h0 : swp s.2 (pv (fun i => s.2 i c) s.1 h) s.1 s.1 c ≠ 0 := by
        unfold swp; rw [if_pos rfl]
        rcases q4 with q4 | q4
        · omega
        · exact q4
      have hb := swp_bm E.bm (pv (fun i => s.2 i c) s.1 h) s.1
      have hcol : ∀ i, (stp h c s).2 i c = dl i s.1 := fun i => by rw [stp_yes rfl e]; exact ldd_col hb h0
      have h1 : (stp h c s).1 = s.1 + 1 := by rw [stp_yes rfl e]
      have hlc := E.lc
      obtain ⟨p, hp⟩ := E.pc
      refine ⟨by rw [stp_yes rfl e]; exact ldd_bm hb _ _, by omega, by omega, ?_, fun i j g1 g2 g3 => ?_, ⟨fun k => if k = s.1 then c else p k, fun k hk' => ?_⟩, fun hh i j g1 g2 => ?_⟩
      · rw [stp_yes rfl e]
        exact ((E.rw.trans hM (rw_swp E.bm hplt (by omega))).trans hM (rw_ldd hb (by omega) h0))
      · by_cases ej : j = c
        · rw [ej, hcol, dl_ne (by omega)]
        · rw [hk j (by omega)]; exact E.low i j (by omega) g2 (by omega)
      · show (if k = s.1 then c else p k) < c + 1 ∧ ∀ i, i < h → (stp h c s).2 i (if k = s.1 then c else p k) = dl i k
        by_cases ek : k = s.1
        · rw [if_pos ek]; exact ⟨by omega, fun i _ => by rw [hcol, ek]⟩
        · rw [if_neg ek]
          obtain ⟨g1, g2⟩ := hp k (by omega)
          exact ⟨by omega, fun i hi => by rw [hk _ g1]; exact g2 i hi⟩
      · have hs : s.1 = c := by omega
        by_cases ej : j = c
        · rw [ej, hcol, hs]
        · rw [hk j (by omega)]; exact E.full hs i j g1 (by omega)

/-- the rank. -/
def rk (h c : Nat) (M : Nat → Nat → Nat) : Nat := (gj h M c).1
theorem gj_congr {M M' : Nat → Nat → Nat} {h w : Nat} (hM : Bm M) (hM' : Bm M') (e : ∀ i j, i < h → j < w → M i j = M' i j) : ∀ c, c ≤ w → (gj h M c).1 = (gj h M' c).1 ∧ ∀ i j, i < h → j < w → (gj h M c).2 i j = (gj h M' c).2 i j
  | 0, _ => ⟨rfl, e⟩
  | c + 1, hc => by
    obtain ⟨e1, e2⟩ := gj_congr hM hM' e c (by omega)
    have E := gj_ech hM h c
    have E' := gj_ech hM' h c
    show (stp h c (gj h M c)).1 = (stp h c (gj h M' c)).1 ∧ ∀ i j, i < h → j < w → (stp h c (gj h M c)).2 i j = (stp h c (gj h M' c)).2 i j
    generalize gj h M c = s at *
    generalize gj h M' c = s' at *
    have hp : pv (fun i => s.2 i c) s.1 h = pv (fun i => s'.2 i c) s'.1 h := by
      rw [← e1]; exact pv_congr E.lh fun i hi => e2 i c hi (by omega)
    obtain ⟨q1, q2, _, _⟩ := pv_spec (f := fun i => s'.2 i c) E'.lh
    by_cases g : pv (fun i => s'.2 i c) s'.1 h = h
    · rw [stp_no (hp.trans g), stp_no g]; exact ⟨e1, e2⟩
    · have g2 := hp
      rw [stp_yes hp g, stp_yes rfl g]
      refine ⟨by rw [e1], fun i j hi hj => ?_⟩
      have hs : ∀ i j, i < h → j < w → swp s.2 (pv (fun i => s'.2 i c) s'.1 h) s'.1 i j = swp s'.2 (pv (fun i => s'.2 i c) s'.1 h) s'.1 i j := fun i j hi hj => by
        rw [swp_tau, swp_tau]; exact e2 _ _ (tau_lt (by omega) (by omega) hi) hj
      show ldd (swp s.2 _ s.1) s.1 c i j = ldd (swp s'.2 _ s'.1) s'.1 c i j
      rw [e1]
      unfold ldd
      rw [hs i j hi hj, hs s'.1 j (by omega) hj, hs s'.1 c (by omega) (by omega), hs i c hi (by omega)]
theorem rk_congr {M M' : Nat → Nat → Nat} {h w : Nat} (hM : Bm M) (hM' : Bm M') (e : ∀ i j, i < h → j < w → M i j = M' i j) : rk h w M = rk h w M' := (gj_congr hM hM' e w (Nat.le_refl _)).1
theorem rk_le_rows {M : Nat → Nat → Nat} (hM : Bm M) (h w : Nat) : rk h w M ≤ h := (gj_ech hM h w).lh
theorem rk_le_cols {M : Nat → Nat → Nat} (hM : Bm M) (h w : Nat) : rk h w M ≤ w := (gj_ech hM h w).lc

/-- no unit of r rows goes through fewer columns. -/
theorem no_wide {X Y : Nat → Nat → Nat} (hX : Bm X) (hY : Bm Y) {r l : Nat} (h : ∀ i j, i < r → j < r → mm l X Y i j = dl i j) : r ≤ l := by
  rcases Nat.lt_or_ge l r with hlt | hge
  · exfalso
    have E := gj_ech hX r l
    obtain ⟨T, S, t, e⟩ := E.rw
    have hlc := E.lc
    have hz : ∀ j, j < r → T (r - 1) j = 0 := fun j hj => by
      rw [← one_mm t.bt (n := r) (i := r - 1) hj, ← mm_congr (A := T) (B := mm l X Y) (fun _ _ => rfl) (fun k hk => h k j hk hj), ← mm_assoc t.bt hX hY]
      exact mm_zero fun k hk => by
        rw [← e (r - 1) k (by omega)]; exact E.low _ _ (by omega) (by omega) hk
    have := t.ts (r - 1) (r - 1) (by omega) (by omega)
    rw [mm_zero hz, dl_same] at this
    omega
  · exact hge
theorem rk_ge {M P Q : Nat → Nat → Nat} (hM : Bm M) (hP : Bm P) (hQ : Bm Q) {h w r : Nat} (e : ∀ i j, i < r → j < r → mm h P (mm w M Q) i j = dl i j) : r ≤ rk h w M := by
  have E := gj_ech hM h w
  obtain ⟨T, S, t, g⟩ := E.rw
  have hR := E.bm
  refine no_wide (X := mm h P S) (Y := mm w (gj h M w).2 Q) (mm_lt hP t.bs h) (mm_lt hR hQ w) (fun i j hi hj => ?_)
  have hM2 : ∀ i j, i < h → M i j = mm h S (gj h M w).2 i j := fun i j hi => by
    rw [mm_congr (A' := S) (B' := mm h T M) (fun _ _ => rfl) (fun k hk => g k j hk), ← mm_assoc t.bs t.bt hM, mm_congr (A' := dl) (B' := M) (fun k hk => t.st i k hi hk) (fun _ _ => rfl), mm_one hM hi]
  show mm (gj h M w).1 _ _ i j = _
  rw [← mm_less (n := h) E.lh (fun k h1 h2 => mm_zero fun k' hk' => E.low k k' h1 h2 hk'), ← e i j hi hj, mm_assoc hP t.bs (mm_lt hR hQ w)]
  refine mm_congr (fun _ _ => rfl) fun k hk => ?_
  rw [← mm_assoc t.bs hR hQ]
  exact mm_congr (fun m hm => (hM2 k m hk).symm) (fun _ _ => rfl)
theorem rk_through {M : Nat → Nat → Nat} (hM : Bm M) (h w : Nat) : ∃ P Q, Bm P ∧ Bm Q ∧ ∀ i j, i < rk h w M → j < rk h w M → mm h P (mm w M Q) i j = dl i j := by
  have E := gj_ech hM h w
  obtain ⟨T, S, t, g⟩ := E.rw
  obtain ⟨p, hp⟩ := E.pc
  have hQ : Bm (fun k j => dl k (p j)) := fun k j => dl_lt _ _
  have hlh := E.lh
  refine ⟨T, fun k j => dl k (p j), t.bt, hQ, fun i j hi hj => ?_⟩
  unfold rk at hi hj
  rw [← mm_assoc t.bt hM hQ, mm_congr (A := mm h T M) (B := fun k j => dl k (p j)) (A' := (gj h M w).2) (B' := fun k j => dl k (p j)) (fun k hk => (g i k (by omega)).symm) (fun _ _ => rfl)]
  have : mm w (gj h M w).2 (fun k j => dl k (p j)) i j = mm w (gj h M w).2 dl i (p j) := rfl
  rw [this, one_mm E.bm (hp j hj).1]
  exact (hp j hj).2 i (by omega)
theorem rk_mul_left {A B : Nat → Nat → Nat} (hA : Bm A) (hB : Bm B) (h c w : Nat) : rk h w (mm c A B) ≤ rk h c A := by
  obtain ⟨P, Q, hP, hQ, e⟩ := rk_through (mm_lt hA hB c) h w
  refine rk_ge hA hP (mm_lt hB hQ w) fun i j hi hj => ?_
  rw [← e i j hi hj]
  exact mm_congr (fun _ _ => rfl) fun k hk => (mm_assoc hA hB hQ c w k j).symm
theorem rk_mul_right {A B : Nat → Nat → Nat} (hA : Bm A) (hB : Bm B) (h c w : Nat) : rk h w (mm c A B) ≤ rk c w B := by
  obtain ⟨P, Q, hP, hQ, e⟩ := rk_through (mm_lt hA hB c) h w
  refine rk_ge hB (mm_lt hP hA h) hQ fun i j hi hj => ?_
  rw [← e i j hi hj, mm_assoc hP hA (mm_lt hB hQ w)]
  exact mm_congr (fun _ _ => rfl) fun k hk => (mm_assoc hA hB hQ c w k j).symm
/-- with a row that is a sum of the others it stays. -/
theorem rk_more {A A' : Nat → Nat → Nat} (hA : Bm A) (hA' : Bm A') {h w : Nat} {v : Nat → Nat} (hv : ∀ k, v k < 256) (e : ∀ i j, i < h → j < w → A' i j = A i j) (en : ∀ j, j < w → A' h j = xsum (fun k => mul (v k) (A k j)) h) : rk (h + 1) w A' = rk h w A := by
  have hE : Bm (fun i k => if i < h then dl i k else v k) := fun i k => by
    show (if i < h then _ else _) < 256
    split
    · exact dl_lt _ _
    · exact hv k
  have e1 : rk (h + 1) w A' = rk (h + 1) w (mm h (fun i k => if i < h then dl i k else v k) A) := rk_congr hA' (mm_lt hE hA h) fun i j hi hj => by
    by_cases c : i < h
    · rw [e i j c hj, ← mm_one hA (n := h) (j := j) c]
      exact mm_congr (fun k _ => (if_pos c).symm) (fun _ _ => rfl)
    · obtain rfl : i = h := by omega
      rw [en j hj]
      exact xsum_congr i fun k _ => congrArg (fun z => mul z (A k j)) (if_neg c).symm
  have e2 : rk h w A = rk h w (mm (h + 1) dl A') := rk_congr hA (mm_lt dl_lt hA' _) fun i j hi hj => by
    rw [mm_one hA' (by omega), e i j hi hj]
  have l1 := rk_mul_right hE hA (h + 1) h w
  have l2 := rk_mul_right dl_lt hA' h (h + 1) w
  omega

/-- a matrix with the unit behind it. -/
def wu (A : Nat → Nat → Nat) (n i j : Nat) : Nat := if j < n then A i j else dl i (j - n)
theorem wu_bm {A : Nat → Nat → Nat} (hA : Bm A) (n : Nat) : Bm (wu A n) := fun i j => by unfold wu; split; exact hA _ _; exact dl_lt _ _
theorem wu_lo {A : Nat → Nat → Nat} {n i j : Nat} (h : j < n) : wu A n i j = A i j := if_pos h
theorem wu_hi {A : Nat → Nat → Nat} {n i j : Nat} : wu A n i (n + j) = dl i j := by unfold wu; rw [if_neg (by omega), show n + j - n = j by omega]
/-- the inverse. -/
def inv (A : Nat → Nat → Nat) (n i j : Nat) : Nat := (gj n (wu A n) n).2 i (n + j)
theorem inv_bm {A : Nat → Nat → Nat} (hA : Bm A) (n : Nat) : Bm (inv A n) := fun _ _ => (gj_ech (wu_bm hA n) n n).bm _ _
theorem rk_wu {A : Nat → Nat → Nat} (hA : Bm A) (n : Nat) : rk n n (wu A n) = rk n n A := rk_congr (wu_bm hA n) hA fun _ _ _ hj => wu_lo hj
theorem inv_two {A : Nat → Nat → Nat} (hA : Bm A) {n : Nat} (h : rk n n A = n) : Two n (inv A n) A := by
  have E := gj_ech (wu_bm hA n) n n
  obtain ⟨T, S, t, g⟩ := E.rw
  have hf := E.full ((rk_wu hA n).trans h)
  have hT : ∀ i j, i < n → j < n → inv A n i j = T i j := fun i j hi hj => by
    unfold inv
    rw [g i _ hi, ← one_mm t.bt (n := n) (i := i) hj]
    show mm n T (fun k j => wu A n k (n + j)) i j = _
    exact mm_congr (fun _ _ => rfl) fun k _ => wu_hi
  have hTA : ∀ i j, i < n → j < n → mm n T A i j = dl i j := fun i j hi hj => by
    rw [← hf i j hi hj, g i j hi]
    exact mm_congr (fun _ _ => rfl) fun k _ => (wu_lo hj).symm
  have hS : ∀ i j, i < n → j < n → A i j = S i j := fun i j hi hj => by
    rw [← one_mm t.bs (n := n) (i := i) hj, ← mm_congr (A := S) (B := mm n T A) (fun _ _ => rfl) (fun k hk => hTA k j hk hj), ← mm_assoc t.bs t.bt hA,
      mm_congr (A' := dl) (B' := A) (fun k hk => t.st i k hi hk) (fun _ _ => rfl), mm_one hA hi]
  refine ⟨inv_bm hA n, hA, fun i j hi hj => ?_, fun i j hi hj => ?_⟩
  · rw [mm_congr (A' := T) (B' := A) (fun k hk => hT i k hi hk) (fun _ _ => rfl)]; exact hTA i j hi hj
  · rw [mm_congr (A' := S) (B' := T) (fun k hk => hS i k hi hk) (fun k hk => hT k j hk hj)]; exact t.st i j hi hj
theorem rk_two {A B : Nat → Nat → Nat} {n : Nat} (t : Two n A B) : rk n n A = n := by
  refine Nat.le_antisymm (rk_le_rows t.bt n n) (rk_ge t.bt dl_lt t.bs (P := dl) (Q := B) fun i j hi hj => ?_)
  rw [mm_one (mm_lt t.bt t.bs n) hi]; exact t.ts i j hi hj
theorem two_uniq {A B C : Nat → Nat → Nat} {n : Nat} (t : Two n B A) (u : Two n C A) {i j : Nat} (hi : i < n) (hj : j < n) : B i j = C i j := by
  rw [← one_mm t.bt (n := n) (i := i) hj, ← mm_congr (A := B) (B := mm n A C) (fun _ _ => rfl) (fun k hk => u.st k j hk hj), ← mm_assoc t.bt t.bs u.bt,
    mm_congr (A' := dl) (B' := C) (fun k hk => t.ts i k hi hk) (fun _ _ => rfl), mm_one u.bt hi]
theorem Two.turn {A B : Nat → Nat → Nat} {n : Nat} (t : Two n A B) : Two n B A := ⟨t.bs, t.bt, t.st, t.ts⟩
theorem inv_inv {A : Nat → Nat → Nat} (hA : Bm A) {n : Nat} (h : rk n n A = n) {i j : Nat} (hi : i < n) (hj : j < n) : inv (inv A n) n i j = A i j :=
  two_uniq (inv_two (inv_bm hA n) (rk_two (inv_two hA h))) (inv_two hA h).turn hi hj
theorem inv_congr {A A' : Nat → Nat → Nat} (hA : Bm A) (hA' : Bm A') {n : Nat} (e : ∀ i j, i < n → j < n → A i j = A' i j) {i j : Nat} (hi : i < n) (hj : j < n) : inv A n i j = inv A' n i j :=
  (gj_congr (wu_bm hA n) (wu_bm hA' n) (w := n + n) (fun i j hi _ => by
    unfold wu
    by_cases h : j < n
    · rw [if_pos h, if_pos h, e i j hi h]
    · rw [if_neg h, if_neg h]) n (by omega)).2 i (n + j) hi (by omega)
end Go.Proofs.Ytjnfghhochcpaaa.Mt
