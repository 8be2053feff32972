import Derived.Test.YtdempjkkahjekaaPg
import Derived.Test.YtdempjkkahjekaaFy
namespace Go.Proofs.Ytdempjkkahjekaa.Pf
open Gf

/-- one step of a division: the quotient, and what is left. -/
def dstep (b : Nat → Nat) (t : Nat) (s : (Nat → Nat) × (Nat → Nat)) (p : Nat) : (Nat → Nat) × (Nat → Nat) :=
  (fun n => if n = p then mul (s.2 (p + t)) (ivN (b t)) else s.1 n, fun n => if p ≤ n then s.2 n ^^^ mul (mul (s.2 (p + t)) (ivN (b t))) (b (n - p)) else s.2 n)
def dfold (b : Nat → Nat) (t : Nat) (f : Nat → Nat) (l : List Nat) : (Nat → Nat) × (Nat → Nat) := l.foldl (dstep b t) (fun _ => 0, f)
theorem dfold_snoc (b : Nat → Nat) (t : Nat) (f : Nat → Nat) (l : List Nat) (p : Nat) : dfold b t f (l ++ [p]) = dstep b t (dfold b t f l) p := by simp [dfold]
theorem dstep_by {b : Nat → Nat} {t : Nat} {s : (Nat → Nat) × (Nat → Nat)} (hb : By b) (h1 : By s.1) (h2 : By s.2) (p : Nat) : By (dstep b t s p).1 ∧ By (dstep b t s p).2 := by
  have hp := mul_lt (h2 (p + t)) (ivN_lt (b t))
  refine ⟨fun n => ?_, fun n => ?_⟩
  · show (if n = p then _ else _) < 256
    split
    · exact hp
    · exact h1 n
  · show (if p ≤ n then _ else _) < 256
    split
    · exact xor_lt (h2 n) (mul_lt hp (hb _))
    · exact h2 n
theorem dfold_by {b f : Nat → Nat} {t : Nat} (hb : By b) (hf : By f) (l : List Nat) : By (dfold b t f l).1 ∧ By (dfold b t f l).2 := by
  have : ∀ (l : List Nat) (s : (Nat → Nat) × (Nat → Nat)), By s.1 → By s.2 → By (l.foldl (dstep b t) s).1 ∧ By (l.foldl (dstep b t) s).2 := by
    intro l
    induction l with
    | nil => exact fun s h1 h2 => ⟨h1, h2⟩
    | cons p l ih =>
      intro s h1 h2
      have := dstep_by hb h1 h2 (t := t) p
      exact ih _ this.1 this.2
  exact this l _ (fun _ => by show 0 < 256; omega) hf
/-- a row, in the midst of it. -/
def rmid (r : Nat → Nat) (p part : Nat) (b : Nat → Nat) (i n : Nat) : Nat := if p ≤ n ∧ n < p + i then r n ^^^ mul part (b (n - p)) else r n
theorem rmid_0 (r : Nat → Nat) (p part : Nat) (b : Nat → Nat) (n : Nat) : r n = rmid r p part b 0 n := by unfold rmid; rw [if_neg (by omega)]
theorem rmid_at (r : Nat → Nat) (p part : Nat) (b : Nat → Nat) (i : Nat) : rmid r p part b i (p + i) = r (p + i) := by unfold rmid; rw [if_neg (by omega)]
theorem rmid_s (r : Nat → Nat) (p part : Nat) (b : Nat → Nat) (i n : Nat) : (if n = p + i then r (p + i) ^^^ mul part (b i) else rmid r p part b i n) = rmid r p part b (i + 1) n := by
  unfold rmid
  by_cases e : n = p + i
  · subst e
    rw [if_pos rfl, if_pos ⟨by omega, by omega⟩, Nat.add_sub_cancel_left]
  · rw [if_neg e]
    by_cases h : p ≤ n ∧ n < p + i
    · rw [if_pos h, if_pos ⟨h.1, by omega⟩]
    · rw [if_neg h, if_neg (by omega)]
theorem rmid_e {b : Nat → Nat} {t : Nat} (hb : Up b (t + 1)) (s : (Nat → Nat) × (Nat → Nat)) (p n : Nat) : rmid s.2 p (mul (s.2 (p + t)) (ivN (b t))) b (t + 1) n = (dstep b t s p).2 n := by
  unfold rmid dstep
  show _ = if p ≤ n then _ else _
  by_cases h : p ≤ n
  · rw [if_pos h]
    by_cases h2 : n < p + (t + 1)
    · rw [if_pos ⟨h, h2⟩]
    · rw [if_neg (by omega), hb (n - p) (by omega), mul_zero, Nat.xor_zero]
  · rw [if_neg h, if_neg (by omega)]
theorem rmid_by {r b : Nat → Nat} {part : Nat} (hr : By r) (hb : By b) (hp : part < 256) (p i : Nat) : By (rmid r p part b i) := fun n => by
  unfold rmid; split
  · exact xor_lt (hr n) (mul_lt hp (hb _))
  · exact hr n
theorem cv_single {b : Nat → Nat} {p c N : Nat} (hp : p < N) (n : Nat) : cv (fun i => if i = p then c else 0) b N n = if p ≤ n then mul c (b (n - p)) else 0 := by
  unfold cv
  rw [xsum_one (j := p) N hp]
  · show (if p ≤ n then mul (if p = p then c else 0) _ else 0) = _
    rw [if_pos rfl]
  · intro i _ hne
    show (if i ≤ n then mul (if i = p then c else 0) _ else 0) = 0
    rw [if_neg hne, zero_mul]; split <;> rfl
theorem ivN_mul {x y : Nat} (hx : x < 256) (hy : y < 256) (h0 : y ≠ 0) : mul (mul x (ivN y)) y = x := by
  rw [← mul_assoc hx (ivN_lt y) hy]
  have : mul (ivN y) y = 1 := by unfold ivN; rw [if_neg h0]; exact mul_inv hy h0
  rw [this, mul_one' hx]

/-- what a division has done when k places are over, from the end. -/
theorem dfold_inv {b f : Nat → Nat} {t N : Nat} (hb : By b) (hf : By f) (hbu : Ln b (t + 1)) (hfu : Up f (N + t)) : ∀ k, k ≤ N → ∀ l : List Nat, l = (List.range k).map (fun j => N - 1 - j) →
    (∀ n, f n = cv (dfold b t f l).1 b N n ^^^ (dfold b t f l).2 n) ∧ (∀ i, i < N - k ∨ N ≤ i → (dfold b t f l).1 i = 0) ∧ (∀ n, N - k + t ≤ n → (dfold b t f l).2 n = 0) ∧ (0 < k → (dfold b t f l).1 (N - 1) = mul (f (N - 1 + t)) (ivN (b t)))
  | 0, _, l, hl => by
    have hl : l = [] := by simpa using hl
    subst hl
    refine ⟨fun n => ?_, fun i _ => rfl, fun n hn => hfu n (by omega), fun h => by omega⟩
    show f n = cv (fun _ => 0) b N n ^^^ f n
    rw [cv_zero (fun _ => rfl), Nat.zero_xor]
  | k + 1, hk, l, hl => by
    rw [List.range_succ, List.map_append] at hl
    obtain ⟨h1, h2, h3, h4⟩ := dfold_inv hb hf hbu hfu k (by omega) _ rfl
    have hby := dfold_by (t := t) hb hf ((List.range k).map (fun j => N - 1 - j))
    obtain ⟨p, hp⟩ : ∃ p, N - 1 - k = p := ⟨_, rfl⟩
    have hp1 : p + k + 1 = N := by omega
    have hl2 : l = (List.range k).map (fun j => N - 1 - j) ++ [p] := by rw [hl, ← hp]; rfl
    rw [hl2, dfold_snoc]
    clear hl2 hl
    generalize dfold b t f ((List.range k).map (fun j => N - 1 - j)) = s at *
    have hc := mul_lt (hby.2 (p + t)) (ivN_lt (b t))
    have hb0 : b t ≠ 0 := by have := hbu.2.resolve_left (by omega); simpa using this
    have hsum : ∀ n, (dstep b t s p).1 n = s.1 n ^^^ (if n = p then mul (s.2 (p + t)) (ivN (b t)) else 0) := fun n => by
      show (if n = p then _ else _) = _
      by_cases e : n = p
      · rw [if_pos e, if_pos e, h2 n (Or.inl (by omega)), Nat.zero_xor]
      · rw [if_neg e, if_neg e, Nat.xor_zero]
    refine ⟨fun n => ?_, fun i hi => ?_, fun n hn => ?_, fun _ => ?_⟩
    · have e1 : cv (dstep b t s p).1 b N n = cv s.1 b N n ^^^ (if p ≤ n then mul (mul (s.2 (p + t)) (ivN (b t))) (b (n - p)) else 0) := by
        rw [← cv_single (c := mul (s.2 (p + t)) (ivN (b t))) (N := N) (by omega), ← cv_xor hby.1 (fun i => by show (if i = p then _ else 0) < 256; split; exact hc; omega) hb]
        exact congrArg (fun g => cv g b N n) (funext hsum)
      rw [e1, h1 n]
      show _ = _ ^^^ (if p ≤ n then _ else _)
      by_cases e : p ≤ n
      · rw [if_pos e, if_pos e]
        generalize mul (mul (s.2 (p + t)) (ivN (b t))) (b (n - p)) = z
        rw [show cv s.1 b N n ^^^ z ^^^ (s.2 n ^^^ z) = cv s.1 b N n ^^^ s.2 n ^^^ (z ^^^ z) from by ac_rfl, Nat.xor_self, Nat.xor_zero]
      · rw [if_neg e, if_neg e, Nat.xor_zero]
    · rw [hsum, if_neg (by omega), Nat.xor_zero]
      exact h2 i (by omega)
    · show (if p ≤ n then _ else _) = 0
      rw [if_pos (by omega)]
      by_cases e : n = p + t
      · subst e
        rw [Nat.add_sub_cancel_left, ivN_mul (hby.2 _) (hb _) hb0, Nat.xor_self]
      · rw [h3 n (by omega), hbu.1 (n - p) (by omega), mul_zero]; rfl
    · by_cases e : k = 0
      · subst e
        have hpN : N - 1 = p := by omega
        rw [hsum, if_pos hpN, h2 (N - 1) (Or.inl (by omega)), Nat.zero_xor]
        have := h1 (p + t)
        rw [show cv s.1 b N (p + t) = 0 from cv_zero (fun i => h2 i (by omega)) N _, Nat.zero_xor] at this
        rw [← this, hpN]
      · rw [hsum, if_neg (by omega), Nat.xor_zero]
        exact h4 (by omega)
end Go.Proofs.Ytdempjkkahjekaa.Pf
