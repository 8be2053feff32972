import Derived.Test.YtdempjkkahjekaaPe
namespace Go.Proofs.Ytdempjkkahjekaa.Pf
open Gf

/-- a product of x less each of the first m places but one. -/
structure Bas (xs : Nat → Nat) (l i m : Nat) (p : Nat → Nat) : Prop where
  by_ : By p
  up : Up p (if i < m then m else m + 1)
  zero : ∀ z, z < 256 → (ev p z (l + 1) = 0 ↔ ∃ j, j < m ∧ j ≠ i ∧ xs j = z)
theorem Bas.start (xs : Nat → Nat) (l i : Nat) : Bas xs l i 0 (sc 1) where
  by_ := sc_by (by omega)
  up := by rw [if_neg (by omega)]; exact sc_up 1
  zero := fun z hz => by
    rw [ev_up z (sc_up 1) (by omega), sc_ev (by omega)]
    exact ⟨fun h => by omega, fun ⟨j, h, _⟩ => by omega⟩
theorem Bas.skip {xs : Nat → Nat} {l i : Nat} {p : Nat → Nat} (h : Bas xs l i i p) : Bas xs l i (i + 1) p where
  by_ := h.by_
  up := by
    have := h.up
    rw [if_neg (by omega)] at this
    rw [if_pos (by omega)]; exact this
  zero := fun z hz => by
    rw [h.zero z hz]
    exact ⟨fun ⟨j, h1, h2, h3⟩ => ⟨j, by omega, h2, h3⟩, fun ⟨j, h1, h2, h3⟩ => ⟨j, by omega, h2, h3⟩⟩
theorem Bas.up_le {xs : Nat → Nat} {l i m : Nat} {p : Nat → Nat} (h : Bas xs l i m p) : Up p (m + 1) := h.up.mono (by split <;> omega)
theorem Bas.step {xs : Nat → Nat} {l i m : Nat} {p : Nat → Nat} (h : Bas xs l i m p) (hx : ∀ j, xs j < 256) (hm : m < l) (_hi : i < l) (hne : m ≠ i) : Bas xs l i (m + 1) (pm p (lin (xs m))) where
  by_ := pm_by h.by_ (lin_by (hx m))
  up := by
    refine (pm_up1 h.up (lin_up (xs m)) (by omega)).mono ?_
    by_cases e : i < m
    · rw [if_pos e, if_pos (by omega)]; omega
    · rw [if_neg e, if_neg (by omega)]; omega
  zero := fun z hz => by
    have hu : Up (pm p (lin (xs m))) (l + 1) := (pm_up1 h.up (lin_up (xs m)) (by omega)).mono (by split <;> omega)
    rw [pm_ev h.by_ (lin_by (hx m)) hz (h.up_le.mono (show m + 1 ≤ l + 1 by omega)) (lin_up _) hu, lin_ev (hx m) hz, mul_eq_zero (ev_lt h.by_ hz _) (xor_lt (hx m) hz), h.zero z hz]
    constructor
    · rintro (⟨j, h1, h2, h3⟩ | e)
      · exact ⟨j, by omega, h2, h3⟩
      · exact ⟨m, by omega, hne, xor_cancel e⟩
    · rintro ⟨j, h1, h2, h3⟩
      by_cases e : j = m
      · subst e; exact Or.inr (by rw [h3, Nat.xor_self])
      · exact Or.inl ⟨j, by omega, h2, h3⟩
/-- through the first k points, and 0 at the others. -/
structure Lag (xs ys : Nat → Nat) (l k : Nat) (S : Nat → Nat) : Prop where
  by_ : By S
  up : Up S l
  at_ : ∀ j, j < l → ev S (xs j) l = if j < k then ys j else 0
theorem Lag.start (xs ys : Nat → Nat) (l : Nat) : Lag xs ys l 0 (fun _ => 0) where
  by_ := fun _ => by show 0 < 256; omega
  up := fun _ _ => rfl
  at_ := fun j _ => by rw [if_neg (by omega)]; exact xsum_zero l fun i _ => zero_mul _
theorem Lag.step {xs ys : Nat → Nat} {l k : Nat} {S p : Nat → Nat} (h : Lag xs ys l k S) (hb : Bas xs l k l p) (hx : ∀ j, xs j < 256) (hy : ∀ j, ys j < 256) (hk : k < l) (hd : ∀ i j, i < j → j < l → xs i ≠ xs j) :
    Lag xs ys l (k + 1) (fun i => S i ^^^ pm p (sc (mul (ys k) (ivN (ev p (xs k) (l + 1))))) i) := by
  have e2 := ev_lt hb.by_ (hx k) (l + 1)
  have hnz : ev p (xs k) (l + 1) ≠ 0 := fun e => by
    obtain ⟨j, h1, h2, h3⟩ := (hb.zero (xs k) (hx k)).1 e
    rcases Nat.lt_or_ge j k with hl | hl
    · exact hd j k hl hk h3
    · exact hd k j (by omega) h1 h3.symm
  have hc := mul_lt (hy k) (ivN_lt (ev p (xs k) (l + 1)))
  have hiv := mul_iv (hy k) e2 hnz
  generalize mul (ys k) (ivN (ev p (xs k) (l + 1))) = c at *
  have hup : Up p l := by have := hb.up; rwa [if_pos hk] at this
  have hu : Up (pm p (sc c)) l := pm_up1 hup (sc_up c) (by omega)
  refine ⟨fun i => xor_lt (h.by_ i) (pm_by hb.by_ (sc_by hc) i), fun i hi => ?_, fun j hj => ?_⟩
  · show S i ^^^ pm p (sc c) i = 0
    rw [h.up i hi, hu i hi]; rfl
  · rw [ev_xor h.by_ (pm_by hb.by_ (sc_by hc)) (hx j), h.at_ j hj, pm_ev hb.by_ (sc_by hc) (hx j) (hup.mono (show l ≤ l + 1 by omega)) (sc_up c) hu, sc_ev hc]
    by_cases e : j = k
    · subst e
      rw [if_neg (by omega), if_pos (by omega), Nat.zero_xor, hiv]
    · rw [(hb.zero (xs j) (hx j)).2 ⟨j, hj, e, rfl⟩, zero_mul, Nat.xor_zero]
      by_cases e2 : j < k
      · rw [if_pos e2, if_pos (by omega)]
      · rw [if_neg e2, if_neg (by omega)]
end Go.Proofs.Ytdempjkkahjekaa.Pf
