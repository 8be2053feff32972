import Derived.Test.YtdempjkkahjekaaPd
namespace Go.Proofs.Ytdempjkkahjekaa.Pf
open Gf

/-- x, and 1 at the next place. -/
def lin (x n : Nat) : Nat := if n = 0 then x else if n = 1 then 1 else 0
theorem lin_by {x : Nat} (h : x < 256) : By (lin x) := fun n => by unfold lin; split; exact h; split <;> omega
theorem lin_up (x : Nat) : Up (lin x) 2 := fun n hn => by unfold lin; rw [if_neg (by omega), if_neg (by omega)]
theorem lin_Ln (x : Nat) : Ln (lin x) 2 := ⟨lin_up x, Or.inr (by show lin x 1 ≠ 0; unfold lin; simp)⟩
theorem lin_ev {x z : Nat} (hx : x < 256) (hz : z < 256) : ev (lin x) z 2 = x ^^^ z := by
  unfold ev
  show 0 ^^^ mul (lin x 0) (pn z 0) ^^^ mul (lin x 1) (pn z 1) = _
  rw [Nat.zero_xor]
  show mul x 1 ^^^ mul 1 (mul 1 z) = _
  rw [mul_one' hx, mul_one _ hz, mul_one _ hz]
theorem sc_ev {c z : Nat} (hc : c < 256) : ev (sc c) z 1 = c := by
  unfold ev
  show 0 ^^^ mul (sc c 0) (pn z 0) = c
  rw [Nat.zero_xor]
  exact mul_one' hc
theorem mul_eq_zero {a b : Nat} (ha : a < 256) (hb : b < 256) : mul a b = 0 ↔ a = 0 ∨ b = 0 := by
  constructor
  · intro h
    by_cases a0 : a = 0
    · exact Or.inl a0
    by_cases b0 : b = 0
    · exact Or.inr b0
    exact absurd h (mul_pos ha hb a0 b0)
  · rintro (rfl | rfl)
    · exact zero_mul _
    · exact mul_zero _
theorem mul_iv {x y : Nat} (hx : x < 256) (hy : y < 256) (h0 : y ≠ 0) : mul y (mul x (ivN y)) = x := by
  rw [mul_comm hy (mul_lt hx (ivN_lt _)), ivN_mul hx hy h0]

/-- so far: through the first k points; and what is 0 just at them. -/
structure Newt (xs ys : Nat → Nat) (k : Nat) (S N : Nat → Nat) : Prop where
  sb : By S
  nb : By N
  su : Up S k
  nl : Ln N (k + 1)
  at_ : ∀ j, j < k → ev S (xs j) k = ys j
  zero : ∀ z, z < 256 → (ev N z (k + 1) = 0 ↔ ∃ j, j < k ∧ xs j = z)
  two : ∀ i j, i < j → j < k → xs i ≠ xs j
theorem Newt.start (xs ys : Nat → Nat) : Newt xs ys 0 (fun _ => 0) (sc 1) where
  sb := fun _ => by show 0 < 256; omega
  nb := sc_by (by omega)
  su := fun _ _ => rfl
  nl := ⟨sc_up 1, Or.inr (by decide)⟩
  at_ := fun j h => by omega
  zero := fun z hz => by
    rw [sc_ev (by omega)]
    exact ⟨fun h => by omega, fun ⟨j, h, _⟩ => by omega⟩
  two := fun i j _ h => by omega
theorem Newt.step {xs ys S N : Nat → Nat} {k : Nat} (h : Newt xs ys k S N) (hx : ∀ j, xs j < 256) (hy : ∀ j, ys j < 256) (h0 : ev N (xs k) (k + 1) ≠ 0) :
    Newt xs ys (k + 1) (fun i => S i ^^^ pm N (sc (mul (ys k ^^^ ev S (xs k) k) (ivN (ev N (xs k) (k + 1))))) i) (pm N (lin (xs k))) := by
  have e1 := ev_lt h.sb (hx k) k
  have e2 := ev_lt h.nb (hx k) (k + 1)
  have hg := xor_lt (hy k) e1
  have hp := mul_lt hg (ivN_lt (ev N (xs k) (k + 1)))
  have hiv := mul_iv hg e2 h0
  generalize mul (ys k ^^^ ev S (xs k) k) (ivN (ev N (xs k) (k + 1))) = part at *
  have hu : Up (pm N (sc part)) (k + 1) := pm_up1 h.nl.1 (sc_up part) (by omega)
  have hev : ∀ z, z < 256 → ev (fun i => S i ^^^ pm N (sc part) i) z (k + 1) = ev S z k ^^^ mul (ev N z (k + 1)) part := fun z hz => by
    rw [ev_xor h.sb (pm_by h.nb (sc_by hp)) hz, ev_up z h.su (by omega), pm_ev h.nb (sc_by hp) hz h.nl.1 (sc_up part) hu, sc_ev hp]
  have hnl : Ln (pm N (lin (xs k))) (k + 1 + 1) := by
    have := pm_Ln h.nb (lin_by (hx k)) h.nl (lin_Ln (xs k))
    unfold pl at this
    rw [if_neg (by omega)] at this
    exact this
  have hze : ∀ z, z < 256 → (ev (pm N (lin (xs k))) z (k + 1 + 1) = 0 ↔ ∃ j, j < k + 1 ∧ xs j = z) := fun z hz => by
    rw [pm_ev h.nb (lin_by (hx k)) hz h.nl.1 (lin_up _) hnl.1, lin_ev (hx k) hz, mul_eq_zero (ev_lt h.nb hz _) (xor_lt (hx k) hz), h.zero z hz]
    constructor
    · rintro (⟨j, hj, e⟩ | e)
      · exact ⟨j, by omega, e⟩
      · exact ⟨k, by omega, xor_cancel e⟩
    · rintro ⟨j, hj, e⟩
      by_cases hjk : j = k
      · subst hjk; exact Or.inr (by rw [e, Nat.xor_self])
      · exact Or.inl ⟨j, by omega, e⟩
  refine ⟨fun i => xor_lt (h.sb i) (pm_by h.nb (sc_by hp) i), pm_by h.nb (lin_by (hx k)), fun i hi => ?_, hnl, fun j hj => ?_, hze, fun i j hij hj => ?_⟩
  · show S i ^^^ pm N (sc part) i = 0
    rw [h.su i (by omega), hu i hi]; rfl
  · rw [hev (xs j) (hx j)]
    by_cases hjk : j = k
    · subst hjk
      rw [hiv, ← Nat.xor_assoc, Nat.xor_comm (ev S (xs j) j), Nat.xor_assoc, Nat.xor_self, Nat.xor_zero]
    · rw [(h.zero (xs j) (hx j)).2 ⟨j, by omega, rfl⟩, zero_mul, Nat.xor_zero]
      exact h.at_ j (by omega)
  · by_cases hjk : j = k
    · subst hjk
      intro e
      exact h0 ((h.zero (xs j) (hx j)).2 ⟨i, hij, e⟩)
    · exact h.two i j hij (by omega)
end Go.Proofs.Ytdempjkkahjekaa.Pf
