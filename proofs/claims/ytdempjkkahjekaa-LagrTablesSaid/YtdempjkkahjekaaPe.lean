import Derived.Test.YtdempjkkahjekaaPt
namespace Go.Proofs.Ytdempjkkahjekaa.Pf
open Gf

/-- one term. -/
def trm (s c n : Nat) : Nat := if n = s then c else 0
theorem trm_by {s c : Nat} (h : c < 256) : By (trm s c) := fun n => by unfold trm; split <;> omega
theorem trm_up (s c : Nat) : Up (trm s c) (s + 1) := fun n hn => by unfold trm; rw [if_neg (by omega)]
theorem pm_trm {s c : Nat} {b : Nat → Nat} {m : Nat} (hb : Up b (m + 1)) : pm (trm s c) b (s + m) = mul c (b m) := by
  rw [← cv_eq (trm_up s c), cv_top (trm_up s c) hb (Nat.lt_succ_self s)]
  unfold trm; rw [if_pos rfl]
theorem pm_xor {p p' q : Nat → Nat} (hp : By p) (hp' : By p') (hq : By q) (n : Nat) : pm (fun i => p i ^^^ p' i) q n = pm p q n ^^^ pm p' q n := cv_xor hp hp' hq (n + 1) n
/-- one step of a long division, from the top. -/
theorem long_step {f b Q R : Nat → Nat} {t s : Nat} (hb : By b) (hQ : By Q) (hR : By R) (hbl : Ln b (t + 1)) (hru : Up R (t + 1 + s)) (h : ∀ i, f i = pm Q b i ^^^ R i) :
    (∀ i, f i = pm (fun i => Q i ^^^ trm s (mul (R (t + s)) (ivN (b t))) i) b i ^^^ (R i ^^^ pm (trm s (mul (R (t + s)) (ivN (b t)))) b i)) ∧ Up (fun i => R i ^^^ pm (trm s (mul (R (t + s)) (ivN (b t)))) b i) (t + s) := by
  have hb0 : b t ≠ 0 := by have := hbl.2.resolve_left (by omega); simpa using this
  have hc := mul_lt (hR (t + s)) (ivN_lt (b t))
  have hm := ivN_mul (hR (t + s)) (hb t) hb0
  generalize mul (R (t + s)) (ivN (b t)) = c at *
  refine ⟨fun i => ?_, fun i hi => ?_⟩
  · rw [pm_xor hQ (trm_by hc) hb, h i]
    generalize pm (trm s c) b i = z
    rw [show pm Q b i ^^^ z ^^^ (R i ^^^ z) = pm Q b i ^^^ R i ^^^ (z ^^^ z) from by ac_rfl, Nat.xor_self, Nat.xor_zero]
  · show R i ^^^ pm (trm s c) b i = 0
    by_cases e : i = t + s
    · subst e
      rw [Nat.add_comm t s, pm_trm hbl.1, hm, Nat.add_comm s t, Nat.xor_self]
    · rw [hru i (by omega), pm_up1 (trm_up s c) hbl.1 (by omega) i (by omega)]; rfl
/-- quotients and rests are the only ones. -/
theorem long_uniq {f b Q Q' R R' : Nat → Nat} {t k k' : Nat} (hb : By b) (hQ : By Q) (hQ' : By Q') (hbl : Ln b (t + 1)) (hq : Up Q k) (hq' : Up Q' k') (hr : Up R t) (hr' : Up R' t) (h : ∀ i, f i = pm Q b i ^^^ R i) (h' : ∀ i, f i = pm Q' b i ^^^ R' i) :
    Q = Q' ∧ R = R' := by
  have := div_uniq hb hQ hQ' hbl hq hq' hr hr' (fun n => by rw [cv_eq hq, cv_eq hq', ← h n, ← h' n])
  exact ⟨funext this.1, funext this.2⟩
end Go.Proofs.Ytdempjkkahjekaa.Pf
