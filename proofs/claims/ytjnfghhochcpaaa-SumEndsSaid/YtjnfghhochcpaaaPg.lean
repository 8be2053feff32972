/-
  Products of polynomials: plain facts, no program in sight.
-/
import Derived.Test.YtjnfghhochcpaaaPf
namespace Go.Proofs.Ytjnfghhochcpaaa.Pf
open Gf

/-- the product. -/
def pm (p q : Nat → Nat) (n : Nat) : Nat := cv p q (n + 1) n
theorem cv_late {p q : Nat → Nat} {n k : Nat} (h : n + 1 ≤ k) : cv p q k n = pm p q n :=
  xsum_le h fun i hi _ => by rw [if_neg (by omega)]
theorem cv_eq {p q : Nat → Nat} {k : Nat} (h : Up p k) (n : Nat) : cv p q k n = pm p q n := by
  rcases Nat.le_total (n + 1) k with hl | hl
  · exact cv_late hl
  · exact (cv_rows h hl n).symm
theorem pm_by {p q : Nat → Nat} (hp : By p) (hq : By q) : By (pm p q) := fun n => cv_by hp hq _ n
theorem pm_up {p q : Nat → Nat} {k m : Nat} (hp : Up p k) (hq : Up q m) : Up (pm p q) (k + m) := fun n hn => by
  rw [← cv_eq hp]; exact cv_up hq n hn
theorem pm_up1 {p q : Nat → Nat} {k m : Nat} (hp : Up p k) (hq : Up q m) (hm : 0 < m) : Up (pm p q) (k + m - 1) := fun n hn => by
  rw [← cv_eq hp]; exact cv_up1 hq hm n hn
/-- how many coefficients a product has. -/
def pl (k m : Nat) : Nat := if k = 0 ∨ m = 0 then 0 else k + m - 1
theorem pm_Ln {p q : Nat → Nat} {k m : Nat} (hp : By p) (hq : By q) (h : Ln p k) (h' : Ln q m) : Ln (pm p q) (pl k m) := by
  unfold pl
  cases k with
  | zero => exact ⟨fun n _ => by rw [← cv_eq h.1]; rfl, by simp⟩
  | succ k =>
    cases m with
    | zero => exact ⟨fun n _ => cv_up (p := p) h'.1 (k := 0) (m := 0) n (Nat.zero_le _) |> fun _ => by
                unfold pm; exact xsum_zero _ fun i _ => by rw [h'.1 _ (Nat.zero_le _), mul_zero]; split <;> rfl, by simp⟩
    | succ m =>
      rw [if_neg (by omega)]
      have := cv_Ln hp hq h h'
      refine ⟨fun n hn => by rw [← cv_eq h.1]; exact this.1 n (by omega), Or.inr ?_⟩
      have h2 := this.2.resolve_left (by omega)
      rw [cv_eq h.1] at h2
      rw [show k + 1 + (m + 1) - 1 - 1 = k + m + 1 - 1 by omega]; exact h2
theorem pm_ev {p q : Nat → Nat} {x k m n : Nat} (hp : By p) (hq : By q) (hx : x < 256) (hk : Up p k) (hm : Up q m) (hn : Up (pm p q) n) : ev (pm p q) x n = mul (ev p x k) (ev q x m) := by
  have e : (fun i => pm p q i) = cv p q k := funext fun i => (cv_eq hk i).symm
  rw [show pm p q = cv p q k from e] at hn ⊢
  exact ev_mul hp hq hx hm hn
/-- one coefficient. -/
def sc (c : Nat) (n : Nat) : Nat := if n = 0 then c else 0
theorem sc_by {c : Nat} (h : c < 256) : By (sc c) := fun n => by unfold sc; split <;> omega
theorem sc_up (c : Nat) : Up (sc c) 1 := fun n hn => by unfold sc; rw [if_neg (by omega)]
/-- a row, in the midst of it. -/
def md (p q : Nat → Nat) (k j n : Nat) : Nat := if n < k + j then cv p q (k + 1) n else cv p q k n
theorem md_by {p q : Nat → Nat} (hp : By p) (hq : By q) (k j : Nat) : By (md p q k j) := fun n => by
  unfold md; split
  · exact cv_by hp hq _ n
  · exact cv_by hp hq _ n
theorem md_0 (p q : Nat → Nat) (k n : Nat) : cv p q k n = md p q k 0 n := by
  unfold md
  split
  · rw [cv_succ, if_neg (by omega), Nat.xor_zero]
  · rfl
theorem md_s {p q : Nat → Nat} (k j n : Nat) : (if n = k + j then md p q k j (k + j) ^^^ mul (p k) (q j) else md p q k j n) = md p q k (j + 1) n := by
  unfold md
  by_cases e : n = k + j
  · subst e
    rw [if_pos rfl, if_neg (by omega), if_pos (by omega), cv_succ, if_pos (by omega), Nat.add_sub_cancel_left]
  · rw [if_neg e]
    by_cases h : n < k + j
    · rw [if_pos h, if_pos (by omega)]
    · rw [if_neg h, if_neg (by omega)]
theorem md_e {p q : Nat → Nat} {k m : Nat} (hq : Up q m) (n : Nat) : md p q k m n = cv p q (k + 1) n := by
  unfold md
  split
  · rfl
  · rw [cv_succ, if_pos (by omega), hq (n - k) (by omega), mul_zero, Nat.xor_zero]
end Go.Proofs.Ytjnfghhochcpaaa.Pf
