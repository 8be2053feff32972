import Derived.Test.YtdempjkkahjekaaPv
namespace Go.Proofs.Ytdempjkkahjekaa.Pf
open Gf
/-- all places, one behind the other. -/
def places (xs : Nat → Nat) (l : Nat) : List Nat := (List.range l).map xs
theorem places_len (xs : Nat → Nat) (l : Nat) : (places xs l).length = l := by simp [places]
theorem places_nodup {xs : Nat → Nat} : ∀ l, (∀ i j, i < j → j < l → xs i ≠ xs j) → (places xs l).Nodup
  | 0, _ => by simp [places]
  | l + 1, h => by
    unfold places
    rw [List.range_succ, List.map_append]
    refine List.nodup_append.2 ⟨places_nodup l (fun i j h1 h2 => h i j h1 (by omega)), by simp, ?_⟩
    intro a ha b hb
    obtain ⟨i, hi, rfl⟩ := List.mem_map.1 ha
    have hb : b = xs l := by simpa using hb
    rw [hb]
    exact h i l (List.mem_range.1 hi) (by omega)
theorem mem_places {xs : Nat → Nat} {l r : Nat} : r ∈ places xs l ↔ ∃ i, i < l ∧ xs i = r := by
  unfold places
  rw [List.mem_map]
  constructor
  · rintro ⟨i, hi, e⟩; exact ⟨i, List.mem_range.1 hi, e⟩
  · rintro ⟨i, hi, e⟩; exact ⟨i, List.mem_range.2 hi, e⟩
/-- through points there is one. -/
theorem same_through {xs p q : Nat → Nat} {l : Nat} (hx : ∀ i, xs i < 256) (hd : ∀ i j, i < j → j < l → xs i ≠ xs j) (hp : By p) (hq : By q) (hpu : Up p l) (hqu : Up q l) (h : ∀ i, i < l → ev p (xs i) l = ev q (xs i) l) : p = q :=
  funext fun i => through_uniq (rs := places xs l) hp hq (places_nodup l hd) (fun r hr => by obtain ⟨j, _, e⟩ := mem_places.1 hr; rw [← e]; exact hx j) (by rw [places_len]; exact hpu) (by rw [places_len]; exact hqu)
    (fun r hr => by obtain ⟨j, hj, e⟩ := mem_places.1 hr; rw [← e, places_len]; exact h j hj) i
theorem newt_lag {xs ys S N S' : Nat → Nat} {l : Nat} (hx : ∀ i, xs i < 256) (h : Newt xs ys l S N) (h' : Lag xs ys l l S') : S = S' :=
  same_through hx h.two h.sb h'.by_ h.su h'.up fun i hi => by rw [h.at_ i hi, h'.at_ i hi, if_pos hi]
/-- the coefficients of a list. -/
def lit (vs : List Nat) (i : Nat) : Nat := vs.getD i 0
theorem lit_by {vs : List Nat} (h : ∀ v ∈ vs, v < 256) : By (lit vs) := fun i => by
  unfold lit
  rcases Nat.lt_or_ge i vs.length with hi | hi
  · rw [show vs.getD i 0 = vs[i] by simp [hi]]; exact h _ (List.getElem_mem hi)
  · simp [hi]
theorem lit_up (vs : List Nat) : Up (lit vs) vs.length := fun i hi => by unfold lit; simp [hi]
theorem awake_value : ev (lit [1, 0, 3]) 2 3 = 13 := by decide +kernel
theorem awake_zero : lit [0, 1] 0 ≠ lit [0, 1] 1 := by decide
theorem awake_through {S N : Nat → Nat} (h : Newt (lit [0, 1]) (lit [5, 5]) 2 S N) : S = sc 5 := by
  refine same_through (fun i => lit_by (by decide) i) h.two h.sb (sc_by (by omega)) h.su ((sc_up 5).mono (by omega)) fun i hi => ?_
  rw [h.at_ i hi, ev_up _ (sc_up 5) (by omega), sc_ev (by omega)]
  rcases (show i = 0 ∨ i = 1 by omega) with rfl | rfl <;> rfl
end Go.Proofs.Ytdempjkkahjekaa.Pf
