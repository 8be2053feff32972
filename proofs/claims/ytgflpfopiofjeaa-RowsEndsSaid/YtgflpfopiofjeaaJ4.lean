import Derived.Test.YtgflpfopiofjeaaH9
namespace Go.Proofs.Ytgflpfopiofjeaa
open Go.RowKit Go.Shelf

/-- an answer: a matrix of so many rows and columns in memory of its own, and an error's number. -/
def Out (h wi : Nat) (F : Nat → Nat → Nat) (er : Int) (w : World) (e : Ending) (w' : World) : Prop :=
  ∃ pa cap b, e = .returned (.tuple #[.slice pa h cap, .int .i64 er]) ∧ Go_ w' w.heap.size pa h cap b (fun _ => wi) (fun _ => wi) F ∧ Below w.heap.size w w'
/-- an answer: a row of so many bytes, and an error's number. -/
def OutR (h : Nat) (g : Nat → Nat) (er : Int) (w : World) (e : Ending) (w' : World) : Prop :=
  ∃ pa cap, e = .returned (.tuple #[.slice pa h cap, .int .i64 er]) ∧ Sl w' pa h cap g ∧ Below w.heap.size w w'
theorem Refuses.out {w : World} {k : Int} {e : Ending} {w' : World} (h : Refuses w k e w') : Out 0 0 (fun _ _ => 0) k w e w' := ⟨none, 0, fun _ => 0, h.1, go_none _ _ _ _ _, h.2⟩
theorem Refuses.outR {w : World} {k : Int} {e : Ending} {w' : World} (h : Refuses w k e w') : OutR 0 (fun _ => 0) k w e w' :=
  ⟨none, 0, h.1, (Nw.nil w' 0 (f := fun _ => 0) (fun _ => rfl)).sl, h.2⟩
theorem MakesE.out {w : World} {h wi : Nat} {F : Nat → Nat → Nat} {e : Ending} {w' : World} (k : MakesE w h wi F e w') : Out h wi F 0 w e w' := by
  obtain ⟨G, b, h1, h2, h3⟩ := k
  exact ⟨_, _, b, h1, h2.go, h3⟩
theorem PutsE.out {w : World} {h wi : Nat} {F : Nat → Nat → Nat} {e : Ending} {w' : World} (k : PutsE w h wi F e w') : Out h wi F 0 w e w' := k

theorem mul_both (n n' : Nat) (l l' : Nat → Nat) (f f' : Nat → Nat → Nat) (hn : n ≤ 1000000000000) (hn' : n' ≤ 1000000000000) : ∃ h wi F er, h ≤ 255 ∧ wi ≤ 255 ∧
    (∀ a a' cap cap' r r' c c' w, Rd w a n cap r l c f → Rd w a' n' cap' r' l' c' f' → Calls Try.prog 11 #[.slice a n cap, .slice a' n' cap'] w (Out h wi F er w)) ∧
    (∀ a a' cap cap' r r' c c' w, Rd w a n cap r l c f → Rd w a' n' cap' r' l' c' f' → Calls Try.prog 12 #[.slice a n cap, .slice a' n' cap'] w (Out h wi F er w)) := by
  by_cases ok : IsM n l ∧ wd n l = n' ∧ IsM n' l'
  · refine ⟨n, wd n' l', cl n (wd n' l') (Mt.mm n' f f'), 0, ok.1.2.1, ok.2.2.2.2, fun a a' cap cap' r r' c c' w hR hR' => ?_, fun a a' cap cap' r r' c c' w hR hR' => ?_⟩
    · exact (mul_yes a a' n cap n' cap' r r' l c l' c' f f' w hR hR' ok.1 ok.2.1 ok.2.2).mono fun _ _ h => h.out
    · exact (rmul_yes a a' n cap n' cap' r r' l c l' c' f f' w hR hR' ok.1 ok.2.1 ok.2.2).mono fun _ _ h => h.out
  · refine ⟨0, 0, fun _ _ => 0, 2, by omega, by omega, fun a a' cap cap' r r' c c' w hR hR' => ?_, fun a a' cap cap' r r' c c' w hR hR' => ?_⟩
    · exact (mul_no a a' n cap n' cap' r r' l c l' c' f f' hn hn' w hR hR' ok).mono fun _ _ h => h.out
    · exact (rmul_no a a' n cap n' cap' r r' l c l' c' f f' hn hn' w hR hR' ok).mono fun _ _ h => h.out
theorem inverse_both (n : Nat) (l : Nat → Nat) (f : Nat → Nat → Nat) (hf : Mt.Bm f) (hn : n ≤ 1000000000000) : ∃ h F er, h ≤ 255 ∧
    (∀ a cap r c w, Rd w a n cap r l c f → Calls Try.prog 13 #[.slice a n cap] w (Out h h F er w)) ∧
    (∀ a cap r c w, Rd w a n cap r l c f → Calls Try.prog 14 #[.slice a n cap] w (Out h h F er w)) := by
  by_cases ok : IsM n l ∧ wd n l = n
  · have hle := Mt.rk_le_rows hf n n
    by_cases hk : Mt.rk n n f < n
    · refine ⟨0, fun _ _ => 0, 7, by omega, fun a cap r c w hR => ?_, fun a cap r c w hR => ?_⟩
      · refine (inverse_yes a n cap r l c f w hR ok.1 ok.2).mono ?_
        rintro e w' (⟨_, h⟩ | ⟨h, _⟩)
        · exact h.out
        · omega
      · refine (rinverse_yes a n cap r l c f w hR ok.1 ok.2).mono ?_
        rintro e w' (⟨_, h⟩ | ⟨h, _⟩)
        · exact h.out
        · omega
    · refine ⟨n, cl n n (Mt.inv f n), 0, ok.1.2.1, fun a cap r c w hR => ?_, fun a cap r c w hR => ?_⟩
      · refine (inverse_yes a n cap r l c f w hR ok.1 ok.2).mono ?_
        rintro e w' (⟨h, _⟩ | ⟨_, h⟩)
        · omega
        · exact h.out
      · refine (rinverse_yes a n cap r l c f w hR ok.1 ok.2).mono ?_
        rintro e w' (⟨h, _⟩ | ⟨_, h⟩)
        · omega
        · exact h.out
  · refine ⟨0, fun _ _ => 0, 2, by omega, fun a cap r c w hR => ?_, fun a cap r c w hR => ?_⟩
    · exact (inverse_no a n cap r l c f hn w hR ok).mono fun _ _ h => h.out
    · exact (rinverse_no a n cap r l c f hn w hR ok).mono fun _ _ h => h.out
theorem apply_both (n m : Nat) (l : Nat → Nat) (f : Nat → Nat → Nat) (g : Nat → Nat) (hf : Mt.Bm f) (hg : Pf.By g) (hn : n ≤ 1000000000000) : ∃ h F er, h ≤ 255 ∧
    (∀ a va cap vc r c w, Rd w a n cap r l c f → Sl w va m vc g → Calls Try.prog 15 #[.slice a n cap, .slice va m vc] w (OutR h F er w)) ∧
    (∀ a va cap vc r c w, Rd w a n cap r l c f → Sl w va m vc g → Calls Try.prog 16 #[.slice a n cap, .slice va m vc] w (OutR h F er w)) := by
  by_cases ok : IsM n l ∧ wd n l = m
  · have hn := ok.1.2.1
    refine ⟨n, dots f g m n, 0, hn, fun a va cap vc r c w hR hV => ?_, fun a va cap vc r c w hR hV => ?_⟩
    · refine (apply_yes a va n cap m vc r l c f g w hR hV ok.1 ok.2).mono ?_
      rintro e w' ⟨gu, h1, _, h3, h4⟩
      exact ⟨_, _, h1, h3.sl (Nat.le_refl _) (by unfold maxLen; omega) (dots_by hf hg m n) (dots_up f g m n), h4⟩
    · refine (rapply_yes a va n cap m vc r l c f g w hR hV ok.1 ok.2).mono ?_
      rintro e w' ⟨pa, pc, h1, h3, h4⟩
      exact ⟨_, _, h1, h3.sl, h4⟩
  · refine ⟨0, fun _ => 0, 2, by omega, fun a va cap vc r c w hR hV => ?_, fun a va cap vc r c w hR hV => ?_⟩
    · exact (apply_no a va n cap m vc r l c f hn w hR ok).mono fun _ _ h => h.outR
    · exact (rapply_no a va n cap m vc r l c f hn w hR ok).mono fun _ _ h => h.outR
theorem unit_both (n : Int) : ∃ h F er, h ≤ 255 ∧
    (∀ w, Calls Try.prog 17 #[.int .i64 n] w (Out h h F er w)) ∧ (∀ w, Calls Try.prog 18 #[.int .i64 n] w (Out h h F er w)) := by
  by_cases hn : n < 0 ∨ 255 < n
  · refine ⟨0, fun _ _ => 0, 2, by omega, fun w => (unit_no n hn w).mono ?_, fun w => (runit_no n hn w).mono ?_⟩
    · rintro e w' ⟨h1, rfl⟩; exact Refuses.out ⟨h1, Below.refl _ _⟩
    · rintro e w' ⟨h1, rfl⟩; exact Refuses.out ⟨h1, Below.refl _ _⟩
  · obtain ⟨k, rfl⟩ := Int.eq_ofNat_of_zero_le (show 0 ≤ n by omega)
    exact ⟨k, cl k k Mt.dl, 0, by omega, fun w => (Unit_yes k (by omega) w).mono fun _ _ h => h.out, fun w => (runit_yes k (by omega) w).mono fun _ _ h => h.out⟩
theorem right_both (n : Nat) (l : Nat → Nat) (f : Nat → Nat → Nat) (hn : n ≤ 1000000000000) : ∃ v : Bool,
    (∀ a cap r c w, Rd w a n cap r l c f → Calls Try.prog 23 #[.slice a n cap] w fun e w' => e = .returned (.bool v) ∧ ∃ q, w' = w.drewN q) ∧
    (∀ a cap r c w, Rd w a n cap r l c f → Calls Try.prog 24 #[.slice a n cap] w fun e w' => e = .returned (.bool v) ∧ ∃ q, w' = w.drewN q) := by
  by_cases ok : IsM n l
  · exact ⟨true, fun a cap r c w hR => right_yes a n cap r l c f w hR ok, fun a cap r c w hR => rright_yes a n cap r l c f w hR ok⟩
  · exact ⟨false, fun a cap r c w hR => right_no a n cap r l c f hn w hR ok, fun a cap r c w hR => rright_no a n cap r l c f hn w hR ok⟩
theorem rank_both (n : Nat) (l : Nat → Nat) (f : Nat → Nat → Nat) (hn : n ≤ 1000000000000) : ∃ k : Nat,
    (∀ a cap r c w, Rd w a n cap r l c f → Calls Try.prog 25 #[.slice a n cap] w fun e w' => e = .returned (.int .i64 (k : Nat)) ∧ Below w.heap.size w w') ∧
    (∀ a cap r c w, Rd w a n cap r l c f → Calls Try.prog 26 #[.slice a n cap] w fun e w' => e = .returned (.int .i64 (k : Nat)) ∧ Below w.heap.size w w') := by
  by_cases ok : IsM n l
  · exact ⟨Mt.rk n (wd n l) f, fun a cap r c w hR => rank_yes a n cap r l c f w hR ok, fun a cap r c w hR => rrank_yes a n cap r l c f w hR ok⟩
  · exact ⟨0, fun a cap r c w hR => rank_no a n cap r l c f hn w hR ok, fun a cap r c w hR => rrank_no a n cap r l c f hn w hR ok⟩
end Go.Proofs.Ytgflpfopiofjeaa
