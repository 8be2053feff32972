import Derived.Test.YtdempjkkahjekaaFw
namespace Go.Proofs.Ytdempjkkahjekaa
open Go.RowKit

theorem tm_pos (n : Int) (h : 0 ≤ n) : n.tmod 255 = n % 255 := Int.tmod_eq_emod_of_nonneg h
theorem tm_neg (n : Int) (h : n < 0) : (n % 255 = 0 ∧ n.tmod 255 = 0) ∨ (0 < n % 255 ∧ n.tmod 255 = n % 255 - 255) := by
  have := @Int.tmod_eq_emod n 255
  by_cases hd : (255 : Int) ∣ n
  · rw [if_pos (Or.inr hd)] at this
    left; omega
  · rw [if_neg (by omega)] at this
    right
    have h1 : (Int.natAbs 255 : Int) = 255 := rfl
    rw [this]; omega

set_option maxHeartbeats 400000 in
theorem turn_any (n : Int) (w : World) :
    Calls Try.prog 90 #[.int .i64 n] w fun e w' => e = .returned (.int .i64 (n % 255)) ∧ w' = w := by
  by_cases h : 0 ≤ n
  · have e := tm_pos n h
    have hh : ¬ n % 255 < 0 := by omega
    go_enter Try.func90, Try.ntmps90
    go_wp2
    go_ret
    exact ⟨rfl, rfl⟩
  · rcases tm_neg n (by omega) with ⟨h0, e⟩ | ⟨h0, e⟩
    · go_enter Try.func90, Try.ntmps90
      go_wp2
      go_ret
      exact ⟨rfl, rfl⟩
    · have h1 : n % 255 < 255 := by omega
      have h2 : n % 255 - 255 + 255 = n % 255 := by omega
      go_enter Try.func90, Try.ntmps90
      go_wp2
      go_ret
      exact ⟨rfl, rfl⟩

theorem IsField.drewN {b : Nat} {w : World} (h : IsField b w) (n : Nat) : IsField b (w.drewN n) := h
theorem IsField.log {b : Nat} {w : World} (h : IsField b w) {a : Nat} (ha : a < 256) : w.cell? ⟨b, 510 + a, none⟩ = some (.int .u8 (Gf.lg a : Nat)) := (h (510 + a) (by omega)).1
theorem IsField.pow {b : Nat} {w : World} (h : IsField b w) {j : Nat} (hj : j < 510) : w.cell? ⟨b, j, none⟩ = some (.int .u8 (Gf.pw j : Nat)) := by
  rw [← Gf.tab_pw hj]; exact (h j (by omega)).1

set_option maxHeartbeats 400000 in
theorem filled_yes (b : Nat) (w : World) (hF : IsField b w) :
    Calls Try.prog 87 #[.pointer (some ⟨b, 0, none⟩)] w fun e w' => e = .returned (.bool true) ∧ w' = w := by
  have h0 : w.cell? ⟨b, 0, none⟩ = some (.int .u8 1) := hF.pow (j := 0) (by omega)
  clear hF
  go_enter Try.func87, Try.ntmps87
  go_wp2
  go_ret
  exact ⟨rfl, rfl⟩

set_option maxHeartbeats 400000 in
theorem none_no (b : Nat) (w : World) (hF : IsField b w) :
    Calls Try.prog 71 #[.pointer (some ⟨b, 0, none⟩)] w fun e w' => e = .returned (.bool false) ∧ w' = w := by
  have HF := Lib.hid hF; clear hF
  go_enter Try.func71, Try.ntmps71
  go_wp2_with fail
  refine (filled_yes _ _ HF.out).mono ?_
  rintro e w' ⟨rfl, rfl⟩
  go_wp2
  go_ret
  exact ⟨rfl, rfl⟩

set_option maxHeartbeats 400000 in
theorem product_any (b : Nat) (x y : Int) (hx0 : 0 ≤ x) (hx : x < 256) (hy0 : 0 ≤ y) (hy : y < 256) (w : World) (hF : IsField b w) :
    Calls Try.prog 72 #[.pointer (some ⟨b, 0, none⟩), .int .u8 x, .int .u8 y] w fun e w' => e = .returned (.int .u8 (Gf.mul x.toNat y.toNat : Nat)) ∧ ∃ q, w' = w.drewN q := by
  obtain ⟨n, rfl⟩ := Int.eq_ofNat_of_zero_le hx0
  obtain ⟨m, rfl⟩ := Int.eq_ofNat_of_zero_le hy0
  rw [Int.toNat_natCast, Int.toNat_natCast]
  by_cases e1 : n = 0
  · subst e1
    rw [Gf.zero_mul]
    clear hF
    have g1 : (((0 : Nat) : Int) == 0) = true := rfl
    go_enter Try.func72, Try.ntmps72
    go_wp2
    go_ret
    exact ⟨rfl, 0, rfl⟩
  by_cases e2 : m = 0
  · subst e2
    rw [Gf.mul_zero]
    clear hF
    have g1 : ((n : Int) == 0) = false := by simp; omega
    go_enter Try.func72, Try.ntmps72
    go_wp2
    go_ret
    exact ⟨rfl, 0, rfl⟩
  have l1 := Gf.lg_lt (a := n) (by omega) e1
  have l2 := Gf.lg_lt (a := m) (by omega) e2
  have c1 := hF.log (a := n) (by omega)
  have c2 := hF.log (a := m) (by omega)
  have c3 := hF.pow (j := Gf.lg n + Gf.lg m) (by omega)
  rw [← Gf.mul_pw (by omega) (by omega) e1 e2] at c3
  clear hF
  have g1 : ((n : Int) == 0) = false := by simp; omega
  have g2 : ((m : Int) == 0) = false := by simp; omega
  generalize Gf.mul n m = r at *
  generalize Gf.lg n = ln at *
  generalize Gf.lg m = lm at *
  have b1 : (0 : Int) ≤ (ln : Int) + (lm : Int) := by omega
  have b2 : (ln : Int) + (lm : Int) < 510 := by omega
  have b3 : ((ln : Int) + (lm : Int)).toNat = ln + lm := by omega
  go_enter Try.func72, Try.ntmps72
  go_wp2_with fail
  go_quiet (fail)
  rename_i nq
  go_wp2
  go_ret
  exact ⟨rfl, _, rfl⟩

theorem Gf.pwr_mod (a : Nat) (n : Int) : Gf.pw ((((Gf.lg a : Nat) : Int) * (n % 255)) % 255).toNat = Gf.pwr a n := by
  unfold Gf.pwr
  rw [← Gf.pw_mod (Gf.lg a * _)]
  have h : 0 ≤ n % 255 := by omega
  obtain ⟨t, ht⟩ := Int.eq_ofNat_of_zero_le h
  rw [ht, Int.toNat_natCast]
  congr 1

set_option maxHeartbeats 400000 in
theorem power_any (b : Nat) (x n : Int) (hx0 : 0 < x) (hx : x < 256) (w : World) (hF : IsField b w) :
    Calls Try.prog 86 #[.pointer (some ⟨b, 0, none⟩), .int .u8 x, .int .i64 n] w fun e w' => e = .returned (.int .u8 (Gf.pwr x.toNat n : Nat)) ∧ ∃ q, w' = w.drewN q := by
  obtain ⟨m, rfl⟩ := Int.eq_ofNat_of_zero_le (Int.le_of_lt hx0)
  rw [Int.toNat_natCast]
  have l1 := Gf.lg_lt (a := m) (by omega) (by omega)
  have t0 : 0 ≤ n % 255 := by omega
  have t1 : n % 255 < 255 := by omega
  have p0 : 0 ≤ ((Gf.lg m : Nat) : Int) * (n % 255) := Int.mul_nonneg (by omega) t0
  have p1 : ((Gf.lg m : Nat) : Int) * (n % 255) ≤ 254 * 254 := Int.mul_le_mul (by omega) (by omega) t0 (by omega)
  have c1 := hF.log (a := m) (by omega)
  have c3 := hF.pow (j := ((((Gf.lg m : Nat) : Int) * (n % 255)) % 255).toNat) (by omega)
  rw [Gf.pwr_mod] at c3
  clear hF
  have b1 : (0 : Int) ≤ (((Gf.lg m : Nat) : Int) * (n % 255)) % 255 := by omega
  have b2 : (((Gf.lg m : Nat) : Int) * (n % 255)) % 255 < 255 := by omega
  generalize Gf.pwr m n = r at *
  generalize Gf.lg m = ln at *
  go_enter Try.func86, Try.ntmps86
  go_wp2_with fail
  go_quiet ((go_at_call 90; exact Calls.quiet_of_same (turn_any _ _)))
  rename_i nq
  go_wp2
  go_ret
  exact ⟨rfl, _, rfl⟩

set_option maxHeartbeats 400000 in
theorem mul_any (b : Nat) (x y : Int) (hx0 : 0 ≤ x) (hx : x < 256) (hy0 : 0 ≤ y) (hy : y < 256) (w : World) (hF : IsField b w) :
    Calls Try.prog 43 #[.pointer (some ⟨b, 0, none⟩), .int .u8 x, .int .u8 y] w fun e w' => e = .returned (.int .u8 (Gf.mul x.toNat y.toNat : Nat)) ∧ ∃ q, w' = w.drewN q := by
  have HF := Lib.hid hF; clear hF
  go_enter Try.func43, Try.ntmps43
  go_wp2_with fail
  refine (none_no _ _ HF.out).mono ?_
  rintro e w' ⟨rfl, rfl⟩
  go_wp2_with fail
  refine (product_any _ _ _ hx0 hx hy0 hy _ HF.out).mono ?_
  rintro e w' ⟨rfl, q, rfl⟩
  go_wp2
  go_ret
  exact ⟨rfl, q, rfl⟩

/-- the error of what a byte that is 0 has none of. -/
def zeroErr (x : Int) : Int := if x = 0 then 6 else 0
/-- the inverse; 0 of 0. -/
def invOf (x : Int) : Int := if x = 0 then 0 else (Gf.pwr x.toNat (-1) : Nat)
/-- the power; of 0 to a number below 0: 0. -/
def powOf (x n : Int) : Int := if x = 0 then (if n = 0 then 1 else 0) else (Gf.pwr x.toNat n : Nat)
def powErr (x n : Int) : Int := if x = 0 ∧ n < 0 then 6 else 0
def logOf (x : Int) : Int := if x = 0 then 0 else (Gf.lg x.toNat : Nat)
def mulOf (x y : Int) : Int := (Gf.mul x.toNat y.toNat : Nat)
def expOf (n : Int) : Int := (Gf.pw (n % 255).toNat : Nat)

set_option maxHeartbeats 400000 in
theorem pow_any (b : Nat) (x n : Int) (hx0 : 0 ≤ x) (hx : x < 256) (w : World) (hF : IsField b w) :
    Calls Try.prog 70 #[.pointer (some ⟨b, 0, none⟩), .int .u8 x, .int .i64 n] w fun e w' => e = .returned (.tuple #[.int .u8 (powOf x n), .int .i64 (powErr x n)]) ∧ ∃ q, w' = w.drewN q := by
  have HF := Lib.hid hF; clear hF
  by_cases h : x = 0
  · subst h
    have g0 : (((0 : Int)) != 0) = false := rfl
    by_cases h1 : n < 0
    · have e1 : powOf 0 n = 0 := by unfold powOf; rw [if_pos rfl, if_neg (by omega)]
      have e2 : powErr 0 n = 6 := by unfold powErr; rw [if_pos ⟨rfl, h1⟩]
      rw [e1, e2]; clear e1 e2
      go_enter Try.func70, Try.ntmps70
      go_wp2_with fail
      refine (none_no _ _ HF.out).mono ?_
      rintro e w' ⟨rfl, rfl⟩
      go_wp2
      go_ret2
      exact ⟨rfl, 0, rfl⟩
    · have e2 : powErr 0 n = 0 := by unfold powErr; rw [if_neg (by omega)]
      by_cases h2 : n = 0
      · have e1 : powOf 0 n = 1 := by unfold powOf; rw [if_pos rfl, if_pos h2]
        have g1 : (n == 0) = true := by simpa using h2
        rw [e1, e2]; clear e1 e2 h2
        go_enter Try.func70, Try.ntmps70
        go_wp2_with fail
        refine (none_no _ _ HF.out).mono ?_
        rintro e w' ⟨rfl, rfl⟩
        go_wp2
        go_ret2
        exact ⟨rfl, 0, rfl⟩
      · have e1 : powOf 0 n = 0 := by unfold powOf; rw [if_pos rfl, if_neg h2]
        have g1 : (n == 0) = false := by simpa using h2
        rw [e1, e2]; clear e1 e2
        go_enter Try.func70, Try.ntmps70
        go_wp2_with fail
        refine (none_no _ _ HF.out).mono ?_
        rintro e w' ⟨rfl, rfl⟩
        go_wp2
        go_ret2
        exact ⟨rfl, 0, rfl⟩
  · have e1 : powOf x n = (Gf.pwr x.toNat n : Nat) := by unfold powOf; rw [if_neg h]
    have e2 : powErr x n = 0 := by unfold powErr; rw [if_neg (fun hh => h hh.1)]
    rw [e1, e2]; clear e1 e2
    have g0 : (x != 0) = true := by simpa using h
    go_enter Try.func70, Try.ntmps70
    go_wp2_with fail
    refine (none_no _ _ HF.out).mono ?_
    rintro e w' ⟨rfl, rfl⟩
    go_wp2_with fail
    refine (power_any _ _ _ (by omega) hx _ HF.out).mono ?_
    rintro e w' ⟨rfl, q, rfl⟩
    go_wp2
    go_ret2
    exact ⟨rfl, q, rfl⟩

theorem powOf_inv (x : Int) : powOf x (-1) = invOf x := by unfold powOf invOf; split <;> simp
theorem powErr_inv (x : Int) : powErr x (-1) = zeroErr x := by unfold powErr zeroErr; simp

set_option maxHeartbeats 400000 in
theorem inv_any (b : Nat) (x : Int) (hx0 : 0 ≤ x) (hx : x < 256) (w : World) (hF : IsField b w) :
    Calls Try.prog 42 #[.pointer (some ⟨b, 0, none⟩), .int .u8 x] w fun e w' => e = .returned (.tuple #[.int .u8 (invOf x), .int .i64 (zeroErr x)]) ∧ ∃ q, w' = w.drewN q := by
  have HF := Lib.hid hF; clear hF
  go_enter Try.func42, Try.ntmps42
  go_wp2_with fail
  refine (pow_any _ _ _ hx0 hx _ HF.out).mono ?_
  rintro e w' ⟨rfl, q, rfl⟩
  rw [powOf_inv, powErr_inv]
  go_wp2
  go_ret2
  exact ⟨rfl, q, rfl⟩

theorem add_any (x y : Int) (hx0 : 0 ≤ x) (hx : x < 256) (hy0 : 0 ≤ y) (hy : y < 256) (w : World) :
    Calls Try.prog 24 #[.int .u8 x, .int .u8 y] w fun e w' => e = .returned (.int .u8 (x.toNat ^^^ y.toNat : Nat)) ∧ w' = w := by
  have e := u8_xor x y hx0 hx hy0 hy
  go_enter Try.func24, Try.ntmps24
  go_wp2
  go_ret
  exact ⟨rfl, rfl⟩
end Go.Proofs.Ytdempjkkahjekaa
