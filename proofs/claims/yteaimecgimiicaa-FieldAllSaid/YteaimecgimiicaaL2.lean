import Derived.Test.YteaimecgimiicaaL1
namespace Go.Proofs.Yteaimecgimiicaa
open Go.RowKit

/-- the power of 2, as a number from 0 on. -/
def exN (n : Int) : Nat := Gf.pw (n % 255).toNat
theorem exN_lt (n : Int) : exN n < 256 := Gf.pw_lt _
theorem exN_pwr (n : Int) : exN n = Gf.pwr 2 n := by unfold exN Gf.pwr; rw [lg_two, Nat.one_mul]
theorem exN_add (m n : Int) : exN (m + n) = Gf.mul (exN m) (exN n) := by rw [exN_pwr, exN_pwr, exN_pwr, Gf.pwr_add]
theorem exN_round (m : Int) : exN (m + 255) = exN m := by unfold exN; rw [show (m + 255) % 255 = m % 255 by omega]
theorem exp_q {fb : Nat} {w1 : World} (HF : Hid (IsField fb w1)) (n : Int) (q : Nat) :
    Calls Try.prog 20 #[.pointer (some ⟨fb, 0, none⟩), .int .i64 n] (w1.drewN q) fun e w' => e = .returned (.int .u8 (exN n : Nat)) ∧ ∃ q, w' = w1.drewN q :=
  (exp_any _ n _ (HF.out.drewN q)).mono fun e w' ⟨h1, k, h2⟩ => ⟨h1, q + k, by rw [h2, World.drewN_drewN]⟩
theorem log_q {fb : Nat} {w1 : World} (HF : Hid (IsField fb w1)) (x : Nat) (hx : x < 256) (q : Nat) :
    Calls Try.prog 15 #[.pointer (some ⟨fb, 0, none⟩), .int .u8 x] (w1.drewN q) fun e w' => e = .returned (.tuple #[.int .i64 (logOf x), .int .i64 (zeroErr x)]) ∧ w' = w1.drewN q :=
  log_any _ x (by omega) (by omega) _ (HF.out.drewN q)
theorem pow_q {fb : Nat} {w1 : World} (HF : Hid (IsField fb w1)) (x : Nat) (hx : x < 256) (h0 : x ≠ 0) (n : Int) (q : Nat) :
    Calls Try.prog 13 #[.pointer (some ⟨fb, 0, none⟩), .int .u8 x, .int .i64 n] (w1.drewN q) fun e w' => e = .returned (.tuple #[.int .u8 (Gf.pwr x n : Nat), .int .i64 0]) ∧ ∃ q, w' = w1.drewN q := by
  have h := pow_any fb x n (by omega) (by omega) _ (HF.out.drewN q)
  have e1 : powOf x n = (Gf.pwr x n : Nat) := by unfold powOf; rw [if_neg (by omega), Int.toNat_natCast]
  have e2 : powErr x n = 0 := by unfold powErr; rw [if_neg (fun hh => h0 (by omega))]
  rw [e1, e2] at h
  exact h.mono fun e w' ⟨h1, k, h2⟩ => ⟨h1, q + k, by rw [h2, World.drewN_drewN]⟩
theorem logOf_nat {x : Nat} (h0 : x ≠ 0) : logOf (x : Int) = (Gf.lg x : Nat) := by unfold logOf; rw [if_neg (by omega), Int.toNat_natCast]
theorem zeroErr_no {x : Nat} (h0 : x ≠ 0) : zeroErr (x : Int) = 0 := by unfold zeroErr; rw [if_neg (by omega)]
theorem exN_lg {x : Nat} (hx : x < 256) (h0 : x ≠ 0) : exN ((Gf.lg x : Nat) : Int) = x := by
  have := Gf.lg_lt hx h0
  unfold exN
  rw [show (((Gf.lg x : Nat) : Int) % 255).toNat = Gf.lg x by omega, Gf.pw_lg hx h0]

set_option maxHeartbeats 400000 in
set_option maxRecDepth 100000 in
/-- numbers that are too far away. -/
theorem powers_far (a b : Nat) (m n : Int) (w : World) (hfar : 1099511627776 < m ∨ m < -1099511627776 ∨ 1099511627776 < n ∨ n < -1099511627776) :
    Calls Try.prog 7 #[.int .u8 a, .int .u8 b, .int .i64 m, .int .i64 n] w fun e w' => e = .returned (.bool true) ∧ Below w.heap.size w w' := by
  by_cases h1 : 1099511627776 < m
  · clear hfar
    go_enter Try.func7, Try.ntmps7
    go_wp2_with fail
    refine (awake_any _).mono ?_
    rintro e w0 ⟨rfl, hB0⟩
    have HB0 := Lib.hid hB0; clear hB0
    go_wp2
    go_ret
    exact ⟨rfl, HB0.out⟩
  by_cases h2 : m < -1099511627776
  · clear hfar
    go_enter Try.func7, Try.ntmps7
    go_wp2_with fail
    refine (awake_any _).mono ?_
    rintro e w0 ⟨rfl, hB0⟩
    have HB0 := Lib.hid hB0; clear hB0
    go_wp2
    go_ret
    exact ⟨rfl, HB0.out⟩
  by_cases h3 : 1099511627776 < n
  · clear hfar
    go_enter Try.func7, Try.ntmps7
    go_wp2_with fail
    refine (awake_any _).mono ?_
    rintro e w0 ⟨rfl, hB0⟩
    have HB0 := Lib.hid hB0; clear hB0
    go_wp2
    go_ret
    exact ⟨rfl, HB0.out⟩
  have h4 : n < -1099511627776 := by omega
  clear hfar
  go_enter Try.func7, Try.ntmps7
  go_wp2_with fail
  refine (awake_any _).mono ?_
  rintro e w0 ⟨rfl, hB0⟩
  have HB0 := Lib.hid hB0; clear hB0
  go_wp2
  go_ret
  exact ⟨rfl, HB0.out⟩

set_option maxHeartbeats 2000000 in
set_option maxRecDepth 100000 in
theorem powers_near (a b : Nat) (ha : a < 256) (hb : b < 256) (m n : Int) (w : World) (h1 : m ≤ 1099511627776) (h2 : -1099511627776 ≤ m) (h3 : n ≤ 1099511627776) (h4 : -1099511627776 ≤ n) :
    Calls Try.prog 7 #[.int .u8 a, .int .u8 b, .int .i64 m, .int .i64 n] w fun e w' => e = .returned (.bool true) ∧ Below w.heap.size w w' := by
  have t1 := ne_no (exN_add m n)
  have t2 := ne_no (exN_round m)
  have l1 := exN_lt m
  have l2 := exN_lt n
  go_enter Try.func7, Try.ntmps7
  go_wp2_with fail
  refine (awake_any _).mono ?_
  rintro e w0 ⟨rfl, hB0⟩
  have HB0 := Lib.hid hB0; clear hB0
  go_wp2_with fail
  refine (new_any _).mono ?_
  rintro e w1 ⟨rfl, hF, hB⟩
  have HF := Lib.hid hF; have HB := Lib.hid ((HB0.out.trans (hB.mono HB0.out.size))); clear hF hB HB0
  generalize w0.heap.size = fb at *
  go_wp2_with fail
  refine (exp_q HF (m + n) 0).mono ?_
  rintro e w' ⟨rfl, q, rfl⟩
  go_wp2_with fail
  refine (exp_q HF m q).mono ?_
  rintro e w' ⟨rfl, q, rfl⟩
  go_wp2_with fail
  refine (exp_q HF n q).mono ?_
  rintro e w' ⟨rfl, q, rfl⟩
  go_wp2_with fail
  refine (mul_q HF _ _ q l1 l2).mono ?_
  rintro e w' ⟨rfl, q, rfl⟩
  go_wp2_with fail
  refine (exp_q HF (m + 255) q).mono ?_
  rintro e w' ⟨rfl, q, rfl⟩
  go_wp2_with fail
  refine (exp_q HF m q).mono ?_
  rintro e w' ⟨rfl, q, rfl⟩
  clear l1 l2
  go_wp2_with fail
  refine (log_q HF a ha q).mono ?_
  rintro e w' ⟨rfl, rfl⟩
  go_wp2_with fail
  refine (log_q HF b hb q).mono ?_
  rintro e w' ⟨rfl, rfl⟩
  clear t1 t2
  by_cases a0 : a = 0
  · have g0 : ((a : Int) == 0) = true := by simp [a0]
    have g1 : (zeroErr (a : Int) == 6) = true := by unfold zeroErr; rw [if_pos (by omega)]; rfl
    by_cases b0 : b = 0
    · have g2 : ((b : Int) == 0) = true := by simp [b0]
      have g3 : (zeroErr (b : Int) == 6) = true := by unfold zeroErr; rw [if_pos (by omega)]; rfl
      clear a0 b0
      go_wp2
      go_ret
      exact ⟨rfl, below_drewN HB.out _⟩
    · have g2 : ((b : Int) == 0) = false := by simp; omega
      have g3 : (zeroErr (b : Int) == 6) = false := by rw [zeroErr_no b0]; rfl
      clear a0 b0
      go_wp2
      go_ret
      exact ⟨rfl, below_drewN HB.out _⟩
  · have g0 : ((a : Int) == 0) = false := by simp; omega
    by_cases b0 : b = 0
    · have g1 : (zeroErr (a : Int) == 6) = false := by rw [zeroErr_no a0]; rfl
      have g2 : ((b : Int) == 0) = true := by simp [b0]
      have g3 : (zeroErr (b : Int) == 6) = true := by unfold zeroErr; rw [if_pos (by omega)]; rfl
      clear a0 b0
      go_wp2
      go_ret
      exact ⟨rfl, below_drewN HB.out _⟩
    · have g2 : ((b : Int) == 0) = false := by simp; omega
      rw [zeroErr_no a0, zeroErr_no b0, logOf_nat a0, logOf_nat b0]
      have l1 := Gf.pwr_lt a m
      have l2 := Gf.pwr_lt a n
      have l3 := Gf.mul_lt ha hb
      have l4 := Gf.lg_lt ha a0
      have l5 := Gf.lg_lt hb b0
      have HA := Lib.hid a0; have HB0 := Lib.hid b0
      have HM := Lib.hid (Gf.mul_pos ha hb a0 b0)
      have t1 := eq_yes (exN_lg ha a0)
      have t2 := eq_yes (Gf.pwr_add a m n)
      have t3 : (((Gf.lg (Gf.mul a b) : Nat) : Int) == (((Gf.lg a : Nat) : Int) + ((Gf.lg b : Nat) : Int)) % 255) = true := by
        rw [Gf.lg_mul ha hb a0 b0]; simp
      have t4 : (0 : Int) ≤ ((Gf.lg a : Nat) : Int) := by omega
      clear a0 b0
      go_wp2_with fail
      refine (pow_q HF a ha HA.out m q).mono ?_
      rintro e w' ⟨rfl, q, rfl⟩
      go_wp2_with fail
      refine (pow_q HF a ha HA.out n q).mono ?_
      rintro e w' ⟨rfl, q, rfl⟩
      go_wp2_with fail
      refine (pow_q HF a ha HA.out (m + n) q).mono ?_
      rintro e w' ⟨rfl, q, rfl⟩
      go_wp2_with fail
      refine (mul_q HF a b q ha hb).mono ?_
      rintro e w' ⟨rfl, q, rfl⟩
      go_wp2_with fail
      refine (log_q HF _ l3 q).mono ?_
      rintro e w' ⟨rfl, rfl⟩
      rw [zeroErr_no HM.out, logOf_nat HM.out]
      go_wp2_with fail
      refine (exp_q HF _ q).mono ?_
      rintro e w' ⟨rfl, q, rfl⟩
      go_wp2_with fail
      refine (mul_q HF _ _ q l1 l2).mono ?_
      rintro e w' ⟨rfl, q, rfl⟩
      go_wp2
      go_ret
      exact ⟨rfl, below_drewN HB.out _⟩

theorem fieldPowers_nat (a b : Nat) (ha : a < 256) (hb : b < 256) (m n : Int) (w : World) :
    Calls Try.prog 7 #[.int .u8 a, .int .u8 b, .int .i64 m, .int .i64 n] w fun e w' => e = .returned (.bool true) ∧ Below w.heap.size w w' := by
  by_cases h : 1099511627776 < m ∨ m < -1099511627776 ∨ 1099511627776 < n ∨ n < -1099511627776
  · exact powers_far a b m n w h
  · exact powers_near a b ha hb m n w (by omega) (by omega) (by omega) (by omega)
end Go.Proofs.Yteaimecgimiicaa
