import Derived.Test.YteaimecgimiicaaFr
import Derived.OpenShut
namespace Go.Proofs.Yteaimecgimiicaa
open Go.RowKit

theorem awake_inv : invOf 2 = 142 := by decide +kernel
theorem awake_log : logOf 4 = 2 := by decide +kernel
theorem awake_mul : Gf.mul 2 128 = 29 := by decide +kernel

set_option maxHeartbeats 400000 in
theorem awake_any (w : World) :
    Calls Try.prog 22 #[] w fun e w' => e = .returned (.bool true) ∧ Below w.heap.size w w' := by
  go_enter Try.func22, Try.ntmps22
  go_wp2_with fail
  refine (new_any _).mono ?_
  rintro e w1 ⟨rfl, hF, hB⟩
  have HF := Lib.hid hF; have HB := Lib.hid hB; clear hF hB
  go_wp2_with fail
  refine (inv_any _ 2 (by omega) (by omega) _ HF.out).mono ?_
  rintro e w' ⟨rfl, q, rfl⟩
  rw [awake_inv, show zeroErr 2 = 0 from rfl]
  go_wp2_with fail
  refine (log_any _ 4 (by omega) (by omega) _ (HF.out.drewN _)).mono ?_
  rintro e w' ⟨rfl, rfl⟩
  rw [awake_log, show zeroErr 4 = 0 from rfl]
  go_wp2_with fail
  refine (mul_any _ 2 128 (by omega) (by omega) (by omega) (by omega) _ (HF.out.drewN _)).mono ?_
  rintro e w' ⟨rfl, q2, rfl⟩
  rw [show ((Gf.mul (2 : Int).toNat (128 : Int).toNat : Nat) : Int) = 29 from congrArg Int.ofNat awake_mul]
  go_wp2
  go_ret
  exact ⟨rfl, below_drewN HB.out _⟩

theorem mul_nat (b : Nat) (x y : Nat) (hx : x < 256) (hy : y < 256) (w : World) (hF : IsField b w) :
    Calls Try.prog 18 #[.pointer (some ⟨b, 0, none⟩), .int .u8 x, .int .u8 y] w fun e w' => e = .returned (.int .u8 (Gf.mul x y : Nat)) ∧ ∃ q, w' = w.drewN q :=
  mul_any b x y (by omega) (by omega) (by omega) (by omega) w hF
theorem add_nat (x y : Nat) (hx : x < 256) (hy : y < 256) (w : World) :
    Calls Try.prog 17 #[.int .u8 x, .int .u8 y] w fun e w' => e = .returned (.int .u8 (x ^^^ y : Nat)) ∧ w' = w :=
  add_any x y (by omega) (by omega) (by omega) (by omega) w

/-- the inverse of a byte, as a number from 0 on. -/
def ivN (b : Nat) : Nat := if b = 0 then 0 else Gf.pwr b (-1)
theorem ivN_lt (b : Nat) : ivN b < 256 := by unfold ivN; split; omega; exact Gf.pwr_lt _ _
theorem invOf_nat (b : Nat) : invOf (b : Int) = (ivN b : Nat) := by
  unfold invOf ivN
  by_cases h : b = 0
  · rw [if_pos h, if_pos (by omega)]; rfl
  · rw [if_neg h, if_neg (by omega), Int.toNat_natCast]
theorem div_nat (b : Nat) (x y : Nat) (hx : x < 256) (hy : y < 256) (w : World) (hF : IsField b w) :
    Calls Try.prog 11 #[.pointer (some ⟨b, 0, none⟩), .int .u8 x, .int .u8 y] w fun e w' => e = .returned (.tuple #[.int .u8 (Gf.mul x (ivN y) : Nat), .int .i64 (zeroErr y)]) ∧ ∃ q, w' = w.drewN q := by
  have h := div_any b x y (by omega) (by omega) (by omega) (by omega) w hF
  have e : mulOf x (invOf y) = (Gf.mul x (ivN y) : Nat) := by unfold mulOf; rw [invOf_nat, Int.toNat_natCast, Int.toNat_natCast]
  rw [e] at h; exact h
theorem inv_nat (b : Nat) (x : Nat) (hx : x < 256) (w : World) (hF : IsField b w) :
    Calls Try.prog 9 #[.pointer (some ⟨b, 0, none⟩), .int .u8 x] w fun e w' => e = .returned (.tuple #[.int .u8 (ivN x : Nat), .int .i64 (zeroErr x)]) ∧ ∃ q, w' = w.drewN q := by
  have h := inv_any b x (by omega) (by omega) w hF
  rw [invOf_nat] at h; exact h

theorem ne_no {x y : Nat} (h : x = y) : (((x : Nat) : Int) != (y : Int)) = false := by simp [h]
theorem eq_yes {x y : Nat} (h : x = y) : (((x : Nat) : Int) == (y : Int)) = true := by simp [h]
theorem eq_no {x y : Nat} (h : x ≠ y) : (((x : Nat) : Int) == (y : Int)) = false := by simp; omega
theorem ne_yes {x y : Nat} (h : x ≠ y) : (((x : Nat) : Int) != (y : Int)) = true := by simp; omega

/-- what a field's calls answer, in any world that differs by draws. -/
theorem mul_q {fb : Nat} {w1 : World} (HF : Hid (IsField fb w1)) (x y q : Nat) (hx : x < 256) (hy : y < 256) :
    Calls Try.prog 18 #[.pointer (some ⟨fb, 0, none⟩), .int .u8 x, .int .u8 y] (w1.drewN q) fun e w' => e = .returned (.int .u8 (Gf.mul x y : Nat)) ∧ ∃ q, w' = w1.drewN q :=
  (mul_nat _ x y hx hy _ (HF.out.drewN q)).mono fun e w' ⟨h1, n, h2⟩ => ⟨h1, q + n, by rw [h2, World.drewN_drewN]⟩

set_option maxHeartbeats 2000000 in
set_option maxRecDepth 100000 in
theorem fieldLaws_nat (a b c : Nat) (ha : a < 256) (hb : b < 256) (hc : c < 256) (w : World) :
    Calls Try.prog 6 #[.int .u8 a, .int .u8 b, .int .u8 c] w fun e w' => e = .returned (.bool true) ∧ Below w.heap.size w w' := by
  have t1 := ne_no (Gf.mul_comm ha hb)
  have t2 := ne_no (Gf.mul_assoc ha hb hc)
  have t3 := ne_no (Gf.mul_xor a b c)
  have t4 := ne_no (Nat.xor_comm a b)
  have t5 := ne_no (show a ^^^ (b ^^^ c) = a ^^^ b ^^^ c by rw [Nat.xor_assoc])
  have t6 : (((a ^^^ a : Nat) : Int) != 0) = false := by simp
  have t7 : (((Gf.mul a 0 : Nat) : Int) != 0) = false := by rw [Gf.mul_zero]; rfl
  have t8 := ne_no (Gf.mul_one' ha)
  have l1 := Gf.mul_lt hb hc
  have l2 := Gf.mul_lt ha hb
  have l3 := Gf.mul_lt ha hc
  have l4 := Gf.xor_lt hb hc
  have l5 := Gf.xor_lt ha hb
  have l6 := ivN_lt b
  have l7 := Gf.mul_lt ha l6
  go_enter Try.func6, Try.ntmps6
  go_wp2_with fail
  refine (awake_any _).mono ?_
  rintro e w0 ⟨rfl, hB0⟩
  have HB0 := Lib.hid hB0; clear hB0
  go_wp2_with fail
  refine (new_any _).mono ?_
  rintro e w1 ⟨rfl, hF, hB⟩
  have HF := Lib.hid hF; have HB := Lib.hid ((HB0.out.trans (hB.mono HB0.out.size))); clear hF hB HB0
  generalize w0.heap.size = fb at *
  go_wp2_with fail
  refine (mul_q HF a b 0 ha hb).mono ?_
  rintro e w' ⟨rfl, q, rfl⟩
  go_wp2_with fail
  refine (mul_q HF b a q hb ha).mono ?_
  rintro e w' ⟨rfl, q, rfl⟩
  go_wp2_with fail
  refine (mul_q HF b c q hb hc).mono ?_
  rintro e w' ⟨rfl, q, rfl⟩
  go_wp2_with fail
  refine (mul_q HF a _ q ha l1).mono ?_
  rintro e w' ⟨rfl, q, rfl⟩
  go_wp2_with fail
  refine (mul_q HF a b q ha hb).mono ?_
  rintro e w' ⟨rfl, q, rfl⟩
  go_wp2_with fail
  refine (mul_q HF _ c q l2 hc).mono ?_
  rintro e w' ⟨rfl, q, rfl⟩
  go_wp2_with fail
  refine (add_nat b c hb hc _).mono ?_
  rintro e w' ⟨rfl, rfl⟩
  go_wp2_with fail
  refine (mul_q HF a _ q ha l4).mono ?_
  rintro e w' ⟨rfl, q, rfl⟩
  go_wp2_with fail
  refine (mul_q HF a b q ha hb).mono ?_
  rintro e w' ⟨rfl, q, rfl⟩
  go_wp2_with fail
  refine (mul_q HF a c q ha hc).mono ?_
  rintro e w' ⟨rfl, q, rfl⟩
  go_wp2_with fail
  refine (add_nat _ _ l2 l3 _).mono ?_
  rintro e w' ⟨rfl, rfl⟩
  go_wp2_with fail
  refine (add_nat a b ha hb _).mono ?_
  rintro e w' ⟨rfl, rfl⟩
  go_wp2_with fail
  refine (add_nat b a hb ha _).mono ?_
  rintro e w' ⟨rfl, rfl⟩
  go_wp2_with fail
  refine (add_nat b c hb hc _).mono ?_
  rintro e w' ⟨rfl, rfl⟩
  go_wp2_with fail
  refine (add_nat a _ ha l4 _).mono ?_
  rintro e w' ⟨rfl, rfl⟩
  go_wp2_with fail
  refine (add_nat a b ha hb _).mono ?_
  rintro e w' ⟨rfl, rfl⟩
  go_wp2_with fail
  refine (add_nat _ c l5 hc _).mono ?_
  rintro e w' ⟨rfl, rfl⟩
  go_wp2_with fail
  refine (add_nat a a ha ha _).mono ?_
  rintro e w' ⟨rfl, rfl⟩
  go_wp2_with fail
  refine (mul_q HF a 0 q ha (by omega)).mono ?_
  rintro e w' ⟨rfl, q, rfl⟩
  go_wp2_with fail
  refine (mul_q HF a 1 q ha (by omega)).mono ?_
  rintro e w' ⟨rfl, q, rfl⟩
  clear t1 t2 t3 t4 t5 t6 t7 l1 l3 l4 l5
  go_wp2_with fail
  refine (div_nat _ a b ha hb _ (HF.out.drewN q)).mono ?_
  rintro e w' ⟨rfl, q2, rfl⟩
  go_wp2_with fail
  refine (inv_nat _ b hb _ (HF.out.drewN _)).mono ?_
  rintro e w' ⟨rfl, q3, rfl⟩
  clear t8
  by_cases b0 : b = 0
  · have g0 : ((b : Int) == 0) = true := by simp [b0]
    have g1 : (zeroErr (b : Int) == 6) = true := by unfold zeroErr; rw [if_pos (by omega)]; rfl
    have g2 : (((Gf.mul a (ivN b) : Nat) : Int) == 0) = true := by unfold ivN; rw [if_pos b0, Gf.mul_zero]; rfl
    have g3 : (((ivN b : Nat) : Int) == 0) = true := by unfold ivN; rw [if_pos b0]; rfl
    clear b0
    go_wp2
    go_ret
    exact ⟨rfl, below_drewN HB.out _⟩
  · have hiv : ivN b = Gf.pwr b (-1) := by unfold ivN; rw [if_neg b0]
    have hmi := Gf.mul_inv hb b0
    have g0 : ((b : Int) == 0) = false := by simp; omega
    have g1 : (zeroErr (b : Int) == 0) = true := by unfold zeroErr; rw [if_neg (by omega)]; rfl
    have g2 := eq_yes (show Gf.mul (Gf.mul a (ivN b)) b = a by rw [← Gf.mul_assoc ha l6 hb, hiv, hmi, Gf.mul_one' ha])
    have g3 : (((Gf.mul (ivN b) b : Nat) : Int) == 1) = true := by rw [hiv, hmi]; rfl
    have HP := Lib.hid (fun h => Gf.mul_pos ha hb h b0)
    clear b0 hiv hmi
    go_wp2_with fail
    refine (mul_q HF _ b _ l7 hb).mono ?_
    rintro e w' ⟨rfl, q, rfl⟩
    go_wp2_with fail
    refine (mul_q HF _ b _ l6 hb).mono ?_
    rintro e w' ⟨rfl, q, rfl⟩
    by_cases a0 : a = 0
    · have g4 : ((a : Int) == 0) = true := by simp [a0]
      clear a0
      go_wp2
      go_ret
      exact ⟨rfl, below_drewN HB.out _⟩
    · have g4 : ((a : Int) == 0) = false := by simp; omega
      have g5 : (((Gf.mul a b : Nat) : Int) != 0) = true := by have := HP.out a0; simp; omega
      clear a0
      go_wp2_with fail
      refine (mul_q HF a b _ ha hb).mono ?_
      rintro e w' ⟨rfl, q, rfl⟩
      go_wp2
      go_ret
      exact ⟨rfl, below_drewN HB.out _⟩

theorem byte_of {a : Int} (h : (Lit.int .u8 a).wf = true) : ∃ n : Nat, a = (n : Int) ∧ n < 256 := by
  have hb := bounds_u8 h
  exact ⟨a.toNat, by omega, by omega⟩
end Go.Proofs.Yteaimecgimiicaa
