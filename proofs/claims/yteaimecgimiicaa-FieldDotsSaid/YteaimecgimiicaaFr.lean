import Derived.Test.YteaimecgimiicaaFx
namespace Go.Proofs.Yteaimecgimiicaa
open Go.RowKit

theorem i64_xor_nat (a b : Nat) (ha : a < 2 ^ 62) (hb : b < 2 ^ 62) : bits .xor .i64 (a : Int) (b : Int) = ((a ^^^ b : Nat) : Int) := by
  have hx : a ^^^ b < 2 ^ 62 := Nat.xor_lt_two_pow ha hb
  show IntKind.i64.wrap ((BitVec.ofInt 64 (a : Int) ^^^ BitVec.ofInt 64 (b : Int)).toNat : Int) = _
  rw [BitVec.toNat_xor, ofInt_u64 a (by omega), ofInt_u64 b (by omega), IntKind.wrap_i64]
  omega
theorem i64_and_nat (a b : Nat) (ha : a < 2 ^ 62) (hb : b < 2 ^ 62) : bits .and .i64 (a : Int) (b : Int) = ((a &&& b : Nat) : Int) := by
  have hx : a &&& b < 2 ^ 62 := Nat.and_lt_two_pow _ hb
  show IntKind.i64.wrap ((BitVec.ofInt 64 (a : Int) &&& BitVec.ofInt 64 (b : Int)).toNat : Int) = _
  rw [BitVec.toNat_and, ofInt_u64 a (by omega), ofInt_u64 b (by omega), IntKind.wrap_i64]
  omega
theorem bit_of (p k : Nat) : ((p / 2 ^ k &&& 1) == 1) = p.testBit k := by
  rw [Nat.testBit_eq_decide_div_mod_eq, Nat.and_one_is_mod, Bool.eq_iff_iff]; simp
theorem u8_bit (m k : Nat) (hm : m < 256) : (bits .and .u8 ((m : Int) / 2 ^ k) 1 == 1) = m.testBit k := by
  have h : (m : Int) / 2 ^ k = ((m / 2 ^ k : Nat) : Int) := by simp
  have hl : m / 2 ^ k ≤ m := Nat.div_le_self _ _
  rw [h, show (1 : Int) = ((1 : Nat) : Int) from rfl, u8_and_nat _ _ (by omega) (by omega), ← bit_of]
  rw [Bool.eq_iff_iff]; simp; omega
theorem i64_bit (m k : Nat) (hm : m < 2 ^ 62) : (bits .and .i64 ((m : Int) / 2 ^ k) 1 == 1) = m.testBit k := by
  have h : (m : Int) / 2 ^ k = ((m / 2 ^ k : Nat) : Int) := by simp
  have hl : m / 2 ^ k ≤ m := Nat.div_le_self _ _
  rw [h, show (1 : Int) = ((1 : Nat) : Int) from rfl, i64_and_nat _ _ (by omega) (by omega), ← bit_of]
  rw [Bool.eq_iff_iff]; simp; omega

theorem Gf.shl_lt {n k : Nat} (hn : n < 256) (hk : k < 8) : n <<< k < 32768 := by
  rw [Nat.shiftLeft_eq]
  have : 2 ^ k ≤ 2 ^ 7 := Nat.pow_le_pow_right (by omega) (by omega)
  have := Nat.mul_le_mul (show n ≤ 255 by omega) this
  omega
theorem Gf.acc_lt {n m : Nat} (hn : n < 256) : ∀ k, k ≤ 8 → Gf.acc n m k < 32768
  | 0, _ => by show 0 < _; omega
  | k + 1, hk => by
    have h1 := Gf.acc_lt (m := m) hn k (by omega)
    unfold Gf.acc
    split
    · exact Nat.xor_lt_two_pow (n := 15) h1 (Gf.shl_lt hn (by omega))
    · exact h1
theorem Gf.red_lt {p : Nat} (hp : p < 32768) : ∀ k, k ≤ 8 → Gf.red p k < 65536
  | 0, _ => by show p < _; omega
  | k + 1, hk => by
    have h1 := Gf.red_lt hp k (by omega)
    unfold Gf.red
    split
    · refine Nat.xor_lt_two_pow (n := 16) h1 ?_
      rw [Nat.shiftLeft_eq]
      have : 2 ^ (7 - k) ≤ 2 ^ 7 := Nat.pow_le_pow_right (by omega) (by omega)
      have := Nat.mul_le_mul (Nat.le_refl 285) this
      omega
    · exact h1
theorem Gf.acc_yes {n m k : Nat} (hn : n < 256) (hk : k < 8) (h : m.testBit k = true) : bits .xor .i64 ((Gf.acc n m k : Nat) : Int) ((n : Int) * 2 ^ k) = ((Gf.acc n m (k + 1) : Nat) : Int) := by
  have h1 := Gf.acc_lt (m := m) hn k (by omega)
  have h2 := Gf.shl_lt hn hk
  rw [show (n : Int) * 2 ^ k = ((n <<< k : Nat) : Int) by rw [Nat.shiftLeft_eq]; simp, i64_xor_nat _ _ (by omega) (by omega)]
  conv => rhs; unfold Gf.acc
  rw [if_pos h]
theorem Gf.acc_no {n m k : Nat} (h : m.testBit k = false) : Gf.acc n m (k + 1) = Gf.acc n m k := by
  conv => lhs; unfold Gf.acc
  rw [if_neg (by simp [h])]
theorem Gf.red_yes {p k : Nat} (hp : p < 32768) (hk : k < 8) (h : (Gf.red p k).testBit (15 - k) = true) : bits .xor .i64 ((Gf.red p k : Nat) : Int) (285 * 2 ^ (7 - k)) = ((Gf.red p (k + 1) : Nat) : Int) := by
  have h1 := Gf.red_lt hp k (by omega)
  have h2 : 285 <<< (7 - k) < 65536 := by
    rw [Nat.shiftLeft_eq]
    have : 2 ^ (7 - k) ≤ 2 ^ 7 := Nat.pow_le_pow_right (by omega) (by omega)
    have := Nat.mul_le_mul (Nat.le_refl 285) this
    omega
  rw [show (285 : Int) * (2 : Int) ^ (7 - k) = ((285 <<< (7 - k) : Nat) : Int) by rw [Nat.shiftLeft_eq]; simp, i64_xor_nat _ _ (by omega) (by omega)]
  conv => rhs; unfold Gf.red
  rw [if_pos h]
theorem Gf.red_no {p k : Nat} (h : (Gf.red p k).testBit (15 - k) = false) : Gf.red p (k + 1) = Gf.red p k := by
  conv => lhs; unfold Gf.red
  rw [if_neg (by simp [h])]

set_option maxHeartbeats 800000 in
theorem rmul_any (n m : Nat) (hn : n < 256) (hm : m < 256) (w : World) :
    Calls Try.prog 19 #[.int .u8 n, .int .u8 m] w fun e w' => e = .returned (.int .u8 (Gf.mul n m : Nat)) ∧ w' = w := by
  have hl := Gf.mul_lt hn hm
  have H8 := Lib.hid (Gf.acc_lt (m := m) hn 8 (by omega))
  go_enter Try.func19, Try.ntmps19
  go_wp2_with fail
  go_loop [5, 6] (fun p i => ∃ k : Nat, k ≤ 8 ∧ i = .int .i64 k ∧ p = .int .i64 (Gf.acc n m k : Nat)) (fun _ i => 8 - (intOf i).toNat)
  case atStart => exact ⟨0, by omega, rfl, rfl⟩
  case round =>
    obtain ⟨k, hk, rfl, rfl⟩ := hrel
    by_cases hlt : k < 8
    · have hw : wrap64 ((n : Int) * 2 ^ k) = (n : Int) * 2 ^ k := by
        have h2 := Gf.shl_lt hn hlt
        rw [show (n : Int) * 2 ^ k = ((n <<< k : Nat) : Int) by rw [Nat.shiftLeft_eq]; simp]
        generalize n <<< k = s at *
        unfold wrap64; omega
      have hb := u8_bit m k hm
      cases ht : m.testBit k with
      | true =>
        rw [ht] at hb
        have hx := Gf.acc_yes hn hlt ht
        clear ht hl
        go_wp2_with fail
        go_round
        case rel => exact ⟨k + 1, by omega, by go_num, rfl⟩
        case measure => simp [intOf]; omega
      | false =>
        rw [ht] at hb
        have hx := Gf.acc_no (n := n) ht
        clear ht hl
        go_wp2_with fail
        go_round
        case rel => exact ⟨k + 1, by omega, by go_num, by rw [hx]⟩
        case measure => simp [intOf]; omega
    · obtain rfl : k = 8 := by omega
      go_wp2_with fail
      go_loop [5, 7] (fun p i => ∃ k : Nat, k ≤ 8 ∧ i = .int .i64 (15 - (k : Int)) ∧ p = .int .i64 (Gf.red (Gf.acc n m 8) k : Nat)) (fun _ i => (intOf i).toNat)
      case atStart => exact ⟨0, by omega, rfl, rfl⟩
      case round =>
        obtain ⟨k, hk, rfl, rfl⟩ := hrel
        by_cases hlt : k < 8
        · have h2 : (285 : Int) * 2 ^ (7 - k) < 65536 ∧ 0 ≤ (285 : Int) * 2 ^ (7 - k) := by
            have : 2 ^ (7 - k) ≤ 2 ^ 7 := Nat.pow_le_pow_right (by omega) (by omega)
            have := Nat.mul_le_mul (Nat.le_refl 285) this
            rw [show (285 : Int) * 2 ^ (7 - k) = ((285 * 2 ^ (7 - k) : Nat) : Int) by simp]
            omega
          have hw : wrap64 ((285 : Int) * 2 ^ (7 - k)) = (285 : Int) * 2 ^ (7 - k) := by
            unfold wrap64; omega
          clear h2
          have e1 : (15 - (k : Int)).toNat = 15 - k := by omega
          have e2 : (15 - (k : Int) - 8).toNat = 7 - k := by omega
          have hb := i64_bit (Gf.red (Gf.acc n m 8) k) (15 - k) (by have := Gf.red_lt H8.out k (by omega); omega)
          cases ht : (Gf.red (Gf.acc n m 8) k).testBit (15 - k) with
          | true =>
            rw [ht] at hb
            have hx := Gf.red_yes H8.out hlt ht
            clear ht hl
            go_wp2_with fail
            go_round
            case rel => exact ⟨k + 1, by omega, by congr 1; omega, rfl⟩
            case measure => simp [intOf]; omega
          | false =>
            rw [ht] at hb
            have hx := Gf.red_no ht
            clear ht hl
            go_wp2_with fail
            go_round
            case rel => exact ⟨k + 1, by omega, by congr 1; omega, by rw [hx]⟩
            case measure => simp [intOf]; omega
        · obtain rfl : k = 8 := by omega
          have hh : Gf.red (Gf.acc n m 8) 8 = Gf.mul n m := rfl
          rw [hh]
          clear hh
          go_wp2
          go_ret
          exact ⟨rfl, rfl⟩

/-- the same, of any two numbers that are bytes. -/
theorem rmul_int (x y : Int) (hx0 : 0 ≤ x) (hx : x < 256) (hy0 : 0 ≤ y) (hy : y < 256) (w : World) :
    Calls Try.prog 19 #[.int .u8 x, .int .u8 y] w fun e w' => e = .returned (.int .u8 (mulOf x y)) ∧ w' = w := by
  obtain ⟨n, rfl⟩ := Int.eq_ofNat_of_zero_le hx0
  obtain ⟨m, rfl⟩ := Int.eq_ofNat_of_zero_le hy0
  exact rmul_any n m (by omega) (by omega) w

/-- where the inverse stands. -/
theorem inv_at {a : Nat} (ha : a < 256) (h0 : a ≠ 0) (b : Nat) (hb : b < 256) : (Gf.mul a b = 1) ↔ b = Gf.pwr a (-1) := by
  have hi := Gf.pwr_lt a (-1)
  constructor
  · intro h
    rw [← Gf.mul_one b hb, ← Gf.mul_inv ha h0, ← Gf.mul_assoc hi ha hb, h, Gf.mul_one' hi]
  · intro h
    rw [h, Gf.mul_comm ha hi, Gf.mul_inv ha h0]

set_option maxHeartbeats 800000 in
set_option maxRecDepth 100000 in
theorem rinv_any (x : Int) (hx0 : 0 ≤ x) (hx : x < 256) (w : World) :
    Calls Try.prog 10 #[.int .u8 x] w fun e w' => e = .returned (.tuple #[.int .u8 (invOf x), .int .i64 (zeroErr x)]) ∧ w' = w := by
  go_enter Try.func10, Try.ntmps10
  go_wp2_with fail
  go_loopw [4] (fun i wr => ∃ k : Nat, 1 ≤ k ∧ k ≤ 256 ∧ i = .int .i64 k ∧ (x ≠ 0 → (k : Int) ≤ invOf x) ∧ wr = w) (fun i _ => 256 - (intOf i).toNat)
  case atStart => exact ⟨1, by omega, by omega, rfl, fun h => by unfold invOf; rw [if_neg h]; have := Gf.pwr_pos x.toNat (-1); omega, rfl⟩
  case round =>
    rename_i wr
    obtain ⟨k, hk1, hk, rfl, hle, rfl⟩ := hrel
    by_cases hlt : k < 256
    · by_cases h0 : x = 0
      · have hm : (mulOf x (k : Int) == 1) = false := by subst h0; unfold mulOf; show (((Gf.mul 0 _ : Nat) : Int) == 1) = false; rw [Gf.zero_mul]; rfl
        have H0 := Lib.hid h0; have HL := Lib.hid hle; clear h0 hle
        go_wp2_with fail
        refine (rmul_int _ _ hx0 hx (by omega) (by omega) _).mono ?_
        rintro e w' ⟨rfl, rfl⟩
        go_wp2
        go_roundw
        case rel => exact ⟨k + 1, by omega, by omega, by go_num, fun h => absurd H0.out h, by trivial⟩
        case measure => simp [intOf]; omega
      · have HL := Lib.hid (hle h0); have H0 := Lib.hid h0; clear hle
        have hat := inv_at (a := x.toNat) (by omega) (by omega) k hlt
        have hiv : invOf x = (Gf.pwr x.toNat (-1) : Nat) := by unfold invOf; rw [if_neg h0]
        have hze : zeroErr x = 0 := by unfold zeroErr; rw [if_neg h0]
        by_cases hq : (k : Int) = invOf x
        · have hm : (mulOf x (k : Int) == 1) = true := by
            unfold mulOf; rw [Int.toNat_natCast, hat.2 (by omega)]; rfl
          have HQ := Lib.hid hq; have HZ := Lib.hid hze; clear h0 hat hiv hq hze
          go_wp2_with fail
          refine (rmul_int _ _ hx0 hx (by omega) (by omega) _).mono ?_
          rintro e w' ⟨rfl, rfl⟩
          go_wp2
          go_ret2
          exact ⟨by rw [← HQ.out, HZ.out]; rfl, rfl⟩
        · have hm : (mulOf x (k : Int) == 1) = false := by
            unfold mulOf; rw [Int.toNat_natCast]
            have : ¬ Gf.mul x.toNat k = 1 := fun h => hq (by rw [hiv, ← hat.1 h])
            simp; omega
          have HQ := Lib.hid hq; clear h0 hat hiv hq hze
          go_wp2_with fail
          refine (rmul_int _ _ hx0 hx (by omega) (by omega) _).mono ?_
          rintro e w' ⟨rfl, rfl⟩
          go_wp2
          go_roundw
          case rel => exact ⟨k + 1, by omega, by omega, by go_num, fun _ => by have := HL.out; have := HQ.out; omega, by trivial⟩
          case measure => simp [intOf]; omega
    · have h0 : x = 0 := Decidable.byContradiction fun h => by
        have := hle h
        unfold invOf at this; rw [if_neg h] at this
        have := Gf.pwr_lt x.toNat (-1)
        omega
      subst h0
      clear hle
      go_wp2
      go_ret2
      exact ⟨rfl, rfl⟩

set_option maxHeartbeats 400000 in
theorem rdiv_any (x y : Int) (hx0 : 0 ≤ x) (hx : x < 256) (hy0 : 0 ≤ y) (hy : y < 256) (w : World) :
    Calls Try.prog 12 #[.int .u8 x, .int .u8 y] w fun e w' => e = .returned (.tuple #[.int .u8 (mulOf x (invOf y)), .int .i64 (zeroErr y)]) ∧ w' = w := by
  by_cases h : y = 0
  · have e1 : mulOf x (invOf y) = 0 := by unfold mulOf invOf; rw [if_pos h]; show ((Gf.mul x.toNat 0 : Nat) : Int) = 0; rw [Gf.mul_zero]; rfl
    have e2 : zeroErr y = 6 := by unfold zeroErr; rw [if_pos h]
    have e3 : invOf y = 0 := by unfold invOf; rw [if_pos h]
    rw [e1, e2]
    have E2 := Lib.hid e2; have E3 := Lib.hid e3; clear e1 e2 e3 h
    go_enter Try.func12, Try.ntmps12
    go_wp2_with fail
    refine (rinv_any _ hy0 hy _).mono ?_
    rintro e w' ⟨rfl, rfl⟩
    rw [E2.out, E3.out]
    go_wp2
    go_ret2
    exact ⟨rfl, rfl⟩
  · have e2 : zeroErr y = 0 := by unfold zeroErr; rw [if_neg h]
    have e3 : 0 ≤ invOf y ∧ invOf y < 256 := by unfold invOf; rw [if_neg h]; have := Gf.pwr_lt y.toNat (-1); omega
    rw [e2]
    have E2 := Lib.hid e2; clear e2
    obtain ⟨i0, i1⟩ := e3
    go_enter Try.func12, Try.ntmps12
    go_wp2_with fail
    refine (rinv_any _ hy0 hy _).mono ?_
    rintro e w' ⟨rfl, rfl⟩
    rw [E2.out]
    go_wp2_with fail
    refine (rmul_int _ _ hx0 hx i0 i1 _).mono ?_
    rintro e w' ⟨rfl, rfl⟩
    go_wp2
    go_ret2
    exact ⟨rfl, rfl⟩

theorem mod_twice (n : Int) : ((n.tmod 255 + 255).tmod 255) = n % 255 := by
  by_cases h : 0 ≤ n
  · rw [tm_pos n h, tm_pos _ (by omega)]; omega
  · rcases tm_neg n (by omega) with ⟨h0, e⟩ | ⟨h0, e⟩
    · rw [e, tm_pos _ (by omega)]; omega
    · rw [e, tm_pos _ (by omega)]; omega
theorem tm_bd (n : Int) : -255 < n.tmod 255 ∧ n.tmod 255 < 255 := by
  by_cases h : 0 ≤ n
  · rw [tm_pos n h]; omega
  · rcases tm_neg n (by omega) with ⟨h0, e⟩ | ⟨h0, e⟩ <;> omega

/-- so many times. -/
def powN (a : Nat) : Nat → Nat
  | 0 => 1
  | k + 1 => Gf.mul (powN a k) a
theorem powN_eq {a : Nat} (ha : a < 256) (h0 : a ≠ 0) : ∀ k, powN a k = Gf.pwr a (k : Int)
  | 0 => rfl
  | k + 1 => by
    show Gf.mul (powN a k) a = _
    rw [powN_eq ha h0 k]
    conv => lhs; rw [← Gf.pwr_one ha h0]
    rw [show Gf.pwr (Gf.pwr a 1) (k : Int) = Gf.pwr a (k : Int) by rw [Gf.pwr_one ha h0], Gf.pwr_add]; rfl

set_option maxHeartbeats 800000 in
set_option maxRecDepth 100000 in
theorem rpow_yes (x n : Int) (hx0 : 0 < x) (hx : x < 256) (w : World) :
    Calls Try.prog 14 #[.int .u8 x, .int .i64 n] w fun e w' => e = .returned (.tuple #[.int .u8 (Gf.pwr x.toNat n : Nat), .int .i64 0]) ∧ w' = w := by
  have g0 : (x == 0) = false := by simp; omega
  have hmt := mod_twice n
  have hbd := tm_bd n
  obtain ⟨hb1, hb2⟩ := hbd
  have t0 : 0 ≤ n % 255 := by omega
  have t1 : n % 255 < 255 := by omega
  go_enter Try.func14, Try.ntmps14
  go_wp2_with fail
  clear hmt hb1 hb2 g0
  have HP := Lib.hid (powN_eq (a := x.toNat) (by omega) (by omega))
  have HL := Lib.hid (fun k => (show powN x.toNat k < 256 by rw [HP.out]; exact Gf.pwr_lt _ _))
  go_loopw [7, 8] (fun p i wr => ∃ k : Nat, (k : Int) ≤ n % 255 ∧ i = .int .i64 k ∧ p = .int .u8 (powN x.toNat k : Nat) ∧ wr = w) (fun _ i _ => (n % 255).toNat - (intOf i).toNat)
  case atStart => exact ⟨0, t0, rfl, rfl, rfl⟩
  case round =>
    obtain ⟨k, hk, rfl, rfl, rfl⟩ := hrel
    have hl := HL.out k
    by_cases hlt : (k : Int) < n % 255
    · go_wp2_with fail
      refine (rmul_int _ _ (by omega) (by omega) (by omega) hx _).mono ?_
      rintro e w' ⟨rfl, rfl⟩
      have hm : mulOf ((powN x.toNat k : Nat) : Int) x = ((powN x.toNat (k + 1) : Nat) : Int) := rfl
      rw [hm]; clear hm
      go_wp2
      go_roundw
      case rel => exact ⟨k + 1, by omega, by go_num, rfl, by trivial⟩
      case measure => simp [intOf]; omega
    · have hke : (k : Int) = n % 255 := by omega
      have hq : powN x.toNat k = Gf.pwr x.toNat n := by
        rw [HP.out k, hke]
        unfold Gf.pwr
        rw [Int.emod_emod_of_dvd n (Int.dvd_refl 255)]
      have HQ := Lib.hid hq; clear hq hke
      go_wp2
      go_ret2
      exact ⟨by rw [← HQ.out]; rfl, rfl⟩

theorem rpow_any (x n : Int) (hx0 : 0 ≤ x) (hx : x < 256) (w : World) :
    Calls Try.prog 14 #[.int .u8 x, .int .i64 n] w fun e w' => e = .returned (.tuple #[.int .u8 (powOf x n), .int .i64 (powErr x n)]) ∧ w' = w := by
  by_cases h : x = 0
  · subst h
    have g0 : (((0 : Int)) == 0) = true := rfl
    by_cases h1 : n < 0
    · have e1 : powOf 0 n = 0 := by unfold powOf; rw [if_pos rfl, if_neg (by omega)]
      have e2 : powErr 0 n = 6 := by unfold powErr; rw [if_pos ⟨rfl, h1⟩]
      rw [e1, e2]; clear e1 e2
      go_enter Try.func14, Try.ntmps14
      go_wp2
      go_ret2
      exact ⟨rfl, rfl⟩
    · have e2 : powErr 0 n = 0 := by unfold powErr; rw [if_neg (by omega)]
      by_cases h2 : n = 0
      · have e1 : powOf 0 n = 1 := by unfold powOf; rw [if_pos rfl, if_pos h2]
        have g1 : (n == 0) = true := by simpa using h2
        rw [e1, e2]; clear e1 e2 h2
        go_enter Try.func14, Try.ntmps14
        go_wp2
        go_ret2
        exact ⟨rfl, rfl⟩
      · have e1 : powOf 0 n = 0 := by unfold powOf; rw [if_pos rfl, if_neg h2]
        have g1 : (n == 0) = false := by simpa using h2
        rw [e1, e2]; clear e1 e2
        go_enter Try.func14, Try.ntmps14
        go_wp2
        go_ret2
        exact ⟨rfl, rfl⟩
  · have e1 : powOf x n = (Gf.pwr x.toNat n : Nat) := by unfold powOf; rw [if_neg h]
    have e2 : powErr x n = 0 := by unfold powErr; rw [if_neg (fun hh => h hh.1)]
    rw [e1, e2]
    exact rpow_yes x n (by omega) hx w

theorem lg_two : Gf.lg 2 = 1 := Gf.lg_pw (n := 1) (by omega)
theorem expOf_pow (n : Int) : powOf 2 n = expOf n := by
  unfold powOf expOf
  rw [if_neg (by omega)]
  rw [show (2 : Int).toNat = 2 from rfl]
  unfold Gf.pwr
  rw [lg_two, Nat.one_mul]

set_option maxHeartbeats 400000 in
theorem rexp_any (n : Int) (w : World) :
    Calls Try.prog 21 #[.int .i64 n] w fun e w' => e = .returned (.int .u8 (expOf n)) ∧ w' = w := by
  go_enter Try.func21, Try.ntmps21
  go_wp2_with fail
  refine (rpow_any _ _ (by omega) (by omega) _).mono ?_
  rintro e w' ⟨rfl, rfl⟩
  rw [expOf_pow]
  go_wp2
  go_ret
  exact ⟨rfl, rfl⟩

theorem mul_two (k : Nat) : mulOf ((Gf.pw k : Nat) : Int) 2 = ((Gf.pw (k + 1) : Nat) : Int) := by
  unfold mulOf
  rw [Int.toNat_natCast]
  rw [show (2 : Int).toNat = Gf.pw 1 from rfl, Gf.pw_add]

set_option maxHeartbeats 800000 in
set_option maxRecDepth 100000 in
theorem rlog_any (n : Nat) (hx : n < 256) (w : World) :
    Calls Try.prog 16 #[.int .u8 n] w fun e w' => e = .returned (.tuple #[.int .i64 (logOf n), .int .i64 (zeroErr n)]) ∧ w' = w := by
  go_enter Try.func16, Try.ntmps16
  go_wp2_with fail
  go_loopw [4, 5] (fun p i wr => ∃ k : Nat, k ≤ 255 ∧ i = .int .i64 k ∧ p = .int .u8 (Gf.pw k : Nat) ∧ (n ≠ 0 → k ≤ Gf.lg n) ∧ wr = w) (fun _ i _ => 255 - (intOf i).toNat)
  case atStart => exact ⟨0, by omega, rfl, rfl, fun _ => by omega, rfl⟩
  case round =>
    obtain ⟨k, hk, rfl, rfl, hle, rfl⟩ := hrel
    have hp := Gf.pw_lt k
    have HM := Lib.hid (mul_two k)
    have HL := Lib.hid hle
    by_cases hlt : k < 255
    · by_cases hq : Gf.pw k = n
      · have hb : (((Gf.pw k : Nat) : Int) == (n : Int)) = true := by simp; omega
        have h0 : n ≠ 0 := by rw [← hq]; exact Gf.pw_pos k
        have e1 : logOf (n : Int) = k := by unfold logOf; rw [if_neg (by omega), Int.toNat_natCast, ← hq, Gf.lg_pw hlt]
        have e2 : zeroErr (n : Int) = 0 := by unfold zeroErr; rw [if_neg (by omega)]
        have E1 := Lib.hid e1; have E2 := Lib.hid e2; clear e1 e2 h0 hq hle HM
        go_wp2
        go_ret2
        exact ⟨by rw [E1.out, E2.out]; rfl, rfl⟩
      · have hb : (((Gf.pw k : Nat) : Int) == (n : Int)) = false := by simp; omega
        have HN := Lib.hid (show n ≠ 0 → k + 1 ≤ Gf.lg n from fun h => by
          have h1 := hle h
          have h2 : k ≠ Gf.lg n := fun hh => hq (by rw [hh, Gf.pw_lg hx h])
          omega)
        clear hq hle
        go_wp2_with fail
        refine (rmul_int _ _ (by omega) (by omega) (by omega) (by omega) _).mono ?_
        rintro e w' ⟨rfl, rfl⟩
        rw [HM.out]
        go_wp2
        go_roundw
        case rel => exact ⟨k + 1, by omega, by go_num, rfl, HN.out, by trivial⟩
        case measure => simp [intOf]; omega
    · have h0 : n = 0 := Decidable.byContradiction fun h => by
        have := hle h
        have := Gf.lg_lt hx h
        omega
      subst h0
      clear hle HL HM
      go_wp2
      go_ret2
      exact ⟨rfl, rfl⟩
end Go.Proofs.Yteaimecgimiicaa
