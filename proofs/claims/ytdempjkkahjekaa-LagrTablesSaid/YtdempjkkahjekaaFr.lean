import Derived.Test.YtdempjkkahjekaaFx
namespace Go.Proofs.Ytdempjkkahjekaa
open Go.RowKit

theorem i64_xor_nat (a b : Nat) (ha : a < 2 ^ 62) (hb : b < 2 ^ 62) : bits .xor .i64 (a : Int) (b : Int) = ((a ^^^ b : Nat) : Int) := by
  have hx : a ^^^ b < 2 ^ 62 := Nat.xor_lt_two_pow ha hb
  show IntKind.i64.wrap ((BitVec.ofInt 64 (a : Int) ^^^ BitVec.ofInt 64 (b : Int)).toNat : Int) = _
  rw [BitVec.toNat_xor, ofInt_u64 a (by omega), ofInt_u64 b (by omega), IntKind.wrap_i64]
  omega
theorem i64_and_nat (a b : Nat) (ha : a < 2 ^ 62) (hb : b < 2 ^ 62) : bits .and .i64 (a : Int) (b : Int) = ((a &&& b : Nat) : Int) := by
  have hx : a &&& b < 2 ^ 62 := Nat.and_lt_two_pow _ hb
  show IntKind.i64.wrap ((BitVec.ofInt 64 (a : Int) &&& BitVec.ofInt 64 (b : Int)).toNat : Int) = _
  rw [BitVec.toNat_and, ofInt_u64 a (by omega), ofInt_u64 b (by omega), IntKind.wrap_i64]
  omega
theorem bit_of (p k : Nat) : ((p / 2 ^ k &&& 1) == 1) = p.testBit k := by
  rw [Nat.testBit_eq_decide_div_mod_eq, Nat.and_one_is_mod, Bool.eq_iff_iff]; simp
theorem u8_bit (m k : Nat) (hm : m < 256) : (bits .and .u8 ((m : Int) / 2 ^ k) 1 == 1) = m.testBit k := by
  have h : (m : Int) / 2 ^ k = ((m / 2 ^ k : Nat) : Int) := by simp
  have hl : m / 2 ^ k ≤ m := Nat.div_le_self _ _
  rw [h, show (1 : Int) = ((1 : Nat) : Int) from rfl, u8_and_nat _ _ (by omega) (by omega), ← bit_of]
  rw [Bool.eq_iff_iff]; simp; omega
theorem i64_bit (m k : Nat) (hm : m < 2 ^ 62) : (bits .and .i64 ((m : Int) / 2 ^ k) 1 == 1) = m.testBit k := by
  have h : (m : Int) / 2 ^ k = ((m / 2 ^ k : Nat) : Int) := by simp
  have hl : m / 2 ^ k ≤ m := Nat.div_le_self _ _
  rw [h, show (1 : Int) = ((1 : Nat) : Int) from rfl, i64_and_nat _ _ (by omega) (by omega), ← bit_of]
  rw [Bool.eq_iff_iff]; simp; omega

theorem Gf.shl_lt {n k : Nat} (hn : n < 256) (hk : k < 8) : n <<< k < 32768 := by
  rw [Nat.shiftLeft_eq]
  have : 2 ^ k ≤ 2 ^ 7 := Nat.pow_le_pow_right (by omega) (by omega)
  have := Nat.mul_le_mul (show n ≤ 255 by omega) this
  omega
theorem Gf.acc_lt {n m : Nat} (hn : n < 256) : ∀ k, k ≤ 8 → Gf.acc n m k < 32768
  | 0, _ => by show 0 < _; omega
  | k + 1, hk => by
    have h1 := Gf.acc_lt (m := m) hn k (by omega)
    unfold Gf.acc
    split
    · exact Nat.xor_lt_two_pow (n := 15) h1 (Gf.shl_lt hn (by omega))
    · exact h1
theorem Gf.red_lt {p : Nat} (hp : p < 32768) : ∀ k, k ≤ 8 → Gf.red p k < 65536
  | 0, _ => by show p < _; omega
  | k + 1, hk => by
    have h1 := Gf.red_lt hp k (by omega)
    unfold Gf.red
    split
    · refine Nat.xor_lt_two_pow (n := 16) h1 ?_
      rw [Nat.shiftLeft_eq]
      have : 2 ^ (7 - k) ≤ 2 ^ 7 := Nat.pow_le_pow_right (by omega) (by omega)
      have := Nat.mul_le_mul (Nat.le_refl 285) this
      omega
    · exact h1
theorem Gf.acc_yes {n m k : Nat} (hn : n < 256) (hk : k < 8) (h : m.testBit k = true) : bits .xor .i64 ((Gf.acc n m k : Nat) : Int) ((n : Int) * 2 ^ k) = ((Gf.acc n m (k + 1) : Nat) : Int) := by
  have h1 := Gf.acc_lt (m := m) hn k (by omega)
  have h2 := Gf.shl_lt hn hk
  rw [show (n : Int) * 2 ^ k = ((n <<< k : Nat) : Int) by rw [Nat.shiftLeft_eq]; simp, i64_xor_nat _ _ (by omega) (by omega)]
  conv => rhs; unfold Gf.acc
  rw [if_pos h]
theorem Gf.acc_no {n m k : Nat} (h : m.testBit k = false) : Gf.acc n m (k + 1) = Gf.acc n m k := by
  conv => lhs; unfold Gf.acc
  rw [if_neg (by simp [h])]
theorem Gf.red_yes {p k : Nat} (hp : p < 32768) (hk : k < 8) (h : (Gf.red p k).testBit (15 - k) = true) : bits .xor .i64 ((Gf.red p k : Nat) : Int) (285 * 2 ^ (7 - k)) = ((Gf.red p (k + 1) : Nat) : Int) := by
  have h1 := Gf.red_lt hp k (by omega)
  have h2 : 285 <<< (7 - k) < 65536 := by
    rw [Nat.shiftLeft_eq]
    have : 2 ^ (7 - k) ≤ 2 ^ 7 := Nat.pow_le_pow_right (by omega) (by omega)
    have := Nat.mul_le_mul (Nat.le_refl 285) this
    omega
  rw [show (285 : Int) * (2 : Int) ^ (7 - k) = ((285 <<< (7 - k) : Nat) : Int) by rw [Nat.shiftLeft_eq]; simp, i64_xor_nat _ _ (by omega) (by omega)]
  conv => rhs; unfold Gf.red
  rw [if_pos h]
theorem Gf.red_no {p k : Nat} (h : (Gf.red p k).testBit (15 - k) = false) : Gf.red p (k + 1) = Gf.red p k := by
  conv => lhs; unfold Gf.red
  rw [if_neg (by simp [h])]

set_option maxHeartbeats 800000 in
theorem rmul_any (n m : Nat) (hn : n < 256) (hm : m < 256) (w : World) :
    Calls Try.prog 50 #[.int .u8 n, .int .u8 m] w fun e w' => e = .returned (.int .u8 (Gf.mul n m : Nat)) ∧ w' = w := by
  have hl := Gf.mul_lt hn hm
  have H8 := Lib.hid (Gf.acc_lt (m := m) hn 8 (by omega))
  go_enter Try.func50, Try.ntmps50
  go_wp2_with fail
  go_loop [5, 6] (fun p i => ∃ k : Nat, k ≤ 8 ∧ i = .int .i64 k ∧ p = .int .i64 (Gf.acc n m k : Nat)) (fun _ i => 8 - (intOf i).toNat)
  case atStart => exact ⟨0, by omega, rfl, rfl⟩
  case round =>
    obtain ⟨k, hk, rfl, rfl⟩ := hrel
    by_cases hlt : k < 8
    · have hw : wrap64 ((n : Int) * 2 ^ k) = (n : Int) * 2 ^ k := by
        have h2 := Gf.shl_lt hn hlt
        rw [show (n : Int) * 2 ^ k = ((n <<< k : Nat) : Int) by rw [Nat.shiftLeft_eq]; simp]
        generalize n <<< k = s at *
        unfold wrap64; omega
      have hb := u8_bit m k hm
      cases ht : m.testBit k with
      | true =>
        rw [ht] at hb
        have hx := Gf.acc_yes hn hlt ht
        clear ht hl
        go_wp2_with fail
        go_round
        case rel => exact ⟨k + 1, by omega, by go_num, rfl⟩
        case measure => simp [intOf]; omega
      | false =>
        rw [ht] at hb
        have hx := Gf.acc_no (n := n) ht
        clear ht hl
        go_wp2_with fail
        go_round
        case rel => exact ⟨k + 1, by omega, by go_num, by rw [hx]⟩
        case measure => simp [intOf]; omega
    · obtain rfl : k = 8 := by omega
      go_wp2_with fail
      go_loop [5, 7] (fun p i => ∃ k : Nat, k ≤ 8 ∧ i = .int .i64 (15 - (k : Int)) ∧ p = .int .i64 (Gf.red (Gf.acc n m 8) k : Nat)) (fun _ i => (intOf i).toNat)
      case atStart => exact ⟨0, by omega, rfl, rfl⟩
      case round =>
        obtain ⟨k, hk, rfl, rfl⟩ := hrel
        by_cases hlt : k < 8
        · have h2 : (285 : Int) * 2 ^ (7 - k) < 65536 ∧ 0 ≤ (285 : Int) * 2 ^ (7 - k) := by
            have : 2 ^ (7 - k) ≤ 2 ^ 7 := Nat.pow_le_pow_right (by omega) (by omega)
            have := Nat.mul_le_mul (Nat.le_refl 285) this
            rw [show (285 : Int) * 2 ^ (7 - k) = ((285 * 2 ^ (7 - k) : Nat) : Int) by simp]
            omega
          have hw : wrap64 ((285 : Int) * 2 ^ (7 - k)) = (285 : Int) * 2 ^ (7 - k) := by
            unfold wrap64; omega
          clear h2
          have e1 : (15 - (k : Int)).toNat = 15 - k := by omega
          have e2 : (15 - (k : Int) - 8).toNat = 7 - k := by omega
          have hb := i64_bit (Gf.red (Gf.acc n m 8) k) (15 - k) (by have := Gf.red_lt H8.out k (by omega); omega)
          cases ht : (Gf.red (Gf.acc n m 8) k).testBit (15 - k) with
          | true =>
            rw [ht] at hb
            have hx := Gf.red_yes H8.out hlt ht
            clear ht hl
            go_wp2_with fail
            go_round
            case rel => exact ⟨k + 1, by omega, by congr 1; omega, rfl⟩
            case measure => simp [intOf]; omega
          | false =>
            rw [ht] at hb
            have hx := Gf.red_no ht
            clear ht hl
            go_wp2_with fail
            go_round
            case rel => exact ⟨k + 1, by omega, by congr 1; omega, by rw [hx]⟩
            case measure => simp [intOf]; omega
        · obtain rfl : k = 8 := by omega
          have hh : Gf.red (Gf.acc n m 8) 8 = Gf.mul n m := rfl
          rw [hh]
          clear hh
          go_wp2
          go_ret
          exact ⟨rfl, rfl⟩

/-- the same, of any two numbers that are bytes. -/
theorem rmul_int (x y : Int) (hx0 : 0 ≤ x) (hx : x < 256) (hy0 : 0 ≤ y) (hy : y < 256) (w : World) :
    Calls Try.prog 50 #[.int .u8 x, .int .u8 y] w fun e w' => e = .returned (.int .u8 (mulOf x y)) ∧ w' = w := by
  obtain ⟨n, rfl⟩ := Int.eq_ofNat_of_zero_le hx0
  obtain ⟨m, rfl⟩ := Int.eq_ofNat_of_zero_le hy0
  exact rmul_any n m (by omega) (by omega) w

/-- where the inverse stands. -/
theorem inv_at {a : Nat} (ha : a < 256) (h0 : a ≠ 0) (b : Nat) (hb : b < 256) : (Gf.mul a b = 1) ↔ b = Gf.pwr a (-1) := by
  have hi := Gf.pwr_lt a (-1)
  constructor
  · intro h
    rw [← Gf.mul_one b hb, ← Gf.mul_inv ha h0, ← Gf.mul_assoc hi ha hb, h, Gf.mul_one' hi]
  · intro h
    rw [h, Gf.mul_comm ha hi, Gf.mul_inv ha h0]

set_option maxHeartbeats 800000 in
set_option maxRecDepth 100000 in
theorem rinv_any (x : Int) (hx0 : 0 ≤ x) (hx : x < 256) (w : World) :
    Calls Try.prog 74 #[.int .u8 x] w fun e w' => e = .returned (.tuple #[.int .u8 (invOf x), .int .i64 (zeroErr x)]) ∧ w' = w := by
  go_enter Try.func74, Try.ntmps74
  go_wp2_with fail
  go_loopw [4] (fun i wr => ∃ k : Nat, 1 ≤ k ∧ k ≤ 256 ∧ i = .int .i64 k ∧ (x ≠ 0 → (k : Int) ≤ invOf x) ∧ wr = w) (fun i _ => 256 - (intOf i).toNat)
  case atStart => exact ⟨1, by omega, by omega, rfl, fun h => by unfold invOf; rw [if_neg h]; have := Gf.pwr_pos x.toNat (-1); omega, rfl⟩
  case round =>
    rename_i wr
    obtain ⟨k, hk1, hk, rfl, hle, rfl⟩ := hrel
    by_cases hlt : k < 256
    · by_cases h0 : x = 0
      · have hm : (mulOf x (k : Int) == 1) = false := by subst h0; unfold mulOf; show (((Gf.mul 0 _ : Nat) : Int) == 1) = false; rw [Gf.zero_mul]; rfl
        have H0 := Lib.hid h0; have HL := Lib.hid hle; clear h0 hle
        go_wp2_with fail
        refine (rmul_int _ _ hx0 hx (by omega) (by omega) _).mono ?_
        rintro e w' ⟨rfl, rfl⟩
        go_wp2
        go_roundw
        case rel => exact ⟨k + 1, by omega, by omega, by go_num, fun h => absurd H0.out h, by trivial⟩
        case measure => simp [intOf]; omega
      · have HL := Lib.hid (hle h0); have H0 := Lib.hid h0; clear hle
        have hat := inv_at (a := x.toNat) (by omega) (by omega) k hlt
        have hiv : invOf x = (Gf.pwr x.toNat (-1) : Nat) := by unfold invOf; rw [if_neg h0]
        have hze : zeroErr x = 0 := by unfold zeroErr; rw [if_neg h0]
        by_cases hq : (k : Int) = invOf x
        · have hm : (mulOf x (k : Int) == 1) = true := by
            unfold mulOf; rw [Int.toNat_natCast, hat.2 (by omega)]; rfl
          have HQ := Lib.hid hq; have HZ := Lib.hid hze; clear h0 hat hiv hq hze
          go_wp2_with fail
          refine (rmul_int _ _ hx0 hx (by omega) (by omega) _).mono ?_
          rintro e w' ⟨rfl, rfl⟩
          go_wp2
          go_ret2
          exact ⟨by rw [← HQ.out, HZ.out]; rfl, rfl⟩
        · have hm : (mulOf x (k : Int) == 1) = false := by
            unfold mulOf; rw [Int.toNat_natCast]
            have : ¬ Gf.mul x.toNat k = 1 := fun h => hq (by rw [hiv, ← hat.1 h])
            simp; omega
          have HQ := Lib.hid hq; clear h0 hat hiv hq hze
          go_wp2_with fail
          refine (rmul_int _ _ hx0 hx (by omega) (by omega) _).mono ?_
          rintro e w' ⟨rfl, rfl⟩
          go_wp2
          go_roundw
          case rel => exact ⟨k + 1, by omega, by omega, by go_num, fun _ => by have := HL.out; have := HQ.out; omega, by trivial⟩
          case measure => simp [intOf]; omega
    · have h0 : x = 0 := Decidable.byContradiction fun h => by
        have := hle h
        unfold invOf at this; rw [if_neg h] at this
        have := Gf.pwr_lt x.toNat (-1)
        omega
      subst h0
      clear hle
      go_wp2
      go_ret2
      exact ⟨rfl, rfl⟩

set_option maxHeartbeats 400000 in
theorem rdiv_any (x y : Int) (hx0 : 0 ≤ x) (hx : x < 256) (hy0 : 0 ≤ y) (hy : y < 256) (w : World) :
    Calls Try.prog 47 #[.int .u8 x, .int .u8 y] w fun e w' => e = .returned (.tuple #[.int .u8 (mulOf x (invOf y)), .int .i64 (zeroErr y)]) ∧ w' = w := by
  by_cases h : y = 0
  · have e1 : mulOf x (invOf y) = 0 := by unfold mulOf invOf; rw [if_pos h]; show ((Gf.mul x.toNat 0 : Nat) : Int) = 0; rw [Gf.mul_zero]; rfl
    have e2 : zeroErr y = 6 := by unfold zeroErr; rw [if_pos h]
    have e3 : invOf y = 0 := by unfold invOf; rw [if_pos h]
    rw [e1, e2]
    have E2 := Lib.hid e2; have E3 := Lib.hid e3; clear e1 e2 e3 h
    go_enter Try.func47, Try.ntmps47
    go_wp2_with fail
    refine (rinv_any _ hy0 hy _).mono ?_
    rintro e w' ⟨rfl, rfl⟩
    rw [E2.out, E3.out]
    go_wp2
    go_ret2
    exact ⟨rfl, rfl⟩
  · have e2 : zeroErr y = 0 := by unfold zeroErr; rw [if_neg h]
    have e3 : 0 ≤ invOf y ∧ invOf y < 256 := by unfold invOf; rw [if_neg h]; have := Gf.pwr_lt y.toNat (-1); omega
    rw [e2]
    have E2 := Lib.hid e2; clear e2
    obtain ⟨i0, i1⟩ := e3
    go_enter Try.func47, Try.ntmps47
    go_wp2_with fail
    refine (rinv_any _ hy0 hy _).mono ?_
    rintro e w' ⟨rfl, rfl⟩
    rw [E2.out]
    go_wp2_with fail
    refine (rmul_int _ _ hx0 hx i0 i1 _).mono ?_
    rintro e w' ⟨rfl, rfl⟩
    go_wp2
    go_ret2
    exact ⟨rfl, rfl⟩

end Go.Proofs.Ytdempjkkahjekaa
