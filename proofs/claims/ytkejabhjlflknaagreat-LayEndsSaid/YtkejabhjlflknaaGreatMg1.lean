import Derived.Test.YtkejabhjlflknaaGreatProg
import Derived.WalkKit
import Derived.WalkSpells
import Derived.WalkLawsBesides
import Derived.BigQuiet
import Derived.Deep.QuietTactic
import Derived.Lib.Hide
import Derived.Test.YtkejabhjlflknaaGreatMg0
namespace Go.Proofs.YtkejabhjlflknaaGreat
open Go.RowKit

/-- the cells of a field that is none yet. -/
def zerosF : Array Value := Array.replicate 766 (.int .u8 0)

theorem zero_field : ∀ w, (zeroValue 162).run Tryz.prog w = .ok (.agg zerosF) w := fun _ => by kernel_rfl

/-- a block that holds so many bytes. -/
def Tab (F : Nat → Nat) (b : Nat) (w : World) : Prop :=
  ∀ j, j < 766 → w.cell? ⟨b, j, none⟩ = some (.int .u8 (F j : Nat)) ∧ w.frozen? ⟨b, j, none⟩ = false

theorem Tab.set {F : Nat → Nat} {b : Nat} {w : World} (h : Tab F b w) {i : Nat} (hi : i < 766) (v : Nat) :
    Tab (fun j => if j = i then v else F j) b (w.setCell ⟨b, i, none⟩ (.int .u8 (v : Nat))) := by
  intro j hj
  refine ⟨?_, by rw [World.frozen?_setCell]; exact (h j hj).2⟩
  by_cases e : j = i
  · subst e
    rw [World.cell?_setCell_same _ _ _ (h j hj).1]; simp
  · rw [World.cell?_setCell_other _ _ _ _ (by intro hh; cases hh; exact e rfl), (h j hj).1]; simp [e]
theorem Tab.drewN {F : Nat → Nat} {b : Nat} {w : World} (h : Tab F b w) (n : Nat) : Tab F b (w.drewN n) := h
theorem Tab.drew {F : Nat → Nat} {b : Nat} {w : World} (h : Tab F b w) : Tab F b w.drew := h

theorem and128_no : ∀ n, n < 128 → n &&& 128 = 0 := by decide +kernel
theorem and128_yes : ∀ n, n < 256 → 128 ≤ n → n &&& 128 = 128 := by decide +kernel

set_option maxHeartbeats 400000 in
theorem double_any (a : Int) (h0 : 0 ≤ a) (h1 : a < 256) (w : World) :
    Calls Tryz.prog 123 #[.int .u8 a] w fun e w' => e = .returned (.int .u8 (Gf.xt a.toNat : Nat)) ∧ w' = w := by
  obtain ⟨n, rfl⟩ := Int.eq_ofNat_of_zero_le h0
  by_cases h : n < 128
  · have e : (bits .and .u8 (n : Int) 128 == 0) = true := by
      rw [show (128 : Int) = ((128 : Nat) : Int) from rfl, u8_and_nat _ _ (by omega) (by omega), and128_no n h]; simp
    go_enter Tryz.func123, Tryz.ntmps123
    go_wp2
    go_ret
    refine ⟨?_, rfl⟩
    show Ending.returned (.int .u8 ((n : Int) * 2)) = _
    rw [Int.toNat_natCast, show (n : Int) * 2 = ((Gf.xt n : Nat) : Int) by unfold Gf.xt; rw [if_pos h]; omega]
  · have e : (bits .and .u8 (n : Int) 128 == 0) = false := by
      rw [show (128 : Int) = ((128 : Nat) : Int) from rfl, u8_and_nat _ _ (by omega) (by omega), and128_yes n (by omega) (by omega)]; rfl
    have ex : bits .xor .u8 ((n : Int) * 2 % 256) 29 = ((Gf.xt n : Nat) : Int) := by
      rw [show (29 : Int) = ((29 : Nat) : Int) from rfl, show (n : Int) * 2 % 256 = ((2 * n - 256 : Nat) : Int) by omega, u8_xor_nat _ _ (by omega) (by omega)]
      unfold Gf.xt; rw [if_neg h]
    go_enter Tryz.func123, Tryz.ntmps123
    go_wp2
    go_ret
    exact ⟨rfl, rfl⟩

set_option maxHeartbeats 400000 in
set_option maxRecDepth 100000 in
theorem fill_any (b : Nat) (w : World) (hT : Tab (Gf.tabF 0) b w) :
    Calls Tryz.prog 99 #[.pointer (some ⟨b, 0, none⟩)] w fun e w' => e = .returned (.tuple #[]) ∧ Tab (Gf.tabF 255) b w' ∧ Below b w w' := by
  have HT := Lib.hid hT; clear hT
  go_enter Tryz.func99, Tryz.ntmps99
  go_wp2_with fail
  go_loopw [2, 4] (fun p i wr => ∃ k : Nat, k ≤ 255 ∧ i = .int .i64 k ∧ p = .int .u8 (Gf.pw k : Nat) ∧ Tab (Gf.tabF k) b wr ∧ Below b w wr) (fun _ i _ => 255 - (intOf i).toNat)
  case atStart => exact ⟨0, by omega, rfl, rfl, HT.out, Below.refl _ _⟩
  case round =>
    rename_i wr
    obtain ⟨k, hk, rfl, rfl, hTk, hB⟩ := hrel
    have hp := Gf.pw_lt k
    by_cases hlt : k < 255
    · obtain ⟨hk0, hf0⟩ := (hTk k (by omega))
      obtain ⟨hk1, hf1⟩ := (hTk (k + 255) (by omega))
      have HTk := Lib.hid hTk; clear hTk
      have hB' := Lib.hid hB; clear hB
      obtain ⟨hk2, hf2⟩ := (HTk.out (510 + Gf.pw k) (by omega))
      generalize Gf.tabF k (510 + Gf.pw k) = x2 at hk2
      have n1 : ¬ (k = 510 + Gf.pw k) := by omega
      have n2 : ¬ (k + 255 = 510 + Gf.pw k) := by omega
      generalize Gf.tabF k k = x0 at hk0
      generalize Gf.tabF k (k + 255) = x1 at hk1
      go_wp2_with fail
      go_region
      go_wp2_with fail
      refine (double_any _ (by omega) (by omega) _).mono ?_
      rintro e w' ⟨rfl, rfl⟩
      rw [Int.toNat_natCast]
      go_wp2
      go_roundw
      case rel => exact ⟨k + 1, by omega, by go_num, rfl, (((HTk.out.set (i := k) (by omega) (Gf.pw k)).set (i := k + 255) (by omega) (Gf.pw k)).set (i := 510 + Gf.pw k) (by omega) k).drew, (((hB'.out.setCell (by simp) _).setCell (by simp) _).setCell (by simp) _).drew⟩
      case measure => simp [intOf]; omega
    · obtain rfl : k = 255 := by omega
      have HTk := Lib.hid hTk; clear hTk
      have hB' := Lib.hid hB; clear hB
      clear hp
      go_wp2
      go_end0
      exact ⟨rfl, HTk.out, hB'.out⟩

/-- a field: its tables, filled. -/
def IsField (b : Nat) (w : World) : Prop := Tab (Gf.tabF 255) b w

set_option maxHeartbeats 400000 in
theorem new_any (w : World) :
    Calls Tryz.prog 70 #[] w fun e w' => e = .returned (.pointer (some ⟨w.heap.size, 0, none⟩)) ∧ IsField w.heap.size w' ∧ Below w.heap.size w w' := by
  have hb := zero_field
  have hT : Tab (Gf.tabF 0) w.heap.size (w.alloc (.cells zerosF 162)) := by
    intro j hj
    refine ⟨?_, by simp⟩
    rw [World.cell?_alloc_new]
    simp [zerosF, hj, Gf.tabF]
  have HT := Lib.hid hT; clear hT
  go_enter Tryz.func70, Tryz.ntmps70
  go_wp2_with fail
  refine (fill_any _ _ HT.out).mono ?_
  rintro e w' ⟨rfl, hF, hB⟩
  have hB' := Lib.hid hB; clear hB
  have hF' := Lib.hid hF; clear hF
  go_wp2
  go_ret
  exact ⟨rfl, hF'.out, ((Below.refl _ _).alloc (Nat.le_refl _) _).trans hB'.out⟩
end Go.Proofs.YtkejabhjlflknaaGreat

namespace Go.Proofs.YtkejabhjlflknaaGreat
open Go.RowKit

theorem tm_pos (n : Int) (h : 0 ≤ n) : n.tmod 255 = n % 255 := Int.tmod_eq_emod_of_nonneg h
theorem tm_neg (n : Int) (h : n < 0) : (n % 255 = 0 ∧ n.tmod 255 = 0) ∨ (0 < n % 255 ∧ n.tmod 255 = n % 255 - 255) := by
  have := @Int.tmod_eq_emod n 255
  by_cases hd : (255 : Int) ∣ n
  · rw [if_pos (Or.inr hd)] at this
    left; omega
  · rw [if_neg (by omega)] at this
    right
    have h1 : (Int.natAbs 255 : Int) = 255 := rfl
    rw [this]; omega

set_option maxHeartbeats 400000 in
theorem turn_any (n : Int) (w : World) :
    Calls Tryz.prog 150 #[.int .i64 n] w fun e w' => e = .returned (.int .i64 (n % 255)) ∧ w' = w := by
  by_cases h : 0 ≤ n
  · have e := tm_pos n h
    have hh : ¬ n % 255 < 0 := by omega
    go_enter Tryz.func150, Tryz.ntmps150
    go_wp2
    go_ret
    exact ⟨rfl, rfl⟩
  · rcases tm_neg n (by omega) with ⟨h0, e⟩ | ⟨h0, e⟩
    · go_enter Tryz.func150, Tryz.ntmps150
      go_wp2
      go_ret
      exact ⟨rfl, rfl⟩
    · have h1 : n % 255 < 255 := by omega
      have h2 : n % 255 - 255 + 255 = n % 255 := by omega
      go_enter Tryz.func150, Tryz.ntmps150
      go_wp2
      go_ret
      exact ⟨rfl, rfl⟩

theorem IsField.drewN {b : Nat} {w : World} (h : IsField b w) (n : Nat) : IsField b (w.drewN n) := h
theorem IsField.log {b : Nat} {w : World} (h : IsField b w) {a : Nat} (ha : a < 256) : w.cell? ⟨b, 510 + a, none⟩ = some (.int .u8 (Gf.lg a : Nat)) := (h (510 + a) (by omega)).1
theorem IsField.pow {b : Nat} {w : World} (h : IsField b w) {j : Nat} (hj : j < 510) : w.cell? ⟨b, j, none⟩ = some (.int .u8 (Gf.pw j : Nat)) := by
  rw [← Gf.tab_pw hj]; exact (h j (by omega)).1

set_option maxHeartbeats 400000 in
theorem filled_yes (b : Nat) (w : World) (hF : IsField b w) :
    Calls Tryz.prog 148 #[.pointer (some ⟨b, 0, none⟩)] w fun e w' => e = .returned (.bool true) ∧ w' = w := by
  have h0 : w.cell? ⟨b, 0, none⟩ = some (.int .u8 1) := hF.pow (j := 0) (by omega)
  clear hF
  go_enter Tryz.func148, Tryz.ntmps148
  go_wp2
  go_ret
  exact ⟨rfl, rfl⟩

set_option maxHeartbeats 400000 in
theorem none_no (b : Nat) (w : World) (hF : IsField b w) :
    Calls Tryz.prog 138 #[.pointer (some ⟨b, 0, none⟩)] w fun e w' => e = .returned (.bool false) ∧ w' = w := by
  have HF := Lib.hid hF; clear hF
  go_enter Tryz.func138, Tryz.ntmps138
  go_wp2_with fail
  refine (filled_yes _ _ HF.out).mono ?_
  rintro e w' ⟨rfl, rfl⟩
  go_wp2
  go_ret
  exact ⟨rfl, rfl⟩

set_option maxHeartbeats 400000 in
theorem product_any (b : Nat) (x y : Int) (hx0 : 0 ≤ x) (hx : x < 256) (hy0 : 0 ≤ y) (hy : y < 256) (w : World) (hF : IsField b w) :
    Calls Tryz.prog 139 #[.pointer (some ⟨b, 0, none⟩), .int .u8 x, .int .u8 y] w fun e w' => e = .returned (.int .u8 (Gf.mul x.toNat y.toNat : Nat)) ∧ ∃ q, w' = w.drewN q := by
  obtain ⟨n, rfl⟩ := Int.eq_ofNat_of_zero_le hx0
  obtain ⟨m, rfl⟩ := Int.eq_ofNat_of_zero_le hy0
  rw [Int.toNat_natCast, Int.toNat_natCast]
  by_cases e1 : n = 0
  · subst e1
    rw [Gf.zero_mul]
    clear hF
    have g1 : (((0 : Nat) : Int) == 0) = true := rfl
    go_enter Tryz.func139, Tryz.ntmps139
    go_wp2
    go_ret
    exact ⟨rfl, 0, rfl⟩
  by_cases e2 : m = 0
  · subst e2
    rw [Gf.mul_zero]
    clear hF
    have g1 : ((n : Int) == 0) = false := by simp; omega
    go_enter Tryz.func139, Tryz.ntmps139
    go_wp2
    go_ret
    exact ⟨rfl, 0, rfl⟩
  have l1 := Gf.lg_lt (a := n) (by omega) e1
  have l2 := Gf.lg_lt (a := m) (by omega) e2
  have c1 := hF.log (a := n) (by omega)
  have c2 := hF.log (a := m) (by omega)
  have c3 := hF.pow (j := Gf.lg n + Gf.lg m) (by omega)
  rw [← Gf.mul_pw (by omega) (by omega) e1 e2] at c3
  clear hF
  have g1 : ((n : Int) == 0) = false := by simp; omega
  have g2 : ((m : Int) == 0) = false := by simp; omega
  generalize Gf.mul n m = r at *
  generalize Gf.lg n = ln at *
  generalize Gf.lg m = lm at *
  have b1 : (0 : Int) ≤ (ln : Int) + (lm : Int) := by omega
  have b2 : (ln : Int) + (lm : Int) < 510 := by omega
  have b3 : ((ln : Int) + (lm : Int)).toNat = ln + lm := by omega
  go_enter Tryz.func139, Tryz.ntmps139
  go_wp2_with fail
  go_quiet (fail)
  rename_i nq
  go_wp2
  go_ret
  exact ⟨rfl, _, rfl⟩

theorem Gf.pwr_mod (a : Nat) (n : Int) : Gf.pw ((((Gf.lg a : Nat) : Int) * (n % 255)) % 255).toNat = Gf.pwr a n := by
  unfold Gf.pwr
  rw [← Gf.pw_mod (Gf.lg a * _)]
  have h : 0 ≤ n % 255 := by omega
  obtain ⟨t, ht⟩ := Int.eq_ofNat_of_zero_le h
  rw [ht, Int.toNat_natCast]
  congr 1

set_option maxHeartbeats 400000 in
theorem power_any (b : Nat) (x n : Int) (hx0 : 0 < x) (hx : x < 256) (w : World) (hF : IsField b w) :
    Calls Tryz.prog 147 #[.pointer (some ⟨b, 0, none⟩), .int .u8 x, .int .i64 n] w fun e w' => e = .returned (.int .u8 (Gf.pwr x.toNat n : Nat)) ∧ ∃ q, w' = w.drewN q := by
  obtain ⟨m, rfl⟩ := Int.eq_ofNat_of_zero_le (Int.le_of_lt hx0)
  rw [Int.toNat_natCast]
  have l1 := Gf.lg_lt (a := m) (by omega) (by omega)
  have t0 : 0 ≤ n % 255 := by omega
  have t1 : n % 255 < 255 := by omega
  have p0 : 0 ≤ ((Gf.lg m : Nat) : Int) * (n % 255) := Int.mul_nonneg (by omega) t0
  have p1 : ((Gf.lg m : Nat) : Int) * (n % 255) ≤ 254 * 254 := Int.mul_le_mul (by omega) (by omega) t0 (by omega)
  have c1 := hF.log (a := m) (by omega)
  have c3 := hF.pow (j := ((((Gf.lg m : Nat) : Int) * (n % 255)) % 255).toNat) (by omega)
  rw [Gf.pwr_mod] at c3
  clear hF
  have b1 : (0 : Int) ≤ (((Gf.lg m : Nat) : Int) * (n % 255)) % 255 := by omega
  have b2 : (((Gf.lg m : Nat) : Int) * (n % 255)) % 255 < 255 := by omega
  generalize Gf.pwr m n = r at *
  generalize Gf.lg m = ln at *
  go_enter Tryz.func147, Tryz.ntmps147
  go_wp2_with fail
  go_quiet ((go_at_call 150; exact Calls.quiet_of_same (turn_any _ _)))
  rename_i nq
  go_wp2
  go_ret
  exact ⟨rfl, _, rfl⟩

set_option maxHeartbeats 400000 in
theorem mul_any (b : Nat) (x y : Int) (hx0 : 0 ≤ x) (hx : x < 256) (hy0 : 0 ≤ y) (hy : y < 256) (w : World) (hF : IsField b w) :
    Calls Tryz.prog 121 #[.pointer (some ⟨b, 0, none⟩), .int .u8 x, .int .u8 y] w fun e w' => e = .returned (.int .u8 (Gf.mul x.toNat y.toNat : Nat)) ∧ ∃ q, w' = w.drewN q := by
  have HF := Lib.hid hF; clear hF
  go_enter Tryz.func121, Tryz.ntmps121
  go_wp2_with fail
  refine (none_no _ _ HF.out).mono ?_
  rintro e w' ⟨rfl, rfl⟩
  go_wp2_with fail
  refine (product_any _ _ _ hx0 hx hy0 hy _ HF.out).mono ?_
  rintro e w' ⟨rfl, q, rfl⟩
  go_wp2
  go_ret
  exact ⟨rfl, q, rfl⟩

/-- the error of what a byte that is 0 has none of. -/
def zeroErr (x : Int) : Int := if x = 0 then 6 else 0
/-- the inverse; 0 of 0. -/
def invOf (x : Int) : Int := if x = 0 then 0 else (Gf.pwr x.toNat (-1) : Nat)
/-- the power; of 0 to a number below 0: 0. -/
def powOf (x n : Int) : Int := if x = 0 then (if n = 0 then 1 else 0) else (Gf.pwr x.toNat n : Nat)
def powErr (x n : Int) : Int := if x = 0 ∧ n < 0 then 6 else 0
def logOf (x : Int) : Int := if x = 0 then 0 else (Gf.lg x.toNat : Nat)
def mulOf (x y : Int) : Int := (Gf.mul x.toNat y.toNat : Nat)
def expOf (n : Int) : Int := (Gf.pw (n % 255).toNat : Nat)

set_option maxHeartbeats 400000 in
theorem pow_any (b : Nat) (x n : Int) (hx0 : 0 ≤ x) (hx : x < 256) (w : World) (hF : IsField b w) :
    Calls Tryz.prog 137 #[.pointer (some ⟨b, 0, none⟩), .int .u8 x, .int .i64 n] w fun e w' => e = .returned (.tuple #[.int .u8 (powOf x n), .int .i64 (powErr x n)]) ∧ ∃ q, w' = w.drewN q := by
  have HF := Lib.hid hF; clear hF
  by_cases h : x = 0
  · subst h
    have g0 : (((0 : Int)) != 0) = false := rfl
    by_cases h1 : n < 0
    · have e1 : powOf 0 n = 0 := by unfold powOf; rw [if_pos rfl, if_neg (by omega)]
      have e2 : powErr 0 n = 6 := by unfold powErr; rw [if_pos ⟨rfl, h1⟩]
      rw [e1, e2]; clear e1 e2
      go_enter Tryz.func137, Tryz.ntmps137
      go_wp2_with fail
      refine (none_no _ _ HF.out).mono ?_
      rintro e w' ⟨rfl, rfl⟩
      go_wp2
      go_ret2
      exact ⟨rfl, 0, rfl⟩
    · have e2 : powErr 0 n = 0 := by unfold powErr; rw [if_neg (by omega)]
      by_cases h2 : n = 0
      · have e1 : powOf 0 n = 1 := by unfold powOf; rw [if_pos rfl, if_pos h2]
        have g1 : (n == 0) = true := by simpa using h2
        rw [e1, e2]; clear e1 e2 h2
        go_enter Tryz.func137, Tryz.ntmps137
        go_wp2_with fail
        refine (none_no _ _ HF.out).mono ?_
        rintro e w' ⟨rfl, rfl⟩
        go_wp2
        go_ret2
        exact ⟨rfl, 0, rfl⟩
      · have e1 : powOf 0 n = 0 := by unfold powOf; rw [if_pos rfl, if_neg h2]
        have g1 : (n == 0) = false := by simpa using h2
        rw [e1, e2]; clear e1 e2
        go_enter Tryz.func137, Tryz.ntmps137
        go_wp2_with fail
        refine (none_no _ _ HF.out).mono ?_
        rintro e w' ⟨rfl, rfl⟩
        go_wp2
        go_ret2
        exact ⟨rfl, 0, rfl⟩
  · have e1 : powOf x n = (Gf.pwr x.toNat n : Nat) := by unfold powOf; rw [if_neg h]
    have e2 : powErr x n = 0 := by unfold powErr; rw [if_neg (fun hh => h hh.1)]
    rw [e1, e2]; clear e1 e2
    have g0 : (x != 0) = true := by simpa using h
    go_enter Tryz.func137, Tryz.ntmps137
    go_wp2_with fail
    refine (none_no _ _ HF.out).mono ?_
    rintro e w' ⟨rfl, rfl⟩
    go_wp2_with fail
    refine (power_any _ _ _ (by omega) hx _ HF.out).mono ?_
    rintro e w' ⟨rfl, q, rfl⟩
    go_wp2
    go_ret2
    exact ⟨rfl, q, rfl⟩

theorem powOf_inv (x : Int) : powOf x (-1) = invOf x := by unfold powOf invOf; split <;> simp
theorem powErr_inv (x : Int) : powErr x (-1) = zeroErr x := by unfold powErr zeroErr; simp

set_option maxHeartbeats 400000 in
theorem inv_any (b : Nat) (x : Int) (hx0 : 0 ≤ x) (hx : x < 256) (w : World) (hF : IsField b w) :
    Calls Tryz.prog 119 #[.pointer (some ⟨b, 0, none⟩), .int .u8 x] w fun e w' => e = .returned (.tuple #[.int .u8 (invOf x), .int .i64 (zeroErr x)]) ∧ ∃ q, w' = w.drewN q := by
  have HF := Lib.hid hF; clear hF
  go_enter Tryz.func119, Tryz.ntmps119
  go_wp2_with fail
  refine (pow_any _ _ _ hx0 hx _ HF.out).mono ?_
  rintro e w' ⟨rfl, q, rfl⟩
  rw [powOf_inv, powErr_inv]
  go_wp2
  go_ret2
  exact ⟨rfl, q, rfl⟩

theorem add_any (x y : Int) (hx0 : 0 ≤ x) (hx : x < 256) (hy0 : 0 ≤ y) (hy : y < 256) (w : World) :
    Calls Tryz.prog 120 #[.int .u8 x, .int .u8 y] w fun e w' => e = .returned (.int .u8 (x.toNat ^^^ y.toNat : Nat)) ∧ w' = w := by
  have e := u8_xor x y hx0 hx hy0 hy
  go_enter Tryz.func120, Tryz.ntmps120
  go_wp2
  go_ret
  exact ⟨rfl, rfl⟩
end Go.Proofs.YtkejabhjlflknaaGreat

namespace Go.Proofs.YtkejabhjlflknaaGreat
open Go.RowKit

theorem i64_xor_nat (a b : Nat) (ha : a < 2 ^ 62) (hb : b < 2 ^ 62) : bits .xor .i64 (a : Int) (b : Int) = ((a ^^^ b : Nat) : Int) := by
  have hx : a ^^^ b < 2 ^ 62 := Nat.xor_lt_two_pow ha hb
  show IntKind.i64.wrap ((BitVec.ofInt 64 (a : Int) ^^^ BitVec.ofInt 64 (b : Int)).toNat : Int) = _
  rw [BitVec.toNat_xor, ofInt_u64 a (by omega), ofInt_u64 b (by omega), IntKind.wrap_i64]
  omega
theorem i64_and_nat (a b : Nat) (ha : a < 2 ^ 62) (hb : b < 2 ^ 62) : bits .and .i64 (a : Int) (b : Int) = ((a &&& b : Nat) : Int) := by
  have hx : a &&& b < 2 ^ 62 := Nat.and_lt_two_pow _ hb
  show IntKind.i64.wrap ((BitVec.ofInt 64 (a : Int) &&& BitVec.ofInt 64 (b : Int)).toNat : Int) = _
  rw [BitVec.toNat_and, ofInt_u64 a (by omega), ofInt_u64 b (by omega), IntKind.wrap_i64]
  omega
theorem bit_of (p k : Nat) : ((p / 2 ^ k &&& 1) == 1) = p.testBit k := by
  rw [Nat.testBit_eq_decide_div_mod_eq, Nat.and_one_is_mod, Bool.eq_iff_iff]; simp
theorem u8_bit (m k : Nat) (hm : m < 256) : (bits .and .u8 ((m : Int) / 2 ^ k) 1 == 1) = m.testBit k := by
  have h : (m : Int) / 2 ^ k = ((m / 2 ^ k : Nat) : Int) := by simp
  have hl : m / 2 ^ k ≤ m := Nat.div_le_self _ _
  rw [h, show (1 : Int) = ((1 : Nat) : Int) from rfl, u8_and_nat _ _ (by omega) (by omega), ← bit_of]
  rw [Bool.eq_iff_iff]; simp; omega
theorem i64_bit (m k : Nat) (hm : m < 2 ^ 62) : (bits .and .i64 ((m : Int) / 2 ^ k) 1 == 1) = m.testBit k := by
  have h : (m : Int) / 2 ^ k = ((m / 2 ^ k : Nat) : Int) := by simp
  have hl : m / 2 ^ k ≤ m := Nat.div_le_self _ _
  rw [h, show (1 : Int) = ((1 : Nat) : Int) from rfl, i64_and_nat _ _ (by omega) (by omega), ← bit_of]
  rw [Bool.eq_iff_iff]; simp; omega

theorem Gf.shl_lt {n k : Nat} (hn : n < 256) (hk : k < 8) : n <<< k < 32768 := by
  rw [Nat.shiftLeft_eq]
  have : 2 ^ k ≤ 2 ^ 7 := Nat.pow_le_pow_right (by omega) (by omega)
  have := Nat.mul_le_mul (show n ≤ 255 by omega) this
  omega
theorem Gf.acc_lt {n m : Nat} (hn : n < 256) : ∀ k, k ≤ 8 → Gf.acc n m k < 32768
  | 0, _ => by show 0 < _; omega
  | k + 1, hk => by
    have h1 := Gf.acc_lt (m := m) hn k (by omega)
    unfold Gf.acc
    split
    · exact Nat.xor_lt_two_pow (n := 15) h1 (Gf.shl_lt hn (by omega))
    · exact h1
theorem Gf.red_lt {p : Nat} (hp : p < 32768) : ∀ k, k ≤ 8 → Gf.red p k < 65536
  | 0, _ => by show p < _; omega
  | k + 1, hk => by
    have h1 := Gf.red_lt hp k (by omega)
    unfold Gf.red
    split
    · refine Nat.xor_lt_two_pow (n := 16) h1 ?_
      rw [Nat.shiftLeft_eq]
      have : 2 ^ (7 - k) ≤ 2 ^ 7 := Nat.pow_le_pow_right (by omega) (by omega)
      have := Nat.mul_le_mul (Nat.le_refl 285) this
      omega
    · exact h1
theorem Gf.acc_yes {n m k : Nat} (hn : n < 256) (hk : k < 8) (h : m.testBit k = true) : bits .xor .i64 ((Gf.acc n m k : Nat) : Int) ((n : Int) * 2 ^ k) = ((Gf.acc n m (k + 1) : Nat) : Int) := by
  have h1 := Gf.acc_lt (m := m) hn k (by omega)
  have h2 := Gf.shl_lt hn hk
  rw [show (n : Int) * 2 ^ k = ((n <<< k : Nat) : Int) by rw [Nat.shiftLeft_eq]; simp, i64_xor_nat _ _ (by omega) (by omega)]
  conv => rhs; unfold Gf.acc
  rw [if_pos h]
theorem Gf.acc_no {n m k : Nat} (h : m.testBit k = false) : Gf.acc n m (k + 1) = Gf.acc n m k := by
  conv => lhs; unfold Gf.acc
  rw [if_neg (by simp [h])]
theorem Gf.red_yes {p k : Nat} (hp : p < 32768) (hk : k < 8) (h : (Gf.red p k).testBit (15 - k) = true) : bits .xor .i64 ((Gf.red p k : Nat) : Int) (285 * 2 ^ (7 - k)) = ((Gf.red p (k + 1) : Nat) : Int) := by
  have h1 := Gf.red_lt hp k (by omega)
  have h2 : 285 <<< (7 - k) < 65536 := by
    rw [Nat.shiftLeft_eq]
    have : 2 ^ (7 - k) ≤ 2 ^ 7 := Nat.pow_le_pow_right (by omega) (by omega)
    have := Nat.mul_le_mul (Nat.le_refl 285) this
    omega
  rw [show (285 : Int) * (2 : Int) ^ (7 - k) = ((285 <<< (7 - k) : Nat) : Int) by rw [Nat.shiftLeft_eq]; simp, i64_xor_nat _ _ (by omega) (by omega)]
  conv => rhs; unfold Gf.red
  rw [if_pos h]
theorem Gf.red_no {p k : Nat} (h : (Gf.red p k).testBit (15 - k) = false) : Gf.red p (k + 1) = Gf.red p k := by
  conv => lhs; unfold Gf.red
  rw [if_neg (by simp [h])]

set_option maxHeartbeats 800000 in
theorem rmul_any (n m : Nat) (hn : n < 256) (hm : m < 256) (w : World) :
    Calls Tryz.prog 128 #[.int .u8 n, .int .u8 m] w fun e w' => e = .returned (.int .u8 (Gf.mul n m : Nat)) ∧ w' = w := by
  have hl := Gf.mul_lt hn hm
  have H8 := Lib.hid (Gf.acc_lt (m := m) hn 8 (by omega))
  go_enter Tryz.func128, Tryz.ntmps128
  go_wp2_with fail
  go_loop [5, 6] (fun p i => ∃ k : Nat, k ≤ 8 ∧ i = .int .i64 k ∧ p = .int .i64 (Gf.acc n m k : Nat)) (fun _ i => 8 - (intOf i).toNat)
  case atStart => exact ⟨0, by omega, rfl, rfl⟩
  case round =>
    obtain ⟨k, hk, rfl, rfl⟩ := hrel
    by_cases hlt : k < 8
    · have hw : wrap64 ((n : Int) * 2 ^ k) = (n : Int) * 2 ^ k := by
        have h2 := Gf.shl_lt hn hlt
        rw [show (n : Int) * 2 ^ k = ((n <<< k : Nat) : Int) by rw [Nat.shiftLeft_eq]; simp]
        generalize n <<< k = s at *
        unfold wrap64; omega
      have hb := u8_bit m k hm
      cases ht : m.testBit k with
      | true =>
        rw [ht] at hb
        have hx := Gf.acc_yes hn hlt ht
        clear ht hl
        go_wp2_with fail
        go_round
        case rel => exact ⟨k + 1, by omega, by go_num, rfl⟩
        case measure => simp [intOf]; omega
      | false =>
        rw [ht] at hb
        have hx := Gf.acc_no (n := n) ht
        clear ht hl
        go_wp2_with fail
        go_round
        case rel => exact ⟨k + 1, by omega, by go_num, by rw [hx]⟩
        case measure => simp [intOf]; omega
    · obtain rfl : k = 8 := by omega
      go_wp2_with fail
      go_loop [5, 7] (fun p i => ∃ k : Nat, k ≤ 8 ∧ i = .int .i64 (15 - (k : Int)) ∧ p = .int .i64 (Gf.red (Gf.acc n m 8) k : Nat)) (fun _ i => (intOf i).toNat)
      case atStart => exact ⟨0, by omega, rfl, rfl⟩
      case round =>
        obtain ⟨k, hk, rfl, rfl⟩ := hrel
        by_cases hlt : k < 8
        · have h2 : (285 : Int) * 2 ^ (7 - k) < 65536 ∧ 0 ≤ (285 : Int) * 2 ^ (7 - k) := by
            have : 2 ^ (7 - k) ≤ 2 ^ 7 := Nat.pow_le_pow_right (by omega) (by omega)
            have := Nat.mul_le_mul (Nat.le_refl 285) this
            rw [show (285 : Int) * 2 ^ (7 - k) = ((285 * 2 ^ (7 - k) : Nat) : Int) by simp]
            omega
          have hw : wrap64 ((285 : Int) * 2 ^ (7 - k)) = (285 : Int) * 2 ^ (7 - k) := by
            unfold wrap64; omega
          clear h2
          have e1 : (15 - (k : Int)).toNat = 15 - k := by omega
          have e2 : (15 - (k : Int) - 8).toNat = 7 - k := by omega
          have hb := i64_bit (Gf.red (Gf.acc n m 8) k) (15 - k) (by have := Gf.red_lt H8.out k (by omega); omega)
          cases ht : (Gf.red (Gf.acc n m 8) k).testBit (15 - k) with
          | true =>
            rw [ht] at hb
            have hx := Gf.red_yes H8.out hlt ht
            clear ht hl
            go_wp2_with fail
            go_round
            case rel => exact ⟨k + 1, by omega, by congr 1; omega, rfl⟩
            case measure => simp [intOf]; omega
          | false =>
            rw [ht] at hb
            have hx := Gf.red_no ht
            clear ht hl
            go_wp2_with fail
            go_round
            case rel => exact ⟨k + 1, by omega, by congr 1; omega, by rw [hx]⟩
            case measure => simp [intOf]; omega
        · obtain rfl : k = 8 := by omega
          have hh : Gf.red (Gf.acc n m 8) 8 = Gf.mul n m := rfl
          rw [hh]
          clear hh
          go_wp2
          go_ret
          exact ⟨rfl, rfl⟩

/-- the same, of any two numbers that are bytes. -/
theorem rmul_int (x y : Int) (hx0 : 0 ≤ x) (hx : x < 256) (hy0 : 0 ≤ y) (hy : y < 256) (w : World) :
    Calls Tryz.prog 128 #[.int .u8 x, .int .u8 y] w fun e w' => e = .returned (.int .u8 (mulOf x y)) ∧ w' = w := by
  obtain ⟨n, rfl⟩ := Int.eq_ofNat_of_zero_le hx0
  obtain ⟨m, rfl⟩ := Int.eq_ofNat_of_zero_le hy0
  exact rmul_any n m (by omega) (by omega) w

/-- where the inverse stands. -/
theorem inv_at {a : Nat} (ha : a < 256) (h0 : a ≠ 0) (b : Nat) (hb : b < 256) : (Gf.mul a b = 1) ↔ b = Gf.pwr a (-1) := by
  have hi := Gf.pwr_lt a (-1)
  constructor
  · intro h
    rw [← Gf.mul_one b hb, ← Gf.mul_inv ha h0, ← Gf.mul_assoc hi ha hb, h, Gf.mul_one' hi]
  · intro h
    rw [h, Gf.mul_comm ha hi, Gf.mul_inv ha h0]

set_option maxHeartbeats 800000 in
set_option maxRecDepth 100000 in
theorem rinv_any (x : Int) (hx0 : 0 ≤ x) (hx : x < 256) (w : World) :
    Calls Tryz.prog 141 #[.int .u8 x] w fun e w' => e = .returned (.tuple #[.int .u8 (invOf x), .int .i64 (zeroErr x)]) ∧ w' = w := by
  go_enter Tryz.func141, Tryz.ntmps141
  go_wp2_with fail
  go_loopw [4] (fun i wr => ∃ k : Nat, 1 ≤ k ∧ k ≤ 256 ∧ i = .int .i64 k ∧ (x ≠ 0 → (k : Int) ≤ invOf x) ∧ wr = w) (fun i _ => 256 - (intOf i).toNat)
  case atStart => exact ⟨1, by omega, by omega, rfl, fun h => by unfold invOf; rw [if_neg h]; have := Gf.pwr_pos x.toNat (-1); omega, rfl⟩
  case round =>
    rename_i wr
    obtain ⟨k, hk1, hk, rfl, hle, rfl⟩ := hrel
    by_cases hlt : k < 256
    · by_cases h0 : x = 0
      · have hm : (mulOf x (k : Int) == 1) = false := by subst h0; unfold mulOf; show (((Gf.mul 0 _ : Nat) : Int) == 1) = false; rw [Gf.zero_mul]; rfl
        have H0 := Lib.hid h0; have HL := Lib.hid hle; clear h0 hle
        go_wp2_with fail
        refine (rmul_int _ _ hx0 hx (by omega) (by omega) _).mono ?_
        rintro e w' ⟨rfl, rfl⟩
        go_wp2
        go_roundw
        case rel => exact ⟨k + 1, by omega, by omega, by go_num, fun h => absurd H0.out h, by trivial⟩
        case measure => simp [intOf]; omega
      · have HL := Lib.hid (hle h0); have H0 := Lib.hid h0; clear hle
        have hat := inv_at (a := x.toNat) (by omega) (by omega) k hlt
        have hiv : invOf x = (Gf.pwr x.toNat (-1) : Nat) := by unfold invOf; rw [if_neg h0]
        have hze : zeroErr x = 0 := by unfold zeroErr; rw [if_neg h0]
        by_cases hq : (k : Int) = invOf x
        · have hm : (mulOf x (k : Int) == 1) = true := by
            unfold mulOf; rw [Int.toNat_natCast, hat.2 (by omega)]; rfl
          have HQ := Lib.hid hq; have HZ := Lib.hid hze; clear h0 hat hiv hq hze
          go_wp2_with fail
          refine (rmul_int _ _ hx0 hx (by omega) (by omega) _).mono ?_
          rintro e w' ⟨rfl, rfl⟩
          go_wp2
          go_ret2
          exact ⟨by rw [← HQ.out, HZ.out]; rfl, rfl⟩
        · have hm : (mulOf x (k : Int) == 1) = false := by
            unfold mulOf; rw [Int.toNat_natCast]
            have : ¬ Gf.mul x.toNat k = 1 := fun h => hq (by rw [hiv, ← hat.1 h])
            simp; omega
          have HQ := Lib.hid hq; clear h0 hat hiv hq hze
          go_wp2_with fail
          refine (rmul_int _ _ hx0 hx (by omega) (by omega) _).mono ?_
          rintro e w' ⟨rfl, rfl⟩
          go_wp2
          go_roundw
          case rel => exact ⟨k + 1, by omega, by omega, by go_num, fun _ => by have := HL.out; have := HQ.out; omega, by trivial⟩
          case measure => simp [intOf]; omega
    · have h0 : x = 0 := Decidable.byContradiction fun h => by
        have := hle h
        unfold invOf at this; rw [if_neg h] at this
        have := Gf.pwr_lt x.toNat (-1)
        omega
      subst h0
      clear hle
      go_wp2
      go_ret2
      exact ⟨rfl, rfl⟩

set_option maxHeartbeats 400000 in
theorem rdiv_any (x y : Int) (hx0 : 0 ≤ x) (hx : x < 256) (hy0 : 0 ≤ y) (hy : y < 256) (w : World) :
    Calls Tryz.prog 125 #[.int .u8 x, .int .u8 y] w fun e w' => e = .returned (.tuple #[.int .u8 (mulOf x (invOf y)), .int .i64 (zeroErr y)]) ∧ w' = w := by
  by_cases h : y = 0
  · have e1 : mulOf x (invOf y) = 0 := by unfold mulOf invOf; rw [if_pos h]; show ((Gf.mul x.toNat 0 : Nat) : Int) = 0; rw [Gf.mul_zero]; rfl
    have e2 : zeroErr y = 6 := by unfold zeroErr; rw [if_pos h]
    have e3 : invOf y = 0 := by unfold invOf; rw [if_pos h]
    rw [e1, e2]
    have E2 := Lib.hid e2; have E3 := Lib.hid e3; clear e1 e2 e3 h
    go_enter Tryz.func125, Tryz.ntmps125
    go_wp2_with fail
    refine (rinv_any _ hy0 hy _).mono ?_
    rintro e w' ⟨rfl, rfl⟩
    rw [E2.out, E3.out]
    go_wp2
    go_ret2
    exact ⟨rfl, rfl⟩
  · have e2 : zeroErr y = 0 := by unfold zeroErr; rw [if_neg h]
    have e3 : 0 ≤ invOf y ∧ invOf y < 256 := by unfold invOf; rw [if_neg h]; have := Gf.pwr_lt y.toNat (-1); omega
    rw [e2]
    have E2 := Lib.hid e2; clear e2
    obtain ⟨i0, i1⟩ := e3
    go_enter Tryz.func125, Tryz.ntmps125
    go_wp2_with fail
    refine (rinv_any _ hy0 hy _).mono ?_
    rintro e w' ⟨rfl, rfl⟩
    rw [E2.out]
    go_wp2_with fail
    refine (rmul_int _ _ hx0 hx i0 i1 _).mono ?_
    rintro e w' ⟨rfl, rfl⟩
    go_wp2
    go_ret2
    exact ⟨rfl, rfl⟩

end Go.Proofs.YtkejabhjlflknaaGreat
