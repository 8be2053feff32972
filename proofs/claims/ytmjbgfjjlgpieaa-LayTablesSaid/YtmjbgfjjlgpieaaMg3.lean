import Derived.Test.YtmjbgfjjlgpieaaProg
import Derived.WalkKit
import Derived.WalkSpells
import Derived.WalkLawsBesides
import Derived.BigQuiet
import Derived.Deep.QuietTactic
import Derived.Lib.Hide
import Derived.Test.YtmjbgfjjlgpieaaMg1
namespace Go.Proofs.Ytmjbgfjjlgpieaa
open Go.RowKit

/-- the cells of a field that is none yet. -/
def zerosF : Array Value := Array.replicate 766 (.int .u8 0)

theorem zero_field : ∀ w, (zeroValue 109).run Try.prog w = .ok (.agg zerosF) w := fun _ => by kernel_rfl

/-- a block that holds so many bytes. -/
def Tab (F : Nat → Nat) (b : Nat) (w : World) : Prop :=
  ∀ j, j < 766 → w.cell? ⟨b, j, none⟩ = some (.int .u8 (F j : Nat)) ∧ w.frozen? ⟨b, j, none⟩ = false

theorem Tab.set {F : Nat → Nat} {b : Nat} {w : World} (h : Tab F b w) {i : Nat} (hi : i < 766) (v : Nat) :
    Tab (fun j => if j = i then v else F j) b (w.setCell ⟨b, i, none⟩ (.int .u8 (v : Nat))) := by
  intro j hj
  refine ⟨?_, by rw [World.frozen?_setCell]; exact (h j hj).2⟩
  by_cases e : j = i
  · subst e
    rw [World.cell?_setCell_same _ _ _ (h j hj).1]; simp
  · rw [World.cell?_setCell_other _ _ _ _ (by intro hh; cases hh; exact e rfl), (h j hj).1]; simp [e]
theorem Tab.drewN {F : Nat → Nat} {b : Nat} {w : World} (h : Tab F b w) (n : Nat) : Tab F b (w.drewN n) := h
theorem Tab.drew {F : Nat → Nat} {b : Nat} {w : World} (h : Tab F b w) : Tab F b w.drew := h

theorem and128_no : ∀ n, n < 128 → n &&& 128 = 0 := by decide +kernel
theorem and128_yes : ∀ n, n < 256 → 128 ≤ n → n &&& 128 = 128 := by decide +kernel

set_option maxHeartbeats 400000 in
theorem double_any (a : Int) (h0 : 0 ≤ a) (h1 : a < 256) (w : World) :
    Calls Try.prog 72 #[.int .u8 a] w fun e w' => e = .returned (.int .u8 (Gf.xt a.toNat : Nat)) ∧ w' = w := by
  obtain ⟨n, rfl⟩ := Int.eq_ofNat_of_zero_le h0
  by_cases h : n < 128
  · have e : (bits .and .u8 (n : Int) 128 == 0) = true := by
      rw [show (128 : Int) = ((128 : Nat) : Int) from rfl, u8_and_nat _ _ (by omega) (by omega), and128_no n h]; simp
    go_enter Try.func72, Try.ntmps72
    go_wp2
    go_ret
    refine ⟨?_, rfl⟩
    show Ending.returned (.int .u8 ((n : Int) * 2)) = _
    rw [Int.toNat_natCast, show (n : Int) * 2 = ((Gf.xt n : Nat) : Int) by unfold Gf.xt; rw [if_pos h]; omega]
  · have e : (bits .and .u8 (n : Int) 128 == 0) = false := by
      rw [show (128 : Int) = ((128 : Nat) : Int) from rfl, u8_and_nat _ _ (by omega) (by omega), and128_yes n (by omega) (by omega)]; rfl
    have ex : bits .xor .u8 ((n : Int) * 2 % 256) 29 = ((Gf.xt n : Nat) : Int) := by
      rw [show (29 : Int) = ((29 : Nat) : Int) from rfl, show (n : Int) * 2 % 256 = ((2 * n - 256 : Nat) : Int) by omega, u8_xor_nat _ _ (by omega) (by omega)]
      unfold Gf.xt; rw [if_neg h]
    go_enter Try.func72, Try.ntmps72
    go_wp2
    go_ret
    exact ⟨rfl, rfl⟩

set_option maxHeartbeats 400000 in
set_option maxRecDepth 100000 in
theorem fill_any (b : Nat) (w : World) (hT : Tab (Gf.tabF 0) b w) :
    Calls Try.prog 59 #[.pointer (some ⟨b, 0, none⟩)] w fun e w' => e = .returned (.tuple #[]) ∧ Tab (Gf.tabF 255) b w' ∧ Below b w w' := by
  have HT := Lib.hid hT; clear hT
  go_enter Try.func59, Try.ntmps59
  go_wp2_with fail
  go_loopw [2, 4] (fun p i wr => ∃ k : Nat, k ≤ 255 ∧ i = .int .i64 k ∧ p = .int .u8 (Gf.pw k : Nat) ∧ Tab (Gf.tabF k) b wr ∧ Below b w wr) (fun _ i _ => 255 - (intOf i).toNat)
  case atStart => exact ⟨0, by omega, rfl, rfl, HT.out, Below.refl _ _⟩
  case round =>
    rename_i wr
    obtain ⟨k, hk, rfl, rfl, hTk, hB⟩ := hrel
    have hp := Gf.pw_lt k
    by_cases hlt : k < 255
    · obtain ⟨hk0, hf0⟩ := (hTk k (by omega))
      obtain ⟨hk1, hf1⟩ := (hTk (k + 255) (by omega))
      have HTk := Lib.hid hTk; clear hTk
      have hB' := Lib.hid hB; clear hB
      obtain ⟨hk2, hf2⟩ := (HTk.out (510 + Gf.pw k) (by omega))
      generalize Gf.tabF k (510 + Gf.pw k) = x2 at hk2
      have n1 : ¬ (k = 510 + Gf.pw k) := by omega
      have n2 : ¬ (k + 255 = 510 + Gf.pw k) := by omega
      generalize Gf.tabF k k = x0 at hk0
      generalize Gf.tabF k (k + 255) = x1 at hk1
      go_wp2_with fail
      go_region
      go_wp2_with fail
      refine (double_any _ (by omega) (by omega) _).mono ?_
      rintro e w' ⟨rfl, rfl⟩
      rw [Int.toNat_natCast]
      go_wp2
      go_roundw
      case rel => exact ⟨k + 1, by omega, by go_num, rfl, (((HTk.out.set (i := k) (by omega) (Gf.pw k)).set (i := k + 255) (by omega) (Gf.pw k)).set (i := 510 + Gf.pw k) (by omega) k).drew, (((hB'.out.setCell (by simp) _).setCell (by simp) _).setCell (by simp) _).drew⟩
      case measure => simp [intOf]; omega
    · obtain rfl : k = 255 := by omega
      have HTk := Lib.hid hTk; clear hTk
      have hB' := Lib.hid hB; clear hB
      clear hp
      go_wp2
      go_end0
      exact ⟨rfl, HTk.out, hB'.out⟩

/-- a field: its tables, filled. -/
def IsField (b : Nat) (w : World) : Prop := Tab (Gf.tabF 255) b w

set_option maxHeartbeats 400000 in
theorem new_any (w : World) :
    Calls Try.prog 45 #[] w fun e w' => e = .returned (.pointer (some ⟨w.heap.size, 0, none⟩)) ∧ IsField w.heap.size w' ∧ Below w.heap.size w w' := by
  have hb := zero_field
  have hT : Tab (Gf.tabF 0) w.heap.size (w.alloc (.cells zerosF 109)) := by
    intro j hj
    refine ⟨?_, by simp⟩
    rw [World.cell?_alloc_new]
    simp [zerosF, hj, Gf.tabF]
  have HT := Lib.hid hT; clear hT
  go_enter Try.func45, Try.ntmps45
  go_wp2_with fail
  refine (fill_any _ _ HT.out).mono ?_
  rintro e w' ⟨rfl, hF, hB⟩
  have hB' := Lib.hid hB; clear hB
  have hF' := Lib.hid hF; clear hF
  go_wp2
  go_ret
  exact ⟨rfl, hF'.out, ((Below.refl _ _).alloc (Nat.le_refl _) _).trans hB'.out⟩
end Go.Proofs.Ytmjbgfjjlgpieaa

namespace Go.Proofs.Ytmjbgfjjlgpieaa
open Go.RowKit

theorem tm_pos (n : Int) (h : 0 ≤ n) : n.tmod 255 = n % 255 := Int.tmod_eq_emod_of_nonneg h
theorem tm_neg (n : Int) (h : n < 0) : (n % 255 = 0 ∧ n.tmod 255 = 0) ∨ (0 < n % 255 ∧ n.tmod 255 = n % 255 - 255) := by
  have := @Int.tmod_eq_emod n 255
  by_cases hd : (255 : Int) ∣ n
  · rw [if_pos (Or.inr hd)] at this
    left; omega
  · rw [if_neg (by omega)] at this
    right
    have h1 : (Int.natAbs 255 : Int) = 255 := rfl
    rw [this]; omega

set_option maxHeartbeats 400000 in
theorem turn_any (n : Int) (w : World) :
    Calls Try.prog 91 #[.int .i64 n] w fun e w' => e = .returned (.int .i64 (n % 255)) ∧ w' = w := by
  by_cases h : 0 ≤ n
  · have e := tm_pos n h
    have hh : ¬ n % 255 < 0 := by omega
    go_enter Try.func91, Try.ntmps91
    go_wp2
    go_ret
    exact ⟨rfl, rfl⟩
  · rcases tm_neg n (by omega) with ⟨h0, e⟩ | ⟨h0, e⟩
    · go_enter Try.func91, Try.ntmps91
      go_wp2
      go_ret
      exact ⟨rfl, rfl⟩
    · have h1 : n % 255 < 255 := by omega
      have h2 : n % 255 - 255 + 255 = n % 255 := by omega
      go_enter Try.func91, Try.ntmps91
      go_wp2
      go_ret
      exact ⟨rfl, rfl⟩

theorem IsField.drewN {b : Nat} {w : World} (h : IsField b w) (n : Nat) : IsField b (w.drewN n) := h
theorem IsField.log {b : Nat} {w : World} (h : IsField b w) {a : Nat} (ha : a < 256) : w.cell? ⟨b, 510 + a, none⟩ = some (.int .u8 (Gf.lg a : Nat)) := (h (510 + a) (by omega)).1
theorem IsField.pow {b : Nat} {w : World} (h : IsField b w) {j : Nat} (hj : j < 510) : w.cell? ⟨b, j, none⟩ = some (.int .u8 (Gf.pw j : Nat)) := by
  rw [← Gf.tab_pw hj]; exact (h j (by omega)).1

set_option maxHeartbeats 400000 in
theorem filled_yes (b : Nat) (w : World) (hF : IsField b w) :
    Calls Try.prog 89 #[.pointer (some ⟨b, 0, none⟩)] w fun e w' => e = .returned (.bool true) ∧ w' = w := by
  have h0 : w.cell? ⟨b, 0, none⟩ = some (.int .u8 1) := hF.pow (j := 0) (by omega)
  clear hF
  go_enter Try.func89, Try.ntmps89
  go_wp2
  go_ret
  exact ⟨rfl, rfl⟩

set_option maxHeartbeats 400000 in
theorem none_no (b : Nat) (w : World) (hF : IsField b w) :
    Calls Try.prog 80 #[.pointer (some ⟨b, 0, none⟩)] w fun e w' => e = .returned (.bool false) ∧ w' = w := by
  have HF := Lib.hid hF; clear hF
  go_enter Try.func80, Try.ntmps80
  go_wp2_with fail
  refine (filled_yes _ _ HF.out).mono ?_
  rintro e w' ⟨rfl, rfl⟩
  go_wp2
  go_ret
  exact ⟨rfl, rfl⟩

set_option maxHeartbeats 400000 in
theorem product_any (b : Nat) (x y : Int) (hx0 : 0 ≤ x) (hx : x < 256) (hy0 : 0 ≤ y) (hy : y < 256) (w : World) (hF : IsField b w) :
    Calls Try.prog 81 #[.pointer (some ⟨b, 0, none⟩), .int .u8 x, .int .u8 y] w fun e w' => e = .returned (.int .u8 (Gf.mul x.toNat y.toNat : Nat)) ∧ ∃ q, w' = w.drewN q := by
  obtain ⟨n, rfl⟩ := Int.eq_ofNat_of_zero_le hx0
  obtain ⟨m, rfl⟩ := Int.eq_ofNat_of_zero_le hy0
  rw [Int.toNat_natCast, Int.toNat_natCast]
  by_cases e1 : n = 0
  · subst e1
    rw [Gf.zero_mul]
    clear hF
    have g1 : (((0 : Nat) : Int) == 0) = true := rfl
    go_enter Try.func81, Try.ntmps81
    go_wp2
    go_ret
    exact ⟨rfl, 0, rfl⟩
  by_cases e2 : m = 0
  · subst e2
    rw [Gf.mul_zero]
    clear hF
    have g1 : ((n : Int) == 0) = false := by simp; omega
    go_enter Try.func81, Try.ntmps81
    go_wp2
    go_ret
    exact ⟨rfl, 0, rfl⟩
  have l1 := Gf.lg_lt (a := n) (by omega) e1
  have l2 := Gf.lg_lt (a := m) (by omega) e2
  have c1 := hF.log (a := n) (by omega)
  have c2 := hF.log (a := m) (by omega)
  have c3 := hF.pow (j := Gf.lg n + Gf.lg m) (by omega)
  rw [← Gf.mul_pw (by omega) (by omega) e1 e2] at c3
  clear hF
  have g1 : ((n : Int) == 0) = false := by simp; omega
  have g2 : ((m : Int) == 0) = false := by simp; omega
  generalize Gf.mul n m = r at *
  generalize Gf.lg n = ln at *
  generalize Gf.lg m = lm at *
  have b1 : (0 : Int) ≤ (ln : Int) + (lm : Int) := by omega
  have b2 : (ln : Int) + (lm : Int) < 510 := by omega
  have b3 : ((ln : Int) + (lm : Int)).toNat = ln + lm := by omega
  go_enter Try.func81, Try.ntmps81
  go_wp2_with fail
  go_quiet (fail)
  rename_i nq
  go_wp2
  go_ret
  exact ⟨rfl, _, rfl⟩

theorem Gf.pwr_mod (a : Nat) (n : Int) : Gf.pw ((((Gf.lg a : Nat) : Int) * (n % 255)) % 255).toNat = Gf.pwr a n := by
  unfold Gf.pwr
  rw [← Gf.pw_mod (Gf.lg a * _)]
  have h : 0 ≤ n % 255 := by omega
  obtain ⟨t, ht⟩ := Int.eq_ofNat_of_zero_le h
  rw [ht, Int.toNat_natCast]
  congr 1

set_option maxHeartbeats 400000 in
theorem power_any (b : Nat) (x n : Int) (hx0 : 0 < x) (hx : x < 256) (w : World) (hF : IsField b w) :
    Calls Try.prog 88 #[.pointer (some ⟨b, 0, none⟩), .int .u8 x, .int .i64 n] w fun e w' => e = .returned (.int .u8 (Gf.pwr x.toNat n : Nat)) ∧ ∃ q, w' = w.drewN q := by
  obtain ⟨m, rfl⟩ := Int.eq_ofNat_of_zero_le (Int.le_of_lt hx0)
  rw [Int.toNat_natCast]
  have l1 := Gf.lg_lt (a := m) (by omega) (by omega)
  have t0 : 0 ≤ n % 255 := by omega
  have t1 : n % 255 < 255 := by omega
  have p0 : 0 ≤ ((Gf.lg m : Nat) : Int) * (n % 255) := Int.mul_nonneg (by omega) t0
  have p1 : ((Gf.lg m : Nat) : Int) * (n % 255) ≤ 254 * 254 := Int.mul_le_mul (by omega) (by omega) t0 (by omega)
  have c1 := hF.log (a := m) (by omega)
  have c3 := hF.pow (j := ((((Gf.lg m : Nat) : Int) * (n % 255)) % 255).toNat) (by omega)
  rw [Gf.pwr_mod] at c3
  clear hF
  have b1 : (0 : Int) ≤ (((Gf.lg m : Nat) : Int) * (n % 255)) % 255 := by omega
  have b2 : (((Gf.lg m : Nat) : Int) * (n % 255)) % 255 < 255 := by omega
  generalize Gf.pwr m n = r at *
  generalize Gf.lg m = ln at *
  go_enter Try.func88, Try.ntmps88
  go_wp2_with fail
  go_quiet ((go_at_call 91; exact Calls.quiet_of_same (turn_any _ _)))
  rename_i nq
  go_wp2
  go_ret
  exact ⟨rfl, _, rfl⟩

set_option maxHeartbeats 400000 in
theorem mul_any (b : Nat) (x y : Int) (hx0 : 0 ≤ x) (hx : x < 256) (hy0 : 0 ≤ y) (hy : y < 256) (w : World) (hF : IsField b w) :
    Calls Try.prog 70 #[.pointer (some ⟨b, 0, none⟩), .int .u8 x, .int .u8 y] w fun e w' => e = .returned (.int .u8 (Gf.mul x.toNat y.toNat : Nat)) ∧ ∃ q, w' = w.drewN q := by
  have HF := Lib.hid hF; clear hF
  go_enter Try.func70, Try.ntmps70
  go_wp2_with fail
  refine (none_no _ _ HF.out).mono ?_
  rintro e w' ⟨rfl, rfl⟩
  go_wp2_with fail
  refine (product_any _ _ _ hx0 hx hy0 hy _ HF.out).mono ?_
  rintro e w' ⟨rfl, q, rfl⟩
  go_wp2
  go_ret
  exact ⟨rfl, q, rfl⟩

/-- the error of what a byte that is 0 has none of. -/
def zeroErr (x : Int) : Int := if x = 0 then 6 else 0
/-- the inverse; 0 of 0. -/
def invOf (x : Int) : Int := if x = 0 then 0 else (Gf.pwr x.toNat (-1) : Nat)
/-- the power; of 0 to a number below 0: 0. -/
def powOf (x n : Int) : Int := if x = 0 then (if n = 0 then 1 else 0) else (Gf.pwr x.toNat n : Nat)
def powErr (x n : Int) : Int := if x = 0 ∧ n < 0 then 6 else 0
def logOf (x : Int) : Int := if x = 0 then 0 else (Gf.lg x.toNat : Nat)
def mulOf (x y : Int) : Int := (Gf.mul x.toNat y.toNat : Nat)
def expOf (n : Int) : Int := (Gf.pw (n % 255).toNat : Nat)

set_option maxHeartbeats 400000 in
theorem pow_any (b : Nat) (x n : Int) (hx0 : 0 ≤ x) (hx : x < 256) (w : World) (hF : IsField b w) :
    Calls Try.prog 79 #[.pointer (some ⟨b, 0, none⟩), .int .u8 x, .int .i64 n] w fun e w' => e = .returned (.tuple #[.int .u8 (powOf x n), .int .i64 (powErr x n)]) ∧ ∃ q, w' = w.drewN q := by
  have HF := Lib.hid hF; clear hF
  by_cases h : x = 0
  · subst h
    have g0 : (((0 : Int)) != 0) = false := rfl
    by_cases h1 : n < 0
    · have e1 : powOf 0 n = 0 := by unfold powOf; rw [if_pos rfl, if_neg (by omega)]
      have e2 : powErr 0 n = 6 := by unfold powErr; rw [if_pos ⟨rfl, h1⟩]
      rw [e1, e2]; clear e1 e2
      go_enter Try.func79, Try.ntmps79
      go_wp2_with fail
      refine (none_no _ _ HF.out).mono ?_
      rintro e w' ⟨rfl, rfl⟩
      go_wp2
      go_ret2
      exact ⟨rfl, 0, rfl⟩
    · have e2 : powErr 0 n = 0 := by unfold powErr; rw [if_neg (by omega)]
      by_cases h2 : n = 0
      · have e1 : powOf 0 n = 1 := by unfold powOf; rw [if_pos rfl, if_pos h2]
        have g1 : (n == 0) = true := by simpa using h2
        rw [e1, e2]; clear e1 e2 h2
        go_enter Try.func79, Try.ntmps79
        go_wp2_with fail
        refine (none_no _ _ HF.out).mono ?_
        rintro e w' ⟨rfl, rfl⟩
        go_wp2
        go_ret2
        exact ⟨rfl, 0, rfl⟩
      · have e1 : powOf 0 n = 0 := by unfold powOf; rw [if_pos rfl, if_neg h2]
        have g1 : (n == 0) = false := by simpa using h2
        rw [e1, e2]; clear e1 e2
        go_enter Try.func79, Try.ntmps79
        go_wp2_with fail
        refine (none_no _ _ HF.out).mono ?_
        rintro e w' ⟨rfl, rfl⟩
        go_wp2
        go_ret2
        exact ⟨rfl, 0, rfl⟩
  · have e1 : powOf x n = (Gf.pwr x.toNat n : Nat) := by unfold powOf; rw [if_neg h]
    have e2 : powErr x n = 0 := by unfold powErr; rw [if_neg (fun hh => h hh.1)]
    rw [e1, e2]; clear e1 e2
    have g0 : (x != 0) = true := by simpa using h
    go_enter Try.func79, Try.ntmps79
    go_wp2_with fail
    refine (none_no _ _ HF.out).mono ?_
    rintro e w' ⟨rfl, rfl⟩
    go_wp2_with fail
    refine (power_any _ _ _ (by omega) hx _ HF.out).mono ?_
    rintro e w' ⟨rfl, q, rfl⟩
    go_wp2
    go_ret2
    exact ⟨rfl, q, rfl⟩

theorem powOf_inv (x : Int) : powOf x (-1) = invOf x := by unfold powOf invOf; split <;> simp
theorem powErr_inv (x : Int) : powErr x (-1) = zeroErr x := by unfold powErr zeroErr; simp

set_option maxHeartbeats 400000 in
theorem inv_any (b : Nat) (x : Int) (hx0 : 0 ≤ x) (hx : x < 256) (w : World) (hF : IsField b w) :
    Calls Try.prog 68 #[.pointer (some ⟨b, 0, none⟩), .int .u8 x] w fun e w' => e = .returned (.tuple #[.int .u8 (invOf x), .int .i64 (zeroErr x)]) ∧ ∃ q, w' = w.drewN q := by
  have HF := Lib.hid hF; clear hF
  go_enter Try.func68, Try.ntmps68
  go_wp2_with fail
  refine (pow_any _ _ _ hx0 hx _ HF.out).mono ?_
  rintro e w' ⟨rfl, q, rfl⟩
  rw [powOf_inv, powErr_inv]
  go_wp2
  go_ret2
  exact ⟨rfl, q, rfl⟩

theorem add_any (x y : Int) (hx0 : 0 ≤ x) (hx : x < 256) (hy0 : 0 ≤ y) (hy : y < 256) (w : World) :
    Calls Try.prog 69 #[.int .u8 x, .int .u8 y] w fun e w' => e = .returned (.int .u8 (x.toNat ^^^ y.toNat : Nat)) ∧ w' = w := by
  have e := u8_xor x y hx0 hx hy0 hy
  go_enter Try.func69, Try.ntmps69
  go_wp2
  go_ret
  exact ⟨rfl, rfl⟩
end Go.Proofs.Ytmjbgfjjlgpieaa

namespace Go.Proofs.Ytmjbgfjjlgpieaa
open Go.RowKit

theorem i64_xor_nat (a b : Nat) (ha : a < 2 ^ 62) (hb : b < 2 ^ 62) : bits .xor .i64 (a : Int) (b : Int) = ((a ^^^ b : Nat) : Int) := by
  have hx : a ^^^ b < 2 ^ 62 := Nat.xor_lt_two_pow ha hb
  show IntKind.i64.wrap ((BitVec.ofInt 64 (a : Int) ^^^ BitVec.ofInt 64 (b : Int)).toNat : Int) = _
  rw [BitVec.toNat_xor, ofInt_u64 a (by omega), ofInt_u64 b (by omega), IntKind.wrap_i64]
  omega
theorem i64_and_nat (a b : Nat) (ha : a < 2 ^ 62) (hb : b < 2 ^ 62) : bits .and .i64 (a : Int) (b : Int) = ((a &&& b : Nat) : Int) := by
  have hx : a &&& b < 2 ^ 62 := Nat.and_lt_two_pow _ hb
  show IntKind.i64.wrap ((BitVec.ofInt 64 (a : Int) &&& BitVec.ofInt 64 (b : Int)).toNat : Int) = _
  rw [BitVec.toNat_and, ofInt_u64 a (by omega), ofInt_u64 b (by omega), IntKind.wrap_i64]
  omega
theorem bit_of (p k : Nat) : ((p / 2 ^ k &&& 1) == 1) = p.testBit k := by
  rw [Nat.testBit_eq_decide_div_mod_eq, Nat.and_one_is_mod, Bool.eq_iff_iff]; simp
theorem u8_bit (m k : Nat) (hm : m < 256) : (bits .and .u8 ((m : Int) / 2 ^ k) 1 == 1) = m.testBit k := by
  have h : (m : Int) / 2 ^ k = ((m / 2 ^ k : Nat) : Int) := by simp
  have hl : m / 2 ^ k ≤ m := Nat.div_le_self _ _
  rw [h, show (1 : Int) = ((1 : Nat) : Int) from rfl, u8_and_nat _ _ (by omega) (by omega), ← bit_of]
  rw [Bool.eq_iff_iff]; simp; omega
theorem i64_bit (m k : Nat) (hm : m < 2 ^ 62) : (bits .and .i64 ((m : Int) / 2 ^ k) 1 == 1) = m.testBit k := by
  have h : (m : Int) / 2 ^ k = ((m / 2 ^ k : Nat) : Int) := by simp
  have hl : m / 2 ^ k ≤ m := Nat.div_le_self _ _
  rw [h, show (1 : Int) = ((1 : Nat) : Int) from rfl, i64_and_nat _ _ (by omega) (by omega), ← bit_of]
  rw [Bool.eq_iff_iff]; simp; omega

theorem Gf.shl_lt {n k : Nat} (hn : n < 256) (hk : k < 8) : n <<< k < 32768 := by
  rw [Nat.shiftLeft_eq]
  have : 2 ^ k ≤ 2 ^ 7 := Nat.pow_le_pow_right (by omega) (by omega)
  have := Nat.mul_le_mul (show n ≤ 255 by omega) this
  omega
theorem Gf.acc_lt {n m : Nat} (hn : n < 256) : ∀ k, k ≤ 8 → Gf.acc n m k < 32768
  | 0, _ => by show 0 < _; omega
  | k + 1, hk => by
    have h1 := Gf.acc_lt (m := m) hn k (by omega)
    unfold Gf.acc
    split
    · exact Nat.xor_lt_two_pow (n := 15) h1 (Gf.shl_lt hn (by omega))
    · exact h1
theorem Gf.red_lt {p : Nat} (hp : p < 32768) : ∀ k, k ≤ 8 → Gf.red p k < 65536
  | 0, _ => by show p < _; omega
  | k + 1, hk => by
    have h1 := Gf.red_lt hp k (by omega)
    unfold Gf.red
    split
    · refine Nat.xor_lt_two_pow (n := 16) h1 ?_
      rw [Nat.shiftLeft_eq]
      have : 2 ^ (7 - k) ≤ 2 ^ 7 := Nat.pow_le_pow_right (by omega) (by omega)
      have := Nat.mul_le_mul (Nat.le_refl 285) this
      omega
    · exact h1
theorem Gf.acc_yes {n m k : Nat} (hn : n < 256) (hk : k < 8) (h : m.testBit k = true) : bits .xor .i64 ((Gf.acc n m k : Nat) : Int) ((n : Int) * 2 ^ k) = ((Gf.acc n m (k + 1) : Nat) : Int) := by
  have h1 := Gf.acc_lt (m := m) hn k (by omega)
  have h2 := Gf.shl_lt hn hk
  rw [show (n : Int) * 2 ^ k = ((n <<< k : Nat) : Int) by rw [Nat.shiftLeft_eq]; simp, i64_xor_nat _ _ (by omega) (by omega)]
  conv => rhs; unfold Gf.acc
  rw [if_pos h]
theorem Gf.acc_no {n m k : Nat} (h : m.testBit k = false) : Gf.acc n m (k + 1) = Gf.acc n m k := by
  conv => lhs; unfold Gf.acc
  rw [if_neg (by simp [h])]
theorem Gf.red_yes {p k : Nat} (hp : p < 32768) (hk : k < 8) (h : (Gf.red p k).testBit (15 - k) = true) : bits .xor .i64 ((Gf.red p k : Nat) : Int) (285 * 2 ^ (7 - k)) = ((Gf.red p (k + 1) : Nat) : Int) := by
  have h1 := Gf.red_lt hp k (by omega)
  have h2 : 285 <<< (7 - k) < 65536 := by
    rw [Nat.shiftLeft_eq]
    have : 2 ^ (7 - k) ≤ 2 ^ 7 := Nat.pow_le_pow_right (by omega) (by omega)
    have := Nat.mul_le_mul (Nat.le_refl 285) this
    omega
  rw [show (285 : Int) * (2 : Int) ^ (7 - k) = ((285 <<< (7 - k) : Nat) : Int) by rw [Nat.shiftLeft_eq]; simp, i64_xor_nat _ _ (by omega) (by omega)]
  conv => rhs; unfold Gf.red
  rw [if_pos h]
theorem Gf.red_no {p k : Nat} (h : (Gf.red p k).testBit (15 - k) = false) : Gf.red p (k + 1) = Gf.red p k := by
  conv => lhs; unfold Gf.red
  rw [if_neg (by simp [h])]

/-- where the inverse stands. -/
theorem inv_at {a : Nat} (ha : a < 256) (h0 : a ≠ 0) (b : Nat) (hb : b < 256) : (Gf.mul a b = 1) ↔ b = Gf.pwr a (-1) := by
  have hi := Gf.pwr_lt a (-1)
  constructor
  · intro h
    rw [← Gf.mul_one b hb, ← Gf.mul_inv ha h0, ← Gf.mul_assoc hi ha hb, h, Gf.mul_one' hi]
  · intro h
    rw [h, Gf.mul_comm ha hi, Gf.mul_inv ha h0]

end Go.Proofs.Ytmjbgfjjlgpieaa
