import Derived.Test.YtdempjkkahjekaaProg
import Derived.Test.YtdempjkkahjekaaGf
import Derived.WalkKit
import Derived.WalkSpells
import Derived.WalkLawsBesides
import Derived.BigQuiet
import Derived.Deep.QuietTactic
import Derived.Lib.Hide
namespace Go.Proofs.Ytdempjkkahjekaa
open Go.RowKit

/-- the cells of a field that is none yet. -/
def zerosF : Array Value := Array.replicate 766 (.int .u8 0)

theorem zero_field : ∀ w, (zeroValue 87).run Try.prog w = .ok (.agg zerosF) w := fun _ => by kernel_rfl

/-- a block that holds so many bytes. -/
def Tab (F : Nat → Nat) (b : Nat) (w : World) : Prop :=
  ∀ j, j < 766 → w.cell? ⟨b, j, none⟩ = some (.int .u8 (F j : Nat)) ∧ w.frozen? ⟨b, j, none⟩ = false

theorem Tab.set {F : Nat → Nat} {b : Nat} {w : World} (h : Tab F b w) {i : Nat} (hi : i < 766) (v : Nat) :
    Tab (fun j => if j = i then v else F j) b (w.setCell ⟨b, i, none⟩ (.int .u8 (v : Nat))) := by
  intro j hj
  refine ⟨?_, by rw [World.frozen?_setCell]; exact (h j hj).2⟩
  by_cases e : j = i
  · subst e
    rw [World.cell?_setCell_same _ _ _ (h j hj).1]; simp
  · rw [World.cell?_setCell_other _ _ _ _ (by intro hh; cases hh; exact e rfl), (h j hj).1]; simp [e]
theorem Tab.drewN {F : Nat → Nat} {b : Nat} {w : World} (h : Tab F b w) (n : Nat) : Tab F b (w.drewN n) := h
theorem Tab.drew {F : Nat → Nat} {b : Nat} {w : World} (h : Tab F b w) : Tab F b w.drew := h

theorem and128_no : ∀ n, n < 128 → n &&& 128 = 0 := by decide +kernel
theorem and128_yes : ∀ n, n < 256 → 128 ≤ n → n &&& 128 = 128 := by decide +kernel

set_option maxHeartbeats 400000 in
theorem double_any (a : Int) (h0 : 0 ≤ a) (h1 : a < 256) (w : World) :
    Calls Try.prog 69 #[.int .u8 a] w fun e w' => e = .returned (.int .u8 (Gf.xt a.toNat : Nat)) ∧ w' = w := by
  obtain ⟨n, rfl⟩ := Int.eq_ofNat_of_zero_le h0
  by_cases h : n < 128
  · have e : (bits .and .u8 (n : Int) 128 == 0) = true := by
      rw [show (128 : Int) = ((128 : Nat) : Int) from rfl, u8_and_nat _ _ (by omega) (by omega), and128_no n h]; simp
    go_enter Try.func69, Try.ntmps69
    go_wp2
    go_ret
    refine ⟨?_, rfl⟩
    show Ending.returned (.int .u8 ((n : Int) * 2)) = _
    rw [Int.toNat_natCast, show (n : Int) * 2 = ((Gf.xt n : Nat) : Int) by unfold Gf.xt; rw [if_pos h]; omega]
  · have e : (bits .and .u8 (n : Int) 128 == 0) = false := by
      rw [show (128 : Int) = ((128 : Nat) : Int) from rfl, u8_and_nat _ _ (by omega) (by omega), and128_yes n (by omega) (by omega)]; rfl
    have ex : bits .xor .u8 ((n : Int) * 2 % 256) 29 = ((Gf.xt n : Nat) : Int) := by
      rw [show (29 : Int) = ((29 : Nat) : Int) from rfl, show (n : Int) * 2 % 256 = ((2 * n - 256 : Nat) : Int) by omega, u8_xor_nat _ _ (by omega) (by omega)]
      unfold Gf.xt; rw [if_neg h]
    go_enter Try.func69, Try.ntmps69
    go_wp2
    go_ret
    exact ⟨rfl, rfl⟩

set_option maxHeartbeats 400000 in
set_option maxRecDepth 100000 in
theorem fill_any (b : Nat) (w : World) (hT : Tab (Gf.tabF 0) b w) :
    Calls Try.prog 41 #[.pointer (some ⟨b, 0, none⟩)] w fun e w' => e = .returned (.tuple #[]) ∧ Tab (Gf.tabF 255) b w' ∧ Below b w w' := by
  have HT := Lib.hid hT; clear hT
  go_enter Try.func41, Try.ntmps41
  go_wp2_with fail
  go_loopw [2, 4] (fun p i wr => ∃ k : Nat, k ≤ 255 ∧ i = .int .i64 k ∧ p = .int .u8 (Gf.pw k : Nat) ∧ Tab (Gf.tabF k) b wr ∧ Below b w wr) (fun _ i _ => 255 - (intOf i).toNat)
  case atStart => exact ⟨0, by omega, rfl, rfl, HT.out, Below.refl _ _⟩
  case round =>
    rename_i wr
    obtain ⟨k, hk, rfl, rfl, hTk, hB⟩ := hrel
    have hp := Gf.pw_lt k
    by_cases hlt : k < 255
    · obtain ⟨hk0, hf0⟩ := (hTk k (by omega))
      obtain ⟨hk1, hf1⟩ := (hTk (k + 255) (by omega))
      have HTk := Lib.hid hTk; clear hTk
      have hB' := Lib.hid hB; clear hB
      obtain ⟨hk2, hf2⟩ := (HTk.out (510 + Gf.pw k) (by omega))
      generalize Gf.tabF k (510 + Gf.pw k) = x2 at hk2
      have n1 : ¬ (k = 510 + Gf.pw k) := by omega
      have n2 : ¬ (k + 255 = 510 + Gf.pw k) := by omega
      generalize Gf.tabF k k = x0 at hk0
      generalize Gf.tabF k (k + 255) = x1 at hk1
      go_wp2_with fail
      go_region
      go_wp2_with fail
      refine (double_any _ (by omega) (by omega) _).mono ?_
      rintro e w' ⟨rfl, rfl⟩
      rw [Int.toNat_natCast]
      go_wp2
      go_roundw
      case rel => exact ⟨k + 1, by omega, by go_num, rfl, (((HTk.out.set (i := k) (by omega) (Gf.pw k)).set (i := k + 255) (by omega) (Gf.pw k)).set (i := 510 + Gf.pw k) (by omega) k).drew, (((hB'.out.setCell (by simp) _).setCell (by simp) _).setCell (by simp) _).drew⟩
      case measure => simp [intOf]; omega
    · obtain rfl : k = 255 := by omega
      have HTk := Lib.hid hTk; clear hTk
      have hB' := Lib.hid hB; clear hB
      clear hp
      go_wp2
      go_end0
      exact ⟨rfl, HTk.out, hB'.out⟩

/-- a field: its tables, filled. -/
def IsField (b : Nat) (w : World) : Prop := Tab (Gf.tabF 255) b w

set_option maxHeartbeats 400000 in
theorem new_any (w : World) :
    Calls Try.prog 26 #[] w fun e w' => e = .returned (.pointer (some ⟨w.heap.size, 0, none⟩)) ∧ IsField w.heap.size w' ∧ Below w.heap.size w w' := by
  have hb := zero_field
  have hT : Tab (Gf.tabF 0) w.heap.size (w.alloc (.cells zerosF 87)) := by
    intro j hj
    refine ⟨?_, by simp⟩
    rw [World.cell?_alloc_new]
    simp [zerosF, hj, Gf.tabF]
  have HT := Lib.hid hT; clear hT
  go_enter Try.func26, Try.ntmps26
  go_wp2_with fail
  refine (fill_any _ _ HT.out).mono ?_
  rintro e w' ⟨rfl, hF, hB⟩
  have hB' := Lib.hid hB; clear hB
  have hF' := Lib.hid hF; clear hF
  go_wp2
  go_ret
  exact ⟨rfl, hF'.out, ((Below.refl _ _).alloc (Nat.le_refl _) _).trans hB'.out⟩
end Go.Proofs.Ytdempjkkahjekaa
