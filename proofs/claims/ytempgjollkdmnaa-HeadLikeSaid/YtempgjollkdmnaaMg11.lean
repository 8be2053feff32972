import Derived.RangeFuncNested
import Derived.WalkKit
import Derived.WalkSpells
import Derived.WalkLawsBesides
import Derived.Lib.Hide
import Derived.Test.YtempgjollkdmnaaMg2
import Derived.Test.YtempgjollkdmnaaMg10
namespace Go.Proofs.Ytempgjollkdmnaa.Sp
open Go.RowKit Go.Shelf

/-- the width of a length and a threshold. -/
def wid (L k : Nat) : Nat := (L + k - 1) / k
/-- a length, a threshold that are none. -/
def Bad (x k : Int) : Prop := x < 0 ∨ 65535 < x ∨ k < 1 ∨ 255 < k
instance (x k : Int) : Decidable (Bad x k) := by unfold Bad; exact inferInstance
theorem wid_le {L k : Nat} (h : 1 ≤ k) : wid L k ≤ L := by
  unfold wid
  rcases Nat.eq_zero_or_pos L with rfl | h1
  · rw [Nat.div_eq_of_lt (by omega)]; exact Nat.le_refl _
  · rw [Nat.div_le_iff_le_mul_add_pred (by omega)]
    have := Nat.mul_le_mul_right L h
    rw [Nat.one_mul] at this
    rw [Nat.mul_comm k L]
    rw [Nat.mul_comm k L] at this
    omega
theorem wid_hi {L k : Nat} (h : 1 ≤ k) : L ≤ k * wid L k := by
  have := Nat.lt_mul_div_succ (L + k - 1) (show 0 < k by omega)
  unfold wid
  rw [Nat.mul_add, Nat.mul_one] at this
  omega
theorem wid_lo {L k : Nat} (_h : 1 ≤ k) : k * wid L k ≤ L + k - 1 := Nat.mul_div_le _ _
/-- it is the least by which the rows have room. -/
theorem wid_least {L k w : Nat} (h : 1 ≤ k) (hw : L ≤ k * w) : wid L k ≤ w := by
  unfold wid
  rw [Nat.div_le_iff_le_mul_add_pred (by omega)]
  omega
theorem wid_uniq {L k w : Nat} (h : 1 ≤ k) (h1 : L ≤ k * w) (h2 : k * w < L + k) : wid L k = w := by
  have h3 := wid_least h h1
  have h4 := wid_hi (L := L) h
  rcases Nat.lt_or_ge (wid L k) w with c | c
  · have : k * (wid L k + 1) ≤ k * w := Nat.mul_le_mul_left k c
    rw [Nat.mul_add, Nat.mul_one] at this
    omega
  · omega

set_option maxHeartbeats 1000000 in
theorem width_bad (x k : Int) (h : Bad x k) (w : World) :
    Calls Try.prog 67 #[.int .i64 x, .int .i64 k] w fun e w' => e = .returned (.tuple #[.int .i64 0, .int .i64 2]) ∧ w' = w := by
  by_cases h1 : x < 0
  · go_enter Try.func67, Try.ntmps67
    go_wp2
    go_ret2
    exact ⟨rfl, rfl⟩
  · by_cases h2 : 65535 < x
    · go_enter Try.func67, Try.ntmps67
      go_wp2
      go_ret2
      exact ⟨rfl, rfl⟩
    · by_cases h3 : k < 1
      · go_enter Try.func67, Try.ntmps67
        go_wp2
        go_ret2
        exact ⟨rfl, rfl⟩
      · have h4 : 255 < k := by unfold Bad at h; omega
        clear h
        go_enter Try.func67, Try.ntmps67
        go_wp2
        go_ret2
        exact ⟨rfl, rfl⟩
set_option maxHeartbeats 1000000 in
theorem width_ok (L k : Nat) (hL : L ≤ 65535) (h1 : 1 ≤ k) (h2 : k ≤ 255) (w : World) :
    Calls Try.prog 67 #[.int .i64 (L : Nat), .int .i64 (k : Nat)] w fun e w' => e = .returned (.tuple #[.int .i64 (wid L k : Nat), .int .i64 0]) ∧ w' = w := by
  have i1 : ¬ (L : Int) < 0 := by omega
  have i2 : ¬ (65535 : Int) < (L : Int) := by omega
  have i3 : ¬ (k : Int) < 1 := by omega
  have i4 : ¬ (255 : Int) < (k : Int) := by omega
  have hne : (k : Int) ≠ 0 := by omega
  have hq : ((L : Int) + (k : Int) - 1).tdiv (k : Int) = ((wid L k : Nat) : Int) := by
    rw [show (L : Int) + (k : Int) - 1 = ((L + k - 1 : Nat) : Int) by omega]
    rfl
  have hle := wid_le (L := L) h1
  have hwr : wrap64 ((wid L k : Nat) : Int) = ((wid L k : Nat) : Int) := by unfold wrap64; omega
  go_enter Try.func67, Try.ntmps67
  go_wp2
  go_ret2
  exact ⟨rfl, rfl⟩

/-- how many noughts. -/
def was (L k : Nat) : Nat := k * wid L k - L
end Go.Proofs.Ytempgjollkdmnaa.Sp
