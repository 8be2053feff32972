import Derived.RangeFuncNested
import Derived.WalkKit
import Derived.WalkSpells
import Derived.WalkLawsBesides
import Derived.Lib.Hide
import Derived.Test.YtjlmajopfeplpaaGreatMg2
import Derived.Test.YtjlmajopfeplpaaGreatMg10
namespace Go.Proofs.YtjlmajopfeplpaaGreat.Sp
open Go.RowKit Go.Shelf

/-- the width of a length and a threshold. -/
def wid (L k : Nat) : Nat := (L + k - 1) / k
/-- a length, a threshold that are none. -/
def Bad (x k : Int) : Prop := x < 0 ∨ 65535 < x ∨ k < 1 ∨ 255 < k
instance (x k : Int) : Decidable (Bad x k) := by unfold Bad; exact inferInstance
theorem wid_le {L k : Nat} (h : 1 ≤ k) : wid L k ≤ L := by
  unfold wid
  rcases Nat.eq_zero_or_pos L with rfl | h1
  · rw [Nat.div_eq_of_lt (by omega)]; exact Nat.le_refl _
  · rw [Nat.div_le_iff_le_mul_add_pred (by omega)]
    have := Nat.mul_le_mul_right L h
    rw [Nat.one_mul] at this
    rw [Nat.mul_comm k L]
    rw [Nat.mul_comm k L] at this
    omega
theorem wid_hi {L k : Nat} (h : 1 ≤ k) : L ≤ k * wid L k := by
  have := Nat.lt_mul_div_succ (L + k - 1) (show 0 < k by omega)
  unfold wid
  rw [Nat.mul_add, Nat.mul_one] at this
  omega
theorem wid_lo {L k : Nat} (_h : 1 ≤ k) : k * wid L k ≤ L + k - 1 := Nat.mul_div_le _ _
/-- it is the least by which the rows have room. -/
theorem wid_least {L k w : Nat} (h : 1 ≤ k) (hw : L ≤ k * w) : wid L k ≤ w := by
  unfold wid
  rw [Nat.div_le_iff_le_mul_add_pred (by omega)]
  omega
theorem wid_uniq {L k w : Nat} (h : 1 ≤ k) (h1 : L ≤ k * w) (h2 : k * w < L + k) : wid L k = w := by
  have h3 := wid_least h h1
  have h4 := wid_hi (L := L) h
  rcases Nat.lt_or_ge (wid L k) w with c | c
  · have : k * (wid L k + 1) ≤ k * w := Nat.mul_le_mul_left k c
    rw [Nat.mul_add, Nat.mul_one] at this
    omega
  · omega

set_option maxHeartbeats 1000000 in
theorem width_bad (x k : Int) (h : Bad x k) (w : World) :
    Calls Tryz.prog 111 #[.int .i64 x, .int .i64 k] w fun e w' => e = .returned (.tuple #[.int .i64 0, .int .i64 2]) ∧ w' = w := by
  by_cases h1 : x < 0
  · go_enter Tryz.func111, Tryz.ntmps111
    go_wp2
    go_ret2
    exact ⟨rfl, rfl⟩
  · by_cases h2 : 65535 < x
    · go_enter Tryz.func111, Tryz.ntmps111
      go_wp2
      go_ret2
      exact ⟨rfl, rfl⟩
    · by_cases h3 : k < 1
      · go_enter Tryz.func111, Tryz.ntmps111
        go_wp2
        go_ret2
        exact ⟨rfl, rfl⟩
      · have h4 : 255 < k := by unfold Bad at h; omega
        clear h
        go_enter Tryz.func111, Tryz.ntmps111
        go_wp2
        go_ret2
        exact ⟨rfl, rfl⟩
set_option maxHeartbeats 1000000 in
theorem width_ok (L k : Nat) (hL : L ≤ 65535) (h1 : 1 ≤ k) (h2 : k ≤ 255) (w : World) :
    Calls Tryz.prog 111 #[.int .i64 (L : Nat), .int .i64 (k : Nat)] w fun e w' => e = .returned (.tuple #[.int .i64 (wid L k : Nat), .int .i64 0]) ∧ w' = w := by
  have i1 : ¬ (L : Int) < 0 := by omega
  have i2 : ¬ (65535 : Int) < (L : Int) := by omega
  have i3 : ¬ (k : Int) < 1 := by omega
  have i4 : ¬ (255 : Int) < (k : Int) := by omega
  have hne : (k : Int) ≠ 0 := by omega
  have hq : ((L : Int) + (k : Int) - 1).tdiv (k : Int) = ((wid L k : Nat) : Int) := by
    rw [show (L : Int) + (k : Int) - 1 = ((L + k - 1 : Nat) : Int) by omega]
    rfl
  have hle := wid_le (L := L) h1
  have hwr : wrap64 ((wid L k : Nat) : Int) = ((wid L k : Nat) : Int) := by unfold wrap64; omega
  go_enter Tryz.func111, Tryz.ntmps111
  go_wp2
  go_ret2
  exact ⟨rfl, rfl⟩

/-- how many noughts. -/
def was (L k : Nat) : Nat := k * wid L k - L
set_option maxHeartbeats 1000000 in
theorem rwidth_bad (x k : Int) (h : Bad x k) (w : World) :
    Calls Tryz.prog 79 #[.int .i64 x, .int .i64 k] w fun e w' => e = .returned (.tuple #[.int .i64 0, .int .i64 2]) ∧ w' = w := by
  by_cases h1 : x < 0
  · go_enter Tryz.func79, Tryz.ntmps79
    go_wp2
    go_ret2
    exact ⟨rfl, rfl⟩
  · by_cases h2 : 65535 < x
    · go_enter Tryz.func79, Tryz.ntmps79
      go_wp2
      go_ret2
      exact ⟨rfl, rfl⟩
    · by_cases h3 : k < 1
      · go_enter Tryz.func79, Tryz.ntmps79
        go_wp2
        go_ret2
        exact ⟨rfl, rfl⟩
      · have h4 : 255 < k := by unfold Bad at h; omega
        clear h
        go_enter Tryz.func79, Tryz.ntmps79
        go_wp2
        go_ret2
        exact ⟨rfl, rfl⟩
set_option maxHeartbeats 1000000 in
theorem rwidth_ok (L k : Nat) (hL : L ≤ 65535) (h1 : 1 ≤ k) (h2 : k ≤ 255) (w : World) :
    Calls Tryz.prog 79 #[.int .i64 (L : Nat), .int .i64 (k : Nat)] w fun e w' => e = .returned (.tuple #[.int .i64 (wid L k : Nat), .int .i64 0]) ∧ w' = w := by
  have i1 : ¬ (L : Int) < 0 := by omega
  have i2 : ¬ (65535 : Int) < (L : Int) := by omega
  have i3 : ¬ (k : Int) < 1 := by omega
  have i4 : ¬ (255 : Int) < (k : Int) := by omega
  have hne : (k : Int) ≠ 0 := by omega
  obtain ⟨d, hd⟩ : ∃ d, d = L / k := ⟨_, rfl⟩
  have hq : (L : Int).tdiv (k : Int) = ((d : Nat) : Int) := by rw [hd]; rfl
  have hdl : d ≤ L := by rw [hd]; exact Nat.div_le_self _ _
  have hwr : wrap64 ((d : Nat) : Int) = ((d : Nat) : Int) := by unfold wrap64; omega
  have hd1 : k * d ≤ L := by rw [hd]; exact Nat.mul_div_le _ _
  have hd2 : d ≤ wid L k := by
    have := wid_hi (L := L) h1
    exact Nat.le_of_mul_le_mul_left (Nat.le_trans hd1 this) (by omega)
  have hle := wid_le (L := L) h1
  clear hd
  go_enter Tryz.func79, Tryz.ntmps79
  go_wp2_with fail
  clear hq hwr i1 i2 i3 i4 hne
  go_loop [6] (fun v => ∃ m : Nat, d ≤ m ∧ m ≤ wid L k ∧ v = .int .i64 (m : Nat)) (fun v => wid L k - (intOf v).toNat)
  case atStart => exact ⟨d, Nat.le_refl _, hd2, rfl⟩
  case round =>
    obtain ⟨m, hm1, hm2, rfl⟩ := hrel
    have hm : (m : Int) * (k : Int) = ((k * m : Nat) : Int) := by rw [Int.natCast_mul, Int.mul_comm]
    have hkm : k * m ≤ k * wid L k := Nat.mul_le_mul_left _ hm2
    have hlo := wid_lo (L := L) h1
    by_cases c : k * m < L
    · have hlt : m < wid L k := by
        rcases Nat.lt_or_ge m (wid L k) with c2 | c2
        · exact c2
        · have := wid_hi (L := L) h1
          obtain rfl : m = wid L k := by omega
          omega
      generalize k * m = kw at *
      have i5 : (kw : Int) < (L : Int) := by omega
      go_wp2
      go_round
      case rel => exact ⟨m + 1, by omega, by omega, by go_num⟩
      case measure => simp [intOf]; omega
    · have hwm : wid L k = m := by
        have := wid_least (L := L) (w := m) h1 (by omega)
        omega
      rw [hwm]
      generalize k * m = kw at *
      have i5 : ¬ (kw : Int) < (L : Int) := by omega
      go_wp2
      go_ret2
      exact ⟨rfl, rfl⟩
end Go.Proofs.YtjlmajopfeplpaaGreat.Sp
