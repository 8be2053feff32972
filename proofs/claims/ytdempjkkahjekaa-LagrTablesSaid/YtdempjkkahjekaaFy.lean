import Derived.Test.YtdempjkkahjekaaFr
import Derived.OpenShut
namespace Go.Proofs.Ytdempjkkahjekaa
open Go.RowKit

theorem mul_nat (b : Nat) (x y : Nat) (hx : x < 256) (hy : y < 256) (w : World) (hF : IsField b w) :
    Calls Try.prog 43 #[.pointer (some ⟨b, 0, none⟩), .int .u8 x, .int .u8 y] w fun e w' => e = .returned (.int .u8 (Gf.mul x y : Nat)) ∧ ∃ q, w' = w.drewN q :=
  mul_any b x y (by omega) (by omega) (by omega) (by omega) w hF
theorem add_nat (x y : Nat) (hx : x < 256) (hy : y < 256) (w : World) :
    Calls Try.prog 24 #[.int .u8 x, .int .u8 y] w fun e w' => e = .returned (.int .u8 (x ^^^ y : Nat)) ∧ w' = w :=
  add_any x y (by omega) (by omega) (by omega) (by omega) w

/-- the inverse of a byte, as a number from 0 on. -/
def ivN (b : Nat) : Nat := if b = 0 then 0 else Gf.pwr b (-1)
theorem ivN_lt (b : Nat) : ivN b < 256 := by unfold ivN; split; omega; exact Gf.pwr_lt _ _
theorem invOf_nat (b : Nat) : invOf (b : Int) = (ivN b : Nat) := by
  unfold invOf ivN
  by_cases h : b = 0
  · rw [if_pos h, if_pos (by omega)]; rfl
  · rw [if_neg h, if_neg (by omega), Int.toNat_natCast]
theorem inv_nat (b : Nat) (x : Nat) (hx : x < 256) (w : World) (hF : IsField b w) :
    Calls Try.prog 42 #[.pointer (some ⟨b, 0, none⟩), .int .u8 x] w fun e w' => e = .returned (.tuple #[.int .u8 (ivN x : Nat), .int .i64 (zeroErr x)]) ∧ ∃ q, w' = w.drewN q := by
  have h := inv_any b x (by omega) (by omega) w hF
  rw [invOf_nat] at h; exact h

theorem ne_no {x y : Nat} (h : x = y) : (((x : Nat) : Int) != (y : Int)) = false := by simp [h]
theorem eq_yes {x y : Nat} (h : x = y) : (((x : Nat) : Int) == (y : Int)) = true := by simp [h]
theorem eq_no {x y : Nat} (h : x ≠ y) : (((x : Nat) : Int) == (y : Int)) = false := by simp; omega
theorem ne_yes {x y : Nat} (h : x ≠ y) : (((x : Nat) : Int) != (y : Int)) = true := by simp; omega

/-- what a field's calls answer, in any world that differs by draws. -/
theorem mul_q {fb : Nat} {w1 : World} (HF : Hid (IsField fb w1)) (x y q : Nat) (hx : x < 256) (hy : y < 256) :
    Calls Try.prog 43 #[.pointer (some ⟨fb, 0, none⟩), .int .u8 x, .int .u8 y] (w1.drewN q) fun e w' => e = .returned (.int .u8 (Gf.mul x y : Nat)) ∧ ∃ q, w' = w1.drewN q :=
  (mul_nat _ x y hx hy _ (HF.out.drewN q)).mono fun e w' ⟨h1, n, h2⟩ => ⟨h1, q + n, by rw [h2, World.drewN_drewN]⟩

theorem IsField.below {fb B : Nat} {w w' : World} (h : IsField fb w) (hB : Below B w w') (hl : fb < B) : IsField fb w' := fun j hj => by
  rw [hB.cell (p := ⟨fb, j, none⟩) hl, hB.frozen (p := ⟨fb, j, none⟩) hl]; exact h j hj

theorem byte_of {a : Int} (h : (Lit.int .u8 a).wf = true) : ∃ n : Nat, a = (n : Int) ∧ n < 256 := by
  have hb := bounds_u8 h
  exact ⟨a.toNat, by omega, by omega⟩
end Go.Proofs.Ytdempjkkahjekaa
