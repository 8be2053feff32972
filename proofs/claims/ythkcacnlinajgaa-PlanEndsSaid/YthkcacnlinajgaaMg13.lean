import Derived.Test.YthkcacnlinajgaaProg
import Derived.WalkKit
import Derived.WalkSpells
import Derived.WalkLawsBesides
import Derived.BigQuiet
import Derived.Deep.QuietTactic
import Derived.Lib.Hide
import Derived.Test.YthkcacnlinajgaaMg2
import Derived.Test.YthkcacnlinajgaaMg12
namespace Go.Proofs.Ythkcacnlinajgaa
open Go.RowKit Go.Shelf

/-! the words of 32 bits -/
theorem Crc.and1 (s : Nat) (hs : s < 2 ^ 32) : bits .and .u32 (s : Int) 1 = if s.testBit 0 then 1 else 0 := by
  rw [show (1 : Int) = ((1 : Nat) : Int) from rfl, u32_and_nat _ _ hs (by omega), Nat.and_one_is_mod, Nat.testBit_zero]
  rcases Nat.mod_two_eq_zero_or_one s with h | h <;> rw [h] <;> rfl
theorem Crc.m1_yes (s : Nat) (hs : s < 2 ^ 32) (h : s.testBit 0 = true) : bits .xor .u32 ((s : Int) / 2) 3988292384 = (Crc.m1 s : Nat) := by
  rw [show (s : Int) / 2 = ((s / 2 : Nat) : Int) by omega, show (3988292384 : Int) = ((3988292384 : Nat) : Int) from rfl, u32_xor_nat _ _ (by omega) (by omega)]
  unfold Crc.m1; rw [h, Nat.shiftRight_eq_div_pow]; rfl
theorem Crc.m1_no (s : Nat) (h : s.testBit 0 = false) : (s : Int) / 2 = (Crc.m1 s : Nat) := by
  unfold Crc.m1; rw [h, Nat.shiftRight_eq_div_pow]; simp [Crc.pp]

/-- the table as it is filled: up to k. -/
def Crc.tabT (k j : Nat) : Nat := if j < k then Crc.mn j 8 else 0
theorem Crc.tabT_lt {k j : Nat} (h : j < 256) : Crc.tabT k j < 4294967296 := by
  unfold Crc.tabT; split
  · exact Crc.mn_lt (s := j) (by omega) 8
  · omega
/-- a block that holds a table. -/
def TabW (F : Nat → Nat) (b : Nat) (w : World) : Prop :=
  ∀ j, j < 256 → w.cell? ⟨b, j, none⟩ = some (.int .u32 (F j : Nat)) ∧ w.frozen? ⟨b, j, none⟩ = false
theorem TabW.set {F G : Nat → Nat} {b : Nat} {w : World} (h : TabW F b w) {i : Nat} (hi : i < 256) (v : Nat) (hG : ∀ j, j < 256 → G j = if j = i then v else F j) :
    TabW G b (w.setCell ⟨b, i, none⟩ (.int .u32 (v : Nat))) := by
  intro j hj
  refine ⟨?_, by rw [World.frozen?_setCell]; exact (h j hj).2⟩
  rw [hG j hj]
  by_cases e : j = i
  · subst e
    rw [World.cell?_setCell_same _ _ _ (h j hj).1]; simp
  · rw [World.cell?_setCell_other _ _ _ _ (by intro hh; cases hh; exact e rfl), (h j hj).1]; simp [e]
theorem TabW.drewN {F : Nat → Nat} {b : Nat} {w : World} (h : TabW F b w) (n : Nat) : TabW F b (w.drewN n) := h
theorem TabW.drew {F : Nat → Nat} {b : Nat} {w : World} (h : TabW F b w) : TabW F b w.drew := h
def zerosT : Array Value := Array.replicate 256 (.int .u32 0)
theorem Crc.u8_xor (r b : Nat) (hb : b < 256) : bits .xor .u8 ((r : Int) % 256) (b : Int) = ((r % 256 ^^^ b : Nat) : Int) := by
  rw [show (r : Int) % 256 = ((r % 256 : Nat) : Int) by omega, u8_xor_nat _ _ (by omega) hb]
theorem Crc.step (r b : Nat) (hr : r < 4294967296) (hb : b < 256) : bits .xor .u32 ((r : Int) / 256) ((Crc.mn (r % 256 ^^^ b) 8 : Nat) : Int) = ((Crc.mn (r ^^^ b) 8 : Nat) : Int) := by
  have h8 : r % 256 ^^^ b < 256 := Nat.xor_lt_two_pow (n := 8) (Nat.mod_lt _ (by omega)) hb
  rw [show (r : Int) / 256 = ((r / 256 : Nat) : Int) by omega, u32_xor_nat _ _ (by omega) (Crc.mn_lt (s := r % 256 ^^^ b) (by omega) 8), ← Crc.by_table r b hb]

theorem Crc.notw (s : Nat) (hs : s < 4294967296) : bits .xor .u32 IntKind.u32.max (s : Int) = ((Crc.inv s : Nat) : Int) := by
  rw [show IntKind.u32.max = ((4294967295 : Nat) : Int) from rfl, u32_xor_nat _ _ (by omega) hs, Nat.xor_comm]; rfl
theorem Crc.sgn : IntKind.u32.signed = false := rfl

/-- one row, in a list of its own. -/
theorem rd_one {w : World} {a : Option Addr} {n cap : Nat} {f : Nat → Nat} (h : Sl w a n cap f) : Rd (w.alloc (.cells #[.slice a n cap] 139)) (some ⟨w.heap.size, 0, none⟩) 1 1 (fun _ => a) (fun _ => n) (fun _ => cap) (fun _ => f) :=
  ⟨Nat.le_refl _, by unfold maxLen; omega, fun _ j => h.bytes j, fun e => (by cases e), fun ad e _ => (by cases e; rfl), fun ad e i hi => by
    cases e
    obtain rfl : i = 0 := by omega
    rw [World.cell?_alloc_new]; rfl, fun i _ => h.same ((Below.refl _ _).alloc (Nat.le_refl _) _)⟩

end Go.Proofs.Ythkcacnlinajgaa
