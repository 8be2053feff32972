import Derived.Test.YtjlmajopfeplpaaMg8
import Derived.Test.YtjlmajopfeplpaaMg9
import Derived.Test.YtjlmajopfeplpaaMg10
namespace Go.Proofs.Ytjlmajopfeplpaa
open Go.RowKit Go.Shelf

/-- the first k bytes of a sum. -/
def Crc.bytN (s k i : Nat) : Nat := if i < k then Crc.byt s i else 0
theorem Crc.bytN_by (s k : Nat) : Pf.By (Crc.bytN s k) := fun i => by
  unfold Crc.bytN; split
  · exact Crc.byt_lt s i
  · omega
theorem Crc.bytN_up (s k : Nat) : Pf.Up (Crc.bytN s k) k := fun i hi => by unfold Crc.bytN; rw [if_neg (by omega)]
theorem Crc.byt_i (s k : Nat) : IntKind.u8.wrap ((s : Int) / 2 ^ (8 * k)) = ((Crc.byt s k : Nat) : Int) := by
  have h : (s : Int) / 2 ^ (8 * k) = ((s / 2 ^ (8 * k) : Nat) : Int) := by simp
  rw [h, IntKind.wrap_u8]
  unfold Crc.byt
  rw [show 256 = 2 ^ 8 from rfl, ← Nat.pow_mul]; omega

set_option maxHeartbeats 1000000 in
set_option maxRecDepth 100000 in
theorem seal_small (a : Option Addr) (n cap : Nat) (f : Nat → Nat) (hn : n ≤ 1000000000000) (w : World) (hS : Sl w a n cap f) :
    Calls Try.prog 41 #[.slice a n cap] w fun e w' => ∃ g, e = .returned (.slice (some ⟨g, 0, none⟩) 4 4) ∧ w.heap.size ≤ g ∧ Bl w' g 4 4 (Crc.bytN (Crc.go 0 f n) 4) ∧ Below w.heap.size w w' := by
  have HO := Lib.hid (of_sum _ 1 1 _ _ _ _ (by omega) (fun _ _ => hn) _ (rd_one hS)); clear hS
  have hmk : ∀ W : World, (Instr.makeSlice 27 (.int .i64 4) (.int .i64 4)).run Try.prog W = .ok (.slice (some ⟨W.heap.size, 0, none⟩) 4 4) (W.alloc (.cells (madeCells #[.int .u8 0] 4) 5)) := hmk8 4 (by omega)
  go_enter Try.func41, Try.ntmps41
  go_wp2_with fail
  refine HO.out.mono ?_
  rintro e w1 ⟨rfl, hB⟩
  have HB := Lib.hid (((Below.refl w.heap.size w).alloc (Nat.le_refl _) (.cells #[.slice a n cap] 27)).trans (hB.mono (by simp))); clear hB
  have HG := Lib.hid (show Crc.rows 0 (fun _ => n) (fun _ => f) 1 = Crc.go 0 f n from rfl)
  generalize Crc.rows 0 (fun _ => n) (fun _ => f) 1 = s at HG ⊢
  have HB0 := Lib.hid (bl_made w1 4)
  go_wp2_with fail
  go_loopw [10] (fun i wr => ∃ k : Nat, k ≤ 4 ∧ i = .int .i64 k ∧ Bl wr w1.heap.size 4 4 (Crc.bytN s k) ∧ Below w1.heap.size w1 wr) (fun i _ => 4 - (intOf i).toNat)
  case atStart => exact ⟨0, by omega, rfl, HB0.out.congr (fun i _ => by unfold Crc.bytN; rw [if_neg (by omega)]), (Below.refl _ _).alloc (Nat.le_refl _) _⟩
  case round =>
    rename_i wr
    obtain ⟨k, hk, rfl, hb, hBe⟩ := hrel
    have HBl := Lib.hid hb; have HBe := Lib.hid hBe; clear hb hBe
    by_cases hlt : k < 4
    · have hc := HBl.out.cell hlt
      have hf := HBl.out.free k
      generalize Crc.bytN s k k = x0 at hc
      have e1 : IntKind.i64.wrap (8 * (k : Int)) = 8 * (k : Int) := IntWalk.i64_in _ (by omega)
      have e2 : (8 * (k : Int)).toNat = 8 * k := by omega
      have e3 : (0 : Int) ≤ 8 * (k : Int) := by omega
      have e4 : 8 * (k : Int) ≤ 32 := by omega
      have hv := Crc.byt_i s k
      go_wp2_with fail
      go_roundw
      case rel => exact ⟨k + 1, by omega, by go_num, (HBl.out.set hlt _).congr (fun i _ => by unfold Crc.bytN; (repeat' split) <;> first | rfl | omega | (subst_vars; rfl) | (exfalso; omega)), HBe.out.setCell (Nat.le_refl _) _⟩
      case measure => simp [intOf]; omega
    · obtain rfl : k = 4 := by omega
      go_wp2
      go_ret
      exact ⟨_, rfl, HB.out.size, by rw [← HG.out]; exact HBl.out, HB.out.trans (HBe.out.mono HB.out.size)⟩
end Go.Proofs.Ytjlmajopfeplpaa
