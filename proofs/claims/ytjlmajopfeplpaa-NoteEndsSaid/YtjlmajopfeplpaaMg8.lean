import Derived.Test.YtjlmajopfeplpaaProg
import Derived.WalkKit
import Derived.WalkSpells
import Derived.WalkLawsBesides
import Derived.BigQuiet
import Derived.Deep.QuietTactic
import Derived.Lib.Hide
import Derived.Test.YtjlmajopfeplpaaMg2
import Derived.Test.YtjlmajopfeplpaaMg7
namespace Go.Proofs.Ytjlmajopfeplpaa
open Go.RowKit Go.Shelf

/-! the words of 32 bits -/
theorem Crc.and1 (s : Nat) (hs : s < 2 ^ 32) : bits .and .u32 (s : Int) 1 = if s.testBit 0 then 1 else 0 := by
  rw [show (1 : Int) = ((1 : Nat) : Int) from rfl, u32_and_nat _ _ hs (by omega), Nat.and_one_is_mod, Nat.testBit_zero]
  rcases Nat.mod_two_eq_zero_or_one s with h | h <;> rw [h] <;> rfl
theorem Crc.m1_yes (s : Nat) (hs : s < 2 ^ 32) (h : s.testBit 0 = true) : bits .xor .u32 ((s : Int) / 2) 3988292384 = (Crc.m1 s : Nat) := by
  rw [show (s : Int) / 2 = ((s / 2 : Nat) : Int) by omega, show (3988292384 : Int) = ((3988292384 : Nat) : Int) from rfl, u32_xor_nat _ _ (by omega) (by omega)]
  unfold Crc.m1; rw [h, Nat.shiftRight_eq_div_pow]; rfl
theorem Crc.m1_no (s : Nat) (h : s.testBit 0 = false) : (s : Int) / 2 = (Crc.m1 s : Nat) := by
  unfold Crc.m1; rw [h, Nat.shiftRight_eq_div_pow]; simp [Crc.pp]

set_option maxHeartbeats 800000 in
theorem moved_any (s : Nat) (hs : s < 4294967296) (w : World) :
    Calls Try.prog 82 #[.int .u32 s] w fun e w' => e = .returned (.int .u32 (Crc.mn s 8 : Nat)) ∧ w' = w := by
  have HL := Lib.hid (fun k => Crc.mn_lt (s := s) hs k)
  go_enter Try.func82, Try.ntmps82
  go_wp2_with fail
  go_loop [0, 4] (fun r i => ∃ k : Nat, k ≤ 8 ∧ i = .int .i64 k ∧ r = .int .u32 (Crc.mn s k : Nat)) (fun _ i => 8 - (intOf i).toNat)
  case atStart => exact ⟨0, by omega, rfl, rfl⟩
  case round =>
    obtain ⟨k, hk, rfl, rfl⟩ := hrel
    by_cases hlt : k < 8
    · have hl := HL.out k
      have HE := Lib.hid (show Crc.mn s (k + 1) = Crc.m1 (Crc.mn s k) from rfl)
      generalize Crc.mn s k = r at hl HE ⊢
      cases ht : r.testBit 0 with
      | true =>
        have ha := Crc.and1 r hl
        rw [ht, if_pos rfl] at ha
        have hx := Crc.m1_yes r hl ht
        clear ht
        go_wp2_with fail
        go_round
        case rel => exact ⟨k + 1, by omega, by go_num, by rw [HE.out]⟩
        case measure => simp [intOf]; omega
      | false =>
        have ha := Crc.and1 r hl
        rw [ht, if_neg (by simp)] at ha
        have hx := Crc.m1_no r ht
        clear ht
        go_wp2_with fail
        go_round
        case rel => exact ⟨k + 1, by omega, by go_num, by rw [HE.out]⟩
        case measure => simp [intOf]; omega
    · obtain rfl : k = 8 := by omega
      go_wp2
      go_ret
      exact ⟨rfl, rfl⟩

/-- the table as it is filled: up to k. -/
def Crc.tabT (k j : Nat) : Nat := if j < k then Crc.mn j 8 else 0
theorem Crc.tabT_lt {k j : Nat} (h : j < 256) : Crc.tabT k j < 4294967296 := by
  unfold Crc.tabT; split
  · exact Crc.mn_lt (s := j) (by omega) 8
  · omega
/-- a block that holds a table. -/
def TabW (F : Nat → Nat) (b : Nat) (w : World) : Prop :=
  ∀ j, j < 256 → w.cell? ⟨b, j, none⟩ = some (.int .u32 (F j : Nat)) ∧ w.frozen? ⟨b, j, none⟩ = false
theorem TabW.set {F G : Nat → Nat} {b : Nat} {w : World} (h : TabW F b w) {i : Nat} (hi : i < 256) (v : Nat) (hG : ∀ j, j < 256 → G j = if j = i then v else F j) :
    TabW G b (w.setCell ⟨b, i, none⟩ (.int .u32 (v : Nat))) := by
  intro j hj
  refine ⟨?_, by rw [World.frozen?_setCell]; exact (h j hj).2⟩
  rw [hG j hj]
  by_cases e : j = i
  · subst e
    rw [World.cell?_setCell_same _ _ _ (h j hj).1]; simp
  · rw [World.cell?_setCell_other _ _ _ _ (by intro hh; cases hh; exact e rfl), (h j hj).1]; simp [e]
theorem TabW.drewN {F : Nat → Nat} {b : Nat} {w : World} (h : TabW F b w) (n : Nat) : TabW F b (w.drewN n) := h
theorem TabW.drew {F : Nat → Nat} {b : Nat} {w : World} (h : TabW F b w) : TabW F b w.drew := h
def zerosT : Array Value := Array.replicate 256 (.int .u32 0)
theorem zero_tab : ∀ w, (zeroValue 104).run Try.prog w = .ok (.agg zerosT) w := fun _ => by kernel_rfl

set_option maxHeartbeats 1000000 in
set_option maxRecDepth 100000 in
theorem tfill_any (b : Nat) (w : World) (hT : TabW (Crc.tabT 0) b w) :
    Calls Try.prog 80 #[.pointer (some ⟨b, 0, none⟩)] w fun e w' => e = .returned (.tuple #[]) ∧ TabW (Crc.tabT 256) b w' ∧ Below b w w' := by
  have HT := Lib.hid hT; clear hT
  go_enter Try.func80, Try.ntmps80
  go_wp2_with fail
  go_loopw [3] (fun i wr => ∃ k : Nat, k ≤ 256 ∧ i = .int .i64 k ∧ TabW (Crc.tabT k) b wr ∧ Below b w wr) (fun i _ => 256 - (intOf i).toNat)
  case atStart => exact ⟨0, by omega, rfl, HT.out, Below.refl _ _⟩
  case round =>
    rename_i wr
    obtain ⟨k, hk, rfl, hTk, hB⟩ := hrel
    by_cases hlt : k < 256
    · obtain ⟨hk0, hf0⟩ := hTk k hlt
      generalize Crc.tabT k k = x0 at hk0
      have HTk := Lib.hid hTk; have HB := Lib.hid hB; clear hTk hB
      have hw : IntKind.u32.wrap (k : Int) = (k : Int) := by rw [IntKind.wrap_u32]; omega
      go_wp2_with fail
      refine Rb.wp_region_quiet_tail 7 (by kernel_rfl) (by kernel_rfl) ?_
      simp only [List.take_succ_cons, List.take_zero, List.drop_succ_cons, List.drop_zero]
      repeat (go_big_quiet_step ((go_at_call 82; exact Calls.quiet_of_same (moved_any k (by omega) _))))
      refine wpQuiet_nil ?_
      rintro _ ⟨kk, rfl⟩
      go_wp2
      go_roundw
      case rel => exact ⟨k + 1, by omega, by go_num, (HTk.out.drewN kk).set hlt _ (fun j hj => by unfold Crc.tabT; (repeat' split) <;> first | rfl | omega | (exfalso; omega) | (subst_vars; rfl)), (HB.out.trans (below_dr (Below.refl _ wr) kk)).setCell (Nat.le_refl _) _⟩
      case measure => simp [intOf]; omega
    · obtain rfl : k = 256 := by omega
      have HTk := Lib.hid hTk; have HB := Lib.hid hB; clear hTk hB
      go_wp2
      go_end0
      exact ⟨rfl, HTk.out, HB.out⟩

theorem Crc.u8_xor (r b : Nat) (hb : b < 256) : bits .xor .u8 ((r : Int) % 256) (b : Int) = ((r % 256 ^^^ b : Nat) : Int) := by
  rw [show (r : Int) % 256 = ((r % 256 : Nat) : Int) by omega, u8_xor_nat _ _ (by omega) hb]
theorem Crc.step (r b : Nat) (hr : r < 4294967296) (hb : b < 256) : bits .xor .u32 ((r : Int) / 256) ((Crc.mn (r % 256 ^^^ b) 8 : Nat) : Int) = ((Crc.mn (r ^^^ b) 8 : Nat) : Int) := by
  have h8 : r % 256 ^^^ b < 256 := Nat.xor_lt_two_pow (n := 8) (Nat.mod_lt _ (by omega)) hb
  rw [show (r : Int) / 256 = ((r / 256 : Nat) : Int) by omega, u32_xor_nat _ _ (by omega) (Crc.mn_lt (s := r % 256 ^^^ b) (by omega) 8), ← Crc.by_table r b hb]

set_option maxHeartbeats 1000000 in
set_option maxRecDepth 100000 in
theorem take_any (b : Nat) (a : Option Addr) (n cap : Nat) (f : Nat → Nat) (r : Nat) (hr : r < 4294967296) (hn : n ≤ 1000000000000) (w : World) (hT : TabW (Crc.tabT 256) b w) (hS : Sl w a n cap f) :
    Calls Try.prog 81 #[.pointer (some ⟨b, 0, none⟩), .int .u32 r, .slice a n cap] w fun e w' => e = .returned (.int .u32 (Crc.run r f n : Nat)) ∧ w' = w := by
  have HT := Lib.hid hT; have HS := Lib.hid hS; clear hT hS
  have HL := Lib.hid (fun k => Crc.run_lt (s := r) hr HS.out.bytes k)
  go_enter Try.func81, Try.ntmps81
  go_wp2_with fail
  go_loop [1, 11] (fun s i => ∃ k : Nat, k ≤ n ∧ i = .int .i64 k ∧ s = .int .u32 (Crc.run r f k : Nat)) (fun _ i => n - (intOf i).toNat)
  case atStart => exact ⟨0, by omega, rfl, rfl⟩
  case round =>
    obtain ⟨k, hk, rfl, rfl⟩ := hrel
    by_cases hlt : k < n
    · have i1 : (k : Int) < (n : Int) := by omega
      obtain ⟨ab, ao, ea, hc⟩ := HS.out.at_ hlt
      subst ea
      have hl := HL.out k
      have hb := HS.out.bytes k
      have HE := Lib.hid (show Crc.run r f (k + 1) = Crc.mn (Crc.run r f k ^^^ f k) 8 from rfl)
      generalize Crc.run r f k = s at hl HE ⊢
      generalize f k = v at hb hc HE
      have hx := Crc.u8_xor s v hb
      have h8 : s % 256 ^^^ v < 256 := Nat.xor_lt_two_pow (n := 8) (Nat.mod_lt _ (by omega)) hb
      obtain ⟨ht, _⟩ := HT.out _ h8
      have hst := Crc.step s v hl hb
      have e1 : Crc.tabT 256 (s % 256 ^^^ v) = Crc.mn (s % 256 ^^^ v) 8 := if_pos h8
      rw [e1] at ht
      generalize s % 256 ^^^ v = q at hx h8 ht hst
      clear e1
      go_wp2_with fail
      go_round
      case rel => exact ⟨k + 1, by omega, by go_num, by rw [HE.out]⟩
      case measure => simp [intOf]; omega
    · obtain rfl : k = n := by omega
      go_wp2
      go_ret
      exact ⟨rfl, rfl⟩

theorem Crc.notw (s : Nat) (hs : s < 4294967296) : bits .xor .u32 IntKind.u32.max (s : Int) = ((Crc.inv s : Nat) : Int) := by
  rw [show IntKind.u32.max = ((4294967295 : Nat) : Int) from rfl, u32_xor_nat _ _ (by omega) hs, Nat.xor_comm]; rfl
theorem Crc.sgn : IntKind.u32.signed = false := rfl

set_option maxHeartbeats 1000000 in
set_option maxRecDepth 100000 in
theorem over_sum (a : Option Addr) (n cap : Nat) (r : Nat → Option Addr) (l c : Nat → Nat) (f : Nat → Nat → Nat) (s : Nat) (hs : s < 4294967296) (hn : n ≤ 1000000) (hl : ∀ i, i < n → l i ≤ 1000000000000) (w : World) (hR : Rd w a n cap r l c f) :
    Calls Try.prog 75 #[.int .u32 s, .slice a n cap] w fun e w' => e = .returned (.int .u32 (Crc.rows s l f n : Nat)) ∧ Below w.heap.size w w' := by
  have HR := Lib.hid hR; have HL := Lib.hid hl; clear hR hl
  have hz := zero_tab
  have HT0 := Lib.hid (show TabW (Crc.tabT 0) w.heap.size (w.alloc (.cells zerosT 104)) from fun j hj => ⟨by rw [World.cell?_alloc_new]; simp [zerosT, hj, Crc.tabT], by simp⟩)
  have HLT := Lib.hid (fun k => Crc.rows_lt (s := s) (l := l) (f := f) hs (fun i j => HR.out.bm i j) k)
  have HRR := Lib.hid (fun k => Crc.rrows_eq s l f k)
  have hi0 := Crc.notw s hs
  have hsg := Crc.sgn
  have HRL := Lib.hid (fun k => (HRR.out k).symm ▸ Crc.inv_lt (HLT.out k) : ∀ k, Crc.rrows (Crc.inv s) l f k < 2 ^ 32)
  go_enter Try.func75, Try.ntmps75
  go_wp2_with fail
  refine (tfill_any _ _ HT0.out).mono ?_
  rintro e w1 ⟨rfl, hT, hB⟩
  have HT := Lib.hid hT; have HB := Lib.hid (((Below.refl w.heap.size w).alloc (Nat.le_refl _) (.cells zerosT 104)).trans hB)
  clear hT hB HT0 hz
  go_wp2_with fail
  go_loop [6, 14] (fun v i => ∃ k : Nat, k ≤ n ∧ i = .int .i64 k ∧ v = .int .u32 (Crc.rrows (Crc.inv s) l f k : Nat)) (fun _ i => n - (intOf i).toNat)
  case atStart => exact ⟨0, by omega, rfl, rfl⟩
  case round =>
    obtain ⟨k, hk, rfl, rfl⟩ := hrel
    clear hi0
    by_cases hlt : k < n
    · have i1 : (k : Int) < (n : Int) := by omega
      have hR1 := HR.out.same HB.out
      obtain ⟨ab, ao, ea, hc⟩ := hR1.at_ hlt
      have HROW := Lib.hid (hR1.row k hlt)
      subst ea
      have hl := HRL.out k
      have hlk := HL.out k hlt
      have HE := Lib.hid (show Crc.rrows (Crc.inv s) l f (k + 1) = Crc.run (Crc.rrows (Crc.inv s) l f k) (f k) (l k) from rfl)
      generalize Crc.rrows (Crc.inv s) l f k = q at hl HE ⊢
      clear hR1
      go_wp2_with fail
      refine (take_any _ (r k) (l k) (c k) (f k) q hl hlk _ HT.out HROW.out).mono ?_
      rintro e w' ⟨rfl, rfl⟩
      go_wp2
      go_round
      case rel => exact ⟨k + 1, by omega, by go_num, by rw [HE.out]⟩
      case measure => simp [intOf]; omega
    · obtain rfl : k = n := by omega
      have hq := Crc.notw _ (HRL.out k)
      rw [HRR.out k, Crc.inv_inv, ← HRR.out k] at hq
      generalize Crc.rrows (Crc.inv s) l f k = q at hq ⊢
      go_wp2
      go_ret
      exact ⟨rfl, HB.out⟩

set_option maxHeartbeats 1000000 in
theorem of_sum (a : Option Addr) (n cap : Nat) (r : Nat → Option Addr) (l c : Nat → Nat) (f : Nat → Nat → Nat) (hn : n ≤ 1000000) (hl : ∀ i, i < n → l i ≤ 1000000000000) (w : World) (hR : Rd w a n cap r l c f) :
    Calls Try.prog 60 #[.slice a n cap] w fun e w' => e = .returned (.int .u32 (Crc.rows 0 l f n : Nat)) ∧ Below w.heap.size w w' := by
  have HO := Lib.hid (over_sum a n cap r l c f 0 (by omega) hn hl w hR); clear hR hl
  go_enter Try.func60, Try.ntmps60
  go_wp2_with fail
  refine HO.out.mono ?_
  rintro e w1 ⟨rfl, hB⟩
  have HB := Lib.hid hB; clear hB
  go_wp2
  go_ret
  exact ⟨rfl, HB.out⟩

/-- one row, in a list of its own. -/
theorem rd_one {w : World} {a : Option Addr} {n cap : Nat} {f : Nat → Nat} (h : Sl w a n cap f) : Rd (w.alloc (.cells #[.slice a n cap] 27)) (some ⟨w.heap.size, 0, none⟩) 1 1 (fun _ => a) (fun _ => n) (fun _ => cap) (fun _ => f) :=
  ⟨Nat.le_refl _, by unfold maxLen; omega, fun _ j => h.bytes j, fun e => (by cases e), fun ad e _ => (by cases e; rfl), fun ad e i hi => by
    cases e
    obtain rfl : i = 0 := by omega
    rw [World.cell?_alloc_new]; rfl, fun i _ => h.same ((Below.refl _ _).alloc (Nat.le_refl _) _)⟩

end Go.Proofs.Ytjlmajopfeplpaa
