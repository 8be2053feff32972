import Derived.Test.YtjnfghhochcpaaaS5
import Derived.Laws.AppendOwnNone
namespace Go.Proofs.Ytjnfghhochcpaaa
open Go.RowKit Go.Shelf

theorem Crc.m1_xs (r v : Nat) (hr : r < 4294967296) (hv : v < 256) : bits .xor .u32 (r : Int) (v : Int) = ((r ^^^ v : Nat) : Int) := u32_xor_nat _ _ hr (by omega)
set_option maxHeartbeats 1000000 in
set_option maxRecDepth 100000 in
theorem rgo_any (a : Option Addr) (n cap : Nat) (f : Nat → Nat) (s : Nat) (hs : s < 4294967296) (hn : n ≤ 1000000000000) (w : World) (hS : Sl w a n cap f) :
    Calls Try.prog 17 #[.int .u32 s, .slice a n cap] w fun e w' => e = .returned (.int .u32 (Crc.go s f n : Nat)) ∧ w' = w := by
  have HS := Lib.hid hS; clear hS
  have HL := Lib.hid (fun k => Crc.run_lt (s := Crc.inv s) (Crc.inv_lt hs) HS.out.bytes k)
  have hi0 := Crc.notw s hs
  have hsg := Crc.sgn
  go_enter Try.func17, Try.ntmps17
  go_wp2_with fail
  go_loop [5, 6] (fun v i => ∃ k : Nat, k ≤ n ∧ i = .int .i64 k ∧ v = .int .u32 (Crc.run (Crc.inv s) f k : Nat)) (fun _ i => n - (intOf i).toNat)
  case atStart => exact ⟨0, by omega, rfl, rfl⟩
  case round =>
    obtain ⟨k, hk, rfl, rfl⟩ := hrel
    clear hi0
    by_cases hlt : k < n
    · have i1 : (k : Int) < (n : Int) := by omega
      obtain ⟨ab, ao, ea, hc⟩ := HS.out.at_ hlt
      subst ea
      have hl := HL.out k
      have hb := HS.out.bytes k
      have HE := Lib.hid (show Crc.run (Crc.inv s) f (k + 1) = Crc.mn (Crc.run (Crc.inv s) f k ^^^ f k) 8 from rfl)
      generalize Crc.run (Crc.inv s) f k = q at hl HE ⊢
      generalize f k = v at hb hc HE
      have hx := Crc.m1_xs q v hl hb
      have HM := Lib.hid (fun j => Crc.mn_lt (Crc.xor_lt hl hb) j)
      generalize q ^^^ v = x at hx HE HM
      go_wp2_with fail
      clear hx
      go_loop [5, 7] (fun r i => ∃ j : Nat, j ≤ 8 ∧ i = .int .i64 j ∧ r = .int .u32 (Crc.mn x j : Nat)) (fun _ i => 8 - (intOf i).toNat)
      case atStart => exact ⟨0, by omega, rfl, rfl⟩
      case round =>
        obtain ⟨j, hj, rfl, rfl⟩ := hrel
        by_cases hlj : j < 8
        · have hl2 := HM.out j
          have HE2 := Lib.hid (show Crc.mn x (j + 1) = Crc.m1 (Crc.mn x j) from rfl)
          generalize Crc.mn x j = r at hl2 HE2 ⊢
          cases ht : r.testBit 0 with
          | true =>
            have ha := Crc.and1 r hl2
            rw [ht, if_pos rfl] at ha
            have hx := Crc.m1_yes r hl2 ht
            clear ht
            go_wp2_with fail
            go_round
            case rel => exact ⟨j + 1, by omega, by go_num, by rw [HE2.out]⟩
            case measure => simp [intOf]; omega
          | false =>
            have ha := Crc.and1 r hl2
            rw [ht, if_neg (by simp)] at ha
            have hx := Crc.m1_no r ht
            clear ht
            go_wp2_with fail
            go_round
            case rel => exact ⟨j + 1, by omega, by go_num, by rw [HE2.out]⟩
            case measure => simp [intOf]; omega
        · obtain rfl : j = 8 := by omega
          go_wp2_with fail
          go_round
          case rel => exact ⟨k + 1, by omega, by go_num, by rw [HE.out]⟩
          case measure => simp [intOf]; omega
    · obtain rfl : k = n := by omega
      have hq := Crc.notw _ (HL.out k)
      go_wp2
      go_ret
      exact ⟨rfl, rfl⟩

set_option maxHeartbeats 1000000 in
theorem rof_any (a : Option Addr) (n cap : Nat) (r : Nat → Option Addr) (l c : Nat → Nat) (f : Nat → Nat → Nat) (hn : n ≤ 1000000) (hl : ∀ i, i < n → l i ≤ 1000000000000) (w : World) (hR : Rd w a n cap r l c f) :
    Calls Try.prog 15 #[.slice a n cap] w fun e w' => e = .returned (.int .u32 (Crc.rows 0 l f n : Nat)) ∧ w' = w := by
  have HR := Lib.hid hR; have HL := Lib.hid hl; clear hR hl
  have HLT := Lib.hid (fun k => Crc.rows_lt (s := 0) (l := l) (f := f) (by omega) (fun i j => HR.out.bm i j) k)
  go_enter Try.func15, Try.ntmps15
  go_wp2_with fail
  go_loop [3, 4] (fun v i => ∃ k : Nat, k ≤ n ∧ i = .int .i64 k ∧ v = .int .u32 (Crc.rows 0 l f k : Nat)) (fun _ i => n - (intOf i).toNat)
  case atStart => exact ⟨0, by omega, rfl, rfl⟩
  case round =>
    obtain ⟨k, hk, rfl, rfl⟩ := hrel
    by_cases hlt : k < n
    · have i1 : (k : Int) < (n : Int) := by omega
      obtain ⟨ab, ao, ea, hc⟩ := HR.out.at_ hlt
      have HROW := Lib.hid (HR.out.row k hlt)
      subst ea
      have hl := HLT.out k
      have hlk := HL.out k hlt
      have HE := Lib.hid (show Crc.rows 0 l f (k + 1) = Crc.go (Crc.rows 0 l f k) (f k) (l k) from rfl)
      generalize Crc.rows 0 l f k = q at hl HE ⊢
      go_wp2_with fail
      refine (rgo_any (r k) (l k) (c k) (f k) q hl hlk _ HROW.out).mono ?_
      rintro e w' ⟨rfl, rfl⟩
      go_wp2
      go_round
      case rel => exact ⟨k + 1, by omega, by go_num, by rw [HE.out]⟩
      case measure => simp [intOf]; omega
    · obtain rfl : k = n := by omega
      go_wp2
      go_ret
      exact ⟨rfl, rfl⟩
end Go.Proofs.Ytjnfghhochcpaaa
