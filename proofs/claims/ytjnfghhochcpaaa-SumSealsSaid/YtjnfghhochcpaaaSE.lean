import Derived.Test.YtjnfghhochcpaaaSD
import Derived.Test.YtjnfghhochcpaaaS9
import Derived.Test.YtjnfghhochcpaaaRb
namespace Go.Proofs.Ytjnfghhochcpaaa
open Go.RowKit Go.Shelf

theorem Crc.u32_bit (m k : Nat) (hm : m < 4294967296) : (bits .and .u32 ((m : Int) / 2 ^ k) 1 == 1) = m.testBit k := by
  have h : (m : Int) / 2 ^ k = ((m / 2 ^ k : Nat) : Int) := by simp
  have hl : m / 2 ^ k ≤ m := Nat.div_le_self _ _
  rw [h, show (1 : Int) = ((1 : Nat) : Int) from rfl, u32_and_nat _ _ (by omega) (by omega), ← bit_of]
  rw [Bool.eq_iff_iff]; simp; omega

theorem Crc.bit_in (v r : Nat) (hv : v < 256) (hr : r < 8) : bits .xor .u8 (v : Int) ((2 : Int) ^ r % 256) = ((v ^^^ 2 ^ r : Nat) : Int) := by
  have hp : 2 ^ r < 256 := Nat.lt_of_lt_of_le (Nat.pow_lt_pow_right (a := 2) (by omega) hr) (by decide)
  have h1 : (2 : Int) ^ r % 256 = ((2 ^ r : Nat) : Int) := by
    have h2 : (2 : Int) ^ r = ((2 ^ r : Nat) : Int) := by simp
    rw [h2]
    generalize 2 ^ r = p at hp
    omega
  rw [h1, u8_xor_nat _ _ hv hp]
/-- how far it came. -/
def TurnR (w wr : World) (q n cap k tu : Nat) (f : Nat → Nat) (s12 s13 : Value) : Prop :=
  ∃ i : Nat, i ≤ 32 ∧ k + i ≤ 8 * (n + 4) ∧ s13 = .int .i64 (i : Nat) ∧ s12 = .bool (anyT tu i) ∧ Bl wr q (n + 4) cap (flipT (Crc.sealed f n) k tu i) ∧ Below w.heap.size w wr
set_option maxHeartbeats 4000000 in
set_option maxRecDepth 100000 in
theorem sumSeals_any (a : Option Addr) (n cap : Nat) (f : Nat → Nat) (x : Int) (tu0 : Nat) (ht0 : tu0 < 4294967296) (w : World) (hS : Sl w a n cap f) :
    Calls Try.prog 5 #[.slice a n cap, .int .i64 x, .int .u32 (tu0 : Nat)] w fun e w' => e = .returned (.bool true) ∧ Below w.heap.size w w' := by
  have HS := Lib.hid hS
  have hcm := hS.capOk
  have hmm := hS.maxOk
  unfold maxLen at hmm
  clear hS
  obtain ⟨i0, hi, hz0, hz1, hz2⟩ := info_parts Try.infoU8
  have HI := Lib.hid hi; have HZ0 := Lib.hid hz0; have HZ1 := Lib.hid hz1; have HZ2 := Lib.hid hz2
  clear hi hz0 hz1 hz2
  go_enter Try.func5, Try.ntmps5
  go_wp2_with fail
  refine (sawake_any _).mono ?_
  rintro e w1 ⟨rfl, hB1⟩
  have HB1 := Lib.hid hB1; clear hB1
  by_cases hbig : n ≤ 20000
  · have j0 : ¬ (20000 : Int) < (n : Int) := by omega
    go_wp2_with fail
    refine (pseal_any a n cap f (by omega) _ (HS.out.same HB1.out)).mono ?_
    rintro e w2 ⟨g, C, rfl, hg, hC, hb, hB2⟩
    have HB2 := Lib.hid (HB1.out.trans (hB2.mono HB1.out.size))
    have HSL := Lib.hid (show Sl w2 (some ⟨g, 0, none⟩) (n + 4) (n + 4) (Crc.sealed f n) from hb.sl2 (Nat.le_refl _) (by unfold maxLen; omega) (sealed_bytes HS.out.bytes n) (sealed_upto f n))
    clear hB2 hb hg hC
    obtain ⟨N, hN⟩ : ∃ N, N = n + 4 := ⟨_, rfl⟩
    rw [← hN] at HSL ⊢
    have HN := Lib.hid hN
    have e1 : (n : Int) + 4 = (N : Int) := by omega
    have e2 : N - 4 = n := by omega
    have hN4 : 4 ≤ N := by omega
    have hN2 : N ≤ 20004 := by omega
    clear hN
    go_wp2_with fail
    refine (popen_any _ _ _ _ (by omega) _ HSL.out).mono ?_
    rintro e w3 (⟨h, _⟩ | ⟨_, h, _⟩ | ⟨_, _, a3, c3, rfl, hn3, hB3⟩)
    · omega
    · rw [e2] at h
      have := sealed_ok (f := f) n
      unfold okB at h
      rw [this] at h; cases h
    · rw [e2, sealed_sub HS.out.up] at hn3
      rw [e2]
      have HB3 := Lib.hid (HB2.out.trans (hB3.mono HB2.out.size)); have HN3 := Lib.hid hn3
      have HSL3 := Lib.hid (HSL.out.same hB3); clear hB3 hn3 e2
      have k1 : ((N : Int) != (N : Int)) = false := by simp
      go_wp2_with fail
      refine (same_any a3 a n c3 cap f (by omega) _ HN3.out.sl (HS.out.same HB3.out)).mono ?_
      rintro e w4 ⟨rfl, q4, hq4⟩
      have HB4 := Lib.hid (show Below w.heap.size w w4 by rw [hq4]; exact below_dr HB3.out q4)
      have HSL4 := Lib.hid (show Sl w4 (some ⟨g, 0, none⟩) N N (Crc.sealed f n) by rw [hq4]; exact HSL3.out.drewN q4)
      clear hq4 HB3 HSL3 HN3
      obtain ⟨M, hM⟩ : ∃ M, M = 8 * N := ⟨_, rfl⟩
      have e3 : 8 * (N : Int) = (M : Int) := by omega
      have HM := Lib.hid hM; clear hM
      go_wp2_with fail
      clear k1
      refine (spick_any x M (by have := HM.out; omega) (by have := HM.out; omega) _).mono ?_
      rintro e w5 ⟨⟨k, hk, rfl⟩, rfl⟩
      go_upto_if 50 with fail
      go_cut [2] (fun s wx => (∃ tu : Nat, s = .int .u32 (tu : Nat) ∧ tu < 4294967296) ∧ wx = w5)
      case first =>
        by_cases h0 : tu0 = 0
        · have h1 : ((tu0 : Int) == 0) = true := by simp; omega
          go_wp2
          go_meet
          exact ⟨⟨1, rfl, by omega⟩, rfl⟩
        · have h1 : ((tu0 : Int) == 0) = false := by simp; omega
          go_wp2
          go_meet
          exact ⟨⟨tu0, rfl, ht0⟩, rfl⟩
      case rest =>
        obtain ⟨⟨tu, rfl, htu⟩, hwc⟩ := hcut
        subst hwc
        obtain ⟨w5, rfl⟩ : ∃ w5 : World, w5 = wc := ⟨_, rfl⟩
        clear ht0
        go_wp2_with (at_builtin; refine wpList_append_own _ rfl _ _ 23 rfl w5.heap.size 5 i0 (.int .u8 0) 1 1 Try.underlying23 HI.out HZ0.out HZ1.out HZ2.out rfl (by decide) _ 0 [] rfl (World.ownsRow_made w5 #[] 0 (Nat.le_refl _) (by unfold maxLen; omega) rfl) ⟨g, 0, none⟩ N N ((List.range N).map fun i => Value.int .u8 (Crc.sealed f n i : Nat)) rfl (by simp) (Sl.reads (HSL4.out.same ((Below.refl _ _).alloc (Nat.le_refl _) _)) _ rfl) (ones_map _ _) (by unfold maxLen; omega) (by omega) (by simp) ?_; intro v' w6 hown hgrow _; rw [Nat.zero_add, List.nil_append] at hown; have HO := Lib.hid (owns_new hown (sealed_bytes HS.out.bytes n) (by have := sealed_upto f n; rwa [← HN.out] at this)); have HB := Lib.hid (((Below.refl w5.heap.size w5).alloc (Nat.le_refl _) (.cells #[] 5)).grown hgrow (by simp) (by intro k hk; cases hk; exact Nat.le_refl _)); clear hown hgrow)
        obtain ⟨a4, c4, e, hn4⟩ := HO.out
        subst e
        rcases hn4.cond with ⟨_, h0, _⟩ | ⟨q, rfl, hq, hbq⟩
        · omega
        have hNc : N ≤ c4 := hn4.sl.capOk
        have hcm4 : c4 ≤ maxLen := hn4.sl.maxOk
        have HBQ := Lib.hid hbq
        have HB6 := Lib.hid (HB4.out.trans (HB.out.mono HB4.out.size))
        have hqw : w.heap.size ≤ q := by have := HB4.out.size; omega
        clear hbq HO HB hn4 HSL4 HB1 HB2 HSL
        go_wp2_with fail
        go_loopw [12, 13] (fun s12 s13 wr => TurnR w wr q n c4 k tu f s12 s13) (fun _ s13 _ => 32 - (intOf s13).toNat)
        case atStart => exact ⟨0, by omega, by have := HM.out; have := HN.out; omega, rfl, rfl, by rw [← HN.out]; exact HBQ.out.congr (fun _ _ => rfl), HB6.out⟩
        case round =>
          rename_i wr
          obtain ⟨i, hi32, hki, rfl, rfl, hb, hBe⟩ := hrel
          rw [← HN.out] at hb
          have HBL := Lib.hid hb; have HBE := Lib.hid hBe; clear hb hBe HBQ HB6
          by_cases hgo : i < 32 ∧ k + i < M
          · obtain ⟨h32, hlt⟩ := hgo
            have j1 : (i : Int) < 32 := by omega
            obtain ⟨m, hm⟩ : ∃ m, m = k + i := ⟨_, rfl⟩
            have e5 : (k : Int) + (i : Int) = (m : Int) := by omega
            have HMM := Lib.hid hm
            have j2 : (m : Int) < (M : Int) := by omega
            have hbit := Crc.u32_bit tu i htu
            have HAN := Lib.hid (show anyT tu (i + 1) = (anyT tu i || tu.testBit i) from rfl)
            cases htb : tu.testBit i with
            | true =>
              rw [htb] at hbit
              have hd8 : m / 8 < N := by have := HM.out; omega
              have HST := Lib.hid (fun j => flipT_yes (s := Crc.sealed f n) (k := k) htb j)
              have hc := HBL.out.cell hd8
              have hf := HBL.out.free (m / 8)
              have hvb := flipT_by (sealed_bytes HS.out.bytes n) k tu i (m / 8)
              clear hm
              rw [← HMM.out] at HST
              obtain ⟨v, hv⟩ : ∃ v, v = flipT (Crc.sealed f n) k tu i (m / 8) := ⟨_, rfl⟩
              rw [← hv] at hc hvb HST
              have HV := Lib.hid hv; clear hv
              have hr8 : m % 8 < 8 := Nat.mod_lt _ (by omega)
              have hp8 : 2 ^ (m % 8) < 256 := Nat.lt_of_lt_of_le (Nat.pow_lt_pow_right (a := 2) (by omega) hr8) (by decide)
              go_wp2_with fail
              have f1 : IntKind.i64.wrap ((k : Int) + (i : Int)) = (m : Int) := by rw [e5]; exact IntWalk.i64_in _ (by omega)
              have f2 : (m : Int).tdiv 8 = ((m / 8 : Nat) : Int) := rfl
              have f3 : (m : Int).tmod 8 = ((m % 8 : Nat) : Int) := rfl
              have f4 : IntKind.i64.wrap ((m / 8 : Nat) : Int) = ((m / 8 : Nat) : Int) := IntWalk.i64_in _ (by omega)
              refine Rb.wp_region_quiet_tail 19 (by kernel_rfl) (by kernel_rfl) ?_
              simp only [List.take_succ_cons, List.take_zero, List.drop_succ_cons, List.drop_zero]
              repeat (go_big_quiet_step (fail))
              refine wpQuiet_nil ?_
              rintro _ ⟨kk, rfl⟩
              have hx := Crc.bit_in v (m % 8) hvb hr8
              have HX := Lib.hid hx
              clear f1 f2 f3 f4 hx
              go_wp2_with fail
              rw [HX.out]
              refine ⟨⟨i + 1, by omega, by have := HMM.out; have := HM.out; have := HN.out; omega, by go_num, ?_, ?_, (HBE.out.trans (below_dr (Below.refl _ wr) kk)).setCell (p := ⟨q, m / 8, none⟩) hqw _⟩, by simp [intOf]; omega⟩
              · rw [HAN.out, htb, Bool.or_true]
              · rw [← HN.out]
                exact ((HBL.out.drewN kk).set hd8 _).congr (fun j _ => HST.out j)
            | false =>
              rw [htb] at hbit
              have HST := Lib.hid (fun j => flipT_no (s := Crc.sealed f n) (k := k) htb j)
              rw [htb, Bool.or_false] at HAN
              clear hm
              go_wp2_with fail
              go_roundw
              case rel => exact ⟨i + 1, by omega, by have := HMM.out; have := HM.out; have := HN.out; omega, by go_num, by rw [HAN.out], by rw [← HN.out]; exact HBL.out.congr (fun j _ => HST.out j), HBE.out⟩
              case measure => simp [intOf]; omega
          · have HX := Lib.hid (show i = 32 ∨ k + i = 8 * (n + 4) by
              have := HM.out; have := HN.out
              by_cases h : i < 32
              · right; have : ¬ k + i < M := fun hh => hgo ⟨h, hh⟩; omega
              · left; omega)
            have HSLT := Lib.hid (HBL.out.sl hNc hcm4 (flipT_by (sealed_bytes HS.out.bytes n) k tu i) (flipT_up (by have := sealed_upto f n; rwa [← HN.out] at this) (by have := HN.out; omega)))
            have HFT := Lib.hid (fun ht => flip_told (k := k) (w := tu) HS.out.bytes (by omega) hi32 hki HX.out ht)
            have HPO := Lib.hid (popen_any _ _ _ _ (by omega) _ HSLT.out)
            have HE4 := Lib.hid (show N - 4 = n by have := HN.out; omega)
            have hexit : (¬ (i : Int) < 32) ∨ ((i : Int) < 32 ∧ ¬ (k : Int) + (i : Int) < (M : Int)) := by
              by_cases h : i < 32
              · right; exact ⟨by omega, by intro hh; exact hgo ⟨h, by omega⟩⟩
              · left; omega
            clear hgo
            rcases hexit with j1 | ⟨j1, j2⟩
            all_goals
              cases hv : anyT tu i
              · have HVV := Lib.hid hv; clear hv
                go_wp2_with fail
                refine HPO.out.mono ?_
                rintro e w7 (⟨h, _⟩ | ⟨_, h, rfl, hB7⟩ | ⟨_, h, a5, c5, rfl, hn5, hB7⟩)
                · omega
                · have HB7 := Lib.hid (HBE.out.trans (hB7.mono HBE.out.size)); clear hB7
                  go_wp2
                  go_ret
                  exact ⟨rfl, HB7.out⟩
                · have HB7 := Lib.hid (HBE.out.trans (hB7.mono HBE.out.size)); clear hB7 hn5
                  go_wp2
                  go_ret
                  exact ⟨rfl, HB7.out⟩
              · have HVV := Lib.hid (HFT.out hv); clear hv
                go_wp2_with fail
                refine HPO.out.mono ?_
                rintro e w7 (⟨h, _⟩ | ⟨_, h, rfl, hB7⟩ | ⟨_, h, a5, c5, rfl, hn5, hB7⟩)
                · omega
                · have HB7 := Lib.hid (HBE.out.trans (hB7.mono HBE.out.size)); clear hB7
                  go_wp2
                  go_ret
                  exact ⟨rfl, HB7.out⟩
                · exfalso
                  rw [HE4.out] at h
                  unfold okB at h
                  rw [HVV.out] at h
                  cases h
  · have j0 : (20000 : Int) < (n : Int) := by omega
    go_wp2
    go_ret
    exact ⟨rfl, HB1.out⟩
end Go.Proofs.Ytjnfghhochcpaaa
