import Derived.Test.YtdempjkkahjekaaV8
import Derived.Test.YtdempjkkahjekaaV6
namespace Go.Proofs.Ytdempjkkahjekaa
open Go.RowKit Go.Shelf

set_option maxHeartbeats 4000000 in
set_option maxRecDepth 100000 in
theorem ones_same (a0 a1 a2 : Option Addr) (n cp cp1 cp2 x : Nat) (P f g : Nat → Nat) (hx : x < 256) (hn : n ≤ 24) (w : World) (hS : Sl w a0 n cp P) (hV : Sl w a1 n cp1 f) (hT : Sl w a2 n cp2 g) :
    Calls Try.prog 6 #[.slice a0 n cp, .slice a1 n cp1, .slice a2 n cp2, .int .u8 (x : Nat)] w fun e w' => e = .returned (.bool true) ∧ Below w.heap.size w w' := by
  obtain ⟨i0, hi, hz0, hz1, hz2⟩ := info_parts Try.infoU8
  have HI := Lib.hid hi; have HZ0 := Lib.hid hz0; have HZ1 := Lib.hid hz1; have HZ2 := Lib.hid hz2
  have HS := Lib.hid hS; have HV := Lib.hid hV; have HT := Lib.hid hT; clear hS hV hT hi hz0 hz1 hz2
  have i1 : ¬ 24 < (n : Int) := by omega
  have g1 : ((n : Int) != (n : Int)) = false := by simp
  go_enter Try.func6, Try.ntmps6
  go_wp2_with fail
  refine (awake4_any _).mono ?_
  rintro e w1 ⟨rfl, hB1⟩
  have HB1 := Lib.hid hB1; clear hB1
  go_wp2_with fail
  clear i1 g1
  refine (pWeights_any a0 n cp x P hx (by omega) _ (HS.out.same HB1.out)).mono ?_
  rintro e w2 (⟨hd, aw, cw, rfl, hN, hB2⟩ | ⟨_, rfl, hB2⟩)
  · have HD := Lib.hid hd; have HN := Lib.hid hN.sl; have HB2 := Lib.hid (HB1.out.trans (hB2.mono HB1.out.size))
    clear hd hN hB2
    go_wp2_with fail
    go_loopw [11, 12, 13] (fun s h i wr => ∃ k : Nat, k ≤ n ∧ i = .int .i64 k ∧ s = .int .u8 (Pf.xsum (Pf.lw P n x) k : Nat) ∧ h = .bool (Pf.isP P x k) ∧ ∃ q, wr = w2.drewN q) (fun _ _ i _ => n - (intOf i).toNat)
    case atStart => exact ⟨0, by omega, rfl, rfl, rfl, 0, rfl⟩
    case round =>
      obtain ⟨k, hk, rfl, rfl, rfl, q, hq⟩ := hrel
      by_cases hlt : k < n
      · obtain ⟨b1, o1, e1, c1⟩ := (HN.out.drewN q).at_ hlt
        obtain ⟨b2, o2, e2, c2⟩ := ((HS.out.same HB2.out).drewN q).at_ hlt
        rw [← hq] at c1 c2
        have HQ := Lib.hid hq; clear hq
        subst e1 e2
        have i2 : (k : Int) < (n : Int) := by omega
        have d1 := Pf.xsum_lw_lt (n := n) HS.out.bytes hx k
        have d2 := Pf.lw_by HS.out.bytes n hx k
        have hxo : bits .xor .u8 ((Pf.xsum (Pf.lw P n x) k : Nat) : Int) ((Pf.lw P n x k : Nat) : Int) = ((Pf.xsum (Pf.lw P n x) (k + 1) : Nat) : Int) := u8_xor_nat _ _ d1 d2
        have hsP : Pf.isP P x (k + 1) = (Pf.isP P x k || decide (P k = x)) := rfl
        have HSP := Lib.hid hsP; clear hsP
        generalize hs2 : Pf.xsum (Pf.lw P n x) (k + 1) = s2 at *
        have HS2 := Lib.hid hs2; clear hs2
        generalize Pf.xsum (Pf.lw P n x) k = s1 at *
        generalize hh : Pf.isP P x k = h1 at *
        have HH := Lib.hid hh; clear hh
        generalize Pf.lw P n x k = lk at *
        by_cases hp : P k = x
        · have g2 : (((P k : Nat) : Int) == (x : Int)) = true := eq_yes hp
          have g3 : Pf.isP P x (k + 1) = true := by rw [HSP.out, hp]; simp
          have G3 := Lib.hid g3; clear g3
          have HPX := Lib.hid hp; clear hp
          cases h1
          all_goals
            go_wp2
            go_roundw
            case rel => exact ⟨k + 1, by omega, by go_num, by rw [HS2.out], by rw [G3.out], q, HQ.out⟩
            case measure => simp [intOf]; omega
        · have g2 : (((P k : Nat) : Int) == (x : Int)) = false := eq_no hp
          have g3 : Pf.isP P x (k + 1) = h1 := by rw [HSP.out]; simp [hp]
          have G3 := Lib.hid g3; clear g3
          have HPX := Lib.hid hp; clear hp
          cases h1
          all_goals
            go_wp2
            go_roundw
            case rel => exact ⟨k + 1, by omega, by go_num, by rw [HS2.out], by rw [G3.out], q, HQ.out⟩
            case measure => simp [intOf]; omega
      · obtain rfl : k = n := by omega
        have hwx : Below w.heap.size w wr := by rw [hq]; exact below_dr HB2.out q
        have hNx : Sl wr aw k cw (Pf.lw P k x) := by rw [hq]; exact HN.out.drewN q
        have HWX := Lib.hid hwx; have HNX := Lib.hid hNx
        clear hq hwx hNx HN HB2 hlt
        obtain ⟨wo, rfl⟩ : ∃ wo : World, wo = wr := ⟨_, rfl⟩
        generalize hh : Pf.isP P x k = h1 at *
        have HH := Lib.hid hh; clear hh
        go_wp2_with fail
        go_loopw [14] (fun i wr => ∃ j : Nat, j ≤ k ∧ i = .int .i64 j ∧ ∃ q, wr = wo.drewN q) (fun i _ => k - (intOf i).toNat)
        case atStart => exact ⟨0, by omega, rfl, 0, rfl⟩
        case round =>
          obtain ⟨j, hj, rfl, q2, hq2⟩ := hrel
          by_cases hlt : j < k
          · obtain ⟨b1, o1, e1, c1⟩ := (HNX.out.drewN q2).at_ hlt
            obtain ⟨b2, o2, e2, c2⟩ := ((HS.out.same HWX.out).drewN q2).at_ hlt
            rw [← hq2] at c1 c2
            have HQ2 := Lib.hid hq2; clear hq2
            subst e1 e2
            have i2 : (j : Int) < (k : Int) := by omega
            cases h1
            · clear c1 c2
              go_wp2_with fail
              go_quiet (fail)
              go_wp2
              go_roundw
              case rel => exact ⟨j + 1, by omega, by go_num, q2 + nq, by rw [HQ2.out, World.drewN_drewN]⟩
              case measure => simp [intOf]; omega
            · have hwv := Pf.lw_here HS.out.bytes HD.out HH.out hlt
              by_cases hp : P j = x
              · rw [if_pos hp] at hwv
                rw [hwv] at c1
                have c1 : wr.cell? ⟨b1, o1 + j, none⟩ = some (.int .u8 1) := c1
                have g2 : (((P j : Nat) : Int) == (x : Int)) = true := eq_yes hp
                have g3 : (((P j : Nat) : Int) != (x : Int)) = false := ne_no hp
                clear hwv hp
                go_wp2_with fail
                go_quiet (fail)
                go_wp2
                go_roundw
                case rel => exact ⟨j + 1, by omega, by go_num, q2 + nq, by rw [HQ2.out, World.drewN_drewN]⟩
                case measure => simp [intOf]; omega
              · rw [if_neg hp] at hwv
                rw [hwv] at c1
                have c1 : wr.cell? ⟨b1, o1 + j, none⟩ = some (.int .u8 0) := c1
                have g2 : (((P j : Nat) : Int) == (x : Int)) = false := eq_no hp
                have g3 : (((P j : Nat) : Int) != (x : Int)) = true := ne_yes hp
                clear hwv hp
                go_wp2_with fail
                go_quiet (fail)
                go_wp2
                go_roundw
                case rel => exact ⟨j + 1, by omega, by go_num, q2 + nq, by rw [HQ2.out, World.drewN_drewN]⟩
                case measure => simp [intOf]; omega
          · obtain rfl : j = k := by omega
            have hwx : Below w.heap.size w wr := by rw [hq2]; exact below_dr HWX.out q2
            have hNx : Sl wr aw j cw (Pf.lw P j x) := by rw [hq2]; exact HNX.out.drewN q2
            have HWY := Lib.hid hwx; have HNY := Lib.hid hNx
            clear hq2 hwx hNx HNX HWX hlt
            obtain ⟨wp, rfl⟩ : ∃ wp : World, wp = wr := ⟨_, rfl⟩
            go_wp2_with fail
            go_loopw [15, 16] (fun o i wr => ∃ (k : Nat) (ba : Option Addr) (bc : Nat), k ≤ j ∧ i = .int .i64 k ∧ o = .slice ba k bc ∧ Rq wr wp.heap.size ba k bc (fun i => f i ^^^ g i) ∧ Below wp.heap.size wp wr) (fun _ i _ => j - (intOf i).toNat)
            case atStart => exact ⟨0, none, 0, by omega, rfl, rfl, Or.inl ⟨rfl, rfl, rfl⟩, Below.refl _ _⟩
            case round =>
              obtain ⟨k, ba, bc, hk, rfl, rfl, hR, hB⟩ := hrel
              have HR := Lib.hid hR; have HB := Lib.hid hB
              have hsz := hB.size
              clear hR hB
              by_cases hlt : k < j
              · obtain ⟨b1, o1, e1, c1⟩ := ((HV.out.same HWY.out).same HB.out).at_ hlt
                obtain ⟨b2, o2, e2, c2⟩ := ((HT.out.same HWY.out).same HB.out).at_ hlt
                subst e1 e2
                have i2 : (k : Int) < (j : Int) := by omega
                have d1 := HV.out.bytes k
                have d2 := HT.out.bytes k
                have hro : ∀ W, Below wr.heap.size wr W → W.ownsRow wp.heap.size 5 1 (.slice ba k bc) k (rowv (fun i => f i ^^^ g i) k) := fun W hW => (HR.out.same hW).owns
                have HRO := Lib.hid hro
                have hal : Below wr.heap.size wr (wr.alloc (.cells #[.int .u8 (f k ^^^ g k : Nat)] 5)).drew := below_dr ((Below.refl _ wr).alloc (Nat.le_refl _) _) 1
                have hnew : ∀ j u, [Value.int .u8 ((f k ^^^ g k : Nat) : Int)][j]? = some u → ((wr.alloc (.cells #[.int .u8 (f k ^^^ g k : Nat)] 5)).drew).cell? ((⟨wr.heap.size, 0, none⟩ : Addr).add j) = some u := cell_new1 wr (.int .u8 ((f k ^^^ g k : Nat) : Int)) 5
                have hbb : wp.heap.size ≤ ((wr.alloc (.cells #[.int .u8 (f k ^^^ g k : Nat)] 5)).drew).heap.size := Nat.le_trans hsz hal.size
                have HAL := Lib.hid hal; have HNEW := Lib.hid hnew; have HBB := Lib.hid hbb
                clear hro hal hnew hbb
                go_wp2_with fail
                go_region_law (first | (refine step_append_bag rfl (.tmp 118) (.tmp 128) 22 rfl wp.heap.size 5 i0 (.int .u8 0) 1 Try.underlying22 HI.out HZ0.out HZ1.out HZ2.out rfl ba k bc _ rfl (HRO.out _ HAL.out) _ 1 1 [.int .u8 (f k ^^^ g k : Nat)] rfl rfl HNEW.out (one_single _ _) (by decide) (by unfold maxLen; omega) (by omega) HBB.out ?_; intro g6 c6 w6 hown6 hc6; have HOWN6 := Lib.hid hown6; have HC6 := Lib.hid hc6; clear hown6 hc6) | (go_simp; go_at_call 24; refine (add_nat (f k) (g k) d1 d2 _).mono ?_; rintro e w4 ⟨rfl, hw4⟩; rw [hw4]; clear hw4))
                all_goals
                  have ho := HOWN6.out
                  rw [show [Value.int .u8 ((f k ^^^ g k : Nat) : Int)] = [Value.int .u8 (((fun i => f i ^^^ g i) k : Nat) : Int)] from rfl, ← rowv_succ] at ho
                  have hr6 := Rq.of_owns ho
                  have hb6 := (below_dr ((Below.refl wp.heap.size wr).alloc hsz (.cells #[.int .u8 (f k ^^^ g k : Nat)] 5)) 1).trans (bag_below HC6.out (hr6.lt g6 rfl).1 HBB.out)
                  have HR7 := Lib.hid hr6; have HB7 := Lib.hid (HB.out.trans hb6)
                  clear ho hr6 hb6 HOWN6 HC6
                  go_wp2
                  go_roundw
                  case rel => exact ⟨k + 1, _, c6, by omega, by go_num, rfl, HR7.out, HB7.out⟩
                  case measure => simp [intOf]; omega
              · obtain rfl : k = j := by omega
                have hBB := HWY.out.trans (HB.out.mono HWY.out.size)
                have hQ := (HR.out.nw (h := fun i => f i ^^^ g i) (fun i => Gf.xor_lt (HV.out.bytes i) (HT.out.bytes i)) (fun i hi => by show f i ^^^ g i = 0; rw [HV.out.up i hi, HT.out.up i hi]; rfl)).sl
                have HB3 := Lib.hid hBB; have HQ := Lib.hid hQ
                clear hBB hQ HR HB hlt
                go_wp2_with fail
                refine (pValue_any a0 a1 k cp k cp1 x P f hx (by omega) (by omega) _ (HS.out.same HB3.out) (HV.out.same HB3.out)).mono ?_
                rintro e w3 ⟨⟨h, _⟩ | ⟨_, h, _⟩ | ⟨_, _, rfl⟩, hB4⟩
                · exact absurd rfl h
                · exact absurd HD.out h
                have HB4 := Lib.hid (HB3.out.trans (hB4.mono HB3.out.size)); have HQ4 := Lib.hid (HQ.out.same hB4)
                clear hB4
                go_wp2_with fail
                refine (pValue_any a0 a2 k cp k cp2 x P g hx (by omega) (by omega) _ (HS.out.same HB4.out) (HT.out.same HB4.out)).mono ?_
                rintro e w5 ⟨⟨h, _⟩ | ⟨_, h, _⟩ | ⟨_, _, rfl⟩, hB5⟩
                · exact absurd rfl h
                · exact absurd HD.out h
                have HB5 := Lib.hid (HB4.out.trans (hB5.mono HB4.out.size)); have HQ5 := Lib.hid (HQ4.out.same hB5)
                clear hB5
                go_wp2_with fail
                refine (pValue_any a0 ba k cp k bc x P (fun i => f i ^^^ g i) hx (by omega) (by omega) _ (HS.out.same HB5.out) HQ5.out).mono ?_
                rintro e w6 ⟨⟨h, _⟩ | ⟨_, h, _⟩ | ⟨_, _, rfl⟩, hB6⟩
                · exact absurd rfl h
                · exact absurd HD.out h
                have HB6 := Lib.hid (HB5.out.trans (hB6.mono HB5.out.size))
                clear hB6
                rw [show dotN (Pf.lw P k x) (fun i => f i ^^^ g i) k = dotN (Pf.lw P k x) f k ^^^ dotN (Pf.lw P k x) g k from Pf.dot_xor k]
                have d1 := dotN_lt (Pf.lw_by HS.out.bytes k hx) HV.out.bytes k
                have d2 := dotN_lt (Pf.lw_by HS.out.bytes k hx) HT.out.bytes k
                generalize dotN (Pf.lw P k x) f k = dx at *
                generalize dotN (Pf.lw P k x) g k = dy at *
                have g5 : (((dx ^^^ dy : Nat) : Int) == ((dx ^^^ dy : Nat) : Int)) = true := by simp
                by_cases h0 : k = 0
                · have g6 : ((k : Int) == 0) = true := by simp [h0]
                  have H0 := Lib.hid h0; clear h0
                  go_wp2_with (go_at_call 24; refine (add_nat dx dy d1 d2 _).mono ?_; rintro e w7 ⟨rfl, hw7⟩; rw [hw7]; clear hw7)
                  go_ret
                  exact ⟨rfl, HB6.out⟩
                · have g6 : ((k : Int) == 0) = false := by simp; omega
                  have g7 : (((Pf.xsum (Pf.lw P k x) k : Nat) : Int) == 1) = true := by rw [Pf.lw_sum HS.out.bytes HD.out hx (by omega)]; rfl
                  have H0 := Lib.hid h0; clear h0
                  go_wp2_with (go_at_call 24; refine (add_nat dx dy d1 d2 _).mono ?_; rintro e w7 ⟨rfl, hw7⟩; rw [hw7]; clear hw7)
                  go_ret
                  exact ⟨rfl, HB6.out⟩
  · have HB2 := Lib.hid (HB1.out.trans (hB2.mono HB1.out.size))
    clear hB2
    go_wp2
    go_ret
    exact ⟨rfl, HB2.out⟩

set_option maxHeartbeats 4000000 in
set_option maxRecDepth 100000 in
theorem lagrOnes_any (a0 a1 a2 : Option Addr) (n n1 n2 cp cp1 cp2 x : Nat) (P f g : Nat → Nat) (hx : x < 256) (w : World) (hS : Sl w a0 n cp P) (hV : Sl w a1 n1 cp1 f) (hT : Sl w a2 n2 cp2 g) (hn : n ≤ 140737488355328) (hn1 : n1 ≤ 140737488355328) (hn2 : n2 ≤ 140737488355328) :
    Calls Try.prog 6 #[.slice a0 n cp, .slice a1 n1 cp1, .slice a2 n2 cp2, .int .u8 (x : Nat)] w fun e w' => e = .returned (.bool true) ∧ Below w.heap.size w w' := by
  by_cases c0 : 24 < n
  · have i1 : 24 < (n : Int) := by omega
    clear hS hV hT
    go_enter Try.func6, Try.ntmps6
    go_wp2_with fail
    refine (awake4_any _).mono ?_
    rintro e w1 ⟨rfl, hB1⟩
    have HB1 := Lib.hid hB1; clear hB1
    go_wp2
    go_ret
    exact ⟨rfl, HB1.out⟩
  by_cases c1 : n1 = n
  · by_cases c2 : n2 = n
    · subst c1 c2
      exact ones_same a0 a1 a2 _ cp cp1 cp2 x P f g hx (by omega) w hS hV hT
    · have i1 : ¬ 24 < (n : Int) := by omega
      have g1 : ((n : Int) != (n : Int)) = false := by simp
      have g2 : ((n2 : Int) != (n : Int)) = true := by simp; omega
      subst c1
      clear hS hV hT c2
      go_enter Try.func6, Try.ntmps6
      go_wp2_with fail
      refine (awake4_any _).mono ?_
      rintro e w1 ⟨rfl, hB1⟩
      have HB1 := Lib.hid hB1; clear hB1
      go_wp2
      go_ret
      exact ⟨rfl, HB1.out⟩
  · have i1 : ¬ 24 < (n : Int) := by omega
    have g2 : ((n1 : Int) != (n : Int)) = true := by simp; omega
    clear hS hV hT c1
    go_enter Try.func6, Try.ntmps6
    go_wp2_with fail
    refine (awake4_any _).mono ?_
    rintro e w1 ⟨rfl, hB1⟩
    have HB1 := Lib.hid hB1; clear hB1
    go_wp2
    go_ret
    exact ⟨rfl, HB1.out⟩
end Go.Proofs.Ytdempjkkahjekaa
