import Derived.Deep.CutBlock
import Derived.Deep.DeepCutAuto
import Derived.Test.YtmjjhbeegjbocaaMg30
namespace Go.Proofs.Ytmjjhbeegjbocaa.Sp
open Go.RowKit Go.Shelf

set_option maxHeartbeats 4000000 in
set_option maxRecDepth 100000 in
theorem stripBack_any (a : Option Addr) (n cap : Nat) (f : Nat → Nat) (k : Int) (ra : Option Addr) (rn rc : Nat) (r : Nat → Option Addr) (l c : Nat → Nat) (h : Nat → Nat → Nat) (x : Int) (hn : n ≤ 140737488355328) (hrn : rn ≤ 140737488355328) (hl : ∀ i, i < rn → l i ≤ 140737488355328) (w : World) (hS : Sl w a n cap f) (hR : Rd w ra rn rc r l c h) :
    Calls Try.prog 5 #[.slice a n cap, .int .i64 k, .slice ra rn rc, .int .i64 x] w fun e w' => e = .returned (.bool true) ∧ Below w.heap.size w w' := by
  have HS := Lib.hid hS; have HR := Lib.hid hR; have HL := Lib.hid hl
  clear hS hR hl
  go_enter Try.func5, Try.ntmps5
  go_wp2_with fail
  refine (awake9_any _).mono ?_
  rintro e w1 ⟨rfl, hB⟩
  have HB := Lib.hid hB; have HS1 := Lib.hid (HS.out.same hB); have HR1 := Lib.hid (HR.out.same hB); clear hB
  go_wp2_with fail
  refine (size9_any ra rn rc r l c h hrn HL.out _ HR1.out).mono ?_
  rintro e w2 ⟨⟨s, rfl, hs, hsz⟩, rfl⟩
  have HSZ := Lib.hid hsz; clear hsz
  by_cases hbig : n + s ≤ 70000
  · have g1 : decide ((70000 : Int) < (n : Int) + (s : Int)) = false := by simp; omega
    obtain ⟨hr7, hl7⟩ := HSZ.out (by omega)
    have HL7 := Lib.hid hl7
    clear hl7 HSZ HL
    go_wp2_with fail
    clear g1
    refine (cut_any a n cap k f _ HS1.out).mono ?_
    rintro e w3 ⟨v, ex, rfl, hB3, hP⟩
    have HB3 := Lib.hid hB3; have HP := Lib.hid hP
    have HBe := Lib.hid (HB.out.trans (hB3.mono HB.out.size))
    clear hB3 hP
    go_upto_if 40 with fail
    go_cut [17] (fun _ wx => Below w3.heap.size w3 wx)
    case first =>
      rcases HP.out with ⟨hb, rfl, rfl⟩ | ⟨hb, rfl, G, K, rfl, rfl, hf⟩
      · clear hb
        go_wp2
        go_meet
        exact Below.refl _ _
      · have hb' := hb
        unfold Bad at hb'
        obtain ⟨g, hG1, hg1, hGg, hB4, hbl, ho, hRd⟩ := CutFin.rd hf HS1.out.bytes HS1.out.up (by have := wid_lo (L := n) (k := K) (by omega); omega) (by omega)
        have HRd := Lib.hid hRd; have HBL := Lib.hid hbl; have HF := Lib.hid HS1.out.bytes; have HU := Lib.hid HS1.out.up
        have hK1 : 1 ≤ K := by omega
        have hK2 : K ≤ 255 := by omega
        have hn65 : n ≤ 65535 := by omega
        have HS3 := Lib.hid (HS1.out.same HB3.out)
        clear hf hG1 hg1 hGg hB4 hbl ho hRd hb hb' HP
        go_wp2_with fail
        refine (width_ok n K hn65 hK1 hK2 _).mono ?_
        rintro e w4 ⟨rfl, rfl⟩
        go_wp2_with fail
        refine (waste_ok n K hn65 hK1 hK2 _).mono ?_
        rintro e w4 ⟨rfl, rfl⟩
        go_wp2_with fail
        refine (join_ok _ K K n _ _ _ _ hn65 hK1 hK2 _ HRd.out).mono ?_
        rintro e w5 ⟨hB5, ⟨_, i, _, hi⟩ | ⟨_, g5, rfl, _, hb5⟩⟩
        · exact absurd rfl hi
        have hlo := wid_lo (L := n) hK1
        have hhi := wid_hi (L := n) hK1
        have hwle := wid_le (L := n) hK1
        have hbl5 : Bl w5 g5 n n f := hb5.congr fun i hi => by
          rcases Nat.eq_zero_or_pos (wid n K) with e | e
          · rw [e] at hhi; omega
          · rw [jn_crow f e]
        have hu : was n K = K * wid n K - n := rfl
        have hmul : ((wid n K : Nat) : Int) * (K : Int) = ((K * wid n K : Nat) : Int) := by rw [Int.natCast_mul, Int.mul_comm]
        have HRd5 := Lib.hid (HRd.out.same hB5); have HS5 := Lib.hid (HS3.out.same hB5); have HB5 := Lib.hid hB5; have HBL5 := Lib.hid hbl5
        clear hb5 hbl5 hB5 HRd HBL HS3
        generalize was n K = u at *
        generalize wid n K = wi at *
        generalize K * wi = T at *
        have g2 : u < K := by omega
        have g2' : ¬ K ≤ u := by omega
        have g3 : ((T : Int) != (n : Int) + (u : Int)) = false := by simp; omega
        have hTb : T ≤ 70000 := by omega
        have HUU := Lib.hid hu; clear hu
        go_wp2_with fail
        refine (same_any (some ⟨g5, 0, none⟩) a n n cap f (by omega) _ (HBL5.out.sl (Nat.le_refl _) (by unfold maxLen; omega) HF.out HU.out) HS5.out).mono ?_
        rintro e w6 ⟨rfl, q, hq⟩
        have HRd6 := Lib.hid (show Rd w6 _ _ _ _ _ _ _ by rw [hq]; exact HRd5.out.drewN q)
        have HB6 := Lib.hid (show Below w4.heap.size w4 w6 by rw [hq]; exact below_dr HB5.out q)
        clear hq HRd5 HB5 HS5 HBL5 g2 g2' g3 hmul
        go_wp2_with fail
        go_loop [17] (fun i => ∃ j : Nat, j ≤ K ∧ i = .int .i64 (j : Nat)) (fun i => K - (intOf i).toNat)
        case atStart => exact ⟨0, by omega, rfl⟩
        case round =>
          obtain ⟨j, hj, rfl⟩ := hrel
          by_cases hjk : j < K
          · have i1 : (j : Int) < (K : Int) := by omega
            obtain ⟨b, o, ea, hc⟩ := HRd6.out.at_ hjk
            cases ea
            rw [Nat.zero_add] at hc
            have g4 : (((wi : Nat) : Int) != (wi : Int)) = false := by simp
            go_wp2_with fail
            go_round
            case rel => exact ⟨j + 1, by omega, by go_num⟩
            case measure => simp [intOf]; omega
          · obtain rfl : j = K := by omega
            have i1 : ¬ (j : Int) < (j : Int) := by omega
            go_wp2_with fail
            go_meet
            exact HB6.out
    case rest =>
      obtain ⟨wx, hwx⟩ : ∃ wx : World, wx = wc := ⟨_, rfl⟩
      rw [← hwx] at hcut ⊢
      have HC := Lib.hid hcut
      clear hcut hwx
      go_upto_region 17 with fail
      go_cut [133] from 115 to 133 (fun v wy => v = .bool false ∧ wy = wx)
      case first =>
        rcases HP.out with ⟨hb, rfl, rfl⟩ | ⟨hb, _, _⟩
        · have HBD := Lib.hid hb
          unfold Bad at hb
          by_cases c1 : n ≤ 65535
          · have g1 : decide ((n : Int) ≤ 65535) = true := by simp; omega
            by_cases c2 : 1 ≤ k
            · have g2 : decide ((1 : Int) ≤ k) = true := by simp; omega
              have g3 : decide (k ≤ 255) = false := by simp; omega
              clear hb
              go_wp2
              go_meet
              exact ⟨rfl, rfl⟩
            · have g2 : decide ((1 : Int) ≤ k) = false := by simp; omega
              clear hb
              go_wp2
              go_meet
              exact ⟨rfl, rfl⟩
          · have g1 : decide ((n : Int) ≤ 65535) = false := by simp; omega
            clear hb
            go_wp2
            go_meet
            exact ⟨rfl, rfl⟩
        · obtain ⟨_, rfl, _⟩ : ¬ Bad n k ∧ ex = 0 ∧ True := by
            rcases HP.out with ⟨_, _, rfl⟩ | ⟨hb, rfl, _⟩
            · rename_i hbb; exact absurd (by assumption) hb
            · exact ⟨hb, rfl, trivial⟩
          go_wp2
          go_meet
          exact ⟨rfl, rfl⟩
      case rest =>
        obtain ⟨rfl, rfl⟩ := hcut
        have hBx : Below w.heap.size w wc := HBe.out.trans (HC.out.mono HBe.out.size)
        have HBx := Lib.hid hBx; have HRx := Lib.hid ((HR1.out.same HB3.out).same HC.out)
        clear hBx HP HC HB3 HBe
        clear HS HR HS1 HR1 HB
        go_wp2_with fail
        refine (join_any ra rn rc r l c h x _ HRx.out).mono ?_
        rintro e w5 ⟨v5, e5, rfl, hB5, hJ⟩
        have HB5 := Lib.hid (HBx.out.trans (hB5.mono HBx.out.size)); have HR5 := Lib.hid (HRx.out.same hB5)
        clear hB5 HBx HRx
        rcases hJ with ⟨rfl, hJ⟩ | ⟨hbj, rfl, gj, L, rfl, rfl, hall, hgj, hblj⟩
        · have he5 : e5 = 2 ∨ e5 = 4 := by
            rcases hJ with ⟨_, h⟩ | ⟨_, h, _⟩
            · exact Or.inl h
            · exact Or.inr h
          have HJ := Lib.hid hJ
          clear hJ
          rcases he5 with rfl | rfl
          all_goals
            go_wp2
            go_ret
            exact ⟨rfl, HB5.out⟩
        · unfold Bad at hbj
          have hrn1 : 1 ≤ rn := by omega
          have hrn2 : rn ≤ 255 := by omega
          have hL65 : L ≤ 65535 := by omega
          have hlo := wid_lo (L := L) hrn1
          have hhi := wid_hi (L := L) hrn1
          have hwle := wid_le (L := L) hrn1
          have hby := cut0_by (jn_by HR5.out.bm (wid L rn)) L
          have hsl : Sl w5 (some ⟨gj, 0, none⟩) L L (cut0 (jn h (wid L rn)) L) := (hblj.congr (h' := cut0 (jn h (wid L rn)) L) (fun i hi => by unfold cut0; rw [if_pos hi])).sl (Nat.le_refl _) (by unfold maxLen; omega) hby (cut0_up _ _)
          have HSL := Lib.hid hsl; have HALL := Lib.hid hall
          clear hbj hgj hblj hall hsl
          go_wp2_with fail
          refine (cut_ok _ L L rn _ hL65 hrn1 hrn2 _ HSL.out).mono ?_
          rintro e w6 ⟨G, rfl, hf⟩
          obtain ⟨g, _, _, _, hB6, _, _, hRd⟩ := CutFin.rd hf hby (cut0_up _ _) (by omega) (by omega)
          have HB6 := Lib.hid (HB5.out.trans (hB6.mono HB5.out.size)); have HRm := Lib.hid hRd; have HR6 := Lib.hid (HR5.out.same hB6)
          clear hf hB6 hRd hby HSL HB5 HR5
          generalize hwi : wid L rn = wi at *
          have HWI := Lib.hid hwi; clear hwi
          go_wp2_with fail
          have hT : rn * wi ≤ 66000 := by omega
          clear hlo hhi hwle
          go_loopw [22, 23] (fun at' i wr => ∃ j : Nat, j ≤ rn ∧ i = .int .i64 (j : Nat) ∧ at' = .int .i64 (j * wi : Nat) ∧ ∃ q, wr = w6.drewN q) (fun _ i _ => rn - (intOf i).toNat)
          case atStart => exact ⟨0, by omega, rfl, by rw [Nat.zero_mul]; rfl, 0, rfl⟩
          case round =>
            obtain ⟨j, hj, rfl, rfl, q, hq⟩ := hrel
            obtain ⟨wo, rfl⟩ : ∃ wo : World, wo = wr := ⟨_, rfl⟩
            have HQ := Lib.hid hq
            by_cases hjk : j < rn
            · have i1 : (j : Int) < (rn : Int) := by omega
              have hpl := place_le (wi := wi) hjk
              have hnx : (j + 1) * wi = j * wi + wi := by rw [Nat.add_mul, Nat.one_mul]
              have HNX := Lib.hid hnx
              have hmr := HRm.out.cell _ rfl j hjk
              have HMV := Lib.hid (show ∀ m, m < wi → w6.cell? ⟨g, j * wi + m, none⟩ = some (.int .u8 (crow (cut0 (jn h wi) L) wi j m : Nat)) from fun m hm => (HRm.out.row j hjk).cell _ rfl m hm)
              have HCV := Lib.hid (show ∀ m, m < wi → crow (cut0 (jn h wi) L) wi j m = if j * wi + m < L then h j m else 0 from fun m hm => by
                unfold crow cut0 jn
                rw [if_pos hm]
                have e1 : (j * wi + m) / wi = j := by rw [Nat.mul_comm, Nat.mul_add_div (by omega), Nat.div_eq_of_lt hm, Nat.add_zero]
                have e2 : (j * wi + m) % wi = m := by rw [Nat.mul_comm, Nat.mul_add_mod, Nat.mod_eq_of_lt hm]
                rw [e1, e2])
              obtain ⟨b, o, ea, hc⟩ := HR6.out.at_ hjk
              have hrow := HR6.out.row j hjk
              rw [HALL.out j hjk] at hc hrow
              have HROW := Lib.hid hrow
              have EA := Lib.hid ea
              have hmr' : w6.cell? ⟨G, j, none⟩ = some (.slice (some ⟨g, j * wi, none⟩) wi wi) := by
                simpa using hmr
              clear hmr hnx hrow hq
              generalize j * wi = T0 at *
              have HMR := Lib.hid hmr'; have HCC := Lib.hid hc
              clear hmr' hc
              subst ea
              go_wp2_with fail
              go_loopw [22, 24] (fun at' i wr => ∃ m : Nat, m ≤ wi ∧ i = .int .i64 (m : Nat) ∧ at' = .int .i64 (T0 + m : Nat) ∧ ∃ q, wr = w6.drewN q) (fun _ i _ => wi - (intOf i).toNat)
              case atStart => exact ⟨0, by omega, rfl, rfl, q, HQ.out⟩
              case round =>
                obtain ⟨m, hm, rfl, rfl, q2, hq2⟩ := hrel
                have c1 : wr.cell? ⟨G, j, none⟩ = some (.slice (some ⟨g, T0, none⟩) wi wi) := by rw [hq2]; exact HMR.out
                have c2 : wr.cell? ⟨b, o + j, none⟩ = some (.slice (r j) wi (c j)) := by rw [hq2]; exact HCC.out
                have HQ2 := Lib.hid hq2
                by_cases hmw : m < wi
                · have i2 : (m : Int) < (wi : Int) := by omega
                  obtain ⟨b2, o2, e2, c3⟩ := (HROW.out).at_ hmw
                  have c3' : wr.cell? ⟨b2, o2 + m, none⟩ = some (.int .u8 (h j m : Nat)) := by rw [hq2]; exact c3
                  have c4 : wr.cell? ⟨g, T0 + m, none⟩ = some (.int .u8 (crow (cut0 (jn h wi) L) wi j m : Nat)) := by rw [hq2]; exact HMV.out m hmw
                  rw [HCV.out m hmw] at c4
                  have E2 := Lib.hid e2
                  rw [e2] at c2
                  clear c3 e2 hq2
                  generalize h j m = vl at *
                  have hT1 : T0 + m ≤ 66000 := by omega
                  obtain ⟨u, hu⟩ : ∃ u, u = T0 + m := ⟨_, rfl⟩
                  have HU := Lib.hid hu
                  by_cases c : u < L
                  · rw [if_pos (by omega)] at c4
                    have g1 : decide ((u : Int) < (L : Int)) = true := by simp; omega
                    have g2 : decide ((L : Int) ≤ (u : Int)) = false := by simp; omega
                    have g3 : (((vl : Nat) : Int) != (vl : Int)) = false := by simp
                    have g4 : ¬ L ≤ u := by omega
                    have g5 : ¬ (L : Int) ≤ (u : Int) := by omega
                    have hub : u ≤ 66000 := by omega
                    rw [← hu]
                    clear hu
                    go_wp2_with fail
                    go_quiet (fail)
                    clear c1 c2 c3' c4 g1 g2 g5
                    go_wp2_with fail
                    go_roundw
                    case rel => exact ⟨m + 1, by omega, by go_num, by rw [← Nat.add_assoc, ← HU.out]; go_num, q2 + nq, by rw [HQ2.out, World.drewN_drewN]⟩
                    case measure => simp [intOf]; omega
                  · rw [if_neg (by omega)] at c4
                    have g1 : decide ((u : Int) < (L : Int)) = false := by simp; omega
                    have g2 : decide ((L : Int) ≤ (u : Int)) = true := by simp; omega
                    have g4 : L ≤ u := by omega
                    have g5 : ¬ (u : Int) < (L : Int) := by omega
                    have hub : u ≤ 66000 := by omega
                    rw [← hu]
                    clear hu
                    go_wp2_with fail
                    go_quiet (fail)
                    clear c1 c2 c3' c4 g1 g2 g5
                    go_wp2_with fail
                    go_roundw
                    case rel => exact ⟨m + 1, by omega, by go_num, by rw [← Nat.add_assoc, ← HU.out]; go_num, q2 + nq, by rw [HQ2.out, World.drewN_drewN]⟩
                    case measure => simp [intOf]; omega
                · obtain rfl : m = wi := by omega
                  have i2 : ¬ (m : Int) < (m : Int) := by omega
                  clear hq2
                  go_wp2
                  go_roundw
                  case rel => exact ⟨j + 1, by omega, by go_num, by rw [HNX.out], q2, HQ2.out⟩
                  case measure => simp [intOf]; omega
            · obtain rfl : j = rn := by omega
              have i1 : ¬ (j : Int) < (j : Int) := by omega
              go_wp2
              go_ret
              exact ⟨rfl, below_dr HB6.out q⟩
  · have g1 : decide ((70000 : Int) < (n : Int) + (s : Int)) = true := by simp; omega
    have HBG := Lib.hid hbig; clear hbig
    go_wp2
    go_ret
    exact ⟨rfl, HB.out⟩
end Go.Proofs.Ytmjjhbeegjbocaa.Sp
