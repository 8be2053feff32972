import Derived.Test.YtdempjkkahjekaaVD
import Derived.Test.YtdempjkkahjekaaV7
import Derived.Test.YtdempjkkahjekaaGs
namespace Go.Proofs.Ytdempjkkahjekaa
open Go.RowKit Go.Shelf

/-- what both tables answer. -/
def TabE (w : World) (h wi : Nat) (E : Int) (f : Nat → Nat → Nat) (e : Ending) (w' : World) : Prop := ∃ a cap r c, e = .returned (.tuple #[.slice a h cap, .int .i64 E]) ∧ Rd w' a h cap r (fun _ => wi) c f ∧ Below w.heap.size w w'
theorem rd_none (w : World) (wi : Nat) {f : Nat → Nat → Nat} (hf : Mt.Bm f) : Rd w none 0 0 (fun _ => none) (fun _ => wi) (fun _ => 0) f :=
  ⟨Nat.le_refl _, by unfold maxLen; omega, hf, fun _ => ⟨rfl, rfl⟩, fun _ e => (by cases e), fun _ e => (by cases e), fun i hi => absurd hi (Nat.not_lt_zero i)⟩
theorem table_both (k n : Int) : ∃ (h wi : Nat) (E : Int) (f : Nat → Nat → Nat), h ≤ 255 ∧ wi ≤ 255 ∧
    (1 ≤ k ∧ k ≤ n ∧ n ≤ 255 ∧ E = 0 ∧ h = n.toNat ∧ wi = k.toNat ∧ f = Pf.tbl k.toNat ∨ ¬ (1 ≤ k ∧ k ≤ n ∧ n ≤ 255) ∧ E = 2 ∧ h = 0) ∧
    (∀ w, Calls Try.prog 18 #[.int .i64 k, .int .i64 n] w (TabE w h wi E f)) ∧
    (∀ w, Calls Try.prog 19 #[.int .i64 k, .int .i64 n] w (TabE w h wi E f)) := by
  by_cases ok : 1 ≤ k ∧ k ≤ n ∧ n ≤ 255
  · obtain ⟨K, rfl⟩ := Int.eq_ofNat_of_zero_le (show 0 ≤ k by omega)
    obtain ⟨N, rfl⟩ := Int.eq_ofNat_of_zero_le (show 0 ≤ n by omega)
    refine ⟨N, K, 0, Pf.tbl K, by omega, by omega, Or.inl ⟨by omega, by omega, by omega, rfl, by rw [Int.toNat_natCast], by rw [Int.toNat_natCast], by rw [Int.toNat_natCast]⟩, fun w => (pTable_yes K N (by omega) (by omega) (by omega) w).mono ?_, fun w => (rTable_yes K N (by omega) (by omega) (by omega) w).mono ?_⟩
    · rintro e w' ⟨G, b, rfl, hG, hB⟩
      exact ⟨_, _, _, _, rfl, hG.rd, hB⟩
    · rintro e w' ⟨a, cap, b, c, rfl, hG, hB⟩
      exact ⟨_, _, _, _, rfl, hG.rd, hB⟩
  · refine ⟨0, 0, 2, fun _ _ => 0, by omega, by omega, Or.inr ⟨ok, rfl, rfl⟩, fun w => (pTable_no k n (by omega) w).mono ?_, fun w => (rTable_no k n (by omega) w).mono ?_⟩
    · rintro e w' ⟨rfl, hB⟩
      exact ⟨none, 0, _, _, rfl, rd_none w' 0 (fun _ _ => (by omega : 0 < 256)), hB⟩
    · rintro e w' ⟨rfl, hB⟩
      exact ⟨none, 0, _, _, rfl, rd_none w' 0 (fun _ _ => (by omega : 0 < 256)), hB⟩
theorem nine_lw (R : Nat) : Pf.lw (Pf.lit [0, 1, 2, 3, 4, 5, 6, 7, 8]) 9 R = Pf.lw Pf.idn 9 R := Pf.lw_congr (fun j hj => by
  rcases (show j = 0 ∨ j = 1 ∨ j = 2 ∨ j = 3 ∨ j = 4 ∨ j = 5 ∨ j = 6 ∨ j = 7 ∨ j = 8 by omega) with rfl | rfl | rfl | rfl | rfl | rfl | rfl | rfl | rfl <;> rfl) R
theorem nine_dst : Pf.Dst (Pf.lit [0, 1, 2, 3, 4, 5, 6, 7, 8]) 9 := fun i j h1 h2 => by
  have e : ∀ k, k < 9 → Pf.lit [0, 1, 2, 3, 4, 5, 6, 7, 8] k = k := fun k hk => by
    rcases (show k = 0 ∨ k = 1 ∨ k = 2 ∨ k = 3 ∨ k = 4 ∨ k = 5 ∨ k = 6 ∨ k = 7 ∨ k = 8 by omega) with rfl | rfl | rfl | rfl | rfl | rfl | rfl | rfl | rfl <;> rfl
  rw [e i (by omega), e j h2]; omega
theorem tbl_unit {r c : Nat} (hr : r < 255) (hc : c < 255) : Pf.tbl 255 r c = if c = r then 1 else 0 := by
  unfold Pf.tbl
  rw [Pf.lw_at Pf.idn_by (Pf.idn_dst (by omega)) hc hr]

set_option maxHeartbeats 8000000 in
set_option maxRecDepth 100000 in
theorem lagrTables_any (w : World) : Calls Try.prog 4 #[] w fun e w' => e = .returned (.bool true) ∧ Below w.heap.size w w' := by
  go_enter Try.func4, Try.ntmps4
  go_wp2_with fail
  go_loopw [1] (fun i wr => ∃ z : Int, -1 ≤ z ∧ z ≤ 13 ∧ i = .int .i64 z ∧ Below w.heap.size w wr) (fun i _ => (13 - intOf i).toNat)
  case atStart => exact ⟨-1, by omega, by omega, rfl, Below.refl _ _⟩
  case round =>
    obtain ⟨z, hz1, hz2, rfl, hB⟩ := hrel
    obtain ⟨wo, rfl⟩ : ∃ wo : World, wo = wr := ⟨_, rfl⟩
    have HB := Lib.hid hB; clear hB
    by_cases hz : z < 13
    · go_wp2_with fail
      go_loopw [2] (fun i wr => ∃ y : Int, -1 ≤ y ∧ y ≤ 14 ∧ i = .int .i64 y ∧ Below w.heap.size w wr) (fun i _ => (14 - intOf i).toNat)
      case atStart => exact ⟨-1, by omega, by omega, rfl, HB.out⟩
      case round =>
        clear HB
        obtain ⟨y, hy1, hy2, rfl, hB⟩ := hrel
        have HB := Lib.hid hB; clear hB
        by_cases hy : y < 14
        · obtain ⟨h, wi, E, f, hh, hwi, _, k1, k2⟩ := table_both y z
          have K1 := Lib.hid k1; have K2 := Lib.hid k2; clear k1 k2
          go_wp2_with fail
          refine (K1.out _).mono ?_
          rintro e w1 ⟨a, cap, r, c, rfl, hR, hB1⟩
          have HR := Lib.hid hR; have HB1 := Lib.hid (HB.out.trans (hB1.mono HB.out.size)); clear hR hB1
          go_wp2_with fail
          refine (K2.out _).mono ?_
          rintro e w2 ⟨a2, cap2, r2, c2, rfl, hR2, hB2⟩
          have HR1 := Lib.hid (HR.out.same hB2); have HR2 := Lib.hid hR2; have HB2 := Lib.hid (HB1.out.trans (hB2.mono HB1.out.size)); clear hR2 hB2
          have g1 : (E != E) = false := by simp
          go_wp2_with fail
          refine (sameRows_any a a2 h cap cap2 r r2 (fun _ => wi) c (fun _ => wi) c2 f f (by omega) (fun _ _ => by omega) _ HR1.out HR2.out (fun _ _ => ⟨rfl, rfl⟩)).mono ?_
          rintro e w3 ⟨rfl, q, rfl⟩
          clear g1
          go_wp2
          go_roundw
          case rel => exact ⟨y + 1, by omega, by omega, rfl, below_dr HB2.out q⟩
          case measure => simp [intOf]; omega
        · go_wp2
          go_roundw
          case rel => exact ⟨z + 1, by omega, by omega, rfl, HB.out⟩
          case measure => simp [intOf]; omega
    · go_wp2_with fail
      go_loopw [7] (fun i wr => ∃ z : Int, 253 ≤ z ∧ z ≤ 258 ∧ i = .int .i64 z ∧ Below w.heap.size w wr) (fun i _ => (258 - intOf i).toNat)
      case atStart => exact ⟨253, by omega, by omega, rfl, HB.out⟩
      case round =>
        clear HB hz1 hz2 hz
        obtain ⟨n, hn1, hn2, rfl, hB⟩ := hrel
        have HB := Lib.hid hB; clear hB
        by_cases hn : n < 258
        · obtain ⟨h, wi, E, f, hh, hwi, hc, k1, _⟩ := table_both 9 n
          obtain ⟨h', wi', E', f', hh', hwi', hc', k1', _⟩ := table_both (n + 1) n
          have hE' : E' = 2 := by
            rcases hc' with ⟨_, h2, _⟩ | ⟨_, h2, _⟩
            · omega
            · exact h2
          subst hE'
          have K1 := Lib.hid k1; have K2 := Lib.hid k1'; clear k1 k1' hc'
          go_wp2_with fail
          refine (K1.out _).mono ?_
          rintro e w1 ⟨a, cap, r, c, rfl, hR, hB1⟩
          have HR := Lib.hid hR; have HB1 := Lib.hid (HB.out.trans (hB1.mono HB.out.size)); clear hR hB1
          go_wp2_with fail
          refine (K2.out _).mono ?_
          rintro e w2 ⟨a2, cap2, r2, c2, rfl, hR2, hB2⟩
          have HR1 := Lib.hid (HR.out.same hB2); have HB2 := Lib.hid (HB1.out.trans (hB2.mono HB1.out.size)); clear hR2 hB2
          rcases hc with ⟨_, _, i1, rfl, he, rfl, rfl⟩ | ⟨hno, rfl, rfl⟩
          · have hnn : (n.toNat : Int) = n := Int.toNat_of_nonneg (by omega)
            have hNh : n.toNat ≤ 255 := by omega
            subst he
            generalize n.toNat = h at *
            have HNN := Lib.hid hnn; clear hnn
            go_wp2_with fail
            go_loopw [12] (fun i wr => ∃ R : Nat, R ≤ h + 23 ∧ i = .int .i64 (R : Nat) ∧ Below w2.heap.size w2 wr) (fun i _ => h + 23 - (intOf i).toNat)
            case atStart => exact ⟨0, by omega, rfl, Below.refl _ _⟩
            case round =>
              obtain ⟨R, hR1, rfl, hB3⟩ := hrel
              have HB3 := Lib.hid hB3
              by_cases hRh : R < h
              · have hRR := HR1.out.same hB3
                obtain ⟨b1, o1, e1, c1⟩ := hRR.at_ hRh
                have hrow := hRR.row R hRh
                have HROW := Lib.hid hrow
                subst e1
                have hcv : IntKind.u8.wrap (R : Int) = (R : Int) := IntWalk.u8_in _ (by omega)
                have i2 : (R : Int) < (h : Int) := by omega
                have s9 : Sl (wr.alloc (.cells #[.int .u8 0, .int .u8 1, .int .u8 2, .int .u8 3, .int .u8 4, .int .u8 5, .int .u8 6, .int .u8 7, .int .u8 8] 5)) (some ⟨wr.heap.size, 0, none⟩) 9 9 (Pf.lit [0, 1, 2, 3, 4, 5, 6, 7, 8]) := sl_lits wr [0, 1, 2, 3, 4, 5, 6, 7, 8] (by decide) (by decide)
                have S9 := Lib.hid s9
                have hal : Below wr.heap.size wr (wr.alloc (.cells #[.int .u8 0, .int .u8 1, .int .u8 2, .int .u8 3, .int .u8 4, .int .u8 5, .int .u8 6, .int .u8 7, .int .u8 8] 5)) := (Below.refl _ wr).alloc (Nat.le_refl _) _
                have HAL := Lib.hid hal
                have hs3 := hB3.size
                clear hB3 hrow hRR s9 hal
                go_upto_region 22 with (go_at_call 10; refine (rWeights_any _ 9 9 R (Pf.lit [0, 1, 2, 3, 4, 5, 6, 7, 8]) (by omega) (by omega) _ S9.out).mono ?_; rintro e w4 (⟨_, aw, cw, rfl, hN, hB4⟩ | ⟨hnd, _⟩); rotate_left; exact absurd nine_dst hnd; have HN := Lib.hid hN.sl; have HB4 := Lib.hid hB4; clear hN hB4)
                have hb4 := HAL.out.trans (HB4.out.mono (by rw [World.size_alloc]; omega))
                have c2 := (hb4.cell (World.block_lt_of_cell? _ _ c1)).trans c1
                have HR4 := Lib.hid (HROW.out.same hb4)
                have HB5 := Lib.hid (HB3.out.trans (hb4.mono hs3))
                rw [nine_lw] at HN
                have HT := Lib.hid (show Pf.tbl 9 R = Pf.lw Pf.idn 9 R by unfold Pf.tbl; rw [Pf.idn_at (by omega)])
                rw [show (9 : Int).toNat = 9 from rfl] at *
                rw [HT.out] at HR4
                clear hb4 c1
                go_wp2_with fail
                refine (same_any (r R) aw 9 (c R) cw (Pf.lw Pf.idn 9 R) (by omega) _ HR4.out HN.out).mono ?_
                rintro e w5 ⟨rfl, q, rfl⟩
                go_wp2
                go_roundw
                case rel => exact ⟨R + 23, by omega, by go_num, below_dr HB5.out q⟩
                case measure => simp [intOf]; omega
              · have HB6 := Lib.hid (HB2.out.trans (hB3.mono HB2.out.size))
                clear hB3
                go_wp2
                go_roundw
                case rel => exact ⟨n + 1, by omega, by omega, rfl, HB6.out⟩
                case measure => simp [intOf]; omega
          · have i1 : ¬ n ≤ 255 := by omega
            go_wp2_with fail
            go_loopw [12] (fun i wr => i = .int .i64 0 ∧ wr = w2) (fun i _ => 0)
            case atStart => exact ⟨rfl, rfl⟩
            case round =>
              obtain ⟨rfl, hw⟩ := hrel
              rw [hw]; clear hw
              go_wp2
              go_roundw
              case rel => exact ⟨n + 1, by omega, by omega, rfl, HB2.out⟩
              case measure => simp [intOf]; omega
        · go_wp2_with fail
          refine (pTable_yes 255 255 (by omega) (by omega) (by omega) _).mono ?_
          rintro e w1 ⟨G, b, rfl, hG, hB1⟩
          have HG := Lib.hid hG; have HB1 := Lib.hid (HB.out.trans (hB1.mono HB.out.size)); clear hG hB1 hn1 hn2 hn
          go_wp2_with fail
          go_loopw [17] (fun i wr => ∃ r : Nat, r ≤ 255 ∧ i = .int .i64 (r : Nat) ∧ ∃ q, wr = w1.drewN q) (fun i _ => 255 - (intOf i).toNat)
          case atStart => exact ⟨0, by omega, rfl, 0, rfl⟩
          case round =>
            obtain ⟨r, hr, rfl, q, hq⟩ := hrel
            have HQ := Lib.hid hq; clear hq
            obtain ⟨wo, rfl⟩ : ∃ wo : World, wo = wr := ⟨_, rfl⟩
            by_cases hr2 : r < 255
            · have i1 : (r : Int) < 255 := by omega
              go_wp2_with fail
              go_loopw [18] (fun i wr => ∃ c : Nat, c ≤ 255 ∧ i = .int .i64 (c : Nat) ∧ ∃ q, wr = w1.drewN q) (fun i _ => 255 - (intOf i).toNat)
              case atStart => exact ⟨0, by omega, rfl, q, HQ.out⟩
              case round =>
                clear HQ
                obtain ⟨c, hc, rfl, q2, hq2⟩ := hrel
                have HQ2 := Lib.hid hq2
                by_cases hc2 : c < 255
                · have i2 : (c : Int) < 255 := by omega
                  have hG2 := HG.out.drewN q2
                  rw [← hq2] at hG2
                  have z1 := hG2.cell hr2
                  have z2 := (hG2.row r hr2).cell hc2
                  rw [tbl_unit hr2 hc2] at z2
                  clear hq2 hG2
                  by_cases e : c = r
                  · rw [if_pos e] at z2
                    have z2 : wr.cell? ⟨b r, c, none⟩ = some (.int .u8 1) := z2
                    have g1 : (((r : Nat) : Int) == ((c : Nat) : Int)) = true := eq_yes e.symm
                    have g2 : (((r : Nat) : Int) != ((c : Nat) : Int)) = false := ne_no e.symm
                    clear e
                    go_wp2
                    go_roundw
                    case rel => exact ⟨c + 1, by omega, by go_num, q2, HQ2.out⟩
                    case measure => simp [intOf]; omega
                  · rw [if_neg e] at z2
                    have z2 : wr.cell? ⟨b r, c, none⟩ = some (.int .u8 0) := z2
                    have g1 : (((r : Nat) : Int) == ((c : Nat) : Int)) = false := eq_no (Ne.symm e)
                    have g2 : (((r : Nat) : Int) != ((c : Nat) : Int)) = true := ne_yes (Ne.symm e)
                    clear e
                    go_wp2
                    go_roundw
                    case rel => exact ⟨c + 1, by omega, by go_num, q2, HQ2.out⟩
                    case measure => simp [intOf]; omega
                · have i2 : ¬ (c : Int) < 255 := by omega
                  clear hq2
                  go_wp2
                  go_roundw
                  case rel => exact ⟨r + 1, by omega, by go_num, q2, HQ2.out⟩
                  case measure => simp [intOf]; omega
            · have i1 : ¬ (r : Int) < 255 := by omega
              have HBq := Lib.hid (show Below w.heap.size w wo by rw [HQ.out]; exact below_dr HB1.out q)
              clear HQ
              have sn : ∀ W : World, Sl W none 0 0 (fun _ => 0) := fun W => (Nw.nil W 0 (fun _ => rfl)).sl
              have SN := Lib.hid sn; clear sn
              have sa : Sl (wo.alloc (.cells #[.int .u8 0, .int .u8 7] 5)) (some ⟨wo.heap.size, 0, none⟩) 2 2 (Pf.lit [0, 7]) := sl_lits wo [0, 7] (by decide) (by decide)
              have SA := Lib.hid sa
              have HBA := Lib.hid (HBq.out.alloc HBq.out.size (.cells #[.int .u8 0, .int .u8 7] 5))
              clear sa
              go_wp2_with fail
              refine (lagrDoes_any none none (some ⟨wo.heap.size, 0, none⟩) 0 0 2 0 0 2 3 (fun _ => 0) (fun _ => 0) (Pf.lit [0, 7]) (by omega) _ (SN.out _) (SN.out _) SA.out (by omega) (by omega) (by omega)).mono ?_
              rintro e w2 ⟨rfl, hB2⟩
              have HB2 := Lib.hid (HBA.out.trans (hB2.mono HBA.out.size)); clear hB2 HBA SA
              have a1 : Sl (w2.alloc (.cells #[.int .u8 4] 5)) (some ⟨w2.heap.size, 0, none⟩) 1 1 (Pf.lit [4]) := by
                have := sl_lits w2 [4] (by decide) (by decide)
                exact this
              have a2 : Sl ((w2.alloc (.cells #[.int .u8 4] 5)).alloc (.cells #[.int .u8 9] 5)) (some ⟨w2.heap.size + 1, 0, none⟩) 1 1 (Pf.lit [9]) := by
                have := sl_lits (w2.alloc (.cells #[.int .u8 4] 5)) [9] (by decide) (by decide)
                simp only [World.size_alloc] at this
                exact this
              have a3 : Sl (((w2.alloc (.cells #[.int .u8 4] 5)).alloc (.cells #[.int .u8 9] 5)).alloc (.cells #[.int .u8 4, .int .u8 5] 5)) (some ⟨w2.heap.size + 1 + 1, 0, none⟩) 2 2 (Pf.lit [4, 5]) := by
                have := sl_lits ((w2.alloc (.cells #[.int .u8 4] 5)).alloc (.cells #[.int .u8 9] 5)) [4, 5] (by decide) (by decide)
                simp only [World.size_alloc] at this
                exact this
              have A1 := Lib.hid ((a1.same ((Below.refl _ (w2.alloc (.cells #[.int .u8 4] 5))).alloc (Nat.le_refl _) (.cells #[.int .u8 9] 5))).same ((Below.refl _ ((w2.alloc (.cells #[.int .u8 4] 5)).alloc (.cells #[.int .u8 9] 5))).alloc (Nat.le_refl _) (.cells #[.int .u8 4, .int .u8 5] 5)))
              have A2 := Lib.hid (a2.same ((Below.refl _ ((w2.alloc (.cells #[.int .u8 4] 5)).alloc (.cells #[.int .u8 9] 5))).alloc (Nat.le_refl _) (.cells #[.int .u8 4, .int .u8 5] 5)))
              have A3 := Lib.hid a3
              have hbb := HB2.out
              have hbb := hbb.alloc hbb.size (.cells #[.int .u8 4] 5)
              have hbb := hbb.alloc hbb.size (.cells #[.int .u8 9] 5)
              have hbb := hbb.alloc hbb.size (.cells #[.int .u8 4, .int .u8 5] 5)
              have HBB := Lib.hid hbb
              clear hbb a1 a2 a3
              go_wp2_with fail
              refine (lagrDoes_any _ _ _ 1 1 2 1 1 2 200 (Pf.lit [4]) (Pf.lit [9]) (Pf.lit [4, 5]) (by omega) _ A1.out A2.out A3.out (by omega) (by omega) (by omega)).mono ?_
              rintro e w3 ⟨rfl, hB3⟩
              have HB3 := Lib.hid (HBB.out.trans (hB3.mono HBB.out.size)); clear hB3 HBB A1 A2 A3
              have a1 : Sl (w3.alloc (.cells #[.int .u8 4, .int .u8 4] 5)) (some ⟨w3.heap.size, 0, none⟩) 2 2 (Pf.lit [4, 4]) := by
                have := sl_lits w3 [4, 4] (by decide) (by decide)
                exact this
              have a2 : Sl ((w3.alloc (.cells #[.int .u8 4, .int .u8 4] 5)).alloc (.cells #[.int .u8 9] 5)) (some ⟨w3.heap.size + 1, 0, none⟩) 1 1 (Pf.lit [9]) := by
                have := sl_lits (w3.alloc (.cells #[.int .u8 4, .int .u8 4] 5)) [9] (by decide) (by decide)
                simp only [World.size_alloc] at this
                exact this
              have A1 := Lib.hid (a1.same ((Below.refl _ (w3.alloc (.cells #[.int .u8 4, .int .u8 4] 5))).alloc (Nat.le_refl _) (.cells #[.int .u8 9] 5)))
              have A2 := Lib.hid a2
              have hbb := HB3.out
              have hbb := hbb.alloc hbb.size (.cells #[.int .u8 4, .int .u8 4] 5)
              have hbb := hbb.alloc hbb.size (.cells #[.int .u8 9] 5)
              have HBB := Lib.hid hbb
              clear hbb a1 a2
              go_wp2_with fail
              refine (lagrDoes_any _ _ none 2 1 0 2 1 0 4 (Pf.lit [4, 4]) (Pf.lit [9]) (fun _ => 0) (by omega) _ A1.out A2.out (SN.out _) (by omega) (by omega) (by omega)).mono ?_
              rintro e w4 ⟨rfl, hB4⟩
              have HB4 := Lib.hid (HBB.out.trans (hB4.mono HBB.out.size)); clear hB4 HBB A1 A2
              have a1 : Sl (w4.alloc (.cells #[.int .u8 4, .int .u8 5, .int .u8 4] 5)) (some ⟨w4.heap.size, 0, none⟩) 3 3 (Pf.lit [4, 5, 4]) := by
                have := sl_lits w4 [4, 5, 4] (by decide) (by decide)
                exact this
              have a2 : Sl ((w4.alloc (.cells #[.int .u8 4, .int .u8 5, .int .u8 4] 5)).alloc (.cells #[.int .u8 9, .int .u8 1, .int .u8 9] 5)) (some ⟨w4.heap.size + 1, 0, none⟩) 3 3 (Pf.lit [9, 1, 9]) := by
                have := sl_lits (w4.alloc (.cells #[.int .u8 4, .int .u8 5, .int .u8 4] 5)) [9, 1, 9] (by decide) (by decide)
                simp only [World.size_alloc] at this
                exact this
              have a3 : Sl (((w4.alloc (.cells #[.int .u8 4, .int .u8 5, .int .u8 4] 5)).alloc (.cells #[.int .u8 9, .int .u8 1, .int .u8 9] 5)).alloc (.cells #[.int .u8 4] 5)) (some ⟨w4.heap.size + 1 + 1, 0, none⟩) 1 1 (Pf.lit [4]) := by
                have := sl_lits ((w4.alloc (.cells #[.int .u8 4, .int .u8 5, .int .u8 4] 5)).alloc (.cells #[.int .u8 9, .int .u8 1, .int .u8 9] 5)) [4] (by decide) (by decide)
                simp only [World.size_alloc] at this
                exact this
              have A1 := Lib.hid ((a1.same ((Below.refl _ (w4.alloc (.cells #[.int .u8 4, .int .u8 5, .int .u8 4] 5))).alloc (Nat.le_refl _) (.cells #[.int .u8 9, .int .u8 1, .int .u8 9] 5))).same ((Below.refl _ ((w4.alloc (.cells #[.int .u8 4, .int .u8 5, .int .u8 4] 5)).alloc (.cells #[.int .u8 9, .int .u8 1, .int .u8 9] 5))).alloc (Nat.le_refl _) (.cells #[.int .u8 4] 5)))
              have A2 := Lib.hid (a2.same ((Below.refl _ ((w4.alloc (.cells #[.int .u8 4, .int .u8 5, .int .u8 4] 5)).alloc (.cells #[.int .u8 9, .int .u8 1, .int .u8 9] 5))).alloc (Nat.le_refl _) (.cells #[.int .u8 4] 5)))
              have A3 := Lib.hid a3
              have hbb := HB4.out
              have hbb := hbb.alloc hbb.size (.cells #[.int .u8 4, .int .u8 5, .int .u8 4] 5)
              have hbb := hbb.alloc hbb.size (.cells #[.int .u8 9, .int .u8 1, .int .u8 9] 5)
              have hbb := hbb.alloc hbb.size (.cells #[.int .u8 4] 5)
              have HBB := Lib.hid hbb
              clear hbb a1 a2 a3
              go_wp2_with fail
              refine (lagrDoes_any _ _ _ 3 3 1 3 3 1 5 (Pf.lit [4, 5, 4]) (Pf.lit [9, 1, 9]) (Pf.lit [4]) (by omega) _ A1.out A2.out A3.out (by omega) (by omega) (by omega)).mono ?_
              rintro e w5 ⟨rfl, hB5⟩
              have HB5 := Lib.hid (HBB.out.trans (hB5.mono HBB.out.size)); clear hB5 HBB A1 A2 A3
              go_wp2_with fail
              refine (awake4_any _).mono ?_
              rintro e w6 ⟨rfl, hB6⟩
              have HB6 := Lib.hid (HB5.out.trans (hB6.mono HB5.out.size)); clear hB6
              go_wp2
              go_ret
              exact ⟨rfl, HB6.out⟩
end Go.Proofs.Ytdempjkkahjekaa
