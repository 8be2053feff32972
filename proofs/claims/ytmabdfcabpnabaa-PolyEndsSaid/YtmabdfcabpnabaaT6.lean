import Derived.Test.YtmabdfcabpnabaaT1
import Derived.Test.YtmabdfcabpnabaaT5
import Derived.Test.YtmabdfcabpnabaaTl
import Derived.Lib.QuietBelow
namespace Go.Proofs.Ytmabdfcabpnabaa
open Go.RowKit Go.Shelf

set_option maxHeartbeats 4000000 in
set_option maxRecDepth 100000 in
theorem polyEnds_any (w : World) :
    Calls Try.prog 5 #[] w fun e w' => e = .returned (.bool true) ∧ Below w.heap.size w w' := by
  obtain ⟨i0, hi, hz0, hz1, hz2⟩ := info_parts Try.infoU8
  have HI := Lib.hid hi; have HZ0 := Lib.hid hz0; have HZ1 := Lib.hid hz1; have HZ2 := Lib.hid hz2
  clear hi hz0 hz1 hz2
  have HR := Lib.hid (rows_end w)
  have HB0 := Lib.hid ((laid_below endRows w).alloc (by rw [laid_size]; omega) (.cells (endCells w.heap.size) 22))
  go_enter Try.func5, Try.ntmps5
  go_wp2_with fail
  go_loopw [2] (fun kv wr => ∃ i : Nat, i ≤ 11 ∧ kv = .int .i64 (i : Nat) ∧ RowsOk wr (w.heap.size + 10) 11 ∧ Below w.heap.size w wr) (fun kv _ => 11 - (intOf kv).toNat)
  case atStart => exact ⟨0, by omega, rfl, HR.out, HB0.out⟩
  case round =>
    obtain ⟨i, hi, rfl, hr, hB⟩ := hrel
    obtain ⟨wo, rfl⟩ : ∃ wo : World, wo = wr := ⟨_, rfl⟩
    have HR1 := Lib.hid hr; have HB1 := Lib.hid hB
    clear hr hB HR HB0
    by_cases hin : i < 11
    · have i1 : (i : Int) < 11 := by omega
      go_wp2_with fail
      go_loopw [3] (fun kv wr => ∃ k : Nat, k ≤ 11 ∧ kv = .int .i64 (k : Nat) ∧ RowsOk wr (w.heap.size + 10) 11 ∧ Below w.heap.size w wr) (fun kv _ => 11 - (intOf kv).toNat)
      case atStart => exact ⟨0, by omega, rfl, HR1.out, HB1.out⟩
      case round =>
        obtain ⟨k, hk, rfl, hr, hB⟩ := hrel
        obtain ⟨wi, rfl⟩ : ∃ wi : World, wi = wr := ⟨_, rfl⟩
        by_cases hkn : k < 11
        · have i2 : (k : Int) < 11 := by omega
          obtain ⟨a1, l1, c1, f1, q1, s1, b1⟩ := hr i hin
          obtain ⟨a2, l2, c2, f2, q2, s2, b2⟩ := hr k hkn
          have z1 := fun d os => cell_regrown q1 d os
          have z2 := fun d os => cell_regrown q2 d os
          have hp : i * k < 256 := Nat.lt_of_le_of_lt (Nat.mul_le_mul (show i ≤ 10 by omega) (show k ≤ 10 by omega)) (by decide)
          obtain ⟨p, hpe⟩ : ∃ p, p = i * k := ⟨_, rfl⟩
          rw [← hpe] at hp
          have hmul : (i : Int) * (k : Int) = ((p : Nat) : Int) := by rw [hpe]; exact (Int.natCast_mul i k).symm
          have S1 := Lib.hid s1; have S2 := Lib.hid s2; have HR2 := Lib.hid hr; have HB2 := Lib.hid hB
          clear q1 q2 s1 s2 hr hB hpe
          go_wp2_with fail
          refine wp_region_quiet_below (by kernel_rfl) (by kernel_rfl) ?_
          repeat (go_big_quiet_step ((first | (go_at_call 3; exact Calls.regrown_of (polyDoes_any a1 a2 l1 c1 l2 c2 p f1 f2 _ (S1.out.same (below_regrown _ _ _)) (S2.out.same (below_regrown _ _ _)) hp (by omega) (by omega))) | (go_at_call 4; exact Calls.regrown_of (polyThrough_any a1 a2 l1 c1 l2 c2 f1 f2 _ (S1.out.same (below_regrown _ _ _)) (S2.out.same (below_regrown _ _ _)) (by omega) (by omega))))))
          refine wpQuiet_nil ?_
          rintro W1 ⟨pq, hW1⟩
          have hB1 : Below wi.heap.size wi W1 := by rw [hW1]; exact below_regrown _ _ _
          have HR3 := Lib.hid (HR2.out.below hB1); have HB3 := Lib.hid (HB2.out.trans (hB1.mono HB2.out.size))
          clear hW1 hB1 z1 z2 hmul
          go_wp2
          go_roundw
          case rel =>
            first
            | exact ⟨k + 1, by omega, by go_num, HR3.out, HB3.out⟩
            | (repeat apply Exists.intro
               exact ⟨⟨k + 1, by omega, by go_num, HR3.out, HB3.out⟩, rfl⟩)
          case measure => simp [intOf]; omega
        · obtain rfl : k = 11 := by omega
          have HR2 := Lib.hid hr; have HB2 := Lib.hid hB; clear hr hB
          go_wp2
          go_roundw
          case rel =>
            first
            | exact ⟨i + 1, by omega, by go_num, HR2.out, HB2.out⟩
            | (repeat apply Exists.intro
               exact ⟨⟨i + 1, by omega, by go_num, HR2.out, HB2.out⟩, rfl⟩)
          case measure => simp [intOf]; omega
    · obtain rfl : i = 11 := by omega
      go_wp2_with fail
      go_loopw [4] (fun kv wr => ∃ m : Nat, 598 ≤ m ∧ m ≤ 602 ∧ kv = .int .i64 ((m + 1 : Nat) : Int) ∧ Below w.heap.size w wr) (fun kv _ => 603 - (intOf kv).toNat)
      case atStart => exact ⟨598, by omega, by omega, rfl, HB1.out⟩
      case round =>
        obtain ⟨m, hm0, hm, rfl, hB⟩ := hrel
        obtain ⟨wm, rfl⟩ : ∃ wm : World, wm = wr := ⟨_, rfl⟩
        have HB2 := Lib.hid hB; clear hB
        by_cases hmn : m < 602
        · have i1 : ((m + 1 : Nat) : Int) < 603 := by omega
          have i1' : (m : Int) + 1 < 603 := by omega
          go_upto_region 14 with (at_make; refine wpList_make_full _ rfl _ _ _ rfl wm.heap.size 5 i0 (.int .u8 0) 1 Try.underlying22 HI.out HZ0.out HZ1.out .i64 .i64 _ _ (m + 1) rfl rfl rfl rfl (by rw [HZ2.out]; omega) (by unfold maxLen; omega) (Nat.le_refl _) ?_; intro w3 hown hgrow)
          have hbl : Bl w3 wm.heap.size (m + 1) (m + 1) (fun _ => 0) := Bl.of_owns hown (fun i hi => by rw [Nat.mul_one]; exact get_zeros hi)
          have HB3 := Lib.hid (HB2.out.grown hgrow HB2.out.size (fun x hx => by cases hx))
          obtain ⟨M, hM⟩ : ∃ M, M = wm.heap.size := ⟨_, rfl⟩
          have hMw : w.heap.size ≤ M := by rw [hM]; exact HB2.out.size
          rw [← hM] at hbl ⊢
          obtain ⟨v, hv⟩ : ∃ v : Nat, v = m + 1 - 512 := ⟨_, rfl⟩
          have hv2 : v < 256 := by omega
          have c1 := hbl.cell (i := m) (by omega)
          have f1 := hbl.free m
          have hbl2 := hbl.set (j := m) (by omega) v
          have c2 := hbl2.cell (i := 1) (by omega)
          have f2 := hbl2.free 1
          have hbl3 := hbl2.set (j := 1) (by omega) 1
          have hconv : IntKind.u8.wrap ((m : Int) + 1) = ((v : Nat) : Int) := by rw [hv]; unfold IntKind.wrap; simp [IntKind.signed, IntKind.bits] <;> omega
          have HB5 := Lib.hid ((HB3.out.setCell (p := ⟨M, m, none⟩) hMw (.int .u8 (v : Nat))).setCell (p := ⟨M, 1, none⟩) hMw (.int .u8 ((1 : Nat) : Int)))
          have HBL := Lib.hid hbl3
          rw [if_neg (by omega)] at c2
          clear hown hgrow hbl hbl2 hbl3 hM hv
          obtain ⟨wa, hwa⟩ : ∃ wa, wa = (w3.setCell ⟨M, m, none⟩ (.int .u8 (v : Nat))).setCell ⟨M, 1, none⟩ (.int .u8 ((1 : Nat) : Int)) := ⟨_, rfl⟩
          have hws : wa.heap.size = w3.heap.size := by rw [hwa, World.size_setCell, World.size_setCell]
          have hnw : ∃ hc, Nw wa w.heap.size (some ⟨M, 0, none⟩) (m + 1) (m + 1) hc := ⟨_, by
            rw [hwa]
            exact ⟨HBL.out.sl (Nat.le_refl _) (by unfold maxLen; omega) (fun i => by
              show (if i = 1 then 1 else if i = m then v else 0) < 256
              split
              · omega
              · split <;> omega) (fun i hi => by
              show (if i = 1 then 1 else if i = m then v else 0) = 0
              rw [if_neg (by omega), if_neg (by omega)]), HBL.out.ow hMw⟩⟩
          obtain ⟨hc, hnw⟩ := hnw
          have s1 := sl_lit wa [1, 2] (by decide) (by decide)
          have hBa := (Below.refl wa.heap.size wa).alloc (Nat.le_refl _) (.cells #[.int .u8 1, .int .u8 2] 5)
          have HNW := Lib.hid (hnw.below hBa)
          have HB6 := Lib.hid (show Below w.heap.size w (wa.alloc (.cells #[.int .u8 1, .int .u8 2] 5)) from by
            have := HB5.out
            rw [← hwa] at this
            exact this.alloc this.size _)
          rw [hws] at s1
          rw [hwa] at s1 HNW HB6
          have SLIT := Lib.hid s1
          clear hnw s1 hBa HBL HB5 hwa hws
          go_wp2_with fail
          refine (polyDoes_any _ _ (m + 1) (m + 1) 2 2 3 hc (Pf.lit [1, 2]) _ HNW.out.sl SLIT.out (by omega) (by omega) (by omega)).mono ?_
          rintro e wb ⟨rfl, hBb⟩
          have NW2 := Lib.hid (HNW.out.below hBb); have HB7 := Lib.hid (HB6.out.trans (hBb.mono HB6.out.size))
          clear hBb HNW HB6 SLIT
          have s2 := sl_lit wb [5] (by decide) (by decide)
          have hBa := (Below.refl wb.heap.size wb).alloc (Nat.le_refl _) (.cells #[.int .u8 5] 5)
          have NW3 := Lib.hid (NW2.out.below hBa); have HB8 := Lib.hid (HB7.out.alloc HB7.out.size (.cells #[.int .u8 5] 5)); have S2 := Lib.hid s2
          clear hBa s2
          go_wp2_with fail
          refine (polyDoes_any _ _ 1 1 (m + 1) (m + 1) 1 (Pf.lit [5]) hc _ S2.out NW3.out.sl (by omega) (by omega) (by omega)).mono ?_
          rintro e wc ⟨rfl, hBc⟩
          have NW4 := Lib.hid (NW3.out.below hBc); have HB9 := Lib.hid (HB8.out.trans (hBc.mono HB8.out.size))
          clear hBc NW3 HB8 S2
          have hA0 := (below_refl_alloc wc (.cells #[.int .u8 0, .int .u8 0] 5))
          have NW5 := Lib.hid (NW4.out.below hA0); have HB10 := Lib.hid (HB9.out.alloc HB9.out.size (.cells #[.int .u8 0, .int .u8 0] 5))
          have hzs : rowv (fun _ => 0) 2 = [Value.int .u8 0, Value.int .u8 0] := rfl
          have HLM := Lib.hid HB9.out.size
          clear hA0 hzs
          go_wp2_with (at_builtin; go_loud (refine wpList_append_bag_g _ (by rfl) _ _ 22 rfl w.heap.size 5 i0 (.int .u8 0) 1 Try.underlying22 HI.out HZ0.out HZ1.out HZ2.out rfl (some ⟨M, 0, none⟩) (m + 1) (m + 1) (rowv hc (m + 1)) rfl NW5.out.owns ⟨wc.heap.size, 0, none⟩ 2 2 [.int .u8 0, .int .u8 0] rfl rfl (cell_new2 _ _ _ _) (by intro u hu; rcases List.mem_cons.1 hu with rfl | hu; rfl; rcases List.mem_singleton.1 hu with rfl; rfl) (by decide) (by unfold maxLen; omega) (by omega) (by have := HLM.out; simp; omega) ?_); intro g cap' w6 hown6 hc6 hlt6; have HOWN6 := Lib.hid hown6; have HC6 := Lib.hid hc6; clear hown6 hc6 hlt6)
          have hnw6 : ∃ f6, Sl w6 (some ⟨g, 0, none⟩) (m + 1 + 2) cap' f6 := by
            have h1 := HOWN6.out
            have e0 : hc (m + 1) = 0 := NW5.out.sl.up (m + 1) (by omega)
            have e1 : hc (m + 1 + 1) = 0 := NW5.out.sl.up (m + 1 + 1) (by omega)
            have e2 : rowv hc (m + 1 + 1 + 1) = rowv hc (m + 1) ++ [.int .u8 (hc (m + 1) : Nat)] ++ [.int .u8 (hc (m + 1 + 1) : Nat)] := by rw [rowv_succ hc (m + 1 + 1), rowv_succ hc (m + 1)]
            rw [e0, e1, List.append_assoc] at e2
            have h1 : w6.ownsRow w.heap.size 5 1 (.slice (some ⟨g, 0, none⟩) (m + 1 + 2) cap') (m + 1 + 2) (rowv hc (m + 1 + 1 + 1)) := by rw [e2]; exact h1
            obtain ⟨_, _, e, hN⟩ := owns_new h1 NW5.out.sl.bytes (NW5.out.sl.up.mono (by omega))
            simp only [Value.slice.injEq, true_and] at e
            obtain ⟨rfl, rfl⟩ := e
            exact ⟨hc, hN.sl⟩
          obtain ⟨f6, hs6⟩ := hnw6
          have hB6 : Below w.heap.size w w6 := by
            rcases HC6.out with ⟨e, _, hg⟩ | ⟨hge, hg⟩
            · exact HB10.out.grown hg HB10.out.size (fun x hx => by cases hx; cases e; exact hMw)
            · exact HB10.out.grown hg HB10.out.size (fun x hx => by cases hx)
          have s7 := sl_lit w6 [0, 1] (by decide) (by decide)
          have S6 := Lib.hid (hs6.same (below_refl_alloc w6 (.cells #[.int .u8 0, .int .u8 1] 5))); have S7 := Lib.hid s7; have HB11 := Lib.hid (hB6.alloc hB6.size (.cells #[.int .u8 0, .int .u8 1] 5))
          clear hs6 hB6 s7 HOWN6 HC6 NW4 NW5 HB9 HB10 HLM
          refine (polyDoes_len _ _ (m + 1 + 2) cap' 2 2 9 f6 (Pf.lit [0, 1]) _ S6.out S7.out (by omega) (by omega) (by omega)).mono ?_
          rintro e wd ⟨rfl, hBd⟩
          have HB12 := Lib.hid (HB11.out.trans (hBd.mono HB11.out.size)); clear hBd
          go_wp2
          go_roundw
          case rel =>
            first
            | exact ⟨m + 1, by omega, by omega, by go_num, HB12.out⟩
            | (repeat apply Exists.intro
               exact ⟨⟨m + 1, by omega, by omega, by go_num, HB12.out⟩, rfl⟩)
          case measure => simp [intOf]; omega
        · obtain rfl : m = 602 := by omega
          go_upto_region 19 with (at_make; refine wpList_make_full _ rfl _ _ _ rfl wm.heap.size 5 i0 (.int .u8 0) 1 Try.underlying22 HI.out HZ0.out HZ1.out .i64 .i64 _ _ 40 rfl rfl rfl rfl (by rw [HZ2.out]; omega) (by unfold maxLen; omega) (Nat.le_refl _) ?_; intro w3 hown3 hgrow3)
          obtain ⟨X, hX⟩ : ∃ X, X = wm.heap.size := ⟨_, rfl⟩
          have hbx : Bl w3 X 40 40 (fun _ => 0) := by rw [hX]; exact Bl.of_owns hown3 (fun i hi => by rw [Nat.mul_one]; exact get_zeros hi)
          have hXw : w.heap.size ≤ X := by rw [hX]; exact HB2.out.size
          have HB3 := Lib.hid (HB2.out.grown hgrow3 HB2.out.size (fun x hx => by cases hx)); have HBX := Lib.hid hbx
          rw [← hX]
          clear hown3 hgrow3 hX hbx
          go_upto_region 20 with (at_make; refine wpList_make_full _ rfl _ _ _ rfl w3.heap.size 5 i0 (.int .u8 0) 1 Try.underlying22 HI.out HZ0.out HZ1.out .i64 .i64 _ _ 40 rfl rfl rfl rfl (by rw [HZ2.out]; omega) (by unfold maxLen; omega) (Nat.le_refl _) ?_; intro w4 hown4 hgrow4)
          obtain ⟨Y, hY⟩ : ∃ Y, Y = w3.heap.size := ⟨_, rfl⟩
          have hby : Bl w4 Y 40 40 (fun _ => 0) := by rw [hY]; exact Bl.of_owns hown4 (fun i hi => by rw [Nat.mul_one]; exact get_zeros hi)
          have hYw : w.heap.size ≤ Y := by rw [hY]; exact HB3.out.size
          have hXY : X ≠ Y := by have := HBX.out.lt; omega
          have HB4 := Lib.hid (HB3.out.grown hgrow4 HB3.out.size (fun x hx => by cases hx)); have HBY := Lib.hid hby
          have HBX4 := Lib.hid (HBX.out.kept (hgrow4.block X HBX.out.lt (by simp)))
          rw [← hY]
          clear hown4 hgrow4 hY hby
          go_wp2_with fail
          go_loopw [8] (fun kv wr => ∃ (i : Nat) (fx fy : Nat → Nat), i ≤ 40 ∧ kv = .int .i64 (i : Nat) ∧ Bl wr X 40 40 fx ∧ Pf.By fx ∧ Pf.Up fx 40 ∧ Bl wr Y 40 40 fy ∧ Pf.By fy ∧ Pf.Up fy 40 ∧ Below w.heap.size w wr) (fun kv _ => 40 - (intOf kv).toNat)
          case atStart => exact ⟨0, _, _, by omega, rfl, HBX4.out, fun _ => by show 0 < 256; omega, fun _ _ => rfl, HBY.out, fun _ => by show 0 < 256; omega, fun _ _ => rfl, HB4.out⟩
          case round =>
            obtain ⟨i, fx, fy, hi, rfl, hx, hx1, hx2, hy, hy1, hy2, hB⟩ := hrel
            obtain ⟨wi, rfl⟩ : ∃ wi : World, wi = wr := ⟨_, rfl⟩
            by_cases hin : i < 40
            · have i3 : (i : Int) < 40 := by omega
              obtain ⟨v1, hv1⟩ : ∃ v1 : Nat, v1 = (7 * i + 3) % 256 := ⟨_, rfl⟩
              obtain ⟨p, hpe⟩ : ∃ p, p = i * i := ⟨_, rfl⟩
              have hp : p ≤ 1600 := by rw [hpe]; exact Nat.le_trans (Nat.mul_le_mul (show i ≤ 40 by omega) (show i ≤ 40 by omega)) (by decide)
              obtain ⟨v2, hv2⟩ : ∃ v2 : Nat, v2 = p % 256 := ⟨_, rfl⟩
              have hmul : (i : Int) * (i : Int) = ((p : Nat) : Int) := by rw [hpe]; exact (Int.natCast_mul i i).symm
              have hconv1 : IntKind.u8.wrap (7 * (i : Int) + 3) = ((v1 : Nat) : Int) := by rw [hv1]; unfold IntKind.wrap; simp [IntKind.signed, IntKind.bits] <;> omega
              have hconv2 : IntKind.u8.wrap ((p : Nat) : Int) = ((v2 : Nat) : Int) := by rw [hv2]; unfold IntKind.wrap; simp [IntKind.signed, IntKind.bits]
              have c1 := hx.cell (i := i) hin
              have f1 := hx.free i
              have hx' := hx.set (j := i) hin v1
              have hy' := hy.kept (w' := wi.setCell ⟨X, i, none⟩ (.int .u8 (v1 : Nat))) (heap_setCell_other wi ⟨X, i, none⟩ Y _ (fun h => hXY h.symm))
              have c2 := hy'.cell (i := i) hin
              have f2 := hy'.free i
              have hy'' := hy'.set (j := i) hin v2
              have hx'' := hx'.kept (w' := (wi.setCell ⟨X, i, none⟩ (.int .u8 (v1 : Nat))).setCell ⟨Y, i, none⟩ (.int .u8 (v2 : Nat))) (heap_setCell_other _ ⟨Y, i, none⟩ X _ hXY)
              have HBf := Lib.hid ((hB.setCell (p := ⟨X, i, none⟩) hXw (.int .u8 (v1 : Nat))).setCell (p := ⟨Y, i, none⟩) hYw (.int .u8 (v2 : Nat)))
              have HXf := Lib.hid hx''; have HYf := Lib.hid hy''; have HX1 := Lib.hid hx1; have HX2 := Lib.hid hx2; have HY1 := Lib.hid hy1; have HY2 := Lib.hid hy2
              have hv1' : v1 < 256 := by omega
              have hv2' : v2 < 256 := by omega
              clear hx hx' hy hy' hx'' hy'' hB hx1 hx2 hy1 hy2 hv1 hv2 hpe
              go_wp2
              go_roundw
              case rel =>
                exact ⟨i + 1, _, _, by omega, by go_num, HXf.out, fun j => by show (if j = i then v1 else fx j) < 256; split; exact hv1'; exact HX1.out j, fun j hj => by show (if j = i then v1 else fx j) = 0; rw [if_neg (by omega)]; exact HX2.out j hj,
                  HYf.out, fun j => by show (if j = i then v2 else fy j) < 256; split; exact hv2'; exact HY1.out j, fun j hj => by show (if j = i then v2 else fy j) = 0; rw [if_neg (by omega)]; exact HY2.out j hj, HBf.out⟩
              case measure => simp [intOf]; omega
            · obtain rfl : i = 40 := by omega
              have SX := Lib.hid (hx.sl (Nat.le_refl _) (by unfold maxLen; omega) hx1 hx2); have SY := Lib.hid (hy.sl (Nat.le_refl _) (by unfold maxLen; omega) hy1 hy2); have HBw := Lib.hid hB
              clear hx hy hB hx1 hx2 hy1 hy2
              go_wp2_with fail
              refine (polyThrough_len _ _ 40 40 40 40 fx fy _ SX.out SY.out (by omega) (by omega)).mono ?_
              rintro e wa ⟨rfl, hBa⟩
              have SX1 := Lib.hid (SX.out.same hBa); have SY1 := Lib.hid (SY.out.same hBa); have HBa := Lib.hid (HBw.out.trans (hBa.mono HBw.out.size)); clear hBa
              go_wp2_with fail
              refine (polyThrough_len _ _ 39 40 40 40 _ fy _ (SX1.out.cutG (k := 39) (by omega)) SY1.out (by omega) (by omega)).mono ?_
              rintro e wb ⟨rfl, hBb⟩
              have SX2 := Lib.hid (SX1.out.same hBb); have SY2 := Lib.hid (SY1.out.same hBb); have HBb := Lib.hid (HBa.out.trans (hBb.mono HBa.out.size)); clear hBb SX SY SX1 SY1 HBw HBa
              have hnews : ∀ j u, (rowv (fun i => fx (1 + i)) 39)[j]? = some u → (wb.alloc (.cells #[] 5)).cell? ((⟨X, 1, none⟩ : Addr).add j) = some u := by
                intro j u hj
                have hj39 : j < 39 := by
                  have := (List.getElem?_eq_some_iff.1 hj).1
                  rwa [rowv_len] at this
                rw [rowv_get hj39] at hj
                rw [← hj, Addr.add_lit]
                have := (SX2.out.same (below_refl_alloc wb (.cells #[] 5))).cell ⟨X, 0, none⟩ rfl (1 + j) (by omega)
                rw [show (⟨X, 0, none⟩ : Addr).off + (1 + j) = 1 + j from Nat.zero_add _] at this
                exact this
              have HNEWS := Lib.hid hnews; clear hnews
              go_wp2_with (at_builtin; first
                | (refine wpList_append_bag_g _ (by rfl) _ _ 22 rfl wb.heap.size 5 i0 (.int .u8 0) 1 Try.underlying22 HI.out HZ0.out HZ1.out HZ2.out rfl (some ⟨wb.heap.size, 0, none⟩) 0 0 [] rfl (World.ownsRow_made wb #[] 0 (Nat.le_refl _) (by unfold maxLen; omega) rfl) ⟨X, 1, none⟩ 39 39 (rowv (fun i => fx (1 + i)) 39) rfl (rowv_len _ _) HNEWS.out (rowv_ones _ _) (by decide) (by unfold maxLen; omega) (by omega) (by simp) ?_; intro g1 cap1 w6 hown6 hc6 hlt6; have HOWN6 := Lib.hid hown6; have HL6 := Lib.hid (append_below (below_refl_alloc wb _) hown6 hc6); clear hown6 hc6 hlt6)
                | (refine wpList_append_bag_g _ (by rfl) _ _ 22 rfl wb.heap.size 5 i0 (.int .u8 0) 1 Try.underlying22 HI.out HZ0.out HZ1.out HZ2.out rfl (some ⟨g1, 0, none⟩) (0 + 39) cap1 ([] ++ rowv (fun i => fx (1 + i)) 39) rfl (HOWN6.out.alloc _) _ 1 1 [.int .u8 3] rfl rfl (cell_new1 _ _ _) (one_single _ _) (by decide) (by unfold maxLen; omega) (by omega) (by have := HL6.out.size; simp; omega) ?_; intro g2 cap2 w7 hown7 hc7 hlt7; have HOWN7 := Lib.hid hown7; have HL7 := Lib.hid (append_below (HL6.out.alloc HL6.out.size _) hown7 hc7); clear hown7 hc7 hlt7))
              have hs7 : ∃ f3, Sl w7 (some ⟨g2, 0, none⟩) 40 cap2 f3 := by
                obtain ⟨f3, hf3⟩ : ∃ f3 : Nat → Nat, f3 = fun i => if i < 39 then fx (1 + i) else if i = 39 then 3 else 0 := ⟨_, rfl⟩
                have e : [] ++ rowv (fun i => fx (1 + i)) 39 ++ [Value.int .u8 3] = rowv f3 40 := by
                  rw [List.nil_append, rowv_succ f3 39, rowv_congr (f := fun i => fx (1 + i)) (g := f3) (fun i hi => by rw [hf3]; show fx (1 + i) = if i < 39 then fx (1 + i) else _; rw [if_pos hi]), hf3]
                  rfl
                have h1 := HOWN7.out
                rw [e] at h1
                have h1 : w7.ownsRow wb.heap.size 5 1 (.slice (some ⟨g2, 0, none⟩) 40 cap2) 40 (rowv f3 40) := h1
                obtain ⟨_, _, e2, hN⟩ := owns_new h1 (fun i => by
                  rw [hf3]
                  show (if i < 39 then fx (1 + i) else if i = 39 then 3 else 0) < 256
                  split
                  · exact SX2.out.bytes _
                  · split <;> omega) (fun i hi => by
                  rw [hf3]
                  show (if i < 39 then fx (1 + i) else if i = 39 then 3 else 0) = 0
                  rw [if_neg (by omega), if_neg (by omega)])
                simp only [Value.slice.injEq, true_and] at e2
                obtain ⟨rfl, rfl⟩ := e2
                exact ⟨f3, hN.sl⟩
              obtain ⟨f3, hs7⟩ := hs7
              have S7 := Lib.hid hs7; have SY7 := Lib.hid (SY2.out.same HL7.out); have HB7 := Lib.hid (HBb.out.trans (HL7.out.mono HBb.out.size))
              clear hs7 HOWN7 HOWN6 HNEWS HL6 HL7 SX2 SY2
              refine (polyThrough_len _ _ 40 cap2 40 40 f3 fy _ S7.out SY7.out (by omega) (by omega)).mono ?_
              rintro e wc ⟨rfl, hBc⟩
              have HBc := Lib.hid (HB7.out.trans (hBc.mono HB7.out.size)); clear hBc S7 SY7
              have s1 := sl_lit wc [0, 1, 0] (by decide) (by decide)
              have s2 := sl_lit (wc.alloc (.cells #[.int .u8 0, .int .u8 1, .int .u8 0] 5)) [1, 2, 1] (by decide) (by decide)
              rw [World.size_alloc] at s2
              have S1 := Lib.hid (s1.same (below_refl_alloc _ (.cells #[.int .u8 1, .int .u8 2, .int .u8 1] 5))); have S2 := Lib.hid s2
              have hB8 := HBc.out.alloc HBc.out.size (.cells #[.int .u8 0, .int .u8 1, .int .u8 0] 5)
              have HB8 := Lib.hid (hB8.alloc hB8.size (.cells #[.int .u8 1, .int .u8 2, .int .u8 1] 5))
              clear s1 s2 hB8
              go_wp2_with fail
              refine (polyThrough_len _ _ 3 3 3 3 (Pf.lit [0, 1, 0]) (Pf.lit [1, 2, 1]) _ S1.out S2.out (by omega) (by omega)).mono ?_
              rintro e wd ⟨rfl, hBd⟩
              have HB9 := Lib.hid (HB8.out.trans (hBd.mono HB8.out.size)); clear hBd
              go_wp2_with fail
              refine (awake2_any _).mono ?_
              rintro e we ⟨rfl, hBe⟩
              have HB10 := Lib.hid (HB9.out.trans (hBe.mono HB9.out.size)); clear hBe
              go_wp2
              go_ret
              exact ⟨rfl, HB10.out⟩
end Go.Proofs.Ytmabdfcabpnabaa
