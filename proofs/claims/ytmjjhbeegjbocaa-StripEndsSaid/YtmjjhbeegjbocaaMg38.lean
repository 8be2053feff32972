import Derived.Test.YtmjjhbeegjbocaaMg28
import Derived.Test.YtmjjhbeegjbocaaMg37
namespace Go.Proofs.Ytmjjhbeegjbocaa.Sp
open Go.RowKit Go.Shelf
attribute [local go_sem] Oper.semAt_some

/-- the lengths, the thresholds about all ends. -/
def ends9 : List Int := [-9223372036854775808, -1, 0, 1, 2, 3, 7, 253, 254, 255, 256, 257, 65534, 65535, 65536, 9223372036854775807]
def HasE (w : World) (E : Nat) : Prop := w.heap[E]? = some (.cells (ends9.map (Value.int .i64)).toArray 3 (0, 0))
theorem HasE.same {w w' : World} {E : Nat} (h : HasE w E) (hB : Below w.heap.size w w') : HasE w' E := (hB.block E (Array.getElem?_eq_some_iff.1 h).1).trans h
theorem HasE.at_ {w : World} {E i : Nat} (h : HasE w E) (hi : i < 16) : ∃ z : Int, w.cell? ⟨E, i, none⟩ = some (.int .i64 z) := by
  have hl : ends9.length = 16 := rfl
  refine ⟨ends9[i]'(by omega), ?_⟩
  rw [cell_of_row w E i _ _ _ h, List.getElem?_toArray, List.getElem?_map, List.getElem?_eq_getElem (by omega)]; rfl
theorem sl_nil (w : World) : Sl w none 0 0 (fun _ => 0) :=
  ⟨Nat.le_refl _, by unfold maxLen; omega, fun _ => (by omega : 0 < 256), fun _ _ => rfl, fun _ => ⟨rfl, rfl⟩, fun _ e => (by cases e), fun _ e => (by cases e)⟩
theorem rd_nil (w : World) : Rd w none 0 0 (fun _ => none) (fun _ => 0) (fun _ => 0) (fun _ _ => 0) :=
  ⟨Nat.le_refl _, by unfold maxLen; omega, fun _ _ => (by omega : 0 < 256), fun _ => ⟨rfl, rfl⟩, fun _ e => (by cases e), fun _ e => (by cases e), fun i hi => absurd hi (Nat.not_lt_zero i)⟩

set_option maxHeartbeats 8000000 in
set_option maxRecDepth 100000 in
theorem stripEnds_any (w : World) :
    Calls Try.prog 4 #[] w fun e w' => e = .returned (.bool true) ∧ Below w.heap.size w w' := by
  obtain ⟨i0, hi', hz0', hz1', hz2'⟩ := info_parts Try.infoRow
  have HI := Lib.hid hi'; have HZ0 := Lib.hid hz0'; have HZ1 := Lib.hid hz1'; have HZ2 := Lib.hid hz2'
  clear hi' hz0' hz1' hz2'
  have HE0 := Lib.hid (show HasE (w.alloc (.cells (ends9.map (Value.int .i64)).toArray 3)) w.heap.size from heap_alloc_new _ _)
  have HB0 := Lib.hid ((Below.refl w.heap.size w).alloc (Nat.le_refl _) (.cells (ends9.map (Value.int .i64)).toArray 3))
  go_enter Try.func4, Try.ntmps4
  go_wp2_with fail
  go_loopw [2] (fun i wr => ∃ n : Nat, n ≤ 16 ∧ i = .int .i64 (n : Nat) ∧ HasE wr w.heap.size ∧ Below w.heap.size w wr) (fun i _ => 16 - (intOf i).toNat)
  case atStart => exact ⟨0, by omega, rfl, HE0.out, HB0.out⟩
  case round =>
    obtain ⟨n, hn, rfl, hE, hB⟩ := hrel
    obtain ⟨wo, rfl⟩ : ∃ wo : World, wo = wr := ⟨_, rfl⟩
    have HE := Lib.hid hE; have HB := Lib.hid hB; clear hE hB HE0 HB0
    by_cases hn16 : n < 16
    · have i1 : (n : Int) < 16 := by omega
      go_wp2_with fail
      go_loopw [3] (fun i wr => ∃ k : Nat, k ≤ 16 ∧ i = .int .i64 (k : Nat) ∧ HasE wr w.heap.size ∧ Below w.heap.size w wr) (fun i _ => 16 - (intOf i).toNat)
      case atStart => exact ⟨0, by omega, rfl, HE.out, HB.out⟩
      case round =>
        obtain ⟨k, hk, rfl, hE, hB⟩ := hrel
        obtain ⟨wi, rfl⟩ : ∃ wi : World, wi = wr := ⟨_, rfl⟩
        by_cases hk16 : k < 16
        · have i2 : (k : Int) < 16 := by omega
          obtain ⟨z1, q1⟩ := hE.at_ hn16
          obtain ⟨z2, q2⟩ := hE.at_ hk16
          have y1 := fun d os => cell_regrown q1 d os
          have y2 := fun d os => cell_regrown q2 d os
          have HE2 := Lib.hid hE; have HB2 := Lib.hid hB
          clear hE hB q1 q2
          go_wp2_with fail
          refine wp_region_quiet_below (by kernel_rfl) (by kernel_rfl) ?_
          repeat (go_big_quiet_step ((go_at_call 3; exact Calls.regrown_of (stripDoes_any none 0 0 (fun _ => 0) z2 none 0 0 (fun _ => none) (fun _ => 0) (fun _ => 0) (fun _ _ => 0) z1 (by omega) (by omega) (fun _ _ => by omega) _ (sl_nil _) (rd_nil _)))))
          refine wpQuiet_nil ?_
          rintro W1 ⟨pq, hW1⟩
          have hB1 : Below wi.heap.size wi W1 := by rw [hW1]; exact below_regrown _ _ _
          have HE3 := Lib.hid (HE2.out.same hB1); have HB3 := Lib.hid (HB2.out.trans (hB1.mono HB2.out.size))
          clear hW1 hB1 y1 y2
          go_wp2
          go_roundw
          case rel => exact ⟨k + 1, by omega, by go_num, HE3.out, HB3.out⟩
          case measure => simp [intOf]; omega
        · have i2 : ¬ (k : Int) < 16 := by omega
          have HE2 := Lib.hid hE; have HB2 := Lib.hid hB; clear hE hB
          go_wp2
          go_roundw
          case rel => exact ⟨n + 1, by omega, by go_num, HE2.out, HB2.out⟩
          case measure => simp [intOf]; omega
    · have i1 : ¬ (n : Int) < 16 := by omega
      go_wp2_with fail
      clear HE
      go_loopw [4] (fun i wr => ∃ n : Nat, n ≤ 5 ∧ i = .int .i64 (n : Nat) ∧ Below w.heap.size w wr) (fun i _ => 5 - (intOf i).toNat)
      case atStart => exact ⟨0, by omega, rfl, HB.out⟩
      case round =>
        obtain ⟨n, hn, rfl, hB⟩ := hrel
        obtain ⟨wo, rfl⟩ : ∃ wo : World, wo = wr := ⟨_, rfl⟩
        have HB := Lib.hid hB; clear hB
        by_cases hn5 : n < 5
        · have i1 : (n : Int) < 5 := by omega
          go_wp2_with fail
          go_loopw [5] (fun i wr => ∃ c : Nat, c ≤ 5 ∧ i = .int .i64 (c : Nat) ∧ Below w.heap.size w wr) (fun i _ => 5 - (intOf i).toNat)
          case atStart => exact ⟨0, by omega, rfl, HB.out⟩
          case round =>
            obtain ⟨c, hc, rfl, hB⟩ := hrel
            obtain ⟨wp, rfl⟩ : ∃ wp : World, wp = wr := ⟨_, rfl⟩
            have HB := Lib.hid hB; clear hB
            by_cases hc5 : c < 5
            · have i2 : (c : Int) < 5 := by omega
              go_wp2_with fail
              go_loopw [6, 7] (fun v i wr => ∃ (h : Nat) (pa : Option Addr) (pc : Nat) (b : Nat → Nat) (f : Nat → Nat → Nat), h ≤ n ∧ i = .int .i64 (h : Nat) ∧ v = .slice pa h pc ∧ Pr wr wp.heap.size pa h pc b (fun _ => c) (fun _ => c) f ∧ Below wp.heap.size wp wr) (fun _ i _ => n - (intOf i).toNat)
              case atStart => exact ⟨0, none, 0, fun _ => 0, fun _ _ => 0, by omega, rfl, rfl, pr_none _ _ _ _ _, Below.refl _ _⟩
              case round =>
                obtain ⟨h, pa, pc, b, f, hh, rfl, rfl, hP, hBx⟩ := hrel
                obtain ⟨wx, rfl⟩ : ∃ wx : World, wx = wr := ⟨_, rfl⟩
                have HP := Lib.hid hP; have HX := Lib.hid hBx; clear hP hBx
                by_cases hhr : h < n
                · have j1 : (h : Int) < (n : Int) := by omega
                  have hmk := hmk8 c (by omega)
                  have HBL := Lib.hid (bl_made wx c)
                  have HBB := Lib.hid ((Below.refl wx.heap.size wx).alloc (Nat.le_refl _) (.cells (madeCells #[.int .u8 0] c) 5))
                  go_wp2_with fail
                  clear hmk
                  go_loopw [9] (fun i wr => ∃ (m : Nat) (x : Nat → Nat), m ≤ c ∧ i = .int .i64 (m : Nat) ∧ Bl wr wx.heap.size c c x ∧ Pf.By x ∧ Pf.Up x c ∧ Below wx.heap.size wx wr) (fun i _ => c - (intOf i).toNat)
                  case atStart => exact ⟨0, fun _ => 0, by omega, rfl, HBL.out, fun _ => (by omega : 0 < 256), fun _ _ => rfl, HBB.out⟩
                  case round =>
                    obtain ⟨m, x, hm, rfl, hbl, hy, hu, hBy⟩ := hrel
                    obtain ⟨wy, rfl⟩ : ∃ wy : World, wy = wr := ⟨_, rfl⟩
                    have HBLm := Lib.hid hbl; have HY := Lib.hid hy; have HU := Lib.hid hu; have HBy := Lib.hid hBy; clear hy hu hBy
                    by_cases hmc : m < c
                    · have j2 : (m : Int) < (c : Int) := by omega
                      have cc := hbl.cell hmc
                      have fc := hbl.free m
                      clear hbl
                      go_wp2_with fail
                      have e9 : 9 * (h : Int) + (m : Int) + 1 = ((9 * h + m + 1 : Nat) : Int) := by omega
                      rw [e9]
                      refine ⟨⟨m + 1, _, by omega, by go_num, HBLm.out.set hmc (9 * h + m + 1), fun j => ?_, fun j hj => ?_, HBy.out.setCell (p := ⟨wx.heap.size, m, none⟩) (Nat.le_refl _) _⟩, by simp [intOf]; omega⟩
                      · show (if j = m then 9 * h + m + 1 else x j) < 256
                        split
                        · omega
                        · exact HY.out j
                      · show (if j = m then 9 * h + m + 1 else x j) = 0
                        rw [if_neg (by omega)]; exact HU.out j hj
                    · have j2 : ¬ (m : Int) < (c : Int) := by omega
                      have hw := HX.out.size
                      have hs2 := HBy.out.size
                      clear hbl
                      go_wp2_with ((show wpList _ _ _ (⟨some 67, _, _, _, _, _⟩ :: _) _ _; refine wpList_append_bag _ rfl (.tmp 64) (.tmp 66) 23 rfl wp.heap.size 22 i0 (.slice none 0 0) 24 Try.underlying23 HI.out HZ0.out HZ1.out HZ2.out rfl pa h pc ((List.range h).map fun i => Value.slice (some ⟨b i, 0, none⟩) c c) rfl (own_below (own_below HP.out.own HBy.out) ((Below.refl _ _).alloc (Nat.le_refl _) _)) ⟨wy.heap.size, 0, none⟩ 1 1 [.slice (some ⟨wx.heap.size, 0, none⟩) c c] rfl rfl (cell_new1 _ _ _) (fun u hu => by rw [List.mem_singleton.1 hu]; rfl) (by omega) (by unfold maxLen; omega) (by omega) (by simp; omega) ?_; intro g' cap' w2 hown hc' hlt; have HO := Lib.hid hown; have HC := Lib.hid hc'; clear hown hc' hlt))
                      have hb2 : Below wx.heap.size wx (wy.alloc (.cells #[.slice (some ⟨wx.heap.size, 0, none⟩) c c] 22)) := HBy.out.alloc hs2 _
                      have hst := HP.out.step hb2 (HBLm.out.kept (Below.heap_alloc _ _ _ HBLm.out.lt)) (Nat.le_refl _) hw ⟨Nat.le_refl _, by unfold maxLen; omega⟩ HY.out HU.out HO.out HC.out
                      have HST := Lib.hid (hst.congr (l' := fun _ => c) (c' := fun _ => c) (f' := _) (fun i _ => by split <;> rfl) (fun i _ => by split <;> rfl) hst.bm (fun _ _ _ => rfl))
                      have HB2 := Lib.hid (below_apn (HX.out.trans (hb2.mono hw)) (by have := hb2.size; omega) HC.out (fun g e => by subst e; exact (HP.out.own.lt g rfl).1))
                      clear hb2 hst
                      go_wp2_with fail
                      go_roundw
                      case rel => exact ⟨h + 1, _, _, _, _, by omega, by go_num, rfl, HST.out, HB2.out⟩
                      case measure => simp [intOf]; omega
                · obtain rfl : n = h := by omega
                  have j1 : ¬ (n : Int) < (n : Int) := by omega
                  have HA := Lib.hid HP.out.go; clear HP
                  have hTb : n * c ≤ 16 := Nat.le_trans (Nat.mul_le_mul (show n ≤ 4 by omega) (show c ≤ 4 by omega)) (by omega)
                  have hm2 : (n : Int) * (c : Int) = ((n * c : Nat) : Int) := by rw [Int.natCast_mul]
                  have hm1 : (n : Int) * ((c : Int) - 1) = ((n * c : Nat) : Int) - (n : Int) := by rw [Int.mul_sub, Int.mul_one, hm2]
                  generalize n * c = T at *
                  have HM2 := Lib.hid hm2
                  clear hm2
                  go_upto_region 26 with fail
                  go_wp2_with fail
                  clear hm1
                  go_loopw [10] (fun i wr => ∃ z : Int, i = .int .i64 z ∧ -10 ≤ z ∧ z ≤ 20 ∧ Go_ wr wp.heap.size pa n pc b (fun _ => c) (fun _ => c) f ∧ Below wp.heap.size wp wr) (fun i _ => (20 - intOf i).toNat)
                  case atStart => exact ⟨_, rfl, by omega, by omega, HA.out, HX.out⟩
                  case round =>
                    obtain ⟨z, rfl, hz1, hz2, hG, hBy⟩ := hrel
                    obtain ⟨wy, rfl⟩ : ∃ wy : World, wy = wr := ⟨_, rfl⟩
                    have HG := Lib.hid hG; have HY := Lib.hid hBy; clear hG hBy
                    have hm2 := HM2.out
                    by_cases hzt : z < (T : Int) + 3
                    · rcases (show z < 0 ∨ z = 0 ∨ 0 < z by omega) with hz | hz | hz
                      · have hmk : ∀ W : World, (Instr.makeSlice 22 (.int .i64 0) (.int .i64 0)).run Try.prog W = .ok (.slice (some ⟨W.heap.size, 0, none⟩) 0 0) (W.alloc (.cells (madeCells #[.int .u8 0] 0) 5)) := fun W => hmk8 0 (by omega) W
                        have hA1 := (Below.refl wy.heap.size wy).alloc (Nat.le_refl _) (.cells (madeCells #[.int .u8 0] 0) 5)
                        have HA1 := Lib.hid hA1
                        have hsl := (bl_made wy 0).sl (Nat.le_refl _) (by unfold maxLen; omega) (fun _ => (by omega : 0 < 256)) (fun _ _ => rfl)
                        have HSL := Lib.hid hsl
                        clear hA1 hsl
                        go_wp2_with fail
                        refine (stripDoes_any (some ⟨wy.heap.size, 0, none⟩) 0 0 (fun _ => 0) (n : Nat) pa n pc (fun i => some ⟨b i, 0, none⟩) (fun _ => c) (fun _ => c) f z (by omega) (by omega) (fun _ _ => by omega) _ HSL.out (HG.out.same HA1.out).rd).mono ?_
                        rintro e w5 ⟨rfl, hB⟩
                        have hall := HA1.out.trans (hB.mono HA1.out.size)
                        have HG5 := Lib.hid (HG.out.same hall); have HY5 := Lib.hid (HY.out.trans (hall.mono HY.out.size))
                        clear hB hall HSL HA1 hmk
                        go_wp2_with fail
                        go_roundw
                        case rel => exact ⟨_, rfl, by omega, by omega, HG5.out, HY5.out⟩
                        case measure => first | (simp [intOf]; done) | (simp [intOf]; omega)
                      · subst hz
                        have hmk : ∀ W : World, (Instr.makeSlice 22 (.int .i64 0) (.int .i64 0)).run Try.prog W = .ok (.slice (some ⟨W.heap.size, 0, none⟩) 0 0) (W.alloc (.cells (madeCells #[.int .u8 0] 0) 5)) := fun W => hmk8 0 (by omega) W
                        have hA1 := (Below.refl wy.heap.size wy).alloc (Nat.le_refl _) (.cells (madeCells #[.int .u8 0] 0) 5)
                        have HA1 := Lib.hid hA1
                        have hsl := (bl_made wy 0).sl (Nat.le_refl _) (by unfold maxLen; omega) (fun _ => (by omega : 0 < 256)) (fun _ _ => rfl)
                        have HSL := Lib.hid hsl
                        clear hA1 hsl
                        go_wp2_with fail
                        refine (stripDoes_any (some ⟨wy.heap.size, 0, none⟩) 0 0 (fun _ => 0) (n : Nat) pa n pc (fun i => some ⟨b i, 0, none⟩) (fun _ => c) (fun _ => c) f 0 (by omega) (by omega) (fun _ _ => by omega) _ HSL.out (HG.out.same HA1.out).rd).mono ?_
                        rintro e w5 ⟨rfl, hB⟩
                        have hall := HA1.out.trans (hB.mono HA1.out.size)
                        have HG5 := Lib.hid (HG.out.same hall); have HY5 := Lib.hid (HY.out.trans (hall.mono HY.out.size))
                        clear hB hall HSL HA1 hmk
                        go_wp2_with fail
                        go_roundw
                        case rel => exact ⟨_, rfl, by omega, by omega, HG5.out, HY5.out⟩
                        case measure => first | (simp [intOf]; done) | (simp [intOf]; omega)
                      · obtain ⟨M, rfl⟩ : ∃ M : Nat, z = (M : Int) := ⟨z.toNat, by omega⟩
                        have hmk := hmk8 M (by omega)
                        have hA1 := (Below.refl wy.heap.size wy).alloc (Nat.le_refl _) (.cells (madeCells #[.int .u8 0] M) 5)
                        have HA1 := Lib.hid hA1
                        have hsl := (bl_made wy M).sl (Nat.le_refl _) (by unfold maxLen; omega) (fun _ => (by omega : 0 < 256)) (fun _ _ => rfl)
                        have HSL := Lib.hid hsl
                        clear hA1 hsl
                        go_wp2_with fail
                        refine (stripDoes_any (some ⟨wy.heap.size, 0, none⟩) M M (fun _ => 0) (n : Nat) pa n pc (fun i => some ⟨b i, 0, none⟩) (fun _ => c) (fun _ => c) f (M : Nat) (by omega) (by omega) (fun _ _ => by omega) _ HSL.out (HG.out.same HA1.out).rd).mono ?_
                        rintro e w5 ⟨rfl, hB⟩
                        have hall := HA1.out.trans (hB.mono HA1.out.size)
                        have HG5 := Lib.hid (HG.out.same hall); have HY5 := Lib.hid (HY.out.trans (hall.mono HY.out.size))
                        clear hB hall HSL HA1 hmk
                        go_wp2_with fail
                        go_roundw
                        case rel => exact ⟨_, rfl, by omega, by omega, HG5.out, HY5.out⟩
                        case measure => first | (simp [intOf]; done) | (simp [intOf]; omega)
                    · have HBw := Lib.hid (HB.out.trans (HY.out.mono HB.out.size))
                      by_cases hn1 : 1 < n
                      · have g1 : (1 : Int) < (n : Int) := by omega
                        obtain ⟨G, rfl, hGr⟩ := HG.out.pos (by omega)
                        obtain ⟨t, ht⟩ : ∃ t : Nat, t = n - 1 := ⟨_, rfl⟩
                        have et : (n : Int) - 1 = ((t : Nat) : Int) := by omega
                        have htn : t < n := by omega
                        have cG := hGr.cell htn
                        have fG := hGr.free t
                        have hlo := hGr.lo.1
                        have hwp := HB.out.size
                        have hal := (Below.refl wy.heap.size wy).alloc (Nat.le_refl _) (.cells #[.int .u8 5] 5)
                        have hG2 := hGr.same hal
                        have HG2 := Lib.hid hG2
                        have hrow := hG2.row t htn
                        have HROW := Lib.hid hrow
                        have HNEW := Lib.hid (cell_new1 wy (.int .u8 ((5 : Nat) : Int)) 5)
                        have HT := Lib.hid ht
                        have HALs := Lib.hid hal
                        clear hGr hal hG2 hrow ht HG HX HA
                        go_wp2_with ((show wpList _ _ _ (⟨some 100, _, _, _, _, _⟩ :: _) _ _; refine wpList_append_full (o := ⟨some 100, _, _, _, _, _⟩) rfl (.tmp 98) (.tmp 99) rfl HROW.out rfl _ 1 5 rfl (by omega) HNEW.out ?_; intro g' cap' w3 q1 q2 q3 q4; have c3 := (HG2.out.grown q4 (by simp) (fun _ _ => by simp)).cell htn; have f3 := (HG2.out.grown q4 (by simp) (fun _ _ => by simp)).free t; have Q1 := Lib.hid q1; have Q2 := Lib.hid q2; have Q3 := Lib.hid q3; have Q4 := Lib.hid q4; clear q1 q2 q3 q4))
                        have h3 := HG2.out.grown Q4.out (by simp) (fun _ _ => by simp)
                        have hrd := h3.reput htn Q1.out Q2.out (fun i => by
                          show (if i = c then 5 else f t i) < 256
                          split
                          · omega
                          · exact HG2.out.bm t i) (fun i hi => by
                          show (if i = c then 5 else f t i) = 0
                          rw [if_neg (by omega)]; exact HG2.out.up t htn i (by show c ≤ i; omega))
                        have hb4 := ((HBw.out.alloc HBw.out.size (.cells #[.int .u8 5] 5)).grown Q4.out (by have := HBw.out.size; rw [World.size_alloc]; omega) (fun k e => by cases e)).setCell (p := ⟨G, t, none⟩) (by show w.heap.size ≤ G; omega) (.slice (some ⟨g', 0, none⟩) (c + 1) cap')
                        have hl5 := Bl.alloc (w3.setCell ⟨G, t, none⟩ (.slice (some ⟨g', 0, none⟩) (c + 1) cap')) ([1, 2, 3].map fun v => Value.int .u8 ((v : Nat) : Int)) (cut0 (lt [1, 2, 3]) 3) (fun i hi => by
                          rcases (show i = 0 ∨ i = 1 ∨ i = 2 by have : i < 3 := hi; omega) with rfl | rfl | rfl <;> rfl)
                        have hc4 : c % 4 ≤ 3 := by omega
                        have hS5 := ((hl5.less (m := c % 4) hc4).congr (h' := cut0 (lt [1, 2, 3]) (c % 4)) (fun i hi => by unfold cut0; rw [if_pos hi, if_pos (by omega)])).sl hc4 (by unfold maxLen; decide) (cut0_by (lt_by (by decide)) _) (cut0_up _ _)
                        have hA5 := (Below.refl _ (w3.setCell ⟨G, t, none⟩ (.slice (some ⟨g', 0, none⟩) (c + 1) cap'))).alloc (Nat.le_refl _) (.cells ([1, 2, 3].map fun v => Value.int .u8 ((v : Nat) : Int)).toArray 5)
                        have hrd5 := hrd.same hA5
                        have hB5 := hb4.trans (hA5.mono hb4.size)
                        rw [World.size_setCell] at hS5
                        have HB5 := Lib.hid hB5
                        clear h3 hrd hb4 hl5 hA5 hB5 c3 f3 cG fG
                        refine (stripDoes_any _ (c % 4) 3 _ (n : Nat) (some ⟨G, 0, none⟩) n pc _ _ _ _ (T : Nat) (by omega) (by omega) (fun i _ => by show (if i = t then c + 1 else c) ≤ 140737488355328; split <;> omega) _ hS5 hrd5).mono ?_
                        rintro e w6 ⟨rfl, hB⟩
                        have HB6 := Lib.hid (HB5.out.trans (hB.mono HB5.out.size))
                        clear hB hS5 hrd5 hm2
                        go_wp2_with fail
                        go_roundw
                        case rel => exact ⟨c + 1, by omega, by go_num, HB6.out⟩
                        case measure => simp [intOf]; omega
                      · have g1 : ¬ (1 : Int) < (n : Int) := by omega
                        go_wp2_with fail
                        go_roundw
                        case rel => exact ⟨c + 1, by omega, by go_num, HBw.out⟩
                        case measure => simp [intOf]; omega
            · have i2 : ¬ (c : Int) < 5 := by omega
              go_wp2_with fail
              go_roundw
              case rel => exact ⟨n + 1, by omega, by go_num, HB.out⟩
              case measure => simp [intOf]; omega
        · have i1 : ¬ (n : Int) < 5 := by omega
          go_wp2_with fail
          go_loopw [11] (fun i wr => ∃ m : Nat, 65534 ≤ m ∧ m ≤ 65538 ∧ i = .int .i64 (m : Nat) ∧ Below w.heap.size w wr) (fun i _ => 65538 - (intOf i).toNat)
          case atStart => exact ⟨65534, by omega, by omega, rfl, HB.out⟩
          case round =>
            obtain ⟨m, hm1, hm2, rfl, hB⟩ := hrel
            obtain ⟨wp, rfl⟩ : ∃ wp : World, wp = wr := ⟨_, rfl⟩
            have HB := Lib.hid hB; clear hB
            by_cases hm : m < 65538
            · have j1 : (m : Int) < 65538 := by omega
              have hmk := hmk8 m (by omega)
              have hA1 := (Below.refl wp.heap.size wp).alloc (Nat.le_refl _) (.cells (madeCells #[.int .u8 0] m) 5)
              have HA1 := Lib.hid hA1
              have HSL := Lib.hid ((bl_made wp m).sl (Nat.le_refl _) (by unfold maxLen; omega) (fun _ => (by omega : 0 < 256)) (fun _ _ => rfl))
              clear hA1
              go_wp2_with fail
              refine (stripDoes_any (some ⟨wp.heap.size, 0, none⟩) m m (fun _ => 0) 255 none 0 0 (fun _ => none) (fun _ => 0) (fun _ => 0) (fun _ _ => 0) 0 (by omega) (by omega) (fun _ _ => by omega) _ HSL.out (rd_nil _)).mono ?_
              rintro e w5 ⟨rfl, hB⟩
              have hall := HA1.out.trans (hB.mono HA1.out.size)
              have HB5 := Lib.hid (HB.out.trans (hall.mono HB.out.size))
              have hA2 := (Below.refl w5.heap.size w5).alloc (Nat.le_refl _) (.cells (madeCells #[.int .u8 0] m) 5)
              have HA2 := Lib.hid hA2
              have HSL2 := Lib.hid ((bl_made w5 m).sl (Nat.le_refl _) (by unfold maxLen; omega) (fun _ => (by omega : 0 < 256)) (fun _ _ => rfl))
              clear hB hall hA2 HSL HA1
              go_wp2_with fail
              refine (stripDoes_any (some ⟨w5.heap.size, 0, none⟩) m m (fun _ => 0) 1 none 0 0 (fun _ => none) (fun _ => 0) (fun _ => 0) (fun _ _ => 0) (m : Nat) (by omega) (by omega) (fun _ _ => by omega) _ HSL2.out (rd_nil _)).mono ?_
              rintro e w6 ⟨rfl, hB⟩
              have HB6 := Lib.hid (HB5.out.trans ((HA2.out.trans (hB.mono HA2.out.size)).mono HB5.out.size))
              clear hB HSL2 HA2 hmk
              go_wp2_with fail
              go_roundw
              case rel => exact ⟨m + 1, by omega, by omega, by go_num, HB6.out⟩
              case measure => simp [intOf]; omega
            · have j1 : ¬ (m : Int) < 65538 := by omega
              go_wp2_with fail
              refine (awake9_any _).mono ?_
              rintro e w5 ⟨rfl, hB⟩
              have HB5 := Lib.hid (HB.out.trans (hB.mono HB.out.size)); clear hB
              go_wp2
              go_ret
              exact ⟨rfl, HB5.out⟩
end Go.Proofs.Ytmjjhbeegjbocaa.Sp
