import Derived.Test.YtgflpfopiofjeaaJ5
namespace Go.Proofs.Ytgflpfopiofjeaa
open Go.RowKit Go.Shelf

/-- the rows i, 1. -/
def tallM (i j : Nat) : Nat := if j = 0 then i % 256 else if j = 1 then 1 else 0
theorem tallM_bm : Mt.Bm tallM := fun i j => by
  unfold tallM
  split
  · omega
  · split <;> omega
theorem tallM_up (i : Nat) : Pf.Up (tallM i) 2 := fun j hj => by
  unfold tallM
  rw [if_neg (by omega), if_neg (by omega)]
theorem tall_row (W : World) (i : Nat) : Bl (W.alloc (.cells #[.int .u8 ((i % 256 : Nat) : Int), .int .u8 1] 5)) W.heap.size 2 2 (tallM i) :=
  Bl.alloc W [.int .u8 ((i % 256 : Nat) : Int), .int .u8 1] (tallM i) (fun j hj => by
    have : j = 0 ∨ j = 1 := by simp at hj; omega
    rcases this with rfl | rfl <;> rfl)
/-- two rows of one byte. -/
theorem rd1 (w : World) (p q : Nat) (hp : p < 256) (hq : q < 256) :
    Rd (((w.alloc (.cells #[.int .u8 (p : Nat)] 5)).alloc (.cells #[.int .u8 (q : Nat)] 5)).alloc (.cells #[.slice (some ⟨w.heap.size, 0, none⟩) 1 1, .slice (some ⟨w.heap.size + 1, 0, none⟩) 1 1] 23))
      (some ⟨w.heap.size + 1 + 1, 0, none⟩) 2 2 (fun i => some ⟨w.heap.size + i, 0, none⟩) (fun _ => 1) (fun _ => 1) (matL [[p], [q]]) := by
  have b0 := ((Bl.alloc w [.int .u8 (p : Nat)] (matL [[p], [q]] 0) (fun i hi => by
    have : i = 0 := by simp at hi; omega
    rcases this with rfl; rfl)).allocd (.cells #[.int .u8 (q : Nat)] 5)).allocd (.cells #[.slice (some ⟨w.heap.size, 0, none⟩) 1 1, .slice (some ⟨w.heap.size + 1, 0, none⟩) 1 1] 23)
  have b1 := (Bl.alloc (w.alloc (.cells #[.int .u8 (p : Nat)] 5)) [.int .u8 (q : Nat)] (matL [[p], [q]] 1) (fun i hi => by
    have : i = 0 := by simp at hi; omega
    rcases this with rfl; rfl)).allocd (.cells #[.slice (some ⟨w.heap.size, 0, none⟩) 1 1, .slice (some ⟨w.heap.size + 1, 0, none⟩) 1 1] 23)
  rw [World.size_alloc] at b1
  have hb : Mt.Bm (matL [[p], [q]]) := fun i j => by
    unfold matL
    rcases i with _ | _ | i <;> rcases j with _ | j <;> simp <;> omega
  have hu : ∀ i, i < 2 → Pf.Up (matL [[p], [q]] i) 1 := fun i hi j hj => by
    unfold matL
    rcases (show i = 0 ∨ i = 1 by omega) with rfl | rfl <;> simp <;> (rcases j with _ | j <;> simp_all)
  refine ⟨Nat.le_refl _, by unfold maxLen; omega, hb, fun e => (by cases e), fun ad e _ => (by cases e; rfl), fun ad e i hi => ?_, fun i hi => ?_⟩
  · cases e
    have := World.cell?_alloc_new ((w.alloc (.cells #[.int .u8 (p : Nat)] 5)).alloc (.cells #[.int .u8 (q : Nat)] 5)) #[.slice (some ⟨w.heap.size, 0, none⟩) 1 1, .slice (some ⟨w.heap.size + 1, 0, none⟩) 1 1] 23 i
    rw [World.size_alloc, World.size_alloc] at this
    show World.cell? _ ⟨w.heap.size + 1 + 1, 0 + i, none⟩ = _
    rw [Nat.zero_add, this]
    rcases (show i = 0 ∨ i = 1 by omega) with rfl | rfl <;> rfl
  · rcases (show i = 0 ∨ i = 1 by omega) with rfl | rfl
    · exact b0.sl (Nat.le_refl _) (by unfold maxLen; simp) (hb 0) (hu 0 (by omega))
    · exact b1.sl (Nat.le_refl _) (by unfold maxLen; simp) (hb 1) (hu 1 (by omega))
/-- two blocks of zeroes, and their list. -/
theorem gr_two (w : World) (B n p q : Nat) (hn : n ≤ 1000000) (hB : B ≤ w.heap.size) (h : p = w.heap.size ∧ q = w.heap.size + 1 ∨ p = w.heap.size + 1 ∧ q = w.heap.size) :
    Gr (((w.alloc (.cells (madeCells #[.int .u8 0] n) 5)).alloc (.cells (madeCells #[.int .u8 0] n) 5)).alloc (.cells #[.slice (some ⟨p, 0, none⟩) n n, .slice (some ⟨q, 0, none⟩) n n] 23))
      B (w.heap.size + 1 + 1) 2 2 (fun i => if i = 0 then p else q) (fun _ => n) (fun _ => n) (fun _ _ => 0) := by
  have h0 := ((bl_made w n).allocd (.cells (madeCells #[.int .u8 0] n) 5)).allocd (.cells #[.slice (some ⟨p, 0, none⟩) n n, .slice (some ⟨q, 0, none⟩) n n] 23)
  have h1 := (bl_made (w.alloc (.cells (madeCells #[.int .u8 0] n) 5)) n).allocd (.cells #[.slice (some ⟨p, 0, none⟩) n n, .slice (some ⟨q, 0, none⟩) n n] 23)
  rw [World.size_alloc] at h1
  have hs : ((w.alloc (.cells (madeCells #[.int .u8 0] n) 5)).alloc (.cells (madeCells #[.int .u8 0] n) 5)).heap.size = w.heap.size + 1 + 1 := by rw [World.size_alloc, World.size_alloc]
  refine ⟨⟨_, hs ▸ heap_alloc_new _ _, rfl, fun i hi => ?_⟩, fun i hi => ?_, fun i hi => ⟨Nat.le_refl _, by unfold maxLen; omega⟩, ⟨Nat.le_refl _, by unfold maxLen; omega⟩, ⟨by omega, fun i hi => ?_⟩, fun i j hi hj e => ?_, fun _ _ => (by omega : 0 < 256), fun i hi => zero_up n⟩
  · rcases (show i = 0 ∨ i = 1 by omega) with rfl | rfl <;> rfl
  · rcases h with ⟨rfl, rfl⟩ | ⟨rfl, rfl⟩ <;> rcases (show i = 0 ∨ i = 1 by omega) with rfl | rfl <;> assumption
  · show B ≤ if i = 0 then p else q
    split <;> omega
  · have e' : (if i = 0 then p else q) = (if j = 0 then p else q) := e
    rcases (show i = 0 ∨ i = 1 by omega) with rfl | rfl <;> rcases (show j = 0 ∨ j = 1 by omega) with rfl | rfl <;> simp at e' <;> omega

theorem two_sl (W : World) : Sl (W.alloc (.cells #[.int .u8 3, .int .u8 4] 5)) (some ⟨W.heap.size, 0, none⟩) 2 2 (fun j => if j = 0 then 3 else if j = 1 then 4 else 0) :=
  (Bl.alloc W [.int .u8 3, .int .u8 4] (fun j => if j = 0 then 3 else if j = 1 then 4 else 0) (fun j hj => by
    have : j = 0 ∨ j = 1 := by simp at hj; omega
    rcases this with rfl | rfl <;> rfl)).sl (Nat.le_refl _) (by unfold maxLen; simp) (fun j => by
    show (if j = 0 then 3 else if j = 1 then 4 else 0) < 256
    split
    · omega
    · split <;> omega) (fun j hj => by
    have : 2 ≤ j := hj
    show (if j = 0 then 3 else if j = 1 then 4 else 0) = 0
    rw [if_neg (by omega), if_neg (by omega)])

set_option maxHeartbeats 4000000 in
set_option maxRecDepth 100000 in
theorem wide_any (w : World) :
    Calls Try.prog 28 #[] w fun e w' => e = .returned (.bool true) ∧ Below w.heap.size w w' := by
  have HB0 := Lib.hid (Below.refl w.heap.size w)
  go_enter Try.func28, Try.ntmps28
  go_wp2_with fail
  go_loopw [1] (fun i wr => ∃ n : Nat, n ≤ 258 ∧ 254 ≤ n ∧ i = .int .i64 n ∧ Below w.heap.size w wr) (fun i _ => 258 - (intOf i).toNat)
  case atStart => exact ⟨254, by omega, by omega, rfl, HB0.out⟩
  case round =>
    obtain ⟨n, hn, hn2, rfl, hB⟩ := hrel
    obtain ⟨wo, rfl⟩ : ∃ wo : World, wo = wr := ⟨_, rfl⟩
    have HB := Lib.hid hB; clear hB
    by_cases h258 : n < 258
    · have i1 : (n : Int) < 258 := by omega
      have hmk := hmkRows n (by omega)
      have hG0 := (gr_made wo wo.heap.size n (fun _ => 0) (fun _ => 2) (fun _ => 2) (by omega) (Nat.le_refl _)).congr tallM_bm (fun i j hi => absurd hi (Nat.not_lt_zero i))
      have HG0 := Lib.hid hG0
      have hbb := (Below.refl wo.heap.size wo).alloc (Nat.le_refl _) (.cells (madeCells #[.slice none 0 0] n) 23)
      have HBB := Lib.hid hbb
      clear hG0 hbb
      go_wp2_with fail
      clear hmk
      go_loopw [3] (fun i wx => ∃ (k : Nat) (b : Nat → Nat), k ≤ n ∧ i = .int .i64 k ∧ Gr wx wo.heap.size wo.heap.size k n b (fun _ => 2) (fun _ => 2) tallM ∧ Below wo.heap.size wo wx) (fun i _ => n - (intOf i).toNat)
      case atStart => exact ⟨0, fun _ => 0, by omega, rfl, HG0.out, HBB.out⟩
      case round =>
        obtain ⟨wx, rfl⟩ : ∃ wx : World, wx = wr := ⟨_, rfl⟩
        obtain ⟨k, b, hk, rfl, hG, hBx⟩ := hrel
        have HG := Lib.hid hG; have HX := Lib.hid hBx; clear hBx
        by_cases hkn : k < n
        · have j1 : (k : Int) < (n : Int) := by omega
          have hlt := hG.ltG
          obtain ⟨vs, k1, k2, k3⟩ := hG.blk
          obtain ⟨v1, hv1⟩ : ∃ v1 : Nat, v1 = k % 256 := ⟨_, rfl⟩
          have hconv : IntKind.u8.wrap ((k : Nat) : Int) = ((v1 : Nat) : Int) := by rw [hv1]; unfold IntKind.wrap; simp [IntKind.signed, IntKind.bits]
          have HV := Lib.hid hv1
          have hcell : ∃ v, (wx.alloc (.cells #[.int .u8 ((v1 : Nat) : Int), .int .u8 1] 5)).cell? ⟨wo.heap.size, k, none⟩ = some v := by
            refine ⟨vs[k]'(by omega), ?_⟩
            rw [World.cell?_alloc_lt _ _ _ (by simpa using hlt), cell_of_row wx _ k vs _ _ k1]
            simp [show k < vs.size by omega]
          have hfr : (wx.alloc (.cells #[.int .u8 ((v1 : Nat) : Int), .int .u8 1] 5)).frozen? ⟨wo.heap.size, k, none⟩ = false := (hG.same ((Below.refl _ _).alloc (Nat.le_refl _) _)).free k
          obtain ⟨v0, hcell⟩ := hcell
          clear hG hv1 k1 k2 k3
          go_wp2_with fail
          have hrow := tall_row wx k
          rw [← HV.out] at hrow
          have HR := Lib.hid hrow; clear hrow hconv hcell hfr
          go_roundw
          case rel => exact ⟨k + 1, _, by omega, by go_num, World.setCell_alloc_past (w := wx) _ _ k _ hlt ▸ (HG.out.same ((Below.refl _ _).alloc (Nat.le_refl _) _)).pushU hkn HR.out (by unfold maxLen; omega) HX.out.size (fun i hi e => by have := HG.out.ltb hi; omega) (tallM_bm k) (tallM_up k) tallM_bm (fun _ _ _ => rfl) (fun _ => rfl), (HX.out.setCell (p := ⟨wo.heap.size, k, none⟩) (Nat.le_refl _) _).alloc (by rw [World.size_setCell]; exact HX.out.size) _⟩
          case measure => simp [intOf]; omega
        · obtain rfl : k = n := by omega
          clear hG
          have hmk := hmk8 k (by omega)
          go_upto_region 9 with fail
          go_cut [4] from 22 to 54 (fun v wy => ∃ (L : Nat) (c : Nat → Nat), v = .slice (some ⟨L, 0, none⟩) 2 2 ∧ Gr wy wx.heap.size L 2 2 c (fun _ => k) (fun _ => k) (fun _ _ => 0) ∧ Below wx.heap.size wx wy)
          case first =>
            have hBt := below3 (w := wx) (.cells (madeCells #[.int .u8 0] k) 5) (.cells (madeCells #[.int .u8 0] k) 5)
            go_region
            · go_wp2_with fail
              go_meet
              exact ⟨_, _, rfl, (gr_two wx wx.heap.size k _ _ (by omega) (Nat.le_refl _) (Or.inl ⟨rfl, rfl⟩)).drewN 1, below_dr (hBt _) 1⟩
            · go_wp2_with fail
              go_meet
              exact ⟨_, _, rfl, (gr_two wx wx.heap.size k _ _ (by omega) (Nat.le_refl _) (Or.inr ⟨rfl, rfl⟩)).drewN 1, below_dr (hBt _) 1⟩
          case rest =>
            obtain ⟨L, c, rfl, hL, hBy⟩ := hcut
            obtain ⟨wy, rfl⟩ : ∃ wy : World, wy = wc := ⟨_, rfl⟩
            have HGy := Lib.hid (HG.out.same hBy); have HX2 := Lib.hid (HX.out.trans (hBy.mono HX.out.size)); have HLy := Lib.hid hL
            have cL := hL.cell (i := 1) (by omega)
            have cb := (hL.row 1 (by omega)).cell (i := k - 1) (by omega)
            have fb := (hL.row 1 (by omega)).free (k - 1)
            have j1 : (0 : Int) ≤ (k : Int) - 1 := by omega
            have j2 : (k : Int) - 1 < (k : Int) := by omega
            have j3 : ((k : Int) - 1).toNat = k - 1 := by omega
            have hxs := HX.out.size
            have hlt0 := HG.out.ltG
            have HLT := Lib.hid (fun i (hi : i < k) => HG.out.ltb hi)
            clear hL hBy HG HX
            go_upto_region 11 with fail
            clear cL cb fb j1 j2 j3
            have hS : Gr (wy.setCell ⟨c 1, k - 1, none⟩ (.int .u8 1)) wx.heap.size L 2 2 c (fun _ => k) (fun _ => k) _ := HLy.out.set (r := 1) (j := k - 1) (v := 1) (by omega) (by omega) (by omega)
            have hc1 := HLy.out.lo.2 1 (by omega)
            have hT : Gr (wy.setCell ⟨c 1, k - 1, none⟩ (.int .u8 1)) wo.heap.size wo.heap.size k k b (fun _ => 2) (fun _ => 2) tallM := HGy.out.kept (Below.heap_setCell wy ⟨c 1, k - 1, none⟩ _ _ (by show wo.heap.size ≠ c 1; omega)) (fun i hi => Below.heap_setCell wy ⟨c 1, k - 1, none⟩ _ _ (by have := HLT.out i hi; show b i ≠ c 1; omega))
            have hB3 : Below wo.heap.size wo (wy.setCell ⟨c 1, k - 1, none⟩ (.int .u8 1)) := HX2.out.setCell (p := ⟨c 1, k - 1, none⟩) (by show wo.heap.size ≤ c 1; omega) _
            generalize wy.setCell ⟨c 1, k - 1, none⟩ (.int .u8 1) = wz at hS hT hB3 ⊢
            have HS := Lib.hid hS; have HT := Lib.hid hT; have HB3 := Lib.hid hB3
            clear hS hT hB3 hc1 HLy HGy HX2 hxs hlt0 HLT
            have hA := ((below3 (w := wz) (.cells #[.int .u8 1] 5) (.cells #[.int .u8 2] 5) (.cells #[.slice (some ⟨wz.heap.size, 0, none⟩) 1 1, .slice (some ⟨wz.heap.size + 1, 0, none⟩) 1 1] 23)).alloc (by simp; omega) (.cells #[.int .u8 3, .int .u8 4] 5))
            have hL2 := (rd1 wz 1 2 (by omega) (by omega)).same ((Below.refl _ _).alloc (Nat.le_refl _) (.cells #[.int .u8 3, .int .u8 4] 5))
            have hv := two_sl (((wz.alloc (.cells #[.int .u8 1] 5)).alloc (.cells #[.int .u8 2] 5)).alloc (.cells #[.slice (some ⟨wz.heap.size, 0, none⟩) 1 1, .slice (some ⟨wz.heap.size + 1, 0, none⟩) 1 1] 23))
            rw [World.size_alloc, World.size_alloc, World.size_alloc] at hv
            have HA := Lib.hid hA; have HL2 := Lib.hid hL2; have HV := Lib.hid hv; clear hA hL2 hv
            go_wp2_with fail
            refine (rowsDo_any _ _ _ _ _ _ _ _ _ _ _ _ _ _ _ _ _ _ (k : Int) _ (HT.out.same HA.out).rd HL2.out HV.out (by omega) (by omega) (fun _ _ => by omega) (fun _ _ => by omega) (by omega)).mono ?_
            rintro e w1 ⟨rfl, hB⟩
            have HS1 := Lib.hid (HS.out.same (HA.out.trans (hB.mono HA.out.size))); have HT1 := Lib.hid (HT.out.same (HA.out.trans (hB.mono HA.out.size))); have HB1 := Lib.hid (HB3.out.trans ((HA.out.trans (hB.mono HA.out.size)).mono HB3.out.size))
            clear hB HA HL2 HV HS HT HB3
            go_wp2_with fail
            have hA1 := (Below.refl w1.heap.size w1).alloc (Nat.le_refl _) (.cells (madeCells #[.int .u8 0] k) 5)
            refine (rowsDo_any _ _ _ _ _ _ _ _ _ _ _ _ _ _ _ _ _ _ 0 _ (HS1.out.same hA1).rd (rd_none _) ((bl_made w1 k).sl (Nat.le_refl _) (by unfold maxLen; omega) zero_by (zero_up k)) (by omega) (by omega) (fun _ _ => by omega) (fun _ _ => by omega) (by omega)).mono ?_
            rintro e w2 ⟨rfl, hB⟩
            have HT2 := Lib.hid (HT1.out.same (hA1.trans (hB.mono hA1.size))); have HB2 := Lib.hid (HB1.out.trans ((hA1.trans (hB.mono hA1.size)).mono HB1.out.size))
            clear hB hA1 HS1 HT1 HB1 hmk
            by_cases h255 : k ≤ 255
            · have hd : decide ((k : Int) ≤ 255) = true := by simp; omega
              go_wp2_with fail
              refine (right_yes _ _ _ _ _ _ _ _ HT2.out.rd ⟨fun _ _ => rfl, h255, by show (if k = 0 then 0 else 2) ≤ 255; split <;> omega⟩).mono ?_
              rintro e w3 ⟨rfl, q, hq⟩
              have HQ := Lib.hid hq; clear hq
              go_wp2_with fail
              go_roundw
              case rel => exact ⟨k + 1, by omega, by omega, by go_num, by rw [HQ.out]; exact below_dr (HB.out.trans (HB2.out.mono HB.out.size)) q⟩
              case measure => simp [intOf]; omega
            · have hd : decide ((k : Int) ≤ 255) = false := by simp; omega
              go_wp2_with fail
              refine (right_no _ _ _ _ _ _ _ (by omega) _ HT2.out.rd (fun h => h255 h.2.1)).mono ?_
              rintro e w3 ⟨rfl, q, hq⟩
              have HQ := Lib.hid hq; clear hq
              go_wp2_with fail
              go_roundw
              case rel => exact ⟨k + 1, by omega, by omega, by go_num, by rw [HQ.out]; exact below_dr (HB.out.trans (HB2.out.mono HB.out.size)) q⟩
              case measure => simp [intOf]; omega
    · go_wp2
      go_ret
      exact ⟨rfl, HB.out⟩
end Go.Proofs.Ytgflpfopiofjeaa
