import Derived.RegionTactic
import Derived.Deep.DeepCutAuto
import Derived.BigRegion
import Derived.BigQuiet
import Derived.Test.YtjlmajopfeplpaaGreatMg2
import Derived.Test.YtjlmajopfeplpaaGreatMg7
namespace Go.Proofs.YtjlmajopfeplpaaGreat
open Go.RowKit Go.Shelf

set_option maxHeartbeats 4000000 in
set_option maxRecDepth 100000 in
theorem flatBytes_any (B L n cap : Nat) (a : Nat → Option Addr) (l c : Nat → Nat) (h : Nat → Nat → Nat) (w : World) (hb : Bag w B L n a l l c h) (hs : Sep a n) (hno : Not a n L) (hBL : B ≤ L) (hLw : L < w.heap.size) (_hc : n ≤ cap) (hn : n ≤ 3000) (hl : ∀ k, l k ≤ 1000000) :
    Calls Tryz.prog 71 #[.slice (some ⟨L, 0, none⟩) n cap] w fun e w' => e = .returned (.bool true) ∧ Bel B n a w w' := by
  have hBw : B ≤ w.heap.size := by omega
  have HBG := Lib.hid hb; have HS := Lib.hid hs; have HNO := Lib.hid hno; have HL := Lib.hid hl
  obtain ⟨i0, hi, hz0, hz1, hz2⟩ := info_parts Tryz.infoU8
  have HI := Lib.hid hi; have HZ0 := Lib.hid hz0; have HZ1 := Lib.hid hz1; have HZ2 := Lib.hid hz2
  obtain ⟨i1, hi', hz0', hz1', hz2'⟩ := info_parts (P := Tryz.prog) (e := 28) (z := .slice none 0 0) (size := 1) (bytes := 24) (by kernel_rfl)
  have HI' := Lib.hid hi'; have HZ0' := Lib.hid hz0'; have HZ1' := Lib.hid hz1'; have HZ2' := Lib.hid hz2'
  clear hi hz0 hz1 hz2 hi' hz0' hz1' hz2' hb hs hno hl
  go_enter Tryz.func71, Tryz.ntmps71
  go_wp2_with fail
  go_loopw [3] (fun k wr => ∃ k' : Nat, k' ≤ n ∧ k = .int .i64 (k' : Nat) ∧ Bag wr B L n a l l c (fun j i => if j < k' then mkN j i else h j i) ∧ Bel B n a w wr) (fun k _ => n - (intOf k).toNat)
  case atStart => exact ⟨0, by omega, rfl, HBG.out.congr fun k i _ _ => by rw [if_neg (by omega)], Bel.refl _ _ _ _⟩
  case round =>
    obtain ⟨k, hk, rfl, hb, hB⟩ := hrel
    obtain ⟨wo, rfl⟩ : ∃ wo : World, wo = wr := ⟨_, rfl⟩
    have HB1 := Lib.hid hB; have HG1 := Lib.hid hb
    have hsz := hB.size
    clear hb hB
    by_cases hkn : k < n
    · have j1 : (k : Int) < (n : Int) := by omega
      go_wp2_with fail
      go_loopw [4] (fun i wr => ∃ i' : Nat, i' ≤ l k ∧ i = .int .i64 (i' : Nat) ∧ Bag wr B L n a l l c (fun j x => if j < k ∨ j = k ∧ x < i' then mkN j x else h j x) ∧ Bel B n a w wr) (fun i _ => l k - (intOf i).toNat)
      case atStart => exact ⟨0, by omega, rfl, HG1.out.congr fun j i _ _ => by
        by_cases e : j < k
        · rw [if_pos e, if_pos (Or.inl e)]
        · rw [if_neg e, if_neg (by omega)], HB1.out⟩
      case round =>
        obtain ⟨i, hi, rfl, hb, hB⟩ := hrel
        obtain ⟨wi, rfl⟩ : ∃ wi : World, wi = wr := ⟨_, rfl⟩
        have hlk := HL.out k
        by_cases hil : i < l k
        · obtain ⟨g, e, c2, fr⟩ := hb.at_ hkn hil
          have cl := hb.lst k hkn
          rw [e] at cl
          have i1 : (i : Int) < (l k : Int) := by omega
          have hset := hb.set hkn e HS.out HNO.out (i := i) (mkN k i)
          have hgB := (hb.lt hkn (show blk (a k) = some g by rw [e]; rfl)).1
          have HST := Lib.hid hset; have HB2 := Lib.hid hB; have E := Lib.hid e
          clear hset hb hB e
          generalize hv : (if k < k ∨ k = k ∧ i < i then mkN k i else h k i) = v0 at c2
          clear hv
          go_wp2_with fail
          refine Rb.wp_region_quiet_tail 9 (by kernel_rfl) (by kernel_rfl) ?_
          simp only [List.take_succ_cons, List.take_zero, List.drop_succ_cons, List.drop_zero]
          repeat (go_big_quiet_step ((go_at_call 29; exact Calls.quiet_of_same (markN_any k i _ _ rfl rfl (by omega) (by omega) _))))
          refine wpQuiet_nil ?_
          rintro _ ⟨kk, rfl⟩
          go_wp2
          go_roundw
          case rel =>
            refine ⟨i + 1, by omega, by go_num, ?_, (HB2.out.drewN hBw kk).grownRow (grownSet _ _ _ _) hBw hkn (show blk (a k) = some g by rw [E.out]; rfl) hgB⟩
            have := (HST.out.grown0 (w' := (wi.setCell ⟨g, i, none⟩ (.int .u8 (mkN k i : Nat))).drewN kk) (grownBelow (below_drewN (Below.refl _ _) kk) none)).congr (h' := fun j x => if j < k ∨ j = k ∧ x < i + 1 then mkN j x else h j x) fun j x _ _ => by
              by_cases e1 : j = k ∧ x = i
              · rw [if_pos e1, if_pos (by omega), e1.1, e1.2]
              · rw [if_neg e1]
                by_cases e2 : j < k ∨ j = k ∧ x < i
                · rw [if_pos e2, if_pos (by omega)]
                · rw [if_neg e2, if_neg (by omega)]
            exact this
          case measure => simp [intOf]; omega
        · obtain rfl : i = l k := by omega
          have cl := hb.lst k hkn
          have i1 : ¬ (l k : Int) < (l k : Int) := by omega
          have HG2 := Lib.hid (hb.congr (h' := fun j x => if j < k + 1 then mkN j x else h j x) fun j x _ hx => by
            by_cases e2 : j < k ∨ j = k ∧ x < l k
            · rw [if_pos e2, if_pos (by omega)]
            · rw [if_neg e2, if_neg (fun e => e2 (by rcases Nat.lt_or_ge j k with h | h; exact Or.inl h; obtain rfl : j = k := (by omega); exact Or.inr ⟨rfl, hx⟩))])
          have HB2 := Lib.hid hB
          clear hb hB
          go_wp2
          go_roundw
          case rel => exact ⟨k + 1, by omega, by go_num, HG2.out, HB2.out⟩
          case measure => simp [intOf]; omega
    · obtain rfl : n = k := by omega
      have HG2 := Lib.hid (HG1.out.congr (h' := mkN) fun j i hj _ => by rw [if_pos hj])
      clear HG1 HBG
      have j1 : ¬ (n : Int) < (n : Int) := by omega
      have hltG := fun j g (hj : j < n) (e : blk (a j) = some g) => (HG2.out.lt hj e).2
      have HLT := Lib.hid hltG; clear hltG
      have hLo : L < wo.heap.size := Nat.lt_of_lt_of_le hLw hsz
      go_wp2_with (at_make; refine wpList_make_full _ rfl _ _ _ rfl B 28 i1 (.slice none 0 0) 1 Tryz.underlying43 HI'.out HZ0'.out HZ1'.out .i64 .i64 _ _ n rfl rfl rfl rfl (by rw [HZ2'.out]; omega) (by unfold maxLen; omega) (by omega) ?_; intro w3 hown hgrow)
      obtain ⟨G, hG⟩ : ∃ G, G = wo.heap.size := ⟨_, rfl⟩
      rw [← hG] at hown HLT hLo ⊢
      have hgb : Gb w3 G n := by
        rcases hown.2 with ⟨h, _⟩ | ⟨g', cap', cur, h, _, hg, _, _, hs, _⟩
        · cases h
        · simp only [Value.slice.injEq, Option.some.injEq, Addr.mk.injEq, and_true, true_and] at h
          obtain ⟨rfl, rfl⟩ := h
          exact ⟨cur, hg, by simpa using hs⟩
      have HG3 := Lib.hid (HG2.out.grown0 hgrow); have HB3 := Lib.hid (HB1.out.grown0 hgrow hBw); have HGB := Lib.hid hgb
      have hnoG : Not a n G := fun j hj e => by have := HLT.out j G hj e; omega
      have HNG := Lib.hid hnoG
      have hBG : B ≤ G := by omega
      have hwG : w.heap.size ≤ G := by rw [hG]; exact hsz
      have hsG := hgb.lt
      clear hG hown hgrow hgb hnoG HG2
      go_loopw [6] (fun kv wr => ∃ (k' : Nat) (hf : Nat → Option Addr) (df : Nat → Nat), k' ≤ n ∧ kv = .int .i64 (k' : Nat) ∧ Bag wr B L n a l l c mkN ∧ Bag wr B G k' hf (fun j => l j + 64) (fun j => l j + 64) df mkN ∧ Gb wr G n ∧ Not hf k' G ∧ (∀ j i, j < k' → i < n → j ≠ i → blk (hf j) ≠ none → blk (hf j) ≠ blk (a i)) ∧ Bel B n a w wr) (fun kv _ => n - (intOf kv).toNat)
      case atStart => exact ⟨0, fun _ => none, fun _ => 0, by omega, rfl, HG3.out, ⟨fun k hk => by omega, fun k hk => by omega⟩, HGB.out, fun k hk => by omega, fun j i hj => by omega, HB3.out⟩
      case round =>
        obtain ⟨k, hf, df, hk, rfl, hb, hb2, gb, hng, hsh, hB⟩ := hrel
        obtain ⟨wq, rfl⟩ : ∃ wq : World, wq = wr := ⟨_, rfl⟩
        have HBL := Lib.hid hb; have HBGk := Lib.hid hb2; have HGBk := Lib.hid gb; have HB4 := Lib.hid hB; have HNH := Lib.hid hng; have HSH := Lib.hid hsh
        have hs4 := hB.size
        clear hb hb2 gb hng hsh hB
        by_cases hkn : k < n
        · have j2 : (k : Int) < (n : Int) := by omega
          have cl := HBL.out.lst k hkn
          have fx : Fix4 w wq B L G n k a hf := ⟨hkn, HS.out, HNO.out, HNG.out, HNH.out, HSH.out, fun j g hj e => (HBL.out.lt hj e).2, fun j g hj e => (HBGk.out.lt hj e).2, by omega, HGBk.out.lt, hBL, hBG, by omega, hBw, hs4, hwG⟩
          have FX := Lib.hid fx; clear fx
          have hlk := HL.out k
          go_wp2_with fail
          go_loopw [7, 8] (fun gv i wr => ∃ (i' : Nat) (gA : Option Addr) (gC : Nat), i' ≤ 64 ∧ i = .int .i64 (i' : Nat) ∧ gv = .slice gA (l k + i') gC ∧ St4 wq wr B L G n k i' a l c hf df gA gC ∧ Bel B n a w wr) (fun _ i _ => 64 - (intOf i).toNat)
          case atStart => exact ⟨0, a k, c k, by omega, rfl, rfl, ⟨HBL.out.own k hkn, Or.inl ⟨rfl, rfl⟩, HBL.out, HBGk.out, HGBk.out, Nat.le_refl _⟩, HB4.out⟩
          case round =>
            obtain ⟨i, gA, gC, hi, rfl, rfl, hst, hB⟩ := hrel
            obtain ⟨wi, rfl⟩ : ∃ wi : World, wi = wr := ⟨_, rfl⟩
            have cli := hst.bl.lst k hkn
            have ST := Lib.hid hst; have HBi := Lib.hid hB
            have hsi := hst.sz
            by_cases hi64 : i < 64
            · have i2 : (i : Int) < 64 := by omega
              clear hst hB
              go_wp2_with fail
              refine (markN_any k (l k + i) _ _ rfl (by omega) (by omega) (by omega) _).mono ?_
              rintro e w' ⟨rfl, rfl⟩
              go_wp2_with (at_builtin; refine wpList_append_bag _ rfl _ _ 28 rfl B 5 i0 (.int .u8 0) 1 Tryz.underlying28 HI.out HZ0.out HZ1.out HZ2.out rfl gA (l k + i) gC (rowv (mkN k) (l k + i)) rfl (ST.out.own.alloc _) _ 1 1 [.int .u8 (mkN k (l k + i) : Nat)] rfl rfl (cell_new1 _ _ _) (one_single _ _) (by decide) (by unfold maxLen; omega) (by omega) (by simp; omega) ?_; intro g cap' w6 hown6 hc6 hlt6; have HOWN6 := Lib.hid hown6; have HC6 := Lib.hid hc6; clear hown6 hc6 hlt6)
              have hstep := ST.out.step FX.out HBi.out HOWN6.out HC6.out
              have HSTEP := Lib.hid hstep; clear hstep HOWN6 HC6
              go_wp2
              go_roundw
              case rel => exact ⟨i + 1, _, cap', by omega, by go_num, rfl, HSTEP.out.1, HSTEP.out.2⟩
              case measure => simp [intOf]; omega
            · obtain rfl : i = 64 := by omega
              obtain ⟨v0, cg⟩ := hst.gb.cell hkn
              have fg := hst.gb.free k
              have HOUT := Lib.hid (hst.out FX.out hB)
              clear hst hB
              go_wp2
              go_roundw
              case rel =>
                obtain ⟨hf', df', h1, h2, h3, h4, h5, h6⟩ := HOUT.out
                exact ⟨k + 1, hf', df', by omega, by go_num, h1, h2, h3, h4, h5, h6⟩
              case measure => simp [intOf]; omega
        · obtain rfl : n = k := by omega
          have j2 : ¬ (n : Int) < (n : Int) := by omega
          go_wp2_with fail
          go_loopw [9] (fun kv wr => ∃ k' : Nat, k' ≤ n ∧ kv = .int .i64 (k' : Nat) ∧ ∃ q, wr = wq.drewN q) (fun kv _ => n - (intOf kv).toNat)
          case atStart => exact ⟨0, by omega, rfl, 0, rfl⟩
          case round =>
            obtain ⟨k, hk, rfl, q, rfl⟩ := hrel
            by_cases hkn : k < n
            · have j3 : (k : Int) < (n : Int) := by omega
              have clg : wq.cell? ⟨G, k, none⟩ = some (.slice (hf k) (l k + 64) (df k)) := HBGk.out.lst k hkn
              have hlk := HL.out k
              have CLG := Lib.hid clg; clear clg
              go_wp2_with fail
              go_loopw [10] (fun i wr => ∃ i' : Nat, i' ≤ l k + 64 ∧ i = .int .i64 (i' : Nat) ∧ ∃ q, wr = wq.drewN q) (fun i _ => l k + 64 - (intOf i).toNat)
              case atStart => exact ⟨0, by omega, rfl, q, rfl⟩
              case round =>
                obtain ⟨i, hi, rfl, q2, hq⟩ := hrel
                have hD := below_drewN (Below.refl wq.heap.size wq) q2
                rw [← hq] at hD
                have HBLr := Lib.hid (HBL.out.below hD); have HBGr := Lib.hid (HBGk.out.below hD); have HQ := Lib.hid hq
                have clg : wr.cell? ⟨G, k, none⟩ = some (.slice (hf k) (l k + 64) (df k)) := HBGr.out.lst k hkn
                clear hD hq
                by_cases hil : i < l k + 64
                · obtain ⟨g2, e2, c2, _⟩ := HBGr.out.at_ hkn (i := i) hil
                  rw [e2] at clg
                  have i3 : (i : Int) < ((l k + 64 : Nat) : Int) := by omega
                  have i4 : (i : Int) < (l k : Int) + 64 := by omega
                  have hmk : ∀ wx, Calls Tryz.prog 29 #[.int .i64 (k : Nat), .int .i64 (i : Nat)] wx fun e w' => e = .returned (.int .u8 (mkN k i : Nat)) ∧ w' = wx := fun wx => markN_any k i _ _ rfl rfl (by omega) (by omega) wx
                  have HMK := Lib.hid hmk; clear hmk
                  have gmk : (((mkN k i : Nat) : Int) == ((mkN k i : Nat) : Int)) = true := by simp
                  by_cases hl1 : i < l k
                  · obtain ⟨g1, e1, c1, _⟩ := HBLr.out.at_ hkn hl1
                    have cl := HBLr.out.lst k hkn
                    rw [e1] at cl
                    have i5 : (i : Int) < (l k : Int) := by omega
                    have d1 : decide ((i : Int) < (l k : Int)) = true := by simp; omega
                    have d2 : decide (i < l k) = true := by simp; omega
                    clear e1 e2
                    go_wp2_with fail
                    go_quiet ((go_at_call 29; exact Calls.quiet_of_same (HMK.out _)))
                    go_wp2
                    go_roundw
                    case rel => exact ⟨i + 1, by omega, by go_num, q2 + nq, by rw [HQ.out, World.drewN_drewN]⟩
                    case measure => simp [intOf]; omega
                  · have cl := HBLr.out.lst k hkn
                    have d1 : decide ((i : Int) < (l k : Int)) = false := by simp; omega
                    have d2 : decide (i < l k) = false := by simp; omega
                    clear e2
                    go_wp2_with fail
                    go_quiet ((go_at_call 29; exact Calls.quiet_of_same (HMK.out _)))
                    go_wp2
                    go_roundw
                    case rel => exact ⟨i + 1, by omega, by go_num, q2 + nq, by rw [HQ.out, World.drewN_drewN]⟩
                    case measure => simp [intOf]; omega
                · obtain rfl : i = l k + 64 := by omega
                  have i3 : ¬ ((l k + 64 : Nat) : Int) < ((l k + 64 : Nat) : Int) := by omega
                  go_wp2
                  go_roundw
                  case rel => exact ⟨k + 1, by omega, by go_num, q2, HQ.out⟩
                  case measure => simp [intOf]; omega
            · obtain rfl : n = k := by omega
              have j3 : ¬ (n : Int) < (n : Int) := by omega
              go_wp2_with fail
              have hD := below_drewN (Below.refl wq.heap.size wq) q
              obtain ⟨wp, hwp⟩ : ∃ wp, wp = wq.drewN q := ⟨_, rfl⟩
              rw [← hwp] at hD ⊢
              have HBLp := Lib.hid (HBL.out.below hD)
              have hF0 : Fin5 w wp B L G n 0 a l c (fun _ => none) (fun _ => 0) := ⟨HBLp.out, ⟨fun k hk => by omega, fun k hk => by omega⟩, HGBk.out.grown (grownBelow hD none) (by simp), fun k hk => by omega, fun j i hj => by omega, HB4.out.grown0 (grownBelow hD none) hBw⟩
              have HF0 := Lib.hid hF0
              clear hwp hD hF0 HBGk HGBk HNH HSH HBL HB4 HBLp
              go_loopw [11] (fun kv wr => ∃ (k' : Nat) (hf : Nat → Option Addr) (df : Nat → Nat), k' ≤ n ∧ kv = .int .i64 (k' : Nat) ∧ Fin5 w wr B L G n k' a l c hf df) (fun kv _ => n - (intOf kv).toNat)
              case atStart => exact ⟨0, _, _, by omega, rfl, HF0.out⟩
              case round =>
                obtain ⟨k, hf, df, hk, rfl, hF⟩ := hrel
                obtain ⟨wq, rfl⟩ : ∃ wq : World, wq = wr := ⟨_, rfl⟩
                have HF := Lib.hid hF
                have hs5 := hF.be.size
                clear hF
                by_cases hkn : k < n
                · have j4 : (k : Int) < (n : Int) := by omega
                  have hlk := HL.out k
                  have fx : Fix4 w wq B L G n k a hf := ⟨hkn, HS.out, HNO.out, HNG.out, HF.out.ng, HF.out.sh, fun j g hj e => (HF.out.bl.lt hj e).2, fun j g hj e => (HF.out.bg.lt hj e).2, by omega, HF.out.gb.lt, hBL, hBG, by omega, hBw, hs5, hwG⟩
                  have FX := Lib.hid fx; clear fx
                  go_wp2_with (at_make; refine wpList_make_full _ rfl _ _ _ rfl B 5 i0 (.int .u8 0) 1 Tryz.underlying28 HI.out HZ0.out HZ1.out .i64 .i64 _ _ 64 rfl rfl rfl rfl (by rw [HZ2.out]; omega) (by unfold maxLen; omega) (by omega) ?_; intro w7 hown7 hgrow7; have HOWN7 := Lib.hid hown7; have HGROW7 := Lib.hid hgrow7; clear hown7 hgrow7)
                  have hm0 : w7.ownsRow B 5 1 (.slice (some ⟨wq.heap.size, 0, none⟩) 64 64) 64 (rowv (fun _ => 0) 64) := by
                    have := HOWN7.out
                    rwa [show (madeCells (Value.int .u8 0).cells (64 * 1)).toList = rowv (fun _ => 0) 64 by rw [show (Value.int .u8 0).cells = #[Value.int .u8 0] from rfl, toList_madeCells_one]; rfl] at this
                  obtain ⟨M, hM⟩ : ∃ M, M = wq.heap.size := ⟨_, rfl⟩
                  rw [← hM] at hm0 ⊢
                  have HF7 := Lib.hid (HF.out.grown0 HGROW7.out hBw); have HM0 := Lib.hid hm0
                  have hs7 := HGROW7.out.size
                  have HMM := Lib.hid hM
                  clear hm0 HOWN7 HGROW7 hM
                  go_loopw [13] (fun iv wr => ∃ (i' : Nat) (hM : Nat → Nat), i' ≤ 64 ∧ iv = .int .i64 (i' : Nat) ∧ wr.ownsRow B 5 1 (.slice (some ⟨M, 0, none⟩) 64 64) 64 (rowv hM 64) ∧ Fin5 w wr B L G n k a l c hf df ∧ wq.heap.size ≤ wr.heap.size) (fun iv _ => 64 - (intOf iv).toNat)
                  case atStart => exact ⟨0, _, by omega, rfl, HM0.out, HF7.out, hs7⟩
                  case round =>
                    obtain ⟨i, hM, hi, rfl, ho, hF, hs8⟩ := hrel
                    obtain ⟨wi, rfl⟩ : ∃ wi : World, wi = wr := ⟨_, rfl⟩
                    have HO := Lib.hid ho; have HFi := Lib.hid hF
                    by_cases hi64 : i < 64
                    · have i6 : (i : Int) < 64 := by omega
                      have c1 := ho.cellAt i (by omega)
                      rw [rowv_get hi64] at c1
                      have c2 := ho.frozenAt i
                      have hst := (ho.stored i (.int .u8 (mkN (n + k) i : Nat))).1
                      rw [rowv_set] at hst
                      have HST := Lib.hid hst
                      clear ho hF hst
                      go_wp2_with fail
                      refine (markN_any (n + k) i _ _ (by omega) rfl (by omega) (by omega) _).mono ?_
                      rintro e w' ⟨rfl, rfl⟩
                      go_wp2
                      go_roundw
                      case rel => exact ⟨i + 1, _, by omega, by go_num, HST.out, HFi.out.setM FX.out (by rw [HMM.out]; exact Nat.le_refl _) i _, by rw [World.size_setCell]; exact hs8⟩
                      case measure => simp [intOf]; omega
                    · obtain rfl : i = 64 := by omega
                      have cl := HFi.out.bl.lst k hkn
                      have hsB := HFi.out.be.size
                      clear ho hF
                      go_wp2_with (at_builtin; refine wpList_append_bag _ rfl _ _ 28 rfl B 5 i0 (.int .u8 0) 1 Tryz.underlying28 HI.out HZ0.out HZ1.out HZ2.out rfl (a k) (l k) (c k) (rowv (mkN k) (l k)) rfl (HFi.out.bl.own k hkn) ⟨M, 0, none⟩ 64 64 (rowv hM 64) rfl (rowv_len _ _) (HO.out.cells rfl) (rowv_ones _ _) (by decide) (by unfold maxLen; omega) (by omega) (by omega) ?_; intro g cap' w6 hown6 hc6 hlt6; have hap := HFi.out.app FX.out hs8 hown6 hc6; have HAP := Lib.hid hap; obtain ⟨v0, cg⟩ := hap.1.cell hkn; have fg := hap.1.free k; clear hap hown6 hc6 hlt6)
                      go_roundw
                      case rel =>
                        obtain ⟨_, hf', df', h6⟩ := HAP.out
                        exact ⟨k + 1, hf', df', by omega, by go_num, h6⟩
                      case measure => simp [intOf]; omega
                · obtain rfl : n = k := by omega
                  have j4 : ¬ (n : Int) < (n : Int) := by omega
                  go_wp2_with fail
                  go_loopw [14] (fun kv wr => ∃ k' : Nat, k' ≤ n ∧ kv = .int .i64 (k' : Nat) ∧ ∃ q, wr = wq.drewN q) (fun kv _ => n - (intOf kv).toNat)
                  case atStart => exact ⟨0, by omega, rfl, 0, rfl⟩
                  case round =>
                    obtain ⟨k, hk, rfl, q, rfl⟩ := hrel
                    by_cases hkn : k < n
                    · have j3 : (k : Int) < (n : Int) := by omega
                      have hlk := HL.out k
                      have cl0 := HF.out.bl.lst k hkn
                      go_wp2_with fail
                      go_loopw [15] (fun i wr => ∃ i' : Nat, i' ≤ l k ∧ i = .int .i64 (i' : Nat) ∧ ∃ q, wr = wq.drewN q) (fun i _ => l k - (intOf i).toNat)
                      case atStart => exact ⟨0, by omega, rfl, q, rfl⟩
                      case round =>
                        obtain ⟨i, hi, rfl, q2, hq⟩ := hrel
                        have hD := below_drewN (Below.refl wq.heap.size wq) q2
                        rw [← hq] at hD
                        have HBLr := Lib.hid (HF.out.bl.below hD); have HBGr := Lib.hid (HF.out.bg.below hD); have HQ := Lib.hid hq
                        have clg : wr.cell? ⟨G, k, none⟩ = some (.slice (hf k) (l k + 64) (df k)) := HBGr.out.lst k hkn
                        have cl := HBLr.out.lst k hkn
                        clear hD hq
                        by_cases hil : i < l k
                        · obtain ⟨g2, e2, c2, _⟩ := HBGr.out.at_ hkn (i := i) hil
                          rw [e2] at clg
                          obtain ⟨g1, e1, c1, _⟩ := HBLr.out.at_ hkn hil
                          rw [e1] at cl
                          have i3 : (i : Int) < ((l k + 64 : Nat) : Int) := by omega
                          have i4 : (i : Int) < (l k : Int) + 64 := by omega
                          have i5 : (i : Int) < (l k : Int) := by omega
                          have hmk : ∀ wx, Calls Tryz.prog 29 #[.int .i64 (k : Nat), .int .i64 (i : Nat)] wx fun e w' => e = .returned (.int .u8 (mkN k i : Nat)) ∧ w' = wx := fun wx => markN_any k i _ _ rfl rfl (by omega) (by omega) wx
                          have HMK := Lib.hid hmk; clear hmk
                          have gmk : (((mkN k i : Nat) : Int) == ((mkN k i : Nat) : Int)) = true := by simp
                          clear e1 e2
                          go_wp2_with fail
                          go_quiet ((go_at_call 29; exact Calls.quiet_of_same (HMK.out _)))
                          go_wp2
                          go_roundw
                          case rel => exact ⟨i + 1, by omega, by go_num, q2 + nq, by rw [HQ.out, World.drewN_drewN]⟩
                          case measure => simp [intOf]; omega
                        · obtain rfl : i = l k := by omega
                          have i3 : ¬ (l k : Int) < (l k : Int) := by omega
                          go_wp2
                          go_roundw
                          case rel => exact ⟨k + 1, by omega, by go_num, q2, HQ.out⟩
                          case measure => simp [intOf]; omega
                    · obtain rfl : n = k := by omega
                      have j3 : ¬ (n : Int) < (n : Int) := by omega
                      go_wp2
                      go_ret
                      exact ⟨rfl, HF.out.be.drewN hBw q⟩
end Go.Proofs.YtjlmajopfeplpaaGreat

namespace Go.Proofs.YtjlmajopfeplpaaGreat
open Go.RowKit Go.Shelf

/-- a bag that holds lists of bytes alone. -/
def Bx (w : World) (b : Nat) (v : Value) : Prop :=
  w.heap[b]? = some (.cells #[.slice none 0 0, .slice none 0 0, .slice none 0 0, .slice none 0 0, .slice none 0 0, v, .slice none 0 0, .slice none 0 0, .slice none 0 0, .slice none 0 0, .slice none 0 0, .slice none 0 0, .slice none 0 0] 74 (0, 0))
theorem Bx.cell {w : World} {b : Nat} {v : Value} (h : Bx w b v) : w.cell? ⟨b, 5, none⟩ = some v := by rw [cell_of_row w b 5 _ _ _ h]; rfl
theorem Bx.other {w : World} {b i : Nat} {v : Value} (h : Bx w b v) (hi : i < 13) (h5 : i ≠ 5) : w.cell? ⟨b, i, none⟩ = some (.slice none 0 0) := by
  rw [cell_of_row w b i _ _ _ h]
  rcases i with _ | _ | _ | _ | _ | _ | _ | _ | _ | _ | _ | _ | _ | _ <;> first | rfl | omega
theorem Bx.free {w : World} {b : Nat} {v : Value} (h : Bx w b v) (i : Nat) : w.frozen? ⟨b, i, none⟩ = false := frozen_of_row w b i _ _ h
theorem Bx.lt {w : World} {b : Nat} {v : Value} (h : Bx w b v) : b < w.heap.size := (Array.getElem?_eq_some_iff.1 h).1
theorem Bx.grown {w w' : World} {b : Nat} {v : Value} {row : Option Nat} (h : Bx w b v) (hg : w.grownBy w' row) (hr : some b ≠ row) : Bx w' b v := (hg.block b h.lt hr).trans h
theorem Bx.set {w : World} {b : Nat} {v : Value} (h : Bx w b v) (u : Value) : Bx (w.setCell ⟨b, 5, none⟩ u) b u := heap_setCell_same w b 5 _ _ u h

set_option maxHeartbeats 4000000 in
set_option maxRecDepth 100000 in
theorem put_any (B b n cap : Nat) (pa a : Option Addr) (l c : Nat) (xs : List Value) (w : World) (hx : Bx w b (.slice pa n cap)) (ho : w.ownsRow B 28 1 (.slice pa n cap) n xs) (hb : blk pa ≠ some b) (hn : n ≤ 3000) (hB : B ≤ b) :
    Calls Tryz.prog 40 #[.pointer (some ⟨b, 0, none⟩), .slice a l c] w fun e w' => e = .returned (.tuple #[]) ∧
      ∃ pa' cap', Bx w' b (.slice pa' (n + 1) cap') ∧ w'.ownsRow B 28 1 (.slice pa' (n + 1) cap') (n + 1) (xs ++ [.slice a l c]) ∧ blk pa' ≠ some b ∧ Below B w w' := by
  have HX := Lib.hid hx; have HO := Lib.hid ho; have HB := Lib.hid hb
  obtain ⟨i1, hi', hz0', hz1', hz2'⟩ := info_parts (P := Tryz.prog) (e := 28) (z := .slice none 0 0) (size := 1) (bytes := 24) (by kernel_rfl)
  have HI' := Lib.hid hi'; have HZ0' := Lib.hid hz0'; have HZ1' := Lib.hid hz1'; have HZ2' := Lib.hid hz2'
  have c5 := hx.cell
  have hlt := hx.lt
  clear hi' hz0' hz1' hz2' ho hb hx
  go_enter Tryz.func40, Tryz.ntmps40
  go_wp2_with (at_builtin; refine wpList_append_bag _ rfl _ _ 43 rfl B 28 i1 (.slice none 0 0) 24 Tryz.underlying43 HI'.out HZ0'.out HZ1'.out HZ2'.out rfl pa n cap xs rfl (HO.out.alloc _) _ 1 1 [.slice a l c] rfl rfl (cell_new1 _ _ _) (by intro u hu; rcases List.mem_singleton.1 hu with rfl; rfl) (by decide) (by unfold maxLen; omega) (by omega) (by simp; omega) ?_; intro g cap' w6 hown6 hc6 hlt6; have hbx : Bx w6 b (.slice pa n cap) ∧ b ≠ g ∧ Below B w w6 := (by
    have hx1 := HX.out.grown (grown_alloc w (.cells #[.slice a l c] 28)) (by simp)
    have hB1 := (Below.refl B w).alloc (by omega) (.cells #[.slice a l c] 28)
    have hgB := (hown6.lt g rfl).1
    rcases hc6 with ⟨e, _, hg⟩ | ⟨hge, hg⟩
    · have hne : b ≠ g := fun hh => HB.out (by rw [e, hh]; rfl)
      exact ⟨hx1.grown hg (fun hh => hne (by cases hh; rfl)), hne, hB1.grown hg (by simp; omega) (fun x hx => by cases hx; exact hgB)⟩
    · rw [World.size_alloc] at hge
      exact ⟨hx1.grown hg (by simp), by omega, hB1.grown hg (by simp; omega) (fun x hx => by cases hx)⟩); have HBX := Lib.hid hbx; have HOWN6 := Lib.hid hown6; have c6 := hbx.1.cell; have f6 := hbx.1.free 5; clear hbx hown6 hc6 hlt6)
  go_end0
  exact ⟨rfl, _, cap', HBX.out.1.set _, HOWN6.out.kept (grownSet _ _ _ _) (Or.inr (fun hh => HBX.out.2.1 (by cases hh; rfl))), fun hh => HBX.out.2.1 (by cases hh; rfl), HBX.out.2.2.setCell (p := ⟨b, 5, none⟩) hB _⟩

set_option maxHeartbeats 4000000 in
set_option maxRecDepth 100000 in
theorem apart_any (B b L n cap : Nat) (a : Nat → Option Addr) (l c : Nat → Nat) (h : Nat → Nat → Nat) (w : World) (hx : Bx w b (.slice (some ⟨L, 0, none⟩) n cap)) (hb : Bag w B L n a l l c h) (hs : Sep a n) (hno : Not a n L) (hnb : Not a n b) (hBL : B ≤ L) (hLw : L < w.heap.size) (hc : n ≤ cap) (hn : n ≤ 3000) (hl : ∀ k, l k ≤ 1000000) :
    Calls Tryz.prog 41 #[.pointer (some ⟨b, 0, none⟩)] w fun e w' => e = .returned (.bool true) ∧ Below B w w' := by
  have hBw : B ≤ w.heap.size := by omega
  have HX := Lib.hid hx; have HBG := Lib.hid hb; have HS := Lib.hid hs; have HNO := Lib.hid hno; have HNB := Lib.hid hnb; have HL := Lib.hid hl
  have HB := Lib.hid (Below.refl B w)
  have HSZ := Lib.hid hLw
  clear hb hs hno hnb hl hLw
  have c0 := hx.other (i := 0) (by omega) (by omega)
  clear hx
  go_enter Tryz.func41, Tryz.ntmps41
  go_wp2_with fail
  refine (flat0_limbs _).mono ?_
  rintro e w1 ⟨rfl, hB⟩
  have HX1 := Lib.hid (HX.out.grown (grownBelow hB none) (by simp))
  have HB1 := Lib.hid (HB.out.trans (hB.mono hBw))
  have HBG1 := Lib.hid (HBG.out.below hB); have HSZ1 := Lib.hid (Nat.lt_of_lt_of_le HSZ.out hB.size)
  clear hB
  have c1 := HX1.out.other (i := 1) (by omega) (by omega)
  go_wp2_with fail
  refine (flat0_words _).mono ?_
  rintro e w2 ⟨rfl, hB⟩
  have HX2 := Lib.hid (HX1.out.grown (grownBelow hB none) (by simp))
  have HB2 := Lib.hid (HB1.out.trans (hB.mono (Nat.le_trans hBw HB1.out.size)))
  have HBG2 := Lib.hid (HBG1.out.below hB); have HSZ2 := Lib.hid (Nat.lt_of_lt_of_le HSZ1.out hB.size)
  clear hB
  have c2 := HX2.out.other (i := 2) (by omega) (by omega)
  go_wp2_with fail
  refine (flat0_ints _).mono ?_
  rintro e w3 ⟨rfl, hB⟩
  have HX3 := Lib.hid (HX2.out.grown (grownBelow hB none) (by simp))
  have HB3 := Lib.hid (HB2.out.trans (hB.mono (Nat.le_trans hBw HB2.out.size)))
  have HBG3 := Lib.hid (HBG2.out.below hB); have HSZ3 := Lib.hid (Nat.lt_of_lt_of_le HSZ2.out hB.size)
  clear hB
  have c3 := HX3.out.other (i := 3) (by omega) (by omega)
  go_wp2_with fail
  refine (flat0_longs _).mono ?_
  rintro e w4 ⟨rfl, hB⟩
  have HX4 := Lib.hid (HX3.out.grown (grownBelow hB none) (by simp))
  have HB4 := Lib.hid (HB3.out.trans (hB.mono (Nat.le_trans hBw HB3.out.size)))
  have HBG4 := Lib.hid (HBG3.out.below hB); have HSZ4 := Lib.hid (Nat.lt_of_lt_of_le HSZ3.out hB.size)
  clear hB
  have c4 := HX4.out.other (i := 4) (by omega) (by omega)
  go_wp2_with fail
  refine (flat0_texts _).mono ?_
  rintro e w5 ⟨rfl, hB⟩
  have HX5 := Lib.hid (HX4.out.grown (grownBelow hB none) (by simp))
  have HB5 := Lib.hid (HB4.out.trans (hB.mono (Nat.le_trans hBw HB4.out.size)))
  have HBG5 := Lib.hid (HBG4.out.below hB); have HSZ5 := Lib.hid (Nat.lt_of_lt_of_le HSZ4.out hB.size)
  clear hB
  have c5 := HX5.out.cell
  go_wp2_with fail
  refine (flatBytes_any B L n cap a l c h _ HBG5.out HS.out HNO.out hBL HSZ5.out hc hn HL.out).mono ?_
  rintro e w6 ⟨rfl, hB⟩
  have HX6 := Lib.hid (show Bx w6 b (.slice (some ⟨L, 0, none⟩) n cap) from (hB.kp b HX5.out.lt HNB.out).trans HX5.out)
  have HB6 := Lib.hid (HB5.out.trans hB.be)
  clear hB
  have c6 := HX6.out.other (i := 6) (by omega) (by omega)
  go_wp2_with fail
  refine (flat0_truths _).mono ?_
  rintro e w7 ⟨rfl, hB⟩
  have HX7 := Lib.hid (HX6.out.grown (grownBelow hB none) (by simp))
  have HB7 := Lib.hid (HB6.out.trans (hB.mono (Nat.le_trans hBw HB6.out.size)))
  clear hB
  have c7 := HX7.out.other (i := 7) (by omega) (by omega)
  go_wp2_with fail
  refine (flat0_layers _).mono ?_
  rintro e w8 ⟨rfl, hB⟩
  have HX8 := Lib.hid (HX7.out.grown (grownBelow hB none) (by simp))
  have HB8 := Lib.hid (HB7.out.trans (hB.mono (Nat.le_trans hBw HB7.out.size)))
  clear hB
  have c8 := HX8.out.other (i := 8) (by omega) (by omega)
  go_wp2_with fail
  refine (flat0_table _).mono ?_
  rintro e w9 ⟨rfl, hB⟩
  have HX9 := Lib.hid (HX8.out.grown (grownBelow hB none) (by simp))
  have HB9 := Lib.hid (HB8.out.trans (hB.mono (Nat.le_trans hBw HB8.out.size)))
  clear hB
  have c9 := HX9.out.other (i := 9) (by omega) (by omega)
  go_wp2_with fail
  refine (flat0_heads _).mono ?_
  rintro e w10 ⟨rfl, hB⟩
  have HX10 := Lib.hid (HX9.out.grown (grownBelow hB none) (by simp))
  have HB10 := Lib.hid (HB9.out.trans (hB.mono (Nat.le_trans hBw HB9.out.size)))
  clear hB
  have c10 := HX10.out.other (i := 10) (by omega) (by omega)
  go_wp2_with fail
  refine (flat0_counts _).mono ?_
  rintro e w11 ⟨rfl, hB⟩
  have HX11 := Lib.hid (HX10.out.grown (grownBelow hB none) (by simp))
  have HB11 := Lib.hid (HB10.out.trans (hB.mono (Nat.le_trans hBw HB10.out.size)))
  clear hB
  have c11 := HX11.out.other (i := 11) (by omega) (by omega)
  go_wp2_with fail
  refine (flat0_notes _).mono ?_
  rintro e w12 ⟨rfl, hB⟩
  have HX12 := Lib.hid (HX11.out.grown (grownBelow hB none) (by simp))
  have HB12 := Lib.hid (HB11.out.trans (hB.mono (Nat.le_trans hBw HB11.out.size)))
  clear hB
  have c12 := HX12.out.other (i := 12) (by omega) (by omega)
  go_wp2_with fail
  refine (flat0_fates _).mono ?_
  rintro e w13 ⟨rfl, hB⟩
  have HX13 := Lib.hid (HX12.out.grown (grownBelow hB none) (by simp))
  have HB13 := Lib.hid (HB12.out.trans (hB.mono (Nat.le_trans hBw HB12.out.size)))
  clear hB
  go_wp2
  go_ret
  exact ⟨rfl, HB13.out⟩

set_option maxHeartbeats 4000000 in
set_option maxRecDepth 100000 in
/-- lists that lie apart. -/
theorem apartBytes_any (B A n cap : Nat) (a : Nat → Option Addr) (l c : Nat → Nat) (h : Nat → Nat → Nat) (w : World) (hb : Bag w B A n a l l c h) (hs : Sep a n) (_hA : A < w.heap.size) (hB' : B ≤ w.heap.size) (_hc : n ≤ cap) (hn : n ≤ 3000) (hn0 : 0 < n) (hl : ∀ k, l k ≤ 1000000) :
    Calls Tryz.prog 21 #[.slice (some ⟨A, 0, none⟩) n cap] w fun e w' => e = .returned (.bool true) ∧ Below B w w' := by
  have HBG := Lib.hid hb; have HS := Lib.hid hs; have HL := Lib.hid hl
  clear hb hs hl
  go_enter Tryz.func21, Tryz.ntmps21
  go_wp2_with fail
  obtain ⟨b, hbw⟩ : ∃ b, b = w.heap.size := ⟨_, rfl⟩
  have hx0 : Bx (w.alloc (.cells #[.slice none 0 0, .slice none 0 0, .slice none 0 0, .slice none 0 0, .slice none 0 0, .slice none 0 0, .slice none 0 0, .slice none 0 0, .slice none 0 0, .slice none 0 0, .slice none 0 0, .slice none 0 0, .slice none 0 0] 74)) w.heap.size (.slice none 0 0) := heap_alloc_new _ _
  rw [← hbw] at hx0 ⊢
  have HX0 := Lib.hid hx0; have HBW := Lib.hid hbw; clear hx0 hbw
  go_loopw [4] (fun kv wr => ∃ (k : Nat) (pa : Option Addr) (pc : Nat), k ≤ n ∧ kv = .int .i64 (k : Nat) ∧ Bx wr b (.slice pa k pc) ∧ wr.ownsRow b 28 1 (.slice pa k pc) k ((List.range k).map fun j => Value.slice (a j) (l j) (c j)) ∧ blk pa ≠ some b ∧ Below b w wr) (fun kv _ => n - (intOf kv).toNat)
  case atStart => exact ⟨0, none, 0, by omega, rfl, HX0.out, World.ownsRow_nil _ _ _ _, by simp [blk], by rw [HBW.out]; exact (Below.refl _ _).alloc (Nat.le_refl _) _⟩
  case round =>
    obtain ⟨k, pa, pc, hk, rfl, hx, ho, hp, hB⟩ := hrel
    obtain ⟨wo, rfl⟩ : ∃ wo : World, wo = wr := ⟨_, rfl⟩
    have HX := Lib.hid hx; have HO := Lib.hid ho; have HP := Lib.hid hp; have HB1 := Lib.hid hB
    have hBg : Bag wo B A n a l l c h := HBG.out.below (by rw [← HBW.out]; exact hB)
    have HG := Lib.hid hBg
    have hsz := hB.size
    clear hx ho hp hB hBg
    by_cases hkn : k < n
    · have i1 : (k : Int) < (n : Int) := by omega
      have cl := HG.out.lst k hkn
      go_wp2_with fail
      refine (put_any b b k pc pa (a k) (l k) (c k) _ _ HX.out HO.out HP.out (by omega) (Nat.le_refl _)).mono ?_
      rintro e w1 ⟨rfl, pa', pc', hx, ho, hp, hB⟩
      have HX2 := Lib.hid hx; have HO2 := Lib.hid ho; have HP2 := Lib.hid hp; have HB2 := Lib.hid (HB1.out.trans hB)
      clear hx ho hp hB
      go_wp2
      go_roundw
      case rel => exact ⟨k + 1, pa', pc', by omega, by go_num, HX2.out, by rw [List.range_succ, List.map_append]; exact HO2.out, HP2.out, HB2.out⟩
      case measure => simp [intOf]; omega
    · obtain rfl : n = k := by omega
      have i1 : ¬ (n : Int) < (n : Int) := by omega
      obtain ⟨P, pc2, hpv, hPb, hPlt⟩ := HO.out.form hn0
      simp only [Value.slice.injEq, true_and] at hpv
      obtain ⟨rfl, rfl⟩ := hpv
      have hpc : n ≤ pc := by
        rcases HO.out.2 with ⟨h, _⟩ | ⟨g', cap', cur, h, _, hg, hnc, _, hs, _⟩
        · cases h
        · simp only [Value.slice.injEq, true_and] at h
          omega
      have hlt : ∀ j g, j < n → blk (a j) = some g → g < b := fun j g hj e => by rw [HBW.out]; exact (HBG.out.lt hj e).2
      have hbag : Bag wo B P n a l l c h := ⟨fun j hj => by
        rw [HO.out.cellAt j (by omega)]
        simp [hj], HG.out.own⟩
      go_wp2_with fail
      refine (apart_any B b P n pc a l c h _ HX.out hbag HS.out (fun j hj e => by have := hlt j P hj e; omega) (fun j hj e => by have := hlt j b hj e; omega) (by have := HBW.out; omega) hPlt hpc hn HL.out).mono ?_
      rintro e w2 ⟨rfl, hB⟩
      have HB3 := Lib.hid ((HB1.out.mono (show B ≤ b by rw [HBW.out]; exact hB')).trans hB)
      go_wp2
      go_ret
      exact ⟨rfl, HB3.out⟩
end Go.Proofs.YtjlmajopfeplpaaGreat

namespace Go.Proofs.YtjlmajopfeplpaaGreat
open Go.RowKit Go.Shelf

theorem Bel.trans {B n : Nat} {a : Nat → Option Addr} {w w1 w2 : World} (h : Bel B n a w w1) (k : Bel B n a w1 w2) : Bel B n a w w2 :=
  ⟨h.be.trans k.be, fun g hl hn => (k.kp g (Nat.lt_of_lt_of_le hl h.size) hn).trans (h.kp g hl hn)⟩

set_option maxHeartbeats 4000000 in
set_option maxRecDepth 100000 in
theorem apart_bel (B b L n cap : Nat) (a : Nat → Option Addr) (l c : Nat → Nat) (h : Nat → Nat → Nat) (w : World) (hx : Bx w b (.slice (some ⟨L, 0, none⟩) n cap)) (hb : Bag w B L n a l l c h) (hs : Sep a n) (hno : Not a n L) (hnb : Not a n b) (hBL : B ≤ L) (hLw : L < w.heap.size) (hc : n ≤ cap) (hn : n ≤ 3000) (hl : ∀ k, l k ≤ 1000000) :
    Calls Tryz.prog 41 #[.pointer (some ⟨b, 0, none⟩)] w fun e w' => e = .returned (.bool true) ∧ Bel B n a w w' := by
  have hBw : B ≤ w.heap.size := by omega
  have HX := Lib.hid hx; have HBG := Lib.hid hb; have HS := Lib.hid hs; have HNO := Lib.hid hno; have HNB := Lib.hid hnb; have HL := Lib.hid hl
  have HB := Lib.hid (Bel.refl B n a w)
  have HSZ := Lib.hid hLw
  clear hb hs hno hnb hl hLw
  have c0 := hx.other (i := 0) (by omega) (by omega)
  clear hx
  go_enter Tryz.func41, Tryz.ntmps41
  go_wp2_with fail
  refine (flat0_limbs _).mono ?_
  rintro e w1 ⟨rfl, hB⟩
  have HX1 := Lib.hid (HX.out.grown (grownBelow hB none) (by simp))
  have HB1 := Lib.hid (HB.out.grown0 (grownBelow hB none) hBw)
  have HBG1 := Lib.hid (HBG.out.below hB); have HSZ1 := Lib.hid (Nat.lt_of_lt_of_le HSZ.out hB.size)
  clear hB
  have c1 := HX1.out.other (i := 1) (by omega) (by omega)
  go_wp2_with fail
  refine (flat0_words _).mono ?_
  rintro e w2 ⟨rfl, hB⟩
  have HX2 := Lib.hid (HX1.out.grown (grownBelow hB none) (by simp))
  have HB2 := Lib.hid (HB1.out.grown0 (grownBelow hB none) hBw)
  have HBG2 := Lib.hid (HBG1.out.below hB); have HSZ2 := Lib.hid (Nat.lt_of_lt_of_le HSZ1.out hB.size)
  clear hB
  have c2 := HX2.out.other (i := 2) (by omega) (by omega)
  go_wp2_with fail
  refine (flat0_ints _).mono ?_
  rintro e w3 ⟨rfl, hB⟩
  have HX3 := Lib.hid (HX2.out.grown (grownBelow hB none) (by simp))
  have HB3 := Lib.hid (HB2.out.grown0 (grownBelow hB none) hBw)
  have HBG3 := Lib.hid (HBG2.out.below hB); have HSZ3 := Lib.hid (Nat.lt_of_lt_of_le HSZ2.out hB.size)
  clear hB
  have c3 := HX3.out.other (i := 3) (by omega) (by omega)
  go_wp2_with fail
  refine (flat0_longs _).mono ?_
  rintro e w4 ⟨rfl, hB⟩
  have HX4 := Lib.hid (HX3.out.grown (grownBelow hB none) (by simp))
  have HB4 := Lib.hid (HB3.out.grown0 (grownBelow hB none) hBw)
  have HBG4 := Lib.hid (HBG3.out.below hB); have HSZ4 := Lib.hid (Nat.lt_of_lt_of_le HSZ3.out hB.size)
  clear hB
  have c4 := HX4.out.other (i := 4) (by omega) (by omega)
  go_wp2_with fail
  refine (flat0_texts _).mono ?_
  rintro e w5 ⟨rfl, hB⟩
  have HX5 := Lib.hid (HX4.out.grown (grownBelow hB none) (by simp))
  have HB5 := Lib.hid (HB4.out.grown0 (grownBelow hB none) hBw)
  have HBG5 := Lib.hid (HBG4.out.below hB); have HSZ5 := Lib.hid (Nat.lt_of_lt_of_le HSZ4.out hB.size)
  clear hB
  have c5 := HX5.out.cell
  go_wp2_with fail
  refine (flatBytes_any B L n cap a l c h _ HBG5.out HS.out HNO.out hBL HSZ5.out hc hn HL.out).mono ?_
  rintro e w6 ⟨rfl, hB⟩
  have HX6 := Lib.hid (show Bx w6 b (.slice (some ⟨L, 0, none⟩) n cap) from (hB.kp b HX5.out.lt HNB.out).trans HX5.out)
  have HB6 := Lib.hid (HB5.out.trans hB)
  clear hB
  have c6 := HX6.out.other (i := 6) (by omega) (by omega)
  go_wp2_with fail
  refine (flat0_truths _).mono ?_
  rintro e w7 ⟨rfl, hB⟩
  have HX7 := Lib.hid (HX6.out.grown (grownBelow hB none) (by simp))
  have HB7 := Lib.hid (HB6.out.grown0 (grownBelow hB none) hBw)
  clear hB
  have c7 := HX7.out.other (i := 7) (by omega) (by omega)
  go_wp2_with fail
  refine (flat0_layers _).mono ?_
  rintro e w8 ⟨rfl, hB⟩
  have HX8 := Lib.hid (HX7.out.grown (grownBelow hB none) (by simp))
  have HB8 := Lib.hid (HB7.out.grown0 (grownBelow hB none) hBw)
  clear hB
  have c8 := HX8.out.other (i := 8) (by omega) (by omega)
  go_wp2_with fail
  refine (flat0_table _).mono ?_
  rintro e w9 ⟨rfl, hB⟩
  have HX9 := Lib.hid (HX8.out.grown (grownBelow hB none) (by simp))
  have HB9 := Lib.hid (HB8.out.grown0 (grownBelow hB none) hBw)
  clear hB
  have c9 := HX9.out.other (i := 9) (by omega) (by omega)
  go_wp2_with fail
  refine (flat0_heads _).mono ?_
  rintro e w10 ⟨rfl, hB⟩
  have HX10 := Lib.hid (HX9.out.grown (grownBelow hB none) (by simp))
  have HB10 := Lib.hid (HB9.out.grown0 (grownBelow hB none) hBw)
  clear hB
  have c10 := HX10.out.other (i := 10) (by omega) (by omega)
  go_wp2_with fail
  refine (flat0_counts _).mono ?_
  rintro e w11 ⟨rfl, hB⟩
  have HX11 := Lib.hid (HX10.out.grown (grownBelow hB none) (by simp))
  have HB11 := Lib.hid (HB10.out.grown0 (grownBelow hB none) hBw)
  clear hB
  have c11 := HX11.out.other (i := 11) (by omega) (by omega)
  go_wp2_with fail
  refine (flat0_notes _).mono ?_
  rintro e w12 ⟨rfl, hB⟩
  have HX12 := Lib.hid (HX11.out.grown (grownBelow hB none) (by simp))
  have HB12 := Lib.hid (HB11.out.grown0 (grownBelow hB none) hBw)
  clear hB
  have c12 := HX12.out.other (i := 12) (by omega) (by omega)
  go_wp2_with fail
  refine (flat0_fates _).mono ?_
  rintro e w13 ⟨rfl, hB⟩
  have HX13 := Lib.hid (HX12.out.grown (grownBelow hB none) (by simp))
  have HB13 := Lib.hid (HB12.out.grown0 (grownBelow hB none) hBw)
  clear hB
  go_wp2
  go_ret
  exact ⟨rfl, HB13.out⟩

set_option maxHeartbeats 4000000 in
set_option maxRecDepth 100000 in
/-- lists that lie apart. -/
theorem apartBytes_bel (B A n cap : Nat) (a : Nat → Option Addr) (l c : Nat → Nat) (h : Nat → Nat → Nat) (w : World) (hb : Bag w B A n a l l c h) (hs : Sep a n) (_hA : A < w.heap.size) (hB' : B ≤ w.heap.size) (_hc : n ≤ cap) (hn : n ≤ 3000) (hn0 : 0 < n) (hl : ∀ k, l k ≤ 1000000) :
    Calls Tryz.prog 21 #[.slice (some ⟨A, 0, none⟩) n cap] w fun e w' => e = .returned (.bool true) ∧ Bel B n a w w' := by
  have HBG := Lib.hid hb; have HS := Lib.hid hs; have HL := Lib.hid hl
  clear hb hs hl
  go_enter Tryz.func21, Tryz.ntmps21
  go_wp2_with fail
  obtain ⟨b, hbw⟩ : ∃ b, b = w.heap.size := ⟨_, rfl⟩
  have hx0 : Bx (w.alloc (.cells #[.slice none 0 0, .slice none 0 0, .slice none 0 0, .slice none 0 0, .slice none 0 0, .slice none 0 0, .slice none 0 0, .slice none 0 0, .slice none 0 0, .slice none 0 0, .slice none 0 0, .slice none 0 0, .slice none 0 0] 74)) w.heap.size (.slice none 0 0) := heap_alloc_new _ _
  rw [← hbw] at hx0 ⊢
  have HX0 := Lib.hid hx0; have HBW := Lib.hid hbw; clear hx0 hbw
  go_loopw [4] (fun kv wr => ∃ (k : Nat) (pa : Option Addr) (pc : Nat), k ≤ n ∧ kv = .int .i64 (k : Nat) ∧ Bx wr b (.slice pa k pc) ∧ wr.ownsRow b 28 1 (.slice pa k pc) k ((List.range k).map fun j => Value.slice (a j) (l j) (c j)) ∧ blk pa ≠ some b ∧ Below b w wr) (fun kv _ => n - (intOf kv).toNat)
  case atStart => exact ⟨0, none, 0, by omega, rfl, HX0.out, World.ownsRow_nil _ _ _ _, by simp [blk], by rw [HBW.out]; exact (Below.refl _ _).alloc (Nat.le_refl _) _⟩
  case round =>
    obtain ⟨k, pa, pc, hk, rfl, hx, ho, hp, hB⟩ := hrel
    obtain ⟨wo, rfl⟩ : ∃ wo : World, wo = wr := ⟨_, rfl⟩
    have HX := Lib.hid hx; have HO := Lib.hid ho; have HP := Lib.hid hp; have HB1 := Lib.hid hB
    have hBg : Bag wo B A n a l l c h := HBG.out.below (by rw [← HBW.out]; exact hB)
    have HG := Lib.hid hBg
    have hsz := hB.size
    clear hx ho hp hB hBg
    by_cases hkn : k < n
    · have i1 : (k : Int) < (n : Int) := by omega
      have cl := HG.out.lst k hkn
      go_wp2_with fail
      refine (put_any b b k pc pa (a k) (l k) (c k) _ _ HX.out HO.out HP.out (by omega) (Nat.le_refl _)).mono ?_
      rintro e w1 ⟨rfl, pa', pc', hx, ho, hp, hB⟩
      have HX2 := Lib.hid hx; have HO2 := Lib.hid ho; have HP2 := Lib.hid hp; have HB2 := Lib.hid (HB1.out.trans hB)
      clear hx ho hp hB
      go_wp2
      go_roundw
      case rel => exact ⟨k + 1, pa', pc', by omega, by go_num, HX2.out, by rw [List.range_succ, List.map_append]; exact HO2.out, HP2.out, HB2.out⟩
      case measure => simp [intOf]; omega
    · obtain rfl : n = k := by omega
      have i1 : ¬ (n : Int) < (n : Int) := by omega
      obtain ⟨P, pc2, hpv, hPb, hPlt⟩ := HO.out.form hn0
      simp only [Value.slice.injEq, true_and] at hpv
      obtain ⟨rfl, rfl⟩ := hpv
      have hpc : n ≤ pc := by
        rcases HO.out.2 with ⟨h, _⟩ | ⟨g', cap', cur, h, _, hg, hnc, _, hs, _⟩
        · cases h
        · simp only [Value.slice.injEq, true_and] at h
          omega
      have hlt : ∀ j g, j < n → blk (a j) = some g → g < b := fun j g hj e => by rw [HBW.out]; exact (HBG.out.lt hj e).2
      have hbag : Bag wo B P n a l l c h := ⟨fun j hj => by
        rw [HO.out.cellAt j (by omega)]
        simp [hj], HG.out.own⟩
      go_wp2_with fail
      refine (apart_bel B b P n pc a l c h _ HX.out hbag HS.out (fun j hj e => by have := hlt j P hj e; omega) (fun j hj e => by have := hlt j b hj e; omega) (by have := HBW.out; omega) hPlt hpc hn HL.out).mono ?_
      rintro e w2 ⟨rfl, hB⟩
      have HB3 := Lib.hid (((Bel.refl B n a w).grown0 (grownBelow (by rw [← HBW.out]; exact HB1.out) none) hB').trans hB)
      go_wp2
      go_ret
      exact ⟨rfl, HB3.out⟩

set_option maxHeartbeats 4000000 in
set_option maxRecDepth 100000 in
theorem flat0_bytes (w : World) :
    Calls Tryz.prog 71 #[.slice none 0 0] w fun e w' => e = .returned (.bool true) ∧ Below w.heap.size w w' := by
  obtain ⟨i1, hi', hz0', hz1', hz2'⟩ := info_parts (P := Tryz.prog) (e := 28) (z := .slice none 0 0) (size := 1) (bytes := 24) (by kernel_rfl)
  have HI' := Lib.hid hi'; have HZ0' := Lib.hid hz0'; have HZ1' := Lib.hid hz1'; have HZ2' := Lib.hid hz2'
  clear hi' hz0' hz1' hz2'
  go_enter Tryz.func71, Tryz.ntmps71
  go_wp2_with fail
  go_loopw [3] (fun k wr => k = .int .i64 0 ∧ wr = w) (fun _ _ => 0)
  case atStart => exact ⟨rfl, rfl⟩
  case round =>
    obtain ⟨rfl, hw⟩ := hrel
    obtain rfl : w = wr := hw.symm
    go_wp2_with (at_make; refine wpList_make_full _ rfl _ _ _ rfl w.heap.size 28 i1 (.slice none 0 0) 1 (by kernel_rfl) HI'.out HZ0'.out HZ1'.out .i64 .i64 _ _ 0 rfl rfl rfl rfl (by omega) (by unfold maxLen; omega) (Nat.le_refl _) ?_; intro w3 hown hgrow; have HB := Lib.hid ((Below.refl w.heap.size w).grown hgrow (Nat.le_refl _) (fun x hx => by cases hx)); clear hown hgrow)
    go_loopw [6] (fun k wx => k = .int .i64 0 ∧ Below w.heap.size w wx) (fun _ _ => 0)
    case atStart => exact ⟨rfl, HB.out⟩
    case round =>
      obtain ⟨rfl, hB⟩ := hrel
      have HB := Lib.hid hB; clear hB
      go_wp2_with fail
      go_loopw [9] (fun k wx => k = .int .i64 0 ∧ Below w.heap.size w wx) (fun _ _ => 0)
      case atStart => exact ⟨rfl, HB.out⟩
      case round =>
        obtain ⟨rfl, hB⟩ := hrel
        have HB := Lib.hid hB; clear hB
        go_wp2_with fail
        go_loopw [11] (fun k wx => k = .int .i64 0 ∧ Below w.heap.size w wx) (fun _ _ => 0)
        case atStart => exact ⟨rfl, HB.out⟩
        case round =>
          obtain ⟨rfl, hB⟩ := hrel
          have HB := Lib.hid hB; clear hB
          go_wp2_with fail
          go_loopw [14] (fun k wx => k = .int .i64 0 ∧ Below w.heap.size w wx) (fun _ _ => 0)
          case atStart => exact ⟨rfl, HB.out⟩
          case round =>
            obtain ⟨rfl, hB⟩ := hrel
            have HB := Lib.hid hB; clear hB
            go_wp2
            go_ret
            exact ⟨rfl, HB.out⟩

set_option maxHeartbeats 4000000 in
set_option maxRecDepth 100000 in
theorem apart0_any (b : Nat) (w : World) (hx : Bx w b (.slice none 0 0)) :
    Calls Tryz.prog 41 #[.pointer (some ⟨b, 0, none⟩)] w fun e w' => e = .returned (.bool true) ∧ Below w.heap.size w w' := by
  have HX := Lib.hid hx
  have HB := Lib.hid (Below.refl w.heap.size w)
  have c0 := hx.other (i := 0) (by omega) (by omega)
  clear hx
  go_enter Tryz.func41, Tryz.ntmps41
  go_wp2_with fail
  refine (flat0_limbs _).mono ?_
  rintro e w1 ⟨rfl, hB⟩
  have HX1 := Lib.hid (HX.out.grown (grownBelow hB none) (by simp))
  have HB1 := Lib.hid (HB.out.trans hB)
  clear hB
  have c1 := HX1.out.other (i := 1) (by omega) (by omega)
  go_wp2_with fail
  refine (flat0_words _).mono ?_
  rintro e w2 ⟨rfl, hB⟩
  have HX2 := Lib.hid (HX1.out.grown (grownBelow hB none) (by simp))
  have HB2 := Lib.hid (HB1.out.trans (hB.mono HB1.out.size))
  clear hB
  have c2 := HX2.out.other (i := 2) (by omega) (by omega)
  go_wp2_with fail
  refine (flat0_ints _).mono ?_
  rintro e w3 ⟨rfl, hB⟩
  have HX3 := Lib.hid (HX2.out.grown (grownBelow hB none) (by simp))
  have HB3 := Lib.hid (HB2.out.trans (hB.mono HB2.out.size))
  clear hB
  have c3 := HX3.out.other (i := 3) (by omega) (by omega)
  go_wp2_with fail
  refine (flat0_longs _).mono ?_
  rintro e w4 ⟨rfl, hB⟩
  have HX4 := Lib.hid (HX3.out.grown (grownBelow hB none) (by simp))
  have HB4 := Lib.hid (HB3.out.trans (hB.mono HB3.out.size))
  clear hB
  have c4 := HX4.out.other (i := 4) (by omega) (by omega)
  go_wp2_with fail
  refine (flat0_texts _).mono ?_
  rintro e w5 ⟨rfl, hB⟩
  have HX5 := Lib.hid (HX4.out.grown (grownBelow hB none) (by simp))
  have HB5 := Lib.hid (HB4.out.trans (hB.mono HB4.out.size))
  clear hB
  have c5 := HX5.out.cell
  go_wp2_with fail
  refine (flat0_bytes _).mono ?_
  rintro e w6 ⟨rfl, hB⟩
  have HX6 := Lib.hid (HX5.out.grown (grownBelow hB none) (by simp))
  have HB6 := Lib.hid (HB5.out.trans (hB.mono HB5.out.size))
  clear hB
  have c6 := HX6.out.other (i := 6) (by omega) (by omega)
  go_wp2_with fail
  refine (flat0_truths _).mono ?_
  rintro e w7 ⟨rfl, hB⟩
  have HX7 := Lib.hid (HX6.out.grown (grownBelow hB none) (by simp))
  have HB7 := Lib.hid (HB6.out.trans (hB.mono HB6.out.size))
  clear hB
  have c7 := HX7.out.other (i := 7) (by omega) (by omega)
  go_wp2_with fail
  refine (flat0_layers _).mono ?_
  rintro e w8 ⟨rfl, hB⟩
  have HX8 := Lib.hid (HX7.out.grown (grownBelow hB none) (by simp))
  have HB8 := Lib.hid (HB7.out.trans (hB.mono HB7.out.size))
  clear hB
  have c8 := HX8.out.other (i := 8) (by omega) (by omega)
  go_wp2_with fail
  refine (flat0_table _).mono ?_
  rintro e w9 ⟨rfl, hB⟩
  have HX9 := Lib.hid (HX8.out.grown (grownBelow hB none) (by simp))
  have HB9 := Lib.hid (HB8.out.trans (hB.mono HB8.out.size))
  clear hB
  have c9 := HX9.out.other (i := 9) (by omega) (by omega)
  go_wp2_with fail
  refine (flat0_heads _).mono ?_
  rintro e w10 ⟨rfl, hB⟩
  have HX10 := Lib.hid (HX9.out.grown (grownBelow hB none) (by simp))
  have HB10 := Lib.hid (HB9.out.trans (hB.mono HB9.out.size))
  clear hB
  have c10 := HX10.out.other (i := 10) (by omega) (by omega)
  go_wp2_with fail
  refine (flat0_counts _).mono ?_
  rintro e w11 ⟨rfl, hB⟩
  have HX11 := Lib.hid (HX10.out.grown (grownBelow hB none) (by simp))
  have HB11 := Lib.hid (HB10.out.trans (hB.mono HB10.out.size))
  clear hB
  have c11 := HX11.out.other (i := 11) (by omega) (by omega)
  go_wp2_with fail
  refine (flat0_notes _).mono ?_
  rintro e w12 ⟨rfl, hB⟩
  have HX12 := Lib.hid (HX11.out.grown (grownBelow hB none) (by simp))
  have HB12 := Lib.hid (HB11.out.trans (hB.mono HB11.out.size))
  clear hB
  have c12 := HX12.out.other (i := 12) (by omega) (by omega)
  go_wp2_with fail
  refine (flat0_fates _).mono ?_
  rintro e w13 ⟨rfl, hB⟩
  have HX13 := Lib.hid (HX12.out.grown (grownBelow hB none) (by simp))
  have HB13 := Lib.hid (HB12.out.trans (hB.mono HB12.out.size))
  clear hB
  go_wp2
  go_ret
  exact ⟨rfl, HB13.out⟩

set_option maxHeartbeats 1000000 in
set_option maxRecDepth 100000 in
/-- no lists. -/
theorem apartBytes0_any (a : Option Addr) (cap : Nat) (w : World) :
    Calls Tryz.prog 21 #[.slice a 0 cap] w fun e w' => e = .returned (.bool true) ∧ Below w.heap.size w w' := by
  have hx0 : Bx (w.alloc (.cells #[.slice none 0 0, .slice none 0 0, .slice none 0 0, .slice none 0 0, .slice none 0 0, .slice none 0 0, .slice none 0 0, .slice none 0 0, .slice none 0 0, .slice none 0 0, .slice none 0 0, .slice none 0 0, .slice none 0 0] 74) ) w.heap.size (.slice none 0 0) := heap_alloc_new _ _
  have HX0 := Lib.hid hx0
  have HB0 := Lib.hid ((Below.refl w.heap.size w).alloc (Nat.le_refl _) (.cells #[.slice none 0 0, .slice none 0 0, .slice none 0 0, .slice none 0 0, .slice none 0 0, .slice none 0 0, .slice none 0 0, .slice none 0 0, .slice none 0 0, .slice none 0 0, .slice none 0 0, .slice none 0 0, .slice none 0 0] 74))
  clear hx0
  go_enter Tryz.func21, Tryz.ntmps21
  go_wp2_with fail
  obtain ⟨w1, hw1⟩ : ∃ w1, w1 = w.alloc (.cells #[.slice none 0 0, .slice none 0 0, .slice none 0 0, .slice none 0 0, .slice none 0 0, .slice none 0 0, .slice none 0 0, .slice none 0 0, .slice none 0 0, .slice none 0 0, .slice none 0 0, .slice none 0 0, .slice none 0 0] 74) := ⟨_, rfl⟩
  rw [← hw1] at HX0 HB0 ⊢
  clear hw1
  go_loopw [4] (fun kv wr => kv = .int .i64 0 ∧ wr = w1) (fun _ _ => 0)
  case atStart => exact ⟨rfl, rfl⟩
  case round =>
    obtain ⟨rfl, rfl⟩ := hrel
    go_wp2_with fail
    refine (apart0_any _ _ HX0.out).mono ?_
    rintro e w2 ⟨rfl, hB⟩
    have HB2 := Lib.hid (HB0.out.trans (hB.mono HB0.out.size)); clear hB
    go_wp2
    go_ret
    exact ⟨rfl, HB2.out⟩
end Go.Proofs.YtjlmajopfeplpaaGreat

namespace Go.Proofs.YtjlmajopfeplpaaGreat.Oz
open Go.RowKit Go.Shelf

set_option maxHeartbeats 4000000 in
set_option maxRecDepth 100000 in
theorem flatBytes_any (B L n cap : Nat) (a : Nat → Option Addr) (l c : Nat → Nat) (h : Nat → Nat → Nat) (w : World) (hb : Bag w B L n a l l c h) (hs : Sep a n) (hno : Not a n L) (hBL : B ≤ L) (hLw : L < w.heap.size) (_hc : n ≤ cap) (hn : n ≤ 3000) (hl : ∀ k, l k ≤ 1000000) :
    Calls Tryz.prog 71 #[.slice (some ⟨L, 0, none⟩) n cap] w fun e w' => e = .returned (.bool true) ∧ Bel B n a w w' := by
  have hBw : B ≤ w.heap.size := by omega
  have HBG := Lib.hid hb; have HS := Lib.hid hs; have HNO := Lib.hid hno; have HL := Lib.hid hl
  obtain ⟨i0, hi, hz0, hz1, hz2⟩ := info_parts Tryz.infoU8
  have HI := Lib.hid hi; have HZ0 := Lib.hid hz0; have HZ1 := Lib.hid hz1; have HZ2 := Lib.hid hz2
  obtain ⟨i1, hi', hz0', hz1', hz2'⟩ := info_parts (P := Tryz.prog) (e := 28) (z := .slice none 0 0) (size := 1) (bytes := 24) (by kernel_rfl)
  have HI' := Lib.hid hi'; have HZ0' := Lib.hid hz0'; have HZ1' := Lib.hid hz1'; have HZ2' := Lib.hid hz2'
  clear hi hz0 hz1 hz2 hi' hz0' hz1' hz2' hb hs hno hl
  go_enter Tryz.func71, Tryz.ntmps71
  go_wp2_with fail
  go_loopw [3] (fun k wr => ∃ k' : Nat, k' ≤ n ∧ k = .int .i64 (k' : Nat) ∧ Bag wr B L n a l l c (fun j i => if j < k' then mkN j i else h j i) ∧ Bel B n a w wr) (fun k _ => n - (intOf k).toNat)
  case atStart => exact ⟨0, by omega, rfl, HBG.out.congr fun k i _ _ => by rw [if_neg (by omega)], Bel.refl _ _ _ _⟩
  case round =>
    obtain ⟨k, hk, rfl, hb, hB⟩ := hrel
    obtain ⟨wo, rfl⟩ : ∃ wo : World, wo = wr := ⟨_, rfl⟩
    have HB1 := Lib.hid hB; have HG1 := Lib.hid hb
    have hsz := hB.size
    clear hb hB
    by_cases hkn : k < n
    · have j1 : (k : Int) < (n : Int) := by omega
      go_wp2_with fail
      go_loopw [4] (fun i wr => ∃ i' : Nat, i' ≤ l k ∧ i = .int .i64 (i' : Nat) ∧ Bag wr B L n a l l c (fun j x => if j < k ∨ j = k ∧ x < i' then mkN j x else h j x) ∧ Bel B n a w wr) (fun i _ => l k - (intOf i).toNat)
      case atStart => exact ⟨0, by omega, rfl, HG1.out.congr fun j i _ _ => by
        by_cases e : j < k
        · rw [if_pos e, if_pos (Or.inl e)]
        · rw [if_neg e, if_neg (by omega)], HB1.out⟩
      case round =>
        obtain ⟨i, hi, rfl, hb, hB⟩ := hrel
        obtain ⟨wi, rfl⟩ : ∃ wi : World, wi = wr := ⟨_, rfl⟩
        have hlk := HL.out k
        by_cases hil : i < l k
        · obtain ⟨g, e, c2, fr⟩ := hb.at_ hkn hil
          have cl := hb.lst k hkn
          rw [e] at cl
          have i1 : (i : Int) < (l k : Int) := by omega
          have hset := hb.set hkn e HS.out HNO.out (i := i) (mkN k i)
          have hgB := (hb.lt hkn (show blk (a k) = some g by rw [e]; rfl)).1
          have HST := Lib.hid hset; have HB2 := Lib.hid hB; have E := Lib.hid e
          clear hset hb hB e
          generalize hv : (if k < k ∨ k = k ∧ i < i then mkN k i else h k i) = v0 at c2
          clear hv
          go_wp2_with fail
          refine Rb.wp_region_quiet_tail 9 (by kernel_rfl) (by kernel_rfl) ?_
          simp only [List.take_succ_cons, List.take_zero, List.drop_succ_cons, List.drop_zero]
          repeat (go_big_quiet_step ((go_at_call 29; exact Calls.quiet_of_same (markN_any k i _ _ rfl rfl (by omega) (by omega) _))))
          refine wpQuiet_nil ?_
          rintro _ ⟨kk, rfl⟩
          go_wp2
          go_roundw
          case rel =>
            refine ⟨i + 1, by omega, by go_num, ?_, (HB2.out.drewN hBw kk).grownRow (grownSet _ _ _ _) hBw hkn (show blk (a k) = some g by rw [E.out]; rfl) hgB⟩
            have := (HST.out.grown0 (w' := (wi.setCell ⟨g, i, none⟩ (.int .u8 (mkN k i : Nat))).drewN kk) (grownBelow (below_drewN (Below.refl _ _) kk) none)).congr (h' := fun j x => if j < k ∨ j = k ∧ x < i + 1 then mkN j x else h j x) fun j x _ _ => by
              by_cases e1 : j = k ∧ x = i
              · rw [if_pos e1, if_pos (by omega), e1.1, e1.2]
              · rw [if_neg e1]
                by_cases e2 : j < k ∨ j = k ∧ x < i
                · rw [if_pos e2, if_pos (by omega)]
                · rw [if_neg e2, if_neg (by omega)]
            exact this
          case measure => simp [intOf]; omega
        · obtain rfl : i = l k := by omega
          have cl := hb.lst k hkn
          have i1 : ¬ (l k : Int) < (l k : Int) := by omega
          have HG2 := Lib.hid (hb.congr (h' := fun j x => if j < k + 1 then mkN j x else h j x) fun j x _ hx => by
            by_cases e2 : j < k ∨ j = k ∧ x < l k
            · rw [if_pos e2, if_pos (by omega)]
            · rw [if_neg e2, if_neg (fun e => e2 (by rcases Nat.lt_or_ge j k with h | h; exact Or.inl h; obtain rfl : j = k := (by omega); exact Or.inr ⟨rfl, hx⟩))])
          have HB2 := Lib.hid hB
          clear hb hB
          go_wp2
          go_roundw
          case rel => exact ⟨k + 1, by omega, by go_num, HG2.out, HB2.out⟩
          case measure => simp [intOf]; omega
    · obtain rfl : n = k := by omega
      have HG2 := Lib.hid (HG1.out.congr (h' := mkN) fun j i hj _ => by rw [if_pos hj])
      clear HG1 HBG
      have j1 : ¬ (n : Int) < (n : Int) := by omega
      have hltG := fun j g (hj : j < n) (e : blk (a j) = some g) => (HG2.out.lt hj e).2
      have HLT := Lib.hid hltG; clear hltG
      have hLo : L < wo.heap.size := Nat.lt_of_lt_of_le hLw hsz
      go_wp2_with (at_make; refine wpList_make_full _ rfl _ _ _ rfl B 28 i1 (.slice none 0 0) 1 Tryz.underlying43 HI'.out HZ0'.out HZ1'.out .i64 .i64 _ _ n rfl rfl rfl rfl (by rw [HZ2'.out]; omega) (by unfold maxLen; omega) (by omega) ?_; intro w3 hown hgrow)
      obtain ⟨G, hG⟩ : ∃ G, G = wo.heap.size := ⟨_, rfl⟩
      rw [← hG] at hown HLT hLo ⊢
      have hgb : Gb w3 G n := by
        rcases hown.2 with ⟨h, _⟩ | ⟨g', cap', cur, h, _, hg, _, _, hs, _⟩
        · cases h
        · simp only [Value.slice.injEq, Option.some.injEq, Addr.mk.injEq, and_true, true_and] at h
          obtain ⟨rfl, rfl⟩ := h
          exact ⟨cur, hg, by simpa using hs⟩
      have HG3 := Lib.hid (HG2.out.grown0 hgrow); have HB3 := Lib.hid (HB1.out.grown0 hgrow hBw); have HGB := Lib.hid hgb
      have hnoG : Not a n G := fun j hj e => by have := HLT.out j G hj e; omega
      have HNG := Lib.hid hnoG
      have hBG : B ≤ G := by omega
      have hwG : w.heap.size ≤ G := by rw [hG]; exact hsz
      have hsG := hgb.lt
      clear hG hown hgrow hgb hnoG HG2
      go_loopw [6] (fun kv wr => ∃ (k' : Nat) (hf : Nat → Option Addr) (df : Nat → Nat), k' ≤ n ∧ kv = .int .i64 (k' : Nat) ∧ Bag wr B L n a l l c mkN ∧ Bag wr B G k' hf (fun j => l j + 64) (fun j => l j + 64) df mkN ∧ Gb wr G n ∧ Not hf k' G ∧ (∀ j i, j < k' → i < n → j ≠ i → blk (hf j) ≠ none → blk (hf j) ≠ blk (a i)) ∧ Bel B n a w wr) (fun kv _ => n - (intOf kv).toNat)
      case atStart => exact ⟨0, fun _ => none, fun _ => 0, by omega, rfl, HG3.out, ⟨fun k hk => by omega, fun k hk => by omega⟩, HGB.out, fun k hk => by omega, fun j i hj => by omega, HB3.out⟩
      case round =>
        obtain ⟨k, hf, df, hk, rfl, hb, hb2, gb, hng, hsh, hB⟩ := hrel
        obtain ⟨wq, rfl⟩ : ∃ wq : World, wq = wr := ⟨_, rfl⟩
        have HBL := Lib.hid hb; have HBGk := Lib.hid hb2; have HGBk := Lib.hid gb; have HB4 := Lib.hid hB; have HNH := Lib.hid hng; have HSH := Lib.hid hsh
        have hs4 := hB.size
        clear hb hb2 gb hng hsh hB
        by_cases hkn : k < n
        · have j2 : (k : Int) < (n : Int) := by omega
          have cl := HBL.out.lst k hkn
          have fx : Fix4 w wq B L G n k a hf := ⟨hkn, HS.out, HNO.out, HNG.out, HNH.out, HSH.out, fun j g hj e => (HBL.out.lt hj e).2, fun j g hj e => (HBGk.out.lt hj e).2, by omega, HGBk.out.lt, hBL, hBG, by omega, hBw, hs4, hwG⟩
          have FX := Lib.hid fx; clear fx
          have hlk := HL.out k
          go_wp2_with fail
          go_loopw [7, 8] (fun gv i wr => ∃ (i' : Nat) (gA : Option Addr) (gC : Nat), i' ≤ 64 ∧ i = .int .i64 (i' : Nat) ∧ gv = .slice gA (l k + i') gC ∧ St4 wq wr B L G n k i' a l c hf df gA gC ∧ Bel B n a w wr) (fun _ i _ => 64 - (intOf i).toNat)
          case atStart => exact ⟨0, a k, c k, by omega, rfl, rfl, ⟨HBL.out.own k hkn, Or.inl ⟨rfl, rfl⟩, HBL.out, HBGk.out, HGBk.out, Nat.le_refl _⟩, HB4.out⟩
          case round =>
            obtain ⟨i, gA, gC, hi, rfl, rfl, hst, hB⟩ := hrel
            obtain ⟨wi, rfl⟩ : ∃ wi : World, wi = wr := ⟨_, rfl⟩
            have cli := hst.bl.lst k hkn
            have ST := Lib.hid hst; have HBi := Lib.hid hB
            have hsi := hst.sz
            by_cases hi64 : i < 64
            · have i2 : (i : Int) < 64 := by omega
              clear hst hB
              go_wp2_with fail
              refine (markN_any k (l k + i) _ _ rfl (by omega) (by omega) (by omega) _).mono ?_
              rintro e w' ⟨rfl, rfl⟩
              go_wp2_with (at_builtin; refine wpList_append_bag _ rfl _ _ 28 rfl B 5 i0 (.int .u8 0) 1 Tryz.underlying28 HI.out HZ0.out HZ1.out HZ2.out rfl gA (l k + i) gC (rowv (mkN k) (l k + i)) rfl (ST.out.own.alloc _) _ 1 1 [.int .u8 (mkN k (l k + i) : Nat)] rfl rfl (cell_new1 _ _ _) (one_single _ _) (by decide) (by unfold maxLen; omega) (by omega) (by simp; omega) ?_; intro g cap' w6 hown6 hc6 hlt6; have HOWN6 := Lib.hid hown6; have HC6 := Lib.hid hc6; clear hown6 hc6 hlt6)
              have hstep := ST.out.step FX.out HBi.out HOWN6.out HC6.out
              have HSTEP := Lib.hid hstep; clear hstep HOWN6 HC6
              go_wp2
              go_roundw
              case rel => exact ⟨i + 1, _, cap', by omega, by go_num, rfl, HSTEP.out.1, HSTEP.out.2⟩
              case measure => simp [intOf]; omega
            · obtain rfl : i = 64 := by omega
              obtain ⟨v0, cg⟩ := hst.gb.cell hkn
              have fg := hst.gb.free k
              have HOUT := Lib.hid (hst.out FX.out hB)
              clear hst hB
              go_wp2
              go_roundw
              case rel =>
                obtain ⟨hf', df', h1, h2, h3, h4, h5, h6⟩ := HOUT.out
                exact ⟨k + 1, hf', df', by omega, by go_num, h1, h2, h3, h4, h5, h6⟩
              case measure => simp [intOf]; omega
        · obtain rfl : n = k := by omega
          have j2 : ¬ (n : Int) < (n : Int) := by omega
          go_wp2_with fail
          go_loopw [9] (fun kv wr => ∃ k' : Nat, k' ≤ n ∧ kv = .int .i64 (k' : Nat) ∧ ∃ q, wr = wq.drewN q) (fun kv _ => n - (intOf kv).toNat)
          case atStart => exact ⟨0, by omega, rfl, 0, rfl⟩
          case round =>
            obtain ⟨k, hk, rfl, q, rfl⟩ := hrel
            by_cases hkn : k < n
            · have j3 : (k : Int) < (n : Int) := by omega
              have clg : wq.cell? ⟨G, k, none⟩ = some (.slice (hf k) (l k + 64) (df k)) := HBGk.out.lst k hkn
              have hlk := HL.out k
              have CLG := Lib.hid clg; clear clg
              go_wp2_with fail
              go_loopw [10] (fun i wr => ∃ i' : Nat, i' ≤ l k + 64 ∧ i = .int .i64 (i' : Nat) ∧ ∃ q, wr = wq.drewN q) (fun i _ => l k + 64 - (intOf i).toNat)
              case atStart => exact ⟨0, by omega, rfl, q, rfl⟩
              case round =>
                obtain ⟨i, hi, rfl, q2, hq⟩ := hrel
                have hD := below_drewN (Below.refl wq.heap.size wq) q2
                rw [← hq] at hD
                have HBLr := Lib.hid (HBL.out.below hD); have HBGr := Lib.hid (HBGk.out.below hD); have HQ := Lib.hid hq
                have clg : wr.cell? ⟨G, k, none⟩ = some (.slice (hf k) (l k + 64) (df k)) := HBGr.out.lst k hkn
                clear hD hq
                by_cases hil : i < l k + 64
                · obtain ⟨g2, e2, c2, _⟩ := HBGr.out.at_ hkn (i := i) hil
                  rw [e2] at clg
                  have i3 : (i : Int) < ((l k + 64 : Nat) : Int) := by omega
                  have i4 : (i : Int) < (l k : Int) + 64 := by omega
                  have hmk : ∀ wx, Calls Tryz.prog 29 #[.int .i64 (k : Nat), .int .i64 (i : Nat)] wx fun e w' => e = .returned (.int .u8 (mkN k i : Nat)) ∧ w' = wx := fun wx => markN_any k i _ _ rfl rfl (by omega) (by omega) wx
                  have HMK := Lib.hid hmk; clear hmk
                  have gmk : (((mkN k i : Nat) : Int) == ((mkN k i : Nat) : Int)) = true := by simp
                  by_cases hl1 : i < l k
                  · obtain ⟨g1, e1, c1, _⟩ := HBLr.out.at_ hkn hl1
                    have cl := HBLr.out.lst k hkn
                    rw [e1] at cl
                    have i5 : (i : Int) < (l k : Int) := by omega
                    have d1 : decide ((i : Int) < (l k : Int)) = true := by simp; omega
                    have d2 : decide (i < l k) = true := by simp; omega
                    clear e1 e2
                    go_wp2_with fail
                    go_quiet ((go_at_call 29; exact Calls.quiet_of_same (HMK.out _)))
                    go_wp2
                    go_roundw
                    case rel => exact ⟨i + 1, by omega, by go_num, q2 + nq, by rw [HQ.out, World.drewN_drewN]⟩
                    case measure => simp [intOf]; omega
                  · have cl := HBLr.out.lst k hkn
                    have d1 : decide ((i : Int) < (l k : Int)) = false := by simp; omega
                    have d2 : decide (i < l k) = false := by simp; omega
                    clear e2
                    go_wp2_with fail
                    go_quiet ((go_at_call 29; exact Calls.quiet_of_same (HMK.out _)))
                    go_wp2
                    go_roundw
                    case rel => exact ⟨i + 1, by omega, by go_num, q2 + nq, by rw [HQ.out, World.drewN_drewN]⟩
                    case measure => simp [intOf]; omega
                · obtain rfl : i = l k + 64 := by omega
                  have i3 : ¬ ((l k + 64 : Nat) : Int) < ((l k + 64 : Nat) : Int) := by omega
                  go_wp2
                  go_roundw
                  case rel => exact ⟨k + 1, by omega, by go_num, q2, HQ.out⟩
                  case measure => simp [intOf]; omega
            · obtain rfl : n = k := by omega
              have j3 : ¬ (n : Int) < (n : Int) := by omega
              go_wp2_with fail
              have hD := below_drewN (Below.refl wq.heap.size wq) q
              obtain ⟨wp, hwp⟩ : ∃ wp, wp = wq.drewN q := ⟨_, rfl⟩
              rw [← hwp] at hD ⊢
              have HBLp := Lib.hid (HBL.out.below hD)
              have hF0 : Fin5 w wp B L G n 0 a l c (fun _ => none) (fun _ => 0) := ⟨HBLp.out, ⟨fun k hk => by omega, fun k hk => by omega⟩, HGBk.out.grown (grownBelow hD none) (by simp), fun k hk => by omega, fun j i hj => by omega, HB4.out.grown0 (grownBelow hD none) hBw⟩
              have HF0 := Lib.hid hF0
              clear hwp hD hF0 HBGk HGBk HNH HSH HBL HB4 HBLp
              go_loopw [11] (fun kv wr => ∃ (k' : Nat) (hf : Nat → Option Addr) (df : Nat → Nat), k' ≤ n ∧ kv = .int .i64 (k' : Nat) ∧ Fin5 w wr B L G n k' a l c hf df) (fun kv _ => n - (intOf kv).toNat)
              case atStart => exact ⟨0, _, _, by omega, rfl, HF0.out⟩
              case round =>
                obtain ⟨k, hf, df, hk, rfl, hF⟩ := hrel
                obtain ⟨wq, rfl⟩ : ∃ wq : World, wq = wr := ⟨_, rfl⟩
                have HF := Lib.hid hF
                have hs5 := hF.be.size
                clear hF
                by_cases hkn : k < n
                · have j4 : (k : Int) < (n : Int) := by omega
                  have hlk := HL.out k
                  have fx : Fix4 w wq B L G n k a hf := ⟨hkn, HS.out, HNO.out, HNG.out, HF.out.ng, HF.out.sh, fun j g hj e => (HF.out.bl.lt hj e).2, fun j g hj e => (HF.out.bg.lt hj e).2, by omega, HF.out.gb.lt, hBL, hBG, by omega, hBw, hs5, hwG⟩
                  have FX := Lib.hid fx; clear fx
                  go_wp2_with (at_make; refine wpList_make_full _ rfl _ _ _ rfl B 5 i0 (.int .u8 0) 1 Tryz.underlying28 HI.out HZ0.out HZ1.out .i64 .i64 _ _ 64 rfl rfl rfl rfl (by rw [HZ2.out]; omega) (by unfold maxLen; omega) (by omega) ?_; intro w7 hown7 hgrow7; have HOWN7 := Lib.hid hown7; have HGROW7 := Lib.hid hgrow7; clear hown7 hgrow7)
                  have hm0 : OzRow w7 B 5 1 (.slice (some ⟨wq.heap.size, 0, none⟩) 64 64) 64 (rowv (fun _ => 0) 64) := by
                    have := of_owns HOWN7.out
                    rwa [show (madeCells (Value.int .u8 0).cells (64 * 1)).toList = rowv (fun _ => 0) 64 by rw [show (Value.int .u8 0).cells = #[Value.int .u8 0] from rfl, toList_madeCells_one]; rfl] at this
                  obtain ⟨M, hM⟩ : ∃ M, M = wq.heap.size := ⟨_, rfl⟩
                  rw [← hM] at hm0 ⊢
                  have HF7 := Lib.hid (HF.out.grown0 HGROW7.out hBw); have HM0 := Lib.hid hm0
                  have hs7 := HGROW7.out.size
                  have HMM := Lib.hid hM
                  clear hm0 HOWN7 HGROW7 hM
                  go_loopw [13] (fun iv wr => ∃ (i' : Nat) (hM : Nat → Nat), i' ≤ 64 ∧ iv = .int .i64 (i' : Nat) ∧ OzRow wr B 5 1 (.slice (some ⟨M, 0, none⟩) 64 64) 64 (rowv hM 64) ∧ Fin5 w wr B L G n k a l c hf df ∧ wq.heap.size ≤ wr.heap.size) (fun iv _ => 64 - (intOf iv).toNat)
                  case atStart => exact ⟨0, _, by omega, rfl, HM0.out, HF7.out, hs7⟩
                  case round =>
                    obtain ⟨i, hM, hi, rfl, ho, hF, hs8⟩ := hrel
                    obtain ⟨wi, rfl⟩ : ∃ wi : World, wi = wr := ⟨_, rfl⟩
                    have HO := Lib.hid ho; have HFi := Lib.hid hF
                    by_cases hi64 : i < 64
                    · have i6 : (i : Int) < 64 := by omega
                      have c1 := ho.cellAt i (by omega)
                      rw [rowv_get hi64] at c1
                      have c2 := ho.frozenAt i
                      have hst := (ho.stored i (.int .u8 (mkN (n + k) i : Nat))).1
                      rw [rowv_set] at hst
                      have HST := Lib.hid hst
                      clear ho hF hst
                      go_wp2_with fail
                      refine (markN_any (n + k) i _ _ (by omega) rfl (by omega) (by omega) _).mono ?_
                      rintro e w' ⟨rfl, rfl⟩
                      go_wp2
                      go_roundw
                      case rel => exact ⟨i + 1, _, by omega, by go_num, HST.out, HFi.out.setM FX.out (by rw [HMM.out]; exact Nat.le_refl _) i _, by rw [World.size_setCell]; exact hs8⟩
                      case measure => simp [intOf]; omega
                    · obtain rfl : i = 64 := by omega
                      have cl := HFi.out.bl.lst k hkn
                      have hsB := HFi.out.be.size
                      clear ho hF
                      go_wp2_with (at_builtin; refine wpList_append_bag _ rfl _ _ 28 rfl B 5 i0 (.int .u8 0) 1 Tryz.underlying28 HI.out HZ0.out HZ1.out HZ2.out rfl (a k) (l k) (c k) (rowv (mkN k) (l k)) rfl (HFi.out.bl.own k hkn) ⟨M, 0, none⟩ 64 64 (rowv hM 64) rfl (rowv_len _ _) (HO.out.cells rfl) (rowv_ones _ _) (by decide) (by unfold maxLen; omega) (by omega) (by omega) ?_; intro g cap' w6 hown6 hc6 hlt6; have hap := HFi.out.app FX.out hs8 hown6 hc6; have HAP := Lib.hid hap; obtain ⟨v0, cg⟩ := hap.1.cell hkn; have fg := hap.1.free k; clear hap hown6 hc6 hlt6)
                      go_roundw
                      case rel =>
                        obtain ⟨_, hf', df', h6⟩ := HAP.out
                        exact ⟨k + 1, hf', df', by omega, by go_num, h6⟩
                      case measure => simp [intOf]; omega
                · obtain rfl : n = k := by omega
                  have j4 : ¬ (n : Int) < (n : Int) := by omega
                  go_wp2_with fail
                  go_loopw [14] (fun kv wr => ∃ k' : Nat, k' ≤ n ∧ kv = .int .i64 (k' : Nat) ∧ ∃ q, wr = wq.drewN q) (fun kv _ => n - (intOf kv).toNat)
                  case atStart => exact ⟨0, by omega, rfl, 0, rfl⟩
                  case round =>
                    obtain ⟨k, hk, rfl, q, rfl⟩ := hrel
                    by_cases hkn : k < n
                    · have j3 : (k : Int) < (n : Int) := by omega
                      have hlk := HL.out k
                      have cl0 := HF.out.bl.lst k hkn
                      go_wp2_with fail
                      go_loopw [15] (fun i wr => ∃ i' : Nat, i' ≤ l k ∧ i = .int .i64 (i' : Nat) ∧ ∃ q, wr = wq.drewN q) (fun i _ => l k - (intOf i).toNat)
                      case atStart => exact ⟨0, by omega, rfl, q, rfl⟩
                      case round =>
                        obtain ⟨i, hi, rfl, q2, hq⟩ := hrel
                        have hD := below_drewN (Below.refl wq.heap.size wq) q2
                        rw [← hq] at hD
                        have HBLr := Lib.hid (HF.out.bl.below hD); have HBGr := Lib.hid (HF.out.bg.below hD); have HQ := Lib.hid hq
                        have clg : wr.cell? ⟨G, k, none⟩ = some (.slice (hf k) (l k + 64) (df k)) := HBGr.out.lst k hkn
                        have cl := HBLr.out.lst k hkn
                        clear hD hq
                        by_cases hil : i < l k
                        · obtain ⟨g2, e2, c2, _⟩ := HBGr.out.at_ hkn (i := i) hil
                          rw [e2] at clg
                          obtain ⟨g1, e1, c1, _⟩ := HBLr.out.at_ hkn hil
                          rw [e1] at cl
                          have i3 : (i : Int) < ((l k + 64 : Nat) : Int) := by omega
                          have i4 : (i : Int) < (l k : Int) + 64 := by omega
                          have i5 : (i : Int) < (l k : Int) := by omega
                          have hmk : ∀ wx, Calls Tryz.prog 29 #[.int .i64 (k : Nat), .int .i64 (i : Nat)] wx fun e w' => e = .returned (.int .u8 (mkN k i : Nat)) ∧ w' = wx := fun wx => markN_any k i _ _ rfl rfl (by omega) (by omega) wx
                          have HMK := Lib.hid hmk; clear hmk
                          have gmk : (((mkN k i : Nat) : Int) == ((mkN k i : Nat) : Int)) = true := by simp
                          clear e1 e2
                          go_wp2_with fail
                          go_quiet ((go_at_call 29; exact Calls.quiet_of_same (HMK.out _)))
                          go_wp2
                          go_roundw
                          case rel => exact ⟨i + 1, by omega, by go_num, q2 + nq, by rw [HQ.out, World.drewN_drewN]⟩
                          case measure => simp [intOf]; omega
                        · obtain rfl : i = l k := by omega
                          have i3 : ¬ (l k : Int) < (l k : Int) := by omega
                          go_wp2
                          go_roundw
                          case rel => exact ⟨k + 1, by omega, by go_num, q2, HQ.out⟩
                          case measure => simp [intOf]; omega
                    · obtain rfl : n = k := by omega
                      have j3 : ¬ (n : Int) < (n : Int) := by omega
                      go_wp2
                      go_ret
                      exact ⟨rfl, HF.out.be.drewN hBw q⟩
end Go.Proofs.YtjlmajopfeplpaaGreat.Oz

namespace Go.Proofs.YtjlmajopfeplpaaGreat.Oz
open Go.RowKit Go.Shelf

/-- a bag that holds lists of bytes alone. -/
def Bx (w : World) (b : Nat) (v : Value) : Prop :=
  w.heap[b]? = some (.cells #[.slice none 0 0, .slice none 0 0, .slice none 0 0, .slice none 0 0, .slice none 0 0, v, .slice none 0 0, .slice none 0 0, .slice none 0 0, .slice none 0 0, .slice none 0 0, .slice none 0 0, .slice none 0 0] 74 (0, 0))
theorem Bx.cell {w : World} {b : Nat} {v : Value} (h : Bx w b v) : w.cell? ⟨b, 5, none⟩ = some v := by rw [cell_of_row w b 5 _ _ _ h]; rfl
theorem Bx.other {w : World} {b i : Nat} {v : Value} (h : Bx w b v) (hi : i < 13) (h5 : i ≠ 5) : w.cell? ⟨b, i, none⟩ = some (.slice none 0 0) := by
  rw [cell_of_row w b i _ _ _ h]
  rcases i with _ | _ | _ | _ | _ | _ | _ | _ | _ | _ | _ | _ | _ | _ <;> first | rfl | omega
theorem Bx.free {w : World} {b : Nat} {v : Value} (h : Bx w b v) (i : Nat) : w.frozen? ⟨b, i, none⟩ = false := frozen_of_row w b i _ _ h
theorem Bx.lt {w : World} {b : Nat} {v : Value} (h : Bx w b v) : b < w.heap.size := (Array.getElem?_eq_some_iff.1 h).1
theorem Bx.grown {w w' : World} {b : Nat} {v : Value} {row : Option Nat} (h : Bx w b v) (hg : w.grownBy w' row) (hr : some b ≠ row) : Bx w' b v := (hg.block b h.lt hr).trans h
theorem Bx.set {w : World} {b : Nat} {v : Value} (h : Bx w b v) (u : Value) : Bx (w.setCell ⟨b, 5, none⟩ u) b u := heap_setCell_same w b 5 _ _ u h

set_option maxHeartbeats 4000000 in
set_option maxRecDepth 100000 in
theorem put_any (B b n cap : Nat) (pa a : Option Addr) (l c : Nat) (xs : List Value) (w : World) (hx : Bx w b (.slice pa n cap)) (ho : OzRow w B 28 1 (.slice pa n cap) n xs) (hb : blk pa ≠ some b) (hn : n ≤ 3000) (hB : B ≤ b) :
    Calls Tryz.prog 40 #[.pointer (some ⟨b, 0, none⟩), .slice a l c] w fun e w' => e = .returned (.tuple #[]) ∧
      ∃ pa' cap', Bx w' b (.slice pa' (n + 1) cap') ∧ OzRow w' B 28 1 (.slice pa' (n + 1) cap') (n + 1) (xs ++ [.slice a l c]) ∧ blk pa' ≠ some b ∧ Below B w w' := by
  have HX := Lib.hid hx; have HO := Lib.hid ho; have HB := Lib.hid hb
  obtain ⟨i1, hi', hz0', hz1', hz2'⟩ := info_parts (P := Tryz.prog) (e := 28) (z := .slice none 0 0) (size := 1) (bytes := 24) (by kernel_rfl)
  have HI' := Lib.hid hi'; have HZ0' := Lib.hid hz0'; have HZ1' := Lib.hid hz1'; have HZ2' := Lib.hid hz2'
  have c5 := hx.cell
  have hlt := hx.lt
  clear hi' hz0' hz1' hz2' ho hb hx
  go_enter Tryz.func40, Tryz.ntmps40
  go_wp2_with (at_builtin; refine wpList_append_bag _ rfl _ _ 43 rfl B 28 i1 (.slice none 0 0) 24 Tryz.underlying43 HI'.out HZ0'.out HZ1'.out HZ2'.out rfl pa n cap xs rfl (HO.out.alloc _) _ 1 1 [.slice a l c] rfl rfl (cell_new1 _ _ _) (by intro u hu; rcases List.mem_singleton.1 hu with rfl; rfl) (by decide) (by unfold maxLen; omega) (by omega) (by simp; omega) ?_; intro g cap' w6 hown6 hc6 hlt6; have hbx : Bx w6 b (.slice pa n cap) ∧ b ≠ g ∧ Below B w w6 := (by
    have hx1 := HX.out.grown (grown_alloc w (.cells #[.slice a l c] 28)) (by simp)
    have hB1 := (Below.refl B w).alloc (by omega) (.cells #[.slice a l c] 28)
    have hgB := (hown6.lt g rfl).1
    rcases hc6 with ⟨e, _, hg⟩ | ⟨hge, hg⟩
    · have hne : b ≠ g := fun hh => HB.out (by rw [e, hh]; rfl)
      exact ⟨hx1.grown hg (fun hh => hne (by cases hh; rfl)), hne, hB1.grown hg (by simp; omega) (fun x hx => by cases hx; exact hgB)⟩
    · rw [World.size_alloc] at hge
      exact ⟨hx1.grown hg (by simp), by omega, hB1.grown hg (by simp; omega) (fun x hx => by cases hx)⟩); have HBX := Lib.hid hbx; have HOWN6 := Lib.hid hown6; have c6 := hbx.1.cell; have f6 := hbx.1.free 5; clear hbx hown6 hc6 hlt6)
  go_end0
  exact ⟨rfl, _, cap', HBX.out.1.set _, HOWN6.out.kept (grownSet _ _ _ _) (Or.inr (fun hh => HBX.out.2.1 (by cases hh; rfl))), fun hh => HBX.out.2.1 (by cases hh; rfl), HBX.out.2.2.setCell (p := ⟨b, 5, none⟩) hB _⟩

set_option maxHeartbeats 4000000 in
set_option maxRecDepth 100000 in
theorem apart_any (B b L n cap : Nat) (a : Nat → Option Addr) (l c : Nat → Nat) (h : Nat → Nat → Nat) (w : World) (hx : Bx w b (.slice (some ⟨L, 0, none⟩) n cap)) (hb : Bag w B L n a l l c h) (hs : Sep a n) (hno : Not a n L) (hnb : Not a n b) (hBL : B ≤ L) (hLw : L < w.heap.size) (hc : n ≤ cap) (hn : n ≤ 3000) (hl : ∀ k, l k ≤ 1000000) :
    Calls Tryz.prog 41 #[.pointer (some ⟨b, 0, none⟩)] w fun e w' => e = .returned (.bool true) ∧ Below B w w' := by
  have hBw : B ≤ w.heap.size := by omega
  have HX := Lib.hid hx; have HBG := Lib.hid hb; have HS := Lib.hid hs; have HNO := Lib.hid hno; have HNB := Lib.hid hnb; have HL := Lib.hid hl
  have HB := Lib.hid (Below.refl B w)
  have HSZ := Lib.hid hLw
  clear hb hs hno hnb hl hLw
  have c0 := hx.other (i := 0) (by omega) (by omega)
  clear hx
  go_enter Tryz.func41, Tryz.ntmps41
  go_wp2_with fail
  refine (flat0_limbs _).mono ?_
  rintro e w1 ⟨rfl, hB⟩
  have HX1 := Lib.hid (HX.out.grown (grownBelow hB none) (by simp))
  have HB1 := Lib.hid (HB.out.trans (hB.mono hBw))
  have HBG1 := Lib.hid (HBG.out.below hB); have HSZ1 := Lib.hid (Nat.lt_of_lt_of_le HSZ.out hB.size)
  clear hB
  have c1 := HX1.out.other (i := 1) (by omega) (by omega)
  go_wp2_with fail
  refine (flat0_words _).mono ?_
  rintro e w2 ⟨rfl, hB⟩
  have HX2 := Lib.hid (HX1.out.grown (grownBelow hB none) (by simp))
  have HB2 := Lib.hid (HB1.out.trans (hB.mono (Nat.le_trans hBw HB1.out.size)))
  have HBG2 := Lib.hid (HBG1.out.below hB); have HSZ2 := Lib.hid (Nat.lt_of_lt_of_le HSZ1.out hB.size)
  clear hB
  have c2 := HX2.out.other (i := 2) (by omega) (by omega)
  go_wp2_with fail
  refine (flat0_ints _).mono ?_
  rintro e w3 ⟨rfl, hB⟩
  have HX3 := Lib.hid (HX2.out.grown (grownBelow hB none) (by simp))
  have HB3 := Lib.hid (HB2.out.trans (hB.mono (Nat.le_trans hBw HB2.out.size)))
  have HBG3 := Lib.hid (HBG2.out.below hB); have HSZ3 := Lib.hid (Nat.lt_of_lt_of_le HSZ2.out hB.size)
  clear hB
  have c3 := HX3.out.other (i := 3) (by omega) (by omega)
  go_wp2_with fail
  refine (flat0_longs _).mono ?_
  rintro e w4 ⟨rfl, hB⟩
  have HX4 := Lib.hid (HX3.out.grown (grownBelow hB none) (by simp))
  have HB4 := Lib.hid (HB3.out.trans (hB.mono (Nat.le_trans hBw HB3.out.size)))
  have HBG4 := Lib.hid (HBG3.out.below hB); have HSZ4 := Lib.hid (Nat.lt_of_lt_of_le HSZ3.out hB.size)
  clear hB
  have c4 := HX4.out.other (i := 4) (by omega) (by omega)
  go_wp2_with fail
  refine (flat0_texts _).mono ?_
  rintro e w5 ⟨rfl, hB⟩
  have HX5 := Lib.hid (HX4.out.grown (grownBelow hB none) (by simp))
  have HB5 := Lib.hid (HB4.out.trans (hB.mono (Nat.le_trans hBw HB4.out.size)))
  have HBG5 := Lib.hid (HBG4.out.below hB); have HSZ5 := Lib.hid (Nat.lt_of_lt_of_le HSZ4.out hB.size)
  clear hB
  have c5 := HX5.out.cell
  go_wp2_with fail
  refine (flatBytes_any B L n cap a l c h _ HBG5.out HS.out HNO.out hBL HSZ5.out hc hn HL.out).mono ?_
  rintro e w6 ⟨rfl, hB⟩
  have HX6 := Lib.hid (show Bx w6 b (.slice (some ⟨L, 0, none⟩) n cap) from (hB.kp b HX5.out.lt HNB.out).trans HX5.out)
  have HB6 := Lib.hid (HB5.out.trans hB.be)
  clear hB
  have c6 := HX6.out.other (i := 6) (by omega) (by omega)
  go_wp2_with fail
  refine (flat0_truths _).mono ?_
  rintro e w7 ⟨rfl, hB⟩
  have HX7 := Lib.hid (HX6.out.grown (grownBelow hB none) (by simp))
  have HB7 := Lib.hid (HB6.out.trans (hB.mono (Nat.le_trans hBw HB6.out.size)))
  clear hB
  have c7 := HX7.out.other (i := 7) (by omega) (by omega)
  go_wp2_with fail
  refine (flat0_layers _).mono ?_
  rintro e w8 ⟨rfl, hB⟩
  have HX8 := Lib.hid (HX7.out.grown (grownBelow hB none) (by simp))
  have HB8 := Lib.hid (HB7.out.trans (hB.mono (Nat.le_trans hBw HB7.out.size)))
  clear hB
  have c8 := HX8.out.other (i := 8) (by omega) (by omega)
  go_wp2_with fail
  refine (flat0_table _).mono ?_
  rintro e w9 ⟨rfl, hB⟩
  have HX9 := Lib.hid (HX8.out.grown (grownBelow hB none) (by simp))
  have HB9 := Lib.hid (HB8.out.trans (hB.mono (Nat.le_trans hBw HB8.out.size)))
  clear hB
  have c9 := HX9.out.other (i := 9) (by omega) (by omega)
  go_wp2_with fail
  refine (flat0_heads _).mono ?_
  rintro e w10 ⟨rfl, hB⟩
  have HX10 := Lib.hid (HX9.out.grown (grownBelow hB none) (by simp))
  have HB10 := Lib.hid (HB9.out.trans (hB.mono (Nat.le_trans hBw HB9.out.size)))
  clear hB
  have c10 := HX10.out.other (i := 10) (by omega) (by omega)
  go_wp2_with fail
  refine (flat0_counts _).mono ?_
  rintro e w11 ⟨rfl, hB⟩
  have HX11 := Lib.hid (HX10.out.grown (grownBelow hB none) (by simp))
  have HB11 := Lib.hid (HB10.out.trans (hB.mono (Nat.le_trans hBw HB10.out.size)))
  clear hB
  have c11 := HX11.out.other (i := 11) (by omega) (by omega)
  go_wp2_with fail
  refine (flat0_notes _).mono ?_
  rintro e w12 ⟨rfl, hB⟩
  have HX12 := Lib.hid (HX11.out.grown (grownBelow hB none) (by simp))
  have HB12 := Lib.hid (HB11.out.trans (hB.mono (Nat.le_trans hBw HB11.out.size)))
  clear hB
  have c12 := HX12.out.other (i := 12) (by omega) (by omega)
  go_wp2_with fail
  refine (flat0_fates _).mono ?_
  rintro e w13 ⟨rfl, hB⟩
  have HX13 := Lib.hid (HX12.out.grown (grownBelow hB none) (by simp))
  have HB13 := Lib.hid (HB12.out.trans (hB.mono (Nat.le_trans hBw HB12.out.size)))
  clear hB
  go_wp2
  go_ret
  exact ⟨rfl, HB13.out⟩

set_option maxHeartbeats 4000000 in
set_option maxRecDepth 100000 in
/-- lists that lie apart. -/
theorem apartBytes_any (B A n cap : Nat) (a : Nat → Option Addr) (l c : Nat → Nat) (h : Nat → Nat → Nat) (w : World) (hb : Bag w B A n a l l c h) (hs : Sep a n) (_hA : A < w.heap.size) (hB' : B ≤ w.heap.size) (_hc : n ≤ cap) (hn : n ≤ 3000) (hn0 : 0 < n) (hl : ∀ k, l k ≤ 1000000) :
    Calls Tryz.prog 21 #[.slice (some ⟨A, 0, none⟩) n cap] w fun e w' => e = .returned (.bool true) ∧ Below B w w' := by
  have HBG := Lib.hid hb; have HS := Lib.hid hs; have HL := Lib.hid hl
  clear hb hs hl
  go_enter Tryz.func21, Tryz.ntmps21
  go_wp2_with fail
  obtain ⟨b, hbw⟩ : ∃ b, b = w.heap.size := ⟨_, rfl⟩
  have hx0 : Bx (w.alloc (.cells #[.slice none 0 0, .slice none 0 0, .slice none 0 0, .slice none 0 0, .slice none 0 0, .slice none 0 0, .slice none 0 0, .slice none 0 0, .slice none 0 0, .slice none 0 0, .slice none 0 0, .slice none 0 0, .slice none 0 0] 74)) w.heap.size (.slice none 0 0) := heap_alloc_new _ _
  rw [← hbw] at hx0 ⊢
  have HX0 := Lib.hid hx0; have HBW := Lib.hid hbw; clear hx0 hbw
  go_loopw [4] (fun kv wr => ∃ (k : Nat) (pa : Option Addr) (pc : Nat), k ≤ n ∧ kv = .int .i64 (k : Nat) ∧ Bx wr b (.slice pa k pc) ∧ OzRow wr b 28 1 (.slice pa k pc) k ((List.range k).map fun j => Value.slice (a j) (l j) (c j)) ∧ blk pa ≠ some b ∧ Below b w wr) (fun kv _ => n - (intOf kv).toNat)
  case atStart => exact ⟨0, none, 0, by omega, rfl, HX0.out, OzRow_nil _ _ _ _, by simp [blk], by rw [HBW.out]; exact (Below.refl _ _).alloc (Nat.le_refl _) _⟩
  case round =>
    obtain ⟨k, pa, pc, hk, rfl, hx, ho, hp, hB⟩ := hrel
    obtain ⟨wo, rfl⟩ : ∃ wo : World, wo = wr := ⟨_, rfl⟩
    have HX := Lib.hid hx; have HO := Lib.hid ho; have HP := Lib.hid hp; have HB1 := Lib.hid hB
    have hBg : Bag wo B A n a l l c h := HBG.out.below (by rw [← HBW.out]; exact hB)
    have HG := Lib.hid hBg
    have hsz := hB.size
    clear hx ho hp hB hBg
    by_cases hkn : k < n
    · have i1 : (k : Int) < (n : Int) := by omega
      have cl := HG.out.lst k hkn
      go_wp2_with fail
      refine (put_any b b k pc pa (a k) (l k) (c k) _ _ HX.out HO.out HP.out (by omega) (Nat.le_refl _)).mono ?_
      rintro e w1 ⟨rfl, pa', pc', hx, ho, hp, hB⟩
      have HX2 := Lib.hid hx; have HO2 := Lib.hid ho; have HP2 := Lib.hid hp; have HB2 := Lib.hid (HB1.out.trans hB)
      clear hx ho hp hB
      go_wp2
      go_roundw
      case rel => exact ⟨k + 1, pa', pc', by omega, by go_num, HX2.out, by rw [List.range_succ, List.map_append]; exact HO2.out, HP2.out, HB2.out⟩
      case measure => simp [intOf]; omega
    · obtain rfl : n = k := by omega
      have i1 : ¬ (n : Int) < (n : Int) := by omega
      obtain ⟨P, pc2, hpv, hPb, hPlt⟩ := HO.out.form hn0
      simp only [Value.slice.injEq, true_and] at hpv
      obtain ⟨rfl, rfl⟩ := hpv
      have hpc : n ≤ pc := by
        rcases HO.out.2 with ⟨h, _⟩ | ⟨g', cap', cur, h, _, hg, hnc, _, hs, _⟩
        · cases h
        · simp only [Value.slice.injEq, true_and] at h
          omega
      have hlt : ∀ j g, j < n → blk (a j) = some g → g < b := fun j g hj e => by rw [HBW.out]; exact (HBG.out.lt hj e).2
      have hbag : Bag wo B P n a l l c h := ⟨fun j hj => by
        rw [HO.out.cellAt j (by omega)]
        simp [hj], HG.out.own⟩
      go_wp2_with fail
      refine (apart_any B b P n pc a l c h _ HX.out hbag HS.out (fun j hj e => by have := hlt j P hj e; omega) (fun j hj e => by have := hlt j b hj e; omega) (by have := HBW.out; omega) hPlt hpc hn HL.out).mono ?_
      rintro e w2 ⟨rfl, hB⟩
      have HB3 := Lib.hid ((HB1.out.mono (show B ≤ b by rw [HBW.out]; exact hB')).trans hB)
      go_wp2
      go_ret
      exact ⟨rfl, HB3.out⟩
end Go.Proofs.YtjlmajopfeplpaaGreat.Oz
