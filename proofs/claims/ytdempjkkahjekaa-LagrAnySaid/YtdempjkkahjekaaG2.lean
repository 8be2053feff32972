import Derived.Test.YtdempjkkahjekaaG1
import Derived.Test.YtdempjkkahjekaaCp
namespace Go.Proofs.Ytdempjkkahjekaa
open Go.RowKit Go.Shelf

/-- the columns from one on, up to another one. -/
def cutf (f : Nat → Nat → Nat) (n lo m i j : Nat) : Nat := if i < n then sub (f i) lo m j else 0
theorem cutf_bm {f : Nat → Nat → Nat} (h : Mt.Bm f) (n lo m : Nat) : Mt.Bm (cutf f n lo m) := fun i j => by
  unfold cutf; split
  · exact sub_by (h i) lo m j
  · omega
theorem cpy_all {m n : Nat} {S F : Nat → Nat} (hmn : m = n) (hS : Pf.Up S n) (hF : Pf.Up F n) : cpy 0 m S F = S := funext fun i => by
  unfold cpy
  by_cases h : i < m
  · rw [if_pos (by omega), Nat.sub_zero]
  · rw [if_neg (by omega), hF i (by omega), hS i (by omega)]
theorem cutf_up (f : Nat → Nat → Nat) (n lo m i : Nat) : Pf.Up (cutf f n lo m i) m := fun j hj => by
  unfold cutf; split
  · exact sub_up _ lo m j hj
  · rfl
/-- what is written row by row: the first k rows. -/
def firstR (k : Nat) (f : Nat → Nat → Nat) (i j : Nat) : Nat := if i < k then f i j else 0
theorem firstR_bm {f : Nat → Nat → Nat} (h : Mt.Bm f) (k : Nat) : Mt.Bm (firstR k f) := fun i j => by
  unfold firstR; split
  · exact h i j
  · omega
theorem firstR_s (k : Nat) (f : Nat → Nat → Nat) (i j : Nat) : (if i = k then f k j else firstR k f i j) = firstR (k + 1) f i j := by
  unfold firstR
  by_cases e : i = k
  · subst e; rw [if_pos rfl, if_pos (by omega)]
  · rw [if_neg e]
    by_cases h : i < k
    · rw [if_pos h, if_pos (by omega)]
    · rw [if_neg h, if_neg (by omega)]

set_option maxHeartbeats 1000000 in
set_option maxRecDepth 100000 in
theorem cut_any (a : Option Addr) (n cap : Nat) (r : Nat → Option Addr) (l c : Nat → Nat) (f : Nat → Nat → Nat) (lo hi : Nat) (hn : n ≤ 1000000000) (hlo : lo ≤ hi) (hh : hi ≤ 1000000000) (w : World) (hR : Rd w a n cap r l c f) (hw : ∀ i, i < n → hi ≤ l i) :
    Calls Try.prog 39 #[.slice a n cap, .int .i64 (lo : Nat), .int .i64 (hi : Nat)] w (Makes w n (hi - lo) (cutf f n lo (hi - lo))) := by
  have HR := Lib.hid hR; have HW := Lib.hid hw; clear hR hw
  obtain ⟨m, hm⟩ : ∃ m, hi = lo + m := ⟨hi - lo, by omega⟩
  rw [show hi - lo = m by omega]
  have e2 : (hi : Int) - (lo : Int) = (m : Int) := by omega
  have HM := Lib.hid hm; clear hm
  go_enter Try.func39, Try.ntmps39
  go_wp2_with fail
  refine (blank_any n m hn (by have := HM.out; omega) _).mono ?_
  rintro e w1 ⟨G, b, rfl, hG, hB⟩
  have HG := Lib.hid hG; have HB := Lib.hid hB; clear hG hB e2
  have hst : Gr w1 w.heap.size G n n b (fun _ => m) (fun _ => m) (firstR 0 (cutf f n lo m)) := HG.out.congr (firstR_bm (cutf_bm HR.out.bm n lo m) 0) (fun _ _ _ => rfl)
  have HST := Lib.hid hst; clear hst
  go_wp2_with fail
  go_loopw [18] (fun i wr => ∃ k : Nat, k ≤ n ∧ i = .int .i64 k ∧ Gr wr w.heap.size G n n b (fun _ => m) (fun _ => m) (firstR k (cutf f n lo m)) ∧ Below w.heap.size w wr) (fun i _ => n - (intOf i).toNat)
  case atStart => exact ⟨0, by omega, rfl, HST.out, HB.out⟩
  case round =>
    rename_i wr
    obtain ⟨k, hk, rfl, hGr, hBe⟩ := hrel
    have HGr := Lib.hid hGr; have HBe := Lib.hid hBe
    clear hGr hBe
    by_cases hkn : k < n
    · have i1 : (k : Int) < (n : Int) := by omega
      have hRk := HR.out.same HBe.out
      obtain ⟨ab, ao, ea, hca⟩ := hRk.at_ hkn
      subst ea
      have hrow := hRk.row k hkn
      have hcb := HGr.out.cell hkn
      have hlk := HW.out k hkn
      have hlc := hrow.capOk
      have hmx := hrow.maxOk
      unfold maxLen at hmx
      have HROW := Lib.hid hrow; have HRK := Lib.hid hRk
      clear hrow hRk
      by_cases hm0 : m = 0
      · have HM0 := Lib.hid hm0; clear hm0
        have i2 : (lo : Int) ≤ (hi : Int) := by omega
        have i3 : (hi : Int) ≤ ((c k : Nat) : Int) := by omega
        go_wp2_with fail
        go_still_tail 8, (by kernel_rfl)
        change wpList _ _ _ _ _ wr.drew
        obtain ⟨w2, hw2⟩ : ∃ w2, w2 = wr.drew := ⟨_, rfl⟩
        have hG2 : Gr w2 w.heap.size G n n b (fun _ => m) (fun _ => m) (firstR k (cutf f n lo m)) := by rw [hw2]; exact HGr.out.drewN 1
        have hB2 : Below w.heap.size w w2 := by rw [hw2]; exact HBe.out.drew
        rw [← hw2]
        have HG2 := Lib.hid hG2; have HB2 := Lib.hid hB2; clear hG2 hB2 hw2
        refine wpList_copy_bl rfl (.tmp 26) (.tmp 30) 22 22 rfl 5 Try.underlying22 Try.sizeU8 _ _ _ _ _ _ 0 rfl rfl ?_ (b k) 0 m m _ (fun _ => 0) (HG2.out.row k hkn) (fun h => absurd h (Nat.lt_irrefl 0)) (fun _ => rfl) (by omega) (Nat.le_refl _) ?_
        · have := HM.out; have := HM0.out; show 0 = min (hi - lo) m; omega
        intro w3 HBL HGR
        go_wp2
        go_roundw
        case rel =>
          refine ⟨k + 1, by omega, by go_num, ?_, HB2.out.grown HGR.out HB2.out.size (fun g e => by cases e; exact HG2.out.lo.2 k hkn)⟩
          have hbl := HBL.out
          rw [cpy_zero] at hbl
          refine (HG2.out.rowset hkn HGR.out hbl (HG2.out.bm k) (HG2.out.up k hkn)).congr (firstR_bm (cutf_bm HR.out.bm n lo m) (k + 1)) (fun i j hi => ?_)
          rw [← firstR_s]
          have hz : ∀ i j, cutf f n lo m i j = 0 := fun i j => by
            unfold cutf sub
            split
            · rw [if_neg (by have := HM0.out; omega)]
            · rfl
          show (if i = k then firstR k (cutf f n lo m) k j else firstR k (cutf f n lo m) i j) = if i = k then cutf f n lo m k j else firstR k (cutf f n lo m) i j
          split
          · unfold firstR; rw [if_neg (by omega), hz]
          · rfl
        case measure => simp [intOf]; omega
      · obtain ⟨rb, ro, er, _⟩ := HROW.out.at_ (k := lo) (by have := HM.out; omega)
        rw [er] at hca
        have i2 : (lo : Int) ≤ (hi : Int) := by omega
        have i3 : (hi : Int) ≤ ((c k : Nat) : Int) := by omega
        have i4 : ¬ c k = lo := by have := HM.out; omega
        go_wp2_with fail
        have hsb : Sl wr (some ⟨rb, ro + lo, none⟩) (hi - lo) (c k - lo) (sub (f k) lo m) := by
          have h := HROW.out
          rw [er] at h
          rw [show hi - lo = m by have := HM.out; omega]
          exact h.sub (by have := HM.out; omega)
        have HSB := Lib.hid hsb; clear hsb
        go_still_tail 8, (by kernel_rfl)
        change wpList _ _ _ _ _ wr.drew
        obtain ⟨w2, hw2⟩ : ∃ w2, w2 = wr.drew := ⟨_, rfl⟩
        have hG2 : Gr w2 w.heap.size G n n b (fun _ => m) (fun _ => m) (firstR k (cutf f n lo m)) := by rw [hw2]; exact HGr.out.drewN 1
        have hS2 : Sl w2 (some ⟨rb, ro + lo, none⟩) (hi - lo) (c k - lo) (sub (f k) lo m) := by rw [hw2]; exact HSB.out.drewN 1
        have hB2 : Below w.heap.size w w2 := by rw [hw2]; exact HBe.out.drew
        rw [← hw2]
        have HG2 := Lib.hid hG2; have HS2 := Lib.hid hS2; have HB2 := Lib.hid hB2; clear hG2 hS2 hB2 hw2
        refine wpList_copy_bl rfl (.tmp 26) (.tmp 30) 22 22 rfl 5 Try.underlying22 Try.sizeU8 _ _ _ _ _ _ m rfl rfl ?_ (b k) 0 m m _ _ (HG2.out.row k hkn) (fun _ => HS2.out) (fun _ => rfl) (by omega) (Nat.le_refl _) ?_
        · have := HM.out; show m = min (hi - lo) m; omega
        intro w3 HBL HGR
        go_wp2
        go_roundw
        case rel =>
          refine ⟨k + 1, by omega, by go_num, ?_, HB2.out.grown HGR.out HB2.out.size (fun g e => by cases e; exact HG2.out.lo.2 k hkn)⟩
          have hx : cpy 0 m (sub (f k) lo m) (firstR k (cutf f n lo m) k) = cutf f n lo m k := by
            rw [cpy_all rfl (sub_up _ _ _) (fun j _ => by unfold firstR; rw [if_neg (by omega)])]
            funext j; unfold cutf; rw [if_pos hkn]
          have hbl := HBL.out
          rw [hx] at hbl
          exact (HG2.out.rowset hkn HGR.out hbl (cutf_bm HR.out.bm n lo m k) (cutf_up f n lo m k)).congr (firstR_bm (cutf_bm HR.out.bm n lo m) (k + 1)) (fun i j _ => firstR_s k (cutf f n lo m) i j)
        case measure => simp [intOf]; omega
    · obtain rfl : k = n := by omega
      go_wp2
      go_ret
      refine ⟨G, b, rfl, HGr.out.congr (cutf_bm HR.out.bm k lo m) (fun i j hi => ?_), HBe.out⟩
      unfold firstR; rw [if_pos hi]
end Go.Proofs.Ytdempjkkahjekaa
