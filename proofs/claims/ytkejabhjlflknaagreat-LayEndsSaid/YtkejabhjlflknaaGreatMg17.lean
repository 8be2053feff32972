import Derived.Test.YtkejabhjlflknaaGreatMg8
import Derived.Test.YtkejabhjlflknaaGreatMg16
namespace Go.Proofs.YtkejabhjlflknaaGreat
open Go.RowKit Go.Shelf

/-- the columns from one on, up to another one. -/
def cutf (f : Nat → Nat → Nat) (n lo m i j : Nat) : Nat := if i < n then sub (f i) lo m j else 0
theorem cutf_bm {f : Nat → Nat → Nat} (h : Mt.Bm f) (n lo m : Nat) : Mt.Bm (cutf f n lo m) := fun i j => by
  unfold cutf; split
  · exact sub_by (h i) lo m j
  · omega
theorem cpy_all {m n : Nat} {S F : Nat → Nat} (hmn : m = n) (hS : Pf.Up S n) (hF : Pf.Up F n) : cpy 0 m S F = S := funext fun i => by
  unfold cpy
  by_cases h : i < m
  · rw [if_pos (by omega), Nat.sub_zero]
  · rw [if_neg (by omega), hF i (by omega), hS i (by omega)]
theorem cutf_up (f : Nat → Nat → Nat) (n lo m i : Nat) : Pf.Up (cutf f n lo m i) m := fun j hj => by
  unfold cutf; split
  · exact sub_up _ lo m j hj
  · rfl
/-- what is written row by row: the first k rows. -/
def firstR (k : Nat) (f : Nat → Nat → Nat) (i j : Nat) : Nat := if i < k then f i j else 0
theorem firstR_bm {f : Nat → Nat → Nat} (h : Mt.Bm f) (k : Nat) : Mt.Bm (firstR k f) := fun i j => by
  unfold firstR; split
  · exact h i j
  · omega
theorem firstR_s (k : Nat) (f : Nat → Nat → Nat) (i j : Nat) : (if i = k then f k j else firstR k f i j) = firstR (k + 1) f i j := by
  unfold firstR
  by_cases e : i = k
  · subst e; rw [if_pos rfl, if_pos (by omega)]
  · rw [if_neg e]
    by_cases h : i < k
    · rw [if_pos h, if_pos (by omega)]
    · rw [if_neg h, if_neg (by omega)]

set_option maxHeartbeats 1000000 in
set_option maxRecDepth 100000 in
theorem cut_any (a : Option Addr) (n cap : Nat) (r : Nat → Option Addr) (l c : Nat → Nat) (f : Nat → Nat → Nat) (lo hi : Nat) (hn : n ≤ 1000000000) (hlo : lo ≤ hi) (hh : hi ≤ 1000000000) (w : World) (hR : Rd w a n cap r l c f) (hw : ∀ i, i < n → hi ≤ l i) :
    Calls Tryz.prog 136 #[.slice a n cap, .int .i64 (lo : Nat), .int .i64 (hi : Nat)] w (Makes w n (hi - lo) (cutf f n lo (hi - lo))) := by
  have HR := Lib.hid hR; have HW := Lib.hid hw; clear hR hw
  obtain ⟨m, hm⟩ : ∃ m, hi = lo + m := ⟨hi - lo, by omega⟩
  rw [show hi - lo = m by omega]
  have e2 : (hi : Int) - (lo : Int) = (m : Int) := by omega
  have HM := Lib.hid hm; clear hm
  go_enter Tryz.func136, Tryz.ntmps136
  go_wp2_with fail
  refine (blank_any n m hn (by have := HM.out; omega) _).mono ?_
  rintro e w1 ⟨G, b, rfl, hG, hB⟩
  have HG := Lib.hid hG; have HB := Lib.hid hB; clear hG hB e2
  have hst : Gr w1 w.heap.size G n n b (fun _ => m) (fun _ => m) (firstR 0 (cutf f n lo m)) := HG.out.congr (firstR_bm (cutf_bm HR.out.bm n lo m) 0) (fun _ _ _ => rfl)
  have HST := Lib.hid hst; clear hst
  go_wp2_with fail
  go_loopw [18] (fun i wr => ∃ k : Nat, k ≤ n ∧ i = .int .i64 k ∧ Gr wr w.heap.size G n n b (fun _ => m) (fun _ => m) (firstR k (cutf f n lo m)) ∧ Below w.heap.size w wr) (fun i _ => n - (intOf i).toNat)
  case atStart => exact ⟨0, by omega, rfl, HST.out, HB.out⟩
  case round =>
    rename_i wr
    obtain ⟨k, hk, rfl, hGr, hBe⟩ := hrel
    have HGr := Lib.hid hGr; have HBe := Lib.hid hBe
    clear hGr hBe
    by_cases hkn : k < n
    · have i1 : (k : Int) < (n : Int) := by omega
      have hRk := HR.out.same HBe.out
      obtain ⟨ab, ao, ea, hca⟩ := hRk.at_ hkn
      subst ea
      have hrow := hRk.row k hkn
      have hcb := HGr.out.cell hkn
      have hlk := HW.out k hkn
      have hlc := hrow.capOk
      have hmx := hrow.maxOk
      unfold maxLen at hmx
      have HROW := Lib.hid hrow; have HRK := Lib.hid hRk
      clear hrow hRk
      by_cases hm0 : m = 0
      · have HM0 := Lib.hid hm0; clear hm0
        have i2 : (lo : Int) ≤ (hi : Int) := by omega
        have i3 : (hi : Int) ≤ ((c k : Nat) : Int) := by omega
        go_wp2_with fail
        go_still_tail 8, (by kernel_rfl)
        change wpList _ _ _ _ _ wr.drew
        obtain ⟨w2, hw2⟩ : ∃ w2, w2 = wr.drew := ⟨_, rfl⟩
        have hG2 : Gr w2 w.heap.size G n n b (fun _ => m) (fun _ => m) (firstR k (cutf f n lo m)) := by rw [hw2]; exact HGr.out.drewN 1
        have hB2 : Below w.heap.size w w2 := by rw [hw2]; exact HBe.out.drew
        rw [← hw2]
        have HG2 := Lib.hid hG2; have HB2 := Lib.hid hB2; clear hG2 hB2 hw2
        refine wpList_copy_bl rfl (.tmp 26) (.tmp 30) 50 50 rfl 5 Tryz.underlying50 Tryz.sizeU8 _ _ _ _ _ _ 0 rfl rfl ?_ (b k) 0 m m _ (fun _ => 0) (HG2.out.row k hkn) (fun h => absurd h (Nat.lt_irrefl 0)) (fun _ => rfl) (by omega) (Nat.le_refl _) ?_
        · have := HM.out; have := HM0.out; show 0 = min (hi - lo) m; omega
        intro w3 HBL HGR
        go_wp2
        go_roundw
        case rel =>
          refine ⟨k + 1, by omega, by go_num, ?_, HB2.out.grown HGR.out HB2.out.size (fun g e => by cases e; exact HG2.out.lo.2 k hkn)⟩
          have hbl := HBL.out
          rw [cpy_zero] at hbl
          refine (HG2.out.rowset hkn HGR.out hbl (HG2.out.bm k) (HG2.out.up k hkn)).congr (firstR_bm (cutf_bm HR.out.bm n lo m) (k + 1)) (fun i j hi => ?_)
          rw [← firstR_s]
          have hz : ∀ i j, cutf f n lo m i j = 0 := fun i j => by
            unfold cutf sub
            split
            · rw [if_neg (by have := HM0.out; omega)]
            · rfl
          show (if i = k then firstR k (cutf f n lo m) k j else firstR k (cutf f n lo m) i j) = if i = k then cutf f n lo m k j else firstR k (cutf f n lo m) i j
          split
          · unfold firstR; rw [if_neg (by omega), hz]
          · rfl
        case measure => simp [intOf]; omega
      · obtain ⟨rb, ro, er, _⟩ := HROW.out.at_ (k := lo) (by have := HM.out; omega)
        rw [er] at hca
        have i2 : (lo : Int) ≤ (hi : Int) := by omega
        have i3 : (hi : Int) ≤ ((c k : Nat) : Int) := by omega
        have i4 : ¬ c k = lo := by have := HM.out; omega
        go_wp2_with fail
        have hsb : Sl wr (some ⟨rb, ro + lo, none⟩) (hi - lo) (c k - lo) (sub (f k) lo m) := by
          have h := HROW.out
          rw [er] at h
          rw [show hi - lo = m by have := HM.out; omega]
          exact h.sub (by have := HM.out; omega)
        have HSB := Lib.hid hsb; clear hsb
        go_still_tail 8, (by kernel_rfl)
        change wpList _ _ _ _ _ wr.drew
        obtain ⟨w2, hw2⟩ : ∃ w2, w2 = wr.drew := ⟨_, rfl⟩
        have hG2 : Gr w2 w.heap.size G n n b (fun _ => m) (fun _ => m) (firstR k (cutf f n lo m)) := by rw [hw2]; exact HGr.out.drewN 1
        have hS2 : Sl w2 (some ⟨rb, ro + lo, none⟩) (hi - lo) (c k - lo) (sub (f k) lo m) := by rw [hw2]; exact HSB.out.drewN 1
        have hB2 : Below w.heap.size w w2 := by rw [hw2]; exact HBe.out.drew
        rw [← hw2]
        have HG2 := Lib.hid hG2; have HS2 := Lib.hid hS2; have HB2 := Lib.hid hB2; clear hG2 hS2 hB2 hw2
        refine wpList_copy_bl rfl (.tmp 26) (.tmp 30) 50 50 rfl 5 Tryz.underlying50 Tryz.sizeU8 _ _ _ _ _ _ m rfl rfl ?_ (b k) 0 m m _ _ (HG2.out.row k hkn) (fun _ => HS2.out) (fun _ => rfl) (by omega) (Nat.le_refl _) ?_
        · have := HM.out; show m = min (hi - lo) m; omega
        intro w3 HBL HGR
        go_wp2
        go_roundw
        case rel =>
          refine ⟨k + 1, by omega, by go_num, ?_, HB2.out.grown HGR.out HB2.out.size (fun g e => by cases e; exact HG2.out.lo.2 k hkn)⟩
          have hx : cpy 0 m (sub (f k) lo m) (firstR k (cutf f n lo m) k) = cutf f n lo m k := by
            rw [cpy_all rfl (sub_up _ _ _) (fun j _ => by unfold firstR; rw [if_neg (by omega)])]
            funext j; unfold cutf; rw [if_pos hkn]
          have hbl := HBL.out
          rw [hx] at hbl
          exact (HG2.out.rowset hkn HGR.out hbl (cutf_bm HR.out.bm n lo m k) (cutf_up f n lo m k)).congr (firstR_bm (cutf_bm HR.out.bm n lo m) (k + 1)) (fun i j _ => firstR_s k (cutf f n lo m) i j)
        case measure => simp [intOf]; omega
    · obtain rfl : k = n := by omega
      go_wp2
      go_ret
      refine ⟨G, b, rfl, HGr.out.congr (cutf_bm HR.out.bm k lo m) (fun i j hi => ?_), HBe.out⟩
      unfold firstR; rw [if_pos hi]
end Go.Proofs.YtkejabhjlflknaaGreat

namespace Go.Proofs.YtkejabhjlflknaaGreat
open Go.RowKit Go.Shelf

/-- one matrix with another one behind each row. -/
def jn (f f' : Nat → Nat → Nat) (wl i j : Nat) : Nat := if j < wl then f i j else f' i (j - wl)
theorem jn_bm {f f' : Nat → Nat → Nat} (h : Mt.Bm f) (h' : Mt.Bm f') (wl : Nat) : Mt.Bm (jn f f' wl) := fun i j => by
  unfold jn; split
  · exact h i j
  · exact h' _ _
theorem jn_up {f f' : Nat → Nat → Nat} {wl wr i : Nat} (h' : Pf.Up (f' i) wr) : Pf.Up (jn f f' wl i) (wl + wr) := fun j hj => by
  unfold jn; rw [if_neg (by omega)]; exact h' _ (by omega)
theorem cpy_two {f f' : Nat → Nat → Nat} {wl wr k : Nat} (h' : Pf.Up (f' k) wr) : cpy wl wr (f' k) (cpy 0 wl (f k) (fun _ => 0)) = jn f f' wl k := funext fun j => by
  unfold cpy jn
  by_cases c : j < wl
  · rw [if_neg (by omega), if_pos (by omega), if_pos c, Nat.sub_zero]
  · rw [if_neg c]
    by_cases c2 : j < wl + wr
    · rw [if_pos (by omega)]
    · rw [if_neg (by omega), if_neg (by omega), h' _ (by omega)]

set_option maxHeartbeats 1000000 in
set_option maxRecDepth 100000 in
theorem joined_any (a a' : Option Addr) (n cap cap' : Nat) (r r' : Nat → Option Addr) (l c l' c' : Nat → Nat) (f f' : Nat → Nat → Nat) (hn : n ≤ 1000000) (h1 : wd n l ≤ 1000000) (h2 : wd n l' ≤ 1000000) (h3 : n ≠ 0 → 0 < wd n l') (w : World)
    (hR : Rd w a n cap r l c f) (hR' : Rd w a' n cap' r' l' c' f') (he : ∀ i, i < n → l i = l 0) (he' : ∀ i, i < n → l' i = l' 0) :
    Calls Tryz.prog 133 #[.slice a n cap, .slice a' n cap'] w (Makes w n (wd n l + wd n l') (jn f f' (wd n l))) := by
  have HR := Lib.hid hR; have HR' := Lib.hid hR'; have HE := Lib.hid he; have HE' := Lib.hid he'; clear hR hR' he he'
  go_enter Tryz.func133, Tryz.ntmps133
  go_wp2_with fail
  refine (sizes_yes a n cap r l c f (by omega) _ HR.out HE.out).mono ?_
  rintro e w1 ⟨rfl, q1, rfl⟩
  go_wp2_with fail
  refine (sizes_yes a' n cap' r' l' c' f' (by omega) _ (HR'.out.drewN q1) HE'.out).mono ?_
  rintro e w1 ⟨rfl, q2, rfl⟩
  have HWL := Lib.hid (show ∀ i, i < n → l i = wd n l from fun i hi => by rw [HE.out i hi]; unfold wd; rw [if_neg (by omega)])
  have HWR := Lib.hid (show ∀ i, i < n → l' i = wd n l' from fun i hi => by rw [HE'.out i hi]; unfold wd; rw [if_neg (by omega)])
  have H3 := Lib.hid h3; clear h3
  generalize wd n l = wl at *
  generalize wd n l' = wq at *
  go_wp2_with fail
  have e0 : ((wl : Nat) : Int) + ((wq : Nat) : Int) = ((wl + wq : Nat) : Int) := by omega
  rw [e0]
  clear e0
  refine (blank_any n (wl + wq) (by omega) (by omega) _).mono ?_
  rintro e w1 ⟨G, b, rfl, hG, hB⟩
  have HG := Lib.hid (show Gr w1 w.heap.size G n n b (fun _ => wl + wq) (fun _ => wl + wq) (fun _ _ => 0) from hG); have HB := Lib.hid (show Below w.heap.size w w1 from (below_dr (Below.refl _ w) (q1 + q2)).trans (by simpa using hB)); clear hG hB
  go_wp2_with fail
  have hjb := jn_bm HR.out.bm HR'.out.bm wl
  have hst : Gr w1 w.heap.size G n n b (fun _ => wl + wq) (fun _ => wl + wq) (firstR 0 (jn f f' wl)) := HG.out.congr (firstR_bm hjb 0) (fun _ _ _ => rfl)
  have HST := Lib.hid hst; have HJB := Lib.hid hjb; clear hst hjb
  go_loopw [34] (fun i wr => ∃ k : Nat, k ≤ n ∧ i = .int .i64 k ∧ Gr wr w.heap.size G n n b (fun _ => wl + wq) (fun _ => wl + wq) (firstR k (jn f f' wl)) ∧ Below w.heap.size w wr) (fun i _ => n - (intOf i).toNat)
  case atStart => exact ⟨0, by omega, rfl, HST.out, HB.out⟩
  case round =>
    rename_i wo
    obtain ⟨k, hk, rfl, hGr, hBe⟩ := hrel
    have HGr := Lib.hid hGr; have HBe := Lib.hid hBe
    clear hGr hBe
    by_cases hkn : k < n
    · have i1 : (k : Int) < (n : Int) := by omega
      have hRk := HR.out.same HBe.out
      have hRk' := HR'.out.same HBe.out
      obtain ⟨ab, ao, ea, hca⟩ := hRk.at_ hkn
      obtain ⟨ab', ao', ea', hca'⟩ := hRk'.at_ hkn
      subst ea ea'
      have hrow := hRk.row k hkn
      have hrow' := hRk'.row k hkn
      have hcb := HGr.out.cell hkn
      rw [HWL.out k hkn] at hrow hca
      rw [HWR.out k hkn] at hrow' hca'
      have HROW := Lib.hid hrow; have HROW' := Lib.hid hrow'
      have hwr0 := H3.out (by omega)
      clear hrow hrow' hRk hRk'
      have HFK := Lib.hid (show cpy 0 wl (f k) (firstR k (jn f f' wl) k) = cpy 0 wl (f k) (fun _ => 0) from by
        congr 1; funext j; unfold firstR; rw [if_neg (by omega)])
      go_wp2_with ((refine wpList_copy_bl (o := ⟨some 44, _, _, _, _, _⟩) rfl (.tmp 39) (.tmp 43) 50 50 rfl 5 Tryz.underlying50 Tryz.sizeU8 _ _ _ _ _ _ wl rfl rfl ?_ (b k) 0 (wl + wq) (wl + wq) _ _ (HGr.out.row k hkn) (fun _ => HROW.out) (fun _ => rfl) ?_ (Nat.le_refl _) ?_); (rotate_left 2); intro w3 HBL HGR)
      all_goals first | (show wl = min wl (wl + wq); omega) | omega | skip
      have hgr3 : Gr w3 w.heap.size G n n b (fun _ => wl + wq) (fun _ => wl + wq) (fun i j => if i = k then cpy 0 wl (f k) (fun _ => 0) j else firstR k (jn f f' wl) i j) := by
        have hbl := HBL.out
        rw [HFK.out] at hbl
        exact HGr.out.rowset hkn HGR.out hbl (cpy_by (HR.out.bm k) zero_by) (cpy_up (by omega) (zero_up _))
      have hbe3 : Below w.heap.size w w3 := HBe.out.grown HGR.out HBe.out.size (fun g e => by cases e; exact HGr.out.lo.2 k hkn)
      have HG3 := Lib.hid hgr3; have HB3 := Lib.hid hbe3
      have HROW3 := Lib.hid ((HR'.out.same hbe3).row k hkn)
      have hca3 := (HR'.out.same hbe3).cell _ rfl k hkn
      rw [HWR.out k hkn] at hca3
      clear hgr3 hbe3
      have i2 : (wl : Int) ≤ (wl : Int) + (wq : Int) := by omega
      have i4 : ¬ wl + wq = wl := by omega
      have i5 : ¬ wq = 0 := by omega
      go_still_tail 7, (by kernel_rfl)
      change wpList _ _ _ _ _ w3.drew
      obtain ⟨w4, hw4⟩ : ∃ w4, w4 = w3.drew := ⟨_, rfl⟩
      have hG4 : Gr w4 w.heap.size G n n b (fun _ => wl + wq) (fun _ => wl + wq) (fun i j => if i = k then cpy 0 wl (f k) (fun _ => 0) j else firstR k (jn f f' wl) i j) := by rw [hw4]; exact HG3.out.drewN 1
      have hS4 : Sl w4 (r' k) wq (c' k) (f' k) := by rw [hw4]; have := HROW3.out.drewN 1; rw [HWR.out k hkn] at this; exact this
      have hB4 : Below w.heap.size w w4 := by rw [hw4]; exact HB3.out.drew
      rw [← hw4]
      have HG4 := Lib.hid hG4; have HS4 := Lib.hid hS4; have HB4 := Lib.hid hB4; clear hG4 hS4 hB4 hw4
      refine wpList_copy_bl rfl (.tmp 47) (.tmp 51) 50 50 rfl 5 Tryz.underlying50 Tryz.sizeU8 _ _ _ _ _ _ wq rfl rfl ?_ (b k) wl (wl + wq) (wl + wq) _ _ (HG4.out.row k hkn) (fun _ => HS4.out) ?_ (Nat.le_refl _) (Nat.le_refl _) ?_
      · show wq = min wq _; omega
      · intro _; rfl
      intro w5 HBL5 HGR5
      go_wp2
      go_roundw
      case rel =>
        refine ⟨k + 1, by omega, by go_num, ?_, HB4.out.grown HGR5.out HB4.out.size (fun g e => by cases e; exact HG4.out.lo.2 k hkn)⟩
        have hbl := HBL5.out
        have hx : cpy wl wq (f' k) (fun j => if k = k then cpy 0 wl (f k) (fun _ => 0) j else firstR k (jn f f' wl) k j) = jn f f' wl k := by
          simp only [if_true]
          exact cpy_two HS4.out.up
        rw [hx] at hbl
        refine (HG4.out.rowset hkn HGR5.out hbl (HJB.out k) (jn_up HS4.out.up)).congr (firstR_bm HJB.out (k + 1)) (fun i j _ => ?_)
        rw [← firstR_s]
        show (if i = k then jn f f' wl k j else if i = k then _ else _) = _
        split <;> rfl
      case measure => simp [intOf]; omega
    · obtain rfl : k = n := by omega
      go_wp2
      go_ret
      refine ⟨G, b, rfl, HGr.out.congr HJB.out (fun i j hi => ?_), HBe.out⟩
      unfold firstR; rw [if_pos hi]
end Go.Proofs.YtkejabhjlflknaaGreat

namespace Go.Proofs.YtkejabhjlflknaaGreat
open Go.RowKit Go.Shelf

/-- the columns as rows, so far as rows were gone through: k whole ones, and m bytes of the next. -/
def trk (f : Nat → Nat → Nat) (k m i j : Nat) : Nat := if j < k ∨ (j = k ∧ i < m) then f j i else 0
theorem trk_bm {f : Nat → Nat → Nat} (h : Mt.Bm f) (k m : Nat) : Mt.Bm (trk f k m) := fun i j => by
  unfold trk; split
  · exact h j i
  · omega
theorem trk_s (f : Nat → Nat → Nat) (k m i j : Nat) : (if i = m then (if j = k then f k m else trk f k m m j) else trk f k m i j) = trk f k (m + 1) i j := by
  unfold trk
  by_cases e : i = m
  · subst e
    rw [if_pos rfl]
    by_cases c : j = k
    · subst c; rw [if_pos rfl, if_pos (Or.inr ⟨rfl, by omega⟩)]
    · rw [if_neg c]
      by_cases d : j < k
      · rw [if_pos (Or.inl d), if_pos (Or.inl d)]
      · rw [if_neg (by omega), if_neg (by omega)]
  · rw [if_neg e]
    by_cases d : j < k ∨ (j = k ∧ i < m)
    · rw [if_pos d, if_pos (by omega)]
    · rw [if_neg d, if_neg (by omega)]
theorem trk_end (f : Nat → Nat → Nat) (k m i j : Nat) (h : i < m) : trk f k m i j = trk f (k + 1) 0 i j := by
  unfold trk
  by_cases d : j < k ∨ (j = k ∧ i < m)
  · rw [if_pos d, if_pos (by omega)]
  · rw [if_neg d, if_neg (by omega)]

set_option maxHeartbeats 1000000 in
set_option maxRecDepth 100000 in
theorem unit_any (n : Nat) (hn : n ≤ 1000000) (w : World) :
    Calls Tryz.prog 134 #[.int .i64 (n : Nat)] w (Makes w n n (cutf Mt.dl n 0 n)) := by
  have hfb := cutf_bm Mt.dl_lt n 0 n
  have HFB := Lib.hid hfb; clear hfb
  have HS := Lib.hid (show ∀ k, k < n → ∀ i j, (if i = k then (if j = k then 1 else firstR k (cutf Mt.dl n 0 n) k j) else firstR k (cutf Mt.dl n 0 n) i j) = firstR (k + 1) (cutf Mt.dl n 0 n) i j from fun k hk i j => by
    rw [← firstR_s k]
    by_cases e : i = k
    · rw [if_pos e, if_pos e]
      by_cases c : j = k
      · subst c
        rw [if_pos rfl]
        unfold cutf sub
        rw [if_pos hk, if_pos hk, Nat.zero_add, Mt.dl_same]
      · rw [if_neg c]
        unfold firstR cutf sub
        rw [if_neg (by omega), if_pos hk]
        split
        · rw [Nat.zero_add, Mt.dl_ne (fun h => c h.symm)]
        · rfl
    · rw [if_neg e, if_neg e])
  go_enter Tryz.func134, Tryz.ntmps134
  go_wp2_with fail
  refine (blank_any n n (by omega) (by omega) _).mono ?_
  rintro e w1 ⟨G, b, rfl, hG, hB⟩
  have hst : Gr w1 w.heap.size G n n b (fun _ => n) (fun _ => n) (firstR 0 (cutf Mt.dl n 0 n)) := hG.congr (firstR_bm HFB.out 0) (fun _ _ _ => rfl)
  have HST := Lib.hid hst; have HB := Lib.hid hB; clear hG hB hst
  go_wp2_with fail
  go_loopw [11] (fun i wr => ∃ k : Nat, k ≤ n ∧ i = .int .i64 k ∧ Gr wr w.heap.size G n n b (fun _ => n) (fun _ => n) (firstR k (cutf Mt.dl n 0 n)) ∧ Below w.heap.size w wr) (fun i _ => n - (intOf i).toNat)
  case atStart => exact ⟨0, by omega, rfl, HST.out, HB.out⟩
  case round =>
    rename_i wr
    obtain ⟨k, hk, rfl, hGr, hBe⟩ := hrel
    have HGr := Lib.hid hGr; have HBe := Lib.hid hBe
    clear hGr hBe
    by_cases hkn : k < n
    · have i1 : (k : Int) < (n : Int) := by omega
      have hcb := HGr.out.cell hkn
      have hcc := (HGr.out.row k hkn).cell hkn
      have hfr := (HGr.out.row k hkn).free k
      go_wp2_with fail
      go_roundw
      case rel => exact ⟨k + 1, by omega, by go_num, (HGr.out.set (v := 1) hkn hkn (by omega)).congr (firstR_bm HFB.out (k + 1)) (fun i j _ => HS.out k hkn i j), HBe.out.setCell (p := ⟨b k, k, none⟩) (HGr.out.lo.2 k hkn) _⟩
      case measure => simp [intOf]; omega
    · obtain rfl : k = n := by omega
      go_wp2
      go_ret
      exact ⟨G, b, rfl, HGr.out.congr HFB.out (fun i j hi => if_pos hi), HBe.out⟩
end Go.Proofs.YtkejabhjlflknaaGreat
