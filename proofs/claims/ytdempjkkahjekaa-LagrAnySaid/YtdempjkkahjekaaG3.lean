import Derived.Test.YtdempjkkahjekaaG2
namespace Go.Proofs.Ytdempjkkahjekaa
open Go.RowKit Go.Shelf

/-- one matrix with another one behind each row. -/
def jn (f f' : Nat → Nat → Nat) (wl i j : Nat) : Nat := if j < wl then f i j else f' i (j - wl)
theorem jn_bm {f f' : Nat → Nat → Nat} (h : Mt.Bm f) (h' : Mt.Bm f') (wl : Nat) : Mt.Bm (jn f f' wl) := fun i j => by
  unfold jn; split
  · exact h i j
  · exact h' _ _
theorem jn_up {f f' : Nat → Nat → Nat} {wl wr i : Nat} (h' : Pf.Up (f' i) wr) : Pf.Up (jn f f' wl i) (wl + wr) := fun j hj => by
  unfold jn; rw [if_neg (by omega)]; exact h' _ (by omega)
theorem cpy_two {f f' : Nat → Nat → Nat} {wl wr k : Nat} (h' : Pf.Up (f' k) wr) : cpy wl wr (f' k) (cpy 0 wl (f k) (fun _ => 0)) = jn f f' wl k := funext fun j => by
  unfold cpy jn
  by_cases c : j < wl
  · rw [if_neg (by omega), if_pos (by omega), if_pos c, Nat.sub_zero]
  · rw [if_neg c]
    by_cases c2 : j < wl + wr
    · rw [if_pos (by omega)]
    · rw [if_neg (by omega), if_neg (by omega), h' _ (by omega)]

set_option maxHeartbeats 1000000 in
set_option maxRecDepth 100000 in
theorem joined_any (a a' : Option Addr) (n cap cap' : Nat) (r r' : Nat → Option Addr) (l c l' c' : Nat → Nat) (f f' : Nat → Nat → Nat) (hn : n ≤ 1000000) (h1 : wd n l ≤ 1000000) (h2 : wd n l' ≤ 1000000) (h3 : n ≠ 0 → 0 < wd n l') (w : World)
    (hR : Rd w a n cap r l c f) (hR' : Rd w a' n cap' r' l' c' f') (he : ∀ i, i < n → l i = l 0) (he' : ∀ i, i < n → l' i = l' 0) :
    Calls Try.prog 36 #[.slice a n cap, .slice a' n cap'] w (Makes w n (wd n l + wd n l') (jn f f' (wd n l))) := by
  have HR := Lib.hid hR; have HR' := Lib.hid hR'; have HE := Lib.hid he; have HE' := Lib.hid he'; clear hR hR' he he'
  go_enter Try.func36, Try.ntmps36
  go_wp2_with fail
  refine (sizes_yes a n cap r l c f (by omega) _ HR.out HE.out).mono ?_
  rintro e w1 ⟨rfl, q1, rfl⟩
  go_wp2_with fail
  refine (sizes_yes a' n cap' r' l' c' f' (by omega) _ (HR'.out.drewN q1) HE'.out).mono ?_
  rintro e w1 ⟨rfl, q2, rfl⟩
  have HWL := Lib.hid (show ∀ i, i < n → l i = wd n l from fun i hi => by rw [HE.out i hi]; unfold wd; rw [if_neg (by omega)])
  have HWR := Lib.hid (show ∀ i, i < n → l' i = wd n l' from fun i hi => by rw [HE'.out i hi]; unfold wd; rw [if_neg (by omega)])
  have H3 := Lib.hid h3; clear h3
  generalize wd n l = wl at *
  generalize wd n l' = wq at *
  go_wp2_with fail
  have e0 : ((wl : Nat) : Int) + ((wq : Nat) : Int) = ((wl + wq : Nat) : Int) := by omega
  rw [e0]
  clear e0
  refine (blank_any n (wl + wq) (by omega) (by omega) _).mono ?_
  rintro e w1 ⟨G, b, rfl, hG, hB⟩
  have HG := Lib.hid (show Gr w1 w.heap.size G n n b (fun _ => wl + wq) (fun _ => wl + wq) (fun _ _ => 0) from hG); have HB := Lib.hid (show Below w.heap.size w w1 from (below_dr (Below.refl _ w) (q1 + q2)).trans (by simpa using hB)); clear hG hB
  go_wp2_with fail
  have hjb := jn_bm HR.out.bm HR'.out.bm wl
  have hst : Gr w1 w.heap.size G n n b (fun _ => wl + wq) (fun _ => wl + wq) (firstR 0 (jn f f' wl)) := HG.out.congr (firstR_bm hjb 0) (fun _ _ _ => rfl)
  have HST := Lib.hid hst; have HJB := Lib.hid hjb; clear hst hjb
  go_loopw [34] (fun i wr => ∃ k : Nat, k ≤ n ∧ i = .int .i64 k ∧ Gr wr w.heap.size G n n b (fun _ => wl + wq) (fun _ => wl + wq) (firstR k (jn f f' wl)) ∧ Below w.heap.size w wr) (fun i _ => n - (intOf i).toNat)
  case atStart => exact ⟨0, by omega, rfl, HST.out, HB.out⟩
  case round =>
    rename_i wo
    obtain ⟨k, hk, rfl, hGr, hBe⟩ := hrel
    have HGr := Lib.hid hGr; have HBe := Lib.hid hBe
    clear hGr hBe
    by_cases hkn : k < n
    · have i1 : (k : Int) < (n : Int) := by omega
      have hRk := HR.out.same HBe.out
      have hRk' := HR'.out.same HBe.out
      obtain ⟨ab, ao, ea, hca⟩ := hRk.at_ hkn
      obtain ⟨ab', ao', ea', hca'⟩ := hRk'.at_ hkn
      subst ea ea'
      have hrow := hRk.row k hkn
      have hrow' := hRk'.row k hkn
      have hcb := HGr.out.cell hkn
      rw [HWL.out k hkn] at hrow hca
      rw [HWR.out k hkn] at hrow' hca'
      have HROW := Lib.hid hrow; have HROW' := Lib.hid hrow'
      have hwr0 := H3.out (by omega)
      clear hrow hrow' hRk hRk'
      have HFK := Lib.hid (show cpy 0 wl (f k) (firstR k (jn f f' wl) k) = cpy 0 wl (f k) (fun _ => 0) from by
        congr 1; funext j; unfold firstR; rw [if_neg (by omega)])
      go_wp2_with ((refine wpList_copy_bl (o := ⟨some 44, _, _, _, _, _⟩) rfl (.tmp 39) (.tmp 43) 22 22 rfl 5 Try.underlying22 Try.sizeU8 _ _ _ _ _ _ wl rfl rfl ?_ (b k) 0 (wl + wq) (wl + wq) _ _ (HGr.out.row k hkn) (fun _ => HROW.out) (fun _ => rfl) ?_ (Nat.le_refl _) ?_); (rotate_left 2); intro w3 HBL HGR)
      all_goals first | (show wl = min wl (wl + wq); omega) | omega | skip
      have hgr3 : Gr w3 w.heap.size G n n b (fun _ => wl + wq) (fun _ => wl + wq) (fun i j => if i = k then cpy 0 wl (f k) (fun _ => 0) j else firstR k (jn f f' wl) i j) := by
        have hbl := HBL.out
        rw [HFK.out] at hbl
        exact HGr.out.rowset hkn HGR.out hbl (cpy_by (HR.out.bm k) zero_by) (cpy_up (by omega) (zero_up _))
      have hbe3 : Below w.heap.size w w3 := HBe.out.grown HGR.out HBe.out.size (fun g e => by cases e; exact HGr.out.lo.2 k hkn)
      have HG3 := Lib.hid hgr3; have HB3 := Lib.hid hbe3
      have HROW3 := Lib.hid ((HR'.out.same hbe3).row k hkn)
      have hca3 := (HR'.out.same hbe3).cell _ rfl k hkn
      rw [HWR.out k hkn] at hca3
      clear hgr3 hbe3
      have i2 : (wl : Int) ≤ (wl : Int) + (wq : Int) := by omega
      have i4 : ¬ wl + wq = wl := by omega
      have i5 : ¬ wq = 0 := by omega
      go_still_tail 7, (by kernel_rfl)
      change wpList _ _ _ _ _ w3.drew
      obtain ⟨w4, hw4⟩ : ∃ w4, w4 = w3.drew := ⟨_, rfl⟩
      have hG4 : Gr w4 w.heap.size G n n b (fun _ => wl + wq) (fun _ => wl + wq) (fun i j => if i = k then cpy 0 wl (f k) (fun _ => 0) j else firstR k (jn f f' wl) i j) := by rw [hw4]; exact HG3.out.drewN 1
      have hS4 : Sl w4 (r' k) wq (c' k) (f' k) := by rw [hw4]; have := HROW3.out.drewN 1; rw [HWR.out k hkn] at this; exact this
      have hB4 : Below w.heap.size w w4 := by rw [hw4]; exact HB3.out.drew
      rw [← hw4]
      have HG4 := Lib.hid hG4; have HS4 := Lib.hid hS4; have HB4 := Lib.hid hB4; clear hG4 hS4 hB4 hw4
      refine wpList_copy_bl rfl (.tmp 47) (.tmp 51) 22 22 rfl 5 Try.underlying22 Try.sizeU8 _ _ _ _ _ _ wq rfl rfl ?_ (b k) wl (wl + wq) (wl + wq) _ _ (HG4.out.row k hkn) (fun _ => HS4.out) ?_ (Nat.le_refl _) (Nat.le_refl _) ?_
      · show wq = min wq _; omega
      · intro _; rfl
      intro w5 HBL5 HGR5
      go_wp2
      go_roundw
      case rel =>
        refine ⟨k + 1, by omega, by go_num, ?_, HB4.out.grown HGR5.out HB4.out.size (fun g e => by cases e; exact HG4.out.lo.2 k hkn)⟩
        have hbl := HBL5.out
        have hx : cpy wl wq (f' k) (fun j => if k = k then cpy 0 wl (f k) (fun _ => 0) j else firstR k (jn f f' wl) k j) = jn f f' wl k := by
          simp only [if_true]
          exact cpy_two HS4.out.up
        rw [hx] at hbl
        refine (HG4.out.rowset hkn HGR5.out hbl (HJB.out k) (jn_up HS4.out.up)).congr (firstR_bm HJB.out (k + 1)) (fun i j _ => ?_)
        rw [← firstR_s]
        show (if i = k then jn f f' wl k j else if i = k then _ else _) = _
        split <;> rfl
      case measure => simp [intOf]; omega
    · obtain rfl : k = n := by omega
      go_wp2
      go_ret
      refine ⟨G, b, rfl, HGr.out.congr HJB.out (fun i j hi => ?_), HBe.out⟩
      unfold firstR; rw [if_pos hi]
end Go.Proofs.Ytdempjkkahjekaa
