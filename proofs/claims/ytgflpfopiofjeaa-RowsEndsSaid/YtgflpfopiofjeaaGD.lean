import Derived.Test.YtgflpfopiofjeaaGC
namespace Go.Proofs.Ytgflpfopiofjeaa
open Go.RowKit Go.Shelf

theorem mul_row {f f' : Nat → Nat → Nat} (hf : Mt.Bm f) (hf' : Mt.Bm f') {n n' wl i : Nat} (hi : i < n) : dots (trk f' n' 0) (f i) n' wl = cl n wl (Mt.mm n' f f') i := funext fun j => by
  unfold dots cl
  by_cases h : j < wl
  · rw [if_pos h, if_pos ⟨hi, h⟩]
    unfold dotN Mt.mm
    exact Pf.xsum_congr n' fun k hk => by
      rw [Gf.mul_comm (hf i k) (hf' k j)]
      unfold trk; rw [if_pos (Or.inl hk)]
  · rw [if_neg h, if_neg (by omega)]

set_option maxHeartbeats 1000000 in
theorem mul_no (a a' : Option Addr) (n cap n' cap' : Nat) (r r' : Nat → Option Addr) (l c l' c' : Nat → Nat) (f f' : Nat → Nat → Nat) (hn : n ≤ 1000000000000) (hn' : n' ≤ 1000000000000) (w : World) (hR : Rd w a n cap r l c f) (hR' : Rd w a' n' cap' r' l' c' f') (hM : ¬ (IsM n l ∧ wd n l = n' ∧ IsM n' l')) :
    Calls Try.prog 11 #[.slice a n cap, .slice a' n' cap'] w (Refuses w 2) := by
  have HR := Lib.hid hR; have HR' := Lib.hid hR'; clear hR hR'
  by_cases h : IsM n l ∧ wd n l = n'
  · have h2 : ¬ IsM n' l' := fun h' => hM ⟨h.1, h.2, h'⟩
    have HM := Lib.hid h; have HM2 := Lib.hid h2; clear h h2 hM
    go_enter Try.func11, Try.ntmps11
    go_wp2_with fail
    refine (fits_yes a n cap n' r l c f _ HR.out HM.out.1 HM.out.2).mono ?_
    rintro e w1 ⟨rfl, q, rfl⟩
    go_wp2_with fail
    refine (right_no a' n' cap' r' l' c' f' hn' _ (HR'.out.drewN q) HM2.out).mono ?_
    rintro e w2 ⟨rfl, q, rfl⟩
    go_wp2
    go_ret2
    exact ⟨rfl, below_dr (Below.refl _ _) _⟩
  · have HM := Lib.hid h; clear h hM
    go_enter Try.func11, Try.ntmps11
    go_wp2_with fail
    refine (fits_no a n cap n' r l c f hn _ HR.out HM.out).mono ?_
    rintro e w1 ⟨rfl, q, rfl⟩
    go_wp2
    go_ret2
    exact ⟨rfl, below_dr (Below.refl _ _) _⟩

set_option maxHeartbeats 2000000 in
set_option maxRecDepth 100000 in
theorem mul_yes (a a' : Option Addr) (n cap n' cap' : Nat) (r r' : Nat → Option Addr) (l c l' c' : Nat → Nat) (f f' : Nat → Nat → Nat) (w : World) (hR : Rd w a n cap r l c f) (hR' : Rd w a' n' cap' r' l' c' f') (hM : IsM n l) (hm : wd n l = n') (hM' : IsM n' l') :
    Calls Try.prog 11 #[.slice a n cap, .slice a' n' cap'] w (MakesE w n (wd n' l') (cl n (wd n' l') (Mt.mm n' f f'))) := by
  have HR := Lib.hid hR; have HR' := Lib.hid hR'; have HM := Lib.hid hM; have HM' := Lib.hid hM'; have HWN := Lib.hid hm
  have hn := hM.2.1; have hn' := hM'.2.1; have hwl := hM'.2.2
  have HWL := Lib.hid (show ∀ i, i < n → l i = n' from fun i hi => by rw [hM.1 i hi, ← hm]; unfold wd; rw [if_neg (by omega)])
  clear hR hR' hM hM' hm
  have htu := fun (w : World) hR => turned_any a' n' cap' r' l' c' f' (by omega) (by omega) w hR HM'.out.1
  generalize wd n' l' = wl at *
  have hmk := hmkRows n (by omega)
  have HCB := Lib.hid (cl_bm (Mt.mm_lt HR.out.bm HR'.out.bm n') n wl)
  go_enter Try.func11, Try.ntmps11
  go_wp2_with fail
  refine (fits_yes a n cap n' r l c f _ HR.out HM.out HWN.out).mono ?_
  rintro e w1 ⟨rfl, q, hq⟩
  have HB1 := Lib.hid (show Below w.heap.size w w1 by rw [hq]; exact below_dr (Below.refl _ _) q); clear hq
  go_wp2_with fail
  refine (right_yes a' n' cap' r' l' c' f' _ (HR'.out.same HB1.out) HM'.out).mono ?_
  rintro e w2 ⟨rfl, q, hq⟩
  have HB2 := Lib.hid (show Below w.heap.size w w2 by rw [hq]; exact below_dr HB1.out q); clear hq
  go_wp2_with fail
  refine (new_any _).mono ?_
  rintro e w3 ⟨rfl, hF, hB⟩
  have HF := Lib.hid hF; have HB3 := Lib.hid (HB2.out.trans (hB.mono HB2.out.size)); clear hF hB
  go_wp2_with fail
  refine (htu _ (HR'.out.same HB3.out)).mono ?_
  rintro e w4 ⟨G, b, rfl, hG, hB⟩
  have HG := Lib.hid hG; have HF4 := Lib.hid (HF.out.same hB); have HB4 := Lib.hid (HB3.out.trans (hB.mono HB3.out.size))
  clear hG hB htu
  obtain ⟨w5, hw5⟩ : ∃ w5, w5 = w4.alloc (.cells #[.pointer (some ⟨w2.heap.size, 0, none⟩), .slice (some ⟨G, 0, none⟩) wl wl] 50) := ⟨_, rfl⟩
  have hW : Wr w5 w4.heap.size w2.heap.size (some ⟨G, 0, none⟩) wl wl := by rw [hw5]; exact heap_alloc_new _ _
  have hB5 : Below w4.heap.size w4 w5 := by rw [hw5]; exact (Below.refl _ _).alloc (Nat.le_refl _) _
  have HW := Lib.hid hW; have HF5 := Lib.hid (HF4.out.same hB5); have HG5 := Lib.hid (HG.out.same hB5); have HB5 := Lib.hid (HB4.out.trans (hB5.mono HB4.out.size)); have HW5 := Lib.hid hw5
  have HZ := Lib.hid (show w5.heap.size = w4.heap.size + 1 by rw [hw5]; simp)
  clear hW hB5 hw5
  go_wp2_with fail
  rw [← HW5.out]
  clear HW5
  have hP := gr_made w5 w.heap.size n (fun _ => 0) (fun _ => wl) (fun _ => wl) (by omega) HB5.out.size
  rw [HZ.out] at hP
  have HP := Lib.hid (hP.congr (firstR_bm HCB.out 0) (fun _ _ h => absurd h (Nat.not_lt_zero _)))
  have HBP := Lib.hid ((Below.refl w5.heap.size w5).alloc (Nat.le_refl _) (.cells (madeCells #[.slice none 0 0] n) 23))
  clear hP
  go_wp2_with fail
  go_loopw [29] (fun i wr => ∃ (k : Nat) (bp : Nat → Nat), k ≤ n ∧ i = .int .i64 k ∧ Gr wr w.heap.size (w4.heap.size + 1) k n bp (fun _ => wl) (fun _ => wl) (firstR k (cl n wl (Mt.mm n' f f'))) ∧ Below w5.heap.size w5 wr) (fun i _ => n - (intOf i).toNat)
  case atStart => exact ⟨0, _, by omega, rfl, HP.out, HBP.out⟩
  case round =>
    rename_i wr
    obtain ⟨k, bp, hk, rfl, hGr, hBe⟩ := hrel
    have HGr := Lib.hid hGr; have HBe := Lib.hid hBe; have HBw := Lib.hid (HB5.out.trans (hBe.mono HB5.out.size))
    clear hGr hBe
    by_cases hkn : k < n
    · have i1 : (k : Int) < (n : Int) := by omega
      have hRk := HR.out.same HBw.out
      obtain ⟨ab, ao, ea, hca⟩ := hRk.at_ hkn
      subst ea
      have hrow := hRk.row k hkn
      rw [HWL.out k hkn] at hca hrow
      have HROW := Lib.hid hrow; clear hrow hRk
      go_wp2_with fail
      refine (dots_any w4.heap.size w2.heap.size (some ⟨G, 0, none⟩) (r k) wl wl n' (c k) _ _ _ (trk f' n' 0) (f k) (by omega) (by omega) _ (HW.out.same HBe.out) (HF5.out.same HBe.out) (HG5.out.rd.same HBe.out) (fun _ _ => rfl) HROW.out).mono ?_
      rintro e w7 ⟨rfl, hbl, hB⟩
      rw [mul_row HR.out.bm HR'.out.bm hkn] at hbl
      have hG7 := HGr.out.same hB
      obtain ⟨vs, k1, k2, k3⟩ := hG7.blk
      have hcell : ∃ v, w7.cell? ⟨w4.heap.size + 1, k, none⟩ = some v := by
        refine ⟨vs[k]'(by omega), ?_⟩
        rw [cell_of_row w7 _ k vs _ _ k1]
        simp [show k < vs.size by omega]
      obtain ⟨v0, hcell⟩ := hcell
      have hfr := hG7.free k
      have HBL := Lib.hid hbl; have HG7 := Lib.hid hG7; have HB7 := Lib.hid (HBe.out.trans (hB.mono HBe.out.size))
      clear hbl hG7 hB k1 k2 k3 hca
      go_wp2_with fail
      go_roundw
      case rel => exact ⟨k + 1, _, by omega, by go_num, HG7.out.pushU hkn HBL.out (by unfold maxLen; omega) HBw.out.size (fun i hi e => by have := HGr.out.ltb hi; omega) (HCB.out k) (cl_up _ _ _ k) (firstR_bm HCB.out (k + 1)) (fun i j hi => by unfold firstR; rw [if_pos hi, if_pos (by omega)]) (fun j => by unfold firstR; rw [if_pos (by omega)]), HB7.out.setCell (p := ⟨w4.heap.size + 1, k, none⟩) (Nat.le_of_eq HZ.out) _⟩
      case measure => simp [intOf]; omega
    · obtain rfl : k = n := by omega
      go_wp2
      go_ret2
      exact ⟨_, bp, rfl, HGr.out.congr HCB.out (fun i j hi => if_pos hi), HBw.out⟩
end Go.Proofs.Ytgflpfopiofjeaa
