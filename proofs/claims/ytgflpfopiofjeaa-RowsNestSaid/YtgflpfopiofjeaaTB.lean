import Derived.Test.YtgflpfopiofjeaaGF
namespace Go.Proofs.Ytgflpfopiofjeaa
open Go.RowKit Go.Shelf

theorem isM_const {n : Nat} (h : n ≤ 255) : IsM n (fun _ => n) := ⟨fun _ _ => rfl, h, by rw [wd_const]; exact h⟩
theorem cl_congr {h w : Nat} {A A' : Nat → Nat → Nat} (e : ∀ i j, i < h → j < w → A i j = A' i j) : cl h w A = cl h w A' := funext fun i => funext fun j => by
  unfold cl
  by_cases c : i < h ∧ j < w
  · rw [if_pos c, if_pos c, e i j c.1 c.2]
  · rw [if_neg c, if_neg c]
section
variable {f : Nat → Nat → Nat} {n : Nat} (hf : Mt.Bm f) (hk : Mt.rk n n f = n)
include hf hk
theorem back_right : cl n n (Mt.mm n f (cl n n (Mt.inv f n))) = cl n n Mt.dl := cl_congr fun i j hi hj => by
  rw [Mt.mm_congr (A' := f) (B' := Mt.inv f n) (fun _ _ => rfl) (fun k hk => cl_in hk hj)]
  exact (Mt.inv_two hf hk).st i j hi hj
theorem back_left : cl n n (Mt.mm n (cl n n (Mt.inv f n)) f) = cl n n Mt.dl := cl_congr fun i j hi hj => by
  rw [Mt.mm_congr (A' := Mt.inv f n) (B' := f) (fun k hk => cl_in hi hk) (fun _ _ => rfl)]
  exact (Mt.inv_two hf hk).ts i j hi hj
theorem back_rank : Mt.rk n n (cl n n (Mt.inv f n)) = n := by
  rw [Mt.rk_congr (cl_bm (Mt.inv_bm hf n) n n) (Mt.inv_bm hf n) fun i j hi hj => cl_in hi hj]
  exact Mt.rk_two (Mt.inv_two hf hk)
theorem back_back (hu : ∀ i, i < n → Pf.Up (f i) n) : ∀ i, i < n → f i = cl n n (Mt.inv (cl n n (Mt.inv f n)) n) i := fun i hi => funext fun j => by
  by_cases hj : j < n
  · rw [cl_in hi hj, Mt.inv_congr (cl_bm (Mt.inv_bm hf n) n n) (Mt.inv_bm hf n) (fun i j hi hj => cl_in hi hj) hi hj, Mt.inv_inv hf hk hi hj]
  · rw [cl_up n n _ i j (by omega), hu i hi j (by omega)]
theorem back_col {g : Nat → Nat} (hg : Pf.By g) (hu : Pf.Up g n) : dots (cl n n (Mt.inv f n)) (dots f g n n) n n = g := funext fun i => by
  unfold dots
  by_cases hi : i < n
  · rw [if_pos hi]
    have hC : Mt.Bm (fun k _ => g k) := fun k _ => hg k
    have e : dotN (cl n n (Mt.inv f n) i) (fun k => if k < n then dotN (f k) g n else 0) n = Mt.mm n (Mt.inv f n) (Mt.mm n f (fun k _ => g k)) i 0 := by
      unfold dotN Mt.mm
      exact Pf.xsum_congr n fun k hk => by
        rw [cl_in hi hk]
        show Gf.mul _ (if k < n then _ else 0) = _
        rw [if_pos hk]
    rw [e, ← Mt.mm_assoc (Mt.inv_bm hf n) hf hC, Mt.mm_congr (A' := Mt.dl) (B' := fun k _ => g k) (fun k hkn => (Mt.inv_two hf hk).ts i k hi hkn) (fun _ _ => rfl), Mt.mm_one hC hi]
  · rw [if_neg hi, hu i (by omega)]
end

set_option maxHeartbeats 4000000 in
set_option maxRecDepth 100000 in
theorem rowsBack_any (a va : Option Addr) (n cap m vc : Nat) (r : Nat → Option Addr) (l c : Nat → Nat) (f : Nat → Nat → Nat) (g : Nat → Nat) (w : World) (hR : Rd w a n cap r l c f) (hn : n ≤ 140737488355328) (hl : ∀ i, i < n → l i ≤ 140737488355328) (hV : Sl w va m vc g) (hm : m ≤ 140737488355328) :
    Calls Try.prog 5 #[.slice a n cap, .slice va m vc] w fun e w' => e = .returned (.bool true) ∧ Below w.heap.size w w' := by
  have HR := Lib.hid hR; have HV := Lib.hid hV; have HL := Lib.hid hl; clear hR hV hl
  go_enter Try.func5, Try.ntmps5
  go_wp2_with fail
  refine (awake3_any _).mono ?_
  rintro e w1 ⟨rfl, hB⟩
  have HB1 := Lib.hid hB; clear hB
  go_wp2_with fail
  refine (size_any a n cap r l c f hn HL.out _ (HR.out.same HB1.out)).mono ?_
  rintro e w2 ⟨⟨s, rfl, hs, hsz⟩, rfl⟩
  have HSZ := Lib.hid hsz; clear hsz
  by_cases hfar : 900 < s + m
  · have i1 : (900 : Int) < (s : Int) + (m : Int) := by omega
    go_wp2
    go_ret
    exact ⟨rfl, HB1.out⟩
  have i1 : ¬ (900 : Int) < (s : Int) + (m : Int) := by omega
  obtain ⟨hn9, hl9⟩ := HSZ.out (by omega)
  have HL9 := Lib.hid hl9; clear hl9 hn HL HSZ hfar
  by_cases hok : IsM n l ∧ wd n l = n
  · obtain ⟨hM, hwn⟩ := hok
    have hn2 := hM.2.1
    have HM := Lib.hid hM; have HWN := Lib.hid hwn; clear hM hwn
    go_wp2_with fail
    refine (inverse_yes a n cap r l c f _ (HR.out.same HB1.out) HM.out HWN.out).mono ?_
    rintro e w3 (⟨hk, rfl, hB⟩ | ⟨hk, GI, bI, rfl, hG, hB⟩)
    · have HB3 := Lib.hid (HB1.out.trans (hB.mono HB1.out.size)); clear hB
      have HK := Lib.hid hk
      have i2 : decide (Mt.rk n n f < n) = true := by simp; exact hk
      clear hk
      go_wp2_with fail
      refine (rank_yes a n cap r l c f _ (HR.out.same HB3.out) HM.out).mono ?_
      rw [HWN.out]
      rintro e w4 ⟨rfl, hB⟩
      have HB4 := Lib.hid (HB3.out.trans (hB.mono HB3.out.size)); clear hB
      go_wp2
      go_ret
      exact ⟨rfl, HB4.out⟩
    · have HB3 := Lib.hid (HB1.out.trans (hB.mono HB1.out.size)); clear hB
      have HK := Lib.hid hk; have HG3 := Lib.hid hG; clear hk hG
      have hMn := isM_const hn2
      have HMn := Lib.hid hMn; clear hMn
      go_wp2_with fail
      refine (Unit_yes n hn2 _).mono ?_
      rintro e w4 ⟨GU, bU, rfl, hU, hB⟩
      have HU := Lib.hid hU; have HG4 := Lib.hid (HG3.out.same hB); have HB4 := Lib.hid (HB3.out.trans (hB.mono HB3.out.size)); clear hU hB HG3
      go_wp2_with fail
      refine (mul_yes a _ n cap n n r _ l c _ _ f _ _ (HR.out.same HB4.out) HG4.out.rd HM.out HWN.out HMn.out).mono ?_
      rw [wd_const, back_right HR.out.bm HK.out]
      rintro e w5 ⟨GX, bX, rfl, hX, hB⟩
      have HX := Lib.hid hX; have HU5 := Lib.hid (HU.out.same hB); have HG5 := Lib.hid (HG4.out.same hB); have HB5 := Lib.hid (HB4.out.trans (hB.mono HB4.out.size)); clear hX hB HG4 HU
      go_wp2_with fail
      refine (mul_yes _ a n n n cap _ r _ _ l c _ f _ HG5.out.rd (HR.out.same HB5.out) HMn.out (wd_const n) HM.out).mono ?_
      rw [HWN.out, back_left HR.out.bm HK.out]
      rintro e w6 ⟨GY, bY, rfl, hY, hB⟩
      have HY := Lib.hid hY; have HX6 := Lib.hid (HX.out.same hB); have HU6 := Lib.hid (HU5.out.same hB); have HG6 := Lib.hid (HG5.out.same hB); have HB6 := Lib.hid (HB5.out.trans (hB.mono HB5.out.size)); clear hY hB HG5 HU5 HX
      go_wp2_with fail
      refine (inverse_yes _ n n _ _ _ _ _ HG6.out.rd HMn.out (wd_const n)).mono ?_
      rintro e w7 (⟨hk, _⟩ | ⟨_, GZ, bZ, rfl, hZ, hB⟩)
      · rw [back_rank HR.out.bm HK.out] at hk; omega
      have HZ := Lib.hid hZ; have HY7 := Lib.hid (HY.out.same hB); have HX7 := Lib.hid (HX6.out.same hB); have HU7 := Lib.hid (HU6.out.same hB); have HG7 := Lib.hid (HG6.out.same hB); have HB7 := Lib.hid (HB6.out.trans (hB.mono HB6.out.size)); clear hZ hB HG6 HU6 HX6 HY
      have j1 : (((Mt.rk n n f : Nat) : Int) != (n : Int)) = false := ne_no HK.out
      go_wp2_with fail
      refine (rank_yes a n cap r l c f _ (HR.out.same HB7.out) HM.out).mono ?_
      rw [HWN.out]
      rintro e w8 ⟨rfl, hB⟩
      have HZ8 := Lib.hid (HZ.out.same hB); have HY8 := Lib.hid (HY7.out.same hB); have HX8 := Lib.hid (HX7.out.same hB); have HU8 := Lib.hid (HU7.out.same hB); have HG8 := Lib.hid (HG7.out.same hB); have HB8 := Lib.hid (HB7.out.trans (hB.mono HB7.out.size)); clear hB HG7 HU7 HX7 HY7 HZ
      go_wp2_with fail
      refine (sameRows_any _ _ n n n _ _ _ _ _ _ _ _ (by omega) (fun _ _ => by omega) _ HX8.out.rd HU8.out.rd (fun _ _ => ⟨rfl, rfl⟩)).mono ?_
      rintro e w9 ⟨rfl, q9, hq⟩
      have hb9 : Below w8.heap.size w8 w9 := by rw [hq]; exact below_dr (Below.refl _ _) q9
      have HZ9 := Lib.hid (HZ8.out.same hb9); have HY9 := Lib.hid (HY8.out.same hb9); have HU9 := Lib.hid (HU8.out.same hb9); have HG9 := Lib.hid (HG8.out.same hb9); have HB9 := Lib.hid (HB8.out.trans (hb9.mono HB8.out.size)); clear hb9 hq HG8 HU8 HX8 HY8 HZ8
      go_wp2_with fail
      refine (sameRows_any _ _ n n n _ _ _ _ _ _ _ _ (by omega) (fun _ _ => by omega) _ HY9.out.rd HU9.out.rd (fun _ _ => ⟨rfl, rfl⟩)).mono ?_
      rintro e w10 ⟨rfl, q10, hq⟩
      have hb9 : Below w9.heap.size w9 w10 := by rw [hq]; exact below_dr (Below.refl _ _) q10
      have HZ10 := Lib.hid (HZ9.out.same hb9); have HG10 := Lib.hid (HG9.out.same hb9); have HB10 := Lib.hid (HB9.out.trans (hb9.mono HB9.out.size)); clear hb9 hq HG9 HU9 HY9 HZ9
      have HLN := Lib.hid (show ∀ i, i < n → l i = n from fun i hi => by rw [HM.out.1 i hi]; have := HWN.out; unfold wd at this; rw [if_neg (by omega)] at this; exact this)
      have HBB := Lib.hid (back_back HR.out.bm HK.out fun i hi => by have := (HR.out.row i hi).up; rw [HLN.out i hi] at this; exact this)
      go_wp2_with fail
      refine (sameRows_any _ a n n cap _ r _ _ l c _ f (by omega) (fun _ _ => by omega) _ HZ10.out.rd (HR.out.same HB10.out) (fun i hi => ⟨HLN.out i hi, HBB.out i hi⟩)).mono ?_
      rintro e w11 ⟨rfl, q11, hq⟩
      have hb9 : Below w10.heap.size w10 w11 := by rw [hq]; exact below_dr (Below.refl _ _) q11
      have HG11 := Lib.hid (HG10.out.same hb9); have HB11 := Lib.hid (HB10.out.trans (hb9.mono HB10.out.size)); clear hb9 hq HG10 HZ10 HBB
      by_cases hmn : m = n
      · subst hmn
        go_wp2_with fail
        refine (apply_yes a va m cap m vc r l c f g _ (HR.out.same HB11.out) (HV.out.same HB11.out) HM.out HWN.out).mono ?_
        rintro e w12 ⟨gw, rfl, hgw, hbl, hB⟩
        have HW := Lib.hid (hbl.sl (Nat.le_refl _) (by unfold maxLen; omega) (dots_by HR.out.bm HV.out.bytes _ _) (dots_up _ _ _ _)); have HG12 := Lib.hid (HG11.out.same hB); have HB12 := Lib.hid (HB11.out.trans (hB.mono HB11.out.size)); clear hbl hB hgw
        go_wp2_with fail
        refine (apply_yes _ _ m m m m _ _ _ _ _ _ HG12.out.rd HW.out HMn.out (wd_const m)).mono ?_
        rw [back_col HR.out.bm HK.out HV.out.bytes HV.out.up]
        rintro e w13 ⟨gu, rfl, hgu, hbl, hB⟩
        have HU13 := Lib.hid (hbl.sl (Nat.le_refl _) (by unfold maxLen; omega) HV.out.bytes HV.out.up); have HB13 := Lib.hid (HB12.out.trans (hB.mono HB12.out.size)); clear hbl hB hgu
        go_wp2_with fail
        refine (same_any _ va m m vc g (by omega) _ HU13.out (HV.out.same HB13.out)).mono ?_
        rintro e w14 ⟨rfl, q, rfl⟩
        go_wp2
        go_ret
        exact ⟨rfl, below_dr HB13.out _⟩
      · have i3 := ne_yes hmn
        have HMN := Lib.hid hmn; clear hmn
        go_wp2_with fail
        refine (apply_no a va n cap m vc r l c f (by omega) _ (HR.out.same HB11.out) (fun h => HMN.out (h.2.symm.trans HWN.out))).mono ?_
        rintro e w12 ⟨rfl, hB⟩
        have HB12 := Lib.hid (HB11.out.trans (hB.mono HB11.out.size)); clear hB
        go_wp2
        go_ret
        exact ⟨rfl, HB12.out⟩
  · have HOK := Lib.hid hok
    by_cases hM : IsM n l
    · have hne : wd n l ≠ n := fun h => hok ⟨hM, h⟩
      have h0 : n ≠ 0 := fun h => hne (by unfold wd; rw [if_pos h, h])
      have hl0 : l 0 ≠ n := fun h => hne (by unfold wd; rw [if_neg h0, h])
      have HM := Lib.hid hM
      have i2 := ne_yes hl0
      have i3 : decide ((0 : Int) < (n : Int)) = true := by simp; omega
      have i4 : 0 < n := by omega
      clear hok hM hne h0 hl0
      go_wp2_with fail
      refine (inverse_no a n cap r l c f (by omega) _ (HR.out.same HB1.out) HOK.out).mono ?_
      rintro e w3 ⟨rfl, hB⟩
      have HB3 := Lib.hid (HB1.out.trans (hB.mono HB1.out.size)); clear hB
      go_wp2_with fail
      refine (right_yes a n cap r l c f _ (HR.out.same HB3.out) HM.out).mono ?_
      rintro e w4 ⟨rfl, q, hq⟩
      have hb4 : Below w.heap.size w w4 := by rw [hq]; exact below_dr HB3.out q
      obtain ⟨ab, ao, ea, hca⟩ := (HR.out.same hb4).at_ (k := 0) (by omega)
      have HB4 := Lib.hid hb4; clear hq hb4
      subst ea
      rw [Nat.add_zero] at hca
      go_wp2
      go_ret
      exact ⟨rfl, HB4.out⟩
    · have HM := Lib.hid hM; clear hok hM
      go_wp2_with fail
      refine (inverse_no a n cap r l c f (by omega) _ (HR.out.same HB1.out) HOK.out).mono ?_
      rintro e w3 ⟨rfl, hB⟩
      have HB3 := Lib.hid (HB1.out.trans (hB.mono HB1.out.size)); clear hB
      go_wp2_with fail
      refine (right_no a n cap r l c f (by omega) _ (HR.out.same HB3.out) HM.out).mono ?_
      rintro e w4 ⟨rfl, q, hq⟩
      have HB4 := Lib.hid (show Below w.heap.size w w4 by rw [hq]; exact below_dr HB3.out q); clear hq
      go_wp2
      go_ret
      exact ⟨rfl, HB4.out⟩
end Go.Proofs.Ytgflpfopiofjeaa
