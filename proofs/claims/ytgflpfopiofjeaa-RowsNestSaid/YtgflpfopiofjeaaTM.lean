import Derived.Test.YtgflpfopiofjeaaTN
namespace Go.Proofs.Ytgflpfopiofjeaa
open Go.RowKit Go.Shelf

set_option maxHeartbeats 4000000 in
set_option maxRecDepth 100000 in
theorem rowsNest_any (a a' a'' : Option Addr) (n cap n' cap' n'' cap'' : Nat) (r r' r'' : Nat → Option Addr) (l c l' c' l'' c'' : Nat → Nat) (f f' f'' : Nat → Nat → Nat) (w : World) (hR : Rd w a n cap r l c f) (hR' : Rd w a' n' cap' r' l' c' f') (hR'' : Rd w a'' n'' cap'' r'' l'' c'' f'')
    (hn : n ≤ 140737488355328) (hn' : n' ≤ 140737488355328) (hn'' : n'' ≤ 140737488355328) (hl : ∀ i, i < n → l i ≤ 140737488355328) (hl' : ∀ i, i < n' → l' i ≤ 140737488355328) (hl'' : ∀ i, i < n'' → l'' i ≤ 140737488355328) :
    Calls Try.prog 6 #[.slice a n cap, .slice a' n' cap', .slice a'' n'' cap''] w fun e w' => e = .returned (.bool true) ∧ Below w.heap.size w w' := by
  have HR := Lib.hid hR; have HR' := Lib.hid hR'; have HR'' := Lib.hid hR''; have HL := Lib.hid hl; have HL' := Lib.hid hl'; have HL'' := Lib.hid hl''; clear hR hR' hR'' hl hl' hl''
  go_enter Try.func6, Try.ntmps6
  go_wp2_with fail
  refine (awake3_any _).mono ?_
  rintro e w1 ⟨rfl, hB⟩
  have HB1 := Lib.hid hB; clear hB
  go_wp2_with fail
  refine (size_any a n cap r l c f hn HL.out _ (HR.out.same HB1.out)).mono ?_
  rintro e w2 ⟨⟨s, rfl, hs, hsz⟩, rfl⟩
  go_wp2_with fail
  refine (size_any a' n' cap' r' l' c' f' hn' HL'.out _ (HR'.out.same HB1.out)).mono ?_
  rintro e w2 ⟨⟨s', rfl, hs', hsz'⟩, rfl⟩
  go_wp2_with fail
  refine (size_any a'' n'' cap'' r'' l'' c'' f'' hn'' HL''.out _ (HR''.out.same HB1.out)).mono ?_
  rintro e w2 ⟨⟨s'', rfl, hs'', hsz''⟩, rfl⟩
  have HSZ := Lib.hid hsz; have HSZ' := Lib.hid hsz'; have HSZ'' := Lib.hid hsz''; clear hsz hsz' hsz''
  by_cases hfar : 900 < s + s' + s''
  · have i1 : (900 : Int) < (s : Int) + (s' : Int) + (s'' : Int) := by omega
    go_wp2
    go_ret
    exact ⟨rfl, HB1.out⟩
  have i1 : ¬ (900 : Int) < (s : Int) + (s' : Int) + (s'' : Int) := by omega
  obtain ⟨hn9, _⟩ := HSZ.out (by omega)
  obtain ⟨hn9', _⟩ := HSZ'.out (by omega)
  obtain ⟨hn9'', _⟩ := HSZ''.out (by omega)
  clear hn hn' hn'' HL HL' HL'' HSZ HSZ' HSZ'' hfar
  by_cases hA : IsM n l ∧ wd n l = n' ∧ IsM n' l'
  rotate_left
  · have HA := Lib.hid hA; clear hA
    go_wp2_with fail
    refine (mul_no a a' n cap n' cap' r r' l c l' c' f f' (by omega) (by omega) _ (HR.out.same HB1.out) (HR'.out.same HB1.out) HA.out).mono ?_
    rintro e w3 ⟨rfl, hB⟩
    have HB3 := Lib.hid (HB1.out.trans (hB.mono HB1.out.size)); clear hB
    by_cases hBk : IsM n' l' ∧ wd n' l' = n'' ∧ IsM n'' l''
    · obtain ⟨hM', hw', hM''⟩ := hBk
      have HM' := Lib.hid hM'; have HW' := Lib.hid hw'; have HM'' := Lib.hid hM''; clear hM' hw' hM''
      go_wp2_with fail
      refine (mul_yes a' a'' n' cap' n'' cap'' r' r'' l' c' l'' c'' f' f'' _ (HR'.out.same HB3.out) (HR''.out.same HB3.out) HM'.out HW'.out HM''.out).mono ?_
      rintro e w4 ⟨G, b, rfl, hG, hB⟩
      have HB4 := Lib.hid (HB3.out.trans (hB.mono HB3.out.size)); clear hB hG
      go_wp2
      go_ret
      exact ⟨rfl, HB4.out⟩
    · have HBk := Lib.hid hBk; clear hBk
      go_wp2_with fail
      refine (mul_no a' a'' n' cap' n'' cap'' r' r'' l' c' l'' c'' f' f'' (by omega) (by omega) _ (HR'.out.same HB3.out) (HR''.out.same HB3.out) HBk.out).mono ?_
      rintro e w4 ⟨rfl, hB⟩
      have HB4 := Lib.hid (HB3.out.trans (hB.mono HB3.out.size)); clear hB
      go_wp2
      go_ret
      exact ⟨rfl, HB4.out⟩
  obtain ⟨hM, hw, hM'⟩ := hA
  have m1 := hM.2.1; have m2 := hM'.2.1
  have HM := Lib.hid hM; have HW := Lib.hid hw; have HM' := Lib.hid hM'; clear hM hw hM'
  by_cases hBk : IsM n' l' ∧ wd n' l' = n'' ∧ IsM n'' l''
  rotate_left
  · have HBk := Lib.hid hBk; clear hBk
    go_wp2_with fail
    refine (mul_yes a a' n cap n' cap' r r' l c l' c' f f' _ (HR.out.same HB1.out) (HR'.out.same HB1.out) HM.out HW.out HM'.out).mono ?_
    rintro e w3 ⟨G, b, rfl, hG, hB⟩
    have HB3 := Lib.hid (HB1.out.trans (hB.mono HB1.out.size)); clear hB hG
    go_wp2_with fail
    refine (mul_no a' a'' n' cap' n'' cap'' r' r'' l' c' l'' c'' f' f'' (by omega) (by omega) _ (HR'.out.same HB3.out) (HR''.out.same HB3.out) HBk.out).mono ?_
    rintro e w4 ⟨rfl, hB⟩
    have HB4 := Lib.hid (HB3.out.trans (hB.mono HB3.out.size)); clear hB
    go_wp2
    go_ret
    exact ⟨rfl, HB4.out⟩
  have hw' := hBk.2.1; have hM'' := hBk.2.2; clear hBk
  have m3 := hM''.2.1; have m4 := hM''.2.2
  have HW' := Lib.hid hw'; have HM'' := Lib.hid hM''; clear hw' hM''
  go_wp2_with fail
  refine (mul_yes a a' n cap n' cap' r r' l c l' c' f f' _ (HR.out.same HB1.out) (HR'.out.same HB1.out) HM.out HW.out HM'.out).mono ?_
  rw [HW'.out]
  rintro e w3 ⟨GX, bX, rfl, hG, hB⟩
  have HX3 := Lib.hid hG; have HB3 := Lib.hid (HB1.out.trans (hB.mono HB1.out.size)); clear hB hG
  obtain ⟨wl, hwl⟩ : ∃ wl, wl = wd n'' l'' := ⟨_, rfl⟩
  rw [← hwl] at m4
  have HWL := Lib.hid hwl; clear hwl
  go_wp2_with fail
  refine (mul_yes a' a'' n' cap' n'' cap'' r' r'' l' c' l'' c'' f' f'' _ (HR'.out.same HB3.out) (HR''.out.same HB3.out) HM'.out HW'.out HM''.out).mono ?_
  rw [← HWL.out]
  rintro e w4 ⟨GY, bY, rfl, hG, hB⟩
  have HY4 := Lib.hid hG; have HX4 := Lib.hid (HX3.out.same hB); have HB4 := Lib.hid (HB3.out.trans (hB.mono HB3.out.size)); clear hB hG HX3
  by_cases hz : n = 0
  · have z1 : (((n : Nat) : Int) == 0) = true := by simp [hz]
    clear hz
    go_wp2
    go_ret
    exact ⟨rfl, HB4.out⟩
  have z1 : (((n : Nat) : Int) == 0) = false := by simp; omega
  have p1 : 0 < n := by omega
  clear hz
  by_cases hz : n' = 0
  · have z2 : (((n' : Nat) : Int) == 0) = true := by simp [hz]
    clear hz
    go_wp2
    go_ret
    exact ⟨rfl, HB4.out⟩
  have z2 : (((n' : Nat) : Int) == 0) = false := by simp; omega
  have p2 : 0 < n' := by omega
  clear hz
  by_cases hz : n'' = 0
  · have z3 : (((n'' : Nat) : Int) == 0) = true := by simp [hz]
    clear hz
    go_wp2
    go_ret
    exact ⟨rfl, HB4.out⟩
  have z3 : (((n'' : Nat) : Int) == 0) = false := by simp; omega
  have p3 : 0 < n'' := by omega
  clear hz
  go_wp2_with fail
  refine (mul_yes _ a'' n n n'' cap'' _ r'' _ _ l'' c'' _ f'' _ HX4.out.rd (HR''.out.same HB4.out) (isM_any p1 m1 m3) (wd_any p1) HM''.out).mono ?_
  rw [← HWL.out]
  rintro e w5 ⟨GP, bP, rfl, hG, hB⟩
  clear z1 z2 z3
  have HP5 := Lib.hid hG; have HX5 := Lib.hid (HX4.out.same hB); have HY5 := Lib.hid (HY4.out.same hB); have HB5 := Lib.hid (HB4.out.trans (hB.mono HB4.out.size)); clear hB hG HX4 HY4
  go_wp2_with fail
  refine (mul_yes a _ n cap n' n' r _ l c _ _ f _ _ (HR.out.same HB5.out) HY5.out.rd HM.out HW.out (isM_any p2 m2 m4)).mono ?_
  rw [wd_any p2, nest_eq HR.out.bm HR'.out.bm HR''.out.bm n n' n'' wl]
  rintro e w6 ⟨GQ, bQ, rfl, hG, hB⟩
  have HQ6 := Lib.hid hG; have HP6 := Lib.hid (HP5.out.same hB); have HX6 := Lib.hid (HX5.out.same hB); have HB6 := Lib.hid (HB5.out.trans (hB.mono HB5.out.size)); clear hB hG HX5 HY5 HP5
  go_wp2_with fail
  refine (Unit_yes n m1 _).mono ?_
  rintro e w7 ⟨GU, bU, rfl, hG, hB⟩
  have HU7 := Lib.hid hG; have HQ7 := Lib.hid (HQ6.out.same hB); have HP7 := Lib.hid (HP6.out.same hB); have HX7 := Lib.hid (HX6.out.same hB); have HB7 := Lib.hid (HB6.out.trans (hB.mono HB6.out.size)); clear hB hG HX6 HP6 HQ6
  go_wp2_with fail
  refine (mul_yes _ a n n n cap _ r _ _ l c _ f _ HU7.out.rd (HR.out.same HB7.out) (isM_const m1) (wd_const n) HM.out).mono ?_
  rw [HW.out]
  rintro e w8 ⟨GZ, bZ, rfl, hG, hB⟩
  have HZ8 := Lib.hid hG; have HQ8 := Lib.hid (HQ7.out.same hB); have HP8 := Lib.hid (HP7.out.same hB); have HX8 := Lib.hid (HX7.out.same hB); have HB8 := Lib.hid (HB7.out.trans (hB.mono HB7.out.size)); clear hB hG HX7 HP7 HQ7 HU7
  go_wp2_with fail
  refine (sameRows_any _ _ n n n _ _ _ _ _ _ _ _ (by omega) (fun _ _ => by omega) _ HP8.out.rd HQ8.out.rd (fun _ _ => ⟨rfl, rfl⟩)).mono ?_
  rintro e w9 ⟨rfl, q9, hq⟩
  have hb9 : Below w8.heap.size w8 w9 := by rw [hq]; exact below_dr (Below.refl _ _) q9
  have HZ9 := Lib.hid (HZ8.out.same hb9); have HX9 := Lib.hid (HX8.out.same hb9); have HB9 := Lib.hid (HB8.out.trans (hb9.mono HB8.out.size)); clear hb9 hq HX8 HP8 HQ8 HZ8
  have HLN := Lib.hid (show ∀ i, i < n → l i = n' from fun i hi => by rw [HM.out.1 i hi]; have := HW.out; unfold wd at this; rw [if_neg (by omega)] at this; exact this)
  have HUK := Lib.hid (unit_keeps HR.out.bm (n := n) (m := n') fun i hi => by have := (HR.out.row i hi).up; rw [HLN.out i hi] at this; exact this)
  go_wp2_with fail
  refine (sameRows_any _ a n n cap _ r _ _ l c _ f (by omega) (fun _ _ => by omega) _ HZ9.out.rd (HR.out.same HB9.out) (fun i hi => ⟨HLN.out i hi, HUK.out i hi⟩)).mono ?_
  rintro e w10 ⟨rfl, q10, hq⟩
  have hb9 : Below w9.heap.size w9 w10 := by rw [hq]; exact below_dr (Below.refl _ _) q10
  have HX10 := Lib.hid (HX9.out.same hb9); have HB10 := Lib.hid (HB9.out.trans (hb9.mono HB9.out.size)); clear hb9 hq HX9 HZ9 HUK
  have r1 := Mt.rk_le_rows HR.out.bm n n'
  have r2 := Mt.rk_le_cols HR.out.bm n n'
  have r3 := rank_left HR.out.bm HR'.out.bm n n' n''
  have r4 := rank_right HR.out.bm HR'.out.bm n n' n''
  have hl0 := HLN.out 0 p1
  have hrk := moreR_rk HR.out.bm (n := n) (m := n') p1
  have HRK := Lib.hid hrk
  go_wp2_with fail
  refine (rank_yes a n cap r l c f _ (HR.out.same HB10.out) HM.out).mono ?_
  rw [HW.out]
  rintro e w11 ⟨rfl, hB⟩
  have HX11 := Lib.hid (HX10.out.same hB); have HB11 := Lib.hid (HB10.out.trans (hB.mono HB10.out.size)); clear hB HX10 hrk
  obtain ⟨ab, ao, ea, hca⟩ := (HR.out.same HB11.out).at_ (k := 0) p1
  subst ea
  rw [Nat.add_zero, hl0] at hca
  have t1 : decide (n < Mt.rk n n' f) = false := by simp; omega
  have t2 : decide (n' < Mt.rk n n' f) = false := by simp; omega
  have t3 : decide (Mt.rk n n' f < Mt.rk n n'' (cl n n'' (Mt.mm n' f f'))) = false := by simp; omega
  have t4 : decide (Mt.rk n' n'' f' < Mt.rk n n'' (cl n n'' (Mt.mm n' f f'))) = false := by simp; omega
  have i0 : (0 : Int) < (n : Int) := by omega
  have HL0 := Lib.hid hl0
  clear r1 r2 r3 r4 hl0
  go_wp2_with fail
  refine (rank_yes _ n n _ _ _ _ _ HX11.out.rd (isM_any p1 m1 m3)).mono ?_
  rw [wd_any p1]
  rintro e w12 ⟨rfl, hB⟩
  have HX12 := Lib.hid (HX11.out.same hB); have HB12 := Lib.hid (HB11.out.trans (hB.mono HB11.out.size)); clear hB HX11 hca
  go_wp2_with fail
  refine (rank_yes _ n n _ _ _ _ _ HX12.out.rd (isM_any p1 m1 m3)).mono ?_
  rw [wd_any p1]
  rintro e w13 ⟨rfl, hB⟩
  have HB13 := Lib.hid (HB12.out.trans (hB.mono HB12.out.size)); clear hB HX12
  go_wp2_with fail
  refine (rank_yes a' n' cap' r' l' c' f' _ (HR'.out.same HB13.out) HM'.out).mono ?_
  rw [HW'.out]
  rintro e w14 ⟨rfl, hB⟩
  have HB14 := Lib.hid (HB13.out.trans (hB.mono HB13.out.size)); clear hB
  by_cases h200 : 200 < n
  · have t5 : (200 : Int) < (n : Int) := by omega
    clear h200
    go_wp2
    go_ret
    exact ⟨rfl, HB14.out⟩
  have t5 : decide ((200 : Int) < (n : Int)) = false := by simp; omega
  have hca := (HR.out.same HB14.out).cell _ rfl 0 p1
  rw [Nat.add_zero, HL0.out] at hca
  have hmk := hmk8 n' (by omega)
  go_wp2_with fail
  clear t1 t2 t3 t4 t5 hca
  have HS0 := Lib.hid ((bl_made w14 n').congr (h' := sumTo f n 0) fun j _ => by unfold sumTo; rw [if_neg (by omega)])
  have HB0 := Lib.hid ((Below.refl w14.heap.size w14).alloc (Nat.le_refl _) (.cells (madeCells #[.int .u8 0] n') 5))
  go_loopw [21] (fun i wr => ∃ k : Nat, k ≤ n' ∧ i = .int .i64 k ∧ Bl wr w14.heap.size n' n' (sumTo f n k) ∧ Below w14.heap.size w14 wr) (fun i _ => n' - (intOf i).toNat)
  case atStart => exact ⟨0, by omega, rfl, HS0.out, HB0.out⟩
  case round =>
    rename_i wr
    obtain ⟨k, hk, rfl, hBl, hBe⟩ := hrel
    have HBl := Lib.hid hBl; have HBe := Lib.hid hBe; have HBw := Lib.hid (HB14.out.trans (hBe.mono HB14.out.size))
    clear hBl hBe
    by_cases hkm : k < n'
    · have j1 : (k : Int) < (n' : Int) := by omega
      have c0 := (HR.out.same HBw.out).cell _ rfl 0 p1
      have c9 := (HR.out.same HBw.out).cell _ rfl (n - 1) (by omega)
      have s0 := (HR.out.same HBw.out).row 0 p1
      have s9 := (HR.out.same HBw.out).row (n - 1) (by omega)
      rw [HLN.out 0 p1] at s0 c0
      rw [HLN.out (n - 1) (by omega)] at s9 c9
      rw [Nat.add_zero] at c0
      obtain ⟨b0, o0, e0, d0⟩ := s0.at_ hkm
      obtain ⟨b9, o9, e9, d9⟩ := s9.at_ hkm
      rw [e0] at c0
      rw [e9] at c9
      have hx0 := HR.out.bm 0 k
      have hx9 := HR.out.bm (n - 1) k
      have HSS := Lib.hid (fun j => sumTo_s f n k j)
      have hx : bits .xor .u8 ((f 0 k : Nat) : Int) ((f (n - 1) k : Nat) : Int) = ((f 0 k ^^^ f (n - 1) k : Nat) : Int) := u8_xor_nat _ _ hx0 hx9
      have j2 : IntKind.i64.wrap ((n : Int) - 1) = (n : Int) - 1 := IntWalk.i64_in _ (by omega)
      have j3 : ((n : Int) - 1).toNat = n - 1 := by omega
      have j4 : (0 : Int) ≤ (n : Int) - 1 := by omega
      have j5 : (n : Int) - 1 < (n : Int) := by omega
      have j6 : (1 : Int) ≤ (n : Int) := by omega
      have E0 := Lib.hid e0; have E9 := Lib.hid e9
      clear e0 e9 s0 s9
      go_wp2_with fail
      go_still_tail 19, (by kernel_rfl)
      change wpList _ _ _ _ _ wr.drew
      obtain ⟨w2', hw2⟩ : ∃ w2', w2' = wr.drew := ⟨_, rfl⟩
      have hB2 : Bl w2' w14.heap.size n' n' (sumTo f n k) := by rw [hw2]; exact HBl.out.drewN 1
      have hE2 : Below w14.heap.size w14 w2' := by rw [hw2]; exact HBe.out.drew
      have cc := hB2.cell hkm
      have fr := hB2.free k
      rw [← hw2]
      have HB2 := Lib.hid hB2; have HE2 := Lib.hid hE2
      clear hB2 hE2 hw2 c0 c9 d0 d9 j2 j3 j4 j5 j6
      go_wp2_with fail
      go_roundw
      case rel => exact ⟨k + 1, by omega, by go_num, (HB2.out.set hkm _).congr (fun j _ => HSS.out j), HE2.out.setCell (p := ⟨w14.heap.size, k, none⟩) (Nat.le_refl _) _⟩
      case measure => simp [intOf]; omega
    · obtain rfl : k = n' := by omega
      have j1 : ¬ (k : Int) < (k : Int) := by omega
      obtain ⟨i0, hi', hz0', hz1', hz2'⟩ := info_parts Try.infoRow
      have HI := Lib.hid hi'; have HZ0 := Lib.hid hz0'; have HZ1 := Lib.hid hz1'; have HZ2 := Lib.hid hz2'
      have hE : Below wr.heap.size wr (wr.alloc (.cells #[] 23)) := (Below.refl _ _).alloc (Nat.le_refl _) _
      have HE := Lib.hid hE
      have HRE := Lib.hid ((HR.out.same HBw.out).same hE)
      have HO := Lib.hid (World.ownsRow_made (w := wr) (base := wr.heap.size) (e := 23) (size := 1) #[] 0 (Nat.le_refl _) (by unfold maxLen; omega) rfl)
      clear hi' hz0' hz1' hz2' hE hkm
      have hb63 : 0 + n ≤ maxLen := by unfold maxLen; omega
      have hby : (0 + n) * 24 ≤ 140737488355328 := by omega
      have hrd := HRE.out.reads _ rfl
      have HRD := Lib.hid hrd; have H63 := Lib.hid hb63; have HBY := Lib.hid hby; clear hrd hb63 hby
      go_wp2_with (first | ((refine wpList_append_bag _ rfl (.tmp 178) (.tmp 179) 22 rfl wr.heap.size 23 i0 (.slice none 0 0) 24 Try.underlying22 HI.out HZ0.out HZ1.out HZ2.out rfl (some ⟨wr.heap.size, 0, none⟩) 0 0 [] rfl HO.out ⟨ab, ao, none⟩ n cap ((List.range n).map fun i => Value.slice (r i) (l i) (c i)) rfl (by simp) HRD.out (rowsv_ones n r l c) p1 H63.out HBY.out (by simp) ?_); intro g3 cap3 w3' hown3 hc3 hlt3; rw [Nat.zero_add, List.nil_append] at hown3; have HO3 := Lib.hid hown3; have HBE3 := Lib.hid (below_app HE.out (by simp) hc3 (fun g e => by cases e; exact Nat.le_refl _)); have HNE := Lib.hid hlt3; clear hown3 hc3 hlt3) | ((refine wpList_append_bag _ rfl (.tmp 180) (.tmp 182) 22 rfl wr.heap.size 23 i0 (.slice none 0 0) 24 Try.underlying22 HI.out HZ0.out HZ1.out HZ2.out rfl (some ⟨g3, 0, none⟩) n cap3 ((List.range n).map fun i => Value.slice (r i) (l i) (c i)) rfl (own_below HO3.out ((Below.refl _ _).alloc (Nat.le_refl _) _)) ⟨w3'.heap.size, 0, none⟩ 1 1 [.slice (some ⟨w14.heap.size, 0, none⟩) k k] rfl rfl (cell_new1 _ _ _) (fun u hu => by rw [List.mem_singleton.1 hu]; rfl) (by omega) (by unfold maxLen; omega) (by omega) (by have := HBE3.out.size; simp; omega) ?_); intro g4 cap4 w4' hown4 hc4 hlt4; have HO4 := Lib.hid hown4; have HBE4 := Lib.hid (below_app (HBE3.out.alloc HBE3.out.size _) (by have := HBE3.out.size; simp; omega) hc4 (fun g e => by cases e; exact (HO3.out.lt g3 rfl).1)); clear hown4 hc4 hlt4))
      have hrd4 : Rd w4' (some ⟨g4, 0, none⟩) (n + 1) cap4 (fun i => if i < n then r i else some ⟨w14.heap.size, 0, none⟩) (fun i => if i < n then l i else k) (fun i => if i < n then c i else k) (moreR f n k) := by
        refine Rd.of_owns HO4.out (fun i hi => ?_) (moreR_bm HR.out.bm n k) (fun i hi => ?_)
        · by_cases e : i < n
          · rw [List.getElem?_append_left (by simpa using e), rowsv_get r l c e, if_pos e, if_pos e, if_pos e]
          · obtain rfl : i = n := by omega
            rw [List.getElem?_append_right (by simp), if_neg e, if_neg e, if_neg e]
            simp
        · by_cases e : i < n
          · simp only [if_pos e]
            have h := ((HR.out.same HBw.out).row i e).same HBE4.out
            have ef : moreR f n k i = f i := funext fun j => if_neg (by omega)
            rw [ef]; exact h
          · obtain rfl : i = n := by omega
            simp only [if_neg e]
            have h := (HBl.out.sl (Nat.le_refl _) (by unfold maxLen; omega) (sumTo_by HR.out.bm i k) (sumTo_up f i k)).same HBE4.out
            have ef : moreR f i k i = sumTo f i k := funext fun j => if_pos rfl
            rw [ef]; exact h
      have hl4 : ∀ i, i < n + 1 → (if i < n then l i else k) = k := fun i hi => by
        by_cases e : i < n
        · rw [if_pos e]; exact HLN.out i e
        · rw [if_neg e]
      have hw4 : wd (n + 1) (fun i => if i < n then l i else k) = k := by
        unfold wd; rw [if_neg (by omega)]; exact hl4 0 (by omega)
      have hM4 : IsM (n + 1) (fun i => if i < n then l i else k) := ⟨fun i hi => by
        show (if i < n then l i else k) = (if 0 < n then l 0 else k)
        rw [hl4 i hi, hl4 0 (by omega)], by omega, by rw [hw4]; omega⟩
      have HRD4 := Lib.hid hrd4; have HW4 := Lib.hid hw4; have HM4 := Lib.hid hM4
      clear hrd4 hl4 hw4 hM4
      refine (rank_yes _ (n + 1) cap4 _ _ _ _ _ HRD4.out HM4.out).mono ?_
      rw [HW4.out, HRK.out]
      rintro e w5' ⟨rfl, hB⟩
      have HB5' := Lib.hid (HBw.out.trans ((HBE4.out.trans (hB.mono HBE4.out.size)).mono HBw.out.size)); clear hB
      go_wp2
      go_ret
      exact ⟨rfl, HB5'.out⟩
end Go.Proofs.Ytgflpfopiofjeaa
