import Derived.StillTailTactics
import Derived.Outline
import Derived.RegionTactic
import Derived.Deep.DeepCutAuto
import Derived.BigRegion
import Derived.Deep.RegionHeld3
import Derived.Test.YtdjigbjheicfcaaMg10
namespace Go.Proofs.Ytdjigbjheicfcaa
open Go.RowKit Go.Shelf

theorem xrote_below {w w' : World} {B q : Nat} {a : Option Addr} {S : Bs} {x : Ending} {c : Nat} {S0 : Bs} (hW : Xw w B q a c S0) (hB : B ≤ w.heap.size) (h : Xrote w B q a S x w') : Below B w w' := by
  obtain ⟨a', c', _, _, ⟨b, hb, hbut⟩, _⟩ := h
  refine hbut.below hB hW.hq ?_
  rcases hb with rfl | hb
  · exact hW.hq
  · exact (hW.lta b hb).1
set_option maxHeartbeats 8000000 in
set_option maxRecDepth 100000 in
theorem packWrites_any (a : Option Addr) (m cap : Nat) (wh nn zz : Nat → Int) (ia : Nat → Option Addr) (il ic : Nat → Nat) (fb : Nat → Nat → Nat) (hm : m ≤ 1000000000000000) (w : World) (hA : Dos w a m wh nn zz ia il ic fb) :
    Calls Try.prog 3 #[.slice a m cap] w fun e w' => e = .returned (.bool true) ∧ Below w.heap.size w w' := by
  have HA := Lib.hid hA; clear hA
  go_enter Try.func3, Try.ntmps3
  go_wp2_with fail
  refine (size8_any a m cap wh nn zz ia il ic fb hm _ HA.out).mono ?_
  rintro e w0 ⟨M, rfl, hM, hB0⟩
  have HB0 := Lib.hid hB0; clear hB0
  by_cases hbig : M ≤ 2000
  · have j0 : ¬ (2000 : Int) < (M : Int) := by omega
    obtain ⟨hm2, hil⟩ := hM hbig
    have HIL := Lib.hid hil
    clear hM hil hbig
    go_wp2_with fail
    refine (wnew_any _).mono ?_
    rintro x w1 ⟨p, s, rfl, hW, hB1⟩
    have HW := Lib.hid hW; have HB1 := Lib.hid (HB0.out.trans (hB1.mono HB0.out.size))
    have hz1 := hB1.size
    clear hW hB1
    go_wp2_with fail
    refine (xnew_any _).mono ?_
    rintro x w2 ⟨q, rfl, hX, hB2⟩
    have HTW := Lib.hid (show Two w2 w.heap.size p s q none 0 none 0 ⟨0, fun _ => 0, 0⟩ ⟨0, fun _ => 0, 0⟩ from ⟨(HW.out.same hB2).mono8 HB0.out.size, hX.mono8 HB1.out.size, fun g e => by cases e⟩)
    have HB2 := Lib.hid (HB1.out.trans (hB2.mono HB1.out.size))
    clear hX hB2 HW
    go_wp2_with fail
    go_loopw [5, 6, 7, 8, 9, 10] (fun iv _ _ _ _ _ wr => ∃ (k : Nat) (a1 : Option Addr) (c1 : Nat) (a2 : Option Addr) (c2 : Nat) (S : Bs), k ≤ m ∧ iv = .int .i64 (k : Nat) ∧ S.Ok ∧ S.l ≤ 2004 * k ∧ Two wr w.heap.size p s q a1 c1 a2 c2 S S ∧ Below w.heap.size w wr) (fun i _ _ _ _ _ _ => m - (intOf i).toNat)
    case atStart => exact ⟨0, none, 0, none, 0, ⟨0, fun _ => 0, 0⟩, by omega, rfl, aw0_ok, Nat.le_refl _, HTW.out, HB2.out⟩
    case round =>
      rename_i wr
      obtain ⟨k, a1, c1, a2, c2, S, hk, rfl, hO, hlen, hTW, hB⟩ := hrel
      have HO := Lib.hid hO; have HLEN := Lib.hid hlen; have HTWk := Lib.hid hTW; have HBk := Lib.hid hB
      clear hO hlen hTW hB HTW
      by_cases hlt : k < m
      · have i1 : (k : Int) < (m : Int) := by omega
        have HCL := Lib.hid (fun W (hW : Below w.heap.size w W) => (HA.out.same hW).cell k hlt)
        obtain ⟨b, o, ea, _⟩ := HA.out.cell k hlt
        have hila := HIL.out k hlt
        have HDO := Lib.hid (fun W (hW : Below w.heap.size w W) => (HA.out.same hW).ind k hlt)
        have HCL2 := Lib.hid (fun W (hW : Below w.heap.size w W) => (by
          obtain ⟨b', o', e', h1, h2, h3, h4⟩ := HCL.out W hW
          rw [ea] at e'; cases e'; exact ⟨h1, h2, h3, h4⟩ : W.cell? ⟨b, o + k * 4, none⟩ = some (.int .i64 (wh k)) ∧ W.cell? ⟨b, o + k * 4 + 1, none⟩ = some (.int .i64 (nn k)) ∧ W.cell? ⟨b, o + k * 4 + 2, none⟩ = some (.int .i64 (zz k)) ∧ W.cell? ⟨b, o + k * 4 + 3, none⟩ = some (.slice (ia k) (il k) (ic k))))
        clear HCL
        have EA := Lib.hid ea
        subst ea
        generalize hli : il k = li at hila HCL2 HDO
        generalize hci : ic k = ci at HCL2 HDO
        generalize hai : ia k = ai at HCL2 HDO
        generalize hfi : fb k = fi at HDO
        clear hli hci hai hfi EA
        have c3 := (HCL2.out wr HBk.out).2.2.2
        go_wp2_with fail
        refine (lentS_any ai li ci fi _ (HDO.out _ HBk.out) (by omega)).mono ?_
        rintro x w3 ⟨rfl, hbk, hB3⟩
        obtain ⟨G, hG⟩ : ∃ G, G = wr.heap.size := ⟨_, rfl⟩
        have HTW3 := Lib.hid (HTWk.out.same hB3); have HB3 := Lib.hid (HBk.out.trans (hB3.mono HBk.out.size))
        have hG1 : a1 ≠ some ⟨G, 0, none⟩ := fun e => by have := (HTWk.out.l.lta G e).2; omega
        have hG2 : a2 ≠ some ⟨G, 0, none⟩ := fun e => by have := (HTWk.out.r.lta G e).2; omega
        rw [← hG] at hbk ⊢
        have HBK := Lib.hid hbk
        have hGw : w.heap.size ≤ G := by rw [hG]; exact HBk.out.size
        clear hbk hB3 hG c3
        have c0 := (HCL2.out w3 HB3.out).1
        go_wp2_with fail
        refine (pickv_any (wh k) 2 (by omega) (by omega) _).mono ?_
        rintro x w4 ⟨rfl, rfl⟩
        have hpk := pkv_bd (wh k) (n := 2) (by omega)
        have HTWd := Lib.hid (HTW3.out.same (Below.refl _ w4).drew)
        by_cases hp : pkv (wh k) 2 = 0
        · rw [hp]
          clear hpk hp c0
          go_upto_region 9 with fail
          refine wp_region_held_drew (S := fun W => Below w.heap.size w W) (by kernel_rfl) (HB3.out.drew) (fun hHeld => ?_)
          refine wpAnyH_take (i := 0) (oi := ⟨some 36, _, _, _, _, none⟩) (v := (.pointer (some ⟨p, 0, none⟩))) rfl (by kernel_rfl) (by kernel_rfl) (by kernel_rfl) (fun _ _ _ h => h) (Or.inl ⟨by rfl, fun W hW => ?_⟩) (by assumption) ?_
          · go_simp
          simp only [Act.put, List.setIfInBounds_toArray, List.set_cons_zero, List.set_cons_succ]
          refine wpAnyH_take (i := 1) (oi := ⟨some 37, _, _, _, _, none⟩) (v := (.slice (some ⟨b, o, none⟩) m cap)) rfl (by kernel_rfl) (by kernel_rfl) (by kernel_rfl) (fun _ _ _ h => h) (Or.inl ⟨by rfl, fun W hW => ?_⟩) (by assumption) ?_
          · go_simp
          simp only [Act.put, List.setIfInBounds_toArray, List.set_cons_zero, List.set_cons_succ]
          refine wpAnyH_take (i := 2) (oi := ⟨some 38, _, _, _, _, none⟩) (v := (.int .i64 (k : Nat))) rfl (by kernel_rfl) (by kernel_rfl) (by kernel_rfl) (fun _ _ _ h => h) (Or.inl ⟨by rfl, fun W hW => ?_⟩) (by assumption) ?_
          · go_simp
          simp only [Act.put, List.setIfInBounds_toArray, List.set_cons_zero, List.set_cons_succ]
          refine wpAnyH_take (i := 3) (oi := ⟨some 39, _, _, _, _, none⟩) (v := (.pointer (some ⟨b, o + k * 4, none⟩))) rfl (by kernel_rfl) (by kernel_rfl) (by kernel_rfl) (fun _ _ _ h => h) (Or.inl ⟨by rfl, fun W hW => ?_⟩) (by assumption) ?_
          · go_simp
          simp only [Act.put, List.setIfInBounds_toArray, List.set_cons_zero, List.set_cons_succ]
          refine wpAnyH_take (i := 4) (oi := ⟨some 40, _, _, _, _, none⟩) (v := (.pointer (some ⟨b, o + k * 4 + 1, none⟩))) rfl (by kernel_rfl) (by kernel_rfl) (by kernel_rfl) (fun _ _ _ h => h) (Or.inl ⟨by rfl, fun W hW => ?_⟩) (by assumption) ?_
          · go_simp
          simp only [Act.put, List.setIfInBounds_toArray, List.set_cons_zero, List.set_cons_succ]
          refine wpAnyH_take (i := 5) (oi := ⟨some 41, _, _, _, _, none⟩) (v := (.int .i64 (nn k))) rfl (by kernel_rfl) (by kernel_rfl) (by kernel_rfl) (fun _ _ _ h => h) (Or.inl ⟨by rfl, fun W hW => ?_⟩) (by assumption) ?_
          · have := HCL2.out W hW; have h1 := this.1; have h2 := this.2.1; have h3 := this.2.2.1; go_simp
          simp only [Act.put, List.setIfInBounds_toArray, List.set_cons_zero, List.set_cons_succ]
          refine wpAnyH_take (i := 6) (oi := ⟨some 42, _, _, _, _, none⟩) (v := (.slice (some ⟨b, o, none⟩) m cap)) rfl (by kernel_rfl) (by kernel_rfl) (by kernel_rfl) (fun _ _ _ h => h) (Or.inl ⟨by rfl, fun W hW => ?_⟩) (by assumption) ?_
          · go_simp
          simp only [Act.put, List.setIfInBounds_toArray, List.set_cons_zero, List.set_cons_succ]
          refine wpAnyH_take (i := 7) (oi := ⟨some 43, _, _, _, _, none⟩) (v := (.int .i64 (k : Nat))) rfl (by kernel_rfl) (by kernel_rfl) (by kernel_rfl) (fun _ _ _ h => h) (Or.inl ⟨by rfl, fun W hW => ?_⟩) (by assumption) ?_
          · go_simp
          simp only [Act.put, List.setIfInBounds_toArray, List.set_cons_zero, List.set_cons_succ]
          refine wpAnyH_take (i := 8) (oi := ⟨some 44, _, _, _, _, none⟩) (v := (.pointer (some ⟨b, o + k * 4, none⟩))) rfl (by kernel_rfl) (by kernel_rfl) (by kernel_rfl) (fun _ _ _ h => h) (Or.inl ⟨by rfl, fun W hW => ?_⟩) (by assumption) ?_
          · go_simp
          simp only [Act.put, List.setIfInBounds_toArray, List.set_cons_zero, List.set_cons_succ]
          refine wpAnyH_take (i := 9) (oi := ⟨some 45, _, _, _, _, none⟩) (v := (.pointer (some ⟨b, o + k * 4 + 2, none⟩))) rfl (by kernel_rfl) (by kernel_rfl) (by kernel_rfl) (fun _ _ _ h => h) (Or.inl ⟨by rfl, fun W hW => ?_⟩) (by assumption) ?_
          · go_simp
          simp only [Act.put, List.setIfInBounds_toArray, List.set_cons_zero, List.set_cons_succ]
          refine wpAnyH_take (i := 10) (oi := ⟨some 46, _, _, _, _, none⟩) (v := (.int .i64 (zz k))) rfl (by kernel_rfl) (by kernel_rfl) (by kernel_rfl) (fun _ _ _ h => h) (Or.inl ⟨by rfl, fun W hW => ?_⟩) (by assumption) ?_
          · have := HCL2.out W hW; have h1 := this.1; have h2 := this.2.1; have h3 := this.2.2.1; go_simp
          simp only [Act.put, List.setIfInBounds_toArray, List.set_cons_zero, List.set_cons_succ]
          refine wpAnyH_ready (rs := [11]) (by kernel_rfl) (by simp) (AllReadyH.cons rfl (fun KK hKK => ?_) AllReadyH.nil)
          go_simp
          refine (wnum_any w.heap.size p s a1 c1 S (nn k) (zz k) (by have := HLEN.out; omega) w4.drew HB3.out.size HTWd.out.l).mono ?_
          rintro x w5 hwr
          have HB5 := Lib.hid (HB3.out.drew.trans (wrote_below HTWd.out.l HB3.out.size hwr))
          obtain ⟨a5, c5, htw5, hfar⟩ := HTWd.out.left hwr
          obtain ⟨_, _, rfl, _⟩ := hwr
          obtain ⟨hG5, hb5⟩ := hfar G _ HBK.out hG1
          have HTW5 := Lib.hid htw5; have HBK5 := Lib.hid (hb5.trans HBK.out)
          clear htw5 hfar hb5
          dsimp only
          refine hKK.out _ _ (HB5.out) (fun hHeld => ?_)
          clear hKK KK
          refine wpAnyH_done (by kernel_rfl) ?_ _
          clear hHeld
          go_upto_region 10 with fail
          have HTWe := Lib.hid (HTW5.out.same (Below.refl _ w5).drew)
          refine wp_region_held_drew (S := fun W => Below w.heap.size w W) (by kernel_rfl) (HB5.out.drew) (fun hHeld => ?_)
          refine wpAnyH_take (i := 0) (oi := ⟨some 48, _, _, _, _, none⟩) (v := (.pointer (some ⟨q, 0, none⟩))) rfl (by kernel_rfl) (by kernel_rfl) (by kernel_rfl) (fun _ _ _ h => h) (Or.inl ⟨by rfl, fun W hW => ?_⟩) (by assumption) ?_
          · go_simp
          simp only [Act.put, List.setIfInBounds_toArray, List.set_cons_zero, List.set_cons_succ]
          refine wpAnyH_take (i := 1) (oi := ⟨some 49, _, _, _, _, none⟩) (v := (.slice (some ⟨b, o, none⟩) m cap)) rfl (by kernel_rfl) (by kernel_rfl) (by kernel_rfl) (fun _ _ _ h => h) (Or.inl ⟨by rfl, fun W hW => ?_⟩) (by assumption) ?_
          · go_simp
          simp only [Act.put, List.setIfInBounds_toArray, List.set_cons_zero, List.set_cons_succ]
          refine wpAnyH_take (i := 2) (oi := ⟨some 50, _, _, _, _, none⟩) (v := (.int .i64 (k : Nat))) rfl (by kernel_rfl) (by kernel_rfl) (by kernel_rfl) (fun _ _ _ h => h) (Or.inl ⟨by rfl, fun W hW => ?_⟩) (by assumption) ?_
          · go_simp
          simp only [Act.put, List.setIfInBounds_toArray, List.set_cons_zero, List.set_cons_succ]
          refine wpAnyH_take (i := 3) (oi := ⟨some 51, _, _, _, _, none⟩) (v := (.pointer (some ⟨b, o + k * 4, none⟩))) rfl (by kernel_rfl) (by kernel_rfl) (by kernel_rfl) (fun _ _ _ h => h) (Or.inl ⟨by rfl, fun W hW => ?_⟩) (by assumption) ?_
          · go_simp
          simp only [Act.put, List.setIfInBounds_toArray, List.set_cons_zero, List.set_cons_succ]
          refine wpAnyH_take (i := 4) (oi := ⟨some 52, _, _, _, _, none⟩) (v := (.pointer (some ⟨b, o + k * 4 + 1, none⟩))) rfl (by kernel_rfl) (by kernel_rfl) (by kernel_rfl) (fun _ _ _ h => h) (Or.inl ⟨by rfl, fun W hW => ?_⟩) (by assumption) ?_
          · go_simp
          simp only [Act.put, List.setIfInBounds_toArray, List.set_cons_zero, List.set_cons_succ]
          refine wpAnyH_take (i := 5) (oi := ⟨some 53, _, _, _, _, none⟩) (v := (.int .i64 (nn k))) rfl (by kernel_rfl) (by kernel_rfl) (by kernel_rfl) (fun _ _ _ h => h) (Or.inl ⟨by rfl, fun W hW => ?_⟩) (by assumption) ?_
          · have := HCL2.out W hW; have h1 := this.1; have h2 := this.2.1; have h3 := this.2.2.1; go_simp
          simp only [Act.put, List.setIfInBounds_toArray, List.set_cons_zero, List.set_cons_succ]
          refine wpAnyH_take (i := 6) (oi := ⟨some 54, _, _, _, _, none⟩) (v := (.slice (some ⟨b, o, none⟩) m cap)) rfl (by kernel_rfl) (by kernel_rfl) (by kernel_rfl) (fun _ _ _ h => h) (Or.inl ⟨by rfl, fun W hW => ?_⟩) (by assumption) ?_
          · go_simp
          simp only [Act.put, List.setIfInBounds_toArray, List.set_cons_zero, List.set_cons_succ]
          refine wpAnyH_take (i := 7) (oi := ⟨some 55, _, _, _, _, none⟩) (v := (.int .i64 (k : Nat))) rfl (by kernel_rfl) (by kernel_rfl) (by kernel_rfl) (fun _ _ _ h => h) (Or.inl ⟨by rfl, fun W hW => ?_⟩) (by assumption) ?_
          · go_simp
          simp only [Act.put, List.setIfInBounds_toArray, List.set_cons_zero, List.set_cons_succ]
          refine wpAnyH_take (i := 8) (oi := ⟨some 56, _, _, _, _, none⟩) (v := (.pointer (some ⟨b, o + k * 4, none⟩))) rfl (by kernel_rfl) (by kernel_rfl) (by kernel_rfl) (fun _ _ _ h => h) (Or.inl ⟨by rfl, fun W hW => ?_⟩) (by assumption) ?_
          · go_simp
          simp only [Act.put, List.setIfInBounds_toArray, List.set_cons_zero, List.set_cons_succ]
          refine wpAnyH_take (i := 9) (oi := ⟨some 57, _, _, _, _, none⟩) (v := (.pointer (some ⟨b, o + k * 4 + 2, none⟩))) rfl (by kernel_rfl) (by kernel_rfl) (by kernel_rfl) (fun _ _ _ h => h) (Or.inl ⟨by rfl, fun W hW => ?_⟩) (by assumption) ?_
          · go_simp
          simp only [Act.put, List.setIfInBounds_toArray, List.set_cons_zero, List.set_cons_succ]
          refine wpAnyH_take (i := 10) (oi := ⟨some 58, _, _, _, _, none⟩) (v := (.int .i64 (zz k))) rfl (by kernel_rfl) (by kernel_rfl) (by kernel_rfl) (fun _ _ _ h => h) (Or.inl ⟨by rfl, fun W hW => ?_⟩) (by assumption) ?_
          · have := HCL2.out W hW; have h1 := this.1; have h2 := this.2.1; have h3 := this.2.2.1; go_simp
          simp only [Act.put, List.setIfInBounds_toArray, List.set_cons_zero, List.set_cons_succ]
          refine wpAnyH_ready (rs := [11]) (by kernel_rfl) (by simp) (AllReadyH.cons rfl (fun KK hKK => ?_) AllReadyH.nil)
          go_simp
          refine (xnum_any w.heap.size q a2 c2 S (nn k) (zz k) (by have := HLEN.out; omega) w5.drew HB5.out.size HTWe.out.r).mono ?_
          rintro x w6 hwr
          have HB6 := Lib.hid (HB5.out.drew.trans (xrote_below HTWe.out.r HB5.out.size hwr))
          obtain ⟨a6, c6, htw6, hfar⟩ := HTWe.out.right hwr
          obtain ⟨_, _, rfl, _⟩ := hwr
          obtain ⟨hG6, hb6⟩ := hfar G _ HBK5.out hG2
          have HTW6 := Lib.hid htw6; have HBK6 := Lib.hid (show Block w6 G (lentC (ints fi li) 12) 5 from hb6.trans HBK5.out)
          clear htw6 hfar hb6 HB5 HTW5 HBK5 HTWe HB3 HTWd HBK HTW3
          dsimp only
          refine hKK.out _ _ (HB6.out) (fun hHeld => ?_)
          clear hKK KK
          refine wpAnyH_done (by kernel_rfl) ?_ _
          clear hHeld
          have HS2O := Lib.hid (HO.out.num (nn k) (zz k))
          have hS2l : (S.num (nn k) (zz k)).l ≤ 2004 * (k + 1) := by have := HLEN.out; have := Bs.num_len S (nn k) (zz k); omega
          generalize hS2 : S.num (nn k) (zz k) = S2 at HTW6 HS2O hS2l
          clear hS2
          have HS2L := Lib.hid hS2l; clear hS2l
          have HC3 := Lib.hid (fun W (hW : Below w.heap.size w W) => (HCL2.out W hW).2.2.2)
          have c3 := HC3.out w6 HB6.out
          go_wp2_with fail
          refine (keptS_any G ai li ci fi _ (HDO.out _ HB6.out) HBK6.out (by omega)).mono ?_
          rintro x w7 ⟨rfl, q7, hq7⟩
          have hB67 : Below w6.heap.size w6 w7 := by rw [hq7]; exact below_dr (Below.refl _ _) q7
          have HB7 := Lib.hid (HB6.out.trans (hB67.mono HB6.out.size)); have HTW7 := Lib.hid (HTW6.out.same hB67); have HBK7 := Lib.hid (HBK6.out.below hB67 HBK6.out.lt)
          clear hq7 hB67 c3
          go_wp2_with fail
          refine (over_any G li (li + 12) _ (by omega) (by omega) (by unfold maxLen; omega) _ HBK7.out (by simp [lentC_len, ints_len])).mono ?_
          rintro x w8 ⟨rfl, hg8⟩
          have HB8 := Lib.hid (show Below w.heap.size w w8 from HB7.out.trans ⟨hg8.os, hg8.tape, hg8.output, hg8.size, fun j hj => hg8.block j (Nat.lt_of_lt_of_le hj HB7.out.size) (fun e => by cases e; omega)⟩)
          have HTW8 := Lib.hid (HTW7.out.grown hg8 (fun g e => by cases e; exact Or.inr ⟨⟨_, HBK7.out⟩, hG5, hG6⟩))
          clear hg8
          go_wp2_with fail
          refine (wbytes_any w.heap.size p s a5 c5 S2 HS2O.out (by have := HS2L.out; omega) _ HTW8.out.l).mono ?_
          rintro x w9 ⟨a9, c9, rfl, hN9, hB9⟩
          have HB9 := Lib.hid (HB8.out.trans (hB9.mono HB8.out.size)); have HTW9 := Lib.hid (HTW8.out.same hB9); have HN9 := Lib.hid hN9
          have hz8 := hB9.size
          clear hN9 hB9
          go_wp2_with fail
          refine (xbytes_any w.heap.size q a6 c6 S2 HS2O.out (by have := HS2L.out; omega) _ HTW9.out.r).mono ?_
          rintro x w10 ⟨aX, cX, rfl, hNX, hBX⟩
          have HBX := Lib.hid (HB9.out.trans (hBX.mono HB9.out.size)); have HTWX := Lib.hid (HTW9.out.same hBX); have HN9X := Lib.hid (HN9.out.below hBX); have HNX := Lib.hid hNX
          have hz9 := hBX.size
          clear hNX hBX
          have hee : (S2.e != S2.e) = false := by simp
          have hml : S2.m ≤ 900000000 := by have := HS2L.out; unfold Bs.m; split <;> omega
          generalize hm2 : S2.m = m2 at HN9X HNX hml
          generalize hg2 : S2.g = g2 at HN9X HNX
          generalize he2 : S2.e = e2 at hee
          clear hm2 hg2 he2 HN9
          go_wp2_with fail
          refine (same_any a9 aX m2 c9 cX g2 (by omega) _ HN9X.out.sl HNX.out.sl).mono ?_
          rintro x w11 ⟨rfl, q11, hq11⟩
          have hB11 : Below w10.heap.size w10 w11 := by rw [hq11]; exact below_dr (Below.refl _ _) q11
          have HB11 := Lib.hid (HBX.out.trans (hB11.mono HBX.out.size)); have HTW11 := Lib.hid (HTWX.out.same hB11); have HN11 := Lib.hid (HN9X.out.below hB11)
          have hz11 := hB11.size
          have hz08 := HB8.out.size
          clear hq11 hB11
          go_wp2_with fail
          refine (overN_any w8.heap.size a9 m2 c9 g2 (by omega) _ HN11.out).mono ?_
          rintro x w12 ⟨rfl, row, hg12, hrow⟩
          have HB12 := Lib.hid (show Below w.heap.size w w12 from HB11.out.trans ⟨hg12.os, hg12.tape, hg12.output, hg12.size, fun j hj => hg12.block j (Nat.lt_of_lt_of_le hj HB11.out.size) (fun e => by have := (hrow j e.symm).1; omega)⟩)
          have hgr : ∀ g, row = some g → w11.heap.size ≤ g ∨ ((∃ vs, w11.heap[g]? = some (.cells vs 5 (0, 0))) ∧ a5 ≠ some ⟨g, 0, none⟩ ∧ a6 ≠ some ⟨g, 0, none⟩) := fun g e => by
            obtain ⟨h1, h2⟩ := hrow g e
            refine Or.inr ⟨?_, fun e5 => by have := (HTW8.out.l.lta g e5).2; omega, fun e6 => by have := (HTW8.out.r.lta g e6).2; omega⟩
            rcases HN11.out.ow with ⟨r, _⟩ | ⟨g', vs, r, _, hb, _⟩
            · rw [r] at h2; cases h2
            · rw [r] at h2; cases h2; exact ⟨vs, hb⟩
          have HTW12 := Lib.hid (HTW11.out.grown hg12 hgr)
          clear hg12 hrow hgr
          go_wp2
          go_roundw
          case rel => exact ⟨k + 1, a5, c5, a6, c6, S2, by omega, by go_num, HS2O.out, HS2L.out, HTW12.out, HB12.out⟩
          case measure => simp [intOf]; omega
        · have hp1 : pkv (wh k) 2 = 1 := by omega
          rw [hp1]
          clear hpk hp hp1 c0
          have HSI := Lib.hid (show Sl w4 (some ⟨G, 0, none⟩) li (li + 12) fi from (Block.nw (B := 0) HBK.out (Nat.zero_le _) (HDO.out _ HB3.out).bytes (HDO.out _ HB3.out).up (by omega)).sl)
          go_wp2_with fail
          refine (wput_any w.heap.size p s a1 c1 S (some ⟨G, 0, none⟩) li (li + 12) fi (by have := HLEN.out; omega) _ HB3.out.size HTW3.out.l HSI.out).mono ?_
          rintro x w5 hwr
          have HB5 := Lib.hid (HB3.out.trans (wrote_below HTW3.out.l HB3.out.size hwr))
          obtain ⟨a5, c5, htw5, hfar⟩ := HTW3.out.left hwr
          obtain ⟨_, _, rfl, _⟩ := hwr
          obtain ⟨hG5, hb5⟩ := hfar G _ HBK.out hG1
          have HTW5 := Lib.hid htw5; have HBK5 := Lib.hid (hb5.trans HBK.out)
          clear htw5 hfar hb5
          have c3 := (HCL2.out w5 HB5.out).2.2.2
          go_wp2_with fail
          refine (xput_any w.heap.size q a2 c2 S ai li ci fi (by have := HLEN.out; omega) _ HB5.out.size HTW5.out.r (HDO.out _ HB5.out)).mono ?_
          rintro x w6 hwr
          have HB6 := Lib.hid (HB5.out.trans (xrote_below HTW5.out.r HB5.out.size hwr))
          obtain ⟨a6, c6, htw6, hfar⟩ := HTW5.out.right hwr
          obtain ⟨_, _, rfl, _⟩ := hwr
          obtain ⟨hG6, hb6⟩ := hfar G _ HBK5.out hG2
          have HTW6 := Lib.hid htw6; have HBK6 := Lib.hid (show Block w6 G (lentC (ints fi li) 12) 5 from hb6.trans HBK5.out)
          clear htw6 hfar hb6 HB5 HTW5 HBK5 HB3 HTWd HBK HTW3 HSI c3
          have HS2O := Lib.hid (HO.out.put (n := li) (g := fi) (HDO.out _ HB6.out).bytes)
          have hS2l : (S.put li fi).l ≤ 2004 * (k + 1) := by have := HLEN.out; have := Bs.put_len S li fi; omega
          generalize hS2 : S.put li fi = S2 at HTW6 HS2O hS2l
          clear hS2
          have HS2L := Lib.hid hS2l; clear hS2l
          have HC3 := Lib.hid (fun W (hW : Below w.heap.size w W) => (HCL2.out W hW).2.2.2)
          have c3 := HC3.out w6 HB6.out
          go_wp2_with fail
          refine (keptS_any G ai li ci fi _ (HDO.out _ HB6.out) HBK6.out (by omega)).mono ?_
          rintro x w7 ⟨rfl, q7, hq7⟩
          have hB67 : Below w6.heap.size w6 w7 := by rw [hq7]; exact below_dr (Below.refl _ _) q7
          have HB7 := Lib.hid (HB6.out.trans (hB67.mono HB6.out.size)); have HTW7 := Lib.hid (HTW6.out.same hB67); have HBK7 := Lib.hid (HBK6.out.below hB67 HBK6.out.lt)
          clear hq7 hB67 c3
          go_wp2_with fail
          refine (over_any G li (li + 12) _ (by omega) (by omega) (by unfold maxLen; omega) _ HBK7.out (by simp [lentC_len, ints_len])).mono ?_
          rintro x w8 ⟨rfl, hg8⟩
          have HB8 := Lib.hid (show Below w.heap.size w w8 from HB7.out.trans ⟨hg8.os, hg8.tape, hg8.output, hg8.size, fun j hj => hg8.block j (Nat.lt_of_lt_of_le hj HB7.out.size) (fun e => by cases e; omega)⟩)
          have HTW8 := Lib.hid (HTW7.out.grown hg8 (fun g e => by cases e; exact Or.inr ⟨⟨_, HBK7.out⟩, hG5, hG6⟩))
          clear hg8
          go_wp2_with fail
          refine (wbytes_any w.heap.size p s a5 c5 S2 HS2O.out (by have := HS2L.out; omega) _ HTW8.out.l).mono ?_
          rintro x w9 ⟨a9, c9, rfl, hN9, hB9⟩
          have HB9 := Lib.hid (HB8.out.trans (hB9.mono HB8.out.size)); have HTW9 := Lib.hid (HTW8.out.same hB9); have HN9 := Lib.hid hN9
          have hz8 := hB9.size
          clear hN9 hB9
          go_wp2_with fail
          refine (xbytes_any w.heap.size q a6 c6 S2 HS2O.out (by have := HS2L.out; omega) _ HTW9.out.r).mono ?_
          rintro x w10 ⟨aX, cX, rfl, hNX, hBX⟩
          have HBX := Lib.hid (HB9.out.trans (hBX.mono HB9.out.size)); have HTWX := Lib.hid (HTW9.out.same hBX); have HN9X := Lib.hid (HN9.out.below hBX); have HNX := Lib.hid hNX
          have hz9 := hBX.size
          clear hNX hBX
          have hee : (S2.e != S2.e) = false := by simp
          have hml : S2.m ≤ 900000000 := by have := HS2L.out; unfold Bs.m; split <;> omega
          generalize hm2 : S2.m = m2 at HN9X HNX hml
          generalize hg2 : S2.g = g2 at HN9X HNX
          generalize he2 : S2.e = e2 at hee
          clear hm2 hg2 he2 HN9
          go_wp2_with fail
          refine (same_any a9 aX m2 c9 cX g2 (by omega) _ HN9X.out.sl HNX.out.sl).mono ?_
          rintro x w11 ⟨rfl, q11, hq11⟩
          have hB11 : Below w10.heap.size w10 w11 := by rw [hq11]; exact below_dr (Below.refl _ _) q11
          have HB11 := Lib.hid (HBX.out.trans (hB11.mono HBX.out.size)); have HTW11 := Lib.hid (HTWX.out.same hB11); have HN11 := Lib.hid (HN9X.out.below hB11)
          have hz11 := hB11.size
          have hz08 := HB8.out.size
          clear hq11 hB11
          go_wp2_with fail
          refine (overN_any w8.heap.size a9 m2 c9 g2 (by omega) _ HN11.out).mono ?_
          rintro x w12 ⟨rfl, row, hg12, hrow⟩
          have HB12 := Lib.hid (show Below w.heap.size w w12 from HB11.out.trans ⟨hg12.os, hg12.tape, hg12.output, hg12.size, fun j hj => hg12.block j (Nat.lt_of_lt_of_le hj HB11.out.size) (fun e => by have := (hrow j e.symm).1; omega)⟩)
          have hgr : ∀ g, row = some g → w11.heap.size ≤ g ∨ ((∃ vs, w11.heap[g]? = some (.cells vs 5 (0, 0))) ∧ a5 ≠ some ⟨g, 0, none⟩ ∧ a6 ≠ some ⟨g, 0, none⟩) := fun g e => by
            obtain ⟨h1, h2⟩ := hrow g e
            refine Or.inr ⟨?_, fun e5 => by have := (HTW8.out.l.lta g e5).2; omega, fun e6 => by have := (HTW8.out.r.lta g e6).2; omega⟩
            rcases HN11.out.ow with ⟨r, _⟩ | ⟨g', vs, r, _, hb, _⟩
            · rw [r] at h2; cases h2
            · rw [r] at h2; cases h2; exact ⟨vs, hb⟩
          have HTW12 := Lib.hid (HTW11.out.grown hg12 hgr)
          clear hg12 hrow hgr
          go_wp2
          go_roundw
          case rel => exact ⟨k + 1, a5, c5, a6, c6, S2, by omega, by go_num, HS2O.out, HS2L.out, HTW12.out, HB12.out⟩
          case measure => simp [intOf]; omega
      · obtain rfl : k = m := by omega
        have i1 : ¬ (k : Int) < (k : Int) := by omega
        go_wp2_with fail
        refine (awake8_any _).mono ?_
        rintro x w3 ⟨rfl, hB3⟩
        have HB3 := Lib.hid (HBk.out.trans (hB3.mono HBk.out.size)); clear hB3
        go_wp2
        go_ret
        exact ⟨rfl, HB3.out⟩
  · have j0 : (2000 : Int) < (M : Int) := by omega
    go_wp2_with fail
    refine (awake8_any _).mono ?_
    rintro x w1 ⟨rfl, hB1⟩
    have HB1 := Lib.hid (HB0.out.trans (hB1.mono HB0.out.size)); clear hB1
    go_wp2
    go_ret
    exact ⟨rfl, HB1.out⟩
end Go.Proofs.Ytdjigbjheicfcaa

namespace Go.Proofs.Ytdjigbjheicfcaa
open Go.RowKit Go.Shelf

theorem old_row {w : World} {N m c g : Nat} {a a1 a2 : Option Addr} {f : Nat → Nat} (h : Nw w N a m c f) (hg : N ≤ g ∧ a = some ⟨g, 0, none⟩) (h1 : ∀ ad, a1 = some ad → ad.block < N) (h2 : ∀ ad, a2 = some ad → ad.block < N) :
    (∃ vs, w.heap[g]? = some (.cells vs 5 (0, 0))) ∧ (∀ ad, a1 = some ad → ad.block ≠ g) ∧ (∀ ad, a2 = some ad → ad.block ≠ g) := by
  refine ⟨?_, fun ad e => by have := h1 ad e; omega, fun ad e => by have := h2 ad e; omega⟩
  rcases h.ow with ⟨r, _⟩ | ⟨g', vs, r, _, hb, _⟩
  · rw [r] at hg; exact absurd hg.2 (by simp)
  · rw [r] at hg; have := hg.2; cases this; exact ⟨vs, hb⟩
set_option maxHeartbeats 8000000 in
set_option maxRecDepth 100000 in
theorem packReads_any (a0 : Option Addr) (n0 cap0 : Nat) (f0 : Nat → Nat) (a : Option Addr) (m cap : Nat) (wh nn zz : Nat → Int) (ia : Nat → Option Addr) (il ic : Nat → Nat) (fb : Nat → Nat → Nat) (hn0 : n0 ≤ 140737488355328) (hm : m ≤ 1000000000000000) (w : World) (hS : Sl w a0 n0 cap0 f0) (hA : Dos w a m wh nn zz ia il ic fb) :
    Calls Try.prog 4 #[.slice a0 n0 cap0, .slice a m cap] w fun e w' => e = .returned (.bool true) ∧ Below w.heap.size w w' := by
  have HA := Lib.hid hA; have HS := Lib.hid hS; clear hA hS
  go_enter Try.func4, Try.ntmps4
  by_cases hbig : n0 + m ≤ 2000
  · have j0 : ¬ (2000 : Int) < (n0 : Int) + (m : Int) := by omega
    go_wp2_with fail
    refine (lentS_any a0 n0 cap0 f0 _ HS.out (by omega)).mono ?_
    rintro x w1 ⟨rfl, hbk, hB1⟩
    obtain ⟨G, hG⟩ : ∃ G, G = w.heap.size := ⟨_, rfl⟩
    have HB1 := Lib.hid hB1
    rw [← hG] at hbk ⊢
    have HBK := Lib.hid hbk
    have HSI := Lib.hid (show Sl w1 (some ⟨G, 0, none⟩) n0 (n0 + 12) f0 from (Block.nw (B := 0) hbk (Nat.zero_le _) HS.out.bytes HS.out.up (by omega)).sl)
    have hG1 := hbk.lt
    have hz1 := hB1.size
    have HG0 := Lib.hid hG
    clear hbk hB1 hG
    go_wp2_with fail
    refine (rover_any (some ⟨G, 0, none⟩) n0 (n0 + 12) f0 (by omega) _ HSI.out).mono ?_
    rintro x w2 ⟨p, s, a1, c1, rfl, hR, hB2⟩
    have HR := Lib.hid hR; have HB2 := Lib.hid (HB1.out.trans (hB2.mono HB1.out.size)); have HBK2 := Lib.hid (HBK.out.below hB2 hG1)
    have hz2 := hB2.size
    clear hR hB2 HSI
    go_wp2_with fail
    refine (xover_any a0 n0 cap0 f0 (by omega) _ (HS.out.same HB2.out)).mono ?_
    rintro x w3 ⟨q, a2, c2, rfl, hX, hB3⟩
    have HTW := Lib.hid (show TwoR w3 (G + 1) p s q a1 c1 a2 c2 ⟨n0, f0, 0⟩ ⟨n0, f0, 0⟩ from ⟨(HR.out.same hB3).mono8 hG1, hX.mono8 (by omega)⟩)
    have HB3 := Lib.hid (HB2.out.trans (hB3.mono HB2.out.size)); have HBK3 := Lib.hid (HBK2.out.below hB3 HBK2.out.lt)
    clear hX hB3 HR HBK HBK2
    go_wp2_with fail
    refine (keptS_any G a0 n0 cap0 f0 _ (HS.out.same HB3.out) HBK3.out (by omega)).mono ?_
    rintro x w4 ⟨rfl, q4, hq4⟩
    have hB34 : Below w3.heap.size w3 w4 := by rw [hq4]; exact below_dr (Below.refl _ _) q4
    have HB4 := Lib.hid (HB3.out.trans (hB34.mono HB3.out.size)); have HTW4 := Lib.hid (HTW.out.same hB34); have HBK4 := Lib.hid (HBK3.out.below hB34 HBK3.out.lt)
    clear hq4 hB34 HTW HBK3
    go_wp2_with fail
    refine (over_any G n0 (n0 + 12) _ (by omega) (by omega) (by unfold maxLen; omega) _ HBK4.out (by simp [lentC_len, ints_len])).mono ?_
    rintro x w5 ⟨rfl, hg5⟩
    have HB5 := Lib.hid (show Below w.heap.size w w5 from HB4.out.trans ⟨hg5.os, hg5.tape, hg5.output, hg5.size, fun j hj => hg5.block j (Nat.lt_of_lt_of_le hj HB4.out.size) (fun e => by cases e; have := HG0.out; omega)⟩)
    have HTW5 := Lib.hid (show TwoR w5 w.heap.size p s q a1 c1 a2 c2 ⟨n0, f0, 0⟩ ⟨n0, f0, 0⟩ from by
      have h := HTW4.out.grown hg5 (fun g e => by
        cases e
        exact ⟨⟨_, HBK4.out⟩, fun ad e2 => by have := (HTW4.out.l.ha ad e2).1; omega, fun ad e2 => by have := (HTW4.out.r.ha ad e2).1; omega⟩)
      exact ⟨h.l.mono8 (by have := HG0.out; omega), h.r.mono8 (by have := HG0.out; omega)⟩)
    clear hg5 HTW4 HBK4
    have HSO := Lib.hid (show (⟨n0, f0, 0⟩ : Bs).Ok from ⟨HS.out.bytes, HS.out.up⟩)
    go_wp2_with fail
    go_loopw [8, 9, 10] (fun iv _ _ wr => ∃ (k : Nat) (a1 : Option Addr) (c1 : Nat) (a2 : Option Addr) (c2 : Nat) (S : Bs), k ≤ m ∧ iv = .int .i64 (k : Nat) ∧ S.Ok ∧ S.l ≤ 2000 ∧ TwoR wr w.heap.size p s q a1 c1 a2 c2 S S ∧ Below w.heap.size w wr) (fun i _ _ _ => m - (intOf i).toNat)
    case atStart => exact ⟨0, a1, c1, a2, c2, ⟨n0, f0, 0⟩, by omega, rfl, HSO.out, (by omega : n0 ≤ 2000), HTW5.out, HB5.out⟩
    case round =>
      rename_i wr
      obtain ⟨k, a1, c1, a2, c2, S, hk, rfl, hO, hlen, hTW, hB⟩ := hrel
      have HO := Lib.hid hO; have HLEN := Lib.hid hlen; have HTWk := Lib.hid hTW; have HBk := Lib.hid hB
      clear hO hlen hTW hB HTW5 HB5 HSO
      by_cases hlt : k < m
      · have i1 : (k : Int) < (m : Int) := by omega
        have HCL := Lib.hid (fun W (hW : Below w.heap.size w W) => (HA.out.same hW).cell k hlt)
        obtain ⟨b, o, ea, _⟩ := HA.out.cell k hlt
        have HCL2 := Lib.hid (fun W (hW : Below w.heap.size w W) => (by
          obtain ⟨b', o', e', h1, h2, h3, h4⟩ := HCL.out W hW
          rw [ea] at e'; cases e'; exact ⟨h1, h2, h3⟩ : W.cell? ⟨b, o + k * 4, none⟩ = some (.int .i64 (wh k)) ∧ W.cell? ⟨b, o + k * 4 + 1, none⟩ = some (.int .i64 (nn k)) ∧ W.cell? ⟨b, o + k * 4 + 2, none⟩ = some (.int .i64 (zz k))))
        clear HCL
        have EA := Lib.hid ea
        subst ea
        clear EA
        have c0 := (HCL2.out wr HBk.out).1
        go_wp2_with fail
        refine (pickv_any (wh k) 2 (by omega) (by omega) _).mono ?_
        rintro x wd ⟨rfl, rfl⟩
        have hpk := pkv_bd (wh k) (n := 2) (by omega)
        have HTd := Lib.hid (HTWk.out.same (Below.refl _ wd).drew)
        have HB3 := Lib.hid HBk.out
        clear HTWk HBk
        by_cases hp : pkv (wh k) 2 = 0
        · rw [hp]
          clear hpk hp c0
          go_upto_region 12 with fail
          refine wp_region_held_drew (S := fun W => Below w.heap.size w W) (by kernel_rfl) (HB3.out.drew) (fun hHeld => ?_)
          refine wpAnyH_take (i := 0) (oi := ⟨some 43, _, _, _, _, none⟩) (v := (.pointer (some ⟨p, 0, none⟩))) rfl (by kernel_rfl) (by kernel_rfl) (by kernel_rfl) (fun _ _ _ h => h) (Or.inl ⟨by rfl, fun W hW => ?_⟩) (by assumption) ?_
          · go_simp
          simp only [Act.put, List.setIfInBounds_toArray, List.set_cons_zero, List.set_cons_succ]
          refine wpAnyH_take (i := 1) (oi := ⟨some 44, _, _, _, _, none⟩) (v := (.slice (some ⟨b, o, none⟩) m cap)) rfl (by kernel_rfl) (by kernel_rfl) (by kernel_rfl) (fun _ _ _ h => h) (Or.inl ⟨by rfl, fun W hW => ?_⟩) (by assumption) ?_
          · go_simp
          simp only [Act.put, List.setIfInBounds_toArray, List.set_cons_zero, List.set_cons_succ]
          refine wpAnyH_take (i := 2) (oi := ⟨some 45, _, _, _, _, none⟩) (v := (.int .i64 (k : Nat))) rfl (by kernel_rfl) (by kernel_rfl) (by kernel_rfl) (fun _ _ _ h => h) (Or.inl ⟨by rfl, fun W hW => ?_⟩) (by assumption) ?_
          · go_simp
          simp only [Act.put, List.setIfInBounds_toArray, List.set_cons_zero, List.set_cons_succ]
          refine wpAnyH_take (i := 3) (oi := ⟨some 46, _, _, _, _, none⟩) (v := (.pointer (some ⟨b, o + k * 4, none⟩))) rfl (by kernel_rfl) (by kernel_rfl) (by kernel_rfl) (fun _ _ _ h => h) (Or.inl ⟨by rfl, fun W hW => ?_⟩) (by assumption) ?_
          · go_simp
          simp only [Act.put, List.setIfInBounds_toArray, List.set_cons_zero, List.set_cons_succ]
          refine wpAnyH_take (i := 4) (oi := ⟨some 47, _, _, _, _, none⟩) (v := (.pointer (some ⟨b, o + k * 4 + 2, none⟩))) rfl (by kernel_rfl) (by kernel_rfl) (by kernel_rfl) (fun _ _ _ h => h) (Or.inl ⟨by rfl, fun W hW => ?_⟩) (by assumption) ?_
          · go_simp
          simp only [Act.put, List.setIfInBounds_toArray, List.set_cons_zero, List.set_cons_succ]
          refine wpAnyH_take (i := 5) (oi := ⟨some 48, _, _, _, _, none⟩) (v := (.int .i64 (zz k))) rfl (by kernel_rfl) (by kernel_rfl) (by kernel_rfl) (fun _ _ _ h => h) (Or.inl ⟨by rfl, fun W hW => ?_⟩) (by assumption) ?_
          · have := HCL2.out W hW; have h1 := this.1; have h2 := this.2.1; have h3 := this.2.2; go_simp
          simp only [Act.put, List.setIfInBounds_toArray, List.set_cons_zero, List.set_cons_succ]
          refine wpAnyH_take (i := 7) (oi := ⟨some 50, _, _, _, _, none⟩) (v := (.pointer (some ⟨q, 0, none⟩))) rfl (by kernel_rfl) (by kernel_rfl) (by kernel_rfl) (fun _ _ _ h => h) (Or.inl ⟨by rfl, fun W hW => ?_⟩) (by assumption) ?_
          · go_simp
          simp only [Act.put, List.setIfInBounds_toArray, List.set_cons_zero, List.set_cons_succ]
          refine wpAnyH_take (i := 8) (oi := ⟨some 51, _, _, _, _, none⟩) (v := (.slice (some ⟨b, o, none⟩) m cap)) rfl (by kernel_rfl) (by kernel_rfl) (by kernel_rfl) (fun _ _ _ h => h) (Or.inl ⟨by rfl, fun W hW => ?_⟩) (by assumption) ?_
          · go_simp
          simp only [Act.put, List.setIfInBounds_toArray, List.set_cons_zero, List.set_cons_succ]
          refine wpAnyH_take (i := 9) (oi := ⟨some 52, _, _, _, _, none⟩) (v := (.int .i64 (k : Nat))) rfl (by kernel_rfl) (by kernel_rfl) (by kernel_rfl) (fun _ _ _ h => h) (Or.inl ⟨by rfl, fun W hW => ?_⟩) (by assumption) ?_
          · go_simp
          simp only [Act.put, List.setIfInBounds_toArray, List.set_cons_zero, List.set_cons_succ]
          refine wpAnyH_take (i := 10) (oi := ⟨some 53, _, _, _, _, none⟩) (v := (.pointer (some ⟨b, o + k * 4, none⟩))) rfl (by kernel_rfl) (by kernel_rfl) (by kernel_rfl) (fun _ _ _ h => h) (Or.inl ⟨by rfl, fun W hW => ?_⟩) (by assumption) ?_
          · go_simp
          simp only [Act.put, List.setIfInBounds_toArray, List.set_cons_zero, List.set_cons_succ]
          refine wpAnyH_take (i := 11) (oi := ⟨some 54, _, _, _, _, none⟩) (v := (.pointer (some ⟨b, o + k * 4 + 2, none⟩))) rfl (by kernel_rfl) (by kernel_rfl) (by kernel_rfl) (fun _ _ _ h => h) (Or.inl ⟨by rfl, fun W hW => ?_⟩) (by assumption) ?_
          · go_simp
          simp only [Act.put, List.setIfInBounds_toArray, List.set_cons_zero, List.set_cons_succ]
          refine wpAnyH_take (i := 12) (oi := ⟨some 55, _, _, _, _, none⟩) (v := (.int .i64 (zz k))) rfl (by kernel_rfl) (by kernel_rfl) (by kernel_rfl) (fun _ _ _ h => h) (Or.inl ⟨by rfl, fun W hW => ?_⟩) (by assumption) ?_
          · have := HCL2.out W hW; have h1 := this.1; have h2 := this.2.1; have h3 := this.2.2; go_simp
          simp only [Act.put, List.setIfInBounds_toArray, List.set_cons_zero, List.set_cons_succ]
          refine wpAnyH_ready (rs := [6]) (by kernel_rfl) (by simp) (AllReadyH.cons rfl (fun KK hKK => ?_) AllReadyH.nil)
          go_simp
          refine (rnum_any w.heap.size p s _ _ S (zz k) HO.out (by have := HLEN.out; omega) wd.drew HTd.out.l).mono ?_
          rintro x w5 ⟨rfl, hred⟩
          have HB5 := Lib.hid (HB3.out.drew.trans (red_below HTd.out.l (Below.size HB3.out.drew) hred))
          obtain ⟨aL, cL, ht, hkL⟩ := HTd.out.left hred
          have HT5 := Lib.hid ht; have HBUTL := Lib.hid hred.2; have HKL := Lib.hid hkL; clear ht hred hkL
          dsimp only
          refine hKK.out _ _ (HB5.out) (fun hHeld => ?_)
          clear hKK KK
          try simp only [Act.put, List.setIfInBounds_toArray, List.set_cons_zero, List.set_cons_succ]
          refine wpAnyH_ready (rs := [13]) (by kernel_rfl) (by simp) (AllReadyH.cons rfl (fun KK hKK => ?_) AllReadyH.nil)
          go_simp
          refine (xrn_any w.heap.size q _ _ S (zz k) HO.out (by have := HLEN.out; omega) w5 HT5.out.r).mono ?_
          rintro x w6 ⟨rfl, hred⟩
          have HB6 := Lib.hid (HB5.out.trans (xed_below HT5.out.r (Below.size HB5.out) hred))
          obtain ⟨aR, cR, ht, hkR⟩ := HT5.out.right hred
          have HT6 := Lib.hid ht; have HBUTR := Lib.hid hred.2; have HKR := Lib.hid hkR; clear ht hred hkR
          dsimp only
          refine hKK.out _ _ (HB6.out) (fun hHeld => ?_)
          clear hKK KK
          try simp only [Act.put, List.setIfInBounds_toArray, List.set_cons_zero, List.set_cons_succ]
          refine wpAnyH_take (i := 14) (oi := ⟨some 57, _, _, _, _, none⟩) (v := (.bool false)) rfl (by kernel_rfl) (by kernel_rfl) (by kernel_rfl) (fun _ _ _ h => h) (Or.inl ⟨by rfl, fun W hW => ?_⟩) (by assumption) ?_
          · have hvv : (((S.rval (zz k) : Nat) : Int) != ((S.rval (zz k) : Nat) : Int)) = false := (by simp); go_simp
          simp only [Act.put, List.setIfInBounds_toArray, List.set_cons_zero, List.set_cons_succ]
          refine wpAnyH_done (by kernel_rfl) ?_ _
          have HTf := Lib.hid HT6.out; have HBf := Lib.hid HB6.out; clear hHeld HT5 HB5 HT6 HB6
          have HS2O := Lib.hid (HO.out.rnum (zz k))
          have hS2l : (S.rnum (zz k)).l ≤ 2000 := by have := HLEN.out; have := Bs.rnum_len S (zz k); omega
          generalize hS2 : S.rnum (zz k) = S2 at HTf HS2O hS2l
          clear hS2
          have HS2L := Lib.hid hS2l; clear hS2l
          go_wp2_with fail
          refine (rleft_any w.heap.size p s _ _ S2 _ HTf.out.l).mono ?_
          rintro x w7 ⟨rfl, rfl⟩
          go_wp2_with fail
          refine (xleft_any w.heap.size q _ _ S2 _ HTf.out.r).mono ?_
          rintro x w8 ⟨rfl, rfl⟩
          have hee : ((S2.m : Int) != (S2.m : Int)) = false := by simp
          generalize hm2 : S2.m = m2 at hee
          clear hm2
          go_wp2_with fail
          refine (rend_any w.heap.size p s _ _ S2 _ HTf.out.l).mono ?_
          rintro x w9 ⟨rfl, rfl⟩
          go_wp2_with fail
          refine (xend_any w.heap.size q _ _ S2 _ HTf.out.r).mono ?_
          rintro x w10 ⟨rfl, rfl⟩
          have hff : (S2.fin != S2.fin) = false := by simp
          generalize hm3 : S2.fin = e3 at hff
          clear hm3
          go_wp2
          go_roundw
          case rel => exact ⟨k + 1, _, _, _, _, S2, by omega, by go_num, HS2O.out, HS2L.out, HTf.out, HBf.out⟩
          case measure => simp [intOf]; omega
        · have hp1 : pkv (wh k) 2 = 1 := by omega
          rw [hp1]
          clear hpk hp hp1 c0
          go_upto_region 14 with fail
          refine wp_region_held_drew (S := fun W => Below w.heap.size w W) (by kernel_rfl) (HB3.out.drew) (fun hHeld => ?_)
          refine wpAnyH_take (i := 0) (oi := ⟨some 58, _, _, _, _, none⟩) (v := (.pointer (some ⟨p, 0, none⟩))) rfl (by kernel_rfl) (by kernel_rfl) (by kernel_rfl) (fun _ _ _ h => h) (Or.inl ⟨by rfl, fun W hW => ?_⟩) (by assumption) ?_
          · go_simp
          simp only [Act.put, List.setIfInBounds_toArray, List.set_cons_zero, List.set_cons_succ]
          refine wpAnyH_take (i := 1) (oi := ⟨some 59, _, _, _, _, none⟩) (v := (.slice (some ⟨b, o, none⟩) m cap)) rfl (by kernel_rfl) (by kernel_rfl) (by kernel_rfl) (fun _ _ _ h => h) (Or.inl ⟨by rfl, fun W hW => ?_⟩) (by assumption) ?_
          · go_simp
          simp only [Act.put, List.setIfInBounds_toArray, List.set_cons_zero, List.set_cons_succ]
          refine wpAnyH_take (i := 2) (oi := ⟨some 60, _, _, _, _, none⟩) (v := (.int .i64 (k : Nat))) rfl (by kernel_rfl) (by kernel_rfl) (by kernel_rfl) (fun _ _ _ h => h) (Or.inl ⟨by rfl, fun W hW => ?_⟩) (by assumption) ?_
          · go_simp
          simp only [Act.put, List.setIfInBounds_toArray, List.set_cons_zero, List.set_cons_succ]
          refine wpAnyH_take (i := 3) (oi := ⟨some 61, _, _, _, _, none⟩) (v := (.pointer (some ⟨b, o + k * 4, none⟩))) rfl (by kernel_rfl) (by kernel_rfl) (by kernel_rfl) (fun _ _ _ h => h) (Or.inl ⟨by rfl, fun W hW => ?_⟩) (by assumption) ?_
          · go_simp
          simp only [Act.put, List.setIfInBounds_toArray, List.set_cons_zero, List.set_cons_succ]
          refine wpAnyH_take (i := 4) (oi := ⟨some 62, _, _, _, _, none⟩) (v := (.pointer (some ⟨b, o + k * 4 + 1, none⟩))) rfl (by kernel_rfl) (by kernel_rfl) (by kernel_rfl) (fun _ _ _ h => h) (Or.inl ⟨by rfl, fun W hW => ?_⟩) (by assumption) ?_
          · go_simp
          simp only [Act.put, List.setIfInBounds_toArray, List.set_cons_zero, List.set_cons_succ]
          refine wpAnyH_take (i := 5) (oi := ⟨some 63, _, _, _, _, none⟩) (v := (.int .i64 (nn k))) rfl (by kernel_rfl) (by kernel_rfl) (by kernel_rfl) (fun _ _ _ h => h) (Or.inl ⟨by rfl, fun W hW => ?_⟩) (by assumption) ?_
          · have := HCL2.out W hW; have h1 := this.1; have h2 := this.2.1; have h3 := this.2.2; go_simp
          simp only [Act.put, List.setIfInBounds_toArray, List.set_cons_zero, List.set_cons_succ]
          refine wpAnyH_take (i := 7) (oi := ⟨some 65, _, _, _, _, none⟩) (v := (.pointer (some ⟨q, 0, none⟩))) rfl (by kernel_rfl) (by kernel_rfl) (by kernel_rfl) (fun _ _ _ h => h) (Or.inl ⟨by rfl, fun W hW => ?_⟩) (by assumption) ?_
          · go_simp
          simp only [Act.put, List.setIfInBounds_toArray, List.set_cons_zero, List.set_cons_succ]
          refine wpAnyH_take (i := 8) (oi := ⟨some 66, _, _, _, _, none⟩) (v := (.slice (some ⟨b, o, none⟩) m cap)) rfl (by kernel_rfl) (by kernel_rfl) (by kernel_rfl) (fun _ _ _ h => h) (Or.inl ⟨by rfl, fun W hW => ?_⟩) (by assumption) ?_
          · go_simp
          simp only [Act.put, List.setIfInBounds_toArray, List.set_cons_zero, List.set_cons_succ]
          refine wpAnyH_take (i := 9) (oi := ⟨some 67, _, _, _, _, none⟩) (v := (.int .i64 (k : Nat))) rfl (by kernel_rfl) (by kernel_rfl) (by kernel_rfl) (fun _ _ _ h => h) (Or.inl ⟨by rfl, fun W hW => ?_⟩) (by assumption) ?_
          · go_simp
          simp only [Act.put, List.setIfInBounds_toArray, List.set_cons_zero, List.set_cons_succ]
          refine wpAnyH_take (i := 10) (oi := ⟨some 68, _, _, _, _, none⟩) (v := (.pointer (some ⟨b, o + k * 4, none⟩))) rfl (by kernel_rfl) (by kernel_rfl) (by kernel_rfl) (fun _ _ _ h => h) (Or.inl ⟨by rfl, fun W hW => ?_⟩) (by assumption) ?_
          · go_simp
          simp only [Act.put, List.setIfInBounds_toArray, List.set_cons_zero, List.set_cons_succ]
          refine wpAnyH_take (i := 11) (oi := ⟨some 69, _, _, _, _, none⟩) (v := (.pointer (some ⟨b, o + k * 4 + 1, none⟩))) rfl (by kernel_rfl) (by kernel_rfl) (by kernel_rfl) (fun _ _ _ h => h) (Or.inl ⟨by rfl, fun W hW => ?_⟩) (by assumption) ?_
          · go_simp
          simp only [Act.put, List.setIfInBounds_toArray, List.set_cons_zero, List.set_cons_succ]
          refine wpAnyH_take (i := 12) (oi := ⟨some 70, _, _, _, _, none⟩) (v := (.int .i64 (nn k))) rfl (by kernel_rfl) (by kernel_rfl) (by kernel_rfl) (fun _ _ _ h => h) (Or.inl ⟨by rfl, fun W hW => ?_⟩) (by assumption) ?_
          · have := HCL2.out W hW; have h1 := this.1; have h2 := this.2.1; have h3 := this.2.2; go_simp
          simp only [Act.put, List.setIfInBounds_toArray, List.set_cons_zero, List.set_cons_succ]
          refine wpAnyH_ready (rs := [6]) (by kernel_rfl) (by simp) (AllReadyH.cons rfl (fun KK hKK => ?_) AllReadyH.nil)
          go_simp
          refine (rtake_any w.heap.size p s _ _ S (nn k) HO.out (by have := HLEN.out; omega) wd.drew HTd.out.l).mono ?_
          rintro x w5 ⟨aA, cA, rfl, hNA, hred⟩
          have HB5 := Lib.hid (HB3.out.drew.trans (red_below HTd.out.l (Below.size HB3.out.drew) hred))
          obtain ⟨aL, cL, ht, hkL⟩ := HTd.out.left hred
          have HT5 := Lib.hid ht; have HBUTL := Lib.hid hred.2; have HKL := Lib.hid hkL; clear ht hred hkL
          have HNA := Lib.hid hNA; clear hNA
          dsimp only
          refine hKK.out _ _ (HB5.out) (fun hHeld => ?_)
          clear hKK KK
          try simp only [Act.put, List.setIfInBounds_toArray, List.set_cons_zero, List.set_cons_succ]
          refine wpAnyH_ready (rs := [13]) (by kernel_rfl) (by simp) (AllReadyH.cons rfl (fun KK hKK => ?_) AllReadyH.nil)
          go_simp
          refine (xtake_any w.heap.size q _ _ S (nn k) HO.out (by have := HLEN.out; omega) w5 HT5.out.r).mono ?_
          rintro x w6 ⟨aX, cX, rfl, hNX, hred⟩
          have HB6 := Lib.hid (HB5.out.trans (xed_below HT5.out.r (Below.size HB5.out) hred))
          obtain ⟨aR, cR, ht, hkR⟩ := HT5.out.right hred
          have HT6 := Lib.hid ht; have HBUTR := Lib.hid hred.2; have HKR := Lib.hid hkR; clear ht hred hkR
          have HNX := Lib.hid hNX; clear hNX
          dsimp only
          refine hKK.out _ _ (HB6.out) (fun hHeld => ?_)
          clear hKK KK
          try simp only [Act.put, List.setIfInBounds_toArray, List.set_cons_zero, List.set_cons_succ]
          refine wpAnyH_take (i := 14) (oi := ⟨some 9, _, _, _, _, none⟩) (v := (.slice aA (S.tm (nn k)) cA)) rfl (by kernel_rfl) (by kernel_rfl) (by kernel_rfl) (fun _ _ _ h => h) (Or.inl ⟨by rfl, fun W hW => ?_⟩) (by assumption) ?_
          · go_simp
          simp only [Act.put, List.setIfInBounds_toArray, List.set_cons_zero, List.set_cons_succ]
          refine wpAnyH_take (i := 15) (oi := ⟨some 10, _, _, _, _, none⟩) (v := (.slice aX (S.tm (nn k)) cX)) rfl (by kernel_rfl) (by kernel_rfl) (by kernel_rfl) (fun _ _ _ h => h) (Or.inl ⟨by rfl, fun W hW => ?_⟩) (by assumption) ?_
          · go_simp
          simp only [Act.put, List.setIfInBounds_toArray, List.set_cons_zero, List.set_cons_succ]
          refine wpAnyH_done (by kernel_rfl) ?_ _
          have HN1 := Lib.hid (nw_kept HNA.out HBUTR.out HT5.out.notq)
          have HN2 := Lib.hid HNX.out.sl
          have HTf0 := Lib.hid HT6.out; have HBf0 := Lib.hid HB6.out; clear hHeld HT5 HB5 HT6 HB6 HNA HNX
          have htm := Bs.tm_le S (nn k)
          have hml : S.tm (nn k) ≤ 2000 := by have := HLEN.out; omega
          generalize htq : S.tm (nn k) = tq at HN1 HN2 hml ⊢
          generalize htf : S.tf (nn k) = tg at HN1 HN2
          clear htq htf htm
          go_wp2_with fail
          refine (same_any aA aX tq cA cX tg (by omega) _ HN1.out.sl HN2.out).mono ?_
          rintro x w11 ⟨rfl, q11, hq11⟩
          have hB11 : Below w6.heap.size w6 w11 := by rw [hq11]; exact below_dr (Below.refl _ _) q11
          have HB11 := Lib.hid (HBf0.out.trans (hB11.mono HBf0.out.size)); have HT11 := Lib.hid (HTf0.out.same hB11); have HN11 := Lib.hid (HN1.out.below hB11)
          clear hq11 hB11 HTf0 HBf0
          go_wp2_with fail
          refine (overN_any wd.heap.size aA tq cA tg (by omega) _ HN11.out).mono ?_
          rintro x w12 ⟨rfl, row, hg12, hrow⟩
          have hzd := HB3.out.size
          have HBf := Lib.hid (show Below w.heap.size w w12 from HB11.out.trans ⟨hg12.os, hg12.tape, hg12.output, hg12.size, fun j hj => hg12.block j (Nat.lt_of_lt_of_le hj HB11.out.size) (fun e => by have := (hrow j e.symm).1; omega)⟩)
          have HTf := Lib.hid (HT11.out.grown hg12 (fun g e => old_row HN11.out (hrow g e) (fun ad e2 => by obtain ⟨ad', e3, h⟩ := HKL.out ad e2; rw [h]; exact (HTd.out.l.ha ad' e3).2.1) (fun ad e2 => by obtain ⟨ad', e3, h⟩ := HKR.out ad e2; rw [h]; exact (HTd.out.r.ha ad' e3).2.1)))
          clear hg12 hrow
          have HS2O := Lib.hid (HO.out.take (nn k))
          have hS2l : (S.take (nn k)).l ≤ 2000 := by have := HLEN.out; have := Bs.take_len S (nn k); omega
          generalize hS2 : S.take (nn k) = S2 at HTf HS2O hS2l
          clear hS2
          have HS2L := Lib.hid hS2l; clear hS2l
          go_wp2_with fail
          refine (rleft_any w.heap.size p s _ _ S2 _ HTf.out.l).mono ?_
          rintro x w7 ⟨rfl, rfl⟩
          go_wp2_with fail
          refine (xleft_any w.heap.size q _ _ S2 _ HTf.out.r).mono ?_
          rintro x w8 ⟨rfl, rfl⟩
          have hee : ((S2.m : Int) != (S2.m : Int)) = false := by simp
          generalize hm2 : S2.m = m2 at hee
          clear hm2
          go_wp2_with fail
          refine (rend_any w.heap.size p s _ _ S2 _ HTf.out.l).mono ?_
          rintro x w9 ⟨rfl, rfl⟩
          go_wp2_with fail
          refine (xend_any w.heap.size q _ _ S2 _ HTf.out.r).mono ?_
          rintro x w10 ⟨rfl, rfl⟩
          have hff : (S2.fin != S2.fin) = false := by simp
          generalize hm3 : S2.fin = e3 at hff
          clear hm3
          go_wp2
          go_roundw
          case rel => exact ⟨k + 1, _, _, _, _, S2, by omega, by go_num, HS2O.out, HS2L.out, HTf.out, HBf.out⟩
          case measure => simp [intOf]; omega
      · obtain rfl : k = m := by omega
        have i1 : ¬ (k : Int) < (k : Int) := by omega
        go_wp2_with fail
        refine (awake8_any _).mono ?_
        rintro x w3 ⟨rfl, hB3⟩
        have HB3 := Lib.hid (HBk.out.trans (hB3.mono HBk.out.size)); clear hB3
        go_wp2
        go_ret
        exact ⟨rfl, HB3.out⟩
  · have j0 : (2000 : Int) < (n0 : Int) + (m : Int) := by omega
    go_wp2_with fail
    refine (awake8_any _).mono ?_
    rintro x w1 ⟨rfl, hB1⟩
    have HB1 := Lib.hid hB1; clear hB1
    go_wp2
    go_ret
    exact ⟨rfl, HB1.out⟩
end Go.Proofs.Ytdjigbjheicfcaa

namespace Go.Proofs.Ytdjigbjheicfcaa
open Go.RowKit Go.Shelf

/-- a call of a literal. -/
structure D4 where
  a : Int
  b : Int
  c : Int
  p : Option Addr
  l : Nat
  k : Nat
def D4.cells (d : D4) : List Value := [.int .i64 d.a, .int .i64 d.b, .int .i64 d.c, .slice d.p d.l d.k]
def flatD : List D4 → List Value
  | [] => []
  | d :: ds => d.cells ++ flatD ds
theorem flatD_get : ∀ (ds : List D4) (i : Nat) (h : i < ds.length) (j : Nat), j < 4 → (flatD ds)[i * 4 + j]? = (ds[i]).cells[j]?
  | d :: ds, 0, _, j, hj => by
    show (d.cells ++ flatD ds)[0 * 4 + j]? = _
    rw [Nat.zero_mul, Nat.zero_add, List.getElem?_append_left (by show j < 4; exact hj)]; rfl
  | d :: ds, i + 1, h, j, hj => by
    show (d.cells ++ flatD ds)[(i + 1) * 4 + j]? = _
    rw [List.getElem?_append_right (by show 4 ≤ _; omega)]
    have e : (i + 1) * 4 + j - d.cells.length = i * 4 + j := by show (i + 1) * 4 + j - 4 = _; omega
    rw [e]
    exact flatD_get ds i (by simpa using h) j hj
theorem dos_lit {w : World} {X : Nat} {z : Nat × Nat} {vs : Array Value} (ds : List D4) (hX : w.heap[X]? = some (.cells vs 32 z)) (hv : vs = (flatD ds).toArray) (hs : ∀ d ∈ ds, (∃ f, Sl w d.p d.l d.k f) ∧ d.l ≤ 1000) :
    ∃ wh nn zz ia il ic fb, Dos w (some ⟨X, 0, none⟩) ds.length wh nn zz ia il ic fb := by
  subst hv
  have key : ∀ i, i < ds.length → ∃ f, Sl w (ds.getD i ⟨0, 0, 0, none, 0, 0⟩).p (ds.getD i ⟨0, 0, 0, none, 0, 0⟩).l (ds.getD i ⟨0, 0, 0, none, 0, 0⟩).k f := fun i hi => by
    have e : ds.getD i ⟨0, 0, 0, none, 0, 0⟩ = ds[i] := by simp [hi]
    rw [e]; exact (hs _ (List.getElem_mem hi)).1
  refine ⟨fun i => (ds.getD i ⟨0, 0, 0, none, 0, 0⟩).a, fun i => (ds.getD i ⟨0, 0, 0, none, 0, 0⟩).b, fun i => (ds.getD i ⟨0, 0, 0, none, 0, 0⟩).c, fun i => (ds.getD i ⟨0, 0, 0, none, 0, 0⟩).p, fun i => (ds.getD i ⟨0, 0, 0, none, 0, 0⟩).l, fun i => (ds.getD i ⟨0, 0, 0, none, 0, 0⟩).k, fun i => if h : i < ds.length then (key i h).choose else fun _ => 0, ⟨fun i hi => ⟨X, 0, rfl, ?_, ?_, ?_, ?_⟩, fun i hi => ?_, fun i hi => ?_⟩⟩
  · rw [cell_of_row w X _ _ _ _ hX, show 0 + i * 4 = i * 4 + 0 by omega, List.getElem?_toArray, flatD_get ds i hi 0 (by omega)]; simp [hi, D4.cells]
  · rw [cell_of_row w X _ _ _ _ hX, show 0 + i * 4 + 1 = i * 4 + 1 by omega, List.getElem?_toArray, flatD_get ds i hi 1 (by omega)]; simp [hi, D4.cells]
  · rw [cell_of_row w X _ _ _ _ hX, show 0 + i * 4 + 2 = i * 4 + 2 by omega, List.getElem?_toArray, flatD_get ds i hi 2 (by omega)]; simp [hi, D4.cells]
  · rw [cell_of_row w X _ _ _ _ hX, show 0 + i * 4 + 3 = i * 4 + 3 by omega, List.getElem?_toArray, flatD_get ds i hi 3 (by omega)]; simp [hi, D4.cells]
  · show Sl w _ _ _ (if h : i < ds.length then (key i h).choose else fun _ => 0)
    rw [dif_pos hi]; exact (key i hi).choose_spec
  · have e : ds.getD i ⟨0, 0, 0, none, 0, 0⟩ = ds[i] := by simp [hi]
    show (ds.getD i ⟨0, 0, 0, none, 0, 0⟩).l ≤ _
    rw [e]; have := (hs _ (List.getElem_mem hi)).2; omega

section
variable (v : Value) (w : World)
theorem wnum_null (n z : Int) (h : Calls Try.prog 37 #[v] w fun x w' => x = .returned (.int .i64 1) ∧ w' = w) :
    Calls Try.prog 14 #[v, .int .i64 n, .int .i64 z] w fun x w' => x = .returned (.tuple #[]) ∧ w' = w := by
  have H := Lib.hid h; clear h
  go_enter Try.func14, Try.ntmps14
  go_wp2_with fail
  refine H.out.mono ?_
  rintro x w' ⟨rfl, rfl⟩
  go_wp2
  refine bodyPost_ret (results_none rfl _ _ _) rfl ?_
  exact ⟨rfl, rfl⟩
theorem wput_null (a : Option Addr) (l c : Nat) (h : Calls Try.prog 37 #[v] w fun x w' => x = .returned (.int .i64 1) ∧ w' = w) :
    Calls Try.prog 16 #[v, .slice a l c] w fun x w' => x = .returned (.tuple #[]) ∧ w' = w := by
  have H := Lib.hid h; clear h
  go_enter Try.func16, Try.ntmps16
  go_wp2_with fail
  refine H.out.mono ?_
  rintro x w' ⟨rfl, rfl⟩
  go_wp2
  go_end0
  exact ⟨rfl, rfl⟩
theorem wbytes_null (h : Calls Try.prog 37 #[v] w fun x w' => x = .returned (.int .i64 1) ∧ w' = w) :
    Calls Try.prog 20 #[v] w fun x w' => x = .returned (.tuple #[.slice none 0 0, .int .i64 1]) ∧ w' = w := by
  have H := Lib.hid h; clear h
  go_enter Try.func20, Try.ntmps20
  go_wp2_with fail
  refine H.out.mono ?_
  rintro x w' ⟨rfl, rfl⟩
  go_wp2
  go_ret2
  exact ⟨rfl, rfl⟩
theorem rnum_null (z : Int) (h : Calls Try.prog 45 #[v] w fun x w' => x = .returned (.int .i64 1) ∧ w' = w) :
    Calls Try.prog 25 #[v, .int .i64 z] w fun x w' => x = .returned (.int .i64 0) ∧ w' = w := by
  have H := Lib.hid h; clear h
  go_enter Try.func25, Try.ntmps25
  go_wp2_with fail
  refine H.out.mono ?_
  rintro x w' ⟨rfl, rfl⟩
  go_wp2
  go_ret
  exact ⟨rfl, rfl⟩
theorem rtake_null (z : Int) (h : Calls Try.prog 45 #[v] w fun x w' => x = .returned (.int .i64 1) ∧ w' = w) :
    Calls Try.prog 27 #[v, .int .i64 z] w fun x w' => x = .returned (.slice none 0 0) ∧ w' = w := by
  have H := Lib.hid h; clear h
  go_enter Try.func27, Try.ntmps27
  go_wp2_with fail
  refine H.out.mono ?_
  rintro x w' ⟨rfl, rfl⟩
  go_wp2
  go_ret
  exact ⟨rfl, rfl⟩
theorem rleft_null (h : Calls Try.prog 45 #[v] w fun x w' => x = .returned (.int .i64 1) ∧ w' = w) :
    Calls Try.prog 29 #[v] w fun x w' => x = .returned (.int .i64 0) ∧ w' = w := by
  have H := Lib.hid h; clear h
  go_enter Try.func29, Try.ntmps29
  go_wp2_with fail
  refine H.out.mono ?_
  rintro x w' ⟨rfl, rfl⟩
  go_wp2
  go_ret
  exact ⟨rfl, rfl⟩
theorem rend_null (h : Calls Try.prog 45 #[v] w fun x w' => x = .returned (.int .i64 1) ∧ w' = w) :
    Calls Try.prog 31 #[v] w fun x w' => x = .returned (.int .i64 1) ∧ w' = w := by
  have H := Lib.hid h; clear h
  go_enter Try.func31, Try.ntmps31
  go_wp2_with fail
  refine H.out.mono ?_
  rintro x w' ⟨rfl, rfl⟩
  go_wp2
  go_ret
  exact ⟨rfl, rfl⟩
end
theorem sstate_null (w : World) : Calls Try.prog 51 #[.pointer none] w fun x w' => x = .returned (.int .i64 1) ∧ w' = w := by
  go_enter Try.func51, Try.ntmps51
  go_wp2
  go_ret
  exact ⟨rfl, rfl⟩
theorem wstate_nil (w : World) : Calls Try.prog 37 #[.pointer none] w fun x w' => x = .returned (.int .i64 1) ∧ w' = w := by
  go_enter Try.func37, Try.ntmps37
  go_wp2
  go_ret
  exact ⟨rfl, rfl⟩
theorem rstate_nil (w : World) : Calls Try.prog 45 #[.pointer none] w fun x w' => x = .returned (.int .i64 1) ∧ w' = w := by
  go_enter Try.func45, Try.ntmps45
  go_wp2
  go_ret
  exact ⟨rfl, rfl⟩
theorem wstate_null (g : Nat) (w : World) (h : w.cell? ⟨g, 0, none⟩ = some (.pointer none)) : Calls Try.prog 37 #[.pointer (some ⟨g, 0, none⟩)] w fun x w' => x = .returned (.int .i64 1) ∧ w' = w := by
  go_enter Try.func37, Try.ntmps37
  go_wp2_with fail
  refine (sstate_null _).mono ?_
  rintro x w' ⟨rfl, rfl⟩
  go_wp2
  go_ret
  exact ⟨rfl, rfl⟩
theorem rstate_null (g : Nat) (w : World) (h : w.cell? ⟨g, 0, none⟩ = some (.pointer none)) : Calls Try.prog 45 #[.pointer (some ⟨g, 0, none⟩)] w fun x w' => x = .returned (.int .i64 1) ∧ w' = w := by
  go_enter Try.func45, Try.ntmps45
  go_wp2_with fail
  refine (sstate_null _).mono ?_
  rintro x w' ⟨rfl, rfl⟩
  go_wp2
  go_ret
  exact ⟨rfl, rfl⟩
set_option maxHeartbeats 4000000 in
set_option maxRecDepth 100000 in
theorem none8_any (w : World) :
    Calls Try.prog 33 #[] w fun e w' => e = .returned (.bool true) ∧ Below w.heap.size w w' := by
  go_enter Try.func33, Try.ntmps33
  obtain ⟨w1, hw1⟩ : ∃ w1, w1 = w.alloc (.cells #[.pointer none] 59) := ⟨_, rfl⟩
  obtain ⟨w2, hw2⟩ : ∃ w2, w2 = w1.alloc (.cells #[.pointer none, .pointer (some ⟨w.heap.size, 0, none⟩)] 25) := ⟨_, rfl⟩
  obtain ⟨w3, hw3⟩ : ∃ w3, w3 = w2.alloc (.cells #[.pointer none] 66) := ⟨_, rfl⟩
  obtain ⟨w4, hw4⟩ : ∃ w4, w4 = w3.alloc (.cells #[.pointer none, .pointer (some ⟨w.heap.size + 2, 0, none⟩)] 41) := ⟨_, rfl⟩
  have s1 : w1.heap.size = w.heap.size + 1 := by rw [hw1, World.size_alloc]
  have s2 : w2.heap.size = w.heap.size + 2 := by rw [hw2, World.size_alloc, s1]
  have s3 : w3.heap.size = w.heap.size + 3 := by rw [hw3, World.size_alloc, s2]
  have b1 : Below w.heap.size w w1 := by rw [hw1]; exact (Below.refl _ _).alloc (Nat.le_refl _) _
  have b2 : Below w1.heap.size w1 w2 := by rw [hw2]; exact (Below.refl _ _).alloc (Nat.le_refl _) _
  have b3 : Below w2.heap.size w2 w3 := by rw [hw3]; exact (Below.refl _ _).alloc (Nat.le_refl _) _
  have b4 : Below w3.heap.size w3 w4 := by rw [hw4]; exact (Below.refl _ _).alloc (Nat.le_refl _) _
  have n1 : w1.heap[w.heap.size]? = some (.cells #[.pointer none] 59 (0, 0)) := by rw [hw1]; exact heap_alloc_new _ _
  have n2 : w2.heap[w.heap.size + 1]? = some (.cells #[.pointer none, .pointer (some ⟨w.heap.size, 0, none⟩)] 25 (0, 0)) := by rw [← s1, hw2]; exact heap_alloc_new _ _
  have n3 : w3.heap[w.heap.size + 2]? = some (.cells #[.pointer none] 66 (0, 0)) := by rw [← s2, hw3]; exact heap_alloc_new _ _
  have n4 : w4.heap[w.heap.size + 3]? = some (.cells #[.pointer none, .pointer (some ⟨w.heap.size + 2, 0, none⟩)] 41 (0, 0)) := by rw [← s3, hw4]; exact heap_alloc_new _ _
  have hs4 : w4.heap.size = w.heap.size + 4 := by rw [hw4, World.size_alloc, s3]
  have HH := Lib.hid (fun W (hW : Below w4.heap.size w4 W) => (⟨by
      rw [hW.block _ (by omega), b4.block _ (by omega), b3.block _ (by omega), b2.block _ (by omega)]; exact n1, by
      rw [hW.block _ (by omega), b4.block _ (by omega), b3.block _ (by omega)]; exact n2, by
      rw [hW.block _ (by omega), b4.block _ (by omega)]; exact n3, by
      rw [hW.block _ (by omega)]; exact n4⟩ : W.heap[w.heap.size]? = some (.cells #[.pointer none] 59 (0, 0)) ∧ W.heap[w.heap.size + 1]? = some (.cells #[.pointer none, .pointer (some ⟨w.heap.size, 0, none⟩)] 25 (0, 0)) ∧ W.heap[w.heap.size + 2]? = some (.cells #[.pointer none] 66 (0, 0)) ∧ W.heap[w.heap.size + 3]? = some (.cells #[.pointer none, .pointer (some ⟨w.heap.size + 2, 0, none⟩)] 41 (0, 0))))
  have HB4 := Lib.hid (show Below w.heap.size w w4 from ((b1.trans (b2.mono (by omega))).trans (b3.mono (by omega))).trans (b4.mono (by omega)))
  have HKK := Lib.hid (fun (k : Nat) (hk : k < 2) => (by
    match k, hk with
    | 0, _ => exact ⟨.pointer none, .pointer none, fun W hW => by rw [cell_of_row W _ 0 _ _ _ (HH.out W hW).2.1]; rfl, fun W hW => by rw [cell_of_row W _ 0 _ _ _ (HH.out W hW).2.2.2]; rfl, fun W _ => wstate_nil W, fun W _ => rstate_nil W⟩
    | 1, _ => exact ⟨.pointer (some ⟨w.heap.size, 0, none⟩), .pointer (some ⟨w.heap.size + 2, 0, none⟩), fun W hW => by rw [cell_of_row W _ 1 _ _ _ (HH.out W hW).2.1]; rfl, fun W hW => by rw [cell_of_row W _ 1 _ _ _ (HH.out W hW).2.2.2]; rfl, fun W hW => wstate_null _ W (by rw [cell_of_row W _ 0 _ _ _ (HH.out W hW).1]; rfl), fun W hW => rstate_null _ W (by rw [cell_of_row W _ 0 _ _ _ (HH.out W hW).2.2.1]; rfl)⟩ :
    ∃ v u : Value, (∀ W, Below w4.heap.size w4 W → W.cell? ⟨w.heap.size + 1, k, none⟩ = some v) ∧ (∀ W, Below w4.heap.size w4 W → W.cell? ⟨w.heap.size + 3, k, none⟩ = some u) ∧
      (∀ W, Below w4.heap.size w4 W → Calls Try.prog 37 #[v] W fun x w' => x = .returned (.int .i64 1) ∧ w' = W) ∧ (∀ W, Below w4.heap.size w4 W → Calls Try.prog 45 #[u] W fun x w' => x = .returned (.int .i64 1) ∧ w' = W)))
  go_wp2_with fail
  rw [← hw1, ← hw2, ← hw3, ← hw4]
  clear s1 s2 s3 b1 b2 b3 b4 n1 n2 n3 n4 hs4 hw1 hw2 hw3 hw4
  go_loopw [3, 4, 5] (fun iv _ _ wr => ∃ k : Nat, k ≤ 2 ∧ iv = .int .i64 (k : Nat) ∧ Below w4.heap.size w4 wr) (fun i _ _ _ => 2 - (intOf i).toNat)
  case atStart => exact ⟨0, by omega, rfl, Below.refl _ _⟩
  case round =>
    rename_i wr
    obtain ⟨k, hk, rfl, hB⟩ := hrel
    have HB := Lib.hid hB; clear hB
    by_cases hlt : k < 2
    · have i1 : (k : Int) < 2 := by omega
      obtain ⟨v, u, hv, hu, hsv, hsu⟩ := HKK.out k hlt
      have HV := Lib.hid hv; have HU := Lib.hid hu; have HSV := Lib.hid hsv; have HSU := Lib.hid hsu
      clear hv hu hsv hsu
      have cv := HV.out wr HB.out
      have cu := HU.out wr HB.out
      go_wp2_with fail
      refine (wnum_null v _ 1 1 (HSV.out _ HB.out)).mono ?_
      rintro x w5 ⟨rfl, rfl⟩
      have HB5 := Lib.hid (HB.out.alloc HB.out.size (.cells #[.int .u8 1] 5))
      have cv5 := HV.out _ HB5.out
      have cu5 := HU.out _ HB5.out
      go_wp2_with fail
      refine (wput_null v _ _ _ _ (HSV.out _ HB5.out)).mono ?_
      rintro x w6 ⟨rfl, rfl⟩
      go_wp2_with fail
      refine (wbytes_null v _ (HSV.out _ HB5.out)).mono ?_
      rintro x w7 ⟨rfl, rfl⟩
      go_wp2_with fail
      refine (rnum_null u _ 1 (HSU.out _ HB5.out)).mono ?_
      rintro x w8 ⟨rfl, rfl⟩
      go_wp2_with fail
      refine (rtake_null u _ 0 (HSU.out _ HB5.out)).mono ?_
      rintro x w9 ⟨rfl, rfl⟩
      go_wp2_with fail
      refine (rleft_null u _ (HSU.out _ HB5.out)).mono ?_
      rintro x w10 ⟨rfl, rfl⟩
      go_wp2_with fail
      refine (rend_null u _ (HSU.out _ HB5.out)).mono ?_
      rintro x w11 ⟨rfl, rfl⟩
      go_wp2
      go_roundw
      case rel => exact ⟨k + 1, by omega, by go_num, HB5.out⟩
      case measure => simp [intOf]; omega
    · obtain rfl : k = 2 := by omega
      go_wp2
      go_ret
      exact ⟨rfl, HB4.out.trans (HB.out.mono HB4.out.size)⟩
end Go.Proofs.Ytdjigbjheicfcaa

namespace Go.Proofs.Ytdjigbjheicfcaa
open Go.RowKit Go.Shelf

theorem sl_no (w : World) : ∃ f, Sl w none 0 0 f := ⟨_, Sl.none_ w none 0 (Nat.zero_le _) (fun _ => rfl)⟩
theorem four_ok {w : World} {a b c d : D4} (ha : (∃ f, Sl w a.p a.l a.k f) ∧ a.l ≤ 1000) (hb : (∃ f, Sl w b.p b.l b.k f) ∧ b.l ≤ 1000) (hc : (∃ f, Sl w c.p c.l c.k f) ∧ c.l ≤ 1000) (hd : (∃ f, Sl w d.p d.l d.k f) ∧ d.l ≤ 1000) : ∀ x ∈ [a, b, c, d], (∃ f, Sl w x.p x.l x.k f) ∧ x.l ≤ 1000 := fun x hx => by
  simp only [List.mem_cons, List.not_mem_nil, or_false] at hx
  rcases hx with rfl | rfl | rfl | rfl
  · exact ha
  · exact hb
  · exact hc
  · exact hd
theorem five_ok {w : World} {a b c d e : D4} (ha : (∃ f, Sl w a.p a.l a.k f) ∧ a.l ≤ 1000) (hb : (∃ f, Sl w b.p b.l b.k f) ∧ b.l ≤ 1000) (hc : (∃ f, Sl w c.p c.l c.k f) ∧ c.l ≤ 1000) (hd : (∃ f, Sl w d.p d.l d.k f) ∧ d.l ≤ 1000) (he : (∃ f, Sl w e.p e.l e.k f) ∧ e.l ≤ 1000) : ∀ x ∈ [a, b, c, d, e], (∃ f, Sl w x.p x.l x.k f) ∧ x.l ≤ 1000 := fun x hx => by
  simp only [List.mem_cons, List.not_mem_nil, or_false] at hx
  rcases hx with rfl | rfl | rfl | rfl | rfl
  · exact ha
  · exact hb
  · exact hc
  · exact hd
  · exact he
theorem two_ok {w : World} {a b : D4} (ha : (∃ f, Sl w a.p a.l a.k f) ∧ a.l ≤ 1000) (hb : (∃ f, Sl w b.p b.l b.k f) ∧ b.l ≤ 1000) : ∀ x ∈ [a, b], (∃ f, Sl w x.p x.l x.k f) ∧ x.l ≤ 1000 := fun x hx => by
  simp only [List.mem_cons, List.not_mem_nil, or_false] at hx
  rcases hx with rfl | rfl
  · exact ha
  · exact hb
theorem writes_lit (ds : List D4) (n : Nat) (w : World) (vs : Array Value) (hn : n = ds.length) (hv : vs = (flatD ds).toArray) (hs : ∀ d ∈ ds, (∃ f, Sl w d.p d.l d.k f) ∧ d.l ≤ 1000) (X : Nat) (hX : X = w.heap.size) (hl : n ≤ 1000 := by decide) :
    Calls Try.prog 3 #[.slice (some ⟨X, 0, none⟩) n n] (w.alloc (.cells vs 32)) fun e w' => e = .returned (.bool true) ∧ Below w.heap.size w w' := by
  subst hX
  have hB := (Below.refl w.heap.size w).alloc (Nat.le_refl _) (.cells vs 32)
  obtain ⟨wh, nn, zz, ia, il, ic, fb, hD⟩ := dos_lit ds (heap_alloc_new w (.cells vs 32)) hv (fun d hd => ⟨(hs d hd).1.imp fun f h => h.same hB, (hs d hd).2⟩)
  rw [← hn] at hD
  exact (packWrites_any _ n n wh nn zz ia il ic fb (by omega) _ hD).mono fun e w' h => ⟨h.1, hB.trans (h.2.mono hB.size)⟩
theorem reads_lit (a0 : Option Addr) (n0 c0 : Nat) (f0 : Nat → Nat) (h0 : n0 ≤ 1000) (ds : List D4) (n : Nat) (w : World) (vs : Array Value) (hn : n = ds.length) (hv : vs = (flatD ds).toArray) (hS : Sl w a0 n0 c0 f0) (hs : ∀ d ∈ ds, (∃ f, Sl w d.p d.l d.k f) ∧ d.l ≤ 1000) (X : Nat) (hX : X = w.heap.size) (hl : n ≤ 1000 := by decide) :
    Calls Try.prog 4 #[.slice a0 n0 c0, .slice (some ⟨X, 0, none⟩) n n] (w.alloc (.cells vs 32)) fun e w' => e = .returned (.bool true) ∧ Below w.heap.size w w' := by
  subst hX
  have hB := (Below.refl w.heap.size w).alloc (Nat.le_refl _) (.cells vs 32)
  obtain ⟨wh, nn, zz, ia, il, ic, fb, hD⟩ := dos_lit ds (heap_alloc_new w (.cells vs 32)) hv (fun d hd => ⟨(hs d hd).1.imp fun f h => h.same hB, (hs d hd).2⟩)
  rw [← hn] at hD
  exact (packReads_any a0 n0 c0 f0 _ n n wh nn zz ia il ic fb (by omega) (by omega) _ (hS.same hB) hD).mono fun e w' h => ⟨h.1, hB.trans (h.2.mono hB.size)⟩

def nums : List Int := [-9223372036854775808, -1, 0, 1, 255, 256, 65535, 65536, 16777215, 16777216, 4294967295, 4294967296, 9223372036854775807]
def NV (i : Nat) : Int := nums.getD i 0
def rowE : List Nat := [0, 255, 1, 128, 7, 0, 9, 200, 1, 2]
def RF (i : Nat) : Nat := rowE.getD i 0
theorem nums_get (i : Nat) (hi : i < 13) : (#[.int .i64 (-9223372036854775808), .int .i64 (-1), .int .i64 0, .int .i64 1, .int .i64 255, .int .i64 256, .int .i64 65535, .int .i64 65536, .int .i64 16777215, .int .i64 16777216, .int .i64 4294967295, .int .i64 4294967296, .int .i64 9223372036854775807] : Array Value)[i]? = some (.int .i64 (NV i)) := by
  match i, hi with
  | 0, _ => rfl | 1, _ => rfl | 2, _ => rfl | 3, _ => rfl | 4, _ => rfl | 5, _ => rfl | 6, _ => rfl | 7, _ => rfl | 8, _ => rfl | 9, _ => rfl | 10, _ => rfl | 11, _ => rfl | 12, _ => rfl
  | i + 13, hi => exact absurd hi (by omega)
theorem row_sl (w : World) : Sl (w.alloc (.cells #[.int .u8 0, .int .u8 255, .int .u8 1, .int .u8 128, .int .u8 7, .int .u8 0, .int .u8 9, .int .u8 200, .int .u8 1, .int .u8 2] 5)) (some ⟨w.heap.size, 0, none⟩) 10 10 RF := by
  have h := (Bl.alloc w [.int .u8 0, .int .u8 255, .int .u8 1, .int .u8 128, .int .u8 7, .int .u8 0, .int .u8 9, .int .u8 200, .int .u8 1, .int .u8 2] RF (fun i hi => by
    match i, hi with
    | 0, _ => rfl | 1, _ => rfl | 2, _ => rfl | 3, _ => rfl | 4, _ => rfl | 5, _ => rfl | 6, _ => rfl | 7, _ => rfl | 8, _ => rfl | 9, _ => rfl
    | i + 10, hi => exact absurd hi (by simp))).sl (Nat.le_refl _) (by unfold maxLen; simp) (fun i => by
      match i with
      | 0 => decide | 1 => decide | 2 => decide | 3 => decide | 4 => decide | 5 => decide | 6 => decide | 7 => decide | 8 => decide | 9 => decide
      | i + 10 => exact (by decide : 0 < 256)) (fun i hi => by
      match i, hi with
      | i + 10, _ => rfl)
  exact h
end Go.Proofs.Ytdjigbjheicfcaa

namespace Go.Proofs.Ytdjigbjheicfcaa
open Go.RowKit Go.Shelf

set_option maxHeartbeats 8000000 in
set_option maxRecDepth 100000 in
theorem packEnds_any (w : World) :
    Calls Try.prog 5 #[] w fun e w' => e = .returned (.bool true) ∧ Below w.heap.size w w' := by
  obtain ⟨w1, hw1⟩ : ∃ w1, w1 = w.alloc (.cells #[.int .i64 (-9223372036854775808), .int .i64 (-1), .int .i64 0, .int .i64 1, .int .i64 255, .int .i64 256, .int .i64 65535, .int .i64 65536, .int .i64 16777215, .int .i64 16777216, .int .i64 4294967295, .int .i64 4294967296, .int .i64 9223372036854775807] 3) := ⟨_, rfl⟩
  obtain ⟨w2, hw2⟩ : ∃ w2, w2 = w1.alloc (.cells #[.int .u8 0, .int .u8 255, .int .u8 1, .int .u8 128, .int .u8 7, .int .u8 0, .int .u8 9, .int .u8 200, .int .u8 1, .int .u8 2] 5) := ⟨_, rfl⟩
  have s1 : w1.heap.size = w.heap.size + 1 := by rw [hw1, World.size_alloc]
  have b1 : Below w.heap.size w w1 := by rw [hw1]; exact (Below.refl _ _).alloc (Nat.le_refl _) _
  have b2 : Below w1.heap.size w1 w2 := by rw [hw2]; exact (Below.refl _ _).alloc (Nat.le_refl _) _
  have s2 : w2.heap.size = w.heap.size + 2 := by rw [hw2, World.size_alloc, s1]
  have hr2 : Sl w2 (some ⟨w.heap.size + 1, 0, none⟩) 10 10 RF := by rw [← s1, hw2]; exact row_sl w1
  have HN := Lib.hid (fun W (hW : Below w2.heap.size w2 W) (i : Nat) (hi : i < 13) => (by
    rw [cell_of_row W w.heap.size i _ _ _ (by rw [hW.block _ (by omega), b2.block _ (by omega), hw1]; exact heap_alloc_new _ _)]
    exact nums_get i hi : W.cell? ⟨w.heap.size, i, none⟩ = some (.int .i64 (NV i))))
  have HRWs := Lib.hid (fun W (hW : Below w2.heap.size w2 W) => hr2.same hW)
  have HRW := Lib.hid (fun W (hW : Below w2.heap.size w2 W) => sl_head (hr2.same hW) (show 2 ≤ 10 by omega))
  have HB2 := Lib.hid (show Below w.heap.size w w2 from b1.trans (b2.mono b1.size))
  clear b1 b2 hr2 s2
  go_enter Try.func5, Try.ntmps5
  go_wp2_with fail
  rw [← hw1, ← hw2]
  clear hw1 hw2 s1
  go_loopw [3, 4] (fun iv _ wr => ∃ i : Nat, i ≤ 13 ∧ iv = .int .i64 (i : Nat) ∧ Below w2.heap.size w2 wr) (fun i _ _ => 13 - (intOf i).toNat)
  case atStart => exact ⟨0, by omega, rfl, Below.refl _ _⟩
  case round =>
    rename_i wo
    obtain ⟨i, hi13, rfl, hBo⟩ := hrel
    have HBo := Lib.hid hBo; clear hBo
    by_cases hi : i < 13
    · have i1 : (i : Int) < 13 := by omega
      go_wp2_with fail
      go_loopw [4] (fun sv wr => ∃ t : Nat, t ≤ 8 ∧ sv = .int .i64 ((t : Nat) - 1) ∧ Below w2.heap.size w2 wr) (fun s _ => (7 - intOf s).toNat)
      case atStart => exact ⟨0, by omega, rfl, HBo.out⟩
      case round =>
        rename_i wr
        obtain ⟨t, ht8, rfl, hBr⟩ := hrel
        have HBr := Lib.hid hBr; clear hBr
        by_cases ht : t < 8
        · have i2 : ((t : Nat) : Int) - 1 < 7 := by omega
          go_wp2_with fail
          refine wp_region_held_drew (S := fun W => Below w2.heap.size w2 W) (by kernel_rfl) (HBr.out.drew) (fun hHeld => ?_)
          refine wpAnyH_take (i := 0) (oi := ⟨some 18, _, _, _, _, none⟩) (v := (.slice (some ⟨w.heap.size + 1, 0, none⟩) 10 10)) rfl (by kernel_rfl) (by kernel_rfl) (by kernel_rfl) (fun _ _ _ h => h) (Or.inl ⟨by rfl, fun W hW => ?_⟩) (by assumption) ?_
          · go_simp
          simp only [Act.put, List.setIfInBounds_toArray, List.set_cons_zero, List.set_cons_succ]
          refine wpAnyH_take (i := 1) (oi := ⟨some 19, _, _, _, _, none⟩) (v := (.slice (some ⟨w.heap.size + 1, 0, none⟩) 2 10)) rfl (by kernel_rfl) (by kernel_rfl) (by kernel_rfl) (fun _ _ _ h => h) (Or.inl ⟨by rfl, fun W hW => ?_⟩) (by assumption) ?_
          · go_simp
          simp only [Act.put, List.setIfInBounds_toArray, List.set_cons_zero, List.set_cons_succ]
          refine wpAnyH_take (i := 2) (oi := ⟨some 20, _, _, _, _, none⟩) (v := (.agg #[.int .i64 1, .int .i64 0, .int .i64 0, .slice (some ⟨w.heap.size + 1, 0, none⟩) 2 10])) rfl (by kernel_rfl) (by kernel_rfl) (by kernel_rfl) (fun _ _ _ h => h) (Or.inl ⟨by rfl, fun W hW => ?_⟩) (by assumption) ?_
          · go_simp
          simp only [Act.put, List.setIfInBounds_toArray, List.set_cons_zero, List.set_cons_succ]
          refine wpAnyH_take (i := 3) (oi := ⟨some 21, _, _, _, _, none⟩) (v := (.slice (some ⟨w.heap.size, 0, none⟩) 13 13)) rfl (by kernel_rfl) (by kernel_rfl) (by kernel_rfl) (fun _ _ _ h => h) (Or.inl ⟨by rfl, fun W hW => ?_⟩) (by assumption) ?_
          · go_simp
          simp only [Act.put, List.setIfInBounds_toArray, List.set_cons_zero, List.set_cons_succ]
          refine wpAnyH_take (i := 4) (oi := ⟨some 22, _, _, _, _, none⟩) (v := (.int .i64 (i : Nat))) rfl (by kernel_rfl) (by kernel_rfl) (by kernel_rfl) (fun _ _ _ h => h) (Or.inl ⟨by rfl, fun W hW => ?_⟩) (by assumption) ?_
          · go_simp
          simp only [Act.put, List.setIfInBounds_toArray, List.set_cons_zero, List.set_cons_succ]
          refine wpAnyH_take (i := 5) (oi := ⟨some 23, _, _, _, _, none⟩) (v := (.pointer (some ⟨w.heap.size, i, none⟩))) rfl (by kernel_rfl) (by kernel_rfl) (by kernel_rfl) (fun _ _ _ h => h) (Or.inl ⟨by rfl, fun W hW => ?_⟩) (by assumption) ?_
          · go_simp
          simp only [Act.put, List.setIfInBounds_toArray, List.set_cons_zero, List.set_cons_succ]
          refine wpAnyH_take (i := 6) (oi := ⟨some 24, _, _, _, _, none⟩) (v := (.int .i64 (NV i))) rfl (by kernel_rfl) (by kernel_rfl) (by kernel_rfl) (fun _ _ _ h => h) (Or.inl ⟨by rfl, fun W hW => ?_⟩) (by assumption) ?_
          · have := HN.out W hW i hi; go_simp
          simp only [Act.put, List.setIfInBounds_toArray, List.set_cons_zero, List.set_cons_succ]
          refine wpAnyH_take (i := 7) (oi := ⟨some 25, _, _, _, _, none⟩) (v := (.int .i64 ((t : Nat) - 1 : Int))) rfl (by kernel_rfl) (by kernel_rfl) (by kernel_rfl) (fun _ _ _ h => h) (Or.inl ⟨by rfl, fun W hW => ?_⟩) (by assumption) ?_
          · go_simp
          simp only [Act.put, List.setIfInBounds_toArray, List.set_cons_zero, List.set_cons_succ]
          refine wpAnyH_take (i := 8) (oi := ⟨some 26, _, _, _, _, none⟩) (v := (.agg #[.int .i64 0, .int .i64 (NV i), .int .i64 ((t : Nat) - 1 : Int), .slice none 0 0])) rfl (by kernel_rfl) (by kernel_rfl) (by kernel_rfl) (fun _ _ _ h => h) (Or.inl ⟨by rfl, fun W hW => ?_⟩) (by assumption) ?_
          · go_simp
          simp only [Act.put, List.setIfInBounds_toArray, List.set_cons_zero, List.set_cons_succ]
          refine wpAnyH_take (i := 11) (oi := ⟨some 29, _, _, _, _, none⟩) (v := (.agg #[.int .i64 0, .int .i64 3, .int .i64 4, .slice none 0 0])) rfl (by kernel_rfl) (by kernel_rfl) (by kernel_rfl) (fun _ _ _ h => h) (Or.inl ⟨by rfl, fun W hW => ?_⟩) (by assumption) ?_
          · go_simp
          simp only [Act.put, List.setIfInBounds_toArray, List.set_cons_zero, List.set_cons_succ]
          refine wpAnyH_ready (rs := [9]) (by kernel_rfl) (by simp) (AllReadyH.cons rfl (fun KK hKK => ?_) AllReadyH.nil)
          go_simp
          refine hKK.out _ _ (HBr.out.drew.alloc (Below.size HBr.out.drew) _) (fun hHeld => ?_)
          clear hKK KK
          try simp only [Act.put, List.setIfInBounds_toArray, List.set_cons_zero, List.set_cons_succ]
          refine wpAnyH_take (i := 10) (oi := ⟨some 28, _, _, _, _, none⟩) (v := (.agg #[.int .i64 1, .int .i64 0, .int .i64 0, .slice (some ⟨wr.heap.size, 0, none⟩) 1 1])) rfl (by kernel_rfl) (by kernel_rfl) (by kernel_rfl) (fun _ _ _ h => h) (Or.inl ⟨by rfl, fun W hW => ?_⟩) (by assumption) ?_
          · go_simp
          simp only [Act.put, List.setIfInBounds_toArray, List.set_cons_zero, List.set_cons_succ]
          refine wpAnyH_ready (rs := [12]) (by kernel_rfl) (by simp) (AllReadyH.cons rfl (fun KK hKK => ?_) AllReadyH.nil)
          go_simp
          refine hKK.out _ _ ((HBr.out.drew.alloc (Below.size HBr.out.drew) _).alloc (Below.size (HBr.out.drew.alloc (Below.size HBr.out.drew) _)) _) (fun hHeld => ?_)
          clear hKK KK
          try simp only [Act.put, List.setIfInBounds_toArray, List.set_cons_zero, List.set_cons_succ]
          refine wpAnyH_ready (rs := [13]) (by kernel_rfl) (by simp) (AllReadyH.cons rfl (fun KK hKK => ?_) AllReadyH.nil)
          go_simp
          refine (writes_lit [⟨1, 0, 0, (some ⟨w.heap.size + 1, 0, none⟩), 2, 10⟩, ⟨0, NV i, (t : Nat) - 1, none, 0, 0⟩, ⟨1, 0, 0, some ⟨wr.heap.size, 0, none⟩, 1, 1⟩, ⟨0, 3, 4, none, 0, 0⟩] 4 (wr.drew.alloc (.cells #[.int .u8 5] 5)) #[.int .i64 1, .int .i64 0, .int .i64 0, .slice (some ⟨w.heap.size + 1, 0, none⟩) 2 10, .int .i64 0, .int .i64 (NV i), .int .i64 ((t : Nat) - 1 : Int), .slice none 0 0, .int .i64 1, .int .i64 0, .int .i64 0, .slice (some ⟨wr.heap.size, 0, none⟩) 1 1, .int .i64 0, .int .i64 3, .int .i64 4, .slice none 0 0] rfl (by simp [flatD, D4.cells]) (four_ok ⟨⟨_, HRW.out _ (HBr.out.drew.alloc (Below.size HBr.out.drew) _)⟩, Nat.le_of_ble_eq_true rfl⟩ ⟨sl_no _, Nat.le_of_ble_eq_true rfl⟩ ⟨⟨_, sl_single wr.drew 5 (by omega)⟩, Nat.le_of_ble_eq_true rfl⟩ ⟨sl_no _, Nat.le_of_ble_eq_true rfl⟩) (wr.heap.size + 1) (by simp)).mono ?_
          rintro e w5 ⟨rfl, hB5⟩
          dsimp only
          have HB5 := Lib.hid ((HBr.out.drew.alloc (Below.size HBr.out.drew) (.cells #[.int .u8 5] 5)).trans (hB5.mono (Below.size (HBr.out.drew.alloc (Below.size HBr.out.drew) (.cells #[.int .u8 5] 5)))))
          clear hB5
          refine hKK.out _ _ (HB5.out) (fun hHeld => ?_)
          clear hKK KK
          try simp only [Act.put, List.setIfInBounds_toArray, List.set_cons_zero, List.set_cons_succ]
          refine wpAnyH_take (i := 14) (oi := ⟨some 32, _, _, _, _, none⟩) (v := (.bool false)) rfl (by kernel_rfl) (by kernel_rfl) (by kernel_rfl) (fun _ _ _ h => h) (Or.inl ⟨by rfl, fun W hW => ?_⟩) (by assumption) ?_
          · go_simp
          simp only [Act.put, List.setIfInBounds_toArray, List.set_cons_zero, List.set_cons_succ]
          refine wpAnyH_take (i := 15) (oi := ⟨some 33, _, _, _, _, none⟩) (v := (.bool false)) rfl (by kernel_rfl) (by kernel_rfl) (by kernel_rfl) (fun _ _ _ h => h) (Or.inl ⟨by rfl, fun W hW => ?_⟩) (by assumption) ?_
          · go_simp
          simp only [Act.put, List.setIfInBounds_toArray, List.set_cons_zero, List.set_cons_succ]
          refine wpAnyH_take (i := 16) (oi := ⟨some 34, _, _, _, _, some (15, false)⟩) (v := (.slice (some ⟨w.heap.size + 1, 0, none⟩) 10 10)) rfl (by kernel_rfl) (by kernel_rfl) (by kernel_rfl) (fun _ _ _ h => h) (Or.inl ⟨by rfl, fun W hW => ?_⟩) (by assumption) ?_
          · go_simp
          simp only [Act.put, List.setIfInBounds_toArray, List.set_cons_zero, List.set_cons_succ]
          refine wpAnyH_take (i := 17) (oi := ⟨some 35, _, _, _, _, some (15, false)⟩) (v := (.int .i64 ((t : Nat) - 1 : Int))) rfl (by kernel_rfl) (by kernel_rfl) (by kernel_rfl) (fun _ _ _ h => h) (Or.inl ⟨by rfl, fun W hW => ?_⟩) (by assumption) ?_
          · go_simp
          simp only [Act.put, List.setIfInBounds_toArray, List.set_cons_zero, List.set_cons_succ]
          refine wpAnyH_take (i := 18) (oi := ⟨some 36, _, _, _, _, some (15, false)⟩) (v := (.agg #[.int .i64 0, .int .i64 0, .int .i64 ((t : Nat) - 1 : Int), .slice none 0 0])) rfl (by kernel_rfl) (by kernel_rfl) (by kernel_rfl) (fun _ _ _ h => h) (Or.inl ⟨by rfl, fun W hW => ?_⟩) (by assumption) ?_
          · go_simp
          simp only [Act.put, List.setIfInBounds_toArray, List.set_cons_zero, List.set_cons_succ]
          refine wpAnyH_take (i := 19) (oi := ⟨some 37, _, _, _, _, some (15, false)⟩) (v := (.int .i64 (i : Nat))) rfl (by kernel_rfl) (by kernel_rfl) (by kernel_rfl) (fun _ _ _ h => h) (Or.inl ⟨by rfl, fun W hW => ?_⟩) (by assumption) ?_
          · go_simp
          simp only [Act.put, List.setIfInBounds_toArray, List.set_cons_zero, List.set_cons_succ]
          refine wpAnyH_take (i := 20) (oi := ⟨some 38, _, _, _, _, some (15, false)⟩) (v := (.int .i64 (Int.tmod (i : Nat) 5))) rfl (by kernel_rfl) (by kernel_rfl) (by kernel_rfl) (fun _ _ _ h => h) (Or.inl ⟨by rfl, fun W hW => ?_⟩) (by assumption) ?_
          · go_simp
          simp only [Act.put, List.setIfInBounds_toArray, List.set_cons_zero, List.set_cons_succ]
          refine wpAnyH_take (i := 21) (oi := ⟨some 39, _, _, _, _, some (15, false)⟩) (v := (.agg #[.int .i64 0, .int .i64 0, .int .i64 (Int.tmod (i : Nat) 5), .slice none 0 0])) rfl (by kernel_rfl) (by kernel_rfl) (by kernel_rfl) (fun _ _ _ h => h) (Or.inl ⟨by rfl, fun W hW => ?_⟩) (by assumption) ?_
          · go_simp
          simp only [Act.put, List.setIfInBounds_toArray, List.set_cons_zero, List.set_cons_succ]
          refine wpAnyH_take (i := 22) (oi := ⟨some 40, _, _, _, _, some (15, false)⟩) (v := (.slice (some ⟨w.heap.size, 0, none⟩) 13 13)) rfl (by kernel_rfl) (by kernel_rfl) (by kernel_rfl) (fun _ _ _ h => h) (Or.inl ⟨by rfl, fun W hW => ?_⟩) (by assumption) ?_
          · go_simp
          simp only [Act.put, List.setIfInBounds_toArray, List.set_cons_zero, List.set_cons_succ]
          refine wpAnyH_take (i := 23) (oi := ⟨some 41, _, _, _, _, some (15, false)⟩) (v := (.int .i64 (i : Nat))) rfl (by kernel_rfl) (by kernel_rfl) (by kernel_rfl) (fun _ _ _ h => h) (Or.inl ⟨by rfl, fun W hW => ?_⟩) (by assumption) ?_
          · go_simp
          simp only [Act.put, List.setIfInBounds_toArray, List.set_cons_zero, List.set_cons_succ]
          refine wpAnyH_take (i := 24) (oi := ⟨some 42, _, _, _, _, some (15, false)⟩) (v := (.pointer (some ⟨w.heap.size, i, none⟩))) rfl (by kernel_rfl) (by kernel_rfl) (by kernel_rfl) (fun _ _ _ h => h) (Or.inl ⟨by rfl, fun W hW => ?_⟩) (by assumption) ?_
          · go_simp
          simp only [Act.put, List.setIfInBounds_toArray, List.set_cons_zero, List.set_cons_succ]
          refine wpAnyH_take (i := 25) (oi := ⟨some 43, _, _, _, _, some (15, false)⟩) (v := (.int .i64 (NV i))) rfl (by kernel_rfl) (by kernel_rfl) (by kernel_rfl) (fun _ _ _ h => h) (Or.inl ⟨by rfl, fun W hW => ?_⟩) (by assumption) ?_
          · have := HN.out W hW i hi; go_simp
          simp only [Act.put, List.setIfInBounds_toArray, List.set_cons_zero, List.set_cons_succ]
          refine wpAnyH_take (i := 26) (oi := ⟨some 44, _, _, _, _, some (15, false)⟩) (v := (.agg #[.int .i64 1, .int .i64 (NV i), .int .i64 0, .slice none 0 0])) rfl (by kernel_rfl) (by kernel_rfl) (by kernel_rfl) (fun _ _ _ h => h) (Or.inl ⟨by rfl, fun W hW => ?_⟩) (by assumption) ?_
          · go_simp
          simp only [Act.put, List.setIfInBounds_toArray, List.set_cons_zero, List.set_cons_succ]
          refine wpAnyH_take (i := 27) (oi := ⟨some 45, _, _, _, _, some (15, false)⟩) (v := (.agg #[.int .i64 0, .int .i64 0, .int .i64 1, .slice none 0 0])) rfl (by kernel_rfl) (by kernel_rfl) (by kernel_rfl) (fun _ _ _ h => h) (Or.inl ⟨by rfl, fun W hW => ?_⟩) (by assumption) ?_
          · go_simp
          simp only [Act.put, List.setIfInBounds_toArray, List.set_cons_zero, List.set_cons_succ]
          refine wpAnyH_ready (rs := [28]) (by kernel_rfl) (by simp) (AllReadyH.cons rfl (fun KK hKK => ?_) AllReadyH.nil)
          go_simp
          refine hKK.out _ _ (HB5.out.alloc (Below.size HB5.out) _) (fun hHeld => ?_)
          clear hKK KK
          try simp only [Act.put, List.setIfInBounds_toArray, List.set_cons_zero, List.set_cons_succ]
          refine wpAnyH_ready (rs := [29]) (by kernel_rfl) (by simp) (AllReadyH.cons rfl (fun KK hKK => ?_) AllReadyH.nil)
          go_simp
          refine (reads_lit (some ⟨w.heap.size + 1, 0, none⟩) 10 10 RF (by decide) [⟨0, 0, (t : Nat) - 1, none, 0, 0⟩, ⟨0, 0, Int.tmod (i : Nat) 5, none, 0, 0⟩, ⟨1, NV i, 0, none, 0, 0⟩, ⟨0, 0, 1, none, 0, 0⟩] 4 w5 #[.int .i64 0, .int .i64 0, .int .i64 ((t : Nat) - 1 : Int), .slice none 0 0, .int .i64 0, .int .i64 0, .int .i64 (Int.tmod (i : Nat) 5), .slice none 0 0, .int .i64 1, .int .i64 (NV i), .int .i64 0, .slice none 0 0, .int .i64 0, .int .i64 0, .int .i64 1, .slice none 0 0] rfl (by simp [flatD, D4.cells]) (HRWs.out _ HB5.out) (four_ok ⟨sl_no _, Nat.le_of_ble_eq_true rfl⟩ ⟨sl_no _, Nat.le_of_ble_eq_true rfl⟩ ⟨sl_no _, Nat.le_of_ble_eq_true rfl⟩ ⟨sl_no _, Nat.le_of_ble_eq_true rfl⟩) w5.heap.size rfl).mono ?_
          rintro e w6 ⟨rfl, hB6⟩
          dsimp only
          have HB6 := Lib.hid (HB5.out.trans (hB6.mono (Below.size HB5.out)))
          clear hB6
          refine hKK.out _ _ (HB6.out) (fun hHeld => ?_)
          clear hKK KK
          try simp only [Act.put, List.setIfInBounds_toArray, List.set_cons_zero, List.set_cons_succ]
          refine wpAnyH_take (i := 30) (oi := ⟨some 48, _, _, _, _, some (15, false)⟩) (v := (.bool false)) rfl (by kernel_rfl) (by kernel_rfl) (by kernel_rfl) (fun _ _ _ h => h) (Or.inl ⟨by rfl, fun W hW => ?_⟩) (by assumption) ?_
          · go_simp
          simp only [Act.put, List.setIfInBounds_toArray, List.set_cons_zero, List.set_cons_succ]
          refine wpAnyH_take (i := 31) (oi := ⟨some 49, _, _, _, _, none⟩) (v := (.bool false)) rfl (by kernel_rfl) (by kernel_rfl) (by kernel_rfl) (fun _ _ _ h => h) (Or.inl ⟨by rfl, fun W hW => ?_⟩) (by assumption) ?_
          · go_simp
          simp only [Act.put, List.setIfInBounds_toArray, List.set_cons_zero, List.set_cons_succ]
          refine wpAnyH_done (by kernel_rfl) ?_ _
          go_wp2
          go_roundw
          case rel => exact ⟨t + 1, by omega, congrArg (Value.int .i64) (by omega), HB6.out⟩
          case measure => simp [intOf]; omega
        · obtain rfl : t = 8 := by omega
          go_wp2
          go_roundw
          case rel => exact ⟨i + 1, by omega, by go_num, HBr.out⟩
          case measure => simp [intOf]; omega
    · have i1 : ¬ (i : Int) < 13 := by omega
      go_wp2_with fail
      clear hi hi13 i1
      go_loopw [5] (fun sv wr => ∃ t : Nat, t ≤ 13 ∧ sv = .int .i64 ((t : Nat) - 1) ∧ Below w2.heap.size w2 wr) (fun s _ => (12 - intOf s).toNat)
      case atStart => exact ⟨0, by omega, rfl, HBo.out⟩
      case round =>
        rename_i wr
        obtain ⟨t, ht13, rfl, hBr⟩ := hrel
        have HBr := Lib.hid hBr; clear hBr HBo
        by_cases ht : t < 13
        · have i2 : ((t : Nat) : Int) - 1 < 12 := by omega
          have hw1 : wrap64 (10 - (((t : Nat) : Int) - 1)) = 10 - (((t : Nat) : Int) - 1) := by unfold wrap64; omega
          go_wp2_with fail
          refine (reads_lit (some ⟨w.heap.size + 1, 0, none⟩) 10 10 RF (by decide) [⟨1, (t : Nat) - 1, 0, none, 0, 0⟩, ⟨1, 10 - ((t : Nat) - 1), 0, none, 0, 0⟩, ⟨1, 0, 0, none, 0, 0⟩, ⟨0, 0, 1, none, 0, 0⟩] 4 wr _ rfl rfl (HRWs.out _ HBr.out) (four_ok ⟨sl_no _, Nat.le_of_ble_eq_true rfl⟩ ⟨sl_no _, Nat.le_of_ble_eq_true rfl⟩ ⟨sl_no _, Nat.le_of_ble_eq_true rfl⟩ ⟨sl_no _, Nat.le_of_ble_eq_true rfl⟩) wr.heap.size rfl).mono ?_
          rintro x w5 ⟨rfl, hB5⟩
          have HB5 := Lib.hid (HBr.out.trans (hB5.mono (Below.size HBr.out))); clear hB5 hw1
          obtain ⟨q, hq, hmx⟩ : ∃ q : Nat, q ≤ 10 ∧ Int.tmod (max (((t : Nat) : Int) - 1) 0) 11 = (q : Nat) := by
            have h1 : 0 ≤ max (((t : Nat) : Int) - 1) 0 := Int.le_max_right _ _
            refine ⟨(max (((t : Nat) : Int) - 1) 0).toNat % 11, by omega, ?_⟩
            rw [Int.tmod_eq_emod_of_nonneg h1]; omega
          have HQ := Lib.hid (sl_head (HRWs.out _ HB5.out) (show q ≤ 10 from hq))
          go_wp2_with fail
          refine (reads_lit (some ⟨w.heap.size + 1, 0, none⟩) q 10 (sub RF 0 q) (by omega) [⟨0, 0, 4, none, 0, 0⟩, ⟨0, 0, 3, none, 0, 0⟩, ⟨0, 0, 2, none, 0, 0⟩, ⟨0, 0, 1, none, 0, 0⟩, ⟨0, 0, 1, none, 0, 0⟩] 5 w5 _ rfl rfl HQ.out (five_ok ⟨sl_no _, Nat.le_of_ble_eq_true rfl⟩ ⟨sl_no _, Nat.le_of_ble_eq_true rfl⟩ ⟨sl_no _, Nat.le_of_ble_eq_true rfl⟩ ⟨sl_no _, Nat.le_of_ble_eq_true rfl⟩ ⟨sl_no _, Nat.le_of_ble_eq_true rfl⟩) w5.heap.size rfl).mono ?_
          rintro x w6 ⟨rfl, hB6⟩
          have HB6 := Lib.hid (HB5.out.trans (hB6.mono (Below.size HB5.out))); clear hB6 hmx
          go_wp2
          go_roundw
          case rel => exact ⟨t + 1, by omega, congrArg (Value.int .i64) (by omega), HB6.out⟩
          case measure => simp [intOf]; omega
        · obtain rfl : t = 13 := by omega
          go_wp2_with fail
          refine (writes_lit [⟨0, 0, 4611686018427387904, none, 0, 0⟩, ⟨0, 0, 1, none, 0, 0⟩] 2 wr _ rfl rfl (two_ok ⟨sl_no _, Nat.le_of_ble_eq_true rfl⟩ ⟨sl_no _, Nat.le_of_ble_eq_true rfl⟩) wr.heap.size rfl).mono ?_
          rintro x w5 ⟨rfl, hB5⟩
          have HB5 := Lib.hid (HBr.out.trans (hB5.mono (Below.size HBr.out))); clear hB5
          go_wp2_with fail
          refine (packReads_any none 0 0 (fun _ => 0) none 0 0 (fun _ => 0) (fun _ => 0) (fun _ => 0) (fun _ => none) (fun _ => 0) (fun _ => 0) (fun _ _ => 0) (by omega) (by omega) _ (Sl.none_ _ none 0 (Nat.zero_le _) (fun _ => rfl)) ⟨fun i hi => absurd hi (Nat.not_lt_zero i), fun i hi => absurd hi (Nat.not_lt_zero i), fun i hi => absurd hi (Nat.not_lt_zero i)⟩).mono ?_
          rintro x w6 ⟨rfl, hB6⟩
          have HB6 := Lib.hid (HB5.out.trans (hB6.mono (Below.size HB5.out))); clear hB6
          go_wp2_with fail
          refine (none8_any _).mono ?_
          rintro x w7 ⟨rfl, hB7⟩
          have HB7 := Lib.hid (HB6.out.trans (hB7.mono (Below.size HB6.out))); clear hB7
          go_wp2_with fail
          refine (awake8_any _).mono ?_
          rintro x w8 ⟨rfl, hB8⟩
          have HB8 := Lib.hid (HB7.out.trans (hB8.mono (Below.size HB7.out))); clear hB8
          go_wp2
          go_ret
          exact ⟨rfl, HB2.out.trans (HB8.out.mono HB2.out.size)⟩
end Go.Proofs.Ytdjigbjheicfcaa
