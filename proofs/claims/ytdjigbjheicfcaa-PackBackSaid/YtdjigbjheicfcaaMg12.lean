import Derived.StillTailTactics
import Derived.Outline
import Derived.RegionTactic
import Derived.Deep.DeepCutAuto
import Derived.BigRegion
import Derived.Deep.RegionHeld3
import Derived.Test.YtdjigbjheicfcaaMg11
namespace Go.Proofs.Ytdjigbjheicfcaa
open Go.RowKit Go.Shelf

theorem Rr.keeps {w w' : World} {B p s c l cx : Nat} {a x : Option Addr} {S : Bs} {f : Nat → Nat} (h : Rr w B p s a c S) (hb : But2 s s w w') (hS : Sl w x l cx f) : Sl w' x l cx f := by
  obtain ⟨_, hst, _⟩ := h.stk
  have hx : ∀ ad, x = some ad → l ≠ 0 → w'.heap[ad.block]? = w.heap[ad.block]? := fun ad e hl => hb.block _ (hS.lt ad e hl) (hst.neS hS ad e hl) (hst.neS hS ad e hl)
  exact ⟨hS.capOk, hS.maxOk, hS.bytes, hS.up, hS.nil, hS.spot, fun ad e i hi => by
    have h1 := hS.cell ad e i hi
    have h2 := hx ad e (by omega)
    unfold World.cell? at h1 ⊢
    simp only at h1 ⊢
    rw [h2]; exact h1⟩
set_option maxHeartbeats 8000000 in
set_option maxRecDepth 100000 in
theorem packBack_any (a : Option Addr) (m cap : Nat) (wh nn zz : Nat → Int) (ia : Nat → Option Addr) (il ic : Nat → Nat) (fb : Nat → Nat → Nat) (ct : Int) (hm : m ≤ 1000000000000000) (w : World) (hA : Dos w a m wh nn zz ia il ic fb) :
    Calls Try.prog 6 #[.slice a m cap, .int .i64 ct] w fun e w' => e = .returned (.bool true) ∧ Below w.heap.size w w' := by
  have HA := Lib.hid hA
  have HFB0 := Lib.hid (fun k (hk : k < m) => (hA.ind k hk).bytes)
  clear hA
  go_enter Try.func6, Try.ntmps6
  go_wp2_with fail
  refine (awake8_any _).mono ?_
  rintro e w0 ⟨rfl, hB0⟩
  have HB0 := Lib.hid hB0; clear hB0
  go_wp2_with fail
  refine (size8_any a m cap wh nn zz ia il ic fb hm _ (HA.out.same HB0.out)).mono ?_
  rintro e w1 ⟨M, rfl, hM, hB1⟩
  have HB1 := Lib.hid (HB0.out.trans (hB1.mono HB0.out.size)); clear hB1
  by_cases hbig : M ≤ 2000
  · have j0 : ¬ (2000 : Int) < (M : Int) := by omega
    obtain ⟨hm2, hil⟩ := hM hbig
    have HIL := Lib.hid hil
    clear hM hil hbig
    have HO := Lib.hid (fun k (hk : k ≤ m) => Wn_ok (wh := wh) (nn := nn) (zz := zz) (il := il) HFB0.out k hk)
    have HL := Lib.hid (fun k (hk : k ≤ m) => Wn_len (wh := wh) (nn := nn) (zz := zz) (fb := fb) HIL.out k hk)
    go_wp2_with fail
    refine (wnew_any _).mono ?_
    rintro x w2 ⟨p, s, rfl, hW, hB2⟩
    have HW := Lib.hid hW
    have HB2 := Lib.hid (HB1.out.trans (hB2.mono HB1.out.size))
    have HW2 := Lib.hid (show Wr w2 w.heap.size p s none 0 (Wn wh nn zz il fb 0) from ⟨hW.box, hW.stk.imp fun l h => ⟨h.1, (by
      rcases h.2.1 with h' | ⟨g, e, _⟩
      · exact Or.inl h'
      · cases e), h.2.2⟩, Nat.le_trans HB1.out.size hW.hp, Nat.le_trans HB1.out.size hW.hs⟩)
    clear hW hB2 HW
    go_wp2_with fail
    go_loopw [6] (fun iv wr => ∃ (k : Nat) (a1 : Option Addr) (c1 : Nat), k ≤ m ∧ iv = .int .i64 (k : Nat) ∧ Wr wr w.heap.size p s a1 c1 (Wn wh nn zz il fb k) ∧ Below w.heap.size w wr) (fun i _ => m - (intOf i).toNat)
    case atStart => exact ⟨0, none, 0, by omega, rfl, HW2.out, HB2.out⟩
    case round =>
      rename_i wr
      obtain ⟨k, a1, c1, hk, rfl, hW, hB⟩ := hrel
      have HWk := Lib.hid hW; have HBk := Lib.hid hB
      clear hW hB HW2
      by_cases hlt : k < m
      · have i1 : (k : Int) < (m : Int) := by omega
        obtain ⟨b, o, ea, c0, c1', c2, c3⟩ := (HA.out.same HBk.out).cell k hlt
        have hil := HIL.out k hlt
        have hlk := HL.out k (by omega)
        have EA := Lib.hid ea
        subst ea
        go_wp2_with fail
        refine (put_any w.heap.size p s a1 c1 (Wn wh nn zz il fb k) (wh k) (nn k) (zz k) (ia k) (il k) (ic k) (fb k) (by omega) _ HBk.out.size HWk.out ((HA.out.same HBk.out).ind k hlt)).mono ?_
        rintro x w5 hwr
        have HB5 := Lib.hid (HBk.out.trans (wrote_below HWk.out HBk.out.size hwr))
        obtain ⟨a5, c5, rfl, hW5, _⟩ := hwr
        have HW5 := Lib.hid (show Wr w5 w.heap.size p s a5 c5 (Wn wh nn zz il fb (k + 1)) from hW5)
        clear hW5 c0 c1' c2 c3
        go_wp2
        go_roundw
        case rel => exact ⟨k + 1, a5, c5, by omega, by go_num, HW5.out, HB5.out⟩
        case measure => simp [intOf]; omega
      · obtain rfl : m = k := by omega
        have i1 : ¬ (m : Int) < (m : Int) := by omega
        have hlk := HL.out m (Nat.le_refl _)
        go_wp2_with fail
        refine (wbytes_any w.heap.size p s a1 c1 (Wn wh nn zz il fb m) (HO.out m (Nat.le_refl _)) (by omega) _ HWk.out).mono ?_
        rintro x w6 ⟨aB, cB, rfl, hNB, hB6⟩
        have HB6 := Lib.hid (HBk.out.trans (hB6.mono HBk.out.size)); have hNB := hNB.sl
        clear hB6 HWk HBk
        by_cases he : (Wn wh nn zz il fb m).e = 0
        · have hmL : (Wn wh nn zz il fb m).m = (Wn wh nn zz il fb m).l := if_pos he
          have hgF : (Wn wh nn zz il fb m).g = (Wn wh nn zz il fb m).f := funext fun i => if_pos he
          rw [hmL, hgF] at hNB
          rw [he, hmL]
          obtain ⟨Pn, hPn⟩ : ∃ Pn : Nat → Nat, Pn = fun j => (Wn wh nn zz il fb j).l := ⟨_, rfl⟩
          have hP0 : Pn 0 = 0 := by rw [hPn]; rfl
          have hPm : Pn m = (Wn wh nn zz il fb m).l := by rw [hPn]
          have HSN := Lib.hid (show ∀ j, j < m → pkv (wh j) 2 = 0 → ∃ z : Nat, zz j = z ∧ 1 ≤ z ∧ z ≤ 4 ∧ Pn (j + 1) = Pn j + z ∧ Pn j + z ≤ (Wn wh nn zz il fb m).l ∧ (rem8 (Wn wh nn zz il fb m).f (Wn wh nn zz il fb m).l (Pn j)).rnum (zz j) = rem8 (Wn wh nn zz il fb m).f (Wn wh nn zz il fb m).l (Pn (j + 1)) ∧ ((rem8 (Wn wh nn zz il fb m).f (Wn wh nn zz il fb m).l (Pn j)).rval (zz j) : Int) = nn j from by rw [hPn]; exact fun j hj hp => seg_num he hj hp)
          have HST := Lib.hid (show ∀ j, j < m → ¬ pkv (wh j) 2 = 0 → Pn (j + 1) = Pn j + il j ∧ Pn j + il j ≤ (Wn wh nn zz il fb m).l ∧ (rem8 (Wn wh nn zz il fb m).f (Wn wh nn zz il fb m).l (Pn j)).take (il j : Nat) = rem8 (Wn wh nn zz il fb m).f (Wn wh nn zz il fb m).l (Pn (j + 1)) ∧ (rem8 (Wn wh nn zz il fb m).f (Wn wh nn zz il fb m).l (Pn j)).tm (il j : Nat) = il j ∧ (rem8 (Wn wh nn zz il fb m).f (Wn wh nn zz il fb m).l (Pn j)).tf (il j : Nat) = fb j from by rw [hPn]; exact fun j hj hp => seg_take he hj hp (HA.out.ind j hj).up)
          have HFB := Lib.hid (HO.out m (Nat.le_refl _)).by_
          have HFU := Lib.hid (HO.out m (Nat.le_refl _)).up
          have hL9 : (Wn wh nn zz il fb m).l ≤ 5000000 := by omega
          clear hPn hmL hgF he hlk
          generalize (Wn wh nn zz il fb m).l = L at hNB hPm HSN HST HFU hL9 ⊢
          generalize (Wn wh nn zz il fb m).f = F at hNB HSN HST HFB HFU
          have HNB := Lib.hid hNB; have HPM := Lib.hid hPm; have HP0 := Lib.hid hP0
          clear hNB hPm hP0 HO HL
          go_wp2_with fail
          refine (rover_any aB L cB F (by omega) _ HNB.out).mono ?_
          rintro x w7 ⟨p2, s2, a7, c7, rfl, hR, hB7⟩
          have HB7 := Lib.hid (HB6.out.trans (hB7.mono HB6.out.size)); have HNB7 := Lib.hid (HNB.out.same hB7)
          have hz6 := HB6.out.size
          have HR := Lib.hid (show Rr w7 w.heap.size p2 s2 a7 c7 (rem8 F L (Pn 0)) by rw [HP0.out, rem8_zero HFU.out]; exact ⟨hR.box, hR.stk, Nat.le_trans hz6 hR.hp, Nat.le_trans hz6 hR.hs, fun ad e => ⟨Nat.le_trans hz6 (hR.ha ad e).1, (hR.ha ad e).2⟩⟩)
          clear hR hB7
          go_wp2_with fail
          go_loopw [10] (fun iv wr => ∃ (k : Nat) (a1 : Option Addr) (c1 : Nat), k ≤ m ∧ iv = .int .i64 (k : Nat) ∧ Rr wr w.heap.size p2 s2 a1 c1 (rem8 F L (Pn k)) ∧ Sl wr aB L cB F ∧ Below w.heap.size w wr) (fun i _ => m - (intOf i).toNat)
          case atStart => exact ⟨0, a7, c7, by omega, rfl, HR.out, HNB7.out, HB7.out⟩
          case round =>
            rename_i wr
            obtain ⟨k, a1, c1, hk, rfl, hR, hN, hB⟩ := hrel
            have HRk := Lib.hid hR; have HNBk := Lib.hid hN; have HBk := Lib.hid hB
            clear hR hN hB HR HNB7
            by_cases hlt : k < m
            · have i1 : (k : Int) < (m : Int) := by omega
              obtain ⟨b, o, ea, _⟩ := HA.out.cell k hlt
              have HCL2 := Lib.hid (fun W (hW : Below w.heap.size w W) => (by
                obtain ⟨b', o', e', h1, h2, h3, h4⟩ := (HA.out.same hW).cell k hlt
                rw [ea] at e'; cases e'; exact ⟨h1, h2, h3, h4⟩ : W.cell? ⟨b, o + k * 4, none⟩ = some (.int .i64 (wh k)) ∧ W.cell? ⟨b, o + k * 4 + 1, none⟩ = some (.int .i64 (nn k)) ∧ W.cell? ⟨b, o + k * 4 + 2, none⟩ = some (.int .i64 (zz k)) ∧ W.cell? ⟨b, o + k * 4 + 3, none⟩ = some (.slice (ia k) (il k) (ic k))))
              have HDO := Lib.hid (fun W (hW : Below w.heap.size w W) => (HA.out.same hW).ind k hlt)
              have hil := HIL.out k hlt
              have EA := Lib.hid ea
              subst ea
              have c0 := (HCL2.out wr HBk.out).1
              go_wp2_with fail
              refine (pickv_any (wh k) 2 (by omega) (by omega) _).mono ?_
              rintro x wd ⟨rfl, rfl⟩
              have HBd := Lib.hid HBk.out; have HRd := Lib.hid HRk.out; have HNBd := Lib.hid (HNBk.out.same (Below.refl _ wd).drew)
              clear HBk HRk HNBk c0
              by_cases hp : pkv (wh k) 2 = 0
              · have hnx : (rem8 F L (Pn k)).rnum (zz k) = rem8 F L (Pn (k + 1)) ∧ ((rem8 F L (Pn k)).rval (zz k) : Int) = nn k := by
                  obtain ⟨_, _, _, _, _, _, h⟩ := HSN.out k hlt hp; exact h
                have HNX := Lib.hid hnx
                rw [hp]
                clear hp hnx
                generalize Pn k = P at HRd HNX
                go_upto_region 18 with fail
                refine wp_region_held_drew (S := fun W => Below w.heap.size w W) (by kernel_rfl) (HBd.out.drew) (fun hHeld => ?_)
                refine wpAnyH_take (i := 0) (oi := ⟨some 61, _, _, _, _, none⟩) (v := (.pointer (some ⟨p2, 0, none⟩))) rfl (by kernel_rfl) (by kernel_rfl) (by kernel_rfl) (fun _ _ _ h => h) (Or.inl ⟨by rfl, fun W hW => ?_⟩) (by assumption) ?_
                · go_simp
                simp only [Act.put, List.setIfInBounds_toArray, List.set_cons_zero, List.set_cons_succ]
                refine wpAnyH_take (i := 1) (oi := ⟨some 62, _, _, _, _, none⟩) (v := (.slice (some ⟨b, o, none⟩) m cap)) rfl (by kernel_rfl) (by kernel_rfl) (by kernel_rfl) (fun _ _ _ h => h) (Or.inl ⟨by rfl, fun W hW => ?_⟩) (by assumption) ?_
                · go_simp
                simp only [Act.put, List.setIfInBounds_toArray, List.set_cons_zero, List.set_cons_succ]
                refine wpAnyH_take (i := 2) (oi := ⟨some 63, _, _, _, _, none⟩) (v := (.int .i64 (k : Nat))) rfl (by kernel_rfl) (by kernel_rfl) (by kernel_rfl) (fun _ _ _ h => h) (Or.inl ⟨by rfl, fun W hW => ?_⟩) (by assumption) ?_
                · go_simp
                simp only [Act.put, List.setIfInBounds_toArray, List.set_cons_zero, List.set_cons_succ]
                refine wpAnyH_take (i := 3) (oi := ⟨some 64, _, _, _, _, none⟩) (v := (.pointer (some ⟨b, o + k * 4, none⟩))) rfl (by kernel_rfl) (by kernel_rfl) (by kernel_rfl) (fun _ _ _ h => h) (Or.inl ⟨by rfl, fun W hW => ?_⟩) (by assumption) ?_
                · go_simp
                simp only [Act.put, List.setIfInBounds_toArray, List.set_cons_zero, List.set_cons_succ]
                refine wpAnyH_take (i := 4) (oi := ⟨some 65, _, _, _, _, none⟩) (v := (.pointer (some ⟨b, o + k * 4 + 2, none⟩))) rfl (by kernel_rfl) (by kernel_rfl) (by kernel_rfl) (fun _ _ _ h => h) (Or.inl ⟨by rfl, fun W hW => ?_⟩) (by assumption) ?_
                · go_simp
                simp only [Act.put, List.setIfInBounds_toArray, List.set_cons_zero, List.set_cons_succ]
                refine wpAnyH_take (i := 5) (oi := ⟨some 66, _, _, _, _, none⟩) (v := (.int .i64 (zz k))) rfl (by kernel_rfl) (by kernel_rfl) (by kernel_rfl) (fun _ _ _ h => h) (Or.inl ⟨by rfl, fun W hW => ?_⟩) (by assumption) ?_
                · have := HCL2.out W hW; have h1 := this.1; have h2 := this.2.1; have h3 := this.2.2.1; have h4 := this.2.2.2; go_simp
                simp only [Act.put, List.setIfInBounds_toArray, List.set_cons_zero, List.set_cons_succ]
                refine wpAnyH_take (i := 7) (oi := ⟨some 68, _, _, _, _, none⟩) (v := (.slice (some ⟨b, o, none⟩) m cap)) rfl (by kernel_rfl) (by kernel_rfl) (by kernel_rfl) (fun _ _ _ h => h) (Or.inl ⟨by rfl, fun W hW => ?_⟩) (by assumption) ?_
                · go_simp
                simp only [Act.put, List.setIfInBounds_toArray, List.set_cons_zero, List.set_cons_succ]
                refine wpAnyH_take (i := 8) (oi := ⟨some 69, _, _, _, _, none⟩) (v := (.int .i64 (k : Nat))) rfl (by kernel_rfl) (by kernel_rfl) (by kernel_rfl) (fun _ _ _ h => h) (Or.inl ⟨by rfl, fun W hW => ?_⟩) (by assumption) ?_
                · go_simp
                simp only [Act.put, List.setIfInBounds_toArray, List.set_cons_zero, List.set_cons_succ]
                refine wpAnyH_take (i := 9) (oi := ⟨some 70, _, _, _, _, none⟩) (v := (.pointer (some ⟨b, o + k * 4, none⟩))) rfl (by kernel_rfl) (by kernel_rfl) (by kernel_rfl) (fun _ _ _ h => h) (Or.inl ⟨by rfl, fun W hW => ?_⟩) (by assumption) ?_
                · go_simp
                simp only [Act.put, List.setIfInBounds_toArray, List.set_cons_zero, List.set_cons_succ]
                refine wpAnyH_take (i := 10) (oi := ⟨some 71, _, _, _, _, none⟩) (v := (.pointer (some ⟨b, o + k * 4 + 1, none⟩))) rfl (by kernel_rfl) (by kernel_rfl) (by kernel_rfl) (fun _ _ _ h => h) (Or.inl ⟨by rfl, fun W hW => ?_⟩) (by assumption) ?_
                · go_simp
                simp only [Act.put, List.setIfInBounds_toArray, List.set_cons_zero, List.set_cons_succ]
                refine wpAnyH_take (i := 11) (oi := ⟨some 72, _, _, _, _, none⟩) (v := (.int .i64 (nn k))) rfl (by kernel_rfl) (by kernel_rfl) (by kernel_rfl) (fun _ _ _ h => h) (Or.inl ⟨by rfl, fun W hW => ?_⟩) (by assumption) ?_
                · have := HCL2.out W hW; have h1 := this.1; have h2 := this.2.1; have h3 := this.2.2.1; have h4 := this.2.2.2; go_simp
                simp only [Act.put, List.setIfInBounds_toArray, List.set_cons_zero, List.set_cons_succ]
                refine wpAnyH_ready (rs := [6]) (by kernel_rfl) (by simp) (AllReadyH.cons rfl (fun KK hKK => ?_) AllReadyH.nil)
                go_simp
                refine (rnum_any w.heap.size p2 s2 _ _ (rem8 F L P) (zz k) (rem8_ok HFB.out L P) (by show L - P ≤ _; omega) wd.drew (HRd.out.same (Below.refl _ wd).drew)).mono ?_
                rintro x w5 ⟨rfl, hred⟩
                have HB5 := Lib.hid (HBd.out.drew.trans (red_below (HRd.out.same (Below.refl _ wd).drew) (Below.size HBd.out.drew) hred))
                have HNB5 := Lib.hid ((HRd.out.same (Below.refl _ wd).drew).keeps hred.2 HNBd.out)
                obtain ⟨⟨a5, c5, hR5, _⟩, _⟩ := hred
                rw [HNX.out.1] at hR5
                rw [HNX.out.2]
                have HR5 := Lib.hid hR5; clear hR5
                dsimp only
                refine hKK.out _ _ (HB5.out) (fun hHeld => ?_)
                clear hKK KK
                try simp only [Act.put, List.setIfInBounds_toArray, List.set_cons_zero, List.set_cons_succ]
                refine wpAnyH_take (i := 12) (oi := ⟨some 73, _, _, _, _, none⟩) (v := (.bool false)) rfl (by kernel_rfl) (by kernel_rfl) (by kernel_rfl) (fun _ _ _ h => h) (Or.inl ⟨by rfl, fun W hW => ?_⟩) (by assumption) ?_
                · have hvv : ((nn k) != (nn k)) = false := (by simp); go_simp
                simp only [Act.put, List.setIfInBounds_toArray, List.set_cons_zero, List.set_cons_succ]
                refine wpAnyH_done (by kernel_rfl) ?_ _
                go_wp2
                go_roundw
                case rel => exact ⟨k + 1, a5, c5, by omega, by go_num, HR5.out, HNB5.out, HB5.out⟩
                case measure => simp [intOf]; omega
              · have hnx : (rem8 F L (Pn k)).take (il k : Nat) = rem8 F L (Pn (k + 1)) ∧ (rem8 F L (Pn k)).tm (il k : Nat) = il k ∧ (rem8 F L (Pn k)).tf (il k : Nat) = fb k := by
                  obtain ⟨_, _, h⟩ := HST.out k hlt hp; exact h
                have HNX := Lib.hid hnx
                have hpb := pkv_bd (wh k) (n := 2) (by omega)
                have hp1 : pkv (wh k) 2 = 1 := by omega
                rw [hp1]
                clear hp hnx hpb hp1
                generalize Pn k = P at HRd HNX
                generalize il k = li at HNX HCL2 HDO hil
                generalize ic k = ci at HCL2 HDO
                generalize ia k = ai at HCL2 HDO
                generalize fb k = fi at HNX HDO
                go_upto_region 20 with fail
                refine wp_region_held_drew (S := fun W => Below w.heap.size w W) (by kernel_rfl) (HBd.out.drew) (fun hHeld => ?_)
                refine wpAnyH_take (i := 0) (oi := ⟨some 74, _, _, _, _, none⟩) (v := (.pointer (some ⟨p2, 0, none⟩))) rfl (by kernel_rfl) (by kernel_rfl) (by kernel_rfl) (fun _ _ _ h => h) (Or.inl ⟨by rfl, fun W hW => ?_⟩) (by assumption) ?_
                · go_simp
                simp only [Act.put, List.setIfInBounds_toArray, List.set_cons_zero, List.set_cons_succ]
                refine wpAnyH_take (i := 1) (oi := ⟨some 75, _, _, _, _, none⟩) (v := (.slice (some ⟨b, o, none⟩) m cap)) rfl (by kernel_rfl) (by kernel_rfl) (by kernel_rfl) (fun _ _ _ h => h) (Or.inl ⟨by rfl, fun W hW => ?_⟩) (by assumption) ?_
                · go_simp
                simp only [Act.put, List.setIfInBounds_toArray, List.set_cons_zero, List.set_cons_succ]
                refine wpAnyH_take (i := 2) (oi := ⟨some 76, _, _, _, _, none⟩) (v := (.int .i64 (k : Nat))) rfl (by kernel_rfl) (by kernel_rfl) (by kernel_rfl) (fun _ _ _ h => h) (Or.inl ⟨by rfl, fun W hW => ?_⟩) (by assumption) ?_
                · go_simp
                simp only [Act.put, List.setIfInBounds_toArray, List.set_cons_zero, List.set_cons_succ]
                refine wpAnyH_take (i := 3) (oi := ⟨some 77, _, _, _, _, none⟩) (v := (.pointer (some ⟨b, o + k * 4, none⟩))) rfl (by kernel_rfl) (by kernel_rfl) (by kernel_rfl) (fun _ _ _ h => h) (Or.inl ⟨by rfl, fun W hW => ?_⟩) (by assumption) ?_
                · go_simp
                simp only [Act.put, List.setIfInBounds_toArray, List.set_cons_zero, List.set_cons_succ]
                refine wpAnyH_take (i := 4) (oi := ⟨some 78, _, _, _, _, none⟩) (v := (.pointer (some ⟨b, o + k * 4 + 3, none⟩))) rfl (by kernel_rfl) (by kernel_rfl) (by kernel_rfl) (fun _ _ _ h => h) (Or.inl ⟨by rfl, fun W hW => ?_⟩) (by assumption) ?_
                · go_simp
                simp only [Act.put, List.setIfInBounds_toArray, List.set_cons_zero, List.set_cons_succ]
                refine wpAnyH_take (i := 5) (oi := ⟨some 79, _, _, _, _, none⟩) (v := (.slice ai li ci)) rfl (by kernel_rfl) (by kernel_rfl) (by kernel_rfl) (fun _ _ _ h => h) (Or.inl ⟨by rfl, fun W hW => ?_⟩) (by assumption) ?_
                · have := HCL2.out W hW; have h1 := this.1; have h2 := this.2.1; have h3 := this.2.2.1; have h4 := this.2.2.2; go_simp
                simp only [Act.put, List.setIfInBounds_toArray, List.set_cons_zero, List.set_cons_succ]
                refine wpAnyH_take (i := 6) (oi := ⟨some 80, _, _, _, _, none⟩) (v := (.int .i64 (li : Nat))) rfl (by kernel_rfl) (by kernel_rfl) (by kernel_rfl) (fun _ _ _ h => h) (Or.inl ⟨by rfl, fun W hW => ?_⟩) (by assumption) ?_
                · go_simp
                simp only [Act.put, List.setIfInBounds_toArray, List.set_cons_zero, List.set_cons_succ]
                refine wpAnyH_take (i := 8) (oi := ⟨some 82, _, _, _, _, none⟩) (v := (.slice (some ⟨b, o, none⟩) m cap)) rfl (by kernel_rfl) (by kernel_rfl) (by kernel_rfl) (fun _ _ _ h => h) (Or.inl ⟨by rfl, fun W hW => ?_⟩) (by assumption) ?_
                · go_simp
                simp only [Act.put, List.setIfInBounds_toArray, List.set_cons_zero, List.set_cons_succ]
                refine wpAnyH_take (i := 9) (oi := ⟨some 83, _, _, _, _, none⟩) (v := (.int .i64 (k : Nat))) rfl (by kernel_rfl) (by kernel_rfl) (by kernel_rfl) (fun _ _ _ h => h) (Or.inl ⟨by rfl, fun W hW => ?_⟩) (by assumption) ?_
                · go_simp
                simp only [Act.put, List.setIfInBounds_toArray, List.set_cons_zero, List.set_cons_succ]
                refine wpAnyH_take (i := 10) (oi := ⟨some 84, _, _, _, _, none⟩) (v := (.pointer (some ⟨b, o + k * 4, none⟩))) rfl (by kernel_rfl) (by kernel_rfl) (by kernel_rfl) (fun _ _ _ h => h) (Or.inl ⟨by rfl, fun W hW => ?_⟩) (by assumption) ?_
                · go_simp
                simp only [Act.put, List.setIfInBounds_toArray, List.set_cons_zero, List.set_cons_succ]
                refine wpAnyH_take (i := 11) (oi := ⟨some 85, _, _, _, _, none⟩) (v := (.pointer (some ⟨b, o + k * 4 + 3, none⟩))) rfl (by kernel_rfl) (by kernel_rfl) (by kernel_rfl) (fun _ _ _ h => h) (Or.inl ⟨by rfl, fun W hW => ?_⟩) (by assumption) ?_
                · go_simp
                simp only [Act.put, List.setIfInBounds_toArray, List.set_cons_zero, List.set_cons_succ]
                refine wpAnyH_take (i := 12) (oi := ⟨some 86, _, _, _, _, none⟩) (v := (.slice ai li ci)) rfl (by kernel_rfl) (by kernel_rfl) (by kernel_rfl) (fun _ _ _ h => h) (Or.inl ⟨by rfl, fun W hW => ?_⟩) (by assumption) ?_
                · have := HCL2.out W hW; have h1 := this.1; have h2 := this.2.1; have h3 := this.2.2.1; have h4 := this.2.2.2; go_simp
                simp only [Act.put, List.setIfInBounds_toArray, List.set_cons_zero, List.set_cons_succ]
                refine wpAnyH_ready (rs := [7]) (by kernel_rfl) (by simp) (AllReadyH.cons rfl (fun KK hKK => ?_) AllReadyH.nil)
                go_simp
                refine (rtake_any w.heap.size p2 s2 _ _ (rem8 F L P) (li : Nat) (rem8_ok HFB.out L P) (by show L - P ≤ _; omega) wd.drew (HRd.out.same (Below.refl _ wd).drew)).mono ?_
                rintro x w5 ⟨aA, cA, rfl, hNA, hred⟩
                have HB5 := Lib.hid (HBd.out.drew.trans (red_below (HRd.out.same (Below.refl _ wd).drew) (Below.size HBd.out.drew) hred))
                have HNB5 := Lib.hid ((HRd.out.same (Below.refl _ wd).drew).keeps hred.2 HNBd.out)
                obtain ⟨⟨a5, c5, hR5, _⟩, _⟩ := hred
                rw [HNX.out.1] at hR5
                rw [HNX.out.2.1, HNX.out.2.2] at hNA
                rw [HNX.out.2.1]
                have HR5 := Lib.hid hR5; have HNA := Lib.hid hNA; clear hR5 hNA
                dsimp only
                refine hKK.out _ _ (HB5.out) (fun hHeld => ?_)
                clear hKK KK
                try simp only [Act.put, List.setIfInBounds_toArray, List.set_cons_zero, List.set_cons_succ]
                refine wpAnyH_ready (rs := [13]) (by kernel_rfl) (by simp) (AllReadyH.cons rfl (fun KK hKK => ?_) AllReadyH.nil)
                go_simp
                refine (same_any aA ai li cA ci fi (by omega) w5 HNA.out.sl (HDO.out w5 HB5.out)).mono ?_
                rintro x w6 ⟨rfl, q6, hq6⟩
                have hB56 : Below w5.heap.size w5 w6 := by rw [hq6]; exact below_dr (Below.refl _ _) q6
                have HB6 := Lib.hid (HB5.out.trans (hB56.mono HB5.out.size)); have HR6 := Lib.hid (HR5.out.same hB56); have HNB6 := Lib.hid (HNB5.out.same hB56)
                clear hq6 hB56
                dsimp only
                refine hKK.out _ _ (HB6.out) (fun hHeld => ?_)
                clear hKK KK
                try simp only [Act.put, List.setIfInBounds_toArray, List.set_cons_zero, List.set_cons_succ]
                refine wpAnyH_take (i := 14) (oi := ⟨some 88, _, _, _, _, none⟩) (v := (.bool false)) rfl (by kernel_rfl) (by kernel_rfl) (by kernel_rfl) (fun _ _ _ h => h) (Or.inl ⟨by rfl, fun W hW => ?_⟩) (by assumption) ?_
                · go_simp
                simp only [Act.put, List.setIfInBounds_toArray, List.set_cons_zero, List.set_cons_succ]
                refine wpAnyH_done (by kernel_rfl) ?_ _
                go_wp2
                go_roundw
                case rel => exact ⟨k + 1, a5, c5, by omega, by go_num, HR6.out, HNB6.out, HB6.out⟩
                case measure => simp [intOf]; omega
            · obtain rfl : m = k := by omega
              have i1 : ¬ (m : Int) < (m : Int) := by omega
              have HRm := Lib.hid (show Rr wr w.heap.size p2 s2 a1 c1 (rem8 F L L) from HPM.out ▸ HRk.out)
              have HNBm := Lib.hid HNBk.out
              have hLm : (rem8 F L L).m = 0 := by show (if (0 : Int) = 0 then L - L else 0) = 0; rw [if_pos rfl]; omega
              have hLf : (rem8 F L L).fin = 0 := by unfold Bs.fin; rw [if_neg (fun k => k rfl), if_neg (by show ¬ 0 < L - L; omega)]
              clear HRk HNBk
              go_wp2_with fail
              refine (rleft_any w.heap.size p2 s2 a1 c1 (rem8 F L L) _ HRm.out).mono ?_
              rintro x w8 ⟨rfl, rfl⟩
              rw [hLm]
              go_wp2_with fail
              refine (rend_any w.heap.size p2 s2 a1 c1 (rem8 F L L) _ HRm.out).mono ?_
              rintro x w8 ⟨rfl, rfl⟩
              rw [hLf]
              have hpk := pkv_bd ct (n := (L : Int) + 1) (by omega)
              have hcap := HNBm.out.capOk
              have hcmx : cB ≤ 9223372036854775807 := by have := HNBm.out.maxOk; unfold maxLen at this; omega
              clear hLm hLf
              go_wp2_with fail
              refine (pickv_any ct ((L : Int) + 1) (by omega) (by omega) _).mono ?_
              rintro x w8 ⟨rfl, rfl⟩
              generalize pkv ct ((L : Int) + 1) = kk at hpk ⊢
              obtain ⟨kN, rfl⟩ : ∃ kN : Nat, kk = kN := ⟨kk.toNat, by omega⟩
              have hk1 : kN ≤ L := by omega
              have hk2 : kN ≤ cB := by omega
              have HKL := Lib.hid hk1
              have HSH := Lib.hid (sl_head HNBm.out hk1)
              clear hpk
              go_wp2_with fail
              refine (rover_any aB kN cB (sub F 0 kN) (by omega) _ HSH.out).mono ?_
              rintro x w9 ⟨p3, s3, a9, c9, rfl, hR, hB9⟩
              have HB9 := Lib.hid (HBk.out.trans (hB9.mono HBk.out.size))
              have hzk := HBk.out.size
              have HR9 := Lib.hid (show Rr w9 w.heap.size p3 s3 a9 c9 ⟨kN, sub F 0 kN, 0⟩ from ⟨hR.box, hR.stk, Nat.le_trans hzk hR.hp, Nat.le_trans hzk hR.hs, fun ad e => ⟨Nat.le_trans hzk (hR.ha ad e).1, (hR.ha ad e).2⟩⟩)
              have HC0 := Lib.hid (show Cutt ⟨kN, sub F 0 kN, 0⟩ kN (Pn 0) L from ⟨⟨sub_by HFB.out _ _, sub_up _ _ _⟩, Or.inl ⟨rfl, by rw [HP0.out]; rfl⟩⟩)
              clear hR hB9 HSH HNBm HRm
              go_wp2_with fail
              go_loopw [13] (fun iv wr => ∃ (j : Nat) (a1 : Option Addr) (c1 : Nat) (S : Bs), j ≤ m ∧ iv = .int .i64 (j : Nat) ∧ Rr wr w.heap.size p3 s3 a1 c1 S ∧ Cutt S kN (Pn j) L ∧ Below w.heap.size w wr) (fun i _ => m - (intOf i).toNat)
              case atStart => exact ⟨0, a9, c9, _, by omega, rfl, HR9.out, HC0.out, HB9.out⟩
              case round =>
                rename_i wr
                obtain ⟨j, a1, c1, S, hj, rfl, hR, hC, hB⟩ := hrel
                have HRj := Lib.hid hR; have HCj := Lib.hid hC; have HBj := Lib.hid hB
                have hSl : S.l ≤ 900000000 := by
                  rcases hC.2 with ⟨_, h⟩ | ⟨_, h, _⟩ <;> omega
                clear hR hC hB HR9 HC0 HB9
                by_cases hlt : j < m
                · have i1 : (j : Int) < (m : Int) := by omega
                  obtain ⟨b, o, ea, c0, c1', c2, c3⟩ := (HA.out.same HBj.out).cell j hlt
                  have EA := Lib.hid ea
                  subst ea
                  go_wp2_with fail
                  refine (pickv_any (wh j) 2 (by omega) (by omega) _).mono ?_
                  rintro x wd ⟨rfl, rfl⟩
                  by_cases hp : pkv (wh j) 2 = 0
                  · obtain ⟨zN, hz, hz1, hz4, hPj, hPL, _⟩ := HSN.out j hlt hp
                    rw [hp]
                    have HCn := Lib.hid (show Cutt (S.rnum (zz j)) kN (Pn (j + 1)) L by rw [hz, hPj]; exact HCj.out.num hPL hz1 hz4)
                    clear hp hz hPj hPL
                    go_wp2_with fail
                    refine (rnum_any w.heap.size p3 s3 a1 c1 S (zz j) HCj.out.1 hSl _ HRj.out).mono ?_
                    rintro x w5 ⟨rfl, hred⟩
                    have HB5 := Lib.hid (HBj.out.trans (red_below HRj.out HBj.out.size hred))
                    obtain ⟨⟨a5, c5, hR5, _⟩, _⟩ := hred
                    have HR5 := Lib.hid hR5
                    clear hR5 c0 c1' c2 c3
                    go_wp2
                    go_roundw
                    case rel => exact ⟨j + 1, a5, c5, _, by omega, by go_num, HR5.out, HCn.out, HB5.out⟩
                    case measure => simp [intOf]; omega
                  · obtain ⟨hPj, hPL, _⟩ := HST.out j hlt hp
                    have hpb := pkv_bd (wh j) (n := 2) (by omega)
                    have hp1 : pkv (wh j) 2 = 1 := by omega
                    rw [hp1]
                    have HCn := Lib.hid (show Cutt (S.take (il j : Nat)) kN (Pn (j + 1)) L by rw [hPj]; exact HCj.out.take hPL)
                    clear hp hPj hPL hpb hp1
                    go_wp2_with fail
                    refine (rtake_any w.heap.size p3 s3 a1 c1 S (il j : Nat) HCj.out.1 hSl _ HRj.out).mono ?_
                    rintro x w5 ⟨aA, cA, rfl, _, hred⟩
                    have HB5 := Lib.hid (HBj.out.trans (red_below HRj.out HBj.out.size hred))
                    obtain ⟨⟨a5, c5, hR5, _⟩, _⟩ := hred
                    have HR5 := Lib.hid hR5
                    clear hR5 c0 c1' c2 c3
                    go_wp2
                    go_roundw
                    case rel => exact ⟨j + 1, a5, c5, _, by omega, by go_num, HR5.out, HCn.out, HB5.out⟩
                    case measure => simp [intOf]; omega
                · obtain rfl : m = j := by omega
                  have i1 : ¬ (m : Int) < (m : Int) := by omega
                  have hC := HCj.out.2
                  rw [HPM.out] at hC
                  go_wp2_with fail
                  refine (rend_any w.heap.size p3 s3 a1 c1 S _ HRj.out).mono ?_
                  rintro x w5 ⟨rfl, rfl⟩
                  rcases hC with ⟨h0, hl⟩ | ⟨h4, _, hl⟩
                  · have hf : S.fin = 0 := by unfold Bs.fin; rw [if_neg (by simp [h0]), if_neg (by omega)]
                    obtain rfl : L = kN := by have := HKL.out; omega
                    rw [hf]
                    go_wp2
                    go_ret
                    exact ⟨by simp, HBj.out⟩
                  · have hf : S.fin = 4 := by unfold Bs.fin; rw [if_pos (by omega)]; exact h4
                    have hkl : ((kN : Int) == (L : Int)) = false := by simp; omega
                    rw [hf]
                    go_wp2
                    go_ret
                    exact ⟨by simp, HBj.out⟩
        · have he2 : (Wn wh nn zz il fb m).e = 2 := (Wn_e m).resolve_left he
          have hm0 : (Wn wh nn zz il fb m).m = 0 := if_neg he
          rw [he2, hm0]
          clear he he2 hm0
          go_wp2
          go_ret
          exact ⟨rfl, HB6.out⟩
  · have j0 : (2000 : Int) < (M : Int) := by omega
    go_wp2
    go_ret
    exact ⟨rfl, HB1.out⟩
end Go.Proofs.Ytdjigbjheicfcaa
