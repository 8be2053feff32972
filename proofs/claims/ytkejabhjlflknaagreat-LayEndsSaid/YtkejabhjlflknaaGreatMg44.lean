import Derived.Deep.RegionLaw
import Derived.Test.YtkejabhjlflknaaGreatMg21
import Derived.Test.YtkejabhjlflknaaGreatMg23
import Derived.Test.YtkejabhjlflknaaGreatMg25
import Derived.Test.YtkejabhjlflknaaGreatMg26
import Derived.Test.YtkejabhjlflknaaGreatMg38
namespace Go.Proofs.YtkejabhjlflknaaGreat
open Go.RowKit Go.Shelf

/-- the points of the first K indexes, and no more. -/
def ptk (h : Nat → Int) (K i : Nat) : Nat := if i < K then pts h i else 0
theorem ptk_by (h : Nat → Int) (K : Nat) : Pf.By (ptk h K) := fun i => by
  unfold ptk; split
  · exact pts_by h i
  · omega
theorem ptk_up (h : Nat → Int) (K : Nat) : Pf.Up (ptk h K) K := fun i hi => by unfold ptk; rw [if_neg (by omega)]
theorem ptk_pts (h : Nat → Int) (K : Nat) : ∀ j, j < K → ptk h K j = pts h j := fun j hj => by unfold ptk; rw [if_pos hj]
theorem ptk_dst {h : Nat → Int} {m N K : Nat} (hr : InR h m N) (hd : DsI h m) (hN : N ≤ 255) (hK : K ≤ m) : Pf.Dst (ptk h K) K := fun i j hij hj => by
  rw [ptk_pts h K i (by omega), ptk_pts h K j hj]; exact pts_dst hr hd hN hK i j hij hj
/-- the first t rows. -/
def trk5 (h : Nat → Int) (K t i j : Nat) : Nat := if i < t then Pf.lw (pts h) K (i % 256) j else 0
theorem trk5_bm (h : Nat → Int) (K t : Nat) : Mt.Bm (trk5 h K t) := fun i j => by
  unfold trk5; split
  · exact Pf.lw_by (pts_by h) K (Nat.mod_lt _ (by omega)) j
  · omega
/-- what is told of indexes: an error, or the matrix. -/
def TurnR (h : Nat → Int) (m N K : Nat) (w : World) (e : Ending) (w' : World) : Prop :=
  (∃ E : Int, E ≠ 0 ∧ Chk h m N K E ∧ ErrL w E e w') ∨ (Chk h m N K 0 ∧ LstR w K K (trn h K) e w')

theorem own_other {w w' : World} {B B' s s' n k g c cap' : Nat} {e e' : TypeId} {v : Value} {a : Option Addr} {xs ys : List Value} (ho : w.ownsRow B e s v n xs) (h2 : w.ownsRow B' e' s' (.slice a k c) k ys) (ht : e ≠ e') (hc : a = some ⟨g, 0, none⟩ ∧ cap' = c ∧ w.grownBy w' (some g) ∨ w.heap.size ≤ g ∧ w.grownBy w' none) : w'.ownsRow B e s v n xs := by
  rcases hc with ⟨rfl, _, hg⟩ | ⟨_, hg⟩
  · exact ho.kept hg (own_ty ho h2 ht)
  · exact ho.kept hg (by cases v.ownBlock <;> simp)
/-- numbers, put into a list. -/
def inh (h : Nat → Int) (t : Nat) : List Value := (List.range t).map fun i => .int .i64 (h i)
theorem inh_s (h : Nat → Int) (t : Nat) : inh h (t + 1) = inh h t ++ [.int .i64 (h t)] := by
  unfold inh; rw [List.range_succ, List.map_append]; rfl
theorem inh_si {w : World} {B t ic : Nat} {h : Nat → Int} {ia : Option Addr} (ho : w.ownsRow B 3 1 (.slice ia t ic) t (inh h t)) : Si w ia t h := ⟨fun i hi => by
  obtain ⟨_, ⟨e, h0⟩ | ⟨g, cap', cur, e, hg, hh, hnc, hcm, hs, ht⟩⟩ := ho
  · omega
  · simp only [Value.slice.injEq, true_and] at e
    obtain ⟨rfl, rfl⟩ := e
    refine ⟨g, 0, rfl, ?_⟩
    rw [Nat.zero_add, cell_of_row w g i cur _ _ hh]
    have : (cur.toList.take (t * 1))[i]? = some (.int .i64 (h i)) := by rw [ht]; simp [inh, hi]
    rw [List.getElem?_take, if_pos (by omega), Array.getElem?_toList] at this
    exact this⟩
/-- are the first k as long as the first? -/
def evb (l : Nat → Nat) : Nat → Bool
  | 0 => true
  | k + 1 => evb l k && decide (l k = l 0)
theorem evb_iff {l : Nat → Nat} : ∀ k, evb l k = true ↔ ∀ i, i < k → l i = l 0
  | 0 => ⟨fun _ i hi => absurd hi (Nat.not_lt_zero i), fun _ => rfl⟩
  | k + 1 => by
    unfold evb
    rw [Bool.and_eq_true, evb_iff k]
    refine ⟨fun h i hi => ?_, fun h => ⟨fun i hi => h i (by omega), decide_eq_true (h k (by omega))⟩⟩
    by_cases e : i = k
    · rw [e]; exact of_decide_eq_true h.2
    · exact h.1 i (by omega)
def DecR (h : Nat → Int) (l : Nat → Nat) (f : Nat → Nat → Nat) (m N K : Nat) (w : World) (e : Ending) (w' : World) : Prop :=
  (∃ E : Int, E ≠ 0 ∧ DChk h l m N K E ∧ ErrL w E e w') ∨ (DChk h l m N K 0 ∧ LstR w K (l 0) (dcd h K f) e w')
theorem Tryz.infoInt2 : (Tryz.prog.info? 3).map (fun i => (i.zero, i.size, i.bytes)) = some (some (.int .i64 0), 1, 8) := by kernel_rfl

set_option maxHeartbeats 8000000 in
set_option maxRecDepth 100000 in
theorem rdecode_any (rb N K : Nat) (a : Option Addr) (m cap : Nat) (h : Nat → Int) (r : Nat → Option Addr) (l c : Nat → Nat) (f : Nat → Nat → Nat) (hK1 : 1 ≤ K) (hKN : K ≤ N) (hN : N ≤ 255) (hm : m ≤ 1000000) (hl : ∀ i, i < m → l i ≤ 1000000) (w : World) (hC : Rcd w rb N K) (hH : Hs w a m h r l c f) :
    Calls Tryz.prog 46 #[.pointer (some ⟨rb, 0, none⟩), .slice a m cap] w (DecR h l f m N K w) := by
  obtain ⟨i0, hi, hz0, hz1, hz2⟩ := info_parts Tryz.infoU8
  have HI := Lib.hid hi; have HZ0 := Lib.hid hz0; have HZ1 := Lib.hid hz1; have HZ2 := Lib.hid hz2
  obtain ⟨i2, hi2, hz02, hz12, hz22⟩ := info_parts Tryz.infoRow
  have HI2 := Lib.hid hi2; have HZ02 := Lib.hid hz02; have HZ12 := Lib.hid hz12; have HZ22 := Lib.hid hz22
  obtain ⟨i3, hi3, hz03, hz13, hz23⟩ := info_parts Tryz.infoInt2
  have HI3 := Lib.hid hi3; have HZ03 := Lib.hid hz03; have HZ13 := Lib.hid hz13; have HZ23 := Lib.hid hz23
  clear hi hz0 hz1 hz2 hi2 hz02 hz12 hz22 hi3 hz03 hz13 hz23
  have HC := Lib.hid hC; have HH := Lib.hid hH; have HL := Lib.hid hl; clear hC hH hl
  go_enter Tryz.func46, Tryz.ntmps46
  go_wp2_with fail
  go_loopw [6, 7] (fun o i wr => ∃ (k : Nat) (ia : Option Addr) (ic : Nat) (W : World), W = wr ∧ k ≤ m ∧ i = .int .i64 k ∧ o = .slice ia k ic ∧ wr.ownsRow w.heap.size 3 1 (.slice ia k ic) k (inh h k) ∧ Below w.heap.size w wr) (fun _ i _ => m - (intOf i).toNat)
  case atStart => exact ⟨0, none, 0, _, rfl, by omega, rfl, rfl, World.ownsRow_nil _ _ _ _, Below.refl _ _⟩
  case round =>
    obtain ⟨k, ia, ic, wx, rfl, hk, rfl, rfl, hO, hB⟩ := hrel
    have HO := Lib.hid hO; have HB := Lib.hid hB
    have hsz := hB.size
    clear hO hB
    by_cases hkm : k < m
    · have i1 : (k : Int) < (m : Int) := by omega
      obtain ⟨ab, ao, ea, c1, _⟩ := (HH.out.same HB.out).cell k hkm
      have EA := Lib.hid (show a = some ⟨ab, ao, none⟩ from ea)
      subst ea
      have HOW := Lib.hid (own_below HO.out ((Below.refl _ wx).alloc (Nat.le_refl _) (.cells #[.int .i64 (h k)] 3)))
      have hbb : w.heap.size ≤ (wx.alloc (.cells #[.int .i64 (h k)] 3)).heap.size := by rw [World.size_alloc]; omega
      go_wp2_with (at_builtin; refine wpList_append_bag _ rfl _ _ 23 rfl w.heap.size 3 i3 (.int .i64 0) 8 Tryz.underlying23 HI3.out HZ03.out HZ13.out HZ23.out rfl ia k ic _ rfl HOW.out _ 1 1 [.int .i64 (h k)] rfl rfl (cell_new1 _ _ _) (one_single _ _) (by decide) (by unfold maxLen; omega) (by omega) hbb ?_; intro g6 c6 w6 hown6 hc6 hlt6; have hb6 := bag_below (B := w.heap.size) hc6 ((hown6.lt g6 rfl).1) hbb; have HB6 := Lib.hid (HB.out.trans (((Below.refl w.heap.size wx).alloc hsz _).trans hb6)); have HOWN6 := Lib.hid hown6; clear hb6 hown6 hc6 hlt6)
      have ho := HOWN6.out
      rw [← inh_s] at ho
      have HO6 := Lib.hid ho
      clear ho c1
      go_wp2
      go_roundw
      case rel => exact ⟨k + 1, _, c6, _, rfl, by omega, by go_num, rfl, HO6.out, HB6.out⟩
      case measure => simp [intOf]; omega
    · obtain rfl : k = m := by omega
      have HSI := Lib.hid (inh_si HO.out)
      have HCx := Lib.hid (HC.out.same HB.out)
      go_wp2_with fail
      refine (rasked_any rb N K ia k ic h (by omega) _ HCx.out HSI.out).mono ?_
      rintro e w1 ⟨⟨E, rfl, hE⟩, q, hq⟩
      have hB1 := quiet_b hq
      have HE := Lib.hid hE; have HB1 := Lib.hid (HB.out.trans (hB1.mono hsz)); have HC1 := Lib.hid (HCx.out.same hB1); have HH1 := Lib.hid (HH.out.same HB1.out)
      clear hE hq hB1
      go_wp2_with fail
      go_loopw [8, 9] (fun s i wr => ∃ (t : Nat) (W : World), W = wr ∧ t ≤ k ∧ i = .int .i64 t ∧ s = .int .i64 (if evb l t then E else 2) ∧ ∃ q, wr = w1.drewN q) (fun _ i _ => k - (intOf i).toNat)
      case atStart => exact ⟨0, _, rfl, by omega, rfl, rfl, 0, rfl⟩
      case round =>
        obtain ⟨t, wy, rfl, ht, rfl, rfl, q2, hq2⟩ := hrel
        have HQ2 := Lib.hid hq2
        have hB2 := quiet_b hq2
        by_cases htk : t < k
        · have i2' : (t : Int) < (k : Int) := by omega
          have i3' : (0 : Int) < (k : Int) := by omega
          obtain ⟨ab, ao, ea, _, c2⟩ := (HH1.out.same hB2).cell t htk
          obtain ⟨ab', ao', ea', _, c3⟩ := (HH1.out.same hB2).cell 0 (by omega)
          have EA := Lib.hid (show a = some ⟨ab, ao, none⟩ from ea)
          rw [ea] at ea'
          cases ea'
          simp only [Nat.zero_mul, Nat.add_zero] at c3
          subst ea
          clear hq2 hB2
          have hes : evb l (t + 1) = (evb l t && decide (l t = l 0)) := rfl
          have HES := Lib.hid hes; clear hes
          obtain ⟨E2, hE2⟩ : ∃ E2, E2 = (if evb l t then E else 2) := ⟨_, rfl⟩
          rw [← hE2]
          have HE2 := Lib.hid hE2; clear hE2
          by_cases hle : l t = l 0
          · have g1 : (((l t : Nat) : Int) != ((l 0 : Nat) : Int)) = false := ne_no hle
            have HEV := Lib.hid (show (if evb l (t + 1) then E else 2) = E2 by rw [HES.out, HE2.out]; simp [hle])
            clear hle
            go_wp2_with fail
            go_quiet (fail)
            go_wp2
            go_roundw
            case rel => exact ⟨t + 1, _, rfl, by omega, by go_num, by rw [HEV.out], _, by rw [HQ2.out, World.drewN_drewN]⟩
            case measure => simp [intOf]; omega
          · have g1 : (((l t : Nat) : Int) != ((l 0 : Nat) : Int)) = true := ne_yes hle
            have HEV := Lib.hid (show (if evb l (t + 1) then E else 2) = 2 by rw [HES.out]; simp [hle])
            clear hle
            go_wp2_with fail
            go_quiet (fail)
            go_wp2
            go_roundw
            case rel => exact ⟨t + 1, _, rfl, by omega, by go_num, by rw [HEV.out], _, by rw [HQ2.out, World.drewN_drewN]⟩
            case measure => simp [intOf]; omega
        · obtain rfl : t = k := by omega
          obtain ⟨E2, hE2⟩ : ∃ E2, E2 = (if evb l t then E else 2) := ⟨_, rfl⟩
          rw [← hE2]
          have hDK : DChk h l t N K E2 := by
            rw [hE2]
            cases hev : evb l t
            · exact Or.inl ⟨fun hh => Bool.false_ne_true (hev.symm.trans ((evb_iff t).2 hh)), rfl⟩
            · exact Or.inr ⟨(evb_iff t).1 hev, HE.out⟩
          have HDK := Lib.hid hDK
          have HB2 := Lib.hid (HB1.out.trans (hB2.mono HB1.out.size)); have HC2 := Lib.hid (HC1.out.same hB2); have HH2 := Lib.hid (HH1.out.same hB2)
          have hs2 := HB2.out.size
          clear hq2 hB2 hE2
          by_cases hz : E2 = 0
          · subst hz
            obtain ⟨hev, hin, hds, hKm⟩ := dchk_ok hDK
            have HEV := Lib.hid hev; have HIN := Lib.hid hin
            have HPD := Lib.hid (ptk_dst hin hds hN hKm)
            clear hDK hev hin hds
            go_wp2_with fail
            go_loopw [10, 11, 12] (fun v1 v2 i wr => ∃ (k : Nat) (pa : Option Addr) (pc : Nat) (sa : Option Addr) (sc : Nat) (W : World), W = wr ∧ k ≤ K ∧ i = .int .i64 k ∧ v1 = .slice pa k pc ∧ v2 = .slice sa k sc ∧ Rq wr wy.heap.size pa k pc (ptk h K) ∧ wr.ownsRow wy.heap.size 50 1 (.slice sa k sc) k (rls r l c k) ∧ Below wy.heap.size wy wr) (fun _ _ i _ => K - (intOf i).toNat)
            case atStart => exact ⟨0, none, 0, none, 0, _, rfl, by omega, rfl, rfl, rfl, Or.inl ⟨rfl, rfl, rfl⟩, World.ownsRow_nil _ _ _ _, Below.refl _ _⟩
            case round =>
              obtain ⟨k, pa, pc, sa, sc, wz, rfl, hk, rfl, rfl, rfl, hR, hO2, hB3⟩ := hrel
              have HR := Lib.hid hR; have HO2 := Lib.hid hO2; have HB3 := Lib.hid hB3
              have hs3 := hB3.size
              have z1 := (HC2.out.same hB3).c1
              clear hR hO2 hB3
              by_cases hkK : k < K
              · have j1 : (k : Int) < (K : Int) := by omega
                have j2 : (k : Int) < (t : Int) := by omega
                obtain ⟨ab, ao, ea, c1, _⟩ := (HH2.out.same HB3.out).cell k (by omega)
                have EA := Lib.hid (show a = some ⟨ab, ao, none⟩ from ea)
                have hin := HIN.out k (by omega)
                obtain ⟨z, hz⟩ : ∃ z : Nat, h k = (z : Nat) := ⟨(h k).toNat, by omega⟩
                have hcv : IntKind.u8.wrap (z : Int) = (z : Int) := IntWalk.u8_in _ (by omega)
                have HPT := Lib.hid (show ptk h K k = z by rw [ptk_pts h K k hkK]; unfold pts; omega)
                rw [hz] at c1
                subst ea
                have hal := (Below.refl wz.heap.size wz).alloc (Nat.le_refl _) (.cells #[.int .u8 (z : Nat)] 5)
                have HRO := Lib.hid (HR.out.same hal).owns
                have HOO := Lib.hid (own_below HO2.out hal)
                have HAL := Lib.hid hal
                have hbb : wy.heap.size ≤ (wz.alloc (.cells #[.int .u8 (z : Nat)] 5)).heap.size := by rw [World.size_alloc]; omega
                clear hin hz hal
                go_wp2_with (first
                  | (at_builtin; refine wpList_append_bag _ rfl _ _ 50 rfl wy.heap.size 5 i0 (.int .u8 0) 1 Tryz.underlying50 HI.out HZ0.out HZ1.out HZ2.out rfl pa k pc _ rfl HRO.out _ 1 1 [.int .u8 (z : Nat)] rfl rfl (cell_new1 _ _ _) (one_single _ _) (by decide) (by unfold maxLen; omega) (by omega) hbb ?_; intro g6 c6 w6 hown6 hc6 hlt6; have hoo6 := own_other HOO.out HRO.out (by decide) hc6; have hb6 := (Below.refl wy.heap.size wz).alloc hs3 (.cells #[.int .u8 (z : Nat)] 5) |>.trans (bag_below hc6 (hown6.lt g6 rfl).1 hbb); have hb7 := HB3.out.trans hb6; obtain ⟨ab', ao', ea', _, c2⟩ := (HH2.out.same hb7).cell k (by omega); cases ea'; have HOWN6 := Lib.hid hown6; have HB6 := Lib.hid hb7; have hs6 := hb7.size; have HOA := Lib.hid (own_below hoo6 ((Below.refl w6.heap.size w6).alloc (Nat.le_refl _) (.cells #[.slice (r k) (l k) (c k)] 50))); have HRA := Lib.hid (own_below hown6 ((Below.refl w6.heap.size w6).alloc (Nat.le_refl _) (.cells #[.slice (r k) (l k) (c k)] 50))); have hbc : wy.heap.size ≤ (w6.alloc (.cells #[.slice (r k) (l k) (c k)] 50)).heap.size := (by rw [World.size_alloc]; omega); clear hown6 hc6 hlt6 hoo6 hb6 hb7)
                  | (at_builtin; refine wpList_append_bag _ rfl _ _ 22 rfl wy.heap.size 50 i2 (.slice none 0 0) 24 Tryz.underlying22 HI2.out HZ02.out HZ12.out HZ22.out rfl sa k sc _ rfl HOA.out _ 1 1 [.slice (r k) (l k) (c k)] rfl rfl (cell_new1 _ _ _) (by intro u hu; rcases List.mem_singleton.1 hu with rfl; rfl) (by decide) (by unfold maxLen; omega) (by omega) hbc ?_; intro g9 c9 w9 hown9 hc9 hlt9; have hr9 := own_other HRA.out HOA.out (by decide) hc9; have hb9 := HB6.out.trans ((Below.refl wy.heap.size w6).alloc hs6 (.cells #[.slice (r k) (l k) (c k)] 50) |>.trans (bag_below hc9 (hown9.lt g9 rfl).1 hbc)); have HOWN9 := Lib.hid hown9; have HRO9 := Lib.hid hr9; have HB9 := Lib.hid hb9; clear hown9 hc9 hlt9 hr9 hb9))
                have ho := HOWN9.out
                have hrr := HRO9.out
                rw [show [Value.int .u8 ((z : Nat) : Int)] = [Value.int .u8 ((ptk h K k : Nat) : Int)] by rw [HPT.out], ← rowv_succ] at hrr
                rw [← rls_s] at ho
                have HR9 := Lib.hid (Rq.of_owns hrr); have HO9 := Lib.hid ho
                clear ho hrr HOWN9 HRO9 c1 c2 z1
                go_wp2
                go_roundw
                case rel => exact ⟨k + 1, _, c6, _, c9, _, rfl, by omega, by go_num, rfl, rfl, HR9.out, HO9.out, HB9.out⟩
                case measure => simp [intOf]; omega
              · obtain rfl : k = K := by omega
                have HP := Lib.hid (HR.out.nw (ptk_by h k) (ptk_up h k)).sl
                have HBW := Lib.hid (HB2.out.trans (HB3.out.mono hs2))
                have HLr := Lib.hid (rls_rd HO2.out HH.out.bm (fun i hi => (HH.out.same HBW.out).row i (by omega)))
                have hsw := HBW.out.size
                go_wp2_with fail
                refine (rpoints_any k (by omega) _).mono ?_
                rintro e w7 ⟨qa, qc, rfl, hp, hB7⟩
                have HP7 := Lib.hid (HP.out.same hB7); have HL7 := Lib.hid (HLr.out.same hB7); have HQ7 := Lib.hid hp.sl; have HB7 := Lib.hid (HBW.out.trans (hB7.mono hsw))
                clear hp hB7 z1
                go_wp2_with fail
                refine (rmoved_any _ _ _ k _ k _ k _ (l 0) r l c f (ptk h k) (idk k) (by omega) HPD.out (Nat.le_refl _) hK1 (by omega) (by omega) hK1 (HL.out 0 (by omega)) (fun i hi => HEV.out i (by omega)) _ HP7.out HL7.out HQ7.out).mono ?_
                rintro e w8 ⟨G8, sc8, b8, rfl, hG8, hB8⟩
                have HG8 := Lib.hid (hG8.mono HB7.out.size); have HB8 := Lib.hid (HB7.out.trans (hB8.mono HB7.out.size))
                clear hG8 hB8
                go_wp2
                go_ret2
                exact Or.inr ⟨HDK.out, G8, sc8, b8, _, rfl, HG8.out.congr (dcd_bm h (by omega) HH.out.bm) (fun i j hi => by
                  unfold dcd
                  rw [if_pos hi, Pf.mv_points (ptk_pts h k)]
                  unfold idk
                  rw [if_pos hi]), HB8.out⟩
          · have g1 : (E2 != 0) = true := by simp [hz]
            have HZ := Lib.hid hz
            clear hDK hz
            go_wp2
            go_ret2
            exact Or.inl ⟨E2, HZ.out, HDK.out, rfl, HB2.out⟩
end Go.Proofs.YtkejabhjlflknaaGreat

namespace Go.Proofs.YtkejabhjlflknaaGreat
open Go.RowKit Go.Shelf

/-- what both answer: a list of rows, and an error. -/
def Ou (h wi : Nat) (F : Nat → Nat → Nat) (E : Int) (w : World) (e : Ending) (w' : World) : Prop := ∃ a cap b c, e = .returned (.tuple #[.slice a h cap, .int .i64 E]) ∧ Go_ w' w.heap.size a h cap b (fun _ => wi) c F ∧ Below w.heap.size w w'
theorem Lst.ou {w w' : World} {m wi : Nat} {F : Nat → Nat → Nat} {e : Ending} (h : Lst w m wi F e w') : Ou m wi F 0 w e w' := by
  obtain ⟨G, b, h1, h2, h3⟩ := h
  exact ⟨_, _, b, _, h1, h2.go, h3⟩
theorem LstR.ou {w w' : World} {m wi : Nat} {F : Nat → Nat → Nat} {e : Ending} (h : LstR w m wi F e w') : Ou m wi F 0 w e w' := by
  obtain ⟨G, sc, b, c, h1, h2, h3⟩ := h
  exact ⟨_, _, b, c, h1, h2.go, h3⟩
theorem ErrL.ou {w w' : World} {E : Int} {e : Ending} (h : ErrL w E e w') : Ou 0 0 (fun _ _ => 0) E w e w' := ⟨none, 0, fun _ => 0, fun _ => 0, h.1, go_none _ _ _ _ _, h.2⟩
/-- a row, and an error. -/
def RwE (len : Nat) (F : Nat → Nat) (E : Int) (w : World) (e : Ending) (w' : World) : Prop := ∃ a c, e = .returned (.tuple #[.slice a len c, .int .i64 E]) ∧ Nw w' w.heap.size a len c F ∧ Below w.heap.size w w'

theorem enc_both (n N K : Nat) (l : Nat → Nat) (f : Nat → Nat → Nat) (B : Nat) (hN : N ≤ 255) (hl : ∀ i, i < n → l i ≤ B) (hK : 1 ≤ K) : ∃ h wi F E, h ≤ 255 ∧ wi ≤ B ∧ (∀ w e w', EncSays n N K l f w e w' → Ou h wi F E w e w') ∧ (∀ w e w', EncR n N K l f w e w' → Ou h wi F E w e w') := by
  by_cases hs : IsS n K l
  · refine ⟨N, l 0, enc K f, 0, hN, hl 0 (by rw [hs.1]; exact hK), fun w e w' h => ?_, fun w e w' h => ?_⟩
    · rcases h with ⟨h, _⟩ | ⟨_, h⟩
      · exact absurd hs h
      · exact h.ou
    · rcases h with ⟨h, _⟩ | ⟨_, h⟩
      · exact absurd hs h
      · exact h.ou
  · refine ⟨0, 0, fun _ _ => 0, 2, by omega, Nat.zero_le _, fun w e w' h => ?_, fun w e w' h => ?_⟩
    · rcases h with ⟨_, h⟩ | ⟨h, _⟩
      · exact h.ou
      · exact absurd h hs
    · rcases h with ⟨_, h⟩ | ⟨h, _⟩
      · exact h.ou
      · exact absurd h hs
theorem sym_both (n N K : Nat) (x : Int) (l : Nat → Nat) (f : Nat → Nat → Nat) (B : Nat) (hB : B ≤ 1000000) (hl : ∀ i, i < n → l i ≤ B) (hK : 1 ≤ K) (hf : Mt.Bm f) (hu : ∀ i, i < n → Pf.Up (f i) (l i)) : ∃ len F E, len ≤ B ∧ (∀ w e w', SymSays n N K x l f w e w' → RwE len F E w e w') := by
  by_cases hs : IsS n K l ∧ 0 ≤ x ∧ x < N
  · have hl0 := hl 0 (by rw [hs.1.1]; exact hK)
    refine ⟨l 0, enc K f x.toNat, 0, hl0, fun w e w' h => ?_⟩
    rcases h with ⟨h, _⟩ | ⟨_, _, _, g, rfl, hg, hb, hB2⟩
    · exact absurd hs h
    · refine ⟨_, _, rfl, ⟨hb.sl (Nat.le_refl _) (by unfold maxLen; omega) (enc_bm hf _) (Pf.mv_up (fun p hp => ?_) _), hb.ow hg⟩, hB2⟩
      have hp' : p < n := by rw [hs.1.1]; exact hp
      have := hu p hp'
      rwa [hs.1.2 p hp'] at this
  · refine ⟨0, fun _ => 0, 2, Nat.zero_le _, fun w e w' h => ?_⟩
    rcases h with ⟨_, h1, h2⟩ | ⟨h1, h2, h3, _⟩
    · exact ⟨none, 0, h1, Nw.nil _ _ fun _ => rfl, h2⟩
    · exact absurd ⟨h1, h2, h3⟩ hs
theorem chk_has (h : Nat → Int) (m N K : Nat) : ∃ E, Chk h m N K E := by
  by_cases h1 : InR h m N
  · by_cases h2 : DsI h m
    · by_cases h3 : m < K
      · exact ⟨8, Or.inr (Or.inr (Or.inl ⟨h1, h2, h3, rfl⟩))⟩
      · exact ⟨0, Or.inr (Or.inr (Or.inr ⟨h1, h2, by omega, rfl⟩))⟩
    · exact ⟨9, Or.inr (Or.inl ⟨h1, h2, rfl⟩)⟩
  · exact ⟨2, Or.inl ⟨h1, rfl⟩⟩
theorem dchk_has (h : Nat → Int) (l : Nat → Nat) (m N K : Nat) : ∃ E, DChk h l m N K E := by
  by_cases h1 : ∀ i, i < m → l i = l 0
  · obtain ⟨E, hE⟩ := chk_has h m N K
    exact ⟨E, Or.inr ⟨h1, hE⟩⟩
  · exact ⟨2, Or.inl ⟨h1, rfl⟩⟩
theorem turn_both (h : Nat → Int) (m N K : Nat) (hK : K ≤ 255) : ∃ hh F E, hh ≤ 255 ∧ (∀ w e w', TurnSays h m N K w e w' → Ou hh hh F E w e w') ∧ (∀ w e w', TurnR h m N K w e w' → Ou hh hh F E w e w') := by
  obtain ⟨E, hE⟩ := chk_has h m N K
  by_cases hz : E = 0
  · subst hz
    refine ⟨K, trn h K, 0, hK, fun w e w' q => ?_, fun w e w' q => ?_⟩
    · rcases q with ⟨E2, h1, h2, _⟩ | ⟨_, G, b, h1, h2, h3⟩
      · exact absurd (h2.uniq hE) h1
      · exact ⟨_, _, b, _, h1, h2.go, h3⟩
    · rcases q with ⟨E2, h1, h2, _⟩ | ⟨_, h⟩
      · exact absurd (h2.uniq hE) h1
      · exact h.ou
  · refine ⟨0, fun _ _ => 0, E, by omega, fun w e w' q => ?_, fun w e w' q => ?_⟩
    · rcases q with ⟨E2, h1, h2, h3, h4⟩ | ⟨h1, _⟩
      · obtain rfl := h2.uniq hE
        exact ErrL.ou ⟨h3, h4⟩
      · exact absurd (hE.uniq h1) hz
    · rcases q with ⟨E2, h1, h2, h3⟩ | ⟨h1, _⟩
      · obtain rfl := h2.uniq hE
        exact h3.ou
      · exact absurd (hE.uniq h1) hz
theorem dec_both (h : Nat → Int) (l : Nat → Nat) (f : Nat → Nat → Nat) (m N K B : Nat) (hK : K ≤ 255) (hK1 : 1 ≤ K) (hl : ∀ i, i < m → l i ≤ B) : ∃ hh wi F E, hh ≤ 255 ∧ wi ≤ B ∧ (∀ w e w', DecSays h l f m N K w e w' → Ou hh wi F E w e w') ∧ (∀ w e w', DecR h l f m N K w e w' → Ou hh wi F E w e w') := by
  obtain ⟨E, hE⟩ := dchk_has h l m N K
  by_cases hz : E = 0
  · subst hz
    have hm := (dchk_ok hE).2.2.2
    refine ⟨K, l 0, dcd h K f, 0, hK, hl 0 (by omega), fun w e w' q => ?_, fun w e w' q => ?_⟩
    · rcases q with ⟨E2, h1, h2, _⟩ | ⟨_, h⟩
      · exact absurd (h2.uniq hE) h1
      · exact h.ou
    · rcases q with ⟨E2, h1, h2, _⟩ | ⟨_, h⟩
      · exact absurd (h2.uniq hE) h1
      · exact h.ou
  · refine ⟨0, 0, fun _ _ => 0, E, by omega, Nat.zero_le _, fun w e w' q => ?_, fun w e w' q => ?_⟩
    · rcases q with ⟨E2, h1, h2, h3⟩ | ⟨h1, _⟩
      · obtain rfl := h2.uniq hE
        exact h3.ou
      · exact absurd (hE.uniq h1) hz
    · rcases q with ⟨E2, h1, h2, h3⟩ | ⟨h1, _⟩
      · obtain rfl := h2.uniq hE
        exact h3.ou
      · exact absurd (hE.uniq h1) hz

/-- the k-th of three. -/
def tri {α : Type} (x0 x1 x2 : α) : Nat → α
  | 0 => x0 | 1 => x1 | _ => x2
theorem tri_all {P : Nat → Prop} (h0 : P 0) (h1 : P 1) (h2 : P 2) : ∀ k, k < 3 → P k := fun k hk => by
  rcases (show k = 0 ∨ k = 1 ∨ k = 2 by omega) with rfl | rfl | rfl <;> assumption
theorem tri_two {P : Nat → Nat → Prop} (hs : ∀ i j, P i j → P j i) (h01 : P 0 1) (h02 : P 0 2) (h12 : P 1 2) : ∀ i j, i < 3 → j < 3 → i ≠ j → P i j := fun i j hi hj hne => by
  rcases (show i = 0 ∨ i = 1 ∨ i = 2 by omega) with rfl | rfl | rfl <;> rcases (show j = 0 ∨ j = 1 ∨ j = 2 by omega) with rfl | rfl | rfl <;> first | (exact absurd rfl hne) | assumption | (exact hs _ _ (by assumption))
theorem Go_.gx {w : World} {B n cap : Nat} {a : Option Addr} {b l c : Nat → Nat} {f : Nat → Nat → Nat} (h : Go_ w B a n cap b l c f) : Ar.Gx w B a n cap (fun i => some ⟨b i, 0, none⟩) l c f := by
  rcases h with ⟨hb, ⟨rfl, rfl, rfl⟩ | ⟨G, rfl, h⟩⟩
  · exact ⟨Or.inl ⟨rfl, rfl, rfl⟩, fun i hi => absurd hi (Nat.not_lt_zero i)⟩
  · obtain ⟨vs, h1, h2, h3⟩ := h.blk
    refine ⟨Or.inr ⟨G, vs, rfl, h.lo.1, h1, by have := h.nc.1; omega, h.nc.1, h.nc.2, h3⟩, fun i hi => ?_⟩
    have hr := (h.row i hi).sl (h.lc i hi).1 (h.lc i hi).2 (h.bm i) (h.up i hi)
    exact nw_owns ⟨hr, (h.row i hi).ow (h.lo.2 i hi)⟩
/-- where a matrix of its own lies. -/
theorem Go_.lies2 {w : World} {B n cap : Nat} {a : Option Addr} {b l c : Nat → Nat} {f : Nat → Nat → Nat} (h : Go_ w B a n cap b l c f) : (∀ i, i < n → ∀ g, blk (some (⟨b i, 0, none⟩ : Addr)) = some g → B ≤ g ∧ g < w.heap.size) ∧ ∀ G, a = some ⟨G, 0, none⟩ → B ≤ G ∧ G < w.heap.size := by
  rcases h.2 with ⟨rfl, rfl, _⟩ | ⟨G, rfl, hG⟩
  · exact ⟨fun i hi => absurd hi (Nat.not_lt_zero i), fun _ e => (by cases e)⟩
  · refine ⟨fun i hi g e => ?_, fun G' e => ?_⟩
    · simp only [blk, Option.map_some, Option.some.injEq] at e
      subst e; exact ⟨hG.lo.2 i hi, hG.ltb hi⟩
    · cases e; exact ⟨hG.lo.1, hG.ltG⟩
theorem Go_.inj2 {w : World} {B n cap : Nat} {a : Option Addr} {b l c : Nat → Nat} {f : Nat → Nat → Nat} (h : Go_ w B a n cap b l c f) {i i' g : Nat} (hi : i < n) (hi' : i' < n) (e1 : blk (some (⟨b i, 0, none⟩ : Addr)) = some g) (e2 : blk (some (⟨b i', 0, none⟩ : Addr)) = some g) : i = i' := by
  obtain ⟨G, _, hG⟩ := h.pos (by omega)
  simp only [blk, Option.map_some, Option.some.injEq] at e1 e2
  exact hG.inj i i' hi hi' (e1.trans e2.symm)
/-- a list of one row. -/
theorem Nw.gx {w : World} {B len c : Nat} {a : Option Addr} {F : Nat → Nat} {G : Nat} (h : Nw w B a len c F) (hG : w.heap[G]? = some (.cells #[.slice a len c] 50 (0, 0))) (hB : B ≤ G) : Ar.Gx w B (some ⟨G, 0, none⟩) 1 1 (fun _ => a) (fun _ => len) (fun _ => c) (fun _ => F) :=
  ⟨Or.inr ⟨G, _, rfl, hB, hG, Nat.le_refl _, Nat.le_refl _, by unfold maxLen; omega, fun i hi => by
    obtain rfl : i = 0 := by omega
    rfl⟩, fun _ _ => nw_owns h⟩
/-- three lists whose rows, and which themselves, lie in stretches of their own. -/
theorem apart3 (B L : Nat) (p : Nat → Option Addr) (n cp : Nat → Nat) (r : Nat → Nat → Option Addr) (l c : Nat → Nat → Nat) (f : Nat → Nat → Nat → Nat) (lo hi lo' hi' : Nat → Nat) (w : World)
    (hL : w.heap[L]? = some (.cells #[.slice (p 0) (n 0) (cp 0), .slice (p 1) (n 1) (cp 1), .slice (p 2) (n 2) (cp 2)] 22 (0, 0)))
    (hG : ∀ k, k < 3 → Ar.Gx w B (p k) (n k) (cp k) (r k) (l k) (c k) (f k)) (hin : ∀ k i i', k < 3 → i < n k → i' < n k → ∀ g, blk (r k i) = some g → blk (r k i') = some g → i = i')
    (hr : ∀ k i, k < 3 → i < n k → ∀ g, blk (r k i) = some g → lo k ≤ g ∧ g < hi k) (hp : ∀ k, k < 3 → ∀ G, p k = some ⟨G, 0, none⟩ → lo' k ≤ G ∧ G < hi' k)
    (M : ∀ i j, i < 3 → j < 3 → i ≠ j → hi i ≤ lo j ∨ hi j ≤ lo i) (M' : ∀ i j, i < 3 → j < 3 → i ≠ j → hi' i ≤ lo' j ∨ hi' j ≤ lo' i) (hB : B ≤ w.heap.size) (hn : n 0 + n 1 + n 2 ≤ 3000) (hl : ∀ k i, k < 3 → i < n k → l k i ≤ 1000000) :
    Calls Tryz.prog 15 #[.slice (some ⟨L, 0, none⟩) 3 3] w fun e w' => e = .returned (.bool true) ∧ Below B w w' := by
  refine Ar.apartRows_any B L 3 p n cp r l c f w ⟨_, hL, rfl, fun k hk => ?_⟩ hG (fun k k' i i' hk hk' hi hi' g h1 h2 => ?_) (fun k k' hk hk' hne h0 e => ?_) hB (by show 0 + n 0 + n 1 + n 2 ≤ 3000; omega) hl (by omega)
  · rcases (show k = 0 ∨ k = 1 ∨ k = 2 by omega) with rfl | rfl | rfl <;> rfl
  · by_cases ek : k = k'
    · subst ek
      exact ⟨rfl, hin k i i' hk hi hi' g h1 h2⟩
    · exfalso
      have q1 := hr k i hk hi g h1
      have q2 := hr k' i' hk' hi' g h2
      rcases M k k' hk hk' ek with m | m <;> omega
  · obtain ⟨G, _, e1, _⟩ := (hG k hk).pos h0
    have q1 := hp k hk G e1
    have q2 := hp k' hk' G (e ▸ e1)
    rcases M' k k' hk hk' hne with m | m <;> omega
end Go.Proofs.YtkejabhjlflknaaGreat

namespace Go.Proofs.YtkejabhjlflknaaGreat
open Go.RowKit Go.Shelf

/-- a slice of numbers, as it reads. -/
structure Hi (w : World) (a : Option Addr) (len cap : Nat) (h : Nat → Int) : Prop where
  capOk : len ≤ cap
  maxOk : cap ≤ maxLen
  nil : a = none → len = 0 ∧ cap = 0
  spot : ∀ ad, a = some ad → len ≠ 0 → ad.spot = none
  cell : ∀ ad, a = some ad → ∀ i, i < len → w.cell? ⟨ad.block, ad.off + i, none⟩ = some (.int .i64 (h i))
section
variable {w w' : World} {a : Option Addr} {len cap : Nat} {h : Nat → Int}
theorem Hi.same (s : Hi w a len cap h) (hB : Below w.heap.size w w') : Hi w' a len cap h := ⟨s.capOk, s.maxOk, s.nil, s.spot, fun ad ha i hi => by
  have hc := s.cell ad ha i hi
  rw [hB.cell (World.block_lt_of_cell? _ _ hc)]; exact hc⟩
theorem Hi.si (s : Hi w a len cap h) : Si w a len h := ⟨fun i hi => by
  cases a with
  | none => have := s.nil rfl; omega
  | some ad =>
    have hc := s.cell ad rfl i hi
    obtain ⟨b, off, spot⟩ := ad
    obtain rfl : spot = none := s.spot _ rfl (by omega)
    exact ⟨b, off, rfl, hc⟩⟩
theorem Hi.news (s : Hi w a len cap h) : ∀ ad, a = some ad → ∀ j u, (inh h len)[j]? = some u → w.cell? (ad.add j) = some u := fun ad ha j u hu => by
  have hj : j < len := by
    have := (List.getElem?_eq_some_iff.1 hu).1
    rwa [inh, List.length_map, List.length_range] at this
  have hs := s.spot ad ha (by omega)
  have hc := s.cell ad ha j hj
  obtain ⟨b, off, spot⟩ := ad
  simp only at hs; subst hs
  rw [Addr.add_lit, hc, ← hu]
  simp [inh, hj]
theorem hi_row {zs : List Int}
    (h : (a = none ∧ len = 0 ∧ cap = 0 ∧ zs = []) ∨
      ∃ x, a = some x ∧ len ≤ cap ∧ cap ≤ maxLen ∧ zs.length = cap ∧ (∀ i, i < zs.length → w.cell? (x.add i) = some (.int .i64 (zs.getD i 0))) ∧ ∀ n ∈ zs, (Lit.int .i64 n).wf = true) : Hi w a len cap (fun i => zs.getD i 0) := by
  rcases h with ⟨rfl, rfl, rfl, rfl⟩ | ⟨x, rfl, hl, hm, hz, hc, hw⟩
  · exact ⟨Nat.le_refl _, by unfold maxLen; omega, fun _ => ⟨rfl, rfl⟩, fun _ e => (by cases e), fun _ e => (by cases e)⟩
  · have hsp : ∀ i, i < zs.length → x.spot = none := fun i hi => by
      have h0 := hc 0 (by omega)
      rw [Addr.add_zero'] at h0
      simpa using World.cell?_spot h0
    refine ⟨hl, hm, fun e => (by cases e), fun ad e hne => ?_, fun ad e i hi => ?_⟩
    · cases e; exact hsp 0 (by omega)
    · cases e
      have hs := hsp 0 (by omega)
      have hci := hc i (by omega)
      obtain ⟨b, off, spot⟩ := x
      simp only at hs; subst hs
      rw [Addr.add_lit] at hci
      exact hci
end
theorem inh_len (h : Nat → Int) (n : Nat) : (inh h n).length = n := by simp [inh]
theorem inh_ones (h : Nat → Int) (n : Nat) : ∀ u ∈ inh h n, u.oneCell' = true := fun u hu => by
  obtain ⟨x, _, rfl⟩ := List.mem_map.1 hu
  rfl
/-- numbers, and so many marks. -/
def mkI (i : Nat) : Int := 8000024 + (i : Int)
def lentI (h : Nat → Int) (n m : Nat) : List Value := inh h n ++ inh mkI m
theorem lentI_s (h : Nat → Int) (n m : Nat) : lentI h n (m + 1) = lentI h n m ++ [.int .i64 (mkI m)] := by unfold lentI; rw [inh_s, List.append_assoc]
theorem lentI_lo {h : Nat → Int} {n m j : Nat} (hj : j < n) : (lentI h n m)[j]? = some (.int .i64 (h j)) := by
  unfold lentI
  rw [List.getElem?_append_left (by rw [inh_len]; exact hj)]
  simp [inh, hj]
theorem lentI_hi {h : Nat → Int} {n m j : Nat} (h1 : n ≤ j) (h2 : j < n + m) : (lentI h n m)[j]? = some (.int .i64 (mkI (j - n))) := by
  unfold lentI
  rw [List.getElem?_append_right (by rw [inh_len]; exact h1), inh_len]
  simp [inh, show j - n < m by omega]
theorem mark1_any (i : Int) (hi0 : 0 ≤ i) (hi : i ≤ 1000000000000) (w : World) :
    Calls Tryz.prog 26 #[.int .i64 1, .int .i64 i] w fun e w' => e = .returned (.int .i64 (8000024 + i)) ∧ w' = w :=
  (mark_any 1 i (by omega) (by omega) hi0 hi w).mono fun e w' ⟨h1, h2⟩ => ⟨by rw [h1]; congr 2, h2⟩

theorem ownsRow_wholeI {w : World} {B n g : Nat} {e : TypeId} {xs : List Value} (h : w.ownsRow B e 1 (.slice (some ⟨g, 0, none⟩) n n) n xs) : Block w g xs e := ownsRow_whole h

set_option maxHeartbeats 1000000 in
set_option maxRecDepth 100000 in
theorem lentInts_any (a : Option Addr) (len cap : Nat) (h : Nat → Int) (w : World) (hh : Hi w a len cap h) (hl : len ≤ 1000000) :
    Calls Tryz.prog 9 #[.slice a len cap] w fun e w' =>
      e = .returned (.slice (some ⟨w.heap.size, 0, none⟩) len (len + 12)) ∧ Block w' w.heap.size (lentI h len 12) 3 ∧ Below w.heap.size w w' := by
  obtain ⟨i0, hi, hz0, hz1, hz2⟩ := info_parts Tryz.infoInt2
  have H := Lib.hid hh; clear hh
  have HI := Lib.hid hi; have HZ0 := Lib.hid hz0; have HZ1 := Lib.hid hz1; have HZ2 := Lib.hid hz2
  clear hi hz0 hz1 hz2
  go_enter Tryz.func9, Tryz.ntmps9
  go_wp2_with (first
    | (at_make; refine wpList_make_own _ rfl _ _ _ rfl w.heap.size 3 i0 (.int .i64 0) 1 Tryz.underlying23 HI.out HZ0.out HZ1.out .i64 .i64 _ (len + 12) rfl rfl (by omega) (by rw [HZ2.out]; omega) (by unfold maxLen; omega) (Nat.le_refl _) ?_; intro w1 hown1 hgrow1; have HO1 := Lib.hid hown1; have HB1 := Lib.hid ((Below.refl w.heap.size w).grown hgrow1 (Nat.le_refl _) (by simp)); clear hown1 hgrow1)
    | (at_builtin; refine wpList_append_fits_any _ rfl _ _ _ rfl w.heap.size 3 i0 1 Tryz.underlying23 HI.out HZ1.out w.heap.size 0 (len + 12) [] rfl HO1.out a len cap (inh h len) rfl (by rw [inh_len, Nat.mul_one]) H.out.nil (H.out.same HB1.out).news (inh_ones h len) (by omega) ?_; intro w2 hown2 hgrow2; rw [Nat.zero_add, List.nil_append] at hown2; have HO2 := Lib.hid hown2; have HB2 := Lib.hid (HB1.out.grown hgrow2 HB1.out.size (by intro k hk; cases hk; exact Nat.le_refl _)); clear hown2 hgrow2))
  clear HO1 HB1
  go_loopw [3, 4] (fun o i wr => ∃ (k : Nat) (W : World), W = wr ∧ k ≤ 12 ∧ i = .int .i64 k ∧ o = .slice (some ⟨w.heap.size, 0, none⟩) (len + k) (len + 12) ∧ wr.ownsRow w.heap.size 3 1 (.slice (some ⟨w.heap.size, 0, none⟩) (len + k) (len + 12)) (len + k) (lentI h len k) ∧ Below w.heap.size w wr) (fun _ i _ => 12 - (intOf i).toNat)
  case atStart => exact ⟨0, _, rfl, by omega, rfl, by simp, by simpa [lentI, inh] using HO2.out, HB2.out⟩
  case round =>
    obtain ⟨k, wx, rfl, hk, rfl, rfl, hO, hB⟩ := hrel
    have HO := Lib.hid hO; have HB := Lib.hid hB; clear hO hB
    by_cases hlt : k < 12
    · have hge := HB.out.size
      go_wp2_with (first
        | (go_at_call 26; refine (mark1_any (k : Int) (by omega) (by omega) _).mono ?_; rintro e w' ⟨rfl, hw'⟩; rw [hw']; clear hw')
        | (at_builtin; refine wpList_append_fits _ rfl _ _ _ rfl w.heap.size 3 i0 1 Tryz.underlying23 HI.out HZ1.out w.heap.size (len + k) (len + 12) (lentI h len k) rfl (HO.out.alloc _) _ 1 1 [.int .i64 (8000024 + (k : Int))] rfl rfl (cell_single _ _ _) (one_single _ _) (by omega) ?_; intro w4 hown4 hgrow4; have hown4 : w4.ownsRow w.heap.size 3 1 _ _ (lentI h len (k + 1)) := (by rw [lentI_s]; exact hown4); have HO4 := Lib.hid hown4; have HB4 := Lib.hid ((HB.out.alloc hge _).grown hgrow4 (by simp; omega) (by intro k hk; cases hk; exact Nat.le_refl _)); clear hown4 hgrow4))
      go_roundw
      case rel => exact ⟨k + 1, _, rfl, by omega, by go_num, rfl, HO4.out, HB4.out⟩
      case measure => simp [intOf]; omega
    · obtain rfl : k = 12 := by omega
      have hle := H.out.capOk
      go_wp2
      go_ret
      exact ⟨rfl, ownsRow_wholeI HO.out, HB.out⟩

set_option maxHeartbeats 2000000 in
set_option maxRecDepth 100000 in
theorem keptInts_any (g : Nat) (a : Option Addr) (len cap : Nat) (h : Nat → Int) (w : World) (hh : Hi w a len cap h) (hg : Block w g (lentI h len 12) 3) (hl : len ≤ 1000000) :
    Calls Tryz.prog 14 #[.slice (some ⟨g, 0, none⟩) len (len + 12), .slice a len cap] w fun e w' => e = .returned (.bool true) ∧ ∃ q, w' = w.drewN q := by
  have H := Lib.hid hh; have HG := Lib.hid hg; clear hh hg
  have hne : ((len : Int) != (len : Int)) = false := by simp
  go_enter Tryz.func14, Tryz.ntmps14
  go_wp2_with fail
  go_loopw [6] (fun i wr => ∃ (k : Nat) (W : World), W = wr ∧ k ≤ len + 12 ∧ i = .int .i64 k ∧ ∃ q, wr = w.drewN q) (fun i _ => len + 12 - (intOf i).toNat)
  case atStart => exact ⟨0, _, rfl, by omega, rfl, 0, rfl⟩
  case round =>
    obtain ⟨k, wx, rfl, hk, rfl, q, hq⟩ := hrel
    have HQ := Lib.hid hq
    by_cases hlt : k < len
    · obtain ⟨b, off, e1, c1⟩ := (H.out.same (quiet_b hq)).si.cell k hlt
      have E1 := Lib.hid (show a = some ⟨b, off, none⟩ from e1)
      have c2 : wx.cell? ⟨g, k, none⟩ = some (.int .i64 (h k)) := by rw [hq]; exact HG.out.cell (lentI_lo hlt)
      subst e1
      clear hq
      generalize h k = v at c1 c2
      have i1 : (k : Int) < (len : Int) := by omega
      have i2 : (k : Int) < (len : Int) + 12 := by omega
      have i5 : decide (len ≤ k) = false := by simp; omega
      have g5 : (v == v) = true := by simp
      go_wp2_with fail
      go_quiet (fail)
      go_wp2
      go_roundw
      case rel => exact ⟨k + 1, _, rfl, by omega, by go_num, q + nq, by rw [HQ.out, World.drewN_drewN]⟩
      case measure => simp [intOf]; omega
    · by_cases hlt2 : k < len + 12
      · have hmk : mkI (k - len) = 8000024 + ((k : Int) - (len : Int)) := by unfold mkI; omega
        have c2 : wx.cell? ⟨g, k, none⟩ = some (.int .i64 (8000024 + ((k : Int) - (len : Int)))) := by
          rw [← hmk, hq]; exact HG.out.cell (lentI_hi (by omega) (by omega))
        clear hq hmk
        have i1 : ¬ (k : Int) < (len : Int) := by omega
        have i2 : (k : Int) < (len : Int) + 12 := by omega
        have i4 : decide (k < len) = false := by simp; omega
        have i5 : decide (len ≤ k) = true := by simp; omega
        have i6 : IntKind.i64.wrap ((k : Int) - (len : Int)) = (k : Int) - (len : Int) := IntWalk.i64_in _ (by omega)
        obtain ⟨d, hd⟩ : ∃ d : Nat, (k : Int) - (len : Int) = (d : Int) := ⟨k - len, by omega⟩
        rw [hd] at c2 i6
        have hd9 : d < 12 := by omega
        go_wp2_with fail
        go_quiet ((go_at_call 26; exact Calls.quiet_of_same (mark1_any (d : Int) (by omega) (by omega) _)))
        go_wp2
        go_roundw
        case rel => exact ⟨k + 1, _, rfl, by omega, by go_num, q + nq, by rw [HQ.out, World.drewN_drewN]⟩
        case measure => simp [intOf]; omega
      · clear hq
        obtain rfl : k = len + 12 := by omega
        go_wp2
        go_ret
        exact ⟨rfl, q, HQ.out⟩
end Go.Proofs.YtkejabhjlflknaaGreat

namespace Go.Proofs.YtkejabhjlflknaaGreat
open Go.RowKit Go.Shelf

section
variable {Pg : Program}
/-- append in a region that draws, of elements of whatever size. -/
theorem step_append_own {ops : Array Oper} {o : Oper} {act : Act} {w : World} {K : Act → World → Prop} {Q : Exit → Act → World → Prop} {E : Prop} (hgd : o.guard = none) (s x : Operand) (t : TypeId)
    (ho : o.op = .call { callee := .builtin .append, args := #[s, x], argTypes := #[t, t] })
    (base : Nat) (e : TypeId) (i : TypeInfo) (z : Value) (size bytes : Nat) (ht : Pg.underlying t = some (.slice e)) (hi : Pg.info? e = some i) (hz : i.zero = some z)
    (hsize : i.size = size) (hby : i.bytes = bytes) (hzs : z.cells.size = size) (hsz : 0 < size)
    (v : Value) (n : Nat) (xs : List Value) (hs : act.eval s = v) (hown : w.ownsRow base e size v n xs)
    (ad : Addr) (m c : Nat) (news : List Value) (hx : act.eval x = .slice (some ad) m c) (hl : news.length = m * size) (hnews : ∀ j u, news[j]? = some u → w.cell? (ad.add j) = some u) (h1 : ∀ u ∈ news, u.oneCell' = true)
    (h63 : n + m ≤ maxLen) (hbytes : (n + m) * bytes ≤ 140737488355328) (hbase : base ≤ w.heap.size)
    (h : ∀ v' w', w'.ownsRow base e size v' (n + m) (xs ++ news) → w.grownBy w' v.ownBlock → K (act.put o.dst v') w') :
    if Region.wanted o (yielded ops act.tmps) = true then Oper.wp Pg o act w K Q else E := by
  have hw : Region.wanted o (yielded ops act.tmps) = true := by simp [Region.wanted, hgd]
  rw [if_pos hw]
  exact wp_append_own w s x t ho base e i z size bytes ht hi hz hsize hby hzs hsz v n xs hs hown ad m c news hx hl hnews h1 h63 hbytes hbase fun v' w' h2 h3 _ => h v' w' h2 h3
end
theorem Tryz.infoHeldR : (Tryz.prog.info? 83).map (fun i => (i.zero, i.size, i.bytes)) = some (some (.agg #[.int .i64 0, .slice none 0 0]), 2, 32) := by kernel_rfl
def ThSays (w : World) (m : Nat) (h : Nat → Int) (r : Nat → Option Addr) (l c : Nat → Nat) (f : Nat → Nat → Nat) (e : Ending) (w' : World) : Prop := ∃ ta tc, e = .returned (.slice ta m tc) ∧ Hs w' ta m h r l c f ∧ Below w.heap.size w w'

theorem block_ne {w : World} {B s n g : Nat} {e e' : TypeId} {v : Value} {xs vs : List Value} (h : w.ownsRow B e s v n xs) (hb : Block w g vs e') (he : e ≠ e') : v.ownBlock ≠ some g := by
  rcases h.2 with ⟨q, _⟩ | ⟨g', c1, cur, q, _, hh, _⟩
  · rw [q]; simp [Value.ownBlock]
  · rw [q]
    simp only [Value.ownBlock, ne_eq, Option.some.injEq]
    rintro rfl
    unfold Block at hb
    rw [hh] at hb
    injection hb with hb
    injection hb with _ q3
    exact he q3
/-- held symbols that were lent. -/
structure Hl (w : World) (B : Nat) (a : Option Addr) (m cap : Nat) (h : Nat → Int) (b l : Nat → Nat) (f : Nat → Nat → Nat) : Prop where
  own : w.ownsRow B 54 2 (.slice a m cap) m (hdv h (fun i => some ⟨b i, 0, none⟩) l (fun i => l i + 12) m)
  len : Lent w m b l f
  lo : ∀ i, i < m → B ≤ b i
  inj : ∀ i j, i < m → j < m → b i = b j → i = j
theorem Hl.same {w w' : World} {B m cap : Nat} {a : Option Addr} {h : Nat → Int} {b l : Nat → Nat} {f : Nat → Nat → Nat} (s : Hl w B a m cap h b l f) (hB : Below w.heap.size w w') : Hl w' B a m cap h b l f := ⟨own_below s.own hB, s.len.same hB, s.lo, s.inj⟩
theorem Hl.row {w : World} {B m cap : Nat} {a : Option Addr} {h : Nat → Int} {b l : Nat → Nat} {f : Nat → Nat → Nat} (s : Hl w B a m cap h b l f) (hf : Mt.Bm f) (hu : ∀ i, i < m → Pf.Up (f i) (l i)) (hl : ∀ i, i < m → l i ≤ 1000000) : ∀ i, i < m → Sl w (some ⟨b i, 0, none⟩) (l i) (l i + 12) (f i) := fun i hi => ((s.len i hi).nw (Nat.zero_le _) (hf i) (hu i hi) (by have := hl i hi; omega)).sl
theorem Hl.hs {w : World} {B m cap : Nat} {a : Option Addr} {h : Nat → Int} {b l : Nat → Nat} {f : Nat → Nat → Nat} (s : Hl w B a m cap h b l f) (hf : Mt.Bm f) (hu : ∀ i, i < m → Pf.Up (f i) (l i)) (hl : ∀ i, i < m → l i ≤ 1000000) : Hs w a m h (fun i => some ⟨b i, 0, none⟩) l (fun i => l i + 12) f := hdv_hs s.own hf (s.row hf hu hl)
def LnSays (w : World) (m : Nat) (h : Nat → Int) (l : Nat → Nat) (f : Nat → Nat → Nat) (e : Ending) (w' : World) : Prop := ∃ la lc b, e = .returned (.slice la m lc) ∧ Hl w' w.heap.size la m lc h b l f ∧ Below w.heap.size w w'

end Go.Proofs.YtkejabhjlflknaaGreat

namespace Go.Proofs.YtkejabhjlflknaaGreat.Ly
open Go.RowKit Go.Shelf

set_option maxHeartbeats 2000000 in
set_option maxRecDepth 100000 in
theorem bytesOf10_any (a : Option Addr) (m cap : Nat) (h : Nat → Int) (r : Nat → Option Addr) (l c : Nat → Nat) (f : Nat → Nat → Nat) (hm : m ≤ 5864062014805) (w : World) (hH : Hs w a m h r l c f) :
    Calls Tryz.prog 16 #[.slice a m cap] w (BytSays w m r l c) := by
  obtain ⟨i2, hi2, hz02, hz12, hz22⟩ := info_parts Tryz.infoRow
  have HI2 := Lib.hid hi2; have HZ02 := Lib.hid hz02; have HZ12 := Lib.hid hz12; have HZ22 := Lib.hid hz22
  have HH := Lib.hid hH
  have HOS := Lib.hid (World.ownsRow_nil w w.heap.size 50 1)
  clear hi2 hz02 hz12 hz22 hH
  go_enter Tryz.func16, Tryz.ntmps16
  go_wp2_with fail
  go_loopw [3, 4] (fun vs vi wr => ∃ (k : Nat) (sa : Option Addr) (sc : Nat), k ≤ m ∧ vi = .int .i64 k ∧ vs = .slice sa k sc ∧ wr.ownsRow w.heap.size 50 1 (.slice sa k sc) k (rls r l c k) ∧ Below w.heap.size w wr) (fun _ i _ => m - (intOf i).toNat)
  case atStart => exact ⟨0, none, 0, by omega, rfl, rfl, HOS.out, Below.refl _ _⟩
  case round =>
    rename_i wr
    clear HOS
    obtain ⟨k, sa, sc, hk, rfl, rfl, hOS, hBs⟩ := hrel
    have HOS := Lib.hid hOS; have HBs := Lib.hid hBs
    have hszs := hBs.size
    clear hOS hBs
    by_cases hkm : k < m
    · have j7 : (k : Int) < (m : Int) := by omega
      obtain ⟨b2, o2, e2, _, c2⟩ := (HH.out.same HBs.out).cell k hkm
      have E2 := Lib.hid (show a = some ⟨b2, o2, none⟩ from e2)
      subst e2
      have hal8 : Below wr.heap.size wr (wr.alloc (.cells #[.slice (r k) (l k) (c k)] 50)) := (Below.refl _ wr).alloc (Nat.le_refl _) _
      have HOW := Lib.hid (own_below HOS.out hal8)
      have hbb : w.heap.size ≤ (wr.alloc (.cells #[.slice (r k) (l k) (c k)] 50)).heap.size := by rw [World.size_alloc]; omega
      clear hal8
      go_wp2_with (at_builtin; refine wpList_append_bag _ rfl _ _ 22 rfl w.heap.size 50 i2 (.slice none 0 0) 24 Tryz.underlying22 HI2.out HZ02.out HZ12.out HZ22.out rfl sa k sc _ rfl HOW.out _ 1 1 [.slice (r k) (l k) (c k)] rfl rfl (cell_new1 _ _ _) (by intro u hu; rcases List.mem_singleton.1 hu with rfl; rfl) (by decide) (by unfold maxLen; omega) (by omega) hbb ?_; intro g9 c9 w9 hown9 hc9 hlt9; have hb9 := bag_below (B := w.heap.size) hc9 ((hown9.lt g9 rfl).1) hbb; have HB9 := Lib.hid (HBs.out.trans (((Below.refl w.heap.size wr).alloc hszs _).trans hb9)); have HOWN9 := Lib.hid hown9; clear hb9 hown9 hc9 hlt9)
      have ho := HOWN9.out
      rw [← rls_s] at ho
      have HO9 := Lib.hid ho
      clear ho c2
      go_wp2
      go_roundw
      case rel => exact ⟨k + 1, _, c9, by omega, by go_num, rfl, HO9.out, HB9.out⟩
      case measure => simp [intOf]; omega
    · obtain rfl : k = m := by omega
      go_wp2
      go_ret
      exact ⟨sa, sc, rfl, HOS.out, HBs.out⟩


set_option maxHeartbeats 4000000 in
set_option maxRecDepth 100000 in
theorem theirs10_any (a : Option Addr) (m cap : Nat) (h : Nat → Int) (r : Nat → Option Addr) (l c : Nat → Nat) (f : Nat → Nat → Nat) (hm : m ≤ 1000000) (w : World) (hH : Hs w a m h r l c f) :
    Calls Tryz.prog 21 #[.slice a m cap] w (ThSays w m h r l c f) := by
  obtain ⟨i0, hi, hz0, hz1, hz2⟩ := info_parts Tryz.infoHeldR
  have HI := Lib.hid hi; have HZ0 := Lib.hid hz0; have HZ1 := Lib.hid hz1; have HZ2 := Lib.hid hz2
  have HH := Lib.hid hH
  clear hi hz0 hz1 hz2 hH
  go_enter Tryz.func21, Tryz.ntmps21
  go_wp2_with fail
  go_loopw [3, 4] (fun o i wr => ∃ (k : Nat) (ta : Option Addr) (tc : Nat) (W : World), W = wr ∧ k ≤ m ∧ i = .int .i64 k ∧ o = .slice ta k tc ∧ wr.ownsRow w.heap.size 83 2 (.slice ta k tc) k (hdv h r l c k) ∧ Below w.heap.size w wr) (fun _ i _ => m - (intOf i).toNat)
  case atStart => exact ⟨0, none, 0, _, rfl, by omega, rfl, rfl, World.ownsRow_nil _ _ _ _, Below.refl _ _⟩
  case round =>
    obtain ⟨k, ta, tc, wx, rfl, hk, rfl, rfl, hO, hB⟩ := hrel
    have HO := Lib.hid hO; have HB := Lib.hid hB
    have hsz := hB.size
    clear hO hB
    by_cases hkm : k < m
    · have i1 : (k : Int) < (m : Int) := by omega
      obtain ⟨ab, ao, ea, c1, c2⟩ := (HH.out.same HB.out).cell k hkm
      have EA := Lib.hid (show a = some ⟨ab, ao, none⟩ from ea)
      subst ea
      have HRO := Lib.hid (show ∀ W, Below wx.heap.size wx W → W.ownsRow w.heap.size 83 2 (.slice ta k tc) k (hdv h r l c k) from fun W hW => own_below HO.out hW)
      have hal : Below wx.heap.size wx (wx.alloc (.cells #[.int .i64 (h k), .slice (r k) (l k) (c k)] 83)).drew := below_dr ((Below.refl _ wx).alloc (Nat.le_refl _) _) 1
      have hnew : ∀ j u, [Value.int .i64 (h k), Value.slice (r k) (l k) (c k)][j]? = some u → ((wx.alloc (.cells #[.int .i64 (h k), .slice (r k) (l k) (c k)] 83)).drew).cell? ((⟨wx.heap.size, 0, none⟩ : Addr).add j) = some u := cell_new2 wx _ _ 83
      have hbb : w.heap.size ≤ ((wx.alloc (.cells #[.int .i64 (h k), .slice (r k) (l k) (c k)] 83)).drew).heap.size := Nat.le_trans hsz hal.size
      have HAL := Lib.hid hal; have HNEW := Lib.hid hnew; have HBB := Lib.hid hbb
      clear hal hnew hbb
      go_wp2_with fail
      go_region_law ((refine step_append_own rfl (.tmp 11) (.tmp 23) 43 rfl w.heap.size 83 i0 (.agg #[.int .i64 0, .slice none 0 0]) 2 32 Tryz.underlying43 HI.out HZ0.out HZ1.out HZ2.out rfl (by decide) (.slice ta k tc) k _ rfl (HRO.out _ HAL.out) ⟨wx.heap.size, 0, none⟩ 1 1 [.int .i64 (h k), .slice (r k) (l k) (c k)] rfl rfl HNEW.out (pair_ones _ _ _ _) (by unfold maxLen; omega) (by omega) HBB.out ?_; intro v6 w6 hown6 hgrow6; obtain ⟨g6, c6, rfl⟩ := own_slice hown6; have HOWN6 := Lib.hid hown6; have HB6 := Lib.hid (HB.out.trans ((HAL.out.mono hsz).trans ((Below.refl w.heap.size _).grown hgrow6 HBB.out (fun k e => ((HRO.out _ HAL.out).lt k e).1)))); clear hown6 hgrow6))
      all_goals
        go_wp2
        go_roundw
        case rel => exact ⟨k + 1, _, c6, _, rfl, by omega, by go_num, rfl, HOWN6.out, HB6.out⟩
        case measure => simp [intOf]; omega
    · obtain rfl : k = m := by omega
      go_wp2
      go_ret
      exact ⟨ta, tc, rfl, hdv_hs HO.out HH.out.bm (fun i hi => (HH.out.same HB.out).row i hi), HB.out⟩


set_option maxHeartbeats 4000000 in
set_option maxRecDepth 100000 in
theorem lentH10_any (a : Option Addr) (m cap : Nat) (h : Nat → Int) (r : Nat → Option Addr) (l c : Nat → Nat) (f : Nat → Nat → Nat) (hm : m ≤ 1000000) (hl : ∀ i, i < m → l i ≤ 1000000) (w : World) (hH : Hs w a m h r l c f) :
    Calls Tryz.prog 18 #[.slice a m cap] w (LnSays w m h l f) := by
  obtain ⟨i0, hi, hz0, hz1, hz2⟩ := info_parts Tryz.infoHeld
  have HI := Lib.hid hi; have HZ0 := Lib.hid hz0; have HZ1 := Lib.hid hz1; have HZ2 := Lib.hid hz2
  have HH := Lib.hid hH; have HL := Lib.hid hl
  clear hi hz0 hz1 hz2 hH hl
  go_enter Tryz.func18, Tryz.ntmps18
  go_wp2_with fail
  go_loopw [3, 4] (fun o i wr => ∃ (k : Nat) (la : Option Addr) (lc : Nat) (b : Nat → Nat) (W : World), W = wr ∧ k ≤ m ∧ i = .int .i64 k ∧ o = .slice la k lc ∧ Hl wr w.heap.size la k lc h b l f ∧ Below w.heap.size w wr) (fun _ i _ => m - (intOf i).toNat)
  case atStart => exact ⟨0, none, 0, fun _ => 0, _, rfl, by omega, rfl, rfl, ⟨World.ownsRow_nil _ _ _ _, fun i hi => absurd hi (Nat.not_lt_zero i), fun i hi => absurd hi (Nat.not_lt_zero i), fun i _ hi => absurd hi (Nat.not_lt_zero i)⟩, Below.refl _ _⟩
  case round =>
    obtain ⟨k, la, lc, b, wx, rfl, hk, rfl, rfl, hO, hB⟩ := hrel
    have HO := Lib.hid hO; have HB := Lib.hid hB
    have hsz := hB.size
    clear hO hB
    by_cases hkm : k < m
    · have i1 : (k : Int) < (m : Int) := by omega
      have hHx := HH.out.same HB.out
      obtain ⟨ab, ao, ea, c1, c2⟩ := hHx.cell k hkm
      have EA := Lib.hid (show a = some ⟨ab, ao, none⟩ from ea)
      have hbd : Below wx.heap.size wx wx.drew := below_dr (Below.refl _ wx) 1
      have HLB := Lib.hid (lentS_any (r k) (l k) (c k) (f k) wx.drew ((hHx.row k hkm).same hbd) (by have := HL.out k hkm; omega))
      have HBD := Lib.hid hbd
      have C1 := Lib.hid c1
      subst ea
      clear hHx hbd
      go_wp2_with fail
      go_region_law (first
        | (refine step_append_own rfl (.tmp 11) (.tmp 24) 37 rfl w.heap.size 54 i0 (.agg #[.int .i64 0, .slice none 0 0]) 2 32 Tryz.underlying37 HI.out HZ0.out HZ1.out HZ2.out rfl (by decide) (.slice la k lc) k _ rfl HOA.out ⟨w4.heap.size, 0, none⟩ 1 1 [.int .i64 (h k), .slice (some ⟨wx.heap.size, 0, none⟩) (l k) (l k + 12)] rfl rfl (cell_new2 w4 _ _ 54) (pair_ones _ _ _ _) (by unfold maxLen; omega) (by omega) hbb4 ?_; intro v6 w6 hown6 hgrow6; obtain ⟨g6, c6, rfl⟩ := own_slice hown6; have HOWN6 := Lib.hid hown6; have HGR6 := Lib.hid hgrow6; clear hown6 hgrow6)
        | (go_simp; go_at_call 25; refine HLB.out.mono ?_; rintro e w4 ⟨rfl, hbk, hB4⟩; have hB5 := HBD.out.trans hB4; have c14 := (hB5.cell (World.block_lt_of_cell? _ _ C1.out)).trans C1.out; have hal4 : Below w4.heap.size w4 (w4.alloc (.cells #[.int .i64 (h k), .slice (some ⟨wx.heap.size, 0, none⟩) (l k) (l k + 12)] 54)) := (Below.refl _ w4).alloc (Nat.le_refl _) _; have hB6 := hB5.trans (hal4.mono hB5.size); have hbb4 : w.heap.size ≤ (w4.alloc (.cells #[.int .i64 (h k), .slice (some ⟨wx.heap.size, 0, none⟩) (l k) (l k + 12)] 54)).heap.size := Nat.le_trans hsz hB6.size; have HOA := Lib.hid (own_below HO.out.own hB6); have HBK := Lib.hid (hbk.same hal4); have HLT := Lib.hid hbk.lt; have HB5 := Lib.hid hB5; have HB6 := Lib.hid hB6; clear hbk hB4 hB5 hal4 hB6))
      all_goals
        have hbw : Below w.heap.size w w6 := HB.out.trans ((HB6.out.mono hsz).trans ((Below.refl w.heap.size _).grown HGR6.out hbb4 (fun k e => (HOA.out.lt k e).1)))
        have hbk6 : Block w6 wx.heap.size (lentC (ints (f k) (l k)) 12) 5 := HBK.out.kept (HGR6.out.block _ HBK.out.lt (fun e => block_ne HOA.out HBK.out (by decide) e.symm))
        have hlen6 : Lent w6 k b l f := fun i hi => by
          have h4 := (HO.out.len i hi).same HB6.out
          exact h4.kept (HGR6.out.block _ h4.lt (fun e => block_ne HOA.out h4 (by decide) e.symm))
        have hlt : ∀ i, i < k → b i < wx.heap.size := fun i hi => (HO.out.len i hi).lt
        have hown : w6.ownsRow w.heap.size 54 2 (.slice g6 (k + 1) c6) (k + 1) (hdv h (fun i => some ⟨if i = k then wx.heap.size else b i, 0, none⟩) l (fun i => l i + 12) (k + 1)) := by
          rw [hdv_s, hdv_congr k (r' := fun i => some ⟨b i, 0, none⟩) (fun i hi => by show some _ = some _; rw [if_neg (by omega)])]
          simp only [if_true]
          exact HOWN6.out
        have HR6 := Lib.hid (Hl.mk (b := fun i => if i = k then wx.heap.size else b i) (f := f) hown (fun i hi => by
          show Block w6 (if i = k then wx.heap.size else b i) _ _
          by_cases e : i = k
          · subst e; rw [if_pos rfl]; exact hbk6
          · rw [if_neg e]; exact hlen6 i (by omega)) (fun i hi => by
          show w.heap.size ≤ (if i = k then wx.heap.size else b i)
          by_cases e : i = k
          · rw [if_pos e]; exact hsz
          · rw [if_neg e]; exact HO.out.lo i (by omega)) (fun i j hi hj e => by
          have e : (if i = k then wx.heap.size else b i) = (if j = k then wx.heap.size else b j) := e
          by_cases e1 : i = k <;> by_cases e2 : j = k
          · omega
          · rw [if_pos e1, if_neg e2] at e; have := hlt j (by omega); omega
          · rw [if_neg e1, if_pos e2] at e; have := hlt i (by omega); omega
          · rw [if_neg e1, if_neg e2] at e; exact HO.out.inj i j (by omega) (by omega) e))
        have HBW := Lib.hid hbw
        clear hbw hbk6 hlen6 hlt hown
        go_wp2
        go_roundw
        case rel => exact ⟨k + 1, _, c6, _, _, rfl, by omega, by go_num, rfl, HR6.out, HBW.out⟩
        case measure => simp [intOf]; omega
    · obtain rfl : k = m := by omega
      go_wp2
      go_ret
      exact ⟨la, lc, b, rfl, HO.out, HB.out⟩

end Go.Proofs.YtkejabhjlflknaaGreat.Ly

namespace Go.Proofs.YtkejabhjlflknaaGreat
open Go.RowKit Go.Shelf

end Go.Proofs.YtkejabhjlflknaaGreat

namespace Go.Proofs.YtkejabhjlflknaaGreat
open Go.RowKit Go.Shelf

/-- the rows of what was lent, as a list of its own. -/
theorem Hl.pr {w : World} {B B' m cap sc : Nat} {a sa : Option Addr} {h : Nat → Int} {b l : Nat → Nat} {f : Nat → Nat → Nat} (s : Hl w B a m cap h b l f) (hf : Mt.Bm f) (hu : ∀ i, i < m → Pf.Up (f i) (l i)) (hl : ∀ i, i < m → l i ≤ 1000000)
    (ho : w.ownsRow B' 50 1 (.slice sa m sc) m (rls (fun i => some ⟨b i, 0, none⟩) l (fun i => l i + 12) m)) (hB : B ≤ B') : Go_ w B sa m sc b l (fun i => l i + 12) f :=
  Pr.go ⟨ho.mono hB, fun i hi => (s.len i hi).bl, fun i hi => ⟨Nat.le_add_right _ _, by have := hl i hi; show l i + 12 ≤ maxLen; unfold maxLen; omega⟩, s.lo, s.inj, hf, hu⟩

end Go.Proofs.YtkejabhjlflknaaGreat

namespace Go.Proofs.YtkejabhjlflknaaGreat
open Go.RowKit Go.Shelf

theorem own_shortN {w : World} {B e s n m cap : Nat} {a : Option Addr} {xs ys : List Value} (h : w.ownsRow B e s (.slice a (n + m) cap) (n + m) (xs ++ ys)) (hx : xs.length = n * s) : w.ownsRow B e s (.slice a n cap) n xs := by
  obtain ⟨hl, h⟩ := h
  refine ⟨hx, ?_⟩
  rcases h with ⟨hv, h0⟩ | ⟨g, cap', cur, hv, hb, hg, hnc, hcm, hcs, ht⟩
  · left
    obtain rfl : n = 0 := by omega
    obtain rfl : m = 0 := by omega
    exact ⟨hv, rfl⟩
  · right
    simp only [Value.slice.injEq, true_and] at hv
    obtain ⟨rfl, rfl⟩ := hv
    refine ⟨g, cap, cur, rfl, hb, hg, by omega, hcm, hcs, ?_⟩
    have := congrArg (List.take (n * s)) ht
    rw [List.take_take, Nat.min_eq_left (Nat.mul_le_mul_right s (by omega)), List.take_left' hx] at this
    exact this
section
variable {P : Program}
/-- append, of elements of whatever size, and where the new slice lies. -/
theorem run_append_bagN (w : World) (t ty : TypeId) (base : Nat) (e : TypeId) (i : TypeInfo) (z : Value) (size bytes : Nat) (ht : P.underlying t = some (.slice e)) (hi : P.info? e = some i) (hz : i.zero = some z)
    (hsize : i.size = size) (hby : i.bytes = bytes) (hzs : z.cells.size = size) (hsz : 0 < size)
    (a : Option Addr) (n cap : Nat) (xs : List Value) (hown : w.ownsRow base e size (.slice a n cap) n xs)
    (ad : Addr) (m c : Nat) (news : List Value) (hl : news.length = m * size) (hnews : ∀ j u, news[j]? = some u → w.cell? (ad.add j) = some u) (h1 : ∀ u ∈ news, u.oneCell' = true)
    (hm : 0 < m) (h63 : n + m ≤ maxLen) (hbytes : (n + m) * bytes ≤ 140737488355328) (hbase : base ≤ w.heap.size) :
    ∃ g cap' w', (Builtin.append_ #[t, t] ty #[.slice a n cap, .slice (some ad) m c]).run P w = .ok (.slice (some ⟨g, 0, none⟩) (n + m) cap') w' ∧
      w'.ownsRow base e size (.slice (some ⟨g, 0, none⟩) (n + m) cap') (n + m) (xs ++ news) ∧ (a = some ⟨g, 0, none⟩ ∧ cap' = cap ∧ w.grownBy w' (some g) ∨ w.heap.size ≤ g ∧ w.grownBy w' none) ∧ g < w'.heap.size := by
  rcases hown.2 with ⟨hv, h0⟩ | ⟨g, cap2, cur, hv, hb, hg, hnc, hcm, hcs, htk⟩
  · rw [hv] at hown ⊢
    obtain ⟨g, cap', w', hr, h2, h3, h4, h5⟩ := run_append_lies (P := P) w t ty base e i z size bytes ht hi hz hsize hby hzs hsz (.slice none 0 0) n xs hown ad m c news hl hnews h1 hm h63 hbytes hbase _ rfl
    exact ⟨g, cap', w', hr, h2, Or.inr ⟨by rcases h4 with h | h; exact (by cases h); omega, h3⟩, h5⟩
  · simp only [Value.slice.injEq, true_and] at hv
    obtain ⟨rfl, rfl⟩ := hv
    rcases Nat.lt_or_ge cap (n + m) with hr | hr
    · obtain ⟨v', w', hrun, h2, h3⟩ := run_append_arg_grows (P := P) w t ty e i z size bytes ht hi hz hsize hby hzs hsz ⟨g, 0, none⟩ n cap xs hown.1 (fun j u hj => hown.cells rfl j u hj) ad m c news hl hnews hr h63 hbytes
      obtain ⟨g2, cap2, rfl, hb2, hlt⟩ := h2.form (by omega)
      exact ⟨g2, cap2, w', hrun, h2.mono hbase, Or.inr ⟨hb2, h3⟩, hlt⟩
    · obtain ⟨w', hrun, h2, h3⟩ := run_append_fits (P := P) w base t ty e i size ht hi hsize g n cap xs hown ad m c news hl hnews h1 hr
      exact ⟨g, cap, w', hrun, h2, Or.inl ⟨rfl, rfl, h3⟩, (h2.lt g rfl).2⟩
/-- the same, as a step, guarded or not. -/
theorem wpList_append_bagN (w : World) {ops : Array Oper} {rest : List Oper} {o : Oper} {act : Act} {Q : Exit → Act → World → Prop} (hgd : Region.wanted o (yielded ops act.tmps) = true) (s x : Operand) (t : TypeId)
    (ho : o.op = .call { callee := .builtin .append, args := #[s, x], argTypes := #[t, t] })
    (base : Nat) (e : TypeId) (i : TypeInfo) (z : Value) (size bytes : Nat) (ht : P.underlying t = some (.slice e)) (hi : P.info? e = some i) (hz : i.zero = some z)
    (hsize : i.size = size) (hby : i.bytes = bytes) (hzs : z.cells.size = size) (hsz : 0 < size)
    (a : Option Addr) (n cap : Nat) (xs : List Value) (hs : act.eval s = .slice a n cap) (hown : w.ownsRow base e size (.slice a n cap) n xs)
    (ad : Addr) (m c : Nat) (news : List Value) (hx : act.eval x = .slice (some ad) m c) (hl : news.length = m * size) (hnews : ∀ j u, news[j]? = some u → w.cell? (ad.add j) = some u) (h1 : ∀ u ∈ news, u.oneCell' = true)
    (hm : 0 < m) (h63 : n + m ≤ maxLen) (hbytes : (n + m) * bytes ≤ 140737488355328) (hbase : base ≤ w.heap.size)
    (h : ∀ g cap' w', w'.ownsRow base e size (.slice (some ⟨g, 0, none⟩) (n + m) cap') (n + m) (xs ++ news) → (a = some ⟨g, 0, none⟩ ∧ cap' = cap ∧ w.grownBy w' (some g) ∨ w.heap.size ≤ g ∧ w.grownBy w' none) → g < w'.heap.size → wpList P ops Q rest (act.put o.dst (.slice (some ⟨g, 0, none⟩) (n + m) cap')) w') : wpList P ops Q (o :: rest) act w := by
  refine BigFrame.wpList_want hgd fun _ hK => ?_
  obtain ⟨g, cap', w', hr, h2, h3, h4⟩ := run_append_bagN (P := P) w t o.type base e i z size bytes ht hi hz hsize hby hzs hsz a n cap xs hown ad m c news hl hnews h1 hm h63 hbytes hbase
  unfold Oper.wp execOp
  simp only [ho, resolve, invoke, builtin, Sem.run_bind, Sem.run_pure, Result.andThen_ok, List.map_toArray, List.map_cons, List.map_nil, hs, hx, hr]
  exact hK _ _ (h g cap' w' h2 h3 h4)
end
/-- what stood in a row still does, behind an append. -/
theorem own_behind {w w' : World} {B e s n m cap cap' g : Nat} {a : Option Addr} {xs news : List Value} (h : w.ownsRow B e s (.slice a n cap) n xs) (h' : w'.ownsRow B e s (.slice (some ⟨g, 0, none⟩) (n + m) cap') (n + m) (xs ++ news)) (hc : a = some ⟨g, 0, none⟩ ∧ cap' = cap ∧ w.grownBy w' (some g) ∨ w.heap.size ≤ g ∧ w.grownBy w' none) : w'.ownsRow B e s (.slice a n cap) n xs := by
  rcases hc with ⟨rfl, rfl, _⟩ | ⟨_, hg⟩
  · exact own_shortN h' h.1
  · exact h.kept hg (by cases (Value.slice a n cap).ownBlock <;> simp)
theorem rd_nil (w : World) : Rd w none 0 0 (fun _ => none) (fun _ => 0) (fun _ => 0) (fun _ _ => 0) := ⟨Nat.le_refl _, by unfold maxLen; omega, fun _ _ => (by omega : 0 < 256), fun _ => ⟨rfl, rfl⟩, fun _ e => (by cases e), fun _ e => (by cases e), fun i hi => absurd hi (Nat.not_lt_zero i)⟩
theorem sl_nil (w : World) : Sl w none 0 0 (fun _ => 0) := ⟨Nat.le_refl _, by unfold maxLen; omega, fun _ => (by omega : 0 < 256), fun _ _ => rfl, fun _ => ⟨rfl, rfl⟩, fun _ e => (by cases e), fun _ e => (by cases e)⟩
theorem rd_made (W : World) (n : Nat) (hn : n ≤ 1000) : Rd (W.alloc (.cells (madeCells #[.slice none 0 0] n) 50)) (some ⟨W.heap.size, 0, none⟩) n n (fun _ => none) (fun _ => 0) (fun _ => 0) (fun _ _ => 0) := by
  refine ⟨Nat.le_refl _, by unfold maxLen; omega, fun _ _ => (by omega : 0 < 256), fun e => (by cases e), fun ad e _ => (by cases e; rfl), fun ad e i hi => ?_, fun i hi => sl_nil _⟩
  cases e
  show World.cell? _ ⟨_, 0 + i, none⟩ = _
  rw [Nat.zero_add, cell_of_row _ _ i _ _ _ (heap_alloc_new _ _)]
  have : (madeCells #[Value.slice none 0 0] n).toList[i]? = some (.slice none 0 0) := by rw [toList_madeCells_one, List.getElem?_replicate, if_pos hi]
  rwa [Array.getElem?_toList] at this
theorem hi_nil (w : World) : Hi w none 0 0 (fun _ => 0) := ⟨Nat.le_refl _, by unfold maxLen; omega, fun _ => ⟨rfl, rfl⟩, fun _ e => (by cases e), fun _ e => (by cases e)⟩
/-- numbers, written out. -/
theorem hi_lit (w : World) (vs : List Int) (n : Nat) (hn : n ≤ vs.length) (hl : vs.length ≤ 1000) : Hi (w.alloc (.cells (vs.map (Value.int .i64)).toArray 3)) (some ⟨w.heap.size, 0, none⟩) n vs.length (fun i => vs.getD i 0) := by
  refine ⟨hn, by unfold maxLen; omega, fun e => (by cases e), fun ad e _ => (by cases e; rfl), fun ad e i hi => ?_⟩
  cases e
  show World.cell? _ ⟨_, 0 + i, none⟩ = _
  rw [Nat.zero_add, cell_of_row _ _ i _ _ _ (heap_alloc_new _ _)]
  simp [show i < vs.length by omega]
theorem cut_hi {w w' : World} {a : Option Addr} {len cap : Nat} {h : Nat → Int} (s : Hi w a len cap h) (hB : Below w.heap.size w w') : Hi w' a len cap h := s.same hB

/-- a pointer to no coder. -/
def NoC (w : World) (p : Option Addr) : Prop := ∀ W, Below w.heap.size w W → Calls Tryz.prog 74 #[.pointer p] W fun e W' => e = .returned (.bool true) ∧ W' = W
theorem NoC.same {w w' : World} {p : Option Addr} (h : NoC w p) (hB : Below w.heap.size w w') : NoC w' p := fun W hW => h W (hB.trans (hW.mono hB.size))
theorem noc_nil (w : World) : NoC w none := fun W _ => by
  go_enter Tryz.func74, Tryz.ntmps74
  go_wp2
  go_ret
  exact ⟨rfl, rfl⟩
theorem noc_new (w : World) (b : Nat) (h : w.cell? ⟨b, 0, none⟩ = some (.pointer none)) : NoC w (some ⟨b, 0, none⟩) := fun W hW => by
  have c0 := (hW.cell (World.block_lt_of_cell? _ _ h)).trans h
  clear h hW
  go_enter Tryz.func74, Tryz.ntmps74
  go_wp2
  go_ret
  exact ⟨rfl, rfl⟩
theorem noc_enc (w : World) (p : Option Addr) (h : NoC w p) : Calls Tryz.prog 57 #[.pointer p, .slice none 0 0] w fun e w' => e = .returned (.tuple #[.slice none 0 0, .int .i64 1]) ∧ w' = w := by
  have H := Lib.hid (h w (Below.refl _ _)); clear h
  go_enter Tryz.func57, Tryz.ntmps57
  go_wp2_with fail
  refine H.out.mono ?_
  rintro e w' ⟨rfl, rfl⟩
  go_wp2
  go_ret2
  exact ⟨rfl, rfl⟩
theorem noc_dec (w : World) (p : Option Addr) (h : NoC w p) : Calls Tryz.prog 66 #[.pointer p, .slice none 0 0] w fun e w' => e = .returned (.tuple #[.slice none 0 0, .int .i64 1]) ∧ Below w.heap.size w w' := by
  have hal : Below w.heap.size w (w.alloc (.cells #[.slice none 0 0] 37)) := (Below.refl _ w).alloc (Nat.le_refl _) _
  have H := Lib.hid (h _ hal); have HAL := Lib.hid hal; clear h hal
  go_enter Tryz.func66, Tryz.ntmps66
  go_wp2_with fail
  refine H.out.mono ?_
  rintro e w' ⟨rfl, hw'⟩
  rw [hw']; clear hw'
  go_wp2
  go_ret2
  exact ⟨rfl, HAL.out⟩

end Go.Proofs.YtkejabhjlflknaaGreat
