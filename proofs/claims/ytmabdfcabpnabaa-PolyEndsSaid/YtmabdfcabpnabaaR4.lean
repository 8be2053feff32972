import Derived.Test.YtmabdfcabpnabaaR3
import Derived.Test.YtmabdfcabpnabaaPe
namespace Go.Proofs.Ytmabdfcabpnabaa
open Go.RowKit Go.Shelf

theorem rdiv_nat (x y : Nat) (hx : x < 256) (hy : y < 256) (w : World) :
    Calls Try.prog 37 #[.int .u8 (x : Nat), .int .u8 (y : Nat)] w fun e w' => e = .returned (.tuple #[.int .u8 (Gf.mul x (ivN y) : Nat), .int .i64 (zeroErr y)]) ∧ w' = w := by
  have h := rdiv_any x y (by omega) (by omega) (by omega) (by omega) w
  have e : mulOf x (invOf y) = (Gf.mul x (ivN y) : Nat) := by unfold mulOf; rw [invOf_nat, Int.toNat_natCast, Int.toNat_natCast]
  rw [e] at h; exact h
/-- how long a slice is. -/
def lenOf : Value → Nat
  | .slice _ n _ => n
  | _ => 0

/-- what the document's Div answers. -/
def RDivSays (w : World) (l l' : Nat) (f b : Nat → Nat) (e : Ending) (w' : World) : Prop :=
  (600 < Pf.ln f l ∨ 600 < Pf.ln b l') ∧ e = .returned (.tuple #[.slice none 0 0, .slice none 0 0, .int .i64 3]) ∧ Below w.heap.size w w' ∨
  (Pf.ln f l ≤ 600 ∧ Pf.ln b l' ≤ 600) ∧ Pf.ln b l' = 0 ∧ e = .returned (.tuple #[.slice none 0 0, .slice none 0 0, .int .i64 6]) ∧ Below w.heap.size w w' ∨
  (Pf.ln f l ≤ 600 ∧ Pf.ln b l' ≤ 600) ∧ Pf.ln b l' ≠ 0 ∧ ∃ aq nq cq qf ar nr cr rf, e = .returned (.tuple #[.slice aq nq cq, .slice ar nr cr, .int .i64 0]) ∧ Sl w' aq nq cq qf ∧ Pf.Ln qf nq ∧ Sl w' ar nr cr rf ∧ Pf.Ln rf nr ∧ nr < Pf.ln b l' ∧
    (∀ i, f i = Pf.pm qf b i ^^^ rf i) ∧ Below w.heap.size w w'

/-- a long division under way. -/
structure RdS (w wr : World) (K t : Nat) (f b : Nat → Nat) (ra : Option Addr) (rn rc : Nat) (R : Nat → Nat) (qa : Option Addr) (qn qc : Nat) (Q : Nat → Nat) : Prop where
  sr : Sl wr ra rn rc R
  lr : Pf.Ln R rn
  sq : Sl wr qa qn qc Q
  lq : Pf.Ln Q qn
  qk : Pf.Up Q K
  rk : rn ≤ K
  id : ∀ i, f i = Pf.pm Q b i ^^^ R i
  be : Below w.heap.size w wr

set_option maxHeartbeats 4000000 in
set_option maxRecDepth 100000 in
theorem rdivp_any (a a' : Option Addr) (l c l' c' : Nat) (f b : Nat → Nat) (hm : l ≤ 100000000) (hm' : l' ≤ 100000000) (w : World) (h1 : Sl w a l c f) (h2 : Sl w a' l' c' b) :
    Calls Try.prog 15 #[.slice a l c, .slice a' l' c'] w (RDivSays w l l' f b) := by
  have H1 := Lib.hid h1; have H2 := Lib.hid h2; clear h1 h2
  have k1 := Pf.ln_le f l
  have k2 := Pf.ln_le b l'
  have LF := Lib.hid (Pf.ln_Ln l H1.out.up)
  have LB := Lib.hid (Pf.ln_Ln l' H2.out.up)
  obtain ⟨i0, hi, hz0, hz1, hz2⟩ := info_parts Try.infoU8
  have HI := Lib.hid hi; have HZ0 := Lib.hid hz0; have HZ1 := Lib.hid hz1; have HZ2 := Lib.hid hz2
  clear hi hz0 hz1 hz2
  go_enter Try.func15, Try.ntmps15
  go_wp2_with fail
  refine (rlean_any a l c f (by omega) _ H1.out).mono ?_
  rintro e w1 ⟨a1, c1, rfl, hN1, hB1⟩
  have HN1 := Lib.hid hN1; have HB1 := Lib.hid hB1; clear hN1 hB1
  go_wp2_with fail
  refine (rlean_any a' l' c' b (by omega) _ (H2.out.same HB1.out)).mono ?_
  rintro e w2 ⟨a2, c2, rfl, hN2, hB2⟩
  have HN2 := Lib.hid hN2.sl; have HM1 := Lib.hid (HN1.out.below hB2).sl; have HB2 := Lib.hid (HB1.out.trans (hB2.mono HB1.out.size)); clear hN2 hB2
  by_cases g1 : 600 < Pf.ln f l
  · have hg1 : (600 : Int) < (Pf.ln f l : Int) := by omega
    have G := Lib.hid g1; clear g1
    go_wp2
    go_ret3
    exact Or.inl ⟨Or.inl G.out, rfl, HB2.out⟩
  have hg1 : ¬ (600 : Int) < (Pf.ln f l : Int) := by omega
  have hd1 : decide ((600 : Int) < (Pf.ln f l : Int)) = false := decide_eq_false hg1
  have G := Lib.hid (show Pf.ln f l ≤ 600 by omega); clear g1
  by_cases g2 : 600 < Pf.ln b l'
  · have hg2 : (600 : Int) < (Pf.ln b l' : Int) := by omega
    have G2 := Lib.hid g2; clear g2
    go_wp2
    go_ret3
    exact Or.inl ⟨Or.inr G2.out, rfl, HB2.out⟩
  have hg2 : ¬ (600 : Int) < (Pf.ln b l' : Int) := by omega
  have G2 := Lib.hid (show Pf.ln b l' ≤ 600 by omega); clear g2
  by_cases hz : Pf.ln b l' = 0
  · have g3 : ((Pf.ln b l' : Int) == 0) = true := by simp [hz]
    have HZ := Lib.hid hz; clear hz
    go_wp2
    go_ret3
    exact Or.inr (Or.inl ⟨⟨G.out, G2.out⟩, HZ.out, rfl, HB2.out⟩)
  have HNZ := Lib.hid hz
  obtain ⟨t, ht⟩ : ∃ t, Pf.ln b l' = t + 1 := ⟨Pf.ln b l' - 1, by omega⟩
  have HT := Lib.hid ht
  have ht1 : t + 1 ≤ l' := by omega
  rw [ht] at HN2 LB G2 hg2
  rw [ht]
  clear hz ht
  obtain ⟨K, hK⟩ : ∃ K, K = Pf.ln f l := ⟨_, rfl⟩
  rw [← hK] at HM1 LF k1 hg1 hd1 ⊢
  have HKK := Lib.hid hK; clear hK
  have g3 : (((t : Int) + 1) == 0) = false := by simp; omega
  go_wp2_with fail
  have HR0 := Lib.hid (show RdS w2 w2 K t f b a1 K c1 f none 0 0 (fun _ => 0) from
    ⟨HM1.out, LF.out, (Nw.nil w2 0 (fun _ => rfl)).sl, ⟨fun _ _ => rfl, Or.inl rfl⟩, fun _ _ => rfl, Nat.le_refl _, fun i => by
      have : Pf.pm (fun _ => 0) b i = 0 := Pf.cv_zero (fun _ => rfl) _ _
      rw [this, Nat.zero_xor], Below.refl _ _⟩)
  clear hg1 hd1 hg2 g3
  go_loopw [7, 9] (fun r q wr => ∃ ra rn rc R qa qn qc Q, r = .slice ra rn rc ∧ q = .slice qa qn qc ∧ RdS w2 wr K t f b ra rn rc R qa qn qc Q) (fun r _ _ => lenOf r)
  case atStart => exact ⟨_, _, _, _, _, _, _, _, rfl, rfl, HR0.out⟩
  case round =>
    obtain ⟨ra, rn, rc, R, qa, qn, qc, Q, rfl, rfl, hR⟩ := hrel
    by_cases hlt : t + 1 ≤ rn
    · obtain ⟨s, rfl⟩ : ∃ s, rn = t + s + 1 := ⟨rn - (t + 1), by omega⟩
      have hrk := hR.rk
      have hqn := hR.lq.le hR.qk
      obtain ⟨b1, o1, e1, c1'⟩ := hR.sr.at_ (k := t + s) (by omega)
      obtain ⟨b2, o2, e2, c2'⟩ := (HN2.out.same hR.be).at_ (k := t) (by omega)
      have d1 := hR.sr.bytes (t + s)
      have d2 := HN2.out.bytes t
      have hsz := hR.be.size
      have HR := Lib.hid hR; have HE2 := Lib.hid (show a2 = some ⟨b2, o2, none⟩ from e2); have HE1 := Lib.hid (show ra = some ⟨b1, o1, none⟩ from e1)
      clear hR
      subst e1 e2
      have i1 : (t : Int) + 1 ≤ (t : Int) + (s : Int) + 1 := by omega
      have i2 : ((t : Int) + (s : Int)).toNat = t + s := by omega
      have i3 : (0 : Int) ≤ (t : Int) + (s : Int) := by omega
      have i4 : (t : Int) + (s : Int) < (t : Int) + (s : Int) + 1 := by omega
      have i5 : (t : Int) < (t : Int) + 1 := by omega
      go_wp2_with fail
      go_quiet ((go_at_call 37; exact Calls.quiet_of_same (rdiv_nat (R (t + s)) (b t) d1 d2 _)))
      have hst := Pf.long_step HN2.out.bytes HR.out.sq.bytes HR.out.sr.bytes LB.out (s := s) (fun i hi => HR.out.sr.up i (by omega)) HR.out.id
      have hcc := Gf.mul_lt d1 (ivN_lt (b t))
      generalize hcq : Gf.mul (R (t + s)) (ivN (b t)) = cc at *
      clear hcq
      have HST := Lib.hid hst; clear hst
      have hBd := below_drewN (Below.refl wr.heap.size wr) nq
      obtain ⟨wq, hwq⟩ : ∃ wq, wq = wr.drewN nq := ⟨_, rfl⟩
      rw [← hwq] at hBd ⊢
      have hszq : wq.heap.size = wr.heap.size := by rw [hwq]; rfl
      have HBD := Lib.hid hBd; have HSZ := Lib.hid hszq
      clear hwq hBd hszq c1' c2'
      go_wp2_with (at_make; refine wpList_make_full _ rfl _ _ _ rfl wq.heap.size 5 i0 (.int .u8 0) 1 Try.underlying22 HI.out HZ0.out HZ1.out .i64 .i64 _ _ (s + 1) rfl rfl (by omega) (by omega) (by rw [HZ2.out]; omega) (by unfold maxLen; omega) (Nat.le_refl _) ?_; intro w3 hown hgrow; have hbl3 := (Bl.of_owns hown (h := fun _ => 0) (fun i hi => by rw [Nat.mul_one]; exact get_zeros hi)); have HBL3 := Lib.hid hbl3; have hfr := hbl3.free s; have hce := hbl3.cell (i := s) (by omega); have HB3 := Lib.hid ((Below.refl wq.heap.size wq).grown hgrow (Nat.le_refl _) (fun k e => by cases e)); clear hown hgrow hbl3)
      have htm : Bl (w3.setCell ⟨wq.heap.size, s, none⟩ (.int .u8 (cc : Nat))) wq.heap.size (s + 1) (s + 1) (Pf.trm s cc) := (HBL3.out.set (by omega) cc).congr (fun i _ => rfl)
      have hb4 : Below wq.heap.size wq (w3.setCell ⟨wq.heap.size, s, none⟩ (.int .u8 (cc : Nat))) := HB3.out.setCell (p := ⟨wq.heap.size, s, none⟩) (Nat.le_refl _) _
      have hb4' : Below wr.heap.size wr (w3.setCell ⟨wq.heap.size, s, none⟩ (.int .u8 (cc : Nat))) := HBD.out.trans (hb4.mono (by rw [HSZ.out]; exact Nat.le_refl _))
      have HTM := Lib.hid (htm.sl (Nat.le_refl _) (by unfold maxLen; omega) (Pf.trm_by hcc) (Pf.trm_up s cc)); have HB4 := Lib.hid hb4'
      clear htm hb4 hb4' hfr hce
      generalize (w3.setCell ⟨wq.heap.size, s, none⟩ (.int .u8 (cc : Nat))) = w4 at *
      refine (radd_any qa (some ⟨wq.heap.size, 0, none⟩) qn qc (s + 1) (s + 1) Q (Pf.trm s cc) (by omega) (by omega) _ (HR.out.sq.same HB4.out) HTM.out).mono ?_
      rintro e w5 ⟨n5, hL5, a5, c5, rfl, hN5, hB5⟩
      have HL5 := Lib.hid hL5; have HQ5 := Lib.hid hN5.sl; have HB5 := Lib.hid (HB4.out.trans (hB5.mono HB4.out.size)); have HTM5 := Lib.hid (HTM.out.same hB5)
      clear hL5 hN5 hB5
      have HB05 := Lib.hid (HR.out.be.trans (HB5.out.mono hsz))
      have hs5 := HB05.out.size
      go_wp2_with fail
      refine (rprod_any (some ⟨wq.heap.size, 0, none⟩) (some ⟨b2, o2, none⟩) (s + 1) (s + 1) (t + 1) c2 (Pf.trm s cc) b (by omega) (by omega) _ HTM5.out (HN2.out.same HB05.out)).mono ?_
      rintro e w6 ⟨n6, hL6, a6, c6, rfl, hN6, hB6⟩
      have hn6 := Pf.Ln.le hL6 (Pf.pm_up1 (Pf.trm_up s cc) HN2.out.up (by omega))
      have HL6 := Lib.hid hL6; have HP6 := Lib.hid hN6.sl; have HQ6 := Lib.hid (HQ5.out.same hB6); have HR6 := Lib.hid ((HR.out.sr.same HB5.out).same hB6); have HB06 := Lib.hid (HB05.out.trans (hB6.mono hs5))
      clear hL6 hN6 hB6
      go_wp2_with fail
      refine (radd_any (some ⟨b1, o1, none⟩) a6 (t + s + 1) rc n6 c6 R (Pf.pm (Pf.trm s cc) b) (by omega) (by omega) _ HR6.out HP6.out).mono ?_
      rintro e w7 ⟨n7, hL7, a7, c7, rfl, hN7, hB7⟩
      have HX7 := Lib.hid (show RdS w2 w7 K t f b a7 n7 c7 (fun i => R i ^^^ Pf.pm (Pf.trm s cc) b i) a5 n5 c5 (fun i => Q i ^^^ Pf.trm s cc i) from
        ⟨hN7.sl, hL7, HQ6.out.same hB7, HL5.out, fun i hi => by
          show Q i ^^^ Pf.trm s cc i = 0
          rw [HR.out.qk i hi, Pf.trm_up s cc i (by omega)]; rfl, Nat.le_trans (hL7.le HST.out.2) (by omega), HST.out.1, HB06.out.trans (hB7.mono HB06.out.size)⟩)
      have hn7 := hL7.le HST.out.2
      clear hN7 hL7 hB7
      go_wp2
      go_roundw
      case rel => exact ⟨_, _, _, _, _, _, _, _, rfl, rfl, HX7.out⟩
      case measure => simp [lenOf]; omega
    · have i1 : ¬ (t : Int) + 1 ≤ (rn : Int) := by omega
      have HR := Lib.hid hR; have HLT := Lib.hid (show rn < t + 1 by omega)
      clear hR hlt
      go_wp2
      go_ret3
      exact Or.inr (Or.inr ⟨⟨by rw [← HKK.out]; exact HKK.out ▸ G.out, by rw [HT.out]; exact G2.out⟩, HNZ.out, qa, qn, qc, Q, ra, rn, rc, R, rfl, HR.out.sq, HR.out.lq, HR.out.sr, HR.out.lr, by rw [HT.out]; exact HLT.out, HR.out.id, HB2.out.trans (HR.out.be.mono HB2.out.size)⟩)
end Go.Proofs.Ytmabdfcabpnabaa
