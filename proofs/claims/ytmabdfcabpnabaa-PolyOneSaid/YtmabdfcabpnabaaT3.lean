import Derived.Test.YtmabdfcabpnabaaA2
import Derived.Test.YtmabdfcabpnabaaP9
import Derived.Test.YtmabdfcabpnabaaPe
namespace Go.Proofs.Ytmabdfcabpnabaa
open Go.RowKit Go.Shelf

namespace Pf
open Gf
theorem quot_le {f b Q R : Nat → Nat} {t nq l : Nat} (hb : By b) (hQ : By Q) (hbl : Ln b (t + 1)) (hq : Ln Q nq) (hr : Up R t) (hf : Up f l) (h : ∀ i, f i = pm Q b i ^^^ R i) : nq ≤ l := by
  rcases Nat.eq_zero_or_pos nq with e | hp
  · omega
  rcases Nat.lt_or_ge l nq with hlt | hge
  · exfalso
    have hl := pm_Ln hQ hb hq hbl
    have e : pl nq (t + 1) = nq + t := by unfold pl; rw [if_neg (by omega)]; omega
    rw [e] at hl
    rcases hl.2 with h0 | h0
    · omega
    · have h1 := h (nq + t - 1)
      rw [hf _ (by omega), hr _ (by omega), Nat.xor_zero] at h1
      exact h0 h1.symm
  · exact hge
theorem ev_add {f g : Nat → Nat} {x l l' n : Nat} (hf : By f) (hg : By g) (hx : x < 256) (hfu : Up f l) (hgu : Up g l') (hn : Up (fun i => f i ^^^ g i) n) : ev (fun i => f i ^^^ g i) x n = ev f x l ^^^ ev g x l' := by
  have h1 : Up (fun i => f i ^^^ g i) (l + l') := fun i hi => by show f i ^^^ g i = 0; rw [hfu i (by omega), hgu i (by omega)]; rfl
  rw [ev_any x h1 hn, ev_xor hf hg hx, ev_any x hfu (hfu.mono (Nat.le_add_right l l')), ev_any x hgu (hgu.mono (Nat.le_add_left l' l))]
end Pf

set_option maxHeartbeats 1000000 in
set_option maxRecDepth 100000 in
theorem leanb_any (a : Option Addr) (l c : Nat) (f : Nat → Nat) (w : World) (h : Sl w a l c f) (hL : Pf.Ln f l) (hl : l ≤ 1000000000000) :
    Calls Try.prog 25 #[.slice a l c] w fun e w' => e = .returned (.bool true) ∧ ∃ q, w' = w.drewN q := by
  have H := Lib.hid h; have HL := Lib.hid hL; clear h hL
  cases l with
  | zero =>
    go_enter Try.func25, Try.ntmps25
    go_wp2
    go_ret
    exact ⟨rfl, 0, rfl⟩
  | succ k =>
    obtain ⟨b1, o1, e1, c1⟩ := H.out.at_ (Nat.lt_succ_self k)
    have hne : f k ≠ 0 := by
      rcases HL.out.2 with h | h
      · omega
      · exact h
    have hb := H.out.bytes k
    have E1 := Lib.hid (show a = some ⟨b1, o1, none⟩ from e1)
    subst e1
    have g1 : (((k + 1 : Nat) : Int) == 0) = false := by simp; omega
    have g2 : (((f k : Nat) : Int) != 0) = true := by simp; omega
    go_enter Try.func25, Try.ntmps25
    go_wp2
    go_ret
    exact ⟨rfl, 0, rfl⟩

set_option maxHeartbeats 4000000 in
set_option maxRecDepth 100000 in
theorem polyValues_any (a a' : Option Addr) (l c l' c' x : Nat) (f g : Nat → Nat) (w : World) (h1 : Sl w a l c f) (h2 : Sl w a' l' c' g) (hx : x < 256) (hc : c ≤ 140737488351232) (hc' : c' ≤ 140737488351232) :
    Calls Try.prog 7 #[.slice a l c, .slice a' l' c', .int .u8 (x : Nat)] w fun e w' => e = .returned (.bool true) ∧ Below w.heap.size w w' := by
  have b1 := h1.capOk
  have b2 := h2.capOk
  have H1 := Lib.hid h1; have H2 := Lib.hid h2; clear h1 h2
  go_enter Try.func7, Try.ntmps7
  go_wp2_with fail
  refine (awake2_any _).mono ?_
  rintro e w1 ⟨rfl, hB⟩
  have HB1 := Lib.hid hB; clear hB
  by_cases hfar : 300 < l + l'
  · have hf' : (300 : Int) < (l : Int) + (l' : Int) := by omega
    go_wp2
    go_ret
    exact ⟨rfl, HB1.out⟩
  have hf' : ¬ (300 : Int) < (l : Int) + (l' : Int) := by omega
  have k1 := Pf.ln_le f l
  have k2 := Pf.ln_le g l'
  go_wp2_with fail
  refine (new_any _).mono ?_
  rintro e w2 ⟨rfl, hF, hB2⟩
  have hfb := World.block_lt_of_cell? _ _ (hF 0 (by omega)).1
  have HF := Lib.hid hF; have HB2 := Lib.hid (HB1.out.trans (hB2.mono HB1.out.size)); have HFB := Lib.hid hfb; clear hF hB2 hfb
  go_wp2_with fail
  refine (pvalue_any a l c f x hx (by omega) _ (H1.out.same HB2.out)).mono ?_
  rintro e w3 ⟨rfl, hB3⟩
  have HF3 := Lib.hid (HF.out.below hB3 HFB.out); have HFB3 := Lib.hid (Nat.lt_of_lt_of_le HFB.out hB3.size); have HB3 := Lib.hid (HB2.out.trans (hB3.mono HB2.out.size)); clear hB3
  go_wp2_with fail
  refine (pvalue_any a' l' c' g x hx (by omega) _ (H2.out.same HB3.out)).mono ?_
  rintro e w4 ⟨rfl, hB4⟩
  have HF4 := Lib.hid (HF3.out.below hB4 HFB3.out); have HFB4 := Lib.hid (Nat.lt_of_lt_of_le HFB3.out hB4.size); have HB4 := Lib.hid (HB3.out.trans (hB4.mono HB3.out.size)); clear hB4
  go_wp2_with fail
  refine (pmul_any a a' l c l' c' f g (by omega) (by omega) _ (H1.out.same HB4.out) (H2.out.same HB4.out)).mono ?_
  rintro e w5 (⟨h, _⟩ | ⟨_, am, nm, cm, rfl, hM, hLm, hB5⟩)
  · omega
  have hnm : nm ≤ l + l' := hLm.le (Pf.pm_up H1.out.up H2.out.up)
  have HF5 := Lib.hid (HF4.out.below hB5 HFB4.out); have HFB5 := Lib.hid (Nat.lt_of_lt_of_le HFB4.out hB5.size); have HB5 := Lib.hid (HB4.out.trans (hB5.mono HB4.out.size)); have HM := Lib.hid hM.sl; have HLM := Lib.hid hLm; clear hB5 hM hLm
  go_wp2_with fail
  refine (addp_loop a a' l c l' c' f g (by omega) (by omega) _ (H1.out.same HB5.out) (H2.out.same HB5.out)).mono ?_
  rintro e w6 ⟨n6, hL6, a6, c6, rfl, hN6, hB6⟩
  have hn6 : n6 ≤ l + l' := hL6.le (fun i hi => by show f i ^^^ g i = 0; rw [H1.out.up i (by omega), H2.out.up i (by omega)]; rfl)
  have ev6 := Pf.ev_add H1.out.bytes H2.out.bytes hx H1.out.up H2.out.up hL6.1
  have HM6 := Lib.hid (HM.out.same hB6); have HF6 := Lib.hid (HF5.out.below hB6 HFB5.out); have HFB6 := Lib.hid (Nat.lt_of_lt_of_le HFB5.out hB6.size); have HB6 := Lib.hid (HB5.out.trans (hB6.mono HB5.out.size)); have HN6 := Lib.hid hN6.sl; clear hB6 hN6 hL6
  go_wp2_with fail
  refine (pvalue_any a6 n6 c6 _ x hx (by omega) _ HN6.out).mono ?_
  rw [ev6]
  rintro e w7 ⟨rfl, hB7⟩
  have HM7 := Lib.hid (HM6.out.same hB7); have HF7 := Lib.hid (HF6.out.below hB7 HFB6.out); have HFB7 := Lib.hid (Nat.lt_of_lt_of_le HFB6.out hB7.size); have HB7 := Lib.hid (HB6.out.trans (hB7.mono HB6.out.size)); clear hB7 ev6
  have v1 := Pf.ev_lt (n := l) H1.out.bytes hx
  have v2 := Pf.ev_lt (n := l') H2.out.bytes hx
  have evm := Pf.pm_ev H1.out.bytes H2.out.bytes hx H1.out.up H2.out.up HLM.out.1
  have EVM := Lib.hid evm; clear evm
  have gE1 : (((Pf.ev f x l ^^^ Pf.ev g x l' : Nat) : Int) != ((Pf.ev f x l ^^^ Pf.ev g x l' : Nat) : Int)) = false := by simp
  have gE2 : (((Gf.mul (Pf.ev f x l) (Pf.ev g x l') : Nat) : Int) != ((Gf.mul (Pf.ev f x l) (Pf.ev g x l') : Nat) : Int)) = false := by simp
  go_wp2_with fail
  refine (add_nat (Pf.ev f x l) (Pf.ev g x l') v1 v2 _).mono ?_
  rintro e w8 ⟨rfl, rfl⟩
  go_wp2_with fail
  refine (pvalue_any am nm cm _ x hx (by omega) _ HM7.out).mono ?_
  rw [EVM.out]
  rintro e w9 ⟨rfl, hB9⟩
  have HM9 := Lib.hid (HM7.out.same hB9); have HF9 := Lib.hid (HF7.out.below hB9 HFB7.out); have HB9 := Lib.hid (HB7.out.trans (hB9.mono HB7.out.size)); clear hB9
  go_wp2_with fail
  refine (mul_nat _ (Pf.ev f x l) (Pf.ev g x l') v1 v2 _ HF9.out).mono ?_
  rintro e w10 ⟨rfl, q, rfl⟩
  go_wp2_with fail
  refine (leanb_any am nm cm _ _ (HM9.out.drewN _) HLM.out (by omega)).mono ?_
  rintro e w10 ⟨rfl, q2, rfl⟩
  clear gE1 gE2
  go_wp2_with fail
  refine (pdiv_any a a' l c l' c' f g (by omega) (by omega) _ ((H1.out.same HB9.out).drewN _) ((H2.out.same HB9.out).drewN _)).mono ?_
  rintro e w11 (⟨h, _⟩ | ⟨_, h0, rfl, hB11⟩ | ⟨_, h0, aq, nq, cq, qf, ar, nr, cr, rf, rfl, hQ, hLq, hR, hLr, hlt, hid, _, hB11⟩)
  · omega
  · have HB11 := Lib.hid ((below_drewN HB9.out _).trans (hB11.mono HB9.out.size)); clear hB11
    go_wp2_with fail
    refine (lean_any a' l' c' g (by omega) _ (H2.out.same HB11.out)).mono ?_
    rw [h0]
    rintro e w12 ⟨a12, c12, rfl, hN12, hB12⟩
    have HB12 := Lib.hid (HB11.out.trans (hB12.mono HB11.out.size)); clear hB12 hN12
    go_wp2
    go_ret
    exact ⟨rfl, HB12.out⟩
  obtain ⟨t, ht⟩ : ∃ t, Pf.ln g l' = t + 1 := ⟨Pf.ln g l' - 1, by omega⟩
  have hlg : Pf.Ln g (t + 1) := by rw [← ht]; exact Pf.ln_Ln l' H2.out.up
  rw [ht] at hlt
  have hid' : ∀ i, f i = Pf.pm qf g i ^^^ rf i := fun i => by rw [hid i, Pf.cv_eq hLq.1]
  have hnq : nq ≤ l := Pf.quot_le H2.out.bytes hQ.sl.bytes hlg hLq (hLr.1.mono (by omega)) H1.out.up hid'
  have hfun : (fun i => Pf.pm qf g i ^^^ rf i) = f := funext fun i => (hid' i).symm
  have hnr : nr ≤ t := by omega
  have htl : t ≤ 300 := by omega
  have HQ := Lib.hid hQ.sl; have HLQ := Lib.hid hLq; have HR := Lib.hid hR.sl; have HLR := Lib.hid hLr; have HFUN := Lib.hid hfun; have HLG := Lib.hid hlg; have HT := Lib.hid ht
  have HB11 := Lib.hid ((below_drewN HB9.out _).trans (hB11.mono HB9.out.size)); have HM11 := Lib.hid ((HM9.out.drewN _).same hB11)
  clear h0 hQ hLq hR hLr hid hid' hB11 hfun hlg ht
  go_wp2_with fail
  refine (lean_any a' l' c' g (by omega) _ (H2.out.same HB11.out)).mono ?_
  rw [HT.out]
  rintro e w12 ⟨a12, c12, rfl, hN12, hB12⟩
  have HQ12 := Lib.hid (HQ.out.same hB12); have HR12 := Lib.hid (HR.out.same hB12); have HM12 := Lib.hid (HM11.out.same hB12)
  have HB12 := Lib.hid (HB11.out.trans (hB12.mono HB11.out.size)); clear hB12 hN12
  have g0 : (((t + 1 : Nat) : Int) == 0) = false := by simp; omega
  go_wp2_with fail
  refine (pmul_any aq a' nq cq l' c' qf g (by omega) (by omega) _ HQ12.out (H2.out.same HB12.out)).mono ?_
  rintro e w13 (⟨h, _⟩ | ⟨_, ab, nb, cb, rfl, hN13, hL13, hB13⟩)
  · have := Pf.ln_le qf nq; omega
  have hnb : nb ≤ nq + l' := hL13.le (Pf.pm_up HQ12.out.up H2.out.up)
  have HQ13 := Lib.hid (HQ12.out.same hB13); have HR13 := Lib.hid (HR12.out.same hB13); have HM13 := Lib.hid (HM12.out.same hB13); have HBk := Lib.hid hN13.sl
  have HB13 := Lib.hid (HB12.out.trans (hB13.mono HB12.out.size)); clear hB13 hN13 hL13
  go_wp2_with fail
  refine (pdiv_any am a' nm cm l' c' (Pf.pm f g) g (by omega) (by omega) _ HM13.out (H2.out.same HB13.out)).mono ?_
  rintro e w14 (⟨h, _⟩ | ⟨_, h0, _⟩ | ⟨_, h0, aq', nq', cq', qf', ar', nr', cr', rf', rfl, hQ', hLq', hR', hLr', hlt', hid, _, hB14⟩)
  · have := Pf.ln_le (Pf.pm f g) nm; omega
  · have := HT.out; omega
  rw [HT.out] at hlt'
  obtain ⟨hq, hr⟩ := Pf.long_uniq (f := Pf.pm f g) (Q := f) (Q' := qf') (R := fun _ => 0) (R' := rf') H2.out.bytes H1.out.bytes hQ'.sl.bytes HLG.out H1.out.up hLq'.1 (fun _ _ => rfl) (hLr'.1.mono (by omega)) (fun i => by show _ = _ ^^^ 0; rw [Nat.xor_zero]) (fun i => by rw [hid i, Pf.cv_eq hLq'.1])
  subst hq hr
  obtain rfl : 0 = nr' := Pf.Ln.uniq ⟨fun _ _ => rfl, Or.inl rfl⟩ hLr'
  obtain rfl : Pf.ln f l = nq' := Pf.Ln.uniq (Pf.ln_Ln l H1.out.up) hLq'
  have HC := Lib.hid hQ'.sl
  have HR14 := Lib.hid (HR13.out.same hB14); have HQ14 := Lib.hid (HQ13.out.same hB14); have HBk14 := Lib.hid (HBk.out.same hB14)
  have HB14 := Lib.hid (HB13.out.trans (hB14.mono HB13.out.size))
  clear hQ' hLq' hR' hLr' hlt' hid hB14 h0
  go_wp2_with fail
  refine (lean_any a' l' c' g (by omega) _ (H2.out.same HB14.out)).mono ?_
  rw [HT.out]
  rintro e w15 ⟨a15, c15, rfl, hN15, hB15⟩
  have HQ15 := Lib.hid (HQ14.out.same hB15); have HR15 := Lib.hid (HR14.out.same hB15); have HC15 := Lib.hid (HC.out.same hB15); have HBk15 := Lib.hid (HBk14.out.same hB15)
  have HB15 := Lib.hid (HB14.out.trans (hB15.mono HB14.out.size)); clear hB15 hN15
  have hlt2 : ((nr : Nat) : Int) < ((t + 1 : Nat) : Int) := by omega
  go_wp2_with fail
  refine (leanb_any ar nr cr rf _ HR15.out HLR.out (by omega)).mono ?_
  rintro e w16 ⟨rfl, q3, rfl⟩
  go_wp2_with fail
  refine (leanb_any aq nq cq qf _ (HQ15.out.drewN _) HLQ.out (by omega)).mono ?_
  rintro e w16 ⟨rfl, q4, rfl⟩
  go_wp2_with fail
  refine (addp_loop ab ar nb cb nr cr _ rf (by omega) (by omega) _ (HBk15.out.drewN _) (HR15.out.drewN _)).mono ?_
  rw [HFUN.out]
  rintro e w17 ⟨n17, hL17, a17, c17, rfl, hN17, hB17⟩
  obtain rfl : Pf.ln f l = n17 := Pf.Ln.uniq (Pf.ln_Ln l H1.out.up) hL17
  have HS17 := Lib.hid hN17.sl; have HC17 := Lib.hid ((HC15.out.drewN _).same hB17)
  have HB17 := Lib.hid ((below_drewN HB15.out _).trans (hB17.mono HB15.out.size)); clear hB17 hN17 hL17
  go_wp2_with fail
  refine (lean_any a l c f (by omega) _ (H1.out.same HB17.out)).mono ?_
  rintro e w18 ⟨a18, c18, rfl, hN18, hB18⟩
  have HS18 := Lib.hid (HS17.out.same hB18); have HC18 := Lib.hid (HC17.out.same hB18); have HN18 := Lib.hid hN18.sl
  have HB18 := Lib.hid (HB17.out.trans (hB18.mono HB17.out.size)); clear hB18 hN18
  go_wp2_with fail
  refine (same_any a17 a18 (Pf.ln f l) c17 c18 f (by omega) _ HS18.out HN18.out).mono ?_
  rintro e w19 ⟨rfl, q5, rfl⟩
  go_wp2_with fail
  refine (lean_any a l c f (by omega) _ ((H1.out.same HB18.out).drewN _)).mono ?_
  rintro e w20 ⟨a20, c20, rfl, hN20, hB20⟩
  have HC20 := Lib.hid ((HC18.out.drewN _).same hB20); have HN20 := Lib.hid hN20.sl
  have HB20 := Lib.hid ((below_drewN HB18.out _).trans (hB20.mono HB18.out.size)); clear hB20 hN20
  go_wp2_with fail
  refine (same_any aq' a20 (Pf.ln f l) cq' c20 f (by omega) _ HC20.out HN20.out).mono ?_
  rintro e w21 ⟨rfl, q6, rfl⟩
  go_wp2
  go_ret
  exact ⟨rfl, below_drewN HB20.out _⟩
end Go.Proofs.Ytmabdfcabpnabaa
