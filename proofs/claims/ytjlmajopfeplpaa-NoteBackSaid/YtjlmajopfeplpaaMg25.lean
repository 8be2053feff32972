import Derived.BigQuiet
import Derived.Deep.CutBlock
import Derived.Test.YtjlmajopfeplpaaMg24
namespace Go.Proofs.Ytjlmajopfeplpaa.Nt
open Go.RowKit Go.Shelf
attribute [local go_sem] Oper.semAt_some

/-- what was sealed, as it is parsed. -/
theorem sealed_perr {rn : Nat} {rf : Nat → Nat} (h : perr (rn + 4) (Crc.sealed rf rn) = 0) : Crc.sealed rf rn 0 = 2 ∧ GoodP rn (Crc.sealed rf rn) := by
  unfold perr at h
  rw [if_neg (by omega), Nat.add_sub_cancel] at h
  have hok : okB (Crc.sealed rf rn) rn = true := sealed_ok rn
  rw [hok, if_neg (by decide)] at h
  by_cases h4 : rn + 4 = 4
  · rw [if_pos h4] at h; cases h
  rw [if_neg h4] at h
  by_cases h1 : Crc.sealed rf rn 0 ≠ 2
  · rw [if_pos h1] at h; cases h
  rw [if_neg h1] at h
  by_cases hg : GoodP rn (Crc.sealed rf rn)
  · exact ⟨by omega, hg⟩
  · rw [if_neg hg] at h; cases h
/-- what is parsed is put again. -/
theorem put_again {rn : Nat} {rf : Nat → Nat} (hb : Pf.By rf) (h1 : Crc.sealed rf rn 0 = 2) (hg : GoodP rn (Crc.sealed rf rn)) (i : Nat) : Crc.sealed (pl (nt (Crc.sealed rf rn))) rn i = Crc.sealed rf rn i :=
  sealed_same (fun j hj => by
    have hF : Pf.By (Crc.sealed rf rn) := sealed_bytes hb rn
    have h9 := hg.1
    rw [pl_nt hF h1 j (by omega), Crc.sealed_lo hj]) i
theorem flip_one (s : Nat → Nat) (k : Nat) : ∀ i, 1 ≤ i → ∀ j, flipT s k 1 i j = if j = k / 8 then s (k / 8) ^^^ 2 ^ (k % 8) else s j
  | 0, h, _ => absurd h (by omega)
  | 1, _, j => by
    have h := flipT_yes (s := s) (k := k) (w := 1) (i := 0) (by decide) j
    rw [← h]; rfl
  | i + 2, _, j => by
    rw [← flipT_no (s := s) (k := k) (w := 1) (i := i + 1) (by rw [Nat.testBit_succ]; exact Nat.zero_testBit i) j]
    exact flip_one s k (i + 1) (by omega) j
theorem anyT_one : ∀ i, 1 ≤ i → anyT 1 i = true
  | 0, h => absurd h (by omega)
  | 1, _ => rfl
  | i + 2, _ => by unfold anyT; rw [anyT_one (i + 1) (by omega)]; rfl
/-- one bit turned is told. -/
theorem flip_perr {f : Nat → Nat} {n k : Nat} (hf : Pf.By f) (hk : k < 8 * (n + 4)) {F : Nat → Nat} (hF : ∀ j, F j = if j = k / 8 then Crc.sealed f n (k / 8) ^^^ 2 ^ (k % 8) else Crc.sealed f n j) : perr (n + 4) F = 10 := by
  obtain ⟨I, hI⟩ : ∃ I, I = min 32 (8 * (n + 4) - k) := ⟨_, rfl⟩
  have ht := flip_told (w := 1) (I := I) hf (by decide) (by omega) (by omega) (k := k) (n := n) (by omega) (anyT_one I (by omega))
  have hFF : F = flipT (Crc.sealed f n) k 1 I := funext fun j => by rw [hF j, flip_one _ _ I (by omega)]
  rw [← hFF] at ht
  unfold perr
  rw [if_neg (by omega), Nat.add_sub_cancel, if_pos (show okB F n = false from ht)]

set_option maxHeartbeats 8000000 in
set_option maxRecDepth 100000 in
theorem noteBack_any (h : Mn) (a : Option Addr) (c : Nat) (hm : h.m ≤ 8796093022208) (ra : Option Addr) (rn rc : Nat) (rf : Nat → Nat) (bit : Int) (hrm : rn ≤ 140737488355328) (w : World) (hT : Tb w a h.m h.C h.T) (hr : Sl w ra rn rc rf) :
    Calls Try.prog 6 #[nV h a c, .slice ra rn rc, .int .i64 bit] w fun e w' => e = .returned (.bool true) ∧ Below w.heap.size w w' := by
  obtain ⟨w0, hw0⟩ : ∃ w0, w0 = w.alloc (.cells #[.int .i64 h.S, .int .i64 h.Q, .int .i64 h.N, .slice a h.m c] 24) := ⟨_, rfl⟩
  have HX0 := Lib.hid (show NAt w0 w.heap.size h a c by rw [hw0]; exact heap_alloc_new _ _)
  have HB0 := Lib.hid (show Below w.heap.size w w0 by rw [hw0]; exact (Below.refl _ w).alloc (Nat.le_refl _) _)
  have HT := Lib.hid hT; have HR := Lib.hid hr; have HW0 := Lib.hid hw0
  have HPUT := Lib.hid (fun W hT => pput_any h a c (by omega) W hT)
  have HRI := Lib.hid (fun W hT => pright_any h a c (by omega) W hT)
  unfold nV at HPUT HRI ⊢
  clear hT hr hw0
  obtain ⟨wg, hwg⟩ : ∃ wg, wg = w.heap.size := ⟨_, rfl⟩
  go_enter Try.func6, Try.ntmps6
  go_upto_region 1 with fail
  rw [← HW0.out, ← hwg]
  rw [← hwg] at HX0
  clear HW0 hwg
  have HM := Lib.hid hm
  go_wp2_with fail
  refine (awake15_any w0).mono ?_
  rintro e w1 ⟨rfl, hB1⟩
  have HX1 := Lib.hid (HX0.out.same hB1)
  have HB1 := Lib.hid (HB0.out.trans (hB1.mono HB0.out.size))
  clear hB1 HX0 HB0
  obtain ⟨c0, c1, c2, c3⟩ := HX1.out.c
  by_cases hbig : h.m + rn ≤ 5000
  rotate_left
  · have j1 : (5000 : Int) < (h.m : Int) + (rn : Int) := by omega
    go_wp2
    go_ret
    exact ⟨rfl, HB1.out⟩
  have j1 : ¬ (5000 : Int) < (h.m : Int) + (rn : Int) := by omega
  have HBIG := Lib.hid hbig
  go_wp2_with fail
  clear c0 c1 c2 c3 j1 hbig hrm hm
  refine (pseal_any ra rn rc rf (by have := HBIG.out; omega) w1 (HR.out.same HB1.out)).mono ?_
  rintro e w2 ⟨g, C, rfl, hg, hC, hbl, hB2⟩
  obtain ⟨F, hF⟩ : ∃ F, F = Crc.sealed rf rn := ⟨_, rfl⟩
  rw [← hF] at hbl
  have HF := Lib.hid hF
  have HSL2 := Lib.hid (show Sl w2 (some ⟨g, 0, none⟩) (rn + 4) (rn + 4) F from hbl.sl2 (Nat.le_refl _) (by unfold maxLen; have := HBIG.out; omega) (by rw [hF]; exact sealed_bytes HR.out.bytes _) (by rw [hF]; exact sealed_upto _ _))
  have HX2 := Lib.hid (HX1.out.same hB2)
  have HB2 := Lib.hid (HB1.out.trans (hB2.mono HB1.out.size))
  obtain ⟨R, hRR⟩ : ∃ R, R = rn + 4 := ⟨_, rfl⟩
  rw [← hRR] at HSL2 ⊢
  have HRR := Lib.hid hRR
  clear hg hC hbl hB2 hF hRR HX1 HB1
  go_wp2_with fail
  refine (pparse_any (some ⟨g, 0, none⟩) R R F (by have := HBIG.out; have := HRR.out; omega) w2 HSL2.out).mono ?_
  rintro e w3 ⟨hpar, hB3⟩
  have HX3 := Lib.hid (HX2.out.same hB3)
  have HB3 := Lib.hid (HB2.out.trans (hB3.mono HB2.out.size))
  clear hB3 HX2 HB2 HSL2
  have HRE := Lib.hid (show ∃ hx qa qc er, e = .returned (.tuple #[nV hx qa qc, .int .i64 er]) ∧ (er ≠ 0 ∨ (er = 0 ∧ RN hx ∧ 9 + 3 * hx.m = rn ∧ Tb w3 qa hx.m hx.C hx.T ∧ ∀ i, Crc.sealed (pl hx) rn i = F i)) from by
    rcases hpar with ⟨hp0, rfl⟩ | ⟨hp0, qa, qc, rfl, ho⟩
    · exact ⟨nz, none, 0, _, rfl, Or.inl hp0⟩
    · rw [HRR.out, HF.out] at hp0
      obtain ⟨hp1, hp2⟩ := sealed_perr hp0
      rw [HF.out] at *
      exact ⟨_, qa, qc, 0, rfl, Or.inr ⟨rfl, hp2.2, hp2.1.symm, (tdl_tb ho).1, fun i => put_again HR.out.bytes hp1 hp2 i⟩⟩)
  obtain ⟨hx, qa, qc, er, rfl, hcase⟩ := HRE.out
  have HC := Lib.hid hcase
  clear HRE hcase hpar
  unfold nV
  go_upto_region 6 with fail
  obtain ⟨w4, hw4⟩ : ∃ w4, w4 = w3.alloc (.cells #[.int .i64 hx.S, .int .i64 hx.Q, .int .i64 hx.N, .slice qa hx.m qc] 24) := ⟨_, rfl⟩
  rw [← hw4]
  have hb4 : Below w3.heap.size w3 w4 := by rw [hw4]; exact (Below.refl _ w3).alloc (Nat.le_refl _) _
  have HY4 := Lib.hid (show NAt w4 w3.heap.size hx qa qc by rw [hw4]; exact heap_alloc_new _ _)
  have HX4 := Lib.hid (HX3.out.same hb4)
  have HB4 := Lib.hid (HB3.out.trans (hb4.mono HB3.out.size))
  have HC4 := Lib.hid (show er ≠ 0 ∨ (er = 0 ∧ RN hx ∧ 9 + 3 * hx.m = rn ∧ Tb w4 qa hx.m hx.C hx.T ∧ ∀ i, Crc.sealed (pl hx) rn i = F i) from HC.out.imp id fun ⟨q1, q2, q4, q5, q7⟩ => ⟨q1, q2, q4, q5.same hb4, q7⟩)
  generalize w3.heap.size = w3s at *
  clear hw4 hb4 HX3 HB3 HC
  go_upto_if 34 with fail
  go_cut [9, 10] (fun _ _ wx => NAt wx wg h a c ∧ Below w.heap.size w wx)
  case first =>
    rcases HC4.out with h0 | ⟨h0, hRx, hlen, hTx, hFx⟩
    · have g1 : (er == 0) = false := by simpa using h0
      clear h0
      go_wp2
      go_meet
      exact ⟨HX4.out, HB4.out⟩
    · have g1 : (er == 0) = true := by simpa using h0
      have HRX := Lib.hid hRx; have HLEN := Lib.hid hlen; have HTX := Lib.hid hTx; have HFX := Lib.hid hFx
      clear h0 hRx hlen hTx hFx HC4
      obtain ⟨c0, c1, c2, c3⟩ := HY4.out.c
      have HPX := Lib.hid (pput_any hx qa qc (by have := HLEN.out; have := HBIG.out; omega) w4 HTX.out)
      unfold nV at HPX
      go_wp2_with fail
      clear c0 c1 c2 c3
      refine HPX.out.mono ?_
      rintro e w5 ⟨hput, hB5⟩
      rcases hput with ⟨hq1, g5, C5, rfl, hq3, hC5, hbl5⟩ | ⟨hno, _⟩
      rotate_left
      · exact absurd HRX.out hno
      have e5 : 9 + 3 * hx.m + 4 = R := by have := HLEN.out; have := HRR.out; omega
      rw [e5] at hC5 hbl5 ⊢
      rw [HLEN.out] at hbl5
      have HBL5 := Lib.hid (show Bl w5 g5 R C5 F from hbl5.congr fun i _ => HFX.out i)
      have HX5 := Lib.hid (HX4.out.same hB5)
      have HY5 := Lib.hid (HY4.out.same hB5)
      have HT5 := Lib.hid (HTX.out.same hB5)
      have HB5 := Lib.hid (HB4.out.trans (hB5.mono HB4.out.size))
      clear hq1 hq3 hB5 hC5 hbl5 e5 HPX HX4 HY4 HTX HFX HB4
      go_wp2_with fail
      refine (pseal_any ra rn rc rf (by have := HBIG.out; omega) w5 (HR.out.same HB5.out)).mono ?_
      rintro e w6 ⟨g6, C6, rfl, hg6, hC6, hbl6, hB6⟩
      rw [← HF.out, ← HRR.out] at hbl6
      rw [← HRR.out]
      have hFb : Pf.By F := by rw [HF.out]; exact sealed_bytes HR.out.bytes _
      have hFu : Pf.Up F R := by rw [HF.out, HRR.out]; exact sealed_upto _ _
      have hRm : R ≤ maxLen := by unfold maxLen; have := HRR.out; have := HBIG.out; omega
      have HS6 := Lib.hid (show Sl w6 (some ⟨g5, 0, none⟩) R R F from (HBL5.out.sl2 (Nat.le_refl _) hRm hFb hFu).same hB6)
      have HS7 := Lib.hid (show Sl w6 (some ⟨g6, 0, none⟩) R R F from hbl6.sl2 (Nat.le_refl _) hRm hFb hFu)
      have HX6 := Lib.hid (HX5.out.same hB6)
      have HY6 := Lib.hid (HY5.out.same hB6)
      have HT6 := Lib.hid (HT5.out.same hB6)
      have HB6 := Lib.hid (HB5.out.trans (hB6.mono HB5.out.size))
      clear hFb hFu hRm hg6 hC6 hbl6 hB6 HX5 HY5 HT5 HB5 HBL5
      go_wp2_with fail
      refine (same_any (some ⟨g5, 0, none⟩) (some ⟨g6, 0, none⟩) R R R F (by have := HRR.out; have := HBIG.out; omega) w6 HS6.out HS7.out).mono ?_
      rintro e w7 ⟨rfl, q7, hq7⟩
      have hB7 : Below w6.heap.size w6 w7 := by rw [hq7]; exact below_dr (Below.refl _ _) q7
      have HX7 := Lib.hid (HX6.out.same hB7)
      have HY7 := Lib.hid (HY6.out.same hB7)
      have HT7 := Lib.hid (HT6.out.same hB7)
      have HB7 := Lib.hid (HB6.out.trans (hB7.mono HB6.out.size))
      clear hq7 hB7 HX6 HY6 HT6 HB6 HS6 HS7
      obtain ⟨c0, c1, c2, c3⟩ := HY7.out.c
      have HRI2 := Lib.hid (pright_any hx qa qc (by have := HLEN.out; have := HBIG.out; omega) w7 HT7.out)
      unfold nV at HRI2
      go_wp2_with fail
      clear c0 c1 c2 c3
      refine HRI2.out.mono ?_
      rintro e w8 ⟨⟨v, rfl, hv⟩, hB8⟩
      obtain rfl : v = true := hv.2 HRX.out
      have HX8 := Lib.hid (HX7.out.same hB8)
      have HB8 := Lib.hid (HB7.out.trans (hB8.mono HB7.out.size))
      clear hv hB8 HX7 HY7 HT7 HB7 HRI2
      go_wp2
      go_meet
      exact ⟨HX8.out, HB8.out⟩
  case rest =>
    obtain ⟨hxc, hbc⟩ := hcut
    have HXc := Lib.hid hxc; have HBc := Lib.hid hbc
    clear hxc hbc HX4 HY4 HB4 HC4
    obtain ⟨c0, c1, c2, c3⟩ := HXc.out.c
    go_wp2_with fail
    clear c0 c1 c2 c3
    refine (HPUT.out wc (HT.out.same HBc.out)).mono ?_
    rintro e wd ⟨hput, hBd⟩
    have HXd := Lib.hid (HXc.out.same hBd)
    have HBd := Lib.hid (HBc.out.trans (hBd.mono HBc.out.size))
    have HBc2 := Lib.hid HBc.out.size
    clear hBd HXc HBc HPUT
    rcases hput with ⟨hq1, gd, Cq, rfl, hq3, hCq, hbd⟩ | ⟨hno, rfl⟩
    rotate_left
    · have HNO := Lib.hid hno
      clear hno
      obtain ⟨c0, c1, c2, c3⟩ := HXd.out.c
      go_wp2_with fail
      clear c0 c1 c2 c3
      refine (HRI.out wd (HT.out.same HBd.out)).mono ?_
      rintro e we ⟨⟨v, rfl, hv⟩, hBe⟩
      have HBe := Lib.hid (HBd.out.trans (hBe.mono HBd.out.size))
      obtain rfl : v = false := by cases v; · rfl
                                   · exact absurd (hv.1 rfl) HNO.out
      clear hv hBe
      go_wp2
      go_ret
      exact ⟨rfl, HBe.out⟩
    have HRH := Lib.hid hq1
    have HM5 := Lib.hid (rn_few hq1)
    obtain ⟨T, hTT⟩ : ∃ T, T = 9 + 3 * h.m := ⟨_, rfl⟩
    have HTT := Lib.hid hTT
    obtain ⟨L, hL⟩ : ∃ L, L = 9 + 3 * h.m + 4 := ⟨_, rfl⟩
    rw [← hL] at hCq hbd ⊢
    rw [← hTT] at hbd
    have HL := Lib.hid (show L = T + 4 by omega)
    have HLB := Lib.hid (show L ≤ 1000 by have := HM5.out; omega)
    have HBD := Lib.hid hbd; have HGD := Lib.hid (show w.heap.size ≤ gd from Nat.le_trans HBc2.out hq3)
    have HPB := Lib.hid (show Pf.By (pl h) from pl_by h)
    have HSLd := Lib.hid (show Sl wd (some ⟨gd, 0, none⟩) L L (Crc.sealed (pl h) T) from hbd.sl2 (Nat.le_refl _) (by unfold maxLen; have := HLB.out; omega) (sealed_bytes HPB.out _) (by rw [HL.out]; exact sealed_upto _ _))
    clear hq1 hq3 hCq hbd hTT hL
    go_wp2_with fail
    refine (pparse_any (some ⟨gd, 0, none⟩) L L (Crc.sealed (pl h) T) (by have := HLB.out; omega) wd HSLd.out).mono ?_
    rintro e we ⟨hpar, hBe⟩
    have hpar2 : ParSays wd (9 + 3 * h.m + 4) (Crc.sealed (pl h) (9 + 3 * h.m)) e we := by
      rw [← HTT.out, ← HL.out]; exact hpar
    obtain ⟨xa, xc, rfl, ho⟩ := ParSays.put HRH.out hpar2
    have HXe := Lib.hid (HXd.out.same hBe)
    have HTe := Lib.hid (tdl_tb ho).1
    have HDe := Lib.hid (HBD.out.kept (hBe.block gd HBD.out.lt))
    have HBe := Lib.hid (HBd.out.trans (hBe.mono HBd.out.size))
    clear hpar hpar2 hBe ho HXd HBd HBD HSLd
    unfold nV
    go_upto_region 14 with fail
    obtain ⟨wf, hwf⟩ : ∃ wf, wf = we.alloc (.cells #[.int .i64 h.S, .int .i64 h.Q, .int .i64 h.N, .slice xa h.m xc] 24) := ⟨_, rfl⟩
    rw [← hwf]
    have hbf : Below we.heap.size we wf := by rw [hwf]; exact (Below.refl _ we).alloc (Nat.le_refl _) _
    have HYf := Lib.hid (show NAt wf we.heap.size h xa xc by rw [hwf]; exact heap_alloc_new _ _)
    have HXf := Lib.hid (HXe.out.same hbf)
    have HTf := Lib.hid (HTe.out.same hbf)
    have HDf := Lib.hid (HDe.out.kept (hbf.block gd HDe.out.lt))
    have HBf := Lib.hid (HBe.out.trans (hbf.mono HBe.out.size))
    generalize we.heap.size = wes at *
    clear hwf hbf HXe HTe HDe HBe
    obtain ⟨c0, c1, c2, c3⟩ := HXf.out.c
    obtain ⟨d0, d1, d2, d3⟩ := HYf.out.c
    have HSH := Lib.hid (sameNote_any h h xa a xc c (by have := HM5.out; omega) (by have := HM5.out; omega) wf HTf.out (HT.out.same HBf.out))
    unfold nV at HSH
    go_wp2_with fail
    clear c0 c1 c2 c3 d0 d1 d2 d3
    refine HSH.out.mono ?_
    rintro e wh ⟨⟨v, rfl, hv⟩, hBh⟩
    obtain rfl : v = true := hv.2 (EN.refl h)
    have HXh := Lib.hid (HXf.out.same hBh)
    have HDh := Lib.hid (HDf.out.kept (hBh.block gd HDf.out.lt))
    have HBh := Lib.hid (HBf.out.trans (hBh.mono HBf.out.size))
    clear hv hBh HSH HXf HYf HTf HDf HBf
    obtain ⟨M, hM⟩ : ∃ M, M = 8 * L := ⟨_, rfl⟩
    have e3 : 8 * (L : Int) = (M : Int) := by omega
    have k1 : ((L : Int) != 13 + 3 * (h.m : Int)) = false := by simp; have := HL.out; have := HTT.out; omega
    have HMM := Lib.hid hM
    have hlb := HLB.out
    have hm5 := HM5.out
    obtain ⟨c0, c1, c2, c3⟩ := HXh.out.c
    clear hM
    go_wp2_with fail
    clear c0 c1 c2 c3
    refine (spick_any bit M (by have := HMM.out; have := HL.out; omega) (by have := HMM.out; omega) wh).mono ?_
    rintro e wj ⟨⟨k, hk, rfl⟩, rfl⟩
    have hd8 : k / 8 < L := by have := HMM.out; omega
    have hr8 : k % 8 < 8 := Nat.mod_lt _ (by omega)
    have hp8 : 2 ^ (k % 8) < 256 := Nat.lt_of_lt_of_le (Nat.pow_lt_pow_right (a := 2) (by omega) hr8) (by decide)
    have hc := HDh.out.cell hd8
    have hf := HDh.out.free (k / 8)
    have HKM := Lib.hid (show k < 8 * (T + 4) by have := HMM.out; have := HL.out; omega)
    obtain ⟨v, hv⟩ : ∃ v, v = Crc.sealed (pl h) T (k / 8) := ⟨_, rfl⟩
    have hvb : v < 256 := by rw [hv]; exact sealed_bytes HPB.out _ _
    rw [← hv] at hc
    have HV := Lib.hid hv
    have hx := Crc.bit_in v (k % 8) hvb hr8
    have HXX := Lib.hid hx
    have hkm : k ≤ 1000000 := by have := HMM.out; omega
    have f2 : (k : Int).tdiv 8 = ((k / 8 : Nat) : Int) := rfl
    have f3 : (k : Int).tmod 8 = ((k % 8 : Nat) : Int) := rfl
    have f4 : IntKind.i64.wrap ((k / 8 : Nat) : Int) = ((k / 8 : Nat) : Int) := IntWalk.i64_in _ (by omega)
    clear hv hx k1 e3
    go_upto_region 17 with fail
    refine Rb.wp_region_quiet_tail 13 (by kernel_rfl) (by kernel_rfl) ?_
    simp only [List.take_succ_cons, List.take_zero, List.drop_succ_cons, List.drop_zero]
    repeat (go_big_quiet_step (fail))
    refine wpQuiet_nil ?_
    rintro _ ⟨kk, rfl⟩
    clear f2 f3 f4
    go_upto_region 18 with fail
    rw [HXX.out]
    have HDj := Lib.hid ((HDh.out.drewN kk).set hd8 (v ^^^ 2 ^ (k % 8)))
    have HBj := Lib.hid ((HBh.out.trans (below_dr (Below.refl _ wj) kk |>.mono HBh.out.size)).setCell (p := ⟨gd, k / 8, none⟩) (by have := HGD.out; exact this) (.int .u8 ((v ^^^ 2 ^ (k % 8) : Nat) : Int)))
    obtain ⟨wk, hwk⟩ : ∃ wk, wk = (wj.drewN kk).setCell ⟨gd, k / 8, none⟩ (.int .u8 ((v ^^^ 2 ^ (k % 8) : Nat) : Int)) := ⟨_, rfl⟩
    rw [← hwk] at HDj HBj ⊢
    obtain ⟨G, hG⟩ : ∃ G : Nat → Nat, G = fun j => if j = k / 8 then v ^^^ 2 ^ (k % 8) else Crc.sealed (pl h) T j := ⟨_, rfl⟩
    have hGb : Pf.By G := fun j => by
      rw [hG]
      show (if _ then _ else _) < 256
      split
      · exact Nat.xor_lt_two_pow (n := 8) hvb (Nat.pow_lt_pow_right (by omega) hr8)
      · exact sealed_bytes HPB.out _ _
    have hGu : Pf.Up G L := fun j hj => by
      rw [hG]
      show (if _ then _ else _) = 0
      rw [if_neg (by omega)]
      exact sealed_upto _ _ j (by rw [← HL.out]; exact hj)
    have HSk := Lib.hid (show Sl wk (some ⟨gd, 0, none⟩) L L G from (show Bl wk gd L Cq G by rw [hG]; exact HDj.out).sl2 (Nat.le_refl _) (by unfold maxLen; omega) hGb hGu)
    have HPE := Lib.hid (show perr L G = 10 by
      rw [HL.out]
      refine flip_perr (f := pl h) (n := T) HPB.out HKM.out (fun j => ?_)
      rw [hG, ← HV.out])
    clear hwk hG hGb hGu hc hf hvb hd8 hr8 hp8 hk HXX HDj HDh HBh
    go_wp2_with fail
    refine (pparse_any (some ⟨gd, 0, none⟩) L L G (by have := HLB.out; omega) wk HSk.out).mono ?_
    rintro e wl ⟨hpar, hBl⟩
    have HBl := Lib.hid (HBj.out.trans (hBl.mono HBj.out.size))
    clear hBl
    rcases hpar with ⟨_, rfl⟩ | ⟨h0, _⟩
    rotate_left
    · rw [HPE.out] at h0; cases h0
    rw [HPE.out]
    unfold zN
    go_wp2
    go_ret
    first | exact ⟨rfl, HBl.out⟩ | exact ⟨rfl, HBl.out.alloc HBl.out.size _⟩
end Go.Proofs.Ytjlmajopfeplpaa.Nt
