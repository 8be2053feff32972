import Derived.Test.YtgflpfopiofjeaaJ3
import Derived.Test.YtgflpfopiofjeaaJ4
import Derived.Test.YtgflpfopiofjeaaGF
namespace Go.Proofs.Ytgflpfopiofjeaa
open Go.RowKit Go.Shelf

/-- where a matrix of its own lies: from B on, below S. -/
def Lies (B S n : Nat) (a : Option Addr) (b : Nat → Nat) : Prop := (∀ i, i < n → B ≤ b i ∧ b i < S) ∧ ∀ G, a = some ⟨G, 0, none⟩ → B ≤ G ∧ G < S
theorem Go_.lies {w : World} {B n cap : Nat} {a : Option Addr} {b l c : Nat → Nat} {f : Nat → Nat → Nat} (h : Go_ w B a n cap b l c f) : Lies B w.heap.size n a b := by
  rcases h.2 with ⟨rfl, rfl, _⟩ | ⟨G, rfl, hG⟩
  · exact ⟨fun i hi => absurd hi (Nat.not_lt_zero i), fun _ e => (by cases e)⟩
  · refine ⟨fun i hi => ⟨hG.lo.2 i hi, hG.ltb hi⟩, fun G' e => ?_⟩
    cases e; exact ⟨hG.lo.1, hG.ltG⟩
theorem Lies.rows {B S B' S' n n' : Nat} {a a' : Option Addr} {b b' : Nat → Nat} (h : Lies B S n a b) (h' : Lies B' S' n' a' b') (hs : S ≤ B') {i i' : Nat} (hi : i < n) (hi' : i' < n') : b i ≠ b' i' := by
  have h1 := h.1 i hi; have h2 := h'.1 i' hi'; omega
theorem Lies.lists {B S B' S' n n' : Nat} {a a' : Option Addr} {b b' : Nat → Nat} (h : Lies B S n a b) (h' : Lies B' S' n' a' b') (hs : S ≤ B') {G : Nat} (e : a = some ⟨G, 0, none⟩) : a ≠ a' := by
  intro e2
  have h1 := h.2 G e; have h2 := h'.2 G (e2 ▸ e); omega
theorem Lies.two {B S B' S' n n' : Nat} {a a' : Option Addr} {b b' : Nat → Nat} (h : Lies B S n a b) (h' : Lies B' S' n' a' b') (hs : S ≤ B') (hp : 0 < n → ∃ G, a = some ⟨G, 0, none⟩) (hp' : 0 < n' → ∃ G, a' = some ⟨G, 0, none⟩) (h0 : 0 < n ∨ 0 < n') : a ≠ a' := by
  rcases h0 with h0 | h0
  · obtain ⟨G, e⟩ := hp h0
    exact h.lists h' hs e
  · obtain ⟨G, e⟩ := hp' h0
    intro e2
    exact h.lists h' hs (e2.trans e) e2
theorem Go_.someG {w : World} {B n cap : Nat} {a : Option Addr} {b l c : Nat → Nat} {f : Nat → Nat → Nat} (h : Go_ w B a n cap b l c f) (h0 : 0 < n) : ∃ G, a = some ⟨G, 0, none⟩ := by
  obtain ⟨G, e, _⟩ := h.pos h0
  exact ⟨G, e⟩
theorem Go_.inj {w : World} {B n cap : Nat} {a : Option Addr} {b l c : Nat → Nat} {f : Nat → Nat → Nat} (h : Go_ w B a n cap b l c f) {i j : Nat} (hi : i < n) (hj : j < n) (e : b i = b j) : i = j := by
  obtain ⟨G, _, hG⟩ := h.pos (by omega)
  exact hG.inj i j hi hj e
/-- the k-th of five. -/
def five {α : Type} (x0 x1 x2 x3 x4 : α) (k : Nat) : α := match k with | 0 => x0 | 1 => x1 | 2 => x2 | 3 => x3 | _ => x4
theorem five_all {P : Nat → Prop} (h0 : P 0) (h1 : P 1) (h2 : P 2) (h3 : P 3) (h4 : P 4) : ∀ k, k < 5 → P k := fun k hk => by
  rcases (show k = 0 ∨ k = 1 ∨ k = 2 ∨ k = 3 ∨ k = 4 by omega) with rfl | rfl | rfl | rfl | rfl <;> assumption
/-- of five in a row, each behind the one ahead of it. -/
theorem five_apart {R : Nat → Nat → Prop} (hs : ∀ i j, R i j → R j i) (h01 : R 0 1) (h02 : R 0 2) (h03 : R 0 3) (h04 : R 0 4) (h12 : R 1 2) (h13 : R 1 3) (h14 : R 1 4) (h23 : R 2 3) (h24 : R 2 4) (h34 : R 3 4) : ∀ i j, i < 5 → j < 5 → i ≠ j → R i j := by
  have key : ∀ i j, i < j → j < 5 → R i j := fun i j hij hj => by
    rcases (show (i = 0 ∧ j = 1) ∨ (i = 0 ∧ j = 2) ∨ (i = 0 ∧ j = 3) ∨ (i = 0 ∧ j = 4) ∨ (i = 1 ∧ j = 2) ∨ (i = 1 ∧ j = 3) ∨ (i = 1 ∧ j = 4) ∨ (i = 2 ∧ j = 3) ∨ (i = 2 ∧ j = 4) ∨ (i = 3 ∧ j = 4) by omega) with ⟨rfl, rfl⟩ | ⟨rfl, rfl⟩ | ⟨rfl, rfl⟩ | ⟨rfl, rfl⟩ | ⟨rfl, rfl⟩ | ⟨rfl, rfl⟩ | ⟨rfl, rfl⟩ | ⟨rfl, rfl⟩ | ⟨rfl, rfl⟩ | ⟨rfl, rfl⟩ <;> assumption
  intro i j hi hj hne
  rcases Nat.lt_or_ge i j with h | h
  · exact key i j h hj
  · exact hs _ _ (key j i (by omega) hi)

set_option maxHeartbeats 8000000 in
set_option maxRecDepth 100000 in
theorem rowsDo_any (a a' va : Option Addr) (n cap n' cap' m vc : Nat) (r r' : Nat → Option Addr) (l c l' c' : Nat → Nat) (f f' : Nat → Nat → Nat) (g : Nat → Nat) (z : Int) (w : World) (hR : Rd w a n cap r l c f) (hR' : Rd w a' n' cap' r' l' c' f') (hV : Sl w va m vc g)
    (hn : n ≤ 140737488355328) (hn' : n' ≤ 140737488355328) (hl : ∀ i, i < n → l i ≤ 140737488355328) (hl' : ∀ i, i < n' → l' i ≤ 140737488355328) (hm : m ≤ 140737488355328) :
    Calls Try.prog 3 #[.slice a n cap, .slice a' n' cap', .slice va m vc, .int .i64 z] w fun e w' => e = .returned (.bool true) ∧ Below w.heap.size w w' := by
  have HR := Lib.hid hR; have HR' := Lib.hid hR'; have HV := Lib.hid hV; have HL := Lib.hid hl; have HL' := Lib.hid hl'
  clear hR hR' hV hl hl'
  go_enter Try.func3, Try.ntmps3
  go_wp2_with fail
  refine (size_any a n cap r l c f hn HL.out _ HR.out).mono ?_
  rintro e w0 ⟨⟨s, rfl, hs, hsz⟩, rfl⟩
  go_wp2_with fail
  refine (size_any a' n' cap' r' l' c' f' hn' HL'.out _ HR'.out).mono ?_
  rintro e w0' ⟨⟨s', rfl, hs', hsz'⟩, rfl⟩
  have HSZ := Lib.hid hsz; have HSZ' := Lib.hid hsz'; clear hsz hsz'
  by_cases hfar : 900 < s + s' + m
  · have i1 : (900 : Int) < (s : Int) + (s' : Int) + (m : Int) := by omega
    go_wp2_with fail
    refine (awake3_any _).mono ?_
    rintro e w1 ⟨rfl, hB⟩
    have HB1 := Lib.hid hB; clear hB
    go_wp2
    go_ret
    exact ⟨rfl, HB1.out⟩
  have i1 : ¬ (900 : Int) < (s : Int) + (s' : Int) + (m : Int) := by omega
  obtain ⟨hn9, hl9⟩ := HSZ.out (by omega)
  obtain ⟨hn9', hl9'⟩ := HSZ'.out (by omega)
  have hnn : n + n' ≤ 1800 := by omega
  have HL9 := Lib.hid hl9; have HL9' := Lib.hid hl9'
  clear hl9 hl9' hn hn' HL HL' HSZ HSZ' hfar
  obtain ⟨hM, wM, FM, eM, hhM, hwM, kM1, kM2⟩ := mul_both n n' l l' f f' (by omega) (by omega)
  obtain ⟨hI, FI, eI, hhI, kI1, kI2⟩ := inverse_both n l f HR.out.bm (by omega)
  obtain ⟨hC, FC, eC, hhC, kC1, kC2⟩ := apply_both n m l f g HR.out.bm HV.out.bytes (by omega)
  obtain ⟨hU, FU, eU, hhU, kU1, kU2⟩ := unit_both z
  obtain ⟨vR, kR1, kR2⟩ := right_both n l f (by omega)
  obtain ⟨kk, kK1, kK2⟩ := rank_both n l f (by omega)
  have KM1 := Lib.hid kM1; have KM2 := Lib.hid kM2; have KI1 := Lib.hid kI1; have KI2 := Lib.hid kI2; have KC1 := Lib.hid kC1; have KC2 := Lib.hid kC2; have KU1 := Lib.hid kU1; have KU2 := Lib.hid kU2; have KR1 := Lib.hid kR1; have KR2 := Lib.hid kR2; have KK1 := Lib.hid kK1; have KK2 := Lib.hid kK2
  clear kM1 kM2 kI1 kI2 kC1 kC2 kU1 kU2 kR1 kR2 kK1 kK2
  obtain ⟨w0, hw0⟩ : ∃ w0, w0 = w0' := ⟨_, rfl⟩
  have HB0 := Lib.hid (Below.refl w0'.heap.size w0')
  clear hw0
  go_wp2_with fail
  refine (lentRows_any a n cap r l c f (by omega) (fun i hi => by have := HL9.out i hi; omega) _ HR.out).mono ?_
  rintro e w1 ⟨px, cx, bx, rfl, hg, hle, hB⟩
  have HX1 := Lib.hid hg; have HXL1 := Lib.hid hle
  have HB1 := Lib.hid (HB0.out.trans (hB.mono HB0.out.size)); have SZ1 := Lib.hid hB.size
  clear hB 
  have LX := Lib.hid hg.lies; clear hg hle
  go_wp2_with fail
  refine (lentRows_any a' n' cap' r' l' c' f' (by omega) (fun i hi => by have := HL9'.out i hi; omega) _ (HR'.out.same HB1.out)).mono ?_
  rintro e w2 ⟨py, cy, by', rfl, hg, hle, hB⟩
  have HY2 := Lib.hid hg; have HYL2 := Lib.hid hle
  have HX2 := Lib.hid (HX1.out.same hB); have HXL2 := Lib.hid (HXL1.out.same hB); have HB2 := Lib.hid (HB1.out.trans (hB.mono HB1.out.size)); have SZ2 := Lib.hid hB.size
  clear hB HX1 HXL1
  have LY := Lib.hid hg.lies; clear hg hle
  go_wp2_with fail
  refine (lentS_any va m vc g _ (HV.out.same HB2.out) (by omega)).mono ?_
  rintro e w3 ⟨rfl, hbk, hB⟩
  have HV3 := Lib.hid hbk
  have HX3 := Lib.hid (HX2.out.same hB); have HXL3 := Lib.hid (HXL2.out.same hB); have HY3 := Lib.hid (HY2.out.same hB); have HYL3 := Lib.hid (HYL2.out.same hB); have HB3 := Lib.hid (HB2.out.trans (hB.mono HB2.out.size)); have SZ3 := Lib.hid hB.size
  clear hB HX2 HXL2 HY2 HYL2
  clear hbk
  have hVV := fun (W : World) (h : Block W w2.heap.size (lentC (ints g m) 12) 5) => (h.nw (Nat.zero_le _) HV.out.bytes HV.out.up (by omega)).sl
  have HVV := Lib.hid hVV; clear hVV
  go_wp2_with fail
  refine (KM1.out _ _ _ _ _ _ _ _ _ HX3.out.rd HY3.out.rd).mono ?_
  rintro e w4 ⟨pm, cm, bm, rfl, hg, hB⟩
  have HM4 := Lib.hid hg
  have HX4 := Lib.hid (HX3.out.same hB); have HXL4 := Lib.hid (HXL3.out.same hB); have HY4 := Lib.hid (HY3.out.same hB); have HYL4 := Lib.hid (HYL3.out.same hB); have HV4 := Lib.hid (HV3.out.same hB); have HB4 := Lib.hid (HB3.out.trans (hB.mono HB3.out.size)); have SZ4 := Lib.hid hB.size
  clear hB HX3 HXL3 HY3 HYL3 HV3
  have LM := Lib.hid hg.lies; clear hg
  go_wp2_with fail
  refine (KM2.out _ _ _ _ _ _ _ _ _ (HR.out.same HB4.out) (HR'.out.same HB4.out)).mono ?_
  rintro e w5 ⟨pp, cp, bp, rfl, hg, hB⟩
  have HP5 := Lib.hid hg
  have HX5 := Lib.hid (HX4.out.same hB); have HXL5 := Lib.hid (HXL4.out.same hB); have HY5 := Lib.hid (HY4.out.same hB); have HYL5 := Lib.hid (HYL4.out.same hB); have HV5 := Lib.hid (HV4.out.same hB); have HM5 := Lib.hid (HM4.out.same hB); have HB5 := Lib.hid (HB4.out.trans (hB.mono HB4.out.size)); have SZ5 := Lib.hid hB.size
  clear hB HX4 HXL4 HY4 HYL4 HV4 HM4
  clear hg
  go_wp2_with fail
  refine (KI1.out _ _ _ _ _ HX5.out.rd).mono ?_
  rintro e w6 ⟨pi, ci, bi, rfl, hg, hB⟩
  have HI6 := Lib.hid hg
  have HX6 := Lib.hid (HX5.out.same hB); have HXL6 := Lib.hid (HXL5.out.same hB); have HY6 := Lib.hid (HY5.out.same hB); have HYL6 := Lib.hid (HYL5.out.same hB); have HV6 := Lib.hid (HV5.out.same hB); have HM6 := Lib.hid (HM5.out.same hB); have HP6 := Lib.hid (HP5.out.same hB); have HB6 := Lib.hid (HB5.out.trans (hB.mono HB5.out.size)); have SZ6 := Lib.hid hB.size
  clear hB HX5 HXL5 HY5 HYL5 HV5 HM5 HP5
  have LI := Lib.hid hg.lies; clear hg
  go_wp2_with fail
  refine (KI2.out _ _ _ _ _ (HR.out.same HB6.out)).mono ?_
  rintro e w7 ⟨pq, cq, bq, rfl, hg, hB⟩
  have HQ7 := Lib.hid hg
  have HX7 := Lib.hid (HX6.out.same hB); have HXL7 := Lib.hid (HXL6.out.same hB); have HY7 := Lib.hid (HY6.out.same hB); have HYL7 := Lib.hid (HYL6.out.same hB); have HV7 := Lib.hid (HV6.out.same hB); have HM7 := Lib.hid (HM6.out.same hB); have HP7 := Lib.hid (HP6.out.same hB); have HI7 := Lib.hid (HI6.out.same hB); have HB7 := Lib.hid (HB6.out.trans (hB.mono HB6.out.size)); have SZ7 := Lib.hid hB.size
  clear hB HX6 HXL6 HY6 HYL6 HV6 HM6 HP6 HI6
  clear hg
  go_wp2_with fail
  refine (KC1.out _ _ _ _ _ _ _ HX7.out.rd (HVV.out _ HV7.out)).mono ?_
  rintro e w8 ⟨pc, cc, rfl, hg, hB⟩
  have HC8 := Lib.hid hg
  have HX8 := Lib.hid (HX7.out.same hB); have HXL8 := Lib.hid (HXL7.out.same hB); have HY8 := Lib.hid (HY7.out.same hB); have HYL8 := Lib.hid (HYL7.out.same hB); have HV8 := Lib.hid (HV7.out.same hB); have HM8 := Lib.hid (HM7.out.same hB); have HP8 := Lib.hid (HP7.out.same hB); have HI8 := Lib.hid (HI7.out.same hB); have HQ8 := Lib.hid (HQ7.out.same hB); have HB8 := Lib.hid (HB7.out.trans (hB.mono HB7.out.size)); have SZ8 := Lib.hid hB.size
  clear hB HX7 HXL7 HY7 HYL7 HV7 HM7 HP7 HI7 HQ7
  clear hg
  go_wp2_with fail
  refine (KC2.out _ _ _ _ _ _ _ (HR.out.same HB8.out) (HV.out.same HB8.out)).mono ?_
  rintro e w9 ⟨pd, cd, rfl, hg, hB⟩
  have HD9 := Lib.hid hg
  have HX9 := Lib.hid (HX8.out.same hB); have HXL9 := Lib.hid (HXL8.out.same hB); have HY9 := Lib.hid (HY8.out.same hB); have HYL9 := Lib.hid (HYL8.out.same hB); have HV9 := Lib.hid (HV8.out.same hB); have HM9 := Lib.hid (HM8.out.same hB); have HP9 := Lib.hid (HP8.out.same hB); have HI9 := Lib.hid (HI8.out.same hB); have HQ9 := Lib.hid (HQ8.out.same hB); have HC9 := Lib.hid (HC8.out.same hB); have HB9 := Lib.hid (HB8.out.trans (hB.mono HB8.out.size)); have SZ9 := Lib.hid hB.size
  clear hB HX8 HXL8 HY8 HYL8 HV8 HM8 HP8 HI8 HQ8 HC8
  clear hg
  go_wp2_with fail
  refine (KU1.out _).mono ?_
  rintro e w10 ⟨pu, cu, bu, rfl, hg, hB⟩
  have HU10 := Lib.hid hg
  have HX10 := Lib.hid (HX9.out.same hB); have HXL10 := Lib.hid (HXL9.out.same hB); have HY10 := Lib.hid (HY9.out.same hB); have HYL10 := Lib.hid (HYL9.out.same hB); have HV10 := Lib.hid (HV9.out.same hB); have HM10 := Lib.hid (HM9.out.same hB); have HP10 := Lib.hid (HP9.out.same hB); have HI10 := Lib.hid (HI9.out.same hB); have HQ10 := Lib.hid (HQ9.out.same hB); have HC10 := Lib.hid (HC9.out.same hB); have HD10 := Lib.hid (HD9.out.same hB); have HB10 := Lib.hid (HB9.out.trans (hB.mono HB9.out.size)); have SZ10 := Lib.hid hB.size
  clear hB HX9 HXL9 HY9 HYL9 HV9 HM9 HP9 HI9 HQ9 HC9 HD9
  have LU := Lib.hid hg.lies; clear hg
  go_wp2_with fail
  refine (KU2.out _).mono ?_
  rintro e w11 ⟨ps, cs, bs, rfl, hg, hB⟩
  have HS11 := Lib.hid hg
  have HX11 := Lib.hid (HX10.out.same hB); have HXL11 := Lib.hid (HXL10.out.same hB); have HY11 := Lib.hid (HY10.out.same hB); have HYL11 := Lib.hid (HYL10.out.same hB); have HV11 := Lib.hid (HV10.out.same hB); have HM11 := Lib.hid (HM10.out.same hB); have HP11 := Lib.hid (HP10.out.same hB); have HI11 := Lib.hid (HI10.out.same hB); have HQ11 := Lib.hid (HQ10.out.same hB); have HC11 := Lib.hid (HC10.out.same hB); have HD11 := Lib.hid (HD10.out.same hB); have HU11 := Lib.hid (HU10.out.same hB); have HB11 := Lib.hid (HB10.out.trans (hB.mono HB10.out.size)); have SZ11 := Lib.hid hB.size
  clear hB HX10 HXL10 HY10 HYL10 HV10 HM10 HP10 HI10 HQ10 HC10 HD10 HU10
  clear hg
  have q1 : (eM != eM) = false := by simp
  have q2 : (eI != eI) = false := by simp
  have q3 : (eC != eC) = false := by simp
  have q4 : (eU != eU) = false := by simp
  go_wp2_with fail
  refine (sameRows_any pm pp hM cm cp _ _ _ _ _ _ _ _ (by omega) (fun _ _ => by omega) _ HM11.out.rd HP11.out.rd (fun _ _ => ⟨rfl, rfl⟩)).mono ?_
  rintro e w12 ⟨rfl, q, hq⟩
  have hB : Below w11.heap.size w11 w12 := by rw [hq]; exact below_dr (Below.refl _ _) q
  clear hq
  have HX12 := Lib.hid (HX11.out.same hB); have HXL12 := Lib.hid (HXL11.out.same hB); have HY12 := Lib.hid (HY11.out.same hB); have HYL12 := Lib.hid (HYL11.out.same hB); have HV12 := Lib.hid (HV11.out.same hB); have HM12 := Lib.hid (HM11.out.same hB); have HI12 := Lib.hid (HI11.out.same hB); have HQ12 := Lib.hid (HQ11.out.same hB); have HC12 := Lib.hid (HC11.out.same hB); have HD12 := Lib.hid (HD11.out.same hB); have HU12 := Lib.hid (HU11.out.same hB); have HS12 := Lib.hid (HS11.out.same hB); have HB12 := Lib.hid (HB11.out.trans (hB.mono HB11.out.size)); have SZ12 := Lib.hid hB.size
  clear hB HX11 HXL11 HY11 HYL11 HV11 HM11 HP11 HI11 HQ11 HC11 HD11 HU11 HS11
  go_wp2_with fail
  refine (sameRows_any pi pq hI ci cq _ _ _ _ _ _ _ _ (by omega) (fun _ _ => by omega) _ HI12.out.rd HQ12.out.rd (fun _ _ => ⟨rfl, rfl⟩)).mono ?_
  rintro e w13 ⟨rfl, q, hq⟩
  have hB : Below w12.heap.size w12 w13 := by rw [hq]; exact below_dr (Below.refl _ _) q
  clear hq
  have HX13 := Lib.hid (HX12.out.same hB); have HXL13 := Lib.hid (HXL12.out.same hB); have HY13 := Lib.hid (HY12.out.same hB); have HYL13 := Lib.hid (HYL12.out.same hB); have HV13 := Lib.hid (HV12.out.same hB); have HM13 := Lib.hid (HM12.out.same hB); have HI13 := Lib.hid (HI12.out.same hB); have HC13 := Lib.hid (HC12.out.same hB); have HD13 := Lib.hid (HD12.out.same hB); have HU13 := Lib.hid (HU12.out.same hB); have HS13 := Lib.hid (HS12.out.same hB); have HB13 := Lib.hid (HB12.out.trans (hB.mono HB12.out.size)); have SZ13 := Lib.hid hB.size
  clear hB HX12 HXL12 HY12 HYL12 HV12 HM12 HI12 HQ12 HC12 HD12 HU12 HS12
  go_wp2_with fail
  refine (same_any pc pd hC cc cd FC (by omega) _ HC13.out HD13.out).mono ?_
  rintro e w14 ⟨rfl, q, hq⟩
  have hB : Below w13.heap.size w13 w14 := by rw [hq]; exact below_dr (Below.refl _ _) q
  clear hq
  have HX14 := Lib.hid (HX13.out.same hB); have HXL14 := Lib.hid (HXL13.out.same hB); have HY14 := Lib.hid (HY13.out.same hB); have HYL14 := Lib.hid (HYL13.out.same hB); have HV14 := Lib.hid (HV13.out.same hB); have HM14 := Lib.hid (HM13.out.same hB); have HI14 := Lib.hid (HI13.out.same hB); have HU14 := Lib.hid (HU13.out.same hB); have HS14 := Lib.hid (HS13.out.same hB); have HB14 := Lib.hid (HB13.out.trans (hB.mono HB13.out.size)); have SZ14 := Lib.hid hB.size
  clear hB HX13 HXL13 HY13 HYL13 HV13 HM13 HI13 HC13 HD13 HU13 HS13
  go_wp2_with fail
  refine (sameRows_any pu ps hU cu cs _ _ _ _ _ _ _ _ (by omega) (fun _ _ => by omega) _ HU14.out.rd HS14.out.rd (fun _ _ => ⟨rfl, rfl⟩)).mono ?_
  rintro e w15 ⟨rfl, q, hq⟩
  have hB : Below w14.heap.size w14 w15 := by rw [hq]; exact below_dr (Below.refl _ _) q
  clear hq
  have HX15 := Lib.hid (HX14.out.same hB); have HXL15 := Lib.hid (HXL14.out.same hB); have HY15 := Lib.hid (HY14.out.same hB); have HYL15 := Lib.hid (HYL14.out.same hB); have HV15 := Lib.hid (HV14.out.same hB); have HM15 := Lib.hid (HM14.out.same hB); have HI15 := Lib.hid (HI14.out.same hB); have HU15 := Lib.hid (HU14.out.same hB); have HB15 := Lib.hid (HB14.out.trans (hB.mono HB14.out.size)); have SZ15 := Lib.hid hB.size
  clear hB HX14 HXL14 HY14 HYL14 HV14 HM14 HI14 HU14 HS14
  clear q1 q2 q3 q4
  go_wp2_with fail
  refine (keptRows_any px a n cx cap _ bx r l c f (by omega) (fun i hi => by have := HL9.out i hi; omega) _ HX15.out HXL15.out (HR.out.same HB15.out)).mono ?_
  rintro e w16 ⟨rfl, q, hq⟩
  have hB : Below w15.heap.size w15 w16 := by rw [hq]; exact below_dr (Below.refl _ _) q
  clear hq
  have HX16 := Lib.hid (HX15.out.same hB); have HY16 := Lib.hid (HY15.out.same hB); have HYL16 := Lib.hid (HYL15.out.same hB); have HV16 := Lib.hid (HV15.out.same hB); have HM16 := Lib.hid (HM15.out.same hB); have HI16 := Lib.hid (HI15.out.same hB); have HU16 := Lib.hid (HU15.out.same hB); have HB16 := Lib.hid (HB15.out.trans (hB.mono HB15.out.size)); have SZ16 := Lib.hid hB.size
  clear hB HX15 HXL15 HY15 HYL15 HV15 HM15 HI15 HU15
  go_wp2_with fail
  refine (keptRows_any py a' n' cy cap' _ by' r' l' c' f' (by omega) (fun i hi => by have := HL9'.out i hi; omega) _ HY16.out HYL16.out (HR'.out.same HB16.out)).mono ?_
  rintro e w17 ⟨rfl, q, hq⟩
  have hB : Below w16.heap.size w16 w17 := by rw [hq]; exact below_dr (Below.refl _ _) q
  clear hq
  have HX17 := Lib.hid (HX16.out.same hB); have HY17 := Lib.hid (HY16.out.same hB); have HV17 := Lib.hid (HV16.out.same hB); have HM17 := Lib.hid (HM16.out.same hB); have HI17 := Lib.hid (HI16.out.same hB); have HU17 := Lib.hid (HU16.out.same hB); have HB17 := Lib.hid (HB16.out.trans (hB.mono HB16.out.size)); have SZ17 := Lib.hid hB.size
  clear hB HX16 HY16 HYL16 HV16 HM16 HI16 HU16
  go_wp2_with fail
  refine (keptS_any w2.heap.size va m vc g _ (HV.out.same HB17.out) HV17.out (by omega)).mono ?_
  rintro e w18 ⟨rfl, q, hq⟩
  have hB : Below w17.heap.size w17 w18 := by rw [hq]; exact below_dr (Below.refl _ _) q
  clear hq
  have HX18 := Lib.hid (HX17.out.same hB); have HY18 := Lib.hid (HY17.out.same hB); have HM18 := Lib.hid (HM17.out.same hB); have HI18 := Lib.hid (HI17.out.same hB); have HU18 := Lib.hid (HU17.out.same hB); have HB18 := Lib.hid (HB17.out.trans (hB.mono HB17.out.size)); have SZ18 := Lib.hid hB.size
  clear hB HX17 HY17 HV17 HM17 HI17 HU17
  go_wp2_with fail
  refine (KR1.out _ _ _ _ _ HX18.out.rd).mono ?_
  rintro e w19 ⟨rfl, q, hq⟩
  have hB : Below w18.heap.size w18 w19 := by rw [hq]; exact below_dr (Below.refl _ _) q
  clear hq
  have HX19 := Lib.hid (HX18.out.same hB); have HY19 := Lib.hid (HY18.out.same hB); have HM19 := Lib.hid (HM18.out.same hB); have HI19 := Lib.hid (HI18.out.same hB); have HU19 := Lib.hid (HU18.out.same hB); have HB19 := Lib.hid (HB18.out.trans (hB.mono HB18.out.size)); have SZ19 := Lib.hid hB.size
  clear hB HX18 HY18 HM18 HI18 HU18
  have q5 : (vR == vR) = true := by simp
  go_wp2_with fail
  refine (KR2.out _ _ _ _ _ (HR.out.same HB19.out)).mono ?_
  rintro e w20 ⟨rfl, q, hq⟩
  have hB : Below w19.heap.size w19 w20 := by rw [hq]; exact below_dr (Below.refl _ _) q
  clear hq
  have HX20 := Lib.hid (HX19.out.same hB); have HY20 := Lib.hid (HY19.out.same hB); have HM20 := Lib.hid (HM19.out.same hB); have HI20 := Lib.hid (HI19.out.same hB); have HU20 := Lib.hid (HU19.out.same hB); have HB20 := Lib.hid (HB19.out.trans (hB.mono HB19.out.size)); have SZ20 := Lib.hid hB.size
  clear hB HX19 HY19 HM19 HI19 HU19
  go_wp2_with fail
  refine (KK1.out _ _ _ _ _ HX20.out.rd).mono ?_
  rintro e w21 ⟨rfl, hB⟩
  have HX21 := Lib.hid (HX20.out.same hB); have HY21 := Lib.hid (HY20.out.same hB); have HM21 := Lib.hid (HM20.out.same hB); have HI21 := Lib.hid (HI20.out.same hB); have HU21 := Lib.hid (HU20.out.same hB); have HB21 := Lib.hid (HB20.out.trans (hB.mono HB20.out.size)); have SZ21 := Lib.hid hB.size
  clear hB HX20 HY20 HM20 HI20 HU20
  have q6 : (((kk : Nat) : Int) == (kk : Int)) = true := by simp
  go_wp2_with fail
  refine (KK2.out _ _ _ _ _ (HR.out.same HB21.out)).mono ?_
  rintro e w22 ⟨rfl, hB⟩
  have HX22 := Lib.hid (HX21.out.same hB); have HY22 := Lib.hid (HY21.out.same hB); have HM22 := Lib.hid (HM21.out.same hB); have HI22 := Lib.hid (HI21.out.same hB); have HU22 := Lib.hid (HU21.out.same hB); have HB22 := Lib.hid (HB21.out.trans (hB.mono HB21.out.size)); have SZ22 := Lib.hid hB.size
  clear hB HX21 HY21 HM21 HI21 HU21
  obtain ⟨w23, hw23⟩ : ∃ w23, w23 = w22.alloc (.cells #[.slice px n cx, .slice py n' cy, .slice pm hM cm, .slice pi hI ci, .slice pu hU cu] 22) := ⟨_, rfl⟩
  have hB : Below w22.heap.size w22 w23 := by rw [hw23]; exact (Below.refl _ _).alloc (Nat.le_refl _) _
  have hL : w23.heap[w22.heap.size]? = some (.cells #[.slice px n cx, .slice py n' cy, .slice pm hM cm, .slice pi hI ci, .slice pu hU cu] 22 (0, 0)) := by rw [hw23]; exact heap_alloc_new _ _
  have HW23 := Lib.hid hw23; have HLL := Lib.hid hL
  clear hw23 hL
  have HX23 := Lib.hid (HX22.out.same hB); have HY23 := Lib.hid (HY22.out.same hB); have HM23 := Lib.hid (HM22.out.same hB); have HI23 := Lib.hid (HI22.out.same hB); have HU23 := Lib.hid (HU22.out.same hB); have HB23 := Lib.hid (HB22.out.trans (hB.mono HB22.out.size)); have SZ23 := Lib.hid hB.size
  clear hB HX22 HY22 HM22 HI22 HU22
  have z2 := SZ2.out; have z3 := SZ3.out; have z4 := SZ4.out; have z5 := SZ5.out; have z6 := SZ6.out; have z7 := SZ7.out; have z8 := SZ8.out; have z9 := SZ9.out
  have hG : ∀ k, k < 5 → Go_ w23 w0'.heap.size (five px py pm pi pu k) (five n n' hM hI hU k) (five cx cy cm ci cu k) (five bx by' bm bi bu k) (five l l' (fun _ => wM) (fun _ => hI) (fun _ => hU) k) (five (fun i => l i + 12) (fun i => l' i + 12) (fun _ => wM) (fun _ => hI) (fun _ => hU) k) (five f f' FM FI FU k) :=
    five_all HX23.out (HY23.out.mono HB1.out.size) (HM23.out.mono HB3.out.size) (HI23.out.mono HB5.out.size) (HU23.out.mono HB9.out.size)
  have pX := HX23.out.someG; have pY := HY23.out.someG; have pM := HM23.out.someG; have pI := HI23.out.someG; have pU := HU23.out.someG
  have hd : ∀ k k' i i', k < 5 → k' < 5 → i < five n n' hM hI hU k → i' < five n n' hM hI hU k' → five bx by' bm bi bu k i = five bx by' bm bi bu k' i' → k = k' ∧ i = i' := fun k k' i i' hk hk' hi hi' e => by
    by_cases ek : k = k'
    · subst ek
      exact ⟨rfl, (hG k hk).inj hi hi' e⟩
    · exfalso
      have := five_apart (R := fun k k' => ∀ i i', i < five n n' hM hI hU k → i' < five n n' hM hI hU k' → five bx by' bm bi bu k i ≠ five bx by' bm bi bu k' i') (fun _ _ h i i' h1 h2 => (h i' i h2 h1).symm)
        (fun i i' h1 h2 => LX.out.rows LY.out (Nat.le_refl _) h1 h2) (fun i i' h1 h2 => LX.out.rows LM.out (by omega) h1 h2) (fun i i' h1 h2 => LX.out.rows LI.out (by omega) h1 h2) (fun i i' h1 h2 => LX.out.rows LU.out (by omega) h1 h2)
        (fun i i' h1 h2 => LY.out.rows LM.out (by omega) h1 h2) (fun i i' h1 h2 => LY.out.rows LI.out (by omega) h1 h2) (fun i i' h1 h2 => LY.out.rows LU.out (by omega) h1 h2)
        (fun i i' h1 h2 => LM.out.rows LI.out (by omega) h1 h2) (fun i i' h1 h2 => LM.out.rows LU.out (by omega) h1 h2) (fun i i' h1 h2 => LI.out.rows LU.out (by omega) h1 h2) k k' hk hk' ek
      exact this i i' hi hi' e
  have hgg : ∀ k k', k < 5 → k' < 5 → k ≠ k' → 0 < five n n' hM hI hU k → five px py pm pi pu k ≠ five px py pm pi pu k' := fun k k' hk hk' ek h0 => by
    have := five_apart (R := fun k k' => (0 < five n n' hM hI hU k ∨ 0 < five n n' hM hI hU k') → five px py pm pi pu k ≠ five px py pm pi pu k') (fun _ _ h h1 => (h h1.symm).symm)
        (fun h => LX.out.two LY.out (Nat.le_refl _) pX pY h) (fun h => LX.out.two LM.out (by omega) pX pM h) (fun h => LX.out.two LI.out (by omega) pX pI h) (fun h => LX.out.two LU.out (by omega) pX pU h)
        (fun h => LY.out.two LM.out (by omega) pY pM h) (fun h => LY.out.two LI.out (by omega) pY pI h) (fun h => LY.out.two LU.out (by omega) pY pU h)
        (fun h => LM.out.two LI.out (by omega) pM pI h) (fun h => LM.out.two LU.out (by omega) pM pU h) (fun h => LI.out.two LU.out (by omega) pI pU h) k k' hk hk' ek
    exact this (Or.inl h0)
  have ht : tot (five n n' hM hI hU) 5 ≤ 3000 := by
    show 0 + n + n' + hM + hI + hU ≤ 3000
    omega
  have hll : ∀ k i, k < 5 → i < five n n' hM hI hU k → five l l' (fun _ => wM) (fun _ => hI) (fun _ => hU) k i ≤ 1000000 := fun k i hk => five_all (P := fun k => ∀ i, i < five n n' hM hI hU k → five l l' (fun _ => wM) (fun _ => hI) (fun _ => hU) k i ≤ 1000000)
    (fun i hi => by have := HL9.out i hi; show l i ≤ 1000000; omega) (fun i hi => by have := HL9'.out i hi; show l' i ≤ 1000000; omega) (fun i _ => by show wM ≤ 1000000; omega) (fun i _ => by show hI ≤ 1000000; omega) (fun i _ => by show hU ≤ 1000000; omega) k hk i
  have HAP := Lib.hid (apartRows_any w0'.heap.size w22.heap.size (five px py pm pi pu) (five n n' hM hI hU) (five cx cy cm ci cu) (five bx by' bm bi bu) (five l l' (fun _ => wM) (fun _ => hI) (fun _ => hU)) (five (fun i => l i + 12) (fun i => l' i + 12) (fun _ => wM) (fun _ => hI) (fun _ => hU)) (five f f' FM FI FU) w23 HLL.out hG hd hgg HB23.out.size ht hll)
  clear z2 z3 z4 z5 z6 z7 z8 z9 hG pX pY pM pI pU hd hgg ht hll
  go_wp2_with fail
  rw [← HW23.out]
  refine HAP.out.mono ?_
  rintro e w24 ⟨rfl, hB⟩
  have HB24 := Lib.hid (HB23.out.trans hB); clear hB
  clear q5 q6
  go_wp2_with fail
  refine (awake3_any _).mono ?_
  rintro e w25 ⟨rfl, hB⟩
  have HB25 := Lib.hid (HB24.out.trans (hB.mono HB24.out.size)); clear hB
  go_wp2
  go_ret
  exact ⟨rfl, HB25.out⟩
end Go.Proofs.Ytgflpfopiofjeaa
