import Derived.Test.YtdempjkkahjekaaVC
namespace Go.Proofs.Ytdempjkkahjekaa
open Go.RowKit Go.Shelf

set_option maxHeartbeats 8000000 in
set_option maxRecDepth 100000 in
theorem does_in (a0 a1 a2 : Option Addr) (n n1 n2 cp cp1 cp2 x : Nat) (P g f : Nat → Nat) (hx : x < 256) (hn : n ≤ 24) (hn1 : n1 ≤ 24) (hn2 : n2 ≤ 24) (w : World) (hS : Sl w a0 n cp P) (hV : Sl w a1 n1 cp1 g) (hT : Sl w a2 n2 cp2 f) :
    Calls Try.prog 3 #[.slice a0 n cp, .slice a1 n1 cp1, .slice a2 n2 cp2, .int .u8 (x : Nat)] w fun e w' => e = .returned (.bool true) ∧ Below w.heap.size w w' := by
  have i1 : ¬ 24 < (n : Int) := by omega
  have i2 : ¬ 24 < (n1 : Int) := by omega
  have i3 : ¬ 24 < (n2 : Int) := by omega
  obtain ⟨lw, EW, FW, hlw, kW1, kW2⟩ := weights_both n x P hx (by omega)
  obtain ⟨lv, EV, FV, hlv, kV⟩ := values_says (n := n) (n' := n1) (m := n2) (P := P) (g := g) (f := f)
  obtain ⟨v, EX, kX⟩ := value_says (n := n) (n' := n1) (x := x) (P := P) (g := g)
  have HS := Lib.hid hS; have HV := Lib.hid hV; have HT := Lib.hid hT
  have KW1 := Lib.hid kW1; have KW2 := Lib.hid kW2; have KV := Lib.hid kV; have KX := Lib.hid kX
  clear hS hV hT kW1 kW2 kV kX
  go_enter Try.func3, Try.ntmps3
  go_wp2_with fail
  refine (lentS_any a0 n cp P _ HS.out (by omega)).mono ?_
  rintro e w1 ⟨rfl, hx1, hB1⟩
  have hs1 := hB1.size
  have HX1 := Lib.hid hx1; have HB1 := Lib.hid hB1; clear hx1 hB1
  go_wp2_with fail
  refine (lentS_any a1 n1 cp1 g _ (HV.out.same HB1.out) (by omega)).mono ?_
  rintro e w2 ⟨rfl, hx2, hB2⟩
  have hs2 := hB2.size
  have HX2 := Lib.hid hx2; have C2 := Lib.hid hB2; have HB2 := Lib.hid (HB1.out.trans (hB2.mono hs1)); clear hx2 hB2
  go_wp2_with fail
  refine (lentS_any a2 n2 cp2 f _ (HT.out.same HB2.out) (by omega)).mono ?_
  rintro e w3 ⟨rfl, hx3, hB3⟩
  have hs3 := hB3.size
  have NC := Lib.hid (hx3.nw (B := w2.heap.size) (Nat.le_refl _) HT.out.bytes HT.out.up (by omega))
  have NA := Lib.hid (((HX1.out.below C2.out HX1.out.lt).below hB3 (Nat.lt_of_lt_of_le HX1.out.lt hs2)).nw (B := w.heap.size) (Nat.le_refl _) HS.out.bytes HS.out.up (by omega))
  have NB := Lib.hid ((HX2.out.below hB3 HX2.out.lt).nw (B := w1.heap.size) (Nat.le_refl _) HV.out.bytes HV.out.up (by omega))
  have KA := Lib.hid ((HX1.out.below C2.out HX1.out.lt).below hB3 (Nat.lt_of_lt_of_le HX1.out.lt hs2))
  have KB := Lib.hid (HX2.out.below hB3 HX2.out.lt)
  have KC := Lib.hid hx3
  have l1 := HX1.out.lt
  have l2 := HX2.out.lt
  have l3 := hx3.lt
  have T3 := Lib.hid (HB2.out.trans (hB3.mono HB2.out.size))
  clear hx3 hB3 HX1 HX2 C2 HB2 HB1
  go_wp2_with fail
  refine (KW1.out _ _ _ NA.out.sl).mono ?_
  rintro e w4 ⟨a4, c4, rfl, hN4, hB4⟩
  have hs4 := hB4.size
  have NW := Lib.hid hN4; have C4 := Lib.hid hB4
  clear hN4 hB4
  go_wp2_with fail
  refine (KW2.out _ _ _ (HS.out.same (T3.out.trans (C4.out.mono T3.out.size)))).mono ?_
  rintro e w5 ⟨a5, c5, rfl, hN5, hB5⟩
  have hs5 := hB5.size
  have NU := Lib.hid hN5.sl; have C5 := Lib.hid (C4.out.trans (hB5.mono hs4)); have NW5 := Lib.hid (NW.out.below hB5)
  clear hN5 hB5
  go_wp2_with fail
  refine ((pValues_any _ _ _ n (n + 12) n1 (n1 + 12) n2 (n2 + 12) P g f (by omega) (by omega) (by omega) _ (NA.out.below C5.out).sl (NB.out.below C5.out).sl (NC.out.below C5.out).sl).mono (KV.out _)).mono ?_
  rintro e w6 ⟨a6, c6, rfl, hN6, hB6⟩
  have hs6 := hB6.size
  have NL := Lib.hid hN6; have C6 := Lib.hid (C5.out.trans (hB6.mono C5.out.size)); have NW6 := Lib.hid (NW5.out.below hB6); have NU6 := Lib.hid (NU.out.same hB6)
  clear hN6 hB6
  have T6 := Lib.hid (T3.out.trans (C6.out.mono T3.out.size))
  go_wp2_with fail
  refine ((rValues_any a0 a1 a2 n cp n1 cp1 n2 cp2 P g f (by omega) (by omega) (by omega) _ (HS.out.same T6.out) (HV.out.same T6.out) (HT.out.same T6.out)).mono (KV.out _)).mono ?_
  rintro e w7 ⟨a7, c7, rfl, hN7, hB7⟩
  have hs7 := hB7.size
  have NM := Lib.hid hN7.sl; have D7 := Lib.hid hB7
  clear hN7 hB7
  go_wp2_with fail
  refine ((pValue_any _ _ n (n + 12) n1 (n1 + 12) x P g hx (by omega) (by omega) _ ((NA.out.below C6.out).below D7.out).sl ((NB.out.below C6.out).below D7.out).sl).mono (KX.out _)).mono ?_
  rintro e w8 ⟨rfl, hB8⟩
  have NM8 := Lib.hid (NM.out.same hB8); have D8 := Lib.hid (D7.out.trans (hB8.mono hs7))
  clear hB8
  go_wp2_with fail
  refine ((rValue_any a0 a1 n cp n1 cp1 x P g hx (by omega) (by omega) _ (HS.out.same (T6.out.trans (D8.out.mono T6.out.size))) (HV.out.same (T6.out.trans (D8.out.mono T6.out.size)))).mono (KX.out _)).mono ?_
  rintro e w9 ⟨rfl, hB9⟩
  have NM9 := Lib.hid (NM8.out.same hB9); have D9 := Lib.hid (D8.out.trans (hB9.mono D8.out.size))
  clear hB9
  have hs9 := D9.out.size
  have sepA : Sep (fiv (some ⟨w.heap.size, 0, none⟩) (some ⟨w1.heap.size, 0, none⟩) (some ⟨w2.heap.size, 0, none⟩) a4 a6) 5 :=
    sep_of (lo := fiv w.heap.size w1.heap.size w2.heap.size w3.heap.size w5.heap.size) (hi := fiv w1.heap.size w2.heap.size w3.heap.size w4.heap.size w6.heap.size)
      (fiv_all (fun g hg => by cases hg; exact ⟨Nat.le_refl _, l1⟩) (fun g hg => by cases hg; exact ⟨Nat.le_refl _, l2⟩) (fun g hg => by cases hg; exact ⟨Nat.le_refl _, l3⟩) (fun g hg => nw_blk NW.out hg) (fun g hg => nw_blk NL.out hg))
      (fun i j hij hj => by
        rcases (show j = 1 ∨ j = 2 ∨ j = 3 ∨ j = 4 by omega) with rfl | rfl | rfl | rfl
        · obtain rfl : i = 0 := by omega
          exact Nat.le_refl _
        · rcases (show i = 0 ∨ i = 1 by omega) with rfl | rfl
          · exact hs2
          · exact Nat.le_refl _
        · rcases (show i = 0 ∨ i = 1 ∨ i = 2 by omega) with rfl | rfl | rfl
          · exact Nat.le_trans hs2 hs3
          · exact hs3
          · exact Nat.le_refl _
        · rcases (show i = 0 ∨ i = 1 ∨ i = 2 ∨ i = 3 by omega) with rfl | rfl | rfl | rfl
          · exact Nat.le_trans hs2 (Nat.le_trans hs3 (Nat.le_trans hs4 hs5))
          · exact Nat.le_trans hs3 (Nat.le_trans hs4 hs5)
          · exact Nat.le_trans hs4 hs5
          · exact hs5)
  have SEP := Lib.hid sepA
  have hsA : w.heap.size ≤ w3.heap.size := T3.out.size
  have hs23 : w.heap.size ≤ w2.heap.size := Nat.le_trans hs1 hs2
  have hs35 : w.heap.size ≤ w5.heap.size := Nat.le_trans hsA C5.out.size
  have ownA : ∀ k, k < 5 → w9.ownsRow w.heap.size 5 1 (.slice (fiv (some ⟨w.heap.size, 0, none⟩) (some ⟨w1.heap.size, 0, none⟩) (some ⟨w2.heap.size, 0, none⟩) a4 a6 k) (fiv n n1 n2 lw lv k) (fiv (n + 12) (n1 + 12) (n2 + 12) c4 c6 k)) (fiv n n1 n2 lw lv k) (rowv (fiv P g f FW FV k) (fiv n n1 n2 lw lv k)) :=
    fiv_all (nw_owns ((NA.out.below C6.out).below D9.out)) (nw_owns (((NB.out.below C6.out).below D9.out).mono hs1)) (nw_owns (((NC.out.below C6.out).below D9.out).mono hs23)) (nw_owns ((NW6.out.below D9.out).mono hsA)) (nw_owns ((NL.out.below D9.out).mono hs35))
  have OWN := Lib.hid ownA
  have lenA : ∀ k, fiv n n1 n2 lw lv k ≤ 1000000 := by
    intro k
    rcases k with _ | _ | _ | _ | _ | k <;> simp only [fiv] <;> omega
  have LEN := Lib.hid lenA
  have T9 := Lib.hid (T6.out.trans (D9.out.mono T6.out.size))
  have KA9 := Lib.hid ((KA.out.below C6.out (Nat.lt_of_lt_of_le l1 (Nat.le_trans hs2 hs3))).below D9.out (Nat.lt_of_lt_of_le l1 (Nat.le_trans hs2 (Nat.le_trans hs3 C6.out.size))))
  have KB9 := Lib.hid ((KB.out.below C6.out (Nat.lt_of_lt_of_le l2 hs3)).below D9.out (Nat.lt_of_lt_of_le l2 (Nat.le_trans hs3 C6.out.size)))
  have KC9 := Lib.hid ((KC.out.below C6.out l3).below D9.out (Nat.lt_of_lt_of_le l3 C6.out.size))
  have SW := Lib.hid (NW6.out.sl.same D9.out); have SU := Lib.hid (NU6.out.same D9.out); have SL := Lib.hid (NL.out.sl.same D9.out)
  clear sepA ownA lenA
  have q1 : (EW == EW) = true := by simp
  have q2 : (EV == EV) = true := by simp
  have q3 : (EX == EX) = true := by simp
  have q4 : (((v : Nat) : Int) == ((v : Nat) : Int)) = true := by simp
  go_wp2_with fail
  refine (same_any a4 a5 lw c4 c5 FW (by omega) _ SW.out SU.out).mono ?_
  rintro e wa ⟨rfl, r1, rfl⟩
  go_wp2_with fail
  refine (same_any a6 a7 lv c6 c7 FV (by omega) _ (SL.out.drewN _) (NM9.out.drewN _)).mono ?_
  rintro e wa ⟨rfl, r2, rfl⟩
  clear q1 q2 q3 q4
  go_wp2_with fail
  refine (keptS_any _ a0 n cp P _ ((HS.out.same T9.out).drewN _) (KA9.out.below (below_dr (Below.refl w9.heap.size w9) _) KA9.out.lt) (by omega)).mono ?_
  rintro e wa ⟨rfl, r3, rfl⟩
  go_wp2_with fail
  refine (keptS_any _ a1 n1 cp1 g _ ((HV.out.same T9.out).drewN _) (KB9.out.below (below_dr (Below.refl w9.heap.size w9) _) KB9.out.lt) (by omega)).mono ?_
  rintro e wa ⟨rfl, r4, rfl⟩
  go_wp2_with fail
  refine (keptS_any _ a2 n2 cp2 f _ ((HT.out.same T9.out).drewN _) (KC9.out.below (below_dr (Below.refl w9.heap.size w9) _) KC9.out.lt) (by omega)).mono ?_
  rintro e wa ⟨rfl, r5, rfl⟩
  go_wp2_with fail
  refine (apartBytes_any w.heap.size _ 5 5 _ _ _ _ _ (bag5 (fun k hk => own_below (OWN.out k hk) (below_dr (Below.refl w9.heap.size w9) _))) SEP.out (by simp) (by have := T9.out.size; simp; omega) (Nat.le_refl _) (by omega) (by omega) LEN.out).mono ?_
  rintro e wa ⟨rfl, hBa⟩
  have hsz := T9.out.size
  have DA := Lib.hid (((below_dr T9.out (r1 + r2 + r3 + r4 + r5)).alloc hsz _).trans hBa)
  clear hBa
  go_wp2_with fail
  refine (awake4_any _).mono ?_
  rintro e wb ⟨rfl, hBb⟩
  have DB := Lib.hid (DA.out.trans (hBb.mono DA.out.size)); clear hBb
  go_wp2
  go_ret
  exact ⟨rfl, DB.out⟩

set_option maxHeartbeats 4000000 in
set_option maxRecDepth 100000 in
theorem lagrDoes_any (a0 a1 a2 : Option Addr) (n n1 n2 cp cp1 cp2 x : Nat) (P g f : Nat → Nat) (hx : x < 256) (w : World) (hS : Sl w a0 n cp P) (hV : Sl w a1 n1 cp1 g) (hT : Sl w a2 n2 cp2 f) (hn : n ≤ 140737488355328) (hn1 : n1 ≤ 140737488355328) (hn2 : n2 ≤ 140737488355328) :
    Calls Try.prog 3 #[.slice a0 n cp, .slice a1 n1 cp1, .slice a2 n2 cp2, .int .u8 (x : Nat)] w fun e w' => e = .returned (.bool true) ∧ Below w.heap.size w w' := by
  by_cases c0 : 24 < n
  · have i1 : 24 < (n : Int) := by omega
    clear hS hV hT
    go_enter Try.func3, Try.ntmps3
    go_wp2_with fail
    refine (awake4_any _).mono ?_
    rintro e w1 ⟨rfl, hB1⟩
    have HB1 := Lib.hid hB1; clear hB1
    go_wp2
    go_ret
    exact ⟨rfl, HB1.out⟩
  by_cases c1 : 24 < n1
  · have i1 : ¬ 24 < (n : Int) := by omega
    have i2 : 24 < (n1 : Int) := by omega
    clear hS hV hT
    go_enter Try.func3, Try.ntmps3
    go_wp2_with fail
    refine (awake4_any _).mono ?_
    rintro e w1 ⟨rfl, hB1⟩
    have HB1 := Lib.hid hB1; clear hB1
    go_wp2
    go_ret
    exact ⟨rfl, HB1.out⟩
  by_cases c2 : 24 < n2
  · have i1 : ¬ 24 < (n : Int) := by omega
    have i2 : ¬ 24 < (n1 : Int) := by omega
    have i3 : 24 < (n2 : Int) := by omega
    clear hS hV hT
    go_enter Try.func3, Try.ntmps3
    go_wp2_with fail
    refine (awake4_any _).mono ?_
    rintro e w1 ⟨rfl, hB1⟩
    have HB1 := Lib.hid hB1; clear hB1
    go_wp2
    go_ret
    exact ⟨rfl, HB1.out⟩
  exact does_in a0 a1 a2 n n1 n2 cp cp1 cp2 x P g f hx (by omega) (by omega) (by omega) w hS hV hT
end Go.Proofs.Ytdempjkkahjekaa
