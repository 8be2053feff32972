import Derived.Test.YtmabdfcabpnabaaT4
namespace Go.Proofs.Ytmabdfcabpnabaa
open Go.RowKit Go.Shelf

theorem bag7 {w0 : World} {B : Nat} {x0 x1 x2 x3 x4 x5 x6 : Option Addr} {n0 n1 n2 n3 n4 n5 n6 c0 c1 c2 c3 c4 c5 c6 : Nat} {h : Nat → Nat → Nat}
    (hown : ∀ k, k < 7 → w0.ownsRow B 5 1 (.slice (sel7 x0 x1 x2 x3 x4 x5 x6 k) (sel7 n0 n1 n2 n3 n4 n5 n6 k) (sel7 c0 c1 c2 c3 c4 c5 c6 k)) (sel7 n0 n1 n2 n3 n4 n5 n6 k) (rowv (h k) (sel7 n0 n1 n2 n3 n4 n5 n6 k))) :
    Bag (w0.alloc (.cells #[.slice x0 n0 c0, .slice x1 n1 c1, .slice x2 n2 c2, .slice x3 n3 c3, .slice x4 n4 c4, .slice x5 n5 c5, .slice x6 n6 c6] 22)) B w0.heap.size 7 (sel7 x0 x1 x2 x3 x4 x5 x6) (sel7 n0 n1 n2 n3 n4 n5 n6) (sel7 n0 n1 n2 n3 n4 n5 n6) (sel7 c0 c1 c2 c3 c4 c5 c6) h :=
  ⟨fun k hk => by
    rw [cell_of_row _ _ k _ _ _ (heap_alloc_new _ _)]
    rcases k with _ | _ | _ | _ | _ | _ | _ | k <;> first | rfl | omega, fun k hk => (hown k hk).alloc _⟩

set_option maxHeartbeats 4000000 in
set_option maxRecDepth 100000 in
theorem polyDoes_len (a a' : Option Addr) (l c l' c' x : Nat) (f g : Nat → Nat) (w : World) (h1 : Sl w a l c f) (h2 : Sl w a' l' c' g) (hx : x < 256) (hc : l ≤ 140737488351232) (hc' : l' ≤ 140737488351232) :
    Calls Try.prog 3 #[.slice a l c, .slice a' l' c', .int .u8 (x : Nat)] w fun e w' => e = .returned (.bool true) ∧ Below w.heap.size w w' := by
  have H1 := Lib.hid h1; have H2 := Lib.hid h2; clear h1 h2
  by_cases hfar : 700 < l + l'
  · have hf' : (700 : Int) < (l : Int) + (l' : Int) := by omega
    go_enter Try.func3, Try.ntmps3
    go_wp2_with fail
    refine (awake2_any _).mono ?_
    rintro e w1 ⟨rfl, hB⟩
    have HB := Lib.hid hB; clear hB
    go_wp2
    go_ret
    exact ⟨rfl, HB.out⟩
  have hf' : ¬ (700 : Int) < (l : Int) + (l' : Int) := by omega
  go_enter Try.func3, Try.ntmps3
  go_wp2_with fail
  refine (lentS_any a l c f _ H1.out (by omega)).mono ?_
  rintro e w1 ⟨rfl, hx1, hB1⟩
  have hs1 := hB1.size
  have HX1 := Lib.hid hx1; have HB1 := Lib.hid hB1; clear hx1 hB1
  go_wp2_with fail
  refine (lentS_any a' l' c' g _ (H2.out.same HB1.out) (by omega)).mono ?_
  rintro e w2 ⟨rfl, hx2, hB2⟩
  have hs2 := hB2.size
  have HX2 := Lib.hid hx2; have HX12 := Lib.hid (HX1.out.below hB2 HX1.out.lt); have HB2 := Lib.hid (HB1.out.trans (hB2.mono HB1.out.size)); clear hx2 hB2
  have NA := Lib.hid (HX12.out.nw (B := w.heap.size) (Nat.le_refl _) H1.out.bytes H1.out.up (by omega))
  have NB := Lib.hid (HX2.out.nw (B := w1.heap.size) (Nat.le_refl _) H2.out.bytes H2.out.up (by omega))
  go_wp2_with fail
  refine (addp_loop _ _ l (l + 12) l' (l' + 12) f g (by omega) (by omega) _ NA.out.sl NB.out.sl).mono ?_
  rintro e w3 ⟨n3, hL3, a3, c3, rfl, hN3, hB3⟩
  have hn3 : n3 ≤ l + l' := hL3.le (fun i hi => by show f i ^^^ g i = 0; rw [H1.out.up i (by omega), H2.out.up i (by omega)]; rfl)
  have hs3 := hB3.size
  have NS := Lib.hid hN3; have HL3 := Lib.hid hL3; have NA3 := Lib.hid (NA.out.below hB3); have NB3 := Lib.hid (NB.out.below hB3); have C3 := Lib.hid hB3
  clear hN3 hL3 hB3
  go_wp2_with fail
  refine (pmul_any _ _ l (l + 12) l' (l' + 12) f g (by omega) (by omega) _ NA3.out.sl NB3.out.sl).mono ?_
  intro e w4 hm
  obtain ⟨a4, n4, c4, M, E4, rfl, hN4, hn4, hB4, hR4⟩ := mul_agree H1.out.up H2.out.up hm
  have hs4 := hB4.size
  have NM := Lib.hid hN4; have R4 := Lib.hid hR4; have NS4 := Lib.hid (NS.out.below hB4); have NA4 := Lib.hid (NA3.out.below hB4); have NB4 := Lib.hid (NB3.out.below hB4); have C4 := Lib.hid (C3.out.trans (hB4.mono hs3))
  clear hm hN4 hR4 hB4
  go_wp2_with fail
  refine (pdiv_any _ _ l (l + 12) l' (l' + 12) f g (by omega) (by omega) _ NA4.out.sl NB4.out.sl).mono ?_
  intro e w5 hd
  obtain ⟨a5, n5, c5, Q, b5, m5, d5, R, E5, rfl, hNQ, hNR, hn5, hm5, hdis, hB5, hR5⟩ := div_agree H2.out.bytes H1.out.up H2.out.up hd
  have hs5 := hB5.size
  have NQ := Lib.hid hNQ; have NR := Lib.hid hNR; have HD := Lib.hid hdis; have R5 := Lib.hid hR5; have NM5 := Lib.hid (NM.out.below hB5); have NS5 := Lib.hid (NS4.out.below hB5); have NA5 := Lib.hid (NA4.out.below hB5); have NB5 := Lib.hid (NB4.out.below hB5); have C5 := Lib.hid (C4.out.trans (hB5.mono (Nat.le_trans hs3 hs4)))
  clear hd hNQ hNR hdis hB5 hR5
  have k3 := Pf.ln_le f l
  go_wp2_with fail
  refine (lean_any _ l (l + 12) f (by omega) _ NA5.out.sl).mono ?_
  rintro e w6 ⟨a6, c6, rfl, hN6, hB6⟩
  have hs6 := hB6.size
  have NL := Lib.hid hN6; have NQ6 := Lib.hid (NQ.out.below hB6); have NR6 := Lib.hid (NR.out.below hB6); have NM6 := Lib.hid (NM5.out.below hB6); have NS6 := Lib.hid (NS5.out.below hB6); have NA6 := Lib.hid (NA5.out.below hB6); have NB6 := Lib.hid (NB5.out.below hB6); have C6 := Lib.hid (C5.out.trans (hB6.mono (Nat.le_trans hs3 (Nat.le_trans hs4 hs5))))
  clear hN6 hB6
  have hs26 : w2.heap.size ≤ w6.heap.size := C6.out.size
  have T := Lib.hid (fun (wx : World) (h : Below w6.heap.size w6 wx) => (HB2.out.trans ((C6.out.trans (h.mono hs26)).mono HB2.out.size) : Below w.heap.size w wx))
  have sepA : Sep (sel7 (some ⟨w.heap.size, 0, none⟩) (some ⟨w1.heap.size, 0, none⟩) a3 a4 a5 b5 a6) 7 :=
    sep7 (t0 := w.heap.size) (t1 := w1.heap.size) (t2 := w2.heap.size) (t3 := w3.heap.size) (t4 := w4.heap.size) (t5 := w5.heap.size) (t6 := w6.heap.size) hs2 hs3 hs4 hs5
      (fun y hy => by cases hy; exact ⟨Nat.le_refl _, HX1.out.lt⟩) (fun y hy => by cases hy; exact ⟨Nat.le_refl _, HX2.out.lt⟩) (fun y hy => NS.out.blkB hy) (fun y hy => NM.out.blkB hy) (fun y hy => NQ.out.blkB hy) (fun y hy => NR.out.blkB hy) (fun y hy => NL.out.blkB hy) HD.out
  have SEP := Lib.hid sepA
  have ownA : ∀ k, k < 7 → w6.ownsRow w.heap.size 5 1 (.slice (sel7 (some ⟨w.heap.size, 0, none⟩) (some ⟨w1.heap.size, 0, none⟩) a3 a4 a5 b5 a6 k) (sel7 l l' n3 n4 n5 m5 (Pf.ln f l) k) (sel7 (l + 12) (l' + 12) c3 c4 c5 d5 c6 k)) (sel7 l l' n3 n4 n5 m5 (Pf.ln f l) k) (rowv (sel7 f g (fun i => f i ^^^ g i) M Q R f k) (sel7 l l' n3 n4 n5 m5 (Pf.ln f l) k)) := by
    intro k hk
    rcases k with _ | _ | _ | _ | _ | _ | _ | k
    · exact NA6.out.owns
    · exact (NB6.out.mono (by omega)).owns
    · exact (NS6.out.mono (by omega)).owns
    · exact (NM6.out.mono (by omega)).owns
    · exact (NQ6.out.mono (by omega)).owns
    · exact (NR6.out.mono (by omega)).owns
    · exact (NL.out.mono (by omega)).owns
    · omega
  have OWN := Lib.hid ownA
  have lenA : ∀ k, sel7 l l' n3 n4 n5 m5 (Pf.ln f l) k ≤ 1000000 := by
    intro k
    rcases k with _ | _ | _ | _ | _ | _ | _ | k <;> simp only [sel7] <;> omega
  have LEN := Lib.hid lenA
  clear sepA ownA lenA
  go_wp2_with fail
  refine (rmulp_any a a' l c l' c' f g (by omega) (by omega) _ (H1.out.same (T.out _ (Below.refl _ _))) (H2.out.same (T.out _ (Below.refl _ _)))).mono ?_
  intro e w7 hm
  obtain ⟨a7, c7, rfl, hS7, hB7⟩ := R4.out _ _ _ hm
  have S7 := Lib.hid hS7; have D7 := Lib.hid hB7; have hs7 := hB7.size
  clear hm hS7 hB7
  go_wp2_with fail
  refine (rdivp_any a a' l c l' c' f g (by omega) (by omega) _ (H1.out.same (T.out _ D7.out)) (H2.out.same (T.out _ D7.out))).mono ?_
  intro e w8 hd
  obtain ⟨a8, c8, b8, d8, rfl, hS8, hS8', hB8⟩ := R5.out _ _ _ hd
  have S8 := Lib.hid hS8; have S8' := Lib.hid hS8'; have S78 := Lib.hid (S7.out.same hB8); have D8 := Lib.hid (D7.out.trans (hB8.mono hs7)); have hs8 := D8.out.size
  clear hd hS8 hS8' hB8
  have gE4 : (E4 != E4) = false := by simp
  have gE5 : (E5 != E5) = false := by simp
  go_wp2_with fail
  refine (same_any a4 a7 n4 c4 c7 M (by omega) _ (NM6.out.sl.same D8.out) S78.out).mono ?_
  rintro e w9 ⟨rfl, q1, rfl⟩
  go_wp2_with fail
  refine (same_any a5 a8 n5 c5 c8 Q (by omega) _ ((NQ6.out.sl.same D8.out).drewN _) (S8.out.drewN _)).mono ?_
  rintro e w9 ⟨rfl, q2, rfl⟩
  go_wp2_with fail
  refine (same_any b5 b8 m5 d5 d8 R (by omega) _ ((NR6.out.sl.same D8.out).drewN _) (S8'.out.drewN _)).mono ?_
  rintro e w9 ⟨rfl, q3, rfl⟩
  clear gE4 gE5
  go_wp2_with fail
  refine (radd_any a a' l c l' c' f g (by omega) (by omega) _ ((H1.out.same (T.out _ D8.out)).drewN _) ((H2.out.same (T.out _ D8.out)).drewN _)).mono ?_
  rintro e w9 ⟨n9, hL9, a9, c9, rfl, hN9, hB9⟩
  obtain rfl := HL3.out.uniq hL9
  have S9 := Lib.hid hN9.sl; have D9 := Lib.hid ((below_drewN D8.out _).trans (hB9.mono hs8)); have hs9 := D9.out.size
  clear hL9 hN9 hB9
  go_wp2_with fail
  refine (same_any a3 a9 n3 c3 c9 _ (by omega) _ (NS6.out.sl.same D9.out) S9.out).mono ?_
  rintro e w10 ⟨rfl, q4, rfl⟩
  go_wp2_with fail
  refine (rlean_any a l c f (by omega) _ ((H1.out.same (T.out _ D9.out)).drewN _)).mono ?_
  rintro e w10 ⟨a10, c10, rfl, hN10, hB10⟩
  have S10 := Lib.hid hN10.sl; have D10 := Lib.hid ((below_drewN D9.out _).trans (hB10.mono hs9)); have hs10 := D10.out.size
  clear hN10 hB10
  go_wp2_with fail
  refine (same_any a6 a10 (Pf.ln f l) c6 c10 f (by omega) _ (NL.out.sl.same D10.out) S10.out).mono ?_
  rintro e w11 ⟨rfl, q5, rfl⟩
  have gV : (((Pf.ev f x l : Nat) : Int) != ((Pf.ev f x l : Nat) : Int)) = false := by simp
  go_wp2_with fail
  refine (pvalue_any _ l (l + 12) f x hx (by omega) _ ((NA6.out.sl.same D10.out).drewN _)).mono ?_
  rintro e w11 ⟨rfl, hB11⟩
  have D11 := Lib.hid ((below_drewN D10.out _).trans (hB11.mono hs10)); have hs11 := D11.out.size
  clear hB11
  go_wp2_with fail
  refine (rvalue_any a l c f x hx (by omega) _ (H1.out.same (T.out _ D11.out))).mono ?_
  rintro e w12 ⟨rfl, rfl⟩
  clear gV
  go_wp2_with fail
  refine (keptS_any _ a l c f _ (H1.out.same (T.out _ D11.out)) (HX12.out.below (C6.out.trans (D11.out.mono hs26)) HX12.out.lt) (by omega)).mono ?_
  rintro e w12 ⟨rfl, q6, rfl⟩
  go_wp2_with fail
  refine (keptS_any _ a' l' c' g _ ((H2.out.same (T.out _ D11.out)).drewN _) (HX2.out.below (below_drewN (C6.out.trans (D11.out.mono hs26)) _) HX2.out.lt) (by omega)).mono ?_
  rintro e w12 ⟨rfl, q7, rfl⟩
  go_wp2_with fail
  refine (apartBytes_any w.heap.size _ 7 7 _ _ _ _ _ (bag7 (fun k hk => own_below (OWN.out k hk) (below_drewN D11.out _))) SEP.out (by simp) (by have := (T.out _ D11.out).size; simp; omega) (Nat.le_refl _) (by omega) (by omega) LEN.out).mono ?_
  rintro e w14 ⟨rfl, hB14⟩
  have hsz := (T.out _ D11.out).size
  have D14 := Lib.hid (((below_drewN (T.out _ D11.out) (q6 + q7)).alloc hsz _).trans hB14)
  clear hB14
  go_wp2_with fail
  refine (awake2_any _).mono ?_
  rintro e w15 ⟨rfl, hB15⟩
  have D15 := Lib.hid (D14.out.trans (hB15.mono D14.out.size)); clear hB15
  go_wp2
  go_ret
  exact ⟨rfl, D15.out⟩
theorem polyDoes_any (a a' : Option Addr) (l c l' c' x : Nat) (f g : Nat → Nat) (w : World) (h1 : Sl w a l c f) (h2 : Sl w a' l' c' g) (hx : x < 256) (hc : c ≤ 140737488351232) (hc' : c' ≤ 140737488351232) :
    Calls Try.prog 3 #[.slice a l c, .slice a' l' c', .int .u8 (x : Nat)] w fun e w' => e = .returned (.bool true) ∧ Below w.heap.size w w' :=
  polyDoes_len a a' l c l' c' x f g w h1 h2 hx (Nat.le_trans h1.capOk hc) (Nat.le_trans h2.capOk hc')
end Go.Proofs.Ytmabdfcabpnabaa
