import Derived.Test.YtmabdfcabpnabaaA2
import Derived.Test.YtmabdfcabpnabaaR5
namespace Go.Proofs.Ytmabdfcabpnabaa
open Go.RowKit Go.Shelf

set_option maxHeartbeats 4000000 in
set_option maxRecDepth 100000 in
theorem polyThrough_len (a a' : Option Addr) (l c l' c' : Nat) (f g : Nat → Nat) (w : World) (h1 : Sl w a l c f) (h2 : Sl w a' l' c' g) (hc : l ≤ 140737488351232) (hc' : l' ≤ 140737488351232) :
    Calls Try.prog 4 #[.slice a l c, .slice a' l' c'] w fun e w' => e = .returned (.bool true) ∧ Below w.heap.size w w' := by
  have H1 := Lib.hid h1; have H2 := Lib.hid h2; clear h1 h2
  by_cases hfar : 80 < l + l'
  · have hf' : (80 : Int) < (l : Int) + (l' : Int) := by omega
    go_enter Try.func4, Try.ntmps4
    go_wp2_with fail
    refine (awake2_any _).mono ?_
    rintro e w1 ⟨rfl, hB⟩
    have HB := Lib.hid hB; clear hB
    go_wp2
    go_ret
    exact ⟨rfl, HB.out⟩
  have hf' : ¬ (80 : Int) < (l : Int) + (l' : Int) := by omega
  have hl : l ≤ 80 := by omega
  have hl' : l' ≤ 80 := by omega
  go_enter Try.func4, Try.ntmps4
  go_wp2_with fail
  refine (lentS_any a l c f _ H1.out (by omega)).mono ?_
  rintro e w1 ⟨rfl, hx1, hB1⟩
  have HX1 := Lib.hid hx1; have HB1 := Lib.hid hB1; clear hx1 hB1
  go_wp2_with fail
  refine (lentS_any a' l' c' g _ (H2.out.same HB1.out) (by omega)).mono ?_
  rintro e w2 ⟨rfl, hx2, hB2⟩
  have HX2 := Lib.hid hx2; have HX12 := Lib.hid (HX1.out.below hB2 HX1.out.lt); have HB2 := Lib.hid (HB1.out.trans (hB2.mono HB1.out.size)); clear hx2 hB2
  have NA := Lib.hid (HX12.out.nw (B := 0) (Nat.zero_le _) H1.out.bytes H1.out.up (by omega))
  have NB := Lib.hid (HX2.out.nw (B := 0) (Nat.zero_le _) H2.out.bytes H2.out.up (by omega))
  go_wp2_with fail
  refine (through_any _ _ l (l + 12) l' (l' + 12) f g (by omega) (by omega) _ NA.out.sl NB.out.sl).mono ?_
  rintro e w3 hth
  have hB3 : Below w2.heap.size w2 w3 := by
    rcases hth with ⟨_, _, h⟩ | ⟨_, _, _, h⟩ | ⟨_, _, _, _, _, _, _, _, _, _, h⟩ <;> exact h
  have HB3 := Lib.hid (HB2.out.trans (hB3.mono HB2.out.size))
  have X13 := Lib.hid (HX12.out.below hB3 HX12.out.lt)
  have X23 := Lib.hid (HX2.out.below hB3 HX2.out.lt)
  have HTH := Lib.hid hth
  clear hth hB3
  have key : ∃ (P : Nat → Nat) (pa : Option Addr) (n pc : Nat) (E : Int), n ≤ 1000000000000 ∧ e = .returned (.tuple #[.slice pa n pc, .int .i64 E]) ∧ Sl w3 pa n pc P ∧
      (∀ e' w', RThSays w3 l l' f g e' w' → ∃ pb qc, e' = .returned (.tuple #[.slice pb n qc, .int .i64 E]) ∧ Sl w' pb n qc P ∧ Below w3.heap.size w3 w') := by
    rcases HTH.out with ⟨hne, rfl, _⟩ | ⟨he, hd, rfl, _⟩ | ⟨he, pa, n, pc, S, N, rfl, hN, hL, hNw, _⟩
    · refine ⟨fun _ => 0, none, 0, 0, 2, by omega, rfl, (Nw.nil w3 0 (fun _ => rfl)).sl, ?_⟩
      rintro e' w' (⟨_, rfl, hb⟩ | ⟨h, _⟩ | ⟨h, _⟩)
      · exact ⟨none, 0, rfl, (Nw.nil w' 0 (fun _ => rfl)).sl, hb⟩
      · exact absurd h hne
      · exact absurd h hne
    · refine ⟨fun _ => 0, none, 0, 0, 9, by omega, rfl, (Nw.nil w3 0 (fun _ => rfl)).sl, ?_⟩
      rintro e' w' (⟨h, _⟩ | ⟨_, _, rfl, hb⟩ | ⟨_, _, _, _, _, _, _, _, _, h, _⟩)
      · exact absurd he h
      · exact ⟨none, 0, rfl, (Nw.nil w' 0 (fun _ => rfl)).sl, hb⟩
      · obtain ⟨i, j, h1, h2, h3⟩ := hd
        exact absurd h3 (h i j h1 h2)
    · refine ⟨S, pa, n, pc, 0, by have := hL.le hNw.su; omega, rfl, hN.sl, ?_⟩
      rintro e' w' (⟨h, _⟩ | ⟨_, ⟨i, j, h1, h2, h3⟩, _⟩ | ⟨_, pb, n', qc, S', rfl, hS', hL', hLag, _, hb⟩)
      · exact absurd he h
      · exact absurd h3 (hNw.two i j h1 h2)
      · have hSS := Pf.newt_lag H1.out.bytes hNw hLag
        subst hSS
        obtain rfl := hL.uniq hL'
        exact ⟨pb, qc, rfl, hS', hb⟩
  obtain ⟨P, pa, n, pc, E, hn, rfl, hP, hR⟩ := key
  have HP := Lib.hid hP; have HR := Lib.hid hR; clear hP hR
  have gE : (E == E) = true := by simp
  go_wp2_with fail
  refine (rthrough_any a a' l c l' c' f g (by omega) (by omega) _ (H1.out.same HB3.out) (H2.out.same HB3.out)).mono ?_
  rintro e' w4 hrt
  obtain ⟨pb, qc, rfl, hPb, hB4⟩ := HR.out e' w4 hrt
  have HPb := Lib.hid hPb; have HPa := Lib.hid (HP.out.same hB4); have HB4 := Lib.hid (HB3.out.trans (hB4.mono HB3.out.size)); have X14 := Lib.hid (X13.out.below hB4 X13.out.lt); have X24 := Lib.hid (X23.out.below hB4 X23.out.lt)
  clear hrt hPb hB4
  go_wp2_with fail
  refine (same_any pa pb n pc qc P hn _ HPa.out HPb.out).mono ?_
  rintro e5 w5 ⟨rfl, q5, rfl⟩
  go_wp2_with fail
  refine (keptS_any _ a l c f _ ((H1.out.same HB4.out).drewN _) X14.out (by omega)).mono ?_
  rintro e5 w5 ⟨rfl, q6, rfl⟩
  go_wp2_with fail
  refine (keptS_any _ a' l' c' g _ ((H2.out.same HB4.out).drewN _) X24.out (by omega)).mono ?_
  rintro e5 w5 ⟨rfl, q7, rfl⟩
  go_wp2_with fail
  refine (awake2_any _).mono ?_
  rintro e5 w8 ⟨rfl, hB8⟩
  have HB8 := Lib.hid hB8; clear hB8
  go_wp2
  go_ret
  exact ⟨rfl, (below_drewN HB4.out _).trans (HB8.out.mono HB4.out.size)⟩
theorem polyThrough_any (a a' : Option Addr) (l c l' c' : Nat) (f g : Nat → Nat) (w : World) (h1 : Sl w a l c f) (h2 : Sl w a' l' c' g) (hc : c ≤ 140737488351232) (hc' : c' ≤ 140737488351232) :
    Calls Try.prog 4 #[.slice a l c, .slice a' l' c'] w fun e w' => e = .returned (.bool true) ∧ Below w.heap.size w w' :=
  polyThrough_len a a' l c l' c' f g w h1 h2 (Nat.le_trans h1.capOk hc) (Nat.le_trans h2.capOk hc')
end Go.Proofs.Ytmabdfcabpnabaa
