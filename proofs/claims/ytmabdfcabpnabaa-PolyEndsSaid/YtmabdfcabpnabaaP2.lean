import Derived.Test.YtmabdfcabpnabaaP1
namespace Go.Proofs.Ytmabdfcabpnabaa
open Go.RowKit Go.Shelf

theorem Nw.of_bl {w : World} {B g len cap : Nat} {f : Nat → Nat} (hb : Bl w g len cap f) (h1 : len ≤ cap) (h2 : cap ≤ maxLen) (h3 : Pf.By f) (h4 : Pf.Up f len) (hg : B ≤ g) : Nw w B (some ⟨g, 0, none⟩) len cap f := ⟨hb.sl h1 h2 h3 h4, hb.ow hg⟩

/-- a slice with places to read. -/
theorem Nw.cells {w : World} {B : Nat} {a : Option Addr} {len cap : Nat} {f : Nat → Nat} (h : Nw w B a len cap f) (hl : 0 < len) : ∃ g, a = some ⟨g, 0, none⟩ ∧ B ≤ g ∧ Bl w g len cap f := by
  rcases h.cond with ⟨_, e, _⟩ | h
  · omega
  · exact h

set_option maxHeartbeats 1000000 in
set_option maxRecDepth 100000 in
/-- poly.Add, behind its exchange: the longer one first. -/
theorem addp_loop (a a' : Option Addr) (l c l' c' : Nat) (f f' : Nat → Nat) (hm : l ≤ 1000000000000) (hm' : l' ≤ 1000000000000) (w : World) (h1 : Sl w a l c f) (h2 : Sl w a' l' c' f') :
    Calls Try.prog 10 #[.slice a l c, .slice a' l' c'] w fun e w' => ∃ n, Pf.Ln (fun i => f i ^^^ f' i) n ∧ Gives w n (fun i => f i ^^^ f' i) e w' := by
  have k1 := Pf.ln_le f l
  have k2 := Pf.ln_le f' l'
  have H1 := Lib.hid h1; have H2 := Lib.hid h2; clear h1 h2
  go_enter Try.func10, Try.ntmps10
  go_wp2_with fail
  refine (trim_any a l c f hm _ H1.out).mono ?_
  rintro e w1 ⟨rfl, hB1⟩
  have HB1 := Lib.hid hB1; clear hB1
  go_wp2_with fail
  refine (trim_any a' l' c' f' hm' _ (H2.out.same HB1.out)).mono ?_
  rintro e w2 ⟨rfl, hB2⟩
  have HB := Lib.hid (HB1.out.trans (hB2.mono HB1.out.size)); clear hB2 HB1
  have T1 := Lib.hid (H1.out.same HB.out).trim
  have T2 := Lib.hid (H2.out.same HB.out).trim
  clear H1 H2
  generalize tA a (Pf.ln f l) = p at *
  generalize tA a' (Pf.ln f' l') = p' at *
  generalize tC c (Pf.ln f l) = d at *
  generalize tC c' (Pf.ln f' l') = d' at *
  generalize Pf.ln f l = n at *
  generalize Pf.ln f' l' = n' at *
  by_cases hnn : n < n'
  · have hnn' : (n : Int) < (n' : Int) := by omega
    go_wp2_with fail
    refine (clone_any p' n' d' f' (by omega) _ T2.out).mono ?_
    rintro e w3 ⟨g0, cap, rfl, hN, hB3⟩
    have HN := Lib.hid hN; have HB3 := Lib.hid hB3; clear hN hB3
    go_wp2_with fail
    go_loopw [23] (fun i wr => ∃ k : Nat, k ≤ n ∧ i = .int .i64 k ∧ Nw wr w2.heap.size g0 n' cap (fun i => if i < k then f' i ^^^ f i else f' i) ∧ Below w2.heap.size w2 wr) (fun i _ => n - (intOf i).toNat)
    case atStart => exact ⟨0, by omega, rfl, HN.out, HB3.out⟩
    case round =>
      obtain ⟨k, hk, rfl, hNr, hBr⟩ := hrel
      by_cases hlt : k < n
      · obtain ⟨g, e0, hg, hbl⟩ := hNr.cells (by omega)
        obtain ⟨b, off, e1, c1⟩ := (T1.out.same hBr).at_ hlt
        have c2 : wr.cell? ⟨g, k, none⟩ = some (.int .u8 (f' k : Nat)) := by have := hbl.cell (i := k) (by omega); rwa [if_neg (by omega)] at this
        have c3 := hbl.free k
        have d1 := T2.out.bytes k
        have d2 := T1.out.bytes k
        have HC := Lib.hid (And.intro hNr.sl.capOk hNr.sl.maxOk)
        have HBL := Lib.hid hbl; have HBR := Lib.hid hBr
        clear hNr hBr hbl
        subst e0 e1
        have i2 : (k : Int) < (n : Int) := by omega
        have i3 : (k : Int) < (n' : Int) := by omega
        have i4 : k < n' := by omega
        go_wp2_with fail
        refine (add_nat (f' k) (f k) d1 d2 _).mono ?_
        rintro e w' ⟨rfl, rfl⟩
        go_wp2
        go_roundw
        case rel =>
          refine ⟨k + 1, by omega, by go_num, Nw.of_bl ((HBL.out.set (by omega) _).congr fun i hi => ?_) HC.out.1 HC.out.2 (fun i => ?_) (fun i hi => ?_) hg, HBR.out.setCell (p := ⟨g, k, none⟩) hg _⟩
          · by_cases e : i = k
            · subst e; rw [if_pos rfl, if_pos (by omega)]
            · rw [if_neg e]
              by_cases e2 : i < k
              · rw [if_pos e2, if_pos (by omega)]
              · rw [if_neg e2, if_neg (by omega)]
          · show (if i < k + 1 then f' i ^^^ f i else f' i) < 256
            split
            · exact Gf.xor_lt (T2.out.bytes i) (T1.out.bytes i)
            · exact T2.out.bytes i
          · show (if i < k + 1 then f' i ^^^ f i else f' i) = 0
            rw [if_neg (by omega)]; exact T2.out.up i hi
        case measure => simp [intOf]; omega
      · obtain rfl : k = n := by omega
        have he : (fun i => if i < k then f' i ^^^ f i else f' i) = (fun i => f i ^^^ f' i) := funext fun i => by
          by_cases e : i < k
          · rw [if_pos e]; exact Nat.xor_comm _ _
          · rw [if_neg e, T1.out.up i (by omega)]; exact (Nat.zero_xor _).symm
        rw [he] at hNr
        have HNr := Lib.hid hNr; have HBr := Lib.hid hBr
        clear hNr hBr he hlt
        go_wp2_with fail
        refine (trim_any g0 n' cap (fun i => f i ^^^ f' i) (by omega) _ HNr.out.sl).mono ?_
        rintro e w4 ⟨rfl, hB4⟩
        have HB4 := Lib.hid hB4; clear hB4
        go_wp2
        go_ret
        exact ⟨_, Pf.ln_Ln _ HNr.out.sl.up, _, _, rfl, (HNr.out.below HB4.out).trim.mono HB.out.size, HB.out.trans ((HBr.out.mono HB.out.size).trans (HB4.out.mono (Nat.le_trans HB.out.size HBr.out.size)))⟩
  · have hnn' : ¬ (n : Int) < (n' : Int) := by omega
    go_wp2_with fail
    refine (clone_any p n d f (by omega) _ T1.out).mono ?_
    rintro e w3 ⟨g0, cap, rfl, hN, hB3⟩
    have HN := Lib.hid hN; have HB3 := Lib.hid hB3; clear hN hB3
    go_wp2_with fail
    go_loopw [23] (fun i wr => ∃ k : Nat, k ≤ n' ∧ i = .int .i64 k ∧ Nw wr w2.heap.size g0 n cap (fun i => if i < k then f i ^^^ f' i else f i) ∧ Below w2.heap.size w2 wr) (fun i _ => n' - (intOf i).toNat)
    case atStart => exact ⟨0, by omega, rfl, HN.out, HB3.out⟩
    case round =>
      obtain ⟨k, hk, rfl, hNr, hBr⟩ := hrel
      by_cases hlt : k < n'
      · obtain ⟨g, e0, hg, hbl⟩ := hNr.cells (by omega)
        obtain ⟨b, off, e1, c1⟩ := (T2.out.same hBr).at_ hlt
        have c2 : wr.cell? ⟨g, k, none⟩ = some (.int .u8 (f k : Nat)) := by have := hbl.cell (i := k) (by omega); rwa [if_neg (by omega)] at this
        have c3 := hbl.free k
        have d1 := T1.out.bytes k
        have d2 := T2.out.bytes k
        have HC := Lib.hid (And.intro hNr.sl.capOk hNr.sl.maxOk)
        have HBL := Lib.hid hbl; have HBR := Lib.hid hBr
        clear hNr hBr hbl
        subst e0 e1
        have i2 : (k : Int) < (n' : Int) := by omega
        have i3 : (k : Int) < (n : Int) := by omega
        have i4 : k < n := by omega
        go_wp2_with fail
        refine (add_nat (f k) (f' k) d1 d2 _).mono ?_
        rintro e w' ⟨rfl, rfl⟩
        go_wp2
        go_roundw
        case rel =>
          refine ⟨k + 1, by omega, by go_num, Nw.of_bl ((HBL.out.set (by omega) _).congr fun i hi => ?_) HC.out.1 HC.out.2 (fun i => ?_) (fun i hi => ?_) hg, HBR.out.setCell (p := ⟨g, k, none⟩) hg _⟩
          · by_cases e : i = k
            · subst e; rw [if_pos rfl, if_pos (by omega)]
            · rw [if_neg e]
              by_cases e2 : i < k
              · rw [if_pos e2, if_pos (by omega)]
              · rw [if_neg e2, if_neg (by omega)]
          · show (if i < k + 1 then f i ^^^ f' i else f i) < 256
            split
            · exact Gf.xor_lt (T1.out.bytes i) (T2.out.bytes i)
            · exact T1.out.bytes i
          · show (if i < k + 1 then f i ^^^ f' i else f i) = 0
            rw [if_neg (by omega)]; exact T1.out.up i hi
        case measure => simp [intOf]; omega
      · obtain rfl : k = n' := by omega
        have he : (fun i => if i < k then f i ^^^ f' i else f i) = (fun i => f i ^^^ f' i) := funext fun i => by
          by_cases e : i < k
          · rw [if_pos e]
          · rw [if_neg e, T2.out.up i (by omega)]; exact (Nat.xor_zero _).symm
        rw [he] at hNr
        have HNr := Lib.hid hNr; have HBr := Lib.hid hBr
        clear hNr hBr he hlt
        go_wp2_with fail
        refine (trim_any g0 n cap (fun i => f i ^^^ f' i) (by omega) _ HNr.out.sl).mono ?_
        rintro e w4 ⟨rfl, hB4⟩
        have HB4 := Lib.hid hB4; clear hB4
        go_wp2
        go_ret
        exact ⟨_, Pf.ln_Ln _ HNr.out.sl.up, _, _, rfl, (HNr.out.below HB4.out).trim.mono HB.out.size, HB.out.trans ((HBr.out.mono HB.out.size).trans (HB4.out.mono (Nat.le_trans HB.out.size HBr.out.size)))⟩
end Go.Proofs.Ytmabdfcabpnabaa
