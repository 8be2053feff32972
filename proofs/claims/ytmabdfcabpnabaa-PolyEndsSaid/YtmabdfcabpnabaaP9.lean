import Derived.Test.YtmabdfcabpnabaaP8
import Derived.Test.YtmabdfcabpnabaaPt
namespace Go.Proofs.Ytmabdfcabpnabaa
open Go.RowKit Go.Shelf

/-- what Div answers. -/
def DivSays (w : World) (l l' : Nat) (f b : Nat → Nat) (e : Ending) (w' : World) : Prop :=
  (600 < Pf.ln f l ∨ 600 < Pf.ln b l') ∧ e = .returned (.tuple #[.slice none 0 0, .slice none 0 0, .int .i64 3]) ∧ Below w.heap.size w w' ∨
  (Pf.ln f l ≤ 600 ∧ Pf.ln b l' ≤ 600) ∧ Pf.ln b l' = 0 ∧ e = .returned (.tuple #[.slice none 0 0, .slice none 0 0, .int .i64 6]) ∧ Below w.heap.size w w' ∨
  (Pf.ln f l ≤ 600 ∧ Pf.ln b l' ≤ 600) ∧ Pf.ln b l' ≠ 0 ∧ ∃ aq nq cq qf ar nr cr rf, e = .returned (.tuple #[.slice aq nq cq, .slice ar nr cr, .int .i64 0]) ∧ Nw w' w.heap.size aq nq cq qf ∧ Pf.Ln qf nq ∧ Nw w' w.heap.size ar nr cr rf ∧ Pf.Ln rf nr ∧ nr < Pf.ln b l' ∧
    (∀ i, f i = Pf.cv qf b nq i ^^^ rf i) ∧ (∀ g g', ar = some ⟨g, 0, none⟩ → aq = some ⟨g', 0, none⟩ → g ≠ g') ∧ Below w.heap.size w w'

set_option maxHeartbeats 2000000 in
set_option maxRecDepth 100000 in
theorem pdiv_any (a a' : Option Addr) (l c l' c' : Nat) (f b : Nat → Nat) (hm : l ≤ 100000000) (hm' : l' ≤ 100000000) (w : World) (h1 : Sl w a l c f) (h2 : Sl w a' l' c' b) :
    Calls Try.prog 12 #[.slice a l c, .slice a' l' c'] w (DivSays w l l' f b) := by
  have H1 := Lib.hid h1; have H2 := Lib.hid h2; clear h1 h2
  by_cases g1 : 600 < Pf.ln f l
  · have hg1 : decide ((600 : Int) < (Pf.ln f l : Int)) = true := by simp; omega
    have G1 := Lib.hid g1; clear g1
    go_enter Try.func12, Try.ntmps12
    go_wp2_with fail
    refine (long_any a l c f (by omega) _ H1.out).mono ?_
    rw [hg1]
    rintro e w1 ⟨rfl, hB⟩
    have HB := Lib.hid hB; clear hB hg1
    go_wp2
    go_ret3
    exact Or.inl ⟨Or.inl G1.out, rfl, HB.out⟩
  have hg1 : decide ((600 : Int) < (Pf.ln f l : Int)) = false := by simp; omega
  have G1 := Lib.hid (show Pf.ln f l ≤ 600 by omega); clear g1
  by_cases g2 : 600 < Pf.ln b l'
  · have hg2 : decide ((600 : Int) < (Pf.ln b l' : Int)) = true := by simp; omega
    have G2 := Lib.hid g2; clear g2
    go_enter Try.func12, Try.ntmps12
    go_wp2_with fail
    refine (long_any a l c f (by omega) _ H1.out).mono ?_
    rw [hg1]
    rintro e w1 ⟨rfl, hB⟩
    have HB := Lib.hid hB; clear hB hg1
    go_wp2_with fail
    refine (long_any a' l' c' b (by omega) _ (H2.out.same HB.out)).mono ?_
    rw [hg2]
    rintro e w2 ⟨rfl, hB⟩
    have HB2 := Lib.hid hB; clear hB hg2
    go_wp2
    go_ret3
    exact Or.inl ⟨Or.inr G2.out, rfl, HB.out.trans (HB2.out.mono HB.out.size)⟩
  have hg2 : decide ((600 : Int) < (Pf.ln b l' : Int)) = false := by simp; omega
  have G2 := Lib.hid (show Pf.ln b l' ≤ 600 by omega); clear g2
  have hln := Pf.ln_le b l'
  have hln1 := Pf.ln_le f l
  have LB := Lib.hid (Pf.ln_Ln l' H2.out.up)
  have LF := Lib.hid (Pf.ln_Ln l H1.out.up)
  go_enter Try.func12, Try.ntmps12
  go_wp2_with fail
  refine (long_any a l c f (by omega) _ H1.out).mono ?_
  rw [hg1]
  rintro e w1 ⟨rfl, hB⟩
  have HB := Lib.hid hB; clear hB hg1
  go_wp2_with fail
  refine (long_any a' l' c' b (by omega) _ (H2.out.same HB.out)).mono ?_
  rw [hg2]
  rintro e w2 ⟨rfl, hB⟩
  have HB2 := Lib.hid (HB.out.trans (hB.mono HB.out.size)); clear hB hg2 HB
  go_wp2_with fail
  refine (trim_any a' l' c' b (by omega) _ (H2.out.same HB2.out)).mono ?_
  rintro e w3 ⟨rfl, hB⟩
  have HB3 := Lib.hid (HB2.out.trans (hB.mono HB2.out.size)); clear hB HB2
  have T2 := Lib.hid (H2.out.same HB3.out).trim
  have hold : ∀ ad, tA a' (Pf.ln b l') = some ad → Pf.ln b l' ≠ 0 → ad.block < w.heap.size := fun ad e hne => by
    unfold tA at e; rw [if_neg hne] at e
    exact H2.out.lt ad e (by omega)
  have HO := Lib.hid hold
  clear H2 hold
  generalize tA a' (Pf.ln b l') = p at *
  generalize tC c' (Pf.ln b l') = d at *
  by_cases hz : Pf.ln b l' = 0
  · have g3 : ((Pf.ln b l' : Int) == 0) = true := by simp [hz]
    have HZ := Lib.hid hz; clear hz
    go_wp2
    go_ret3
    exact Or.inr (Or.inl ⟨⟨G1.out, G2.out⟩, HZ.out, rfl, HB3.out⟩)
  have HNZ := Lib.hid hz
  obtain ⟨t, ht⟩ : ∃ t, Pf.ln b l' = t + 1 := ⟨Pf.ln b l' - 1, by omega⟩
  have HT := Lib.hid ht
  have ht1 : t + 1 ≤ l' := by omega
  rw [ht] at T2 LB HO G2
  rw [ht]
  clear hz ht
  have g3 : (((t : Int) + 1) == 0) = false := by simp; omega
  go_wp2_with fail
  refine (new_any _).mono ?_
  rintro e w4 ⟨rfl, hF, hB4⟩
  have HF := Lib.hid hF; have HB4 := Lib.hid (HB3.out.trans (hB4.mono HB3.out.size)); clear hF
  have hs34 := hB4.size
  have hf4 := World.block_lt_of_cell? _ _ (HF.out 0 (by omega)).1
  have T4 := Lib.hid (T2.out.same hB4)
  clear hB4
  go_wp2_with fail
  refine (lean_any a l c f (by omega) _ (H1.out.same HB4.out)).mono ?_
  rintro e w5 ⟨ar, cr, rfl, hN, hB5⟩
  have HN := Lib.hid hN; have HF5 := Lib.hid (HF.out.below hB5 hf4); have HB5 := Lib.hid (HB4.out.trans (hB5.mono HB4.out.size)); have T5 := Lib.hid (T4.out.same hB5)
  have hs45 := hB5.size
  clear hN hB5
  have hW := heap_alloc_new w5 (.cells #[.pointer (some ⟨w3.heap.size, 0, none⟩), .slice ar (Pf.ln f l) cr] 44)
  have hBw : Below w5.heap.size w5 (w5.alloc (.cells #[.pointer (some ⟨w3.heap.size, 0, none⟩), .slice ar (Pf.ln f l) cr] 44)) := (Below.refl _ _).alloc (Nat.le_refl _) _
  have HW := Lib.hid (show Wk (w5.alloc (.cells #[.pointer (some ⟨w3.heap.size, 0, none⟩), .slice ar (Pf.ln f l) cr] 44)) w5.heap.size w3.heap.size ar (Pf.ln f l) cr from hW)
  have HF6 := Lib.hid (HF5.out.below hBw (World.block_lt_of_cell? _ _ (HF5.out 0 (by omega)).1))
  have HN6 := Lib.hid (HN.out.below hBw)
  have T6 := Lib.hid (T5.out.same hBw)
  have HB6 := Lib.hid (HB5.out.trans (hBw.mono HB5.out.size))
  have hs3 := HB3.out.size
  clear hW hBw
  go_wp2_with fail
  refine (divide_any w5.heap.size w3.heap.size w.heap.size t (Pf.ln f l) ar p cr d f b _ HW.out HF6.out (HN6.out.mono (by omega)) LF.out T6.out LB.out (by omega) (fun ad e => HO.out ad e (by omega)) (fun g e => ?_) (by omega) (by omega)).mono ?_
  · rcases HN6.out.cond with ⟨e0, _⟩ | ⟨g', e', hg', _⟩
    · rw [e0] at e; cases e
    · rw [e'] at e
      obtain rfl : g' = g := by simpa using e
      have h4 : w3.heap.size < w4.heap.size := hf4
      omega
  rintro e w7 ⟨aq, uq, cq, qf, rfl, hQ, hQL, a2, n2, c2, rf, hWk, hR, hRL, hn2, hid, hdis, hB7⟩
  have z1 := hWk.c1
  have HX := Lib.hid (And.intro hQ (And.intro hQL (And.intro hR (And.intro hRL (And.intro hid (And.intro hdis hB7))))))
  have HN2 := Lib.hid hn2
  clear hWk hQ hQL hR hRL hid hdis hB7 hn2
  go_wp2
  go_quiet (fail)
  go_wp2
  go_ret3
  obtain ⟨hQ, hQL, hR, hRL, hid, hdis, hB7⟩ := HX.out
  have hBf : Below w.heap.size w w7 := HB6.out.trans hB7
  have hd := below_drewN (Below.refl w7.heap.size w7) nq
  exact Or.inr (Or.inr ⟨⟨G1.out, by rw [HT.out]; exact G2.out⟩, HNZ.out, aq, uq, cq, qf, a2, n2, c2, rf, rfl, hQ.below hd, hQL, hR.below hd, hRL, by rw [HT.out]; exact Nat.lt_succ_of_le HN2.out, hid, hdis, below_drewN hBf nq⟩)
end Go.Proofs.Ytmabdfcabpnabaa
