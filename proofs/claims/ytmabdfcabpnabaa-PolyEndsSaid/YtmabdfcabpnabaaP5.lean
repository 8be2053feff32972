import Derived.Test.YtmabdfcabpnabaaP4
namespace Go.Proofs.Ytmabdfcabpnabaa
open Go.RowKit Go.Shelf

/-- a polynomial at work: its field, its row. -/
def Wk (w : World) (wb fb : Nat) (a : Option Addr) (l c : Nat) : Prop := w.heap[wb]? = some (.cells #[.pointer (some ⟨fb, 0, none⟩), .slice a l c] 44 (0, 0))
section
variable {w w' : World} {wb fb : Nat} {a : Option Addr} {l c : Nat}
theorem Wk.lt (h : Wk w wb fb a l c) : wb < w.heap.size := (Array.getElem?_eq_some_iff.1 h).1
theorem Wk.c0 (h : Wk w wb fb a l c) : w.cell? ⟨wb, 0, none⟩ = some (.pointer (some ⟨fb, 0, none⟩)) := by rw [cell_of_row w wb 0 _ _ _ h]; rfl
theorem Wk.c1 (h : Wk w wb fb a l c) : w.cell? ⟨wb, 1, none⟩ = some (.slice a l c) := by rw [cell_of_row w wb 1 _ _ _ h]; rfl
theorem Wk.free (h : Wk w wb fb a l c) (i : Nat) : w.frozen? ⟨wb, i, none⟩ = false := frozen_of_row w wb i _ _ h
theorem Wk.ne_int (h : Wk w wb fb a l c) {b i : Nat} {k : IntKind} {v : Int} (hc : w.cell? ⟨b, i, none⟩ = some (.int k v)) : b ≠ wb := by
  rintro rfl
  rw [cell_of_row w b i _ _ _ h] at hc
  rcases i with _ | _ | i <;> simp at hc
theorem Wk.ne_sl (h : Wk w wb fb a l c) {p : Option Addr} {n d : Nat} {f : Nat → Nat} (hS : Sl w p n d f) : ∀ ad, p = some ad → n ≠ 0 → ad.block ≠ wb := fun ad hp hn => by
  have := hS.cell ad hp 0 (by omega)
  exact h.ne_int this
theorem Wk.ne_f (h : Wk w wb fb a l c) {g : Nat} (hF : IsField g w) : g ≠ wb := h.ne_int (hF 0 (by omega)).1
theorem Wk.below (h : Wk w wb fb a l c) (hB : Below w.heap.size w w') : Wk w' wb fb a l c := (hB.block wb h.lt).trans h
theorem Wk.set (h : Wk w wb fb a l c) (p : Option Addr) (n d : Nat) : Wk (w.setCell ⟨wb, 1, none⟩ (.slice p n d)) wb fb p n d := by
  have := heap_setCell_same w wb 1 _ _ (.slice p n d) h
  exact this
end
theorem IsField.grown {g : Nat} {w w' : World} {row : Option Nat} (h : IsField g w) (hg : w.grownBy w' row) (hr : some g ≠ row) : IsField g w' := fun j hj => by
  have hl := World.block_lt_of_cell? _ _ (h j hj).1
  exact ⟨hg.cell (h j hj).1 hr, (World.frozen?_of_block (hg.block g hl hr)).trans (h j hj).2⟩
theorem grown_trans {w w1 w2 : World} {row : Option Nat} (h : w.grownBy w1 row) (k : w1.grownBy w2 row) : w.grownBy w2 row :=
  ⟨k.os.trans h.os, k.tape.trans h.tape, k.output.trans h.output, Nat.le_trans h.size k.size, fun i hi hn => (k.block i (Nat.lt_of_lt_of_le hi h.size) hn).trans (h.block i hi hn)⟩
theorem grown_of_below {w w1 : World} (h : Below w.heap.size w w1) (row : Option Nat) : w.grownBy w1 row := ⟨h.os, h.tape, h.output, h.size, fun i hi _ => h.block i hi⟩
theorem grown_set (w : World) (p : Addr) (u : Value) : w.grownBy (w.setCell p u) (some p.block) :=
  ⟨rfl, rfl, rfl, by simp [World.setCell], fun i _ hn => Below.heap_setCell _ _ _ i (fun e => hn (by rw [e]))⟩
theorem grown_below {w w' : World} {wb B : Nat} (h : w.grownBy w' (some wb)) (hB : B ≤ wb) (hs : B ≤ w.heap.size) : Below B w w' :=
  (Below.refl B w).grown h hs (fun k e => by cases e; exact hB)

/-- the product by k factors. -/
def pmk (f : Nat → Nat) (q : Nat → Nat → Nat) : Nat → Nat → Nat
  | 0 => f
  | k + 1 => Pf.pm (pmk f q k) (q k)

/-- what a change of a polynomial at work leaves. -/
def Works (w : World) (wb fb B : Nat) (f : Nat → Nat) (w' : World) : Prop := ∃ a n c, Wk w' wb fb a n c ∧ Nw w' B a n c f ∧ Pf.Ln f n ∧ w.grownBy w' (some wb)

set_option maxHeartbeats 1000000 in
set_option maxRecDepth 100000 in
theorem mult_any (wb fb nb m B : Nat) (qa : Nat → Option Addr) (ql qc : Nat → Nat) (q : Nat → Nat → Nat) (a : Option Addr) (l c : Nat) (f : Nat → Nat) (w : World) (hWk : Wk w wb fb a l c) (hF : IsField fb w) (hN : Nw w B a l c f) (hL : Pf.Ln f l) (hB : B ≤ w.heap.size)
    (hl : l ≤ 100000000) (hm : m ≤ 4) (hq : ∀ k, k < m → Sl w (qa k) (ql k) (qc k) (q k) ∧ ql k ≤ 100000000 ∧ w.cell? ⟨nb, k, none⟩ = some (.slice (qa k) (ql k) (qc k))) :
    Calls Try.prog 34 #[.pointer (some ⟨wb, 0, none⟩), .slice (some ⟨nb, 0, none⟩) m m] w fun e w' => e = .returned (.tuple #[]) ∧ Works w wb fb B (pmk f q m) w' := by
  have HWk := Lib.hid hWk; have HF := Lib.hid hF; have HN := Lib.hid hN; have HL := Lib.hid hL; have HQ := Lib.hid hq
  clear hWk hF hN hL hq
  go_enter Try.func34, Try.ntmps34
  go_wp2_with fail
  go_loopw [8] (fun i wr => ∃ k : Nat, k ≤ m ∧ i = .int .i64 k ∧ ∃ p n d, n ≤ l + k * 100000000 ∧ Wk wr wb fb p n d ∧ Nw wr B p n d (pmk f q k) ∧ Pf.Ln (pmk f q k) n ∧ w.grownBy wr (some wb)) (fun i _ => m - (intOf i).toNat)
  case atStart => exact ⟨0, by omega, rfl, a, l, c, by omega, HWk.out, HN.out, HL.out, World.grownBy.refl _ _⟩
  case round =>
    obtain ⟨k, hk, rfl, p, n, d, hn, hWr, hNr, hLr, hgr⟩ := hrel
    have HWr := Lib.hid hWr; have HNr := Lib.hid hNr; have HLr := Lib.hid hLr; have HGr := Lib.hid hgr
    by_cases hlt : k < m
    · obtain ⟨hS, hql, hc⟩ := HQ.out k hlt
      have hnb : nb ≠ wb := by
        rintro rfl
        have h0 := (HQ.out 0 (by omega)).2.2
        rw [HWk.out.c0] at h0; cases h0
      have c1 := hgr.cell hc (by simpa using hnb)
      have S1 := Lib.hid (hS.grown hgr (fun ad ha hl => by have := HWk.out.ne_sl hS ad ha hl; simpa using this))
      have F1 := Lib.hid (HF.out.grown hgr (by have := HWk.out.ne_f HF.out; simpa using this))
      have w1 := hWr.c1
      have hwl := hWr.lt
      have g2 := hWr.free 1
      have hln := Lib.hid (Pf.Ln.uniq (Pf.ln_Ln n hNr.sl.up) hLr)
      have hln2 := Pf.ln_le (q k) (ql k)
      have HL2 := Lib.hid (Pf.ln_Ln (ql k) S1.out.up)
      clear hS hc hnb hWr hNr hLr hgr
      generalize qa k = x1 at *
      generalize ql k = x2 at *
      generalize qc k = x3 at *
      go_wp2_with fail
      refine (prod_any wb fb p x1 n d x2 x3 (pmk f q k) (q k) (by omega) (by omega) _ HWr.out.c0 F1.out HNr.out.sl S1.out).mono ?_
      rw [hln.out]
      rintro e w2 ⟨a2, c2, rfl, hN2, hB2⟩
      have W2 := Lib.hid (HWr.out.below hB2)
      have w21 := W2.out.c1
      have g21 := W2.out.free 1
      have HN2 := Lib.hid hN2; have HB2 := Lib.hid hB2
      clear hN2 hB2
      go_wp2
      go_roundw
      case rel =>
        have hpl : Pf.pl n (Pf.ln (q k) x2) ≤ n + x2 := by unfold Pf.pl; split <;> omega
        have hsz := HGr.out.size
        refine ⟨k + 1, by omega, by go_num, a2, _, c2, by omega, W2.out.set _ _ _, ?_, ?_, grown_trans HGr.out (grown_trans (grown_of_below HB2.out _) (grown_set _ ⟨wb, 1, none⟩ _))⟩
        · refine (HN2.out.grown (grown_set _ ⟨wb, 1, none⟩ _) (fun g e => ?_)).mono (Nat.le_trans hB hsz)
          rcases HN2.out.cond with ⟨e0, _⟩ | ⟨g', e', hg', _⟩
          · rw [e0] at e; cases e
          · rw [e'] at e; cases e
            have := HWr.out.lt
            show some _ ≠ some wb
            simp; omega
        · exact Pf.pm_Ln HNr.out.sl.bytes S1.out.bytes HLr.out HL2.out
      case measure => simp [intOf]; omega
    · obtain rfl : k = m := by omega
      clear hWr hNr hLr hgr hlt
      go_wp2
      go_end0
      exact ⟨rfl, p, n, d, HWr.out, HNr.out, HLr.out, HGr.out⟩
end Go.Proofs.Ytmabdfcabpnabaa
