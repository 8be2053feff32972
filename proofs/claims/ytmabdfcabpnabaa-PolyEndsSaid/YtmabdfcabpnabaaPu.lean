import Derived.Test.YtmabdfcabpnabaaP9
namespace Go.Proofs.Ytmabdfcabpnabaa
open Go.RowKit Go.Shelf

/-- a walk through points: what stands in its memory when k are over. -/
structure ThS (w : World) (H sb nb fb k : Nat) (xs ys : Nat → Nat) (W : World) (S N : Nat → Nat) (sa : Option Addr) (sn sc : Nat) (na : Option Addr) (nn nc : Nat) : Prop where
  ws : Wk W sb fb sa sn sc
  wn : Wk W nb fb na nn nc
  hs : Nw W H sa sn sc S
  hn : Nw W H na nn nc N
  ls : Pf.Ln S sn
  ln : Pf.Ln N nn
  nw : Pf.Newt xs ys k S N
  fi : IsField fb W
  be : Below H w W
theorem ThS.below {w W W' : World} {H sb nb fb k : Nat} {xs ys S N : Nat → Nat} {sa na : Option Addr} {sn sc nn nc : Nat} (h : ThS w H sb nb fb k xs ys W S N sa sn sc na nn nc) (hB : Below W.heap.size W W') (hH : H ≤ W.heap.size) : ThS w H sb nb fb k xs ys W' S N sa sn sc na nn nc :=
  ⟨h.ws.below hB, h.wn.below hB, h.hs.below hB, h.hn.below hB, h.ls, h.ln, h.nw, h.fi.below hB (World.block_lt_of_cell? _ _ (h.fi 0 (by omega)).1), h.be.trans (hB.mono hH)⟩

/-- what Through answers. -/
def ThSays (w : World) (l l' : Nat) (xs ys : Nat → Nat) (e : Ending) (w' : World) : Prop :=
  l ≠ l' ∧ e = .returned (.tuple #[.slice none 0 0, .int .i64 2]) ∧ Below w.heap.size w w' ∨
  l = l' ∧ (∃ i j, i < j ∧ j < l ∧ xs i = xs j) ∧ e = .returned (.tuple #[.slice none 0 0, .int .i64 9]) ∧ Below w.heap.size w w' ∨
  l = l' ∧ ∃ a n c S N, e = .returned (.tuple #[.slice a n c, .int .i64 0]) ∧ Nw w' w.heap.size a n c S ∧ Pf.Ln S n ∧ Pf.Newt xs ys l S N ∧ Below w.heap.size w w'

theorem Calls.regrown_same {P : Program} {f : FuncId} {args : Array Value} {w : World} {d : Nat} {os : Array Obj} {v : Value}
    (h : Calls P f args (Sort.grow (redrawn w d) os) fun e w' => e = .returned v ∧ w' = Sort.grow (redrawn w d) os) : Calls P f args (Sort.grow (redrawn w d) os) fun e w'' => e = .returned v ∧ ∃ p : Regrown, w'' = Sort.grow (redrawn w p.d) p.os :=
  h.mono fun _ _ ⟨he, hb⟩ => ⟨he, ⟨d, os⟩, hb⟩

set_option maxHeartbeats 4000000 in
set_option maxRecDepth 100000 in
theorem through_any (a a' : Option Addr) (l c l' c' : Nat) (xs ys : Nat → Nat) (hm : l ≤ 1000000) (hm' : l' ≤ 1000000) (w : World) (h1 : Sl w a l c xs) (h2 : Sl w a' l' c' ys) :
    Calls Try.prog 23 #[.slice a l c, .slice a' l' c'] w (ThSays w l l' xs ys) := by
  have H1 := Lib.hid h1; have H2 := Lib.hid h2; clear h1 h2
  by_cases hne : l ≠ l'
  · have g1 : ((l : Int) != (l' : Int)) = true := by simp; omega
    have HN := Lib.hid hne; clear hne
    go_enter Try.func23, Try.ntmps23
    go_wp2
    go_ret2
    exact Or.inl ⟨HN.out, rfl, Below.refl _ _⟩
  obtain rfl : l = l' := by omega
  clear hne
  have g1 : ((l : Int) != (l : Int)) = false := by simp
  go_enter Try.func23, Try.ntmps23
  go_wp2_with fail
  refine (new_any _).mono ?_
  rintro e w1 ⟨rfl, hF, hB1⟩
  have HF := Lib.hid hF; have HB1 := Lib.hid hB1; clear hF hB1
  go_wp2_with fail
  refine (one_any _).mono ?_
  rintro e w2 ⟨rfl, rfl⟩
  clear g1
  go_wp2_with fail
  have hBw : Below w1.heap.size w1 (((w1.alloc (.cells #[.int .u8 1] 5)).alloc (.cells #[.pointer (some ⟨w.heap.size, 0, none⟩), .slice none 0 0] 44)).alloc (.cells #[.pointer (some ⟨w.heap.size, 0, none⟩), .slice (some ⟨w1.heap.size, 0, none⟩) 1 1] 44)) := (((Below.refl _ _).alloc (Nat.le_refl _) _).alloc (by simp) _).alloc (by simp; omega) _
  have hws : Wk (((w1.alloc (.cells #[.int .u8 1] 5)).alloc (.cells #[.pointer (some ⟨w.heap.size, 0, none⟩), .slice none 0 0] 44)).alloc (.cells #[.pointer (some ⟨w.heap.size, 0, none⟩), .slice (some ⟨w1.heap.size, 0, none⟩) 1 1] 44)) (w1.heap.size + 1) w.heap.size none 0 0 := by
    have := heap_alloc_new (w1.alloc (.cells #[.int .u8 1] 5)) (.cells #[.pointer (some ⟨w.heap.size, 0, none⟩), .slice none 0 0] 44)
    rw [World.size_alloc] at this
    exact (Below.heap_alloc _ _ _ (by simp)).trans this
  have hwn : Wk (((w1.alloc (.cells #[.int .u8 1] 5)).alloc (.cells #[.pointer (some ⟨w.heap.size, 0, none⟩), .slice none 0 0] 44)).alloc (.cells #[.pointer (some ⟨w.heap.size, 0, none⟩), .slice (some ⟨w1.heap.size, 0, none⟩) 1 1] 44)) (w1.heap.size + 1 + 1) w.heap.size (some ⟨w1.heap.size, 0, none⟩) 1 1 := by
    have := heap_alloc_new ((w1.alloc (.cells #[.int .u8 1] 5)).alloc (.cells #[.pointer (some ⟨w.heap.size, 0, none⟩), .slice none 0 0] 44)) (.cells #[.pointer (some ⟨w.heap.size, 0, none⟩), .slice (some ⟨w1.heap.size, 0, none⟩) 1 1] 44)
    rwa [World.size_alloc, World.size_alloc] at this
  have hOne : Bl (((w1.alloc (.cells #[.int .u8 1] 5)).alloc (.cells #[.pointer (some ⟨w.heap.size, 0, none⟩), .slice none 0 0] 44)).alloc (.cells #[.pointer (some ⟨w.heap.size, 0, none⟩), .slice (some ⟨w1.heap.size, 0, none⟩) 1 1] 44)) w1.heap.size 1 1 (Pf.sc 1) :=
    ((Bl.alloc w1 [.int .u8 1] (Pf.sc 1) (fun i hi => by
      have : i = 0 := by simpa using hi
      subst this; rfl)).alloc' _).alloc' _
  have hs1 := HB1.out.size
  have F4 := Lib.hid (HF.out.below hBw (World.block_lt_of_cell? _ _ (HF.out 0 (by omega)).1))
  have HB4 := Lib.hid (HB1.out.trans (hBw.mono HB1.out.size))
  generalize (((w1.alloc (.cells #[.int .u8 1] 5)).alloc (.cells #[.pointer (some ⟨w.heap.size, 0, none⟩), .slice none 0 0] 44)).alloc (.cells #[.pointer (some ⟨w.heap.size, 0, none⟩), .slice (some ⟨w1.heap.size, 0, none⟩) 1 1] 44)) = W4 at *
  have HT0 := Lib.hid (show ThS w w.heap.size (w1.heap.size + 1) (w1.heap.size + 1 + 1) w.heap.size 0 xs ys W4 (fun _ => 0) (Pf.sc 1) none 0 0 (some ⟨w1.heap.size, 0, none⟩) 1 1 from
    ⟨hws, hwn, Nw.nil _ _ (fun _ => rfl), Nw.of_bl hOne (Nat.le_refl _) (by unfold maxLen; omega) (Pf.sc_by (by omega)) (Pf.sc_up 1) hs1, ⟨fun _ _ => rfl, Or.inl rfl⟩, sc_Ln, Pf.Newt.start xs ys, F4.out, HB4.out⟩)
  clear hBw hws hwn hOne
  obtain ⟨sb, hsb⟩ : ∃ sb, sb = w1.heap.size + 1 := ⟨_, rfl⟩
  rw [← hsb] at HT0 ⊢
  have hsb1 : w.heap.size ≤ sb := by omega
  clear hsb HF HB1 F4 HB4 hs1
  go_loopw [27] (fun i wr => ∃ k : Nat, k ≤ l ∧ i = .int .i64 k ∧ ∃ S N sa sn sc na nn nc, ThS w w.heap.size sb (sb + 1) w.heap.size k xs ys wr S N sa sn sc na nn nc) (fun i _ => l - (intOf i).toNat)
  case atStart => exact ⟨0, by omega, rfl, _, _, _, _, _, _, _, _, HT0.out⟩
  case round =>
    obtain ⟨k, hk, rfl, S, N, sa, sn, sc, na, nn, nc, hTh⟩ := hrel
    by_cases hlt : k < l
    · have hsn := hTh.ls.le hTh.nw.su
      have HNN := Lib.hid (Pf.Ln.uniq hTh.ln hTh.nw.nl)
      have hnb : nn ≤ k + 1 := by rw [HNN.out]; exact Nat.le_refl _
      have hHs := hTh.be.size
      obtain ⟨b1, o1, e1, c1⟩ := (H1.out.same hTh.be).at_ hlt
      obtain ⟨b2, o2, e2, c2⟩ := (H2.out.same hTh.be).at_ hlt
      have z2 := fun d os => cell_regrown c2 d os
      have d1 := H1.out.bytes k
      have d2 := H2.out.bytes k
      have d3 := Pf.ev_lt hTh.nw.sb d1 sn
      have HT := Lib.hid hTh
      have E1 := Lib.hid e1; have E2 := Lib.hid e2
      subst e1 e2
      clear hTh c2
      have i1 : (k : Int) < (l : Int) := by omega
      go_wp2_with fail
      refine wp_region_quiet_below (by kernel_rfl) (by kernel_rfl) ?_
      repeat (go_big_quiet_step ((first | (go_at_call 38; exact Calls.regrown_of (value_any sb w.heap.size (xs k) d1 sa sn sc S (by omega) _ (HT.out.below (below_regrown _ _ _) hHs).ws.c0 (HT.out.below (below_regrown _ _ _) hHs).ws.c1 (HT.out.below (below_regrown _ _ _) hHs).fi (HT.out.below (below_regrown _ _ _) hHs).hs.sl)) | (go_at_call 27; exact Calls.regrown_same (add_nat (ys k) (Pf.ev S (xs k) sn) d2 d3 _)))))
      refine wpQuiet_nil ?_
      rintro W1 ⟨pq, hW1⟩
      have hB1 : Below wr.heap.size wr W1 := by rw [hW1]; exact below_regrown _ _ _
      have T1 := Lib.hid (HT.out.below hB1 hHs)
      have hs1 : w.heap.size ≤ W1.heap.size := Nat.le_trans hHs hB1.size
      clear hW1 hB1 z2 c1
      go_wp2_with fail
      refine (value_any (sb + 1) w.heap.size (xs k) d1 na nn nc N (by omega) _ T1.out.wn.c0 T1.out.wn.c1 T1.out.fi T1.out.hn.sl).mono ?_
      rintro e W2 ⟨rfl, hB2⟩
      have T2 := Lib.hid (T1.out.below hB2 hs1)
      have hs2 : w.heap.size ≤ W2.heap.size := Nat.le_trans hs1 hB2.size
      have d4 := Pf.ev_lt HT.out.nw.nb d1 nn
      have d5 := Gf.xor_lt d2 d3
      clear hB2
      go_wp2_with fail
      refine (div_nat w.heap.size (ys k ^^^ Pf.ev S (xs k) sn) (Pf.ev N (xs k) nn) d5 d4 _ T2.out.fi).mono ?_
      rintro e W3 ⟨rfl, q3, rfl⟩
      have HE0 := Lib.hid (HT.out.nw.zero (xs k) d1)
      have HSN := Lib.hid (Pf.ev_up (xs k) HT.out.ls.1 hsn)
      by_cases hz : Pf.ev N (xs k) nn = 0
      · have g3 : (zeroErr ((Pf.ev N (xs k) nn : Nat) : Int) != 0) = true := by rw [hz]; rfl
        have HZ := Lib.hid hz; clear hz
        go_wp2
        go_ret2
        refine Or.inr (Or.inl ⟨rfl, ?_, rfl, below_drewN T2.out.be q3⟩)
        obtain ⟨j, hj, e⟩ := HE0.out.1 (by rw [← HNN.out]; exact HZ.out)
        exact ⟨j, k, hj, hlt, e⟩
      · have g3 : (zeroErr ((Pf.ev N (xs k) nn : Nat) : Int) != 0) = false := by
          unfold zeroErr; rw [if_neg (by omega)]; rfl
        have hpart := Gf.mul_lt d5 (ivN_lt (Pf.ev N (xs k) nn))
        have HZ := Lib.hid hz; clear hz
        generalize hpt : Gf.mul (ys k ^^^ Pf.ev S (xs k) sn) (ivN (Pf.ev N (xs k) nn)) = part at *
        have HPT := Lib.hid hpt; clear hpt
        have T3 := Lib.hid (T2.out.below (below_drewN (Below.refl _ W2) q3) hs2)
        have z1 := T3.out.wn.c1
        go_wp2_with fail
        refine (addw_any sb w.heap.size w.heap.size sa na sn sc nn nc S N part hpart _ T3.out.ws T3.out.fi T3.out.hs T3.out.hn.sl hs2 (by omega) (by omega)).mono ?_
        rintro e W4 ⟨rfl, a4, n4, c4, hW4, hN4, hL4, hg4⟩
        have hsn1 : sb + 1 ≠ sb := by omega
        have hn4 := hg4.size
        have wn4 : Wk W4 (sb + 1) w.heap.size na nn nc := (hg4.block (sb + 1) T3.out.wn.lt (by simp)).trans T3.out.wn
        have hn4' : Nw W4 w.heap.size na nn nc N := T3.out.hn.grown hg4 (fun g e => by
          rcases T3.out.hn.cond with ⟨e0, _⟩ | ⟨g', e', _, hbl⟩
          · rw [e0] at e; cases e
          · rw [e'] at e; obtain rfl : g' = g := by simpa using e
            have := Wk.ne_bl T3.out.ws hbl
            simpa using Ne.symm this)
        have fi4 : IsField w.heap.size W4 := T3.out.fi.grown hg4 (by have := T3.out.ws.ne_f T3.out.fi; simpa using this)
        have be4 : Below w.heap.size w W4 := T3.out.be.trans (grown_below hg4 hsb1 hs2)
        have A4 := Lib.hid (And.intro hW4 (And.intro hN4 (And.intro hL4 (And.intro wn4 (And.intro hn4' (And.intro fi4 be4))))))
        have hs4 : w.heap.size ≤ W4.heap.size := Nat.le_trans hs2 hn4
        clear hW4 hN4 hL4 hg4 wn4 hn4' fi4 be4 z1 g3 hn4
        go_wp2_with fail
        have hB5 : Below W4.heap.size W4 ((W4.alloc (.cells #[.int .u8 (xs k : Nat), .int .u8 1] 5)).alloc (.cells #[.slice (some ⟨W4.heap.size, 0, none⟩) 2 2] 22)) := ((Below.refl _ _).alloc (Nat.le_refl _) _).alloc (by simp) _
        have hlin : Bl ((W4.alloc (.cells #[.int .u8 (xs k : Nat), .int .u8 1] 5)).alloc (.cells #[.slice (some ⟨W4.heap.size, 0, none⟩) 2 2] 22)) W4.heap.size 2 2 (Pf.lin (xs k)) :=
          (Bl.alloc W4 [.int .u8 (xs k : Nat), .int .u8 1] (Pf.lin (xs k)) (fun i hi => by
            rcases (show i = 0 ∨ i = 1 by simp at hi; omega) with rfl | rfl <;> rfl)).alloc' _
        have hnbc : ((W4.alloc (.cells #[.int .u8 (xs k : Nat), .int .u8 1] 5)).alloc (.cells #[.slice (some ⟨W4.heap.size, 0, none⟩) 2 2] 22)).cell? ⟨W4.heap.size + 1, 0, none⟩ = some (.slice (some ⟨W4.heap.size, 0, none⟩) 2 2) := by
          have := World.cell?_alloc_new (W4.alloc (.cells #[.int .u8 (xs k : Nat), .int .u8 1] 5)) #[.slice (some ⟨W4.heap.size, 0, none⟩) 2 2] 22 0
          rw [World.size_alloc] at this
          exact this
        generalize ((W4.alloc (.cells #[.int .u8 (xs k : Nat), .int .u8 1] 5)).alloc (.cells #[.slice (some ⟨W4.heap.size, 0, none⟩) 2 2] 22)) = W5 at *
        obtain ⟨hW4, hN4, hL4, wn4, hn4, fi4, be4⟩ := A4.out
        have hs5 : w.heap.size ≤ W5.heap.size := Nat.le_trans hs4 hB5.size
        have sw5 := hW4.below hB5
        have A5 := Lib.hid (And.intro sw5 (And.intro (hN4.below hB5) (And.intro hL4 (And.intro (wn4.below hB5) (be4.trans (hB5.mono hs4))))))
        have f5 := fi4.below hB5 (World.block_lt_of_cell? _ _ (fi4 0 (by omega)).1)
        refine (mult_any (sb + 1) w.heap.size (W4.heap.size + 1) 1 w.heap.size (fun _ => some ⟨W4.heap.size, 0, none⟩) (fun _ => 2) (fun _ => 2) (fun _ => Pf.lin (xs k)) na nn nc N W5 (wn4.below hB5) f5 (hn4.below hB5) HT.out.ln hs5 (by omega) (by omega)
          (fun j hj => ⟨hlin.sl (Nat.le_refl _) (by unfold maxLen; omega) (Pf.lin_by d1) (Pf.lin_up _), by omega, by obtain rfl : j = 0 := (by omega); exact hnbc⟩)).mono ?_
        have F5 := Lib.hid f5
        clear hB5 hlin hnbc hW4 hN4 hL4 wn4 hn4 fi4 be4 sw5 f5
        rintro e W6 ⟨rfl, a6, n6, c6, hW6, hN6, hL6, hg6⟩
        obtain ⟨sw5, sN5, sL5, wn5, sB5⟩ := A5.out
        have hneq : sb ≠ sb + 1 := by omega
        have sw6 : Wk W6 sb w.heap.size a4 n4 c4 := (hg6.block sb sw5.lt (by simp)).trans sw5
        have sN6 : Nw W6 w.heap.size a4 n4 c4 (fun i => S i ^^^ Pf.pm N (Pf.sc part) i) := sN5.grown hg6 (fun g e => by
          rcases sN5.cond with ⟨e0, _⟩ | ⟨g', e', _, hbl⟩
          · rw [e0] at e; cases e
          · rw [e'] at e; obtain rfl : g' = g := by simpa using e
            have := Wk.ne_bl wn5 hbl
            simpa using Ne.symm this)
        have st := HT.out.nw.step H1.out.bytes H2.out.bytes (by rw [← HNN.out]; exact HZ.out)
        have ept := HPT.out
        rw [HNN.out, ← HSN.out] at ept
        rw [ept] at st
        clear ept
        have f6 : IsField w.heap.size W6 := F5.out.grown hg6 (by have := wn5.ne_f F5.out; simpa using this)
        have HT6 := Lib.hid (show ThS w w.heap.size sb (sb + 1) w.heap.size (k + 1) xs ys W6 (fun i => S i ^^^ Pf.pm N (Pf.sc part) i) (Pf.pm N (Pf.lin (xs k))) a4 n4 c4 a6 n6 c6 from
          ⟨sw6, hW6, sN6, hN6, sL5, hL6, st, f6, sB5.trans (grown_below hg6 (by omega) hs5)⟩)
        clear hW6 hN6 hL6 hg6 sw5 sN5 sL5 wn5 sB5 sw6 sN6 st f6 hneq
        go_wp2
        go_roundw
        case rel => exact ⟨k + 1, by omega, by go_num, _, _, _, _, _, _, _, _, HT6.out⟩
        case measure => simp [intOf]; omega
    · obtain rfl : k = l := by omega
      have z1 := hTh.ws.c1
      have HT := Lib.hid hTh
      clear hTh hlt
      go_wp2
      go_ret2
      exact Or.inr (Or.inr ⟨rfl, sa, sn, sc, S, N, rfl, HT.out.hs, HT.out.ls, HT.out.nw, HT.out.be⟩)
end Go.Proofs.Ytmabdfcabpnabaa
