import Derived.Test.YtmabdfcabpnabaaP5
import Derived.Deep.RegionWith
namespace Go.Proofs.Ytmabdfcabpnabaa
open Go.RowKit Go.Shelf

set_option maxHeartbeats 2000000 in
set_option maxRecDepth 100000 in
theorem addw_any (wb fb B : Nat) (a p : Option Addr) (l c n d : Nat) (f q : Nat → Nat) (part : Nat) (hp : part < 256) (w : World) (hWk : Wk w wb fb a l c) (hF : IsField fb w) (hN : Nw w B a l c f) (hS : Sl w p n d q) (hB : B ≤ w.heap.size)
    (hl : l ≤ 100000000) (hn : n ≤ 100000000) :
    Calls Try.prog 43 #[.pointer (some ⟨wb, 0, none⟩), .slice p n d, .int .u8 (part : Nat)] w fun e w' => e = .returned (.tuple #[]) ∧ Works w wb fb B (fun i => f i ^^^ Pf.pm q (Pf.sc part) i) w' := by
  have HWk := Lib.hid hWk; have HF := Lib.hid hF; have HN := Lib.hid hN; have HS := Lib.hid hS
  have c1 := hWk.c1
  have g1 := hWk.free 1
  have hwl := hWk.lt
  have HB0 := Lib.hid (show Below w.heap.size w (w.alloc (.cells #[.int .u8 (part : Nat)] 5)).drew from ((Below.refl _ _).alloc (Nat.le_refl _) _).drew)
  have c2 : (w.alloc (.cells #[.int .u8 (part : Nat)] 5)).drew.cell? ⟨wb, 1, none⟩ = some (.slice a l c) := (HB0.out.cell (p := ⟨wb, 1, none⟩) hwl).trans c1
  have hln := Pf.ln_le q n
  clear hWk hF hN hS
  go_enter Try.func43, Try.ntmps43
  go_wp2_with fail
  have hl1 := Pf.ln_le (Pf.sc part) 1
  go_region_with (first
      | (go_at_call 49; refine (prod_any wb fb p _ n d 1 1 q (Pf.sc part) (by omega) (by omega) _ (HWk.out.below HB0.out).c0 (HF.out.below HB0.out (World.block_lt_of_cell? _ _ (HF.out 0 (by omega)).1)) (HS.out.same HB0.out) ((sl_single w part hp).same ((Below.refl _ _).drew))).mono ?_; rintro e w2 ⟨a2, c2, rfl, hN2, hB2⟩; have W2 := Lib.hid ((HWk.out.below HB0.out).below hB2); have w21 := W2.out.c1; have g21 := W2.out.free 1; have HN2 := Lib.hid hN2; have HB2 := Lib.hid hB2; clear hN2 hB2)
      | (go_at_call 10; refine (addp_loop a a2 l c _ c2 f (Pf.pm q (Pf.sc part)) (by omega) (by unfold Pf.pl; split <;> omega) _ ((HN.out.sl.same HB0.out).same HB2.out) HN2.out.sl).mono ?_; rintro e w3 ⟨n3, hL3, a3, c3, rfl, hN3, hB3⟩; have W3 := Lib.hid (W2.out.below hB3); have w31 := W3.out.c1; have g31 := W3.out.free 1; have HN3 := Lib.hid hN3; have HB3 := Lib.hid hB3; have HL3 := Lib.hid hL3; clear hN3 hB3 hL3))
  all_goals
    have hs2 : w.heap.size ≤ w2.heap.size := Nat.le_trans HB0.out.size HB2.out.size
    have hgw : w.grownBy (w3.setCell ⟨wb, 1, none⟩ (.slice a3 n3 c3)) (some wb) := grown_trans (grown_of_below (HB0.out.trans ((HB2.out.mono HB0.out.size).trans (HB3.out.mono hs2))) _) (grown_set _ ⟨wb, 1, none⟩ _)
    have hnw : Nw (w3.setCell ⟨wb, 1, none⟩ (.slice a3 n3 c3)) B a3 n3 c3 (fun i => f i ^^^ Pf.pm q (Pf.sc part) i) := by
      refine (HN3.out.grown (grown_set _ ⟨wb, 1, none⟩ _) (fun g e => ?_)).mono (Nat.le_trans hB hs2)
      rcases HN3.out.cond with ⟨e0, _⟩ | ⟨g', e', hg', _⟩
      · rw [e0] at e; cases e
      · rw [e'] at e; cases e
        show some _ ≠ some wb
        simp; omega
    go_end0
    exact ⟨rfl, a3, n3, c3, W3.out.set _ _ _, hnw, HL3.out, hgw⟩
end Go.Proofs.Ytmabdfcabpnabaa
