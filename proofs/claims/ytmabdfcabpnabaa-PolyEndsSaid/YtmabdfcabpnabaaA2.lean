import Derived.Test.YtmabdfcabpnabaaPu
import Derived.Test.YtmabdfcabpnabaaK2
import Derived.Test.YtmabdfcabpnabaaPx
namespace Go.Proofs.Ytmabdfcabpnabaa
open Go.RowKit Go.Shelf

theorem sl_lit (w : World) (vs : List Nat) (hv : ∀ v ∈ vs, v < 256) (hl : vs.length ≤ 1000) : Sl (w.alloc (.cells (vs.map fun v => Value.int .u8 (v : Nat)).toArray 5)) (some ⟨w.heap.size, 0, none⟩) vs.length vs.length (Pf.lit vs) := by
  have := Bl.alloc w (vs.map fun v => Value.int .u8 (v : Nat)) (Pf.lit vs) (fun i hi => by
    rw [List.length_map] at hi
    simp [Pf.lit, hi])
  rw [List.length_map] at this
  exact this.sl (Nat.le_refl _) (by unfold maxLen; omega) (Pf.lit_by hv) (Pf.lit_up vs)

set_option maxHeartbeats 1000000 in
set_option maxRecDepth 100000 in
theorem awake2_any (w : World) :
    Calls Try.prog 8 #[] w fun e w' => e = .returned (.bool true) ∧ Below w.heap.size w w' := by
  have s1 : Sl (w.alloc (.cells #[.int .u8 0, .int .u8 1] 5)) (some ⟨w.heap.size, 0, none⟩) 2 2 (Pf.lit [0, 1]) := sl_lit w [0, 1] (by decide) (by decide)
  have s2 := sl_lit (w.alloc (.cells #[.int .u8 0, .int .u8 1] 5)) [5, 5] (by decide) (by decide)
  rw [World.size_alloc] at s2
  have s2 : Sl ((w.alloc (.cells #[.int .u8 0, .int .u8 1] 5)).alloc (.cells #[.int .u8 5, .int .u8 5] 5)) (some ⟨w.heap.size + 1, 0, none⟩) 2 2 (Pf.lit [5, 5]) := s2
  have hB := ((Below.refl w.heap.size w).alloc (Nat.le_refl _) (.cells #[.int .u8 0, .int .u8 1] 5)).alloc (by simp) (.cells #[.int .u8 5, .int .u8 5] 5)
  have S1 := Lib.hid (s1.same ((Below.refl _ _).alloc (Nat.le_refl _) (.cells #[.int .u8 5, .int .u8 5] 5))); have S2 := Lib.hid s2; have HB := Lib.hid hB
  clear s1 s2 hB
  go_enter Try.func8, Try.ntmps8
  go_wp2_with fail
  refine (through_any _ _ 2 2 2 2 (Pf.lit [0, 1]) (Pf.lit [5, 5]) (by omega) (by omega) _ S1.out S2.out).mono ?_
  rintro e w1 (⟨h, _⟩ | ⟨_, ⟨i, j, hij, hj, he⟩, _⟩ | ⟨_, a, n, c, S, N, rfl, hN, hL, hNw, hB1⟩)
  · exact absurd rfl h
  · exfalso
    obtain rfl : i = 0 := by omega
    obtain rfl : j = 1 := by omega
    exact Pf.awake_zero he
  have hS := Pf.awake_through hNw
  subst hS
  have hn : n = 1 := hL.uniq ⟨Pf.sc_up 5, Or.inr (by decide)⟩
  subst hn
  have HN := Lib.hid hN.sl; have HB1 := Lib.hid (HB.out.trans (hB1.mono HB.out.size))
  clear hN hL hNw hB1
  have s3 : Sl (w1.alloc (.cells #[.int .u8 1, .int .u8 0, .int .u8 3] 5)) (some ⟨w1.heap.size, 0, none⟩) 3 3 (Pf.lit [1, 0, 3]) := sl_lit w1 [1, 0, 3] (by decide) (by decide)
  have S3 := Lib.hid s3; clear s3
  have HA := Lib.hid ((Below.refl w1.heap.size w1).alloc (Nat.le_refl _) (.cells #[.int .u8 1, .int .u8 0, .int .u8 3] 5))
  go_wp2_with fail
  refine (pvalue_any _ 3 3 (Pf.lit [1, 0, 3]) 2 (by omega) (by omega) _ S3.out).mono ?_
  rw [Pf.awake_value]
  rintro e w2 ⟨rfl, hB2⟩
  have HB2 := Lib.hid (HA.out.trans (hB2.mono HA.out.size)); clear hB2
  have s4 : Sl (w2.alloc (.cells #[.int .u8 5] 5)) (some ⟨w2.heap.size, 0, none⟩) 1 1 (Pf.sc 5) := sl_single w2 5 (by omega)
  have S4 := Lib.hid s4; clear s4
  have HC := Lib.hid ((Below.refl w2.heap.size w2).alloc (Nat.le_refl _) (.cells #[.int .u8 5] 5))
  go_wp2_with fail
  refine (same_any a _ 1 c 1 (Pf.sc 5) (by omega) _ ((HN.out.same HB2.out).same HC.out) S4.out).mono ?_
  rintro e w3 ⟨rfl, q, rfl⟩
  go_wp2
  go_ret
  exact ⟨rfl, below_drewN (HB1.out.trans ((HB2.out.trans (HC.out.mono HB2.out.size)).mono HB1.out.size)) q⟩
end Go.Proofs.Ytmabdfcabpnabaa
