import Derived.Test.YtmabdfcabpnabaaMw
import Derived.Test.YtmabdfcabpnabaaFy
import Derived.StillTailTactics
import Derived.Outline
namespace Go.Proofs.Ytmabdfcabpnabaa
open Go.RowKit Go.Shelf

set_option maxHeartbeats 400000 in
theorem long_any (a : Option Addr) (len cap : Nat) (f : Nat → Nat) (hm : len ≤ 1000000000000) (w : World) (hS : Sl w a len cap f) :
    Calls Try.prog 32 #[.slice a len cap] w fun e w' => e = .returned (.bool (decide (600 < (Pf.ln f len : Int)))) ∧ Below w.heap.size w w' := by
  have hl := Pf.ln_le f len
  have HS := Lib.hid hS; clear hS
  go_enter Try.func32, Try.ntmps32
  go_wp2_with fail
  refine (trim_any a len cap f hm _ HS.out).mono ?_
  rintro e w1 ⟨rfl, hB⟩
  have HB := Lib.hid hB; clear hB
  go_wp2
  go_ret
  exact ⟨rfl, HB.out⟩

set_option maxHeartbeats 400000 in
theorem one_any (w : World) :
    Calls Try.prog 33 #[] w fun e w' => e = .returned (.slice (some ⟨w.heap.size, 0, none⟩) 1 1) ∧ w' = w.alloc (.cells #[.int .u8 1] 5) := by
  go_enter Try.func33, Try.ntmps33
  go_wp2
  go_ret
  exact ⟨rfl, rfl⟩

set_option maxHeartbeats 1000000 in
set_option maxRecDepth 100000 in
theorem clone_any (a : Option Addr) (len cap : Nat) (f : Nat → Nat) (hm : len ≤ 1000000000000) (w : World) (hS : Sl w a len cap f) :
    Calls Try.prog 31 #[.slice a len cap] w (Gives w len f) := by
  cases a with
  | none =>
    obtain ⟨rfl, rfl⟩ := hS.nil rfl
    have hz : ∀ i, f i = 0 := fun i => hS.up i (by omega)
    have hn := Lib.run_eql_slice_nil (P := Try.prog) w
    clear hS
    have HZ := Lib.hid hz; clear hz
    go_enter Try.func31, Try.ntmps31
    go_wp2
    go_ret
    exact ⟨none, 0, rfl, Nw.nil _ _ HZ.out, Below.refl _ _⟩
  | some ad =>
    obtain ⟨i0, hi, hz0, hz1, hz2⟩ := info_parts Try.infoU8
    have HS := Lib.hid hS; clear hS
    have HI := Lib.hid hi; have HZ0 := Lib.hid hz0; have HZ1 := Lib.hid hz1; have HZ2 := Lib.hid hz2
    clear hi hz0 hz1 hz2
    have hn := Lib.run_eql_slice_nil (P := Try.prog) w
    go_enter Try.func31, Try.ntmps31
    go_wp2_with (at_builtin; refine wpList_append_own _ rfl _ _ 22 rfl w.heap.size 5 i0 (.int .u8 0) 1 1 Try.underlying22 HI.out HZ0.out HZ1.out HZ2.out rfl (by decide) _ 0 [] rfl (World.ownsRow_made w #[] 0 (Nat.le_refl _) (by unfold maxLen; omega) rfl) ad len cap ((List.range len).map fun i => Value.int .u8 (f i : Nat)) rfl (by simp) (Sl.reads (HS.out.same ((Below.refl _ _).alloc (Nat.le_refl _) _)) _ rfl) (ones_map _ _) (by unfold maxLen; omega) (by omega) (by simp) ?_; intro v' w1 hown hgrow _; rw [Nat.zero_add, List.nil_append] at hown; have HO := Lib.hid (owns_new hown HS.out.bytes HS.out.up); have HB := Lib.hid (((Below.refl w.heap.size w).alloc (Nat.le_refl _) (.cells #[] 5)).grown hgrow (by simp) (by intro k hk; cases hk; exact Nat.le_refl _)); clear hown hgrow)
    obtain ⟨a1, cap1, e, hN⟩ := HO.out
    subst e
    go_ret
    exact ⟨a1, cap1, rfl, hN, HB.out⟩

set_option maxHeartbeats 400000 in
theorem lean_any (a : Option Addr) (len cap : Nat) (f : Nat → Nat) (hm : len ≤ 1000000000000) (w : World) (hS : Sl w a len cap f) :
    Calls Try.prog 13 #[.slice a len cap] w (Gives w (Pf.ln f len) f) := by
  have hl := Pf.ln_le f len
  have HS := Lib.hid hS; clear hS
  go_enter Try.func13, Try.ntmps13
  go_wp2_with fail
  refine (trim_any a len cap f hm _ HS.out).mono ?_
  rintro e w1 ⟨rfl, hB⟩
  have HB := Lib.hid hB; clear hB
  go_wp2_with fail
  refine (clone_any _ _ _ f (by omega) _ (HS.out.same HB.out).trim).mono ?_
  rintro e w2 ⟨a1, cap1, rfl, hN, hB2⟩
  have HN := Lib.hid hN; have HB2 := Lib.hid hB2; clear hN hB2
  go_wp2
  go_ret
  exact ⟨a1, cap1, rfl, HN.out.mono HB.out.size, HB.out.trans (HB2.out.mono HB.out.size)⟩
end Go.Proofs.Ytmabdfcabpnabaa
