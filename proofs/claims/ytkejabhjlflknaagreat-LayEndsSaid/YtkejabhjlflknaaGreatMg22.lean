import Derived.Lib.QuietBelow
import Derived.Test.YtkejabhjlflknaaGreatMg7
namespace Go.Proofs.YtkejabhjlflknaaGreat
open Go.RowKit Go.Shelf

set_option maxHeartbeats 1000000 in
set_option maxRecDepth 100000 in
theorem sameRows_any (a a' : Option Addr) (n cap cap' : Nat) (r r' : Nat → Option Addr) (l c l' c' : Nat → Nat) (f f' : Nat → Nat → Nat) (hn : n ≤ 1000000) (hl : ∀ i, i < n → l i ≤ 1000000) (w : World) (hR : Rd w a n cap r l c f) (hR' : Rd w a' n cap' r' l' c' f') (he : ∀ i, i < n → l' i = l i ∧ f' i = f i) :
    Calls Tryz.prog 12 #[.slice a n cap, .slice a' n cap'] w fun e w' => e = .returned (.bool true) ∧ ∃ q, w' = w.drewN q := by
  have HR := Lib.hid hR; have HR' := Lib.hid hR'; have HE := Lib.hid he; have HL := Lib.hid hl; clear hR hR' he hl
  have ht : (((n : Nat) : Int) != (n : Int)) = false := by simp
  go_enter Tryz.func12, Tryz.ntmps12
  go_wp2_with fail
  clear ht
  go_loopw [5] (fun i wr => ∃ k : Nat, k ≤ n ∧ i = .int .i64 k ∧ ∃ q, wr = w.drewN q) (fun i _ => n - (intOf i).toNat)
  case atStart => exact ⟨0, by omega, rfl, 0, rfl⟩
  case round =>
    rename_i wr
    obtain ⟨k, hk, rfl, q, hq⟩ := hrel
    have HQ := Lib.hid hq
    by_cases hkn : k < n
    · have i1 : (k : Int) < (n : Int) := by omega
      have hR1 : Rd wr a n cap r l c f := by rw [hq]; exact HR.out.drewN q
      have hR2 : Rd wr a' n cap' r' l' c' f' := by rw [hq]; exact HR'.out.drewN q
      obtain ⟨b1, o1, e1, c1⟩ := hR1.at_ hkn
      obtain ⟨b2, o2, e2, c2⟩ := hR2.at_ hkn
      subst e1 e2
      have s1 := hR1.row k hkn
      have s2 := hR2.row k hkn
      rw [(HE.out k hkn).1] at c2 s2
      rw [(HE.out k hkn).2] at s2
      have S1 := Lib.hid s1; have S2 := Lib.hid s2
      have hlk := HL.out k hkn
      clear hq hR1 hR2 s1 s2
      go_wp2_with fail
      go_quiet ((go_at_call 36; exact Calls.quiet_of (same_any (r k) (r' k) (l k) (c k) (c' k) (f k) (by omega) _ (S1.out.drewN _) (S2.out.drewN _))))
      go_wp2_with fail
      go_roundw
      case rel => exact ⟨k + 1, by omega, by go_num, _, by rw [HQ.out, World.drewN_drewN]⟩
      case measure => simp [intOf]; omega
    · obtain rfl : k = n := by omega
      clear hq
      go_wp2
      go_ret
      exact ⟨rfl, q, HQ.out⟩

end Go.Proofs.YtkejabhjlflknaaGreat
