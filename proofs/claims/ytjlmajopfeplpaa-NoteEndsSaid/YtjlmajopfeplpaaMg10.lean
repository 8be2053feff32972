import Derived.Laws.AppendOwnNone
import Derived.Test.YtjlmajopfeplpaaMg5
namespace Go.Proofs.Ytjlmajopfeplpaa
open Go.RowKit Go.Shelf
set_option maxHeartbeats 1000000 in
set_option maxRecDepth 100000 in
theorem bclone_any (ad : Addr) (len cap : Nat) (f : Nat → Nat) (hm : len ≤ 1000000000000) (w : World) (hS : Sl w (some ad) len cap f) :
    Calls Try.prog 66 #[.slice (some ad) len cap] w (Gives w len f) := by
  obtain ⟨i0, hi, hz0, hz1, hz2⟩ := info_parts Try.infoU8
  have HS := Lib.hid hS; clear hS
  have HI := Lib.hid hi; have HZ0 := Lib.hid hz0; have HZ1 := Lib.hid hz1; have HZ2 := Lib.hid hz2
  clear hi hz0 hz1 hz2
  have hn := Lib.run_eql_slice_nil (P := Try.prog) w
  go_enter Try.func66, Try.ntmps66
  go_wp2_with (at_builtin; refine wpList_append_own _ rfl _ _ 27 rfl w.heap.size 5 i0 (.int .u8 0) 1 1 Try.underlying27 HI.out HZ0.out HZ1.out HZ2.out rfl (by decide) _ 0 [] rfl (World.ownsRow_made w #[] 0 (Nat.le_refl _) (by unfold maxLen; omega) rfl) ad len cap ((List.range len).map fun i => Value.int .u8 (f i : Nat)) rfl (by simp) (Sl.reads (HS.out.same ((Below.refl _ _).alloc (Nat.le_refl _) _)) _ rfl) (ones_map _ _) (by unfold maxLen; omega) (by omega) (by simp) ?_; intro v' w1 hown hgrow _; rw [Nat.zero_add, List.nil_append] at hown; have HO := Lib.hid (owns_new hown HS.out.bytes HS.out.up); have HB := Lib.hid (((Below.refl w.heap.size w).alloc (Nat.le_refl _) (.cells #[] 5)).grown hgrow (by simp) (by intro k hk; cases hk; exact Nat.le_refl _)); clear hown hgrow)
  obtain ⟨a1, cap1, e, hN⟩ := HO.out
  subst e
  go_ret
  exact ⟨a1, cap1, rfl, hN, HB.out⟩
end Go.Proofs.Ytjlmajopfeplpaa
