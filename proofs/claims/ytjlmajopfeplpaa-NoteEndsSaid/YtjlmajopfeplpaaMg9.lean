import Derived.StillTailTactics
import Derived.Outline
import Derived.RegionTactic
import Derived.Deep.DeepCutAuto
import Derived.BigRegion
import Derived.Test.YtjlmajopfeplpaaMg6
namespace Go.Proofs.Ytjlmajopfeplpaa
open Go.RowKit Go.Shelf

/-- how many columns there are. -/
def wd (n : Nat) (l : Nat → Nat) : Nat := if n = 0 then 0 else l 0

theorem Try.infoRow : (Try.prog.info? 27).map (fun i => (i.zero, i.size, i.bytes)) = some (some (.slice none 0 0), 1, 24) := by kernel_rfl
theorem hmkRows (N : Nat) (hN : N ≤ 1000000000) : ∀ W : World, (Instr.makeSlice 64 (.int .i64 (N : Nat)) (.int .i64 (N : Nat))).run Try.prog W = .ok (.slice (some ⟨W.heap.size, 0, none⟩) N N) (W.alloc (.cells (madeCells #[.slice none 0 0] N) 27)) := fun W => by
  obtain ⟨i0, hi, hz0, hz1, hz2⟩ := info_parts Try.infoRow
  have := run_make (P := Try.prog) W 64 27 i0 (.slice none 0 0) Try.underlying64 hi hz0 .i64 .i64 (N : Int) (N : Int) (by omega) (Int.le_refl _) (by rw [hz2]; omega) (by omega)
  have e : (Value.slice none 0 0).cells = #[.slice none 0 0] := rfl
  rw [hz1, e, Int.toNat_natCast, Nat.mul_one] at this; exact this
theorem gr_made (W : World) (B N : Nat) (b l c : Nat → Nat) (hN : N ≤ 1000000000) (hB : B ≤ W.heap.size) : Gr (W.alloc (.cells (madeCells #[.slice none 0 0] N) 27)) B W.heap.size 0 N b l c (fun _ _ => 0) :=
  gr_none (heap_alloc_new W _) (size_madeCells _ _) (by unfold maxLen; omega) hB
/-- what a call answers that hands out a matrix of so many rows and columns in new memory. -/
def Makes (w : World) (h wi : Nat) (f : Nat → Nat → Nat) (e : Ending) (w' : World) : Prop :=
  ∃ G b, e = .returned (.slice (some ⟨G, 0, none⟩) h h) ∧ Gr w' w.heap.size G h h b (fun _ => wi) (fun _ => wi) f ∧ Below w.heap.size w w'

end Go.Proofs.Ytjlmajopfeplpaa
