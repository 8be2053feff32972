import Derived.StillTailTactics
import Derived.Outline
import Derived.RegionTactic
import Derived.Deep.DeepCutAuto
import Derived.BigRegion
import Derived.Test.YtjlmajopfeplpaaGreatMg7
namespace Go.Proofs.YtjlmajopfeplpaaGreat
open Go.RowKit Go.Shelf

/-- how many columns there are. -/
def wd (n : Nat) (l : Nat → Nat) : Nat := if n = 0 then 0 else l 0

theorem Tryz.infoRow : (Tryz.prog.info? 28).map (fun i => (i.zero, i.size, i.bytes)) = some (some (.slice none 0 0), 1, 24) := by kernel_rfl
theorem hmkRows (N : Nat) (hN : N ≤ 1000000000) : ∀ W : World, (Instr.makeSlice 43 (.int .i64 (N : Nat)) (.int .i64 (N : Nat))).run Tryz.prog W = .ok (.slice (some ⟨W.heap.size, 0, none⟩) N N) (W.alloc (.cells (madeCells #[.slice none 0 0] N) 28)) := fun W => by
  obtain ⟨i0, hi, hz0, hz1, hz2⟩ := info_parts Tryz.infoRow
  have := run_make (P := Tryz.prog) W 43 28 i0 (.slice none 0 0) Tryz.underlying43 hi hz0 .i64 .i64 (N : Int) (N : Int) (by omega) (Int.le_refl _) (by rw [hz2]; omega) (by omega)
  have e : (Value.slice none 0 0).cells = #[.slice none 0 0] := rfl
  rw [hz1, e, Int.toNat_natCast, Nat.mul_one] at this; exact this
theorem gr_made (W : World) (B N : Nat) (b l c : Nat → Nat) (hN : N ≤ 1000000000) (hB : B ≤ W.heap.size) : Gr (W.alloc (.cells (madeCells #[.slice none 0 0] N) 28)) B W.heap.size 0 N b l c (fun _ _ => 0) :=
  gr_none (heap_alloc_new W _) (size_madeCells _ _) (by unfold maxLen; omega) hB
/-- what a call answers that hands out a matrix of so many rows and columns in new memory. -/
def Makes (w : World) (h wi : Nat) (f : Nat → Nat → Nat) (e : Ending) (w' : World) : Prop :=
  ∃ G b, e = .returned (.slice (some ⟨G, 0, none⟩) h h) ∧ Gr w' w.heap.size G h h b (fun _ => wi) (fun _ => wi) f ∧ Below w.heap.size w w'

end Go.Proofs.YtjlmajopfeplpaaGreat

namespace Go.Proofs.YtjlmajopfeplpaaGreat
open Go.RowKit Go.Shelf

/-- the sum of the products at so many places. -/
def dotN (f g : Nat → Nat) (m : Nat) : Nat := Pf.xsum (fun k => Gf.mul (f k) (g k)) m
theorem dotN_lt {f g : Nat → Nat} (hf : Pf.By f) (hg : Pf.By g) (m : Nat) : dotN f g m < 256 := Pf.xsum_lt m fun k _ => Gf.mul_lt (hf k) (hg k)
theorem dotTo_ints (f g : Nat → Nat) (l : Nat) : ∀ k, k ≤ l → dotTo (ints f l) (ints g l) k = dotN f g k
  | 0, _ => rfl
  | k + 1, h => by
    show dotTo (ints f l) (ints g l) k ^^^ Gf.mul ((ints f l).getD k 0).toNat ((ints g l).getD k 0).toNat = dotN f g k ^^^ Gf.mul (f k) (g k)
    rw [dotTo_ints f g l k (by omega), ints_get (by omega), ints_get (by omega), Int.toNat_natCast, Int.toNat_natCast]
section
variable {w w' : World} {W fb n cap : Nat} {a : Option Addr}
theorem IsField.lt (h : IsField fb w) : fb < w.heap.size := World.block_lt_of_cell? _ _ (h 0 (by omega)).1
theorem IsField.same (h : IsField fb w) (hB : Below w.heap.size w w') : IsField fb w' := h.below hB h.lt
theorem IsField.grown {row : Option Nat} (h : IsField fb w) (hg : w.grownBy w' row) (hr : some fb ≠ row) : IsField fb w' := fun j hj => by
  have e := hg.block fb h.lt hr
  exact ⟨(World.cell?_of_block (a := ⟨fb, j, none⟩) e).trans (h j hj).1, (World.frozen?_of_block (a := ⟨fb, j, none⟩) e).trans (h j hj).2⟩
end

/-- of the first k rows the sums of products with g, else 0. -/
def dots (f : Nat → Nat → Nat) (g : Nat → Nat) (m k i : Nat) : Nat := if i < k then dotN (f i) g m else 0
theorem dots_by {f : Nat → Nat → Nat} {g : Nat → Nat} (hf : Mt.Bm f) (hg : Pf.By g) (m k : Nat) : Pf.By (dots f g m k) := fun i => by
  unfold dots; split
  · exact dotN_lt (hf i) hg m
  · omega
theorem dots_up (f : Nat → Nat → Nat) (g : Nat → Nat) (m k : Nat) : Pf.Up (dots f g m k) k := fun i hi => by unfold dots; rw [if_neg (by omega)]
theorem dots_s (f : Nat → Nat → Nat) (g : Nat → Nat) (m k i : Nat) : (if i = k then dotN (f k) g m else dots f g m k i) = dots f g m (k + 1) i := by
  unfold dots
  by_cases e : i = k
  · subst e; rw [if_pos rfl, if_pos (by omega)]
  · rw [if_neg e]
    by_cases h : i < k
    · rw [if_pos h, if_pos (by omega)]
    · rw [if_neg h, if_neg (by omega)]

end Go.Proofs.YtjlmajopfeplpaaGreat
