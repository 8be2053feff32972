import Derived.StillTailTactics
import Derived.Outline
import Derived.RegionTactic
import Derived.Deep.DeepCutAuto
import Derived.BigRegion
import Derived.Test.YtpejkglikgefjaaMg7
namespace Go.Proofs.Ytpejkglikgefjaa
open Go.RowKit Go.Shelf

/-- how many columns there are. -/
def wd (n : Nat) (l : Nat → Nat) : Nat := if n = 0 then 0 else l 0

end Go.Proofs.Ytpejkglikgefjaa

namespace Go.Proofs.Ytpejkglikgefjaa
open Go.RowKit Go.Shelf

/-- the sum of the products at so many places. -/
def dotN (f g : Nat → Nat) (m : Nat) : Nat := Pf.xsum (fun k => Gf.mul (f k) (g k)) m
theorem dotN_lt {f g : Nat → Nat} (hf : Pf.By f) (hg : Pf.By g) (m : Nat) : dotN f g m < 256 := Pf.xsum_lt m fun k _ => Gf.mul_lt (hf k) (hg k)
theorem dotTo_ints (f g : Nat → Nat) (l : Nat) : ∀ k, k ≤ l → dotTo (ints f l) (ints g l) k = dotN f g k
  | 0, _ => rfl
  | k + 1, h => by
    show dotTo (ints f l) (ints g l) k ^^^ Gf.mul ((ints f l).getD k 0).toNat ((ints g l).getD k 0).toNat = dotN f g k ^^^ Gf.mul (f k) (g k)
    rw [dotTo_ints f g l k (by omega), ints_get (by omega), ints_get (by omega), Int.toNat_natCast, Int.toNat_natCast]
section
variable {w w' : World} {W fb n cap : Nat} {a : Option Addr}
theorem IsField.lt (h : IsField fb w) : fb < w.heap.size := World.block_lt_of_cell? _ _ (h 0 (by omega)).1
theorem IsField.same (h : IsField fb w) (hB : Below w.heap.size w w') : IsField fb w' := h.below hB h.lt
theorem IsField.grown {row : Option Nat} (h : IsField fb w) (hg : w.grownBy w' row) (hr : some fb ≠ row) : IsField fb w' := fun j hj => by
  have e := hg.block fb h.lt hr
  exact ⟨(World.cell?_of_block (a := ⟨fb, j, none⟩) e).trans (h j hj).1, (World.frozen?_of_block (a := ⟨fb, j, none⟩) e).trans (h j hj).2⟩
end

/-- of the first k rows the sums of products with g, else 0. -/
def dots (f : Nat → Nat → Nat) (g : Nat → Nat) (m k i : Nat) : Nat := if i < k then dotN (f i) g m else 0
theorem dots_by {f : Nat → Nat → Nat} {g : Nat → Nat} (hf : Mt.Bm f) (hg : Pf.By g) (m k : Nat) : Pf.By (dots f g m k) := fun i => by
  unfold dots; split
  · exact dotN_lt (hf i) hg m
  · omega
theorem dots_up (f : Nat → Nat → Nat) (g : Nat → Nat) (m k : Nat) : Pf.Up (dots f g m k) k := fun i hi => by unfold dots; rw [if_neg (by omega)]
theorem dots_s (f : Nat → Nat → Nat) (g : Nat → Nat) (m k i : Nat) : (if i = k then dotN (f k) g m else dots f g m k i) = dots f g m (k + 1) i := by
  unfold dots
  by_cases e : i = k
  · subst e; rw [if_pos rfl, if_pos (by omega)]
  · rw [if_neg e]
    by_cases h : i < k
    · rw [if_pos h, if_pos (by omega)]
    · rw [if_neg h, if_neg (by omega)]

end Go.Proofs.Ytpejkglikgefjaa
