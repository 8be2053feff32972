import Derived.Test.YtdempjkkahjekaaG1
import Derived.Test.YtdempjkkahjekaaFd
namespace Go.Proofs.Ytdempjkkahjekaa
open Go.RowKit Go.Shelf

/-- the sum of the products at so many places. -/
def dotN (f g : Nat → Nat) (m : Nat) : Nat := Pf.xsum (fun k => Gf.mul (f k) (g k)) m
theorem dotN_lt {f g : Nat → Nat} (hf : Pf.By f) (hg : Pf.By g) (m : Nat) : dotN f g m < 256 := Pf.xsum_lt m fun k _ => Gf.mul_lt (hf k) (hg k)
theorem dotTo_ints (f g : Nat → Nat) (l : Nat) : ∀ k, k ≤ l → dotTo (ints f l) (ints g l) k = dotN f g k
  | 0, _ => rfl
  | k + 1, h => by
    show dotTo (ints f l) (ints g l) k ^^^ Gf.mul ((ints f l).getD k 0).toNat ((ints g l).getD k 0).toNat = dotN f g k ^^^ Gf.mul (f k) (g k)
    rw [dotTo_ints f g l k (by omega), ints_get (by omega), ints_get (by omega), Int.toNat_natCast, Int.toNat_natCast]
theorem dot_nat (fb : Nat) (a a' : Option Addr) (l c c' : Nat) (f g : Nat → Nat) (hl : l ≤ 1000000000000) (w : World) (hF : IsField fb w) (h1 : Sl w a l c f) (h2 : Sl w a' l c' g) :
    Calls Try.prog 45 #[.pointer (some ⟨fb, 0, none⟩), .slice a l c, .slice a' l c'] w fun e w' => e = .returned (.tuple #[.int .u8 (dotN f g l : Nat), .int .i64 0]) ∧ ∃ q, w' = w.drewN q := by
  have h := dot_any fb a a' l c l c' (ints f l) (ints g l) w hF h1.has8 h2.has8 hl hl
  rw [if_pos rfl, dotTo_ints f g l l (Nat.le_refl _)] at h
  exact h
/-- a worker: a field, and rows. -/
def Wr (w : World) (W fb : Nat) (a : Option Addr) (n cap : Nat) : Prop := w.heap[W]? = some (.cells #[.pointer (some ⟨fb, 0, none⟩), .slice a n cap] 77 (0, 0))
section
variable {w w' : World} {W fb n cap : Nat} {a : Option Addr}
theorem Wr.c0 (h : Wr w W fb a n cap) : w.cell? ⟨W, 0, none⟩ = some (.pointer (some ⟨fb, 0, none⟩)) := by rw [cell_of_row w W 0 _ _ _ h]; rfl
theorem Wr.c1 (h : Wr w W fb a n cap) : w.cell? ⟨W, 1, none⟩ = some (.slice a n cap) := by rw [cell_of_row w W 1 _ _ _ h]; rfl
theorem Wr.lt (h : Wr w W fb a n cap) : W < w.heap.size := (Array.getElem?_eq_some_iff.1 h).1
theorem Wr.kept (h : Wr w W fb a n cap) (hk : w'.heap[W]? = w.heap[W]?) : Wr w' W fb a n cap := hk.trans h
theorem Wr.same (h : Wr w W fb a n cap) (hB : Below w.heap.size w w') : Wr w' W fb a n cap := h.kept (hB.block W h.lt)
theorem IsField.lt (h : IsField fb w) : fb < w.heap.size := World.block_lt_of_cell? _ _ (h 0 (by omega)).1
theorem IsField.same (h : IsField fb w) (hB : Below w.heap.size w w') : IsField fb w' := h.below hB h.lt
theorem IsField.grown {row : Option Nat} (h : IsField fb w) (hg : w.grownBy w' row) (hr : some fb ≠ row) : IsField fb w' := fun j hj => by
  have e := hg.block fb h.lt hr
  exact ⟨(World.cell?_of_block (a := ⟨fb, j, none⟩) e).trans (h j hj).1, (World.frozen?_of_block (a := ⟨fb, j, none⟩) e).trans (h j hj).2⟩
end

/-- of the first k rows the sums of products with g, else 0. -/
def dots (f : Nat → Nat → Nat) (g : Nat → Nat) (m k i : Nat) : Nat := if i < k then dotN (f i) g m else 0
theorem dots_by {f : Nat → Nat → Nat} {g : Nat → Nat} (hf : Mt.Bm f) (hg : Pf.By g) (m k : Nat) : Pf.By (dots f g m k) := fun i => by
  unfold dots; split
  · exact dotN_lt (hf i) hg m
  · omega
theorem dots_up (f : Nat → Nat → Nat) (g : Nat → Nat) (m k : Nat) : Pf.Up (dots f g m k) k := fun i hi => by unfold dots; rw [if_neg (by omega)]
theorem dots_s (f : Nat → Nat → Nat) (g : Nat → Nat) (m k i : Nat) : (if i = k then dotN (f k) g m else dots f g m k i) = dots f g m (k + 1) i := by
  unfold dots
  by_cases e : i = k
  · subst e; rw [if_pos rfl, if_pos (by omega)]
  · rw [if_neg e]
    by_cases h : i < k
    · rw [if_pos h, if_pos (by omega)]
    · rw [if_neg h, if_neg (by omega)]

end Go.Proofs.Ytdempjkkahjekaa
