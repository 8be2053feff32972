import Derived.Test.YtjlmajopfeplpaaGreatMg8
import Derived.Test.YtjlmajopfeplpaaGreatMg9
namespace Go.Proofs.YtjlmajopfeplpaaGreat
open Go.RowKit Go.Shelf

/-- the columns from one on, up to another one. -/
def cutf (f : Nat → Nat → Nat) (n lo m i j : Nat) : Nat := if i < n then sub (f i) lo m j else 0
theorem cutf_bm {f : Nat → Nat → Nat} (h : Mt.Bm f) (n lo m : Nat) : Mt.Bm (cutf f n lo m) := fun i j => by
  unfold cutf; split
  · exact sub_by (h i) lo m j
  · omega
theorem cpy_all {m n : Nat} {S F : Nat → Nat} (hmn : m = n) (hS : Pf.Up S n) (hF : Pf.Up F n) : cpy 0 m S F = S := funext fun i => by
  unfold cpy
  by_cases h : i < m
  · rw [if_pos (by omega), Nat.sub_zero]
  · rw [if_neg (by omega), hF i (by omega), hS i (by omega)]
theorem cutf_up (f : Nat → Nat → Nat) (n lo m i : Nat) : Pf.Up (cutf f n lo m i) m := fun j hj => by
  unfold cutf; split
  · exact sub_up _ lo m j hj
  · rfl
/-- what is written row by row: the first k rows. -/
def firstR (k : Nat) (f : Nat → Nat → Nat) (i j : Nat) : Nat := if i < k then f i j else 0
theorem firstR_bm {f : Nat → Nat → Nat} (h : Mt.Bm f) (k : Nat) : Mt.Bm (firstR k f) := fun i j => by
  unfold firstR; split
  · exact h i j
  · omega
theorem firstR_s (k : Nat) (f : Nat → Nat → Nat) (i j : Nat) : (if i = k then f k j else firstR k f i j) = firstR (k + 1) f i j := by
  unfold firstR
  by_cases e : i = k
  · subst e; rw [if_pos rfl, if_pos (by omega)]
  · rw [if_neg e]
    by_cases h : i < k
    · rw [if_pos h, if_pos (by omega)]
    · rw [if_neg h, if_neg (by omega)]

end Go.Proofs.YtjlmajopfeplpaaGreat

namespace Go.Proofs.YtjlmajopfeplpaaGreat
open Go.RowKit Go.Shelf

/-- one matrix with another one behind each row. -/
def jn (f f' : Nat → Nat → Nat) (wl i j : Nat) : Nat := if j < wl then f i j else f' i (j - wl)
theorem jn_bm {f f' : Nat → Nat → Nat} (h : Mt.Bm f) (h' : Mt.Bm f') (wl : Nat) : Mt.Bm (jn f f' wl) := fun i j => by
  unfold jn; split
  · exact h i j
  · exact h' _ _
theorem jn_up {f f' : Nat → Nat → Nat} {wl wr i : Nat} (h' : Pf.Up (f' i) wr) : Pf.Up (jn f f' wl i) (wl + wr) := fun j hj => by
  unfold jn; rw [if_neg (by omega)]; exact h' _ (by omega)
theorem cpy_two {f f' : Nat → Nat → Nat} {wl wr k : Nat} (h' : Pf.Up (f' k) wr) : cpy wl wr (f' k) (cpy 0 wl (f k) (fun _ => 0)) = jn f f' wl k := funext fun j => by
  unfold cpy jn
  by_cases c : j < wl
  · rw [if_neg (by omega), if_pos (by omega), if_pos c, Nat.sub_zero]
  · rw [if_neg c]
    by_cases c2 : j < wl + wr
    · rw [if_pos (by omega)]
    · rw [if_neg (by omega), if_neg (by omega), h' _ (by omega)]

end Go.Proofs.YtjlmajopfeplpaaGreat

namespace Go.Proofs.YtjlmajopfeplpaaGreat
open Go.RowKit Go.Shelf

/-- the columns as rows, so far as rows were gone through: k whole ones, and m bytes of the next. -/
def trk (f : Nat → Nat → Nat) (k m i j : Nat) : Nat := if j < k ∨ (j = k ∧ i < m) then f j i else 0
theorem trk_bm {f : Nat → Nat → Nat} (h : Mt.Bm f) (k m : Nat) : Mt.Bm (trk f k m) := fun i j => by
  unfold trk; split
  · exact h j i
  · omega
theorem trk_s (f : Nat → Nat → Nat) (k m i j : Nat) : (if i = m then (if j = k then f k m else trk f k m m j) else trk f k m i j) = trk f k (m + 1) i j := by
  unfold trk
  by_cases e : i = m
  · subst e
    rw [if_pos rfl]
    by_cases c : j = k
    · subst c; rw [if_pos rfl, if_pos (Or.inr ⟨rfl, by omega⟩)]
    · rw [if_neg c]
      by_cases d : j < k
      · rw [if_pos (Or.inl d), if_pos (Or.inl d)]
      · rw [if_neg (by omega), if_neg (by omega)]
  · rw [if_neg e]
    by_cases d : j < k ∨ (j = k ∧ i < m)
    · rw [if_pos d, if_pos (by omega)]
    · rw [if_neg d, if_neg (by omega)]
theorem trk_end (f : Nat → Nat → Nat) (k m i j : Nat) (h : i < m) : trk f k m i j = trk f (k + 1) 0 i j := by
  unfold trk
  by_cases d : j < k ∨ (j = k ∧ i < m)
  · rw [if_pos d, if_pos (by omega)]
  · rw [if_neg d, if_neg (by omega)]

end Go.Proofs.YtjlmajopfeplpaaGreat
