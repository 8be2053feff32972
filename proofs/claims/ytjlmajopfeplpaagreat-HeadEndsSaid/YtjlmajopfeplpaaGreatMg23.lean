import Derived.Test.YtjlmajopfeplpaaGreatMg21
import Derived.Test.YtjlmajopfeplpaaGreatMg22
namespace Go.Proofs.YtjlmajopfeplpaaGreat
open Go.RowKit Go.Shelf

/-- a matrix, by its rows' lengths. -/
def IsM (n : Nat) (l : Nat → Nat) : Prop := (∀ i, i < n → l i = l 0) ∧ n ≤ 255 ∧ wd n l ≤ 255

/-- what a call answers that hands out a matrix, and no error. -/
def MakesE (w : World) (h wi : Nat) (f : Nat → Nat → Nat) (e : Ending) (w' : World) : Prop :=
  ∃ G b, e = .returned (.tuple #[.slice (some ⟨G, 0, none⟩) h h, .int .i64 0]) ∧ Gr w' w.heap.size G h h b (fun _ => wi) (fun _ => wi) f ∧ Below w.heap.size w w'

end Go.Proofs.YtjlmajopfeplpaaGreat

namespace Go.Proofs.YtjlmajopfeplpaaGreat
open Go.RowKit Go.Shelf

/-- what stands within so many rows and columns, else 0. -/
def cl (h w : Nat) (M : Nat → Nat → Nat) (i j : Nat) : Nat := if i < h ∧ j < w then M i j else 0
theorem cl_bm {M : Nat → Nat → Nat} (hM : Mt.Bm M) (h w : Nat) : Mt.Bm (cl h w M) := fun i j => by
  unfold cl; split
  · exact hM i j
  · omega
theorem cl_in {M : Nat → Nat → Nat} {h w i j : Nat} (hi : i < h) (hj : j < w) : cl h w M i j = M i j := if_pos ⟨hi, hj⟩
theorem cl_up (h w : Nat) (M : Nat → Nat → Nat) (i : Nat) : Pf.Up (cl h w M i) w := fun j hj => if_neg (by omega)
theorem unit_cl {n i j : Nat} (hi : i < n) : cutf Mt.dl n 0 n i j = cl n n Mt.dl i j := by
  unfold cutf sub cl
  rw [if_pos hi, Nat.zero_add]
  by_cases h : j < n
  · rw [if_pos h, if_pos ⟨hi, h⟩]
  · rw [if_neg h, if_neg (by omega)]
/-- what a call answers that hands out a row of bytes, and no error. -/
def GivesE (w : World) (n : Nat) (f : Nat → Nat) (e : Ending) (w' : World) : Prop :=
  ∃ g, e = .returned (.tuple #[.slice (some ⟨g, 0, none⟩) n n, .int .i64 0]) ∧ w.heap.size ≤ g ∧ Bl w' g n n f ∧ Below w.heap.size w w'
/-- what a call answers that refuses. -/
def Refuses (w : World) (k : Int) (e : Ending) (w' : World) : Prop := e = .returned (.tuple #[.slice none 0 0, .int .i64 k]) ∧ Below w.heap.size w w'

end Go.Proofs.YtjlmajopfeplpaaGreat

namespace Go.Proofs.YtjlmajopfeplpaaGreat
open Go.RowKit Go.Shelf

theorem wd_const (n : Nat) : wd n (fun _ => n) = n := by
  unfold wd
  by_cases h : n = 0
  · rw [if_pos h, h]
  · rw [if_neg h]
theorem jn_wu {f : Nat → Nat → Nat} {n i j : Nat} (hi : i < n) : jn f (cutf Mt.dl n 0 n) n i j = Mt.wu f n i j := by
  unfold jn Mt.wu
  by_cases h : j < n
  · rw [if_pos h, if_pos h]
  · rw [if_neg h, if_neg h, unit_cl hi]
    unfold cl
    by_cases h2 : j - n < n
    · rw [if_pos ⟨hi, h2⟩]
    · rw [if_neg (by omega), Mt.dl_ne (by omega)]

/-- what Inverse answers to a matrix of as many rows as columns. -/
def Inverts (w : World) (n : Nat) (f : Nat → Nat → Nat) (e : Ending) (w' : World) : Prop :=
  (Mt.rk n n f < n ∧ Refuses w 7 e w') ∨ (Mt.rk n n f = n ∧ MakesE w n n (cl n n (Mt.inv f n)) e w')

end Go.Proofs.YtjlmajopfeplpaaGreat

namespace Go.Proofs.YtjlmajopfeplpaaGreat
open Go.RowKit Go.Shelf

theorem mul_row {f f' : Nat → Nat → Nat} (hf : Mt.Bm f) (hf' : Mt.Bm f') {n n' wl i : Nat} (hi : i < n) : dots (trk f' n' 0) (f i) n' wl = cl n wl (Mt.mm n' f f') i := funext fun j => by
  unfold dots cl
  by_cases h : j < wl
  · rw [if_pos h, if_pos ⟨hi, h⟩]
    unfold dotN Mt.mm
    exact Pf.xsum_congr n' fun k hk => by
      rw [Gf.mul_comm (hf i k) (hf' k j)]
      unfold trk; rw [if_pos (Or.inl hk)]
  · rw [if_neg h, if_neg (by omega)]

end Go.Proofs.YtjlmajopfeplpaaGreat
