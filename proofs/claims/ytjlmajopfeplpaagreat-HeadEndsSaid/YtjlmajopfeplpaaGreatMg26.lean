import Derived.RegionTactic
import Derived.Deep.DeepCutAuto
import Derived.BigRegion
import Derived.Test.YtjlmajopfeplpaaGreatMg25
namespace Go.Proofs.YtjlmajopfeplpaaGreat
open Go.RowKit Go.Shelf

end Go.Proofs.YtjlmajopfeplpaaGreat

namespace Go.Proofs.YtjlmajopfeplpaaGreat
open Go.RowKit Go.Shelf

/-- what the document's Mul answers. -/
def RMulSays (w : World) (l l' : Nat) (f f' : Nat → Nat) (e : Ending) (w' : World) : Prop :=
  (600 < Pf.ln f l ∨ 600 < Pf.ln f' l') ∧ e = .returned (.tuple #[.slice none 0 0, .int .i64 3]) ∧ Below w.heap.size w w' ∨
  (Pf.ln f l ≤ 600 ∧ Pf.ln f' l' ≤ 600) ∧ ∃ a n c, e = .returned (.tuple #[.slice a n c, .int .i64 0]) ∧ Nw w' w.heap.size a n c (Pf.pm f f') ∧ Pf.Ln (Pf.pm f f') n ∧ Below w.heap.size w w'

end Go.Proofs.YtjlmajopfeplpaaGreat

namespace Go.Proofs.YtjlmajopfeplpaaGreat
open Go.RowKit Go.Shelf

/-- how long a slice is. -/
def lenOf : Value → Nat
  | .slice _ n _ => n
  | _ => 0

/-- what the document's Div answers. -/
def RDivSays (w : World) (l l' : Nat) (f b : Nat → Nat) (e : Ending) (w' : World) : Prop :=
  (600 < Pf.ln f l ∨ 600 < Pf.ln b l') ∧ e = .returned (.tuple #[.slice none 0 0, .slice none 0 0, .int .i64 3]) ∧ Below w.heap.size w w' ∨
  (Pf.ln f l ≤ 600 ∧ Pf.ln b l' ≤ 600) ∧ Pf.ln b l' = 0 ∧ e = .returned (.tuple #[.slice none 0 0, .slice none 0 0, .int .i64 6]) ∧ Below w.heap.size w w' ∨
  (Pf.ln f l ≤ 600 ∧ Pf.ln b l' ≤ 600) ∧ Pf.ln b l' ≠ 0 ∧ ∃ aq nq cq qf ar nr cr rf, e = .returned (.tuple #[.slice aq nq cq, .slice ar nr cr, .int .i64 0]) ∧ Sl w' aq nq cq qf ∧ Pf.Ln qf nq ∧ Sl w' ar nr cr rf ∧ Pf.Ln rf nr ∧ nr < Pf.ln b l' ∧
    (∀ i, f i = Pf.pm qf b i ^^^ rf i) ∧ Below w.heap.size w w'

/-- a long division under way. -/
structure RdS (w wr : World) (K t : Nat) (f b : Nat → Nat) (ra : Option Addr) (rn rc : Nat) (R : Nat → Nat) (qa : Option Addr) (qn qc : Nat) (Q : Nat → Nat) : Prop where
  sr : Sl wr ra rn rc R
  lr : Pf.Ln R rn
  sq : Sl wr qa qn qc Q
  lq : Pf.Ln Q qn
  qk : Pf.Up Q K
  rk : rn ≤ K
  id : ∀ i, f i = Pf.pm Q b i ^^^ R i
  be : Below w.heap.size w wr

end Go.Proofs.YtjlmajopfeplpaaGreat

namespace Go.Proofs.YtjlmajopfeplpaaGreat
open Go.RowKit Go.Shelf

/-- what the document's Through answers. -/
def RThSays (w : World) (l l' : Nat) (xs ys : Nat → Nat) (e : Ending) (w' : World) : Prop :=
  l ≠ l' ∧ e = .returned (.tuple #[.slice none 0 0, .int .i64 2]) ∧ Below w.heap.size w w' ∨
  l = l' ∧ (∃ i j, i < j ∧ j < l ∧ xs i = xs j) ∧ e = .returned (.tuple #[.slice none 0 0, .int .i64 9]) ∧ Below w.heap.size w w' ∨
  l = l' ∧ ∃ a n c S, e = .returned (.tuple #[.slice a n c, .int .i64 0]) ∧ Sl w' a n c S ∧ Pf.Ln S n ∧ Pf.Lag xs ys l l S ∧ (∀ i j, i < j → j < l → xs i ≠ xs j) ∧ Below w.heap.size w w'

theorem sl_one (w : World) : Sl (w.alloc (.cells #[.int .u8 1] 5)) (some ⟨w.heap.size, 0, none⟩) 1 1 (Pf.sc 1) := sl_single w 1 (by omega)
theorem sl_lin (w : World) (x : Nat) (hx : x < 256) : Sl (w.alloc (.cells #[.int .u8 (x : Nat), .int .u8 1] 5)) (some ⟨w.heap.size, 0, none⟩) 2 2 (Pf.lin x) :=
  (Bl.alloc w [.int .u8 (x : Nat), .int .u8 1] (Pf.lin x) (fun i hi => by
    rcases (show i = 0 ∨ i = 1 by simp at hi; omega) with rfl | rfl <;> rfl)).sl (Nat.le_refl _) (by unfold maxLen; simp) (Pf.lin_by hx) (Pf.lin_up x)

end Go.Proofs.YtjlmajopfeplpaaGreat
