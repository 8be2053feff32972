import Derived.Test.YtdempjkkahjekaaR3
import Derived.Test.YtdempjkkahjekaaPe
namespace Go.Proofs.Ytdempjkkahjekaa
open Go.RowKit Go.Shelf

theorem rdiv_nat (x y : Nat) (hx : x < 256) (hy : y < 256) (w : World) :
    Calls Try.prog 47 #[.int .u8 (x : Nat), .int .u8 (y : Nat)] w fun e w' => e = .returned (.tuple #[.int .u8 (Gf.mul x (ivN y) : Nat), .int .i64 (zeroErr y)]) ∧ w' = w := by
  have h := rdiv_any x y (by omega) (by omega) (by omega) (by omega) w
  have e : mulOf x (invOf y) = (Gf.mul x (ivN y) : Nat) := by unfold mulOf; rw [invOf_nat, Int.toNat_natCast, Int.toNat_natCast]
  rw [e] at h; exact h
/-- how long a slice is. -/
def lenOf : Value → Nat
  | .slice _ n _ => n
  | _ => 0

/-- what the document's Div answers. -/
def RDivSays (w : World) (l l' : Nat) (f b : Nat → Nat) (e : Ending) (w' : World) : Prop :=
  (600 < Pf.ln f l ∨ 600 < Pf.ln b l') ∧ e = .returned (.tuple #[.slice none 0 0, .slice none 0 0, .int .i64 3]) ∧ Below w.heap.size w w' ∨
  (Pf.ln f l ≤ 600 ∧ Pf.ln b l' ≤ 600) ∧ Pf.ln b l' = 0 ∧ e = .returned (.tuple #[.slice none 0 0, .slice none 0 0, .int .i64 6]) ∧ Below w.heap.size w w' ∨
  (Pf.ln f l ≤ 600 ∧ Pf.ln b l' ≤ 600) ∧ Pf.ln b l' ≠ 0 ∧ ∃ aq nq cq qf ar nr cr rf, e = .returned (.tuple #[.slice aq nq cq, .slice ar nr cr, .int .i64 0]) ∧ Sl w' aq nq cq qf ∧ Pf.Ln qf nq ∧ Sl w' ar nr cr rf ∧ Pf.Ln rf nr ∧ nr < Pf.ln b l' ∧
    (∀ i, f i = Pf.pm qf b i ^^^ rf i) ∧ Below w.heap.size w w'

/-- a long division under way. -/
structure RdS (w wr : World) (K t : Nat) (f b : Nat → Nat) (ra : Option Addr) (rn rc : Nat) (R : Nat → Nat) (qa : Option Addr) (qn qc : Nat) (Q : Nat → Nat) : Prop where
  sr : Sl wr ra rn rc R
  lr : Pf.Ln R rn
  sq : Sl wr qa qn qc Q
  lq : Pf.Ln Q qn
  qk : Pf.Up Q K
  rk : rn ≤ K
  id : ∀ i, f i = Pf.pm Q b i ^^^ R i
  be : Below w.heap.size w wr

end Go.Proofs.Ytdempjkkahjekaa
