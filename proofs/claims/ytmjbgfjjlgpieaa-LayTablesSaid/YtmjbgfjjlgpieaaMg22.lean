import Derived.Test.YtmjbgfjjlgpieaaMg6
import Derived.Test.YtmjbgfjjlgpieaaMg10
namespace Go.Proofs.Ytmjbgfjjlgpieaa
open Go.RowKit Go.Shelf

theorem Ow.trim {w : World} {B : Nat} {a : Option Addr} {cap : Nat} (h : Ow w B a cap) (n : Nat) : Ow w B (tA a n) (tC cap n) := by
  unfold tA tC
  by_cases e : n = 0
  · rw [if_pos e, if_pos e]; exact Or.inl ⟨rfl, rfl⟩
  · rw [if_neg e, if_neg e]; exact h
theorem Nw.trim {w : World} {B : Nat} {a : Option Addr} {len cap : Nat} {f : Nat → Nat} (h : Nw w B a len cap f) : Nw w B (tA a (Pf.ln f len)) (Pf.ln f len) (tC cap (Pf.ln f len)) f := ⟨h.sl.trim, h.ow.trim _⟩
end Go.Proofs.Ytmjbgfjjlgpieaa
