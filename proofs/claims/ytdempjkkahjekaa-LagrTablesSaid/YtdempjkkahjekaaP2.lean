import Derived.Test.YtdempjkkahjekaaP1
namespace Go.Proofs.Ytdempjkkahjekaa
open Go.RowKit Go.Shelf

theorem Nw.of_bl {w : World} {B g len cap : Nat} {f : Nat → Nat} (hb : Bl w g len cap f) (h1 : len ≤ cap) (h2 : cap ≤ maxLen) (h3 : Pf.By f) (h4 : Pf.Up f len) (hg : B ≤ g) : Nw w B (some ⟨g, 0, none⟩) len cap f := ⟨hb.sl h1 h2 h3 h4, hb.ow hg⟩

/-- a slice with places to read. -/
theorem Nw.cells {w : World} {B : Nat} {a : Option Addr} {len cap : Nat} {f : Nat → Nat} (h : Nw w B a len cap f) (hl : 0 < len) : ∃ g, a = some ⟨g, 0, none⟩ ∧ B ≤ g ∧ Bl w g len cap f := by
  rcases h.cond with ⟨_, e, _⟩ | h
  · omega
  · exact h

end Go.Proofs.Ytdempjkkahjekaa
