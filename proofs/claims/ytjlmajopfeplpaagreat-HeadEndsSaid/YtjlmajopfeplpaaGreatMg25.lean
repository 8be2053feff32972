import Derived.Laws.AppendOwnNone
import Derived.Test.YtjlmajopfeplpaaGreatMg16
namespace Go.Proofs.YtjlmajopfeplpaaGreat
open Go.RowKit Go.Shelf

theorem up_less {f : Nat → Nat} {k : Nat} (h : Pf.Up f (k + 1)) (h0 : f k = 0) : Pf.Up f k := fun i hi => by
  rcases Nat.lt_or_ge k i with hl | hl
  · exact h i (by omega)
  · obtain rfl : i = k := by omega
    exact h0
theorem Sl.cut {w : World} {a : Option Addr} {len cap : Nat} {f : Nat → Nat} (h : Sl w a len cap f) {k : Nat} (hk : k ≤ len) (hu : Pf.Up f k) : Sl w a k cap f :=
  ⟨Nat.le_trans hk h.capOk, h.maxOk, h.bytes, hu, fun e => ⟨by have := (h.nil e).1; omega, (h.nil e).2⟩, fun ad e hn => h.spot ad e (by omega), fun ad e i hi => h.cell ad e i (by omega)⟩

end Go.Proofs.YtjlmajopfeplpaaGreat
