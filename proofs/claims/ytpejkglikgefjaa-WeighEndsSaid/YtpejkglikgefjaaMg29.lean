import Derived.Lib.QuietBelow
import Derived.Laws.AppendOwnNone
import Derived.Test.YtpejkglikgefjaaMg8
namespace Go.Proofs.Ytpejkglikgefjaa
open Go.RowKit Go.Shelf

theorem Block.bl {w : World} {g len : Nat} {f : Nat → Nat} (h : Block w g (lentC (ints f len) 12) 5) : Bl w g len (len + 12) f :=
  ⟨_, h, by rw [List.size_toArray, lentC_len, ints_len], fun i hi => by
    rw [List.getElem?_toArray, lentC_lo (n := 12) (by rw [ints_len]; exact hi), ints_get hi]⟩
theorem Block.kept {w w' : World} {g : Nat} {vs : List Value} {e : TypeId} (h : Block w g vs e) (hk : w'.heap[g]? = w.heap[g]?) : Block w' g vs e := hk.trans h
theorem Block.same {w w' : World} {g : Nat} {vs : List Value} {e : TypeId} (h : Block w g vs e) (hB : Below w.heap.size w w') : Block w' g vs e := h.kept (hB.block g h.lt)
/-- rows that were lent: each a block that holds its bytes, and marks behind. -/
def Lent (w : World) (n : Nat) (b l : Nat → Nat) (f : Nat → Nat → Nat) : Prop := ∀ i, i < n → Block w (b i) (lentC (ints (f i) (l i)) 12) 5
theorem Lent.same {w w' : World} {n : Nat} {b l : Nat → Nat} {f : Nat → Nat → Nat} (h : Lent w n b l f) (hB : Below w.heap.size w w') : Lent w' n b l f := fun i hi => (h i hi).same hB

end Go.Proofs.Ytpejkglikgefjaa
