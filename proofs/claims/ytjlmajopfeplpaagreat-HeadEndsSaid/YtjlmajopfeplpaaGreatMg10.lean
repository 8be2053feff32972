import Derived.Lib.QuietBelow
import Derived.Laws.AppendOwnNone
import Derived.Test.YtjlmajopfeplpaaGreatMg9
namespace Go.Proofs.YtjlmajopfeplpaaGreat
open Go.RowKit Go.Shelf

theorem Block.bl {w : World} {g len : Nat} {f : Nat → Nat} (h : Block w g (lentC (ints f len) 12) 5) : Bl w g len (len + 12) f :=
  ⟨_, h, by rw [List.size_toArray, lentC_len, ints_len], fun i hi => by
    rw [List.getElem?_toArray, lentC_lo (n := 12) (by rw [ints_len]; exact hi), ints_get hi]⟩
theorem Block.kept {w w' : World} {g : Nat} {vs : List Value} {e : TypeId} (h : Block w g vs e) (hk : w'.heap[g]? = w.heap[g]?) : Block w' g vs e := hk.trans h
theorem Block.same {w w' : World} {g : Nat} {vs : List Value} {e : TypeId} (h : Block w g vs e) (hB : Below w.heap.size w w') : Block w' g vs e := h.kept (hB.block g h.lt)
/-- what an append to a list of rows leaves of a block of bytes. -/
theorem app_keeps {w w1 w2 : World} {B k cap G' cap' : Nat} {a : Option Addr} {xs : List Value} (ho : w.ownsRow B 28 1 (.slice a k cap) k xs) (hW : Below w.heap.size w w1)
    (hc : a = some ⟨G', 0, none⟩ ∧ cap' = cap ∧ w1.grownBy w2 (some G') ∨ w1.heap.size ≤ G' ∧ w1.grownBy w2 none) {y m cp : Nat} {z : Nat → Nat} (hz : Bl w1 y m cp z) : w2.heap[y]? = w1.heap[y]? := by
  rcases hc with ⟨e, _, hgr⟩ | ⟨hG, hgr⟩
  · refine hgr.block y hz.lt (fun e2 => ?_)
    injection e2 with e2
    subst e
    exact own_ne_bl (own_below ho hW) hz e2
  · exact hgr.block y hz.lt (by simp)

/-- rows that were lent: each a block that holds its bytes, and marks behind. -/
def Lent (w : World) (n : Nat) (b l : Nat → Nat) (f : Nat → Nat → Nat) : Prop := ∀ i, i < n → Block w (b i) (lentC (ints (f i) (l i)) 12) 5
theorem Lent.same {w w' : World} {n : Nat} {b l : Nat → Nat} {f : Nat → Nat → Nat} (h : Lent w n b l f) (hB : Below w.heap.size w w') : Lent w' n b l f := fun i hi => (h i hi).same hB

end Go.Proofs.YtjlmajopfeplpaaGreat
