import Derived.Test.YtjlmajopfeplpaaGreatMg9
import Derived.Test.YtjlmajopfeplpaaGreatMg16
namespace Go.Proofs.YtjlmajopfeplpaaGreat
open Go.RowKit Go.Shelf

section
variable {W W' : World} {wb fb n cp m cs : Nat} {ap aq : Option Addr}
end
/-- points that come lie elsewhere. -/
def Far (wb : Nat) (ap aq a : Option Addr) (m : Nat) : Prop := ∀ ad, a = some ad → m ≠ 0 → ad.block ≠ wb ∧ ap ≠ some ⟨ad.block, 0, none⟩ ∧ aq ≠ some ⟨ad.block, 0, none⟩
section
variable {W W' : World} {wb fb n cp m cs : Nat} {ap aq : Option Addr} {P S : Nat → Nat}
end
/-- what came is still there behind an append to a row of the worker's. -/
theorem Sl.app {W W' : World} {a : Option Addr} {k d cp : Nat} {f : Nat → Nat} (hS : Sl W a k d f) {ap : Option Addr} {g c wb o : Nat} {u : Value} (hc : ap = some ⟨g, 0, none⟩ ∧ c = cp ∧ W.grownBy W' (some g) ∨ W.heap.size ≤ g ∧ W.grownBy W' none)
    (hf : ∀ ad, a = some ad → k ≠ 0 → ad.block ≠ wb ∧ ap ≠ some ⟨ad.block, 0, none⟩) : Sl (W'.setCell ⟨wb, o, none⟩ u) a k d f ∧ ∀ ad, a = some ad → k ≠ 0 → ad.block ≠ g := by
  have hne : ∀ ad, a = some ad → k ≠ 0 → ad.block ≠ g := fun ad ha hk => by
    rcases hc with ⟨e, _⟩ | ⟨e, _⟩
    · intro hh; exact (hf ad ha hk).2 (by rw [e, hh])
    · have := hS.lt ad ha hk; omega
  have h1 : Sl W' a k d f := by
    rcases hc with ⟨_, _, hg⟩ | ⟨_, hg⟩
    · exact hS.grown hg (fun ad ha hk => by have := hne ad ha hk; simpa using this)
    · exact hS.grown hg (fun ad ha hk => by simp)
  exact ⟨h1.grown (grownSet W' wb o u) (fun ad ha hk => by have := (hf ad ha hk).1; simpa using this), hne⟩
end Go.Proofs.YtjlmajopfeplpaaGreat

namespace Go.Proofs.YtjlmajopfeplpaaGreat
open Go.RowKit Go.Shelf

/-- the scales as the k-th point is being made: j are done. -/
def sgk (P : Nat → Nat) (k j i : Nat) : Nat := if i < j then Pf.sg P i (k + 1) else Pf.sg P i k
theorem sgk_s (P : Nat → Nat) {k j : Nat} (hj : j < k) (i : Nat) : (if i = j then Gf.mul (sgk P k j j) (ivN (P k ^^^ P j)) else sgk P k j i) = sgk P k (j + 1) i := by
  unfold sgk
  by_cases e : i = j
  · subst e
    rw [if_pos rfl, if_neg (by omega), if_pos (by omega)]
    show _ = (if k = i then _ else Gf.mul (Pf.sg P i k) (ivN (P k ^^^ P i)))
    rw [if_neg (by omega)]
  · rw [if_neg e]
    by_cases h : i < j
    · rw [if_pos h, if_pos (by omega)]
    · rw [if_neg h, if_neg (by omega)]
theorem sgk_e (P : Nat → Nat) (k i : Nat) (hi : i < k + 1) : sgk P k k i = Pf.sg P i (k + 1) := by
  unfold sgk
  by_cases e : i < k
  · rw [if_pos e]
  · obtain rfl : i = k := by omega
    rw [if_neg e]
    show _ = (if i = i then Pf.sg P i i else _)
    rw [if_pos rfl]
theorem sg_k (P : Nat → Nat) {k j : Nat} (hj : j < k) : Gf.mul (Pf.sg P k j) (ivN (P k ^^^ P j)) = Pf.sg P k (j + 1) := by
  show _ = (if j = k then _ else Gf.mul (Pf.sg P k j) (ivN (P j ^^^ P k)))
  rw [if_neg (by omega), Nat.xor_comm]

end Go.Proofs.YtjlmajopfeplpaaGreat
