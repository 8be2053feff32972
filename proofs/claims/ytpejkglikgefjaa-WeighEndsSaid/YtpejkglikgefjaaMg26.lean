import Derived.Laws.AppendOwnNone
import Derived.Test.YtpejkglikgefjaaMg8
import Derived.Test.YtpejkglikgefjaaMg24
namespace Go.Proofs.Ytpejkglikgefjaa.Ar
open Go.RowKit Go.Shelf

/-- the places of the rows of so many matrices, one behind the other. -/
def pairs (n : Nat → Nat) (K : Nat) : List (Nat × Nat) := (List.range K).flatMap fun k => (List.range (n k)).map fun i => (k, i)
theorem pairs_s (n : Nat → Nat) (K : Nat) : pairs n (K + 1) = pairs n K ++ (List.range (n K)).map fun i => (K, i) := by
  unfold pairs
  rw [List.range_succ, List.flatMap_append]
  simp
def tot (n : Nat → Nat) : Nat → Nat
  | 0 => 0
  | k + 1 => tot n k + n k
theorem pairs_len (n : Nat → Nat) : ∀ K, (pairs n K).length = tot n K
  | 0 => rfl
  | K + 1 => by rw [pairs_s, List.length_append, pairs_len n K, List.length_map, List.length_range]; rfl
theorem pairs_at (n : Nat → Nat) : ∀ K j x, (pairs n K)[j]? = some x → x.1 < K ∧ x.2 < n x.1 ∧ j = tot n x.1 + x.2
  | 0, j, x, h => by simp [pairs] at h
  | K + 1, j, x, h => by
    rw [pairs_s] at h
    by_cases c : j < tot n K
    · rw [List.getElem?_append_left (by rw [pairs_len]; exact c)] at h
      obtain ⟨a, b, d⟩ := pairs_at n K j x h
      exact ⟨by omega, b, d⟩
    · rw [List.getElem?_append_right (by rw [pairs_len]; omega), pairs_len] at h
      have hl := (List.getElem?_eq_some_iff.1 h).1
      rw [List.length_map, List.length_range] at hl
      rw [List.getElem?_map, List.getElem?_range hl] at h
      simp only [Option.map_some, Option.some.injEq] at h
      subst h
      exact ⟨by omega, hl, by show j = tot n K + (j - tot n K); omega⟩
theorem tot_le (n : Nat → Nat) {k K : Nat} (h : k ≤ K) : tot n k ≤ tot n K := by
  induction K with
  | zero => obtain rfl : k = 0 := by omega
            exact Nat.le_refl _
  | succ K ih =>
    by_cases e : k = K + 1
    · subst e; exact Nat.le_refl _
    · exact Nat.le_trans (ih (by omega)) (Nat.le_add_right _ _)
/-- the rows, as values. -/
def vl (r : Nat → Nat → Option Addr) (l c : Nat → Nat → Nat) (ps : List (Nat × Nat)) : List Value := ps.map fun x => .slice (r x.1 x.2) (l x.1 x.2) (c x.1 x.2)
theorem vl_s (r : Nat → Nat → Option Addr) (l c : Nat → Nat → Nat) (n : Nat → Nat) (K : Nat) : vl r l c (pairs n (K + 1)) = vl r l c (pairs n K) ++ (List.range (n K)).map fun i => Value.slice (r K i) (l K i) (c K i) := by
  unfold vl
  rw [pairs_s, List.map_append, List.map_map]; rfl
section
variable {w w' : World} {B : Nat} {p : Option Addr} {n cp : Nat} {r : Nat → Option Addr} {l c : Nat → Nat} {f : Nat → Nat → Nat}
theorem own_same {w w' : World} {B : Nat} {e : TypeId} {v : Value} {n : Nat} {xs : List Value} (ho : w.ownsRow B e 1 v n xs) (hB : Below w.heap.size w w') : w'.ownsRow B e 1 v n xs := by
  refine ⟨ho.1, ?_⟩
  rcases ho.2 with h | ⟨g, cap, cur, h1, h2, h3, h4⟩
  · exact Or.inl h
  · exact Or.inr ⟨g, cap, cur, h1, h2, (hB.block g (Array.getElem?_eq_some_iff.1 h3).1).trans h3, h4⟩
end
/-- how long the row i of the matrix k is written anew. -/
def nlen (k i : Nat) : Nat := 1 + (k * 31 + i) % 97
end Go.Proofs.Ytpejkglikgefjaa.Ar
