import Derived.Laws.AppendOwnNone
import Derived.Test.YtjlmajopfeplpaaGreatMg9
import Derived.Test.YtjlmajopfeplpaaGreatMg31
namespace Go.Proofs.YtjlmajopfeplpaaGreat.Ar
open Go.RowKit Go.Shelf

/-- the places of the rows of so many matrices, one behind the other. -/
def pairs (n : Nat → Nat) (K : Nat) : List (Nat × Nat) := (List.range K).flatMap fun k => (List.range (n k)).map fun i => (k, i)
theorem pairs_s (n : Nat → Nat) (K : Nat) : pairs n (K + 1) = pairs n K ++ (List.range (n K)).map fun i => (K, i) := by
  unfold pairs
  rw [List.range_succ, List.flatMap_append]
  simp
def tot (n : Nat → Nat) : Nat → Nat
  | 0 => 0
  | k + 1 => tot n k + n k
theorem pairs_len (n : Nat → Nat) : ∀ K, (pairs n K).length = tot n K
  | 0 => rfl
  | K + 1 => by rw [pairs_s, List.length_append, pairs_len n K, List.length_map, List.length_range]; rfl
theorem pairs_at (n : Nat → Nat) : ∀ K j x, (pairs n K)[j]? = some x → x.1 < K ∧ x.2 < n x.1 ∧ j = tot n x.1 + x.2
  | 0, j, x, h => by simp [pairs] at h
  | K + 1, j, x, h => by
    rw [pairs_s] at h
    by_cases c : j < tot n K
    · rw [List.getElem?_append_left (by rw [pairs_len]; exact c)] at h
      obtain ⟨a, b, d⟩ := pairs_at n K j x h
      exact ⟨by omega, b, d⟩
    · rw [List.getElem?_append_right (by rw [pairs_len]; omega), pairs_len] at h
      have hl := (List.getElem?_eq_some_iff.1 h).1
      rw [List.length_map, List.length_range] at hl
      rw [List.getElem?_map, List.getElem?_range hl] at h
      simp only [Option.map_some, Option.some.injEq] at h
      subst h
      exact ⟨by omega, hl, by show j = tot n K + (j - tot n K); omega⟩
theorem tot_le (n : Nat → Nat) {k K : Nat} (h : k ≤ K) : tot n k ≤ tot n K := by
  induction K with
  | zero => obtain rfl : k = 0 := by omega
            exact Nat.le_refl _
  | succ K ih =>
    by_cases e : k = K + 1
    · subst e; exact Nat.le_refl _
    · exact Nat.le_trans (ih (by omega)) (Nat.le_add_right _ _)
/-- the rows, as values. -/
def vl (r : Nat → Nat → Option Addr) (l c : Nat → Nat → Nat) (ps : List (Nat × Nat)) : List Value := ps.map fun x => .slice (r x.1 x.2) (l x.1 x.2) (c x.1 x.2)
theorem vl_s (r : Nat → Nat → Option Addr) (l c : Nat → Nat → Nat) (n : Nat → Nat) (K : Nat) : vl r l c (pairs n (K + 1)) = vl r l c (pairs n K) ++ (List.range (n K)).map fun i => Value.slice (r K i) (l K i) (c K i) := by
  unfold vl
  rw [pairs_s, List.map_append, List.map_map]; rfl
/-- a list of rows of its own, from B on: each row one of its own, too, or none. -/
structure Gx (w : World) (B : Nat) (p : Option Addr) (n cp : Nat) (r : Nat → Option Addr) (l c : Nat → Nat) (f : Nat → Nat → Nat) : Prop where
  lst : (p = none ∧ n = 0 ∧ cp = 0) ∨ ∃ G vs, p = some ⟨G, 0, none⟩ ∧ B ≤ G ∧ w.heap[G]? = some (.cells vs 28 (0, 0)) ∧ n ≤ vs.size ∧ n ≤ cp ∧ cp ≤ maxLen ∧ ∀ i, i < n → vs[i]? = some (.slice (r i) (l i) (c i))
  own : ∀ i, i < n → w.ownsRow B 5 1 (.slice (r i) (l i) (c i)) (l i) (rowv (f i) (l i))
section
variable {w w' : World} {B : Nat} {p : Option Addr} {n cp : Nat} {r : Nat → Option Addr} {l c : Nat → Nat} {f : Nat → Nat → Nat}
theorem Gx.pos (h : Gx w B p n cp r l c f) (h0 : 0 < n) : ∃ G vs, p = some ⟨G, 0, none⟩ ∧ B ≤ G ∧ w.heap[G]? = some (.cells vs 28 (0, 0)) ∧ n ≤ vs.size ∧ n ≤ cp ∧ cp ≤ maxLen ∧ ∀ i, i < n → vs[i]? = some (.slice (r i) (l i) (c i)) := by
  rcases h.lst with ⟨_, h, _⟩ | h
  · omega
  · exact h
theorem own_same {w w' : World} {B : Nat} {e : TypeId} {v : Value} {n : Nat} {xs : List Value} (ho : w.ownsRow B e 1 v n xs) (hB : Below w.heap.size w w') : w'.ownsRow B e 1 v n xs := by
  refine ⟨ho.1, ?_⟩
  rcases ho.2 with h | ⟨g, cap, cur, h1, h2, h3, h4⟩
  · exact Or.inl h
  · exact Or.inr ⟨g, cap, cur, h1, h2, (hB.block g (Array.getElem?_eq_some_iff.1 h3).1).trans h3, h4⟩
theorem Gx.same (h : Gx w B p n cp r l c f) (hB : Below w.heap.size w w') : Gx w' B p n cp r l c f := ⟨by
  rcases h.lst with h | ⟨G, vs, e1, e2, e3, e4⟩
  · exact Or.inl h
  · exact Or.inr ⟨G, vs, e1, e2, (hB.block G (Array.getElem?_eq_some_iff.1 e3).1).trans e3, e4⟩, fun i hi => own_same (h.own i hi) hB⟩
/-- no row of one list lies where another row, or a list, lies. -/
theorem row_no_list {w : World} {B G : Nat} {v : Value} {n : Nat} {xs : List Value} {us : Array Value} {g : Nat} (ho : w.ownsRow B 5 1 v n xs) (hv : v.ownBlock = some g) (h : w.heap[G]? = some (.cells us 28 (0, 0))) : G ≠ g := by
  rintro rfl
  rcases ho.2 with ⟨e, _⟩ | ⟨g', cap, cur, e, _, h3, _⟩
  · rw [e] at hv; cases hv
  · rw [e] at hv
    simp only [Value.ownBlock, Option.some.injEq] at hv
    subst hv
    rw [h] at h3
    injection h3 with h3
    injection h3 with _ h4
    exact absurd h4 (by decide)
end
theorem apart_all (B K : Nat) (n : Nat → Nat) (r : Nat → Nat → Option Addr) (l c : Nat → Nat → Nat) (f : Nat → Nat → Nat → Nat) (w wr : World) (v : Value) (hO : wr.ownsRow w.heap.size 28 1 v (tot n K) (vl r l c (pairs n K))) (hBe : Below w.heap.size w wr)
    (hG : ∀ k i, k < K → i < n k → w.ownsRow B 5 1 (.slice (r k i) (l k i) (c k i)) (l k i) (rowv (f k i) (l k i))) (hd : ∀ k k' i i', k < K → k' < K → i < n k → i' < n k' → ∀ g, blk (r k i) = some g → blk (r k' i') = some g → k = k' ∧ i = i') (hB : B ≤ w.heap.size) (hn : tot n K ≤ 3000) (hl : ∀ k i, k < K → i < n k → l k i ≤ 1000000) :
    Calls Tryz.prog 21 #[v] wr fun e w' => e = .returned (.bool true) ∧ Below B w w' ∧ ∀ g, g < w.heap.size → (∀ k i, k < K → i < n k → blk (r k i) ≠ some g) → w'.heap[g]? = w.heap[g]? := by
  have h0 : tot n K = 0 → ∀ (a : Option Addr) (cap : Nat), v = .slice a 0 cap → Calls Tryz.prog 21 #[v] wr fun e w' => e = .returned (.bool true) ∧ Below B w w' ∧ ∀ g, g < w.heap.size → (∀ k i, k < K → i < n k → blk (r k i) ≠ some g) → w'.heap[g]? = w.heap[g]? := fun _ a cap e => by
    subst e
    refine (apartBytes0_any a cap wr).mono ?_
    rintro e w' ⟨rfl, h⟩
    exact ⟨rfl, (hBe.mono hB).trans (h.mono (Nat.le_trans hB hBe.size)), fun g hg _ => (h.block g (Nat.lt_of_lt_of_le hg hBe.size)).trans (hBe.block g hg)⟩
  rcases hO.2 with ⟨e, hz⟩ | ⟨A, cap, cur, e, _, hA, hnc, _, _, _⟩
  · exact h0 hz none 0 e
  · by_cases hz : tot n K = 0
    · exact h0 hz (some ⟨A, 0, none⟩) cap (by rw [e, hz])
    · subst e
      have hat : ∀ j, j < tot n K → ∃ x, (pairs n K)[j]? = some x ∧ (pairs n K).getD j (0, 0) = x ∧ x.1 < K ∧ x.2 < n x.1 ∧ j = tot n x.1 + x.2 := fun j hj => by
        have hlt : j < (pairs n K).length := by rw [pairs_len]; exact hj
        have hx := List.getElem?_eq_getElem hlt
        exact ⟨_, hx, by rw [List.getD_eq_getElem?_getD, hx]; rfl, pairs_at n K j _ hx⟩
      have hbag : Bag wr B A (tot n K) (fun j => r ((pairs n K).getD j (0, 0)).1 ((pairs n K).getD j (0, 0)).2) (fun j => if j < tot n K then l ((pairs n K).getD j (0, 0)).1 ((pairs n K).getD j (0, 0)).2 else 0) (fun j => if j < tot n K then l ((pairs n K).getD j (0, 0)).1 ((pairs n K).getD j (0, 0)).2 else 0)
          (fun j => c ((pairs n K).getD j (0, 0)).1 ((pairs n K).getD j (0, 0)).2) (fun j => f ((pairs n K).getD j (0, 0)).1 ((pairs n K).getD j (0, 0)).2) := by
        refine ⟨fun j hj => ?_, fun j hj => ?_⟩
        · obtain ⟨x, hx, hg, _⟩ := hat j hj
          have := hO.cells (g := A) rfl j (.slice (r x.1 x.2) (l x.1 x.2) (c x.1 x.2)) (by unfold vl; rw [List.getElem?_map, hx]; rfl)
          rw [Addr.add_lit, Nat.zero_add] at this
          rw [if_pos hj, hg]; exact this
        · obtain ⟨x, hx, hg, h1, h2, _⟩ := hat j hj
          rw [if_pos hj, hg]
          exact own_below (hG x.1 x.2 h1 h2) hBe
      have hsep : Sep (fun j => r ((pairs n K).getD j (0, 0)).1 ((pairs n K).getD j (0, 0)).2) (tot n K) := fun i j hi hj hne => by
        obtain ⟨x, hx, gx, x1, x2, x3⟩ := hat i hi
        obtain ⟨y, hy, gy, y1, y2, y3⟩ := hat j hj
        show blk (r ((pairs n K).getD i (0, 0)).1 ((pairs n K).getD i (0, 0)).2) = none ∨ blk (r ((pairs n K).getD i (0, 0)).1 ((pairs n K).getD i (0, 0)).2) ≠ blk (r ((pairs n K).getD j (0, 0)).1 ((pairs n K).getD j (0, 0)).2)
        rw [gx, gy]
        cases e1 : blk (r x.1 x.2) with
        | none => exact Or.inl rfl
        | some g =>
          right
          intro e
          obtain ⟨e1, e2⟩ := hd _ _ _ _ x1 y1 x2 y2 g e1 e.symm
          rw [e1, e2] at x3
          exact hne (x3.trans y3.symm)
      refine (apartBytes_bel B A (tot n K) cap _ _ _ _ wr hbag hsep (Array.getElem?_eq_some_iff.1 hA).1 (Nat.le_trans hB hBe.size) hnc hn (by omega) (fun j => ?_)).mono ?_
      · show (if j < tot n K then _ else 0) ≤ 1000000
        split
        · rename_i hj
          obtain ⟨x, hx, gx, x1, x2, x3⟩ := hat j hj
          rw [gx]; exact hl _ _ x1 x2
        · omega
      · rintro e w' ⟨rfl, h⟩
        refine ⟨rfl, (hBe.mono hB).trans h.be, fun g hg hne => (h.kp g (Nat.lt_of_lt_of_le hg hBe.size) fun j hj e => ?_).trans (hBe.block g hg)⟩
        obtain ⟨x, hx, gx, x1, x2, x3⟩ := hat j hj
        rw [gx] at e
        exact hne _ _ x1 x2 e

/-- how long the row i of the matrix k is written anew. -/
def nlen (k i : Nat) : Nat := 1 + (k * 31 + i) % 97
/-- lists of rows that are being written anew: k whole ones, and of the next m rows. -/
def Anew (K : Nat) (wr : World) (p : Nat → Option Addr) (n cp : Nat → Nat) (k m : Nat) : Prop :=
  ∀ t, t < K → 0 < n t → ∃ G vs, p t = some ⟨G, 0, none⟩ ∧ wr.heap[G]? = some (.cells vs 28 (0, 0)) ∧ n t ≤ vs.size ∧ n t ≤ cp t ∧ ∀ i, i < n t → (t < k ∨ t = k ∧ i < m) → ∃ ad cc, vs[i]? = some (.slice ad (nlen t i) cc)
theorem Anew.next {wr : World} {p : Nat → Option Addr} {n cp : Nat → Nat} {K k : Nat} (h : Anew K wr p n cp k (n k)) : Anew K wr p n cp (k + 1) 0 := fun t ht h0 => by
  obtain ⟨G, vs, e1, e2, e3, e4, e5⟩ := h t ht h0
  refine ⟨G, vs, e1, e2, e3, e4, fun i hi hc => e5 i hi ?_⟩
  rcases (show t < k ∨ t = k by omega) with h1 | h1
  · exact Or.inl h1
  · exact Or.inr ⟨h1, by rw [← h1]; exact hi⟩
theorem Anew.same {wr w' : World} {p : Nat → Option Addr} {n cp : Nat → Nat} {K k m : Nat} (h : Anew K wr p n cp k m) (hB : Below wr.heap.size wr w') : Anew K w' p n cp k m := fun t ht h0 => by
  obtain ⟨G, vs, e1, e2, e3⟩ := h t ht h0
  exact ⟨G, vs, e1, (hB.block G (Array.getElem?_eq_some_iff.1 e2).1).trans e2, e3⟩
theorem Anew.set {wr : World} {p : Nat → Option Addr} {n cp : Nat → Nat} {K k m G : Nat} (h : Anew K wr p n cp k m) (hp : p k = some ⟨G, 0, none⟩) (hg : ∀ t, t < K → t ≠ k → 0 < n t → p t ≠ p k) (hm : m < n k) (ad : Option Addr) (cc : Nat) : Anew K (wr.setCell ⟨G, m, none⟩ (.slice ad (nlen k m) cc)) p n cp k (m + 1) := fun t ht h0 => by
  obtain ⟨G', vs, e1, e2, e3, e4, e5⟩ := h t ht h0
  by_cases e : t = k
  · subst e
    rw [hp] at e1
    simp only [Option.some.injEq, Addr.mk.injEq, and_true] at e1
    subst e1
    refine ⟨G, vs.setIfInBounds m (.slice ad (nlen t m) cc), hp, heap_setCell_same wr G m vs _ _ e2, by simpa using e3, e4, fun i hi hc => ?_⟩
    rw [Array.getElem?_setIfInBounds]
    by_cases e : m = i
    · subst e; rw [if_pos rfl, if_pos (by omega)]; exact ⟨ad, cc, rfl⟩
    · rw [if_neg e]; exact e5 i hi (by omega)
  · have hne : G' ≠ G := fun e6 => hg t ht e h0 (by rw [e1, hp, e6])
    exact ⟨G', vs, e1, (Below.heap_setCell wr ⟨G, m, none⟩ _ G' hne).trans e2, e3, e4, fun i hi hc => e5 i hi (by omega)⟩

end Go.Proofs.YtjlmajopfeplpaaGreat.Ar
