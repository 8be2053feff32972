import Derived.Test.YtjnfghhochcpaaaGq
namespace Go.Proofs.Ytjnfghhochcpaaa
open Go.RowKit Go.Shelf

/-- a matrix in memory of its own, or none, without rows. -/
def Go_ (w : World) (B : Nat) (a : Option Addr) (n cap : Nat) (b l c : Nat → Nat) (f : Nat → Nat → Nat) : Prop := Mt.Bm f ∧ ((a = none ∧ n = 0 ∧ cap = 0) ∨ ∃ G, a = some ⟨G, 0, none⟩ ∧ Gr w B G n cap b l c f)
section
variable {w w' : World} {B n cap : Nat} {a : Option Addr} {b l c : Nat → Nat} {f : Nat → Nat → Nat}
theorem Go_.pos (h : Go_ w B a n cap b l c f) (hn : 0 < n) : ∃ G, a = some ⟨G, 0, none⟩ ∧ Gr w B G n cap b l c f := by
  rcases h.2 with h | h
  · omega
  · exact h
theorem Go_.same (h : Go_ w B a n cap b l c f) (hB : Below w.heap.size w w') : Go_ w' B a n cap b l c f := ⟨h.1, by
  rcases h.2 with h | ⟨G, e, h⟩
  · exact Or.inl h
  · exact Or.inr ⟨G, e, h.same hB⟩⟩
theorem Go_.rd (h : Go_ w B a n cap b l c f) : Rd w a n cap (fun i => some ⟨b i, 0, none⟩) l c f := by
  rcases h with ⟨hb, ⟨rfl, rfl, rfl⟩ | ⟨G, rfl, h⟩⟩
  · exact ⟨Nat.le_refl _, by unfold maxLen; omega, hb, fun _ => ⟨rfl, rfl⟩, fun _ e => (by cases e), fun _ e => (by cases e), fun i hi => absurd hi (Nat.not_lt_zero i)⟩
  · exact h.rd
theorem Go_.mono (h : Go_ w B a n cap b l c f) {B' : Nat} (hB : B' ≤ B) : Go_ w B' a n cap b l c f := ⟨h.1, by
  rcases h.2 with h | ⟨G, e, h⟩
  · exact Or.inl h
  · exact Or.inr ⟨G, e, h.mono hB⟩⟩
theorem Gr.go {G : Nat} (h : Gr w B G n cap b l c f) : Go_ w B (some ⟨G, 0, none⟩) n cap b l c f := ⟨h.bm, Or.inr ⟨G, rfl, h⟩⟩
theorem go_none (w : World) (B : Nat) (b l c : Nat → Nat) : Go_ w B none 0 0 b l c (fun _ _ => 0) := ⟨fun _ _ => (by omega : 0 < 256), Or.inl ⟨rfl, rfl, rfl⟩⟩
end

/-- rows that are put into a list, one behind the other. -/
structure Pr (w : World) (B : Nat) (a : Option Addr) (k cap : Nat) (b l c : Nat → Nat) (f : Nat → Nat → Nat) : Prop where
  own : w.ownsRow B 23 1 (.slice a k cap) k ((List.range k).map fun i => Value.slice (some ⟨b i, 0, none⟩) (l i) (c i))
  row : ∀ i, i < k → Bl w (b i) (l i) (c i) (f i)
  lc : ∀ i, i < k → l i ≤ c i ∧ c i ≤ maxLen
  lo : ∀ i, i < k → B ≤ b i
  inj : ∀ i j, i < k → j < k → b i = b j → i = j
  bm : Mt.Bm f
  up : ∀ i, i < k → Pf.Up (f i) (l i)
section
variable {w w' : World} {B k cap : Nat} {a : Option Addr} {b l c : Nat → Nat} {f : Nat → Nat → Nat}
theorem own_ne_bl {w : World} {B g n cap x m cp : Nat} {xs : List Value} {h : Nat → Nat} (ho : w.ownsRow B 23 1 (.slice (some ⟨g, 0, none⟩) n cap) n xs) (hb : Bl w x m cp h) : x ≠ g := by
  rintro rfl
  obtain ⟨h1, h2 | ⟨g', cap', cur, e, _, hh, _⟩⟩ := ho
  · exact absurd h2.1 (by simp)
  · simp only [Value.slice.injEq, Option.some.injEq, Addr.mk.injEq, and_true, true_and] at e
    obtain ⟨rfl, rfl⟩ := e
    obtain ⟨vs, h1, _⟩ := hb
    rw [hh] at h1
    injection h1 with h1
    injection h1 with _ h2
    exact absurd h2 (by decide)
theorem Pr.go (h : Pr w B a k cap b l c f) : Go_ w B a k cap b l c f := by
  refine ⟨h.bm, ?_⟩
  obtain ⟨h1, ⟨e, h2⟩ | ⟨g', cap', cur, e, hg, hh, hnc, hcm, hs, ht⟩⟩ := h.own
  · left
    simp only [Value.slice.injEq] at e
    exact e
  · simp only [Value.slice.injEq, true_and] at e
    obtain ⟨rfl, rfl⟩ := e
    refine Or.inr ⟨g', rfl, ⟨cur, hh, by simpa using hs, fun i hi => ?_⟩, h.row, h.lc, ⟨hnc, hcm⟩, ⟨hg, h.lo⟩, h.inj, h.bm, h.up⟩
    have : (cur.toList.take (k * 1))[i]? = some (.slice (some ⟨b i, 0, none⟩) (l i) (c i)) := by rw [ht]; simp [hi]
    rw [List.getElem?_take, if_pos (by omega), Array.getElem?_toList] at this
    exact this
theorem pr_none (w : World) (B : Nat) (b l c : Nat → Nat) : Pr w B none 0 0 b l c (fun _ _ => 0) :=
  ⟨World.ownsRow_nil _ _ _ _, fun i hi => absurd hi (Nat.not_lt_zero i), fun i hi => absurd hi (Nat.not_lt_zero i), fun i hi => absurd hi (Nat.not_lt_zero i), fun i _ hi => absurd hi (Nat.not_lt_zero i), fun _ _ => (by omega : 0 < 256), fun i hi => absurd hi (Nat.not_lt_zero i)⟩
/-- one row more: made in w1, put in w2. -/
theorem Pr.step {w1 w2 : World} {g ll cc G' cap' : Nat} {x : Nat → Nat} (h : Pr w B a k cap b l c f) (hW : Below w.heap.size w w1) (hx : Bl w1 g ll cc x) (hg : w.heap.size ≤ g) (hB : B ≤ w.heap.size) (h1 : ll ≤ cc ∧ cc ≤ maxLen) (hy : Pf.By x) (hu : Pf.Up x ll)
    (hown : w2.ownsRow B 23 1 (.slice (some ⟨G', 0, none⟩) (k + 1) cap') (k + 1) (((List.range k).map fun i => Value.slice (some ⟨b i, 0, none⟩) (l i) (c i)) ++ [.slice (some ⟨g, 0, none⟩) ll cc]))
    (hc : a = some ⟨G', 0, none⟩ ∧ cap' = cap ∧ w1.grownBy w2 (some G') ∨ w1.heap.size ≤ G' ∧ w1.grownBy w2 none) :
    Pr w2 B (some ⟨G', 0, none⟩) (k + 1) cap' (fun i => if i = k then g else b i) (fun i => if i = k then ll else l i) (fun i => if i = k then cc else c i) (fun i j => if i = k then x j else f i j) := by
  have hlt : ∀ i, i < k → b i < w.heap.size := fun i hi => (h.row i hi).lt
  have hkeep : ∀ y m cp (z : Nat → Nat), Bl w1 y m cp z → Bl w2 y m cp z := fun y m cp z hz => by
    refine hz.kept ?_
    rcases hc with ⟨e, _, hgr⟩ | ⟨hG, hgr⟩
    · refine hgr.block y hz.lt (fun e2 => ?_)
      injection e2 with e2
      subst e
      exact own_ne_bl (own_below h.own hW) hz e2
    · exact hgr.block y hz.lt (by simp)
  refine ⟨?_, fun i hi => ?_, fun i hi => ?_, fun i hi => ?_, fun i j hi hj e => ?_, fun i j => ?_, fun i hi => ?_⟩
  · rw [List.range_succ, List.map_append]
    have e1 : ((List.range k).map fun i => Value.slice (some ⟨if i = k then g else b i, 0, none⟩) (if i = k then ll else l i) (if i = k then cc else c i)) = (List.range k).map fun i => Value.slice (some ⟨b i, 0, none⟩) (l i) (c i) :=
      List.map_congr_left fun i hi => by
        have := List.mem_range.1 hi
        rw [if_neg (by omega), if_neg (by omega), if_neg (by omega)]
    rw [e1]
    simp only [List.map_cons, List.map_nil, if_true]
    exact hown
  · by_cases e : i = k
    · subst e
      simp only [if_true]
      exact hkeep _ _ _ _ hx
    · simp only [if_neg e]
      exact hkeep _ _ _ _ ((h.row i (by omega)).kept (hW.block _ (hlt i (by omega))))
  · by_cases e : i = k
    · subst e; simp only [if_true]; exact h1
    · simp only [if_neg e]; exact h.lc i (by omega)
  · by_cases e : i = k
    · subst e; simp only [if_true]; omega
    · simp only [if_neg e]; exact h.lo i (by omega)
  · have e' : (if i = k then g else b i) = (if j = k then g else b j) := e
    by_cases e1 : i = k <;> by_cases e2 : j = k
    · omega
    · rw [if_pos e1, if_neg e2] at e'; have := hlt j (by omega); omega
    · rw [if_neg e1, if_pos e2] at e'; have := hlt i (by omega); omega
    · rw [if_neg e1, if_neg e2] at e'; exact h.inj i j (by omega) (by omega) e'
  · show (if i = k then x j else f i j) < 256
    split
    · exact hy j
    · exact h.bm i j
  · by_cases e : i = k
    · subst e; simp only [if_true]; exact hu
    · simp only [if_neg e]; exact h.up i (by omega)
end
theorem Pr.congr {w : World} {B k cap : Nat} {a : Option Addr} {b l c l' c' : Nat → Nat} {f f' : Nat → Nat → Nat} (h : Pr w B a k cap b l c f) (hl : ∀ i, i < k → l i = l' i) (hc : ∀ i, i < k → c i = c' i) (hf : Mt.Bm f') (e : ∀ i j, i < k → f i j = f' i j) : Pr w B a k cap b l' c' f' := by
  have e1 : ((List.range k).map fun i => Value.slice (some ⟨b i, 0, none⟩) (l i) (c i)) = (List.range k).map fun i => Value.slice (some ⟨b i, 0, none⟩) (l' i) (c' i) :=
    List.map_congr_left fun i hi => by
      have := List.mem_range.1 hi
      rw [hl i this, hc i this]
  refine ⟨e1 ▸ h.own, fun i hi => ?_, fun i hi => by rw [← hl i hi, ← hc i hi]; exact h.lc i hi, h.lo, h.inj, hf, fun i hi j hj => ?_⟩
  · rw [← hl i hi, ← hc i hi]; exact (h.row i hi).congr fun j _ => e i j hi
  · rw [← e i j hi]; exact h.up i hi j (by rw [hl i hi]; exact hj)

theorem below_apn {B g cap cap' : Nat} {a : Option Addr} {w0 w w' : World} (hB : Below B w0 w) (hw : B ≤ w.heap.size) (hc : a = some ⟨g, 0, none⟩ ∧ cap' = cap ∧ w.grownBy w' (some g) ∨ w.heap.size ≤ g ∧ w.grownBy w' none) (ha : ∀ g, a = some ⟨g, 0, none⟩ → B ≤ g) : Below B w0 w' := by
  rcases hc with ⟨e, _, hg⟩ | ⟨_, hg⟩
  · exact hB.grown hg hw (fun k e2 => by cases e2; exact ha g e)
  · exact hB.grown hg hw (fun k e2 => by cases e2)

end Go.Proofs.Ytjnfghhochcpaaa
