import Derived.Laws.AppendOwnNone
import Derived.Deep.RegionLaw
import Derived.Test.YtkejabhjlflknaaGreatMg16
namespace Go.Proofs.YtkejabhjlflknaaGreat
open Go.RowKit Go.Shelf

theorem rowv_cpy (h g : Nat → Nat) (n m : Nat) : rowv h n ++ rowv g m = rowv (cpy n m g h) (n + m) := by
  apply List.ext_getElem?
  intro i
  by_cases c : i < n
  · rw [List.getElem?_append_left (by rw [rowv_len]; exact c), rowv_get c, rowv_get (by omega)]
    unfold cpy; rw [if_neg (by omega)]
  · rw [List.getElem?_append_right (by rw [rowv_len]; omega), rowv_len]
    by_cases d : i < n + m
    · rw [rowv_get (by omega), rowv_get d]
      unfold cpy; rw [if_pos (by omega)]
    · rw [List.getElem?_eq_none (by rw [rowv_len]; omega), List.getElem?_eq_none (by rw [rowv_len]; omega)]
theorem run_append_sl (w : World) (ty : TypeId) (B : Nat) (a : Option Addr) (n cap : Nat) (h : Nat → Nat) (hR : Rq w B a n cap h) (ain : Option Addr) (m cin : Nat) (g : Nat → Nat) (hS : Sl w ain m cin g) (hl : n + m ≤ 1000000000) (hB : B ≤ w.heap.size) :
    ∃ a' c' w', (Builtin.append_ #[50, 50] ty #[.slice a n cap, .slice ain m cin]).run Tryz.prog w = .ok (.slice a' (n + m) c') w' ∧ Rq w' B a' (n + m) c' (cpy n m g h) ∧
      (∀ k, a' = some ⟨k, 0, none⟩ → a = some ⟨k, 0, none⟩ ∨ w.heap.size ≤ k) ∧ ∃ row, w.grownBy w' row ∧ ∀ k, row = some k → a = some ⟨k, 0, none⟩ := by
  obtain ⟨i0, hi, hz0, hz1, hz2⟩ := info_parts Tryz.infoU8
  by_cases hm : m = 0
  · subst hm
    have hrun : (Builtin.append_ #[50, 50] ty #[.slice a n cap, .slice ain 0 cin]).run Tryz.prog w = .ok (.slice a n cap) w := by
      have hn : n ≤ cap := by
        rcases hR with ⟨_, rfl, rfl⟩ | ⟨_, _, _, _, h3, _⟩
        · exact Nat.le_refl _
        · exact h3
      have hfc : (Builtin.firstCells i0.size 0 (.slice ain 0 cin)).run Tryz.prog w = .ok #[] w := by
        rw [hz1]
        cases ain with
        | none => exact run_firstCells_none w 1 0 0 cin
        | some ad => exact run_firstCells_some w 1 0 ad 0 cin [] rfl (fun j v hj => by simp at hj)
      cases a with
      | none =>
        rcases hR with ⟨_, rfl, rfl⟩ | ⟨_, h, _⟩
        · simp [Builtin.append_, run_underlying Tryz.underlying50, Go.sizeOf, typeInfo, hi, Builtin.lenOf, hfc, storeCells]
        · cases h
      | some ad =>
        simp [Builtin.append_, run_underlying Tryz.underlying50, Go.sizeOf, typeInfo, hi, Builtin.lenOf, hfc, hn, storeCells]
    exact ⟨a, cap, w, hrun, by rw [cpy_zero]; exact hR, fun k e => Or.inl e, none, grownBelow (Below.refl _ _) none, fun k e => by cases e⟩
  · obtain ⟨b, o, rfl, _⟩ := hS.at_ (k := 0) (by omega)
    obtain ⟨k, c', w', hr, h2, h3, h4⟩ := run_append_bag (P := Tryz.prog) w 50 ty B 5 i0 (.int .u8 0) 1 Tryz.underlying50 hi hz0 hz1 hz2 rfl a n cap (rowv h n) hR.owns ⟨b, o, none⟩ m cin (rowv g m) (rowv_len _ _) (Sl.reads hS _ rfl) (rowv_ones _ _) (by omega) (by unfold maxLen; omega) (by omega) hB
    rw [rowv_cpy] at h2
    refine ⟨_, c', w', hr, Rq.of_owns h2, fun k' e => ?_, ?_⟩
    · cases e
      rcases h3 with ⟨e, _, _⟩ | ⟨e, _⟩
      · exact Or.inl e
      · exact Or.inr e
    · rcases h3 with ⟨e, _, hg⟩ | ⟨_, hg⟩
      · exact ⟨some k, hg, fun k' e' => by cases e'; exact e⟩
      · exact ⟨none, hg, fun k' e' => by cases e'⟩
theorem wpList_append_sl {w : World} {ops : Array Oper} {rest : List Oper} {o : Oper} {act : Act} {Q : Exit → Act → World → Prop} (hgd : o.guard = none) (s x : Operand)
    (ho : o.op = .call { callee := .builtin .append, args := #[s, x], argTypes := #[50, 50] })
    (B : Nat) (a : Option Addr) (n cap : Nat) (h : Nat → Nat) (hs : act.eval s = .slice a n cap) (hR : Rq w B a n cap h) (ain : Option Addr) (m cin : Nat) (g : Nat → Nat) (hx : act.eval x = .slice ain m cin) (hS : Sl w ain m cin g) (hl : n + m ≤ 1000000000) (hB : B ≤ w.heap.size)
    (K : ∀ a' c' w', Hid (Rq w' B a' (n + m) c' (cpy n m g h)) → Hid (∀ k, a' = some ⟨k, 0, none⟩ → a = some ⟨k, 0, none⟩ ∨ w.heap.size ≤ k) → Hid (∃ row, w.grownBy w' row ∧ ∀ k, row = some k → a = some ⟨k, 0, none⟩) → wpList Tryz.prog ops Q rest (act.put o.dst (.slice a' (n + m) c')) w') : wpList Tryz.prog ops Q (o :: rest) act w := by
  refine wpList_plain hgd fun _ hK => ?_
  obtain ⟨a', c', w', hr, h2, h3, h4⟩ := run_append_sl w o.type B a n cap h hR ain m cin g hS hl hB
  unfold Oper.wp execOp
  simp only [ho, resolve, invoke, builtin, Sem.run_bind, Sem.run_pure, Result.andThen_ok, List.map_toArray, List.map_cons, List.map_nil, hs, hx, hr]
  exact hK _ _ (K a' c' w' h2 h3 h4)
end Go.Proofs.YtkejabhjlflknaaGreat

namespace Go.Proofs.YtkejabhjlflknaaGreat.Ly
open Go.RowKit Go.Shelf

theorem btr {a b c : World} (h : Below a.heap.size a b) (k : Below b.heap.size b c) : Below a.heap.size a c := h.trans (k.mono h.size)
/-- rows of one's own, or none, in a list of one's own: no two in one block. -/
structure Ob (w : World) (B G N : Nat) (r : Nat → Option Addr) (l c : Nat → Nat) (f : Nat → Nat → Nat) : Prop where
  blk : ∃ vs, w.heap[G]? = some (.cells vs 50 (0, 0)) ∧ vs.size = N ∧ ∀ i, i < N → vs[i]? = some (.slice (r i) (l i) (c i))
  lo : B ≤ G
  row : ∀ i, i < N → Rq w B (r i) (l i) (c i) (f i)
  sep : ∀ i j, i < N → j < N → ∀ k, r i = some ⟨k, 0, none⟩ → r j = some ⟨k, 0, none⟩ → i = j
section
variable {w w' : World} {B G N : Nat} {r : Nat → Option Addr} {l c : Nat → Nat} {f : Nat → Nat → Nat}
theorem Ob.lt (h : Ob w B G N r l c f) : G < w.heap.size := by
  obtain ⟨vs, h1, _⟩ := h.blk
  exact (Array.getElem?_eq_some_iff.1 h1).1
theorem Ob.same (h : Ob w B G N r l c f) (hB : Below w.heap.size w w') : Ob w' B G N r l c f := by
  obtain ⟨vs, h1, h2, h3⟩ := h.blk
  exact ⟨⟨vs, (hB.block G h.lt).trans h1, h2, h3⟩, h.lo, fun i hi => (h.row i hi).same hB, h.sep⟩
theorem Ob.cell (h : Ob w B G N r l c f) {i : Nat} (hi : i < N) : w.cell? ⟨G, i, none⟩ = some (.slice (r i) (l i) (c i)) := by
  obtain ⟨vs, h1, h2, h3⟩ := h.blk
  rw [cell_of_row w G i vs _ _ h1]; exact h3 i hi
theorem Ob.ne (h : Ob w B G N r l c f) {g n cap : Nat} {x : Nat → Nat} (hb : Bl w g n cap x) : g ≠ G := by
  intro e
  obtain ⟨vs, h1, _⟩ := h.blk
  obtain ⟨vs', k1, _⟩ := hb
  rw [e, h1] at k1
  injection k1 with k1
  injection k1 with _ k2
  exact absurd k2 (by decide)
/-- one row put on. -/
theorem Ob.put (h : Ob w B G N r l c f) (hB : B ≤ w.heap.size) {t : Nat} (ht : t < N) {row : Option Nat} (hg : w.grownBy w' row) (hrow : ∀ k, row = some k → r t = some ⟨k, 0, none⟩) {a' : Option Addr} {n' c' : Nat} {x : Nat → Nat} (hR : Rq w' B a' n' c' x) (hn : ∀ k, a' = some ⟨k, 0, none⟩ → r t = some ⟨k, 0, none⟩ ∨ w.heap.size ≤ k) :
    Ob (w'.setCell ⟨G, t, none⟩ (.slice a' n' c')) B G N (fun i => if i = t then a' else r i) (fun i => if i = t then n' else l i) (fun i => if i = t then c' else c i) (fun i => if i = t then x else f i) := by
  obtain ⟨vs, h1, h2, h3⟩ := h.blk
  have hGrow : row ≠ some G := fun e => by
    rcases h.row t ht with ⟨e1, _⟩ | ⟨g, e1, _, hb, _⟩
    · rw [e1] at hrow; exact absurd (hrow G e) (by simp)
    · have := hrow G e
      rw [e1] at this
      have hgg : g = G := by simpa using this
      exact h.ne hb hgg
  have hG1 : w'.heap[G]? = some (.cells vs 50 (0, 0)) := (hg.block G h.lt (fun e => hGrow e.symm)).trans h1
  have hblk := heap_setCell_same w' G t vs 50 (.slice a' n' c') hG1
  have hoth : ∀ k, k ≠ G → (w'.setCell ⟨G, t, none⟩ (.slice a' n' c')).heap[k]? = w'.heap[k]? := fun k hk => Below.heap_setCell w' ⟨G, t, none⟩ _ k hk
  have hnG : ∀ {g n cap : Nat} {x : Nat → Nat}, Bl w' g n cap x → g ≠ G := fun hb e => by
    obtain ⟨vs', k1, _⟩ := hb
    rw [e, hG1] at k1
    injection k1 with k1
    injection k1 with _ k2
    exact absurd k2 (by decide)
  refine ⟨⟨_, hblk, by simp [h2], fun i hi => ?_⟩, h.lo, fun i hi => ?_, fun i j hi hj k e1 e2 => ?_⟩
  · rw [Array.getElem?_setIfInBounds]
    by_cases e : t = i
    · subst e
      rw [if_pos rfl, if_pos (by omega), if_pos rfl, if_pos rfl, if_pos rfl]
    · rw [if_neg e, if_neg (fun h => e h.symm), if_neg (fun h => e h.symm), if_neg (fun h => e h.symm)]; exact h3 i hi
  · by_cases e : i = t
    · simp only [if_pos e]
      exact hR.kept fun g e1 hl => hoth g (by
        rcases hR with ⟨e2, _⟩ | ⟨g', e2, _, hb, _⟩
        · rw [e2] at e1; cases e1
        · rw [e2] at e1; cases e1; exact hnG hb)
    · simp only [if_neg e]
      have hk1 : Rq w' B (r i) (l i) (c i) (f i) := (h.row i hi).grown hg (fun g e1 e2 => e (h.sep i t hi ht g e1 (hrow g e2.symm)))
      exact hk1.kept fun g e1 hl => hoth g (by
        rcases hk1 with ⟨e2, _⟩ | ⟨g', e2, _, hb, _⟩
        · rw [e2] at e1; cases e1
        · rw [e2] at e1; cases e1; exact hnG hb)
  · have hlt : ∀ i, i < N → ∀ k, r i = some ⟨k, 0, none⟩ → k < w.heap.size := fun i hi k e => ((h.row i hi).lt k e).2
    by_cases x1 : i = t <;> by_cases x2 : j = t
    · omega
    · simp only [if_pos x1, if_neg x2] at e1 e2
      rcases hn k e1 with q | q
      · exact absurd (h.sep j t hj ht k e2 q) x2
      · have := hlt j hj k e2; omega
    · simp only [if_neg x1, if_pos x2] at e1 e2
      rcases hn k e2 with q | q
      · exact absurd (h.sep i t hi ht k e1 q) x1
      · have := hlt i hi k e1; omega
    · simp only [if_neg x1, if_neg x2] at e1 e2
      exact h.sep i j hi hj k e1 e2
theorem Ob.congr {l' : Nat → Nat} {f' : Nat → Nat → Nat} (h : Ob w B G N r l c f) (hl : ∀ i, i < N → l i = l' i) (hf : ∀ i j, i < N → j < l i → f i j = f' i j) : Ob w B G N r l' c f' := by
  obtain ⟨vs, h1, h2, h3⟩ := h.blk
  refine ⟨⟨vs, h1, h2, fun i hi => by rw [← hl i hi]; exact h3 i hi⟩, h.lo, fun i hi => ?_, h.sep⟩
  rw [← hl i hi]
  exact (h.row i hi).congr fun j hj => hf i j hi hj
end
theorem keep_list {w w6 : World} {B n c X : Nat} {a : Option Addr} {h : Nat → Nat} {row : Option Nat} {vs : Array Value} (hR : Rq w B a n c h) (hg : w.grownBy w6 row) (hrow : ∀ k, row = some k → a = some ⟨k, 0, none⟩) (hX : w.heap[X]? = some (.cells vs 50 (0, 0))) : w6.heap[X]? = w.heap[X]? :=
  hg.block X (Array.getElem?_eq_some_iff.1 hX).1 fun e => by
    have e1 := hrow X e.symm
    rcases hR with ⟨e2, _⟩ | ⟨g, e2, _, ⟨vs', k1, _⟩, _⟩
    · rw [e2] at e1; cases e1
    · rw [e2] at e1
      cases e1
      rw [hX] at k1
      injection k1 with k1
      injection k1 with _ k2
      exact absurd k2 (by decide)
theorem step_append_sl {ops : Array Oper} {o : Oper} {a : Act} {w : World} {K : Act → World → Prop} {Q : Exit → Act → World → Prop} {E : Prop} (hgd : o.guard = none) (s x : Operand)
    (ho : o.op = .call { callee := .builtin .append, args := #[s, x], argTypes := #[50, 50] })
    (B : Nat) (p : Option Addr) (n cap : Nat) (h : Nat → Nat) (hs : a.eval s = .slice p n cap) (hR : Rq w B p n cap h) (ain : Option Addr) (m cin : Nat) (g : Nat → Nat) (hx : a.eval x = .slice ain m cin) (hS : Sl w ain m cin g) (hl : n + m ≤ 1000000000) (hB : B ≤ w.heap.size)
    (hk : ∀ a' c' w', Rq w' B a' (n + m) c' (cpy n m g h) → (∀ k, a' = some ⟨k, 0, none⟩ → p = some ⟨k, 0, none⟩ ∨ w.heap.size ≤ k) → (∃ row, w.grownBy w' row ∧ ∀ k, row = some k → p = some ⟨k, 0, none⟩) → K (a.put o.dst (.slice a' (n + m) c')) w') :
    if Region.wanted o (yielded ops a.tmps) = true then Oper.wp Tryz.prog o a w K Q else E := by
  have hw : Region.wanted o (yielded ops a.tmps) = true := by simp [Region.wanted, hgd]
  rw [if_pos hw]
  obtain ⟨a', c', w', hr, h2, h3, h4⟩ := run_append_sl w o.type B p n cap h hR ain m cin g hS hl hB
  unfold Oper.wp execOp
  simp only [ho, resolve, invoke, builtin, Sem.run_bind, Sem.run_pure, Result.andThen_ok, List.map_toArray, List.map_cons, List.map_nil, hs, hx, hr]
  exact hk a' c' w' h2 h3 h4
end Go.Proofs.YtkejabhjlflknaaGreat.Ly
