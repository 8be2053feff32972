import Derived.Deep.RegionLaw
import Derived.Test.YtkejabhjlflknaaGreatMg7
namespace Go.Proofs.YtkejabhjlflknaaGreat
open Go.RowKit Go.Shelf

/-- a byte written: whichever. -/
theorem Bl.setX {w : World} {g n cap : Nat} {h : Nat → Nat} (hb : Bl w g n cap h) {j : Nat} (hj : j < n) (hy : Pf.By h) (hu : Pf.Up h n) (X : Int) :
    ∃ x, Bl (w.setCell ⟨g, j, none⟩ (.int .u8 (X % 256))) g n cap x ∧ Pf.By x ∧ Pf.Up x n := by
  obtain ⟨v, hv, e⟩ : ∃ v : Nat, v < 256 ∧ X % 256 = (v : Int) := ⟨(X % 256).toNat, by omega, by omega⟩
  rw [e]
  refine ⟨_, hb.set hj v, fun i => ?_, fun i hi => ?_⟩
  · show (if i = j then v else h i) < 256
    split
    · exact hv
    · exact hy i
  · show (if i = j then v else h i) = 0
    rw [if_neg (by omega)]; exact hu i hi

/-- append of one byte to a row without room: a new row. -/
theorem run_append_full {w : World} {g n : Nat} {h : Nat → Nat} (ty : TypeId) (hb : Bl w g n n h) (ad : Addr) (c v : Nat) (hn : n ≤ 1000000) (hc : ∀ j u, [Value.int .u8 (v : Nat)][j]? = some u → w.cell? (ad.add j) = some u) :
    ∃ g' cap' w', (Builtin.append_ #[50, 50] ty #[.slice (some ⟨g, 0, none⟩) n n, .slice (some ad) 1 c]).run Tryz.prog w = .ok (.slice (some ⟨g', 0, none⟩) (n + 1) cap') w' ∧
      Bl w' g' (n + 1) cap' (fun i => if i = n then v else h i) ∧ (n + 1 ≤ cap' ∧ cap' ≤ maxLen) ∧ w.heap.size ≤ g' ∧ w.grownBy w' none := by
  obtain ⟨i0, hi, hz0, hz1, hz2⟩ := info_parts Tryz.infoU8
  obtain ⟨cur, k1, k2, k3⟩ := hb
  have hown : w.ownsRow 0 5 1 (.slice (some ⟨g, 0, none⟩) n n) n cur.toList :=
    ⟨by simp [k2], Or.inr ⟨g, n, cur, rfl, Nat.zero_le _, k1, Nat.le_refl _, by unfold maxLen; omega, by omega, by rw [List.take_of_length_le]; simp [k2]⟩⟩
  obtain ⟨g', cap', w', hr, h2, h3, h4⟩ := run_append_bag (P := Tryz.prog) w 50 ty 0 5 i0 (.int .u8 0) 1 Tryz.underlying50 hi hz0 hz1 hz2 rfl (some ⟨g, 0, none⟩) n n cur.toList hown ad 1 c [.int .u8 (v : Nat)] rfl hc (fun u hu => by rw [List.mem_singleton.1 hu]; rfl) (by omega) (by unfold maxLen; omega) (by omega) (Nat.zero_le _)
  have hcap : n + 1 ≤ cap' ∧ cap' ≤ maxLen := by
    rcases h2.2 with ⟨e, _⟩ | ⟨_, _, _, e, _, _, q1, q2, _⟩
    · exact absurd e (by simp)
    · simp only [Value.slice.injEq, true_and] at e
      obtain ⟨_, rfl⟩ := e
      exact ⟨q1, q2⟩
  refine ⟨g', cap', w', hr, Bl.of_owns h2 fun i hi => ?_, hcap, ?_⟩
  · by_cases e : i = n
    · subst e
      rw [if_pos rfl, List.getElem?_append_right (by simp [k2])]
      simp [k2]
    · have hlt : i < n := by omega
      rw [if_neg e, List.getElem?_append_left (by simp [k2]; exact hlt), Array.getElem?_toList]
      exact k3 i hlt
  · rcases h3 with ⟨_, e, _⟩ | h3
    · omega
    · exact h3
theorem step_append_full {ops : Array Oper} {o : Oper} {a : Act} {w : World} {K : Act → World → Prop} {Q : Exit → Act → World → Prop} {E : Prop} (hgd : o.guard = none) (s x : Operand)
    (ho : o.op = .call { callee := .builtin .append, args := #[s, x], argTypes := #[50, 50] })
    {g n : Nat} {h : Nat → Nat} (hb : Bl w g n n h) (hs : a.eval s = .slice (some ⟨g, 0, none⟩) n n) (ad : Addr) (c v : Nat) (hx : a.eval x = .slice (some ad) 1 c) (hn : n ≤ 1000000) (hc : ∀ j u, [Value.int .u8 (v : Nat)][j]? = some u → w.cell? (ad.add j) = some u)
    (hk : ∀ g' cap' w', Bl w' g' (n + 1) cap' (fun i => if i = n then v else h i) → (n + 1 ≤ cap' ∧ cap' ≤ maxLen) → w.heap.size ≤ g' → w.grownBy w' none → K (a.put o.dst (.slice (some ⟨g', 0, none⟩) (n + 1) cap')) w') :
    if Region.wanted o (yielded ops a.tmps) = true then Oper.wp Tryz.prog o a w K Q else E := by
  have hw : Region.wanted o (yielded ops a.tmps) = true := by simp [Region.wanted, hgd]
  rw [if_pos hw]
  obtain ⟨g', cap', w', hr, h2, h3, h4, h5⟩ := run_append_full o.type hb ad c v hn hc
  unfold Oper.wp execOp
  simp only [ho, resolve, invoke, builtin, Sem.run_bind, Sem.run_pure, Result.andThen_ok, List.map_toArray, List.map_cons, List.map_nil, hs, hx, hr]
  exact hk g' cap' w' h2 h3 h4 h5
/-- one row's place in the list gets another row. -/
theorem Gr.reput {w : World} {B G n cap : Nat} {b l c : Nat → Nat} {f : Nat → Nat → Nat} (h : Gr w B G n cap b l c f) {t : Nat} (ht : t < n) {g ll cc : Nat} {x : Nat → Nat} (hx : Bl w g ll cc x) (h1 : ll ≤ cc ∧ cc ≤ maxLen) (hy : Pf.By x) (hu : Pf.Up x ll) :
    Rd (w.setCell ⟨G, t, none⟩ (.slice (some ⟨g, 0, none⟩) ll cc)) (some ⟨G, 0, none⟩) n cap (fun i => if i = t then some ⟨g, 0, none⟩ else some ⟨b i, 0, none⟩) (fun i => if i = t then ll else l i) (fun i => if i = t then cc else c i) (fun i j => if i = t then x j else f i j) := by
  obtain ⟨vs, k1, k2, k3⟩ := h.blk
  have hgG : g ≠ G := by
    intro e
    obtain ⟨vs', h1', _⟩ := hx
    rw [e, k1] at h1'
    injection h1' with h1'
    injection h1' with _ h2
    exact absurd h2 (by decide)
  have hoth : ∀ k, k ≠ G → (w.setCell ⟨G, t, none⟩ (.slice (some ⟨g, 0, none⟩) ll cc)).heap[k]? = w.heap[k]? := fun k hk => Below.heap_setCell w ⟨G, t, none⟩ _ k hk
  have hblk := heap_setCell_same w G t vs 50 (.slice (some ⟨g, 0, none⟩) ll cc) k1
  refine ⟨h.nc.1, h.nc.2, fun i j => ?_, fun e => (by cases e), fun ad e _ => (by cases e; rfl), fun ad e i hi => ?_, fun i hi => ?_⟩
  · show (if i = t then x j else f i j) < 256
    split
    · exact hy j
    · exact h.bm i j
  · cases e
    show World.cell? _ ⟨G, 0 + i, none⟩ = _
    rw [Nat.zero_add, cell_of_row _ G i _ _ _ hblk, Array.getElem?_setIfInBounds]
    by_cases e : t = i
    · subst e
      rw [if_pos rfl, if_pos (by have := h.nc.1; omega)]
      simp
    · rw [if_neg e, k3 i hi]
      simp only [if_neg (fun hh : i = t => e hh.symm)]
  · by_cases e : i = t
    · subst e
      simp only [if_true]
      exact (hx.kept (hoth g hgG)).sl h1.1 h1.2 hy hu
    · simp only [if_neg e]
      exact ((h.row i hi).kept (hoth _ (h.ne hi))).sl (h.lc i hi).1 (h.lc i hi).2 (h.bm i) (h.up i hi)
theorem wpList_append_full {w : World} {ops : Array Oper} {rest : List Oper} {o : Oper} {a : Act} {Q : Exit → Act → World → Prop} (hgd : o.guard = none) (s x : Operand)
    (ho : o.op = .call { callee := .builtin .append, args := #[s, x], argTypes := #[50, 50] })
    {g n : Nat} {h : Nat → Nat} (hb : Bl w g n n h) (hs : a.eval s = .slice (some ⟨g, 0, none⟩) n n) (ad : Addr) (c v : Nat) (hx : a.eval x = .slice (some ad) 1 c) (hn : n ≤ 1000000) (hc : ∀ j u, [Value.int .u8 (v : Nat)][j]? = some u → w.cell? (ad.add j) = some u)
    (hk : ∀ g' cap' w', Bl w' g' (n + 1) cap' (fun i => if i = n then v else h i) → (n + 1 ≤ cap' ∧ cap' ≤ maxLen) → w.heap.size ≤ g' → w.grownBy w' none → wpList Tryz.prog ops Q rest (a.put o.dst (.slice (some ⟨g', 0, none⟩) (n + 1) cap')) w') : wpList Tryz.prog ops Q (o :: rest) a w := by
  refine wpList_plain hgd fun _ hK => ?_
  obtain ⟨g', cap', w', hr, h2, h3, h4, h5⟩ := run_append_full o.type hb ad c v hn hc
  unfold Oper.wp execOp
  simp only [ho, resolve, invoke, builtin, Sem.run_bind, Sem.run_pure, Result.andThen_ok, List.map_toArray, List.map_cons, List.map_nil, hs, hx, hr]
  exact hK _ _ (hk g' cap' w' h2 h3 h4 h5)
end Go.Proofs.YtkejabhjlflknaaGreat
