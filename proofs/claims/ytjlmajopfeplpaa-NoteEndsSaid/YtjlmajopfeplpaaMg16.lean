import Derived.Laws.AppendOwnNone
import Derived.Test.YtjlmajopfeplpaaMg7
namespace Go.Proofs.Ytjlmajopfeplpaa
open Go.RowKit Go.Shelf

theorem rowv_cpy (h g : Nat → Nat) (n m : Nat) : rowv h n ++ rowv g m = rowv (cpy n m g h) (n + m) := by
  apply List.ext_getElem?
  intro i
  by_cases c : i < n
  · rw [List.getElem?_append_left (by rw [rowv_len]; exact c), rowv_get c, rowv_get (by omega)]
    unfold cpy; rw [if_neg (by omega)]
  · rw [List.getElem?_append_right (by rw [rowv_len]; omega), rowv_len]
    by_cases d : i < n + m
    · rw [rowv_get (by omega), rowv_get d]
      unfold cpy; rw [if_pos (by omega)]
    · rw [List.getElem?_eq_none (by rw [rowv_len]; omega), List.getElem?_eq_none (by rw [rowv_len]; omega)]
theorem run_append_sl (w : World) (ty : TypeId) (B : Nat) (a : Option Addr) (n cap : Nat) (h : Nat → Nat) (hR : Rq w B a n cap h) (ain : Option Addr) (m cin : Nat) (g : Nat → Nat) (hS : Sl w ain m cin g) (hl : n + m ≤ 1000000000) (hB : B ≤ w.heap.size) :
    ∃ a' c' w', (Builtin.append_ #[27, 27] ty #[.slice a n cap, .slice ain m cin]).run Try.prog w = .ok (.slice a' (n + m) c') w' ∧ Rq w' B a' (n + m) c' (cpy n m g h) ∧
      (∀ k, a' = some ⟨k, 0, none⟩ → a = some ⟨k, 0, none⟩ ∨ w.heap.size ≤ k) ∧ ∃ row, w.grownBy w' row ∧ ∀ k, row = some k → a = some ⟨k, 0, none⟩ := by
  obtain ⟨i0, hi, hz0, hz1, hz2⟩ := info_parts Try.infoU8
  by_cases hm : m = 0
  · subst hm
    have hrun : (Builtin.append_ #[27, 27] ty #[.slice a n cap, .slice ain 0 cin]).run Try.prog w = .ok (.slice a n cap) w := by
      have hn : n ≤ cap := by
        rcases hR with ⟨_, rfl, rfl⟩ | ⟨_, _, _, _, h3, _⟩
        · exact Nat.le_refl _
        · exact h3
      have hfc : (Builtin.firstCells i0.size 0 (.slice ain 0 cin)).run Try.prog w = .ok #[] w := by
        rw [hz1]
        cases ain with
        | none => exact run_firstCells_none w 1 0 0 cin
        | some ad => exact run_firstCells_some w 1 0 ad 0 cin [] rfl (fun j v hj => by simp at hj)
      cases a with
      | none =>
        rcases hR with ⟨_, rfl, rfl⟩ | ⟨_, h, _⟩
        · simp [Builtin.append_, run_underlying Try.underlying27, Go.sizeOf, typeInfo, hi, Builtin.lenOf, hfc]
        · cases h
      | some ad =>
        simp [Builtin.append_, run_underlying Try.underlying27, Go.sizeOf, typeInfo, hi, Builtin.lenOf, hfc, hn, storeCells]
    exact ⟨a, cap, w, hrun, by rw [cpy_zero]; exact hR, fun k e => Or.inl e, none, grownBelow (Below.refl _ _) none, fun k e => by cases e⟩
  · obtain ⟨b, o, rfl, _⟩ := hS.at_ (k := 0) (by omega)
    obtain ⟨k, c', w', hr, h2, h3, h4⟩ := run_append_bag (P := Try.prog) w 27 ty B 5 i0 (.int .u8 0) 1 Try.underlying27 hi hz0 hz1 hz2 rfl a n cap (rowv h n) hR.owns ⟨b, o, none⟩ m cin (rowv g m) (rowv_len _ _) (Sl.reads hS _ rfl) (rowv_ones _ _) (by omega) (by unfold maxLen; omega) (by omega) hB
    rw [rowv_cpy] at h2
    refine ⟨_, c', w', hr, Rq.of_owns h2, fun k' e => ?_, ?_⟩
    · cases e
      rcases h3 with ⟨e, _, _⟩ | ⟨e, _⟩
      · exact Or.inl e
      · exact Or.inr e
    · rcases h3 with ⟨e, _, hg⟩ | ⟨_, hg⟩
      · exact ⟨some k, hg, fun k' e' => by cases e'; exact e⟩
      · exact ⟨none, hg, fun k' e' => by cases e'⟩
theorem wpList_append_sl {w : World} {ops : Array Oper} {rest : List Oper} {o : Oper} {act : Act} {Q : Exit → Act → World → Prop} (hgd : o.guard = none) (s x : Operand)
    (ho : o.op = .call { callee := .builtin .append, args := #[s, x], argTypes := #[27, 27] })
    (B : Nat) (a : Option Addr) (n cap : Nat) (h : Nat → Nat) (hs : act.eval s = .slice a n cap) (hR : Rq w B a n cap h) (ain : Option Addr) (m cin : Nat) (g : Nat → Nat) (hx : act.eval x = .slice ain m cin) (hS : Sl w ain m cin g) (hl : n + m ≤ 1000000000) (hB : B ≤ w.heap.size)
    (K : ∀ a' c' w', Hid (Rq w' B a' (n + m) c' (cpy n m g h)) → Hid (∀ k, a' = some ⟨k, 0, none⟩ → a = some ⟨k, 0, none⟩ ∨ w.heap.size ≤ k) → Hid (∃ row, w.grownBy w' row ∧ ∀ k, row = some k → a = some ⟨k, 0, none⟩) → wpList Try.prog ops Q rest (act.put o.dst (.slice a' (n + m) c')) w') : wpList Try.prog ops Q (o :: rest) act w := by
  refine wpList_plain hgd fun _ hK => ?_
  obtain ⟨a', c', w', hr, h2, h3, h4⟩ := run_append_sl w o.type B a n cap h hR ain m cin g hS hl hB
  unfold Oper.wp execOp
  simp only [ho, resolve, invoke, builtin, Sem.run_bind, Sem.run_pure, Result.andThen_ok, List.map_toArray, List.map_cons, List.map_nil, hs, hx, hr]
  exact hK _ _ (K a' c' w' h2 h3 h4)
end Go.Proofs.Ytjlmajopfeplpaa
