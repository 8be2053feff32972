import Derived.Test.YtjnfghhochcpaaaMb
import Derived.Test.YtjnfghhochcpaaaKt
import Derived.Deep.AppendLies
import Derived.Deep.Onto
namespace Go.Proofs.Ytjnfghhochcpaaa
open Go.RowKit Go.Shelf

theorem own_below {w w' : World} {B : Nat} {e : TypeId} {s : Nat} {v : Value} {n : Nat} {xs : List Value} (h : w.ownsRow B e s v n xs) (hB : Below w.heap.size w w') : w'.ownsRow B e s v n xs :=
  h.kept (row := none) ⟨hB.os, hB.tape, hB.output, hB.size, fun k hk _ => hB.block k hk⟩ (by cases v.ownBlock <;> simp)
/-- so many coefficients, as values. -/
def rowv (f : Nat → Nat) (n : Nat) : List Value := (List.range n).map fun i => Value.int .u8 (f i : Nat)
theorem rowv_succ (f : Nat → Nat) (n : Nat) : rowv f (n + 1) = rowv f n ++ [.int .u8 (f n : Nat)] := by unfold rowv; rw [List.range_succ, List.map_append]; rfl
theorem cell_new1 (w : World) (v : Value) (t : TypeId) : ∀ j u, [v][j]? = some u → (w.alloc (.cells #[v] t)).cell? ((⟨w.heap.size, 0, none⟩ : Addr).add j) = some u := by
  intro j u hu
  cases j with
  | zero => simpa [Addr.add_lit, World.cell?_alloc_new] using hu
  | succ j => simp at hu

theorem rowv_len (f : Nat → Nat) (n : Nat) : (rowv f n).length = n := by simp [rowv]
theorem rowv_get {f : Nat → Nat} {n i : Nat} (h : i < n) : (rowv f n)[i]? = some (.int .u8 (f i : Nat)) := by simp [rowv, h]
theorem rowv_take {f : Nat → Nat} {n m : Nat} : (rowv f (n + m)).take n = rowv f n := by
  unfold rowv
  rw [← List.map_take, List.take_range, Nat.min_eq_left (Nat.le_add_right n m)]
theorem rowv_congr {f g : Nat → Nat} {n : Nat} (h : ∀ i, i < n → f i = g i) : rowv f n = rowv g n := by
  unfold rowv
  exact List.map_congr_left fun i hi => by rw [h i (List.mem_range.1 hi)]
theorem rowv_set (f : Nat → Nat) (n j v : Nat) : (rowv f n).set j (.int .u8 (v : Nat)) = rowv (fun i => if i = j then v else f i) n := by
  apply List.ext_getElem?
  intro i
  rw [List.getElem?_set]
  by_cases hi : i < n
  · rw [rowv_get hi, rowv_get hi, rowv_len]
    by_cases e : j = i
    · subst e; rw [if_pos rfl, if_pos hi]; simp
    · rw [if_neg e]
      show _ = some (Value.int .u8 ((if i = j then v else f i : Nat) : Int))
      rw [if_neg (fun h => e h.symm)]
  · rw [List.getElem?_eq_none (by rw [rowv_len]; omega), List.getElem?_eq_none (by rw [rowv_len]; omega), rowv_len]
    by_cases e : j = i
    · subst e; rw [if_pos rfl, if_neg hi]
    · rw [if_neg e]
theorem rowv_ones (f : Nat → Nat) (n : Nat) : ∀ u ∈ rowv f n, u.oneCell' = true := by
  intro u hu
  obtain ⟨i, _, rfl⟩ := List.mem_map.1 hu
  rfl

theorem grownBelow {w w' : World} (hB : Below w.heap.size w w') (row : Option Nat) : w.grownBy w' row := ⟨hB.os, hB.tape, hB.output, hB.size, fun k hk _ => hB.block k hk⟩
theorem grownSet (w : World) (g j : Nat) (u : Value) : w.grownBy (w.setCell ⟨g, j, none⟩ u) (some g) := by
  have hB := (Below.refl 0 w).setCell (p := ⟨g, j, none⟩) (Nat.zero_le _) u
  exact ⟨hB.os, hB.tape, hB.output, hB.size, fun k _ hne => heap_setCell_other w ⟨g, j, none⟩ k u (fun h => hne (by rw [h]))⟩
theorem grown_alloc (w : World) (o : Obj) : w.grownBy (w.alloc o) none := grownBelow ((Below.refl _ w).alloc (Nat.le_refl _) o) none


/-- what owns a row owns its first elements. -/
theorem own_short {w : World} {B e n m cap : Nat} {a : Option Addr} {xs : List Value} (h : w.ownsRow B e 1 (.slice a (n + m) cap) (n + m) xs) : w.ownsRow B e 1 (.slice a n cap) n (xs.take n) := by
  obtain ⟨hl, h⟩ := h
  refine ⟨by rw [List.length_take, hl]; omega, ?_⟩
  rcases h with ⟨hv, h0⟩ | ⟨g, cap', cur, hv, hb, hg, hnc, hcm, hcs, ht⟩
  · left
    obtain rfl : n = 0 := by omega
    obtain rfl : m = 0 := by omega
    exact ⟨hv, rfl⟩
  · right
    simp only [Value.slice.injEq, true_and] at hv
    obtain ⟨rfl, rfl⟩ := hv
    refine ⟨g, cap, cur, rfl, hb, hg, by omega, hcm, hcs, ?_⟩
    rw [← ht, List.take_take, Nat.min_eq_left (by omega), Nat.mul_one]

section
variable {P : Program}
/-- append, and where the new slice lies: in the old row, as long; or in a new block. -/
theorem run_append_bag (w : World) (t ty : TypeId) (base : Nat) (e : TypeId) (i : TypeInfo) (z : Value) (bytes : Nat) (ht : P.underlying t = some (.slice e)) (hi : P.info? e = some i) (hz : i.zero = some z)
    (hsize : i.size = 1) (hby : i.bytes = bytes) (hzs : z.cells.size = 1)
    (a : Option Addr) (n cap : Nat) (xs : List Value) (hown : w.ownsRow base e 1 (.slice a n cap) n xs)
    (ad : Addr) (m c : Nat) (news : List Value) (hl : news.length = m) (hnews : ∀ j u, news[j]? = some u → w.cell? (ad.add j) = some u) (h1 : ∀ u ∈ news, u.oneCell' = true)
    (hm : 0 < m) (h63 : n + m ≤ maxLen) (hbytes : (n + m) * bytes ≤ 140737488355328) (hbase : base ≤ w.heap.size) :
    ∃ g cap' w', (Builtin.append_ #[t, t] ty #[.slice a n cap, .slice (some ad) m c]).run P w = .ok (.slice (some ⟨g, 0, none⟩) (n + m) cap') w' ∧
      w'.ownsRow base e 1 (.slice (some ⟨g, 0, none⟩) (n + m) cap') (n + m) (xs ++ news) ∧ (a = some ⟨g, 0, none⟩ ∧ cap' = cap ∧ w.grownBy w' (some g) ∨ w.heap.size ≤ g ∧ w.grownBy w' none) ∧ g < w'.heap.size := by
  have hl' : news.length = m * 1 := by omega
  rcases hown.2 with ⟨hv, h0⟩ | ⟨g, cap2, cur, hv, hb, hg, hnc, hcm, hcs, htk⟩
  · rw [hv] at hown ⊢
    obtain ⟨g, cap', w', hr, h2, h3, h4, h5⟩ := run_append_lies (P := P) w t ty base e i z 1 bytes ht hi hz hsize hby hzs (by decide) (.slice none 0 0) n xs hown ad m c news hl' hnews h1 hm h63 hbytes hbase _ rfl
    exact ⟨g, cap', w', hr, h2, Or.inr ⟨by rcases h4 with h | h; exact (by cases h); omega, h3⟩, h5⟩
  · simp only [Value.slice.injEq, true_and] at hv
    obtain ⟨rfl, rfl⟩ := hv
    rcases Nat.lt_or_ge cap (n + m) with hr | hr
    · obtain ⟨v', w', hrun, h2, h3⟩ := run_append_arg_grows (P := P) w t ty e i z 1 bytes ht hi hz hsize hby hzs (by decide) ⟨g, 0, none⟩ n cap xs hown.1 (fun j u hj => hown.cells rfl j u hj) ad m c news hl' hnews hr h63 hbytes
      obtain ⟨g2, cap2, rfl, hb2, hlt⟩ := h2.form (by omega)
      exact ⟨g2, cap2, w', hrun, h2.mono hbase, Or.inr ⟨hb2, h3⟩, hlt⟩
    · obtain ⟨w', hrun, h2, h3⟩ := run_append_fits (P := P) w base t ty e i 1 ht hi hsize g n cap xs hown ad m c news hl' hnews h1 hr
      exact ⟨g, cap, w', hrun, h2, Or.inl ⟨rfl, rfl, h3⟩, (h2.lt g rfl).2⟩

theorem wpList_append_bag (w : World) {ops : Array Oper} {rest : List Oper} {o : Oper} {act : Act} {Q : Exit → Act → World → Prop} (hgd : o.guard = none) (s x : Operand) (t : TypeId)
    (ho : o.op = .call { callee := .builtin .append, args := #[s, x], argTypes := #[t, t] })
    (base : Nat) (e : TypeId) (i : TypeInfo) (z : Value) (bytes : Nat) (ht : P.underlying t = some (.slice e)) (hi : P.info? e = some i) (hz : i.zero = some z)
    (hsize : i.size = 1) (hby : i.bytes = bytes) (hzs : z.cells.size = 1)
    (a : Option Addr) (n cap : Nat) (xs : List Value) (hs : act.eval s = .slice a n cap) (hown : w.ownsRow base e 1 (.slice a n cap) n xs)
    (ad : Addr) (m c : Nat) (news : List Value) (hx : act.eval x = .slice (some ad) m c) (hl : news.length = m) (hnews : ∀ j u, news[j]? = some u → w.cell? (ad.add j) = some u) (h1 : ∀ u ∈ news, u.oneCell' = true)
    (hm : 0 < m) (h63 : n + m ≤ maxLen) (hbytes : (n + m) * bytes ≤ 140737488355328) (hbase : base ≤ w.heap.size)
    (h : ∀ g cap' w', w'.ownsRow base e 1 (.slice (some ⟨g, 0, none⟩) (n + m) cap') (n + m) (xs ++ news) → (a = some ⟨g, 0, none⟩ ∧ cap' = cap ∧ w.grownBy w' (some g) ∨ w.heap.size ≤ g ∧ w.grownBy w' none) → g < w'.heap.size → wpList P ops Q rest (act.put o.dst (.slice (some ⟨g, 0, none⟩) (n + m) cap')) w') : wpList P ops Q (o :: rest) act w := by
  refine wpList_plain hgd fun _ hK => ?_
  obtain ⟨g, cap', w', hr, h2, h3, h4⟩ := run_append_bag (P := P) w t o.type base e i z bytes ht hi hz hsize hby hzs a n cap xs hown ad m c news hl hnews h1 hm h63 hbytes hbase
  unfold Oper.wp execOp
  simp only [ho, resolve, invoke, builtin, Sem.run_bind, Sem.run_pure, Result.andThen_ok, List.map_toArray, List.map_cons, List.map_nil, hs, hx, hr]
  exact hK _ _ (h g cap' w' h2 h3 h4)
end
end Go.Proofs.Ytjnfghhochcpaaa
