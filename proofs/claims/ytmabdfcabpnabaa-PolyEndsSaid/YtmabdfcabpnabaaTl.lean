import Derived.Test.YtmabdfcabpnabaaA2
import Derived.Test.YtmabdfcabpnabaaAb
import Derived.BigFrame
namespace Go.Proofs.Ytmabdfcabpnabaa
open Go.RowKit Go.Shelf

/-- the world behind literals of bytes. -/
def laid : List (List Nat) → World → World
  | [], w => w
  | v :: ls, w => laid ls (w.alloc (.cells (v.map fun x => Value.int .u8 (x : Nat)).toArray 5))
theorem laid_below : ∀ (ls : List (List Nat)) (w : World), Below w.heap.size w (laid ls w)
  | [], w => Below.refl _ _
  | v :: ls, w => by
    have h1 := (Below.refl w.heap.size w).alloc (Nat.le_refl _) (.cells (v.map fun x => Value.int .u8 (x : Nat)).toArray 5)
    exact h1.trans ((laid_below ls _).mono (by simp))
theorem laid_size : ∀ (ls : List (List Nat)) (w : World), (laid ls w).heap.size = w.heap.size + ls.length
  | [], w => rfl
  | v :: ls, w => by
    show (laid ls _).heap.size = _
    rw [laid_size ls, World.size_alloc, List.length_cons]; omega
theorem laid_sl : ∀ (ls : List (List Nat)) (w : World), (∀ v ∈ ls, (∀ x ∈ v, x < 256) ∧ v.length ≤ 1000) → ∀ i v, ls[i]? = some v → Sl (laid ls w) (some ⟨w.heap.size + i, 0, none⟩) v.length v.length (Pf.lit v)
  | [], w, _, i, v, hi => by simp at hi
  | u :: ls, w, h, i, v, hi => by
    have hu := h u (by simp)
    cases i with
    | zero =>
      simp only [List.getElem?_cons_zero, Option.some.injEq] at hi
      subst hi
      exact (sl_lit w u hu.1 hu.2).same (laid_below ls _)
    | succ i =>
      rw [List.getElem?_cons_succ] at hi
      have := laid_sl ls (w.alloc (.cells (u.map fun x => Value.int .u8 (x : Nat)).toArray 5)) (fun v hv => h v (by simp [hv])) i v hi
      rw [World.size_alloc, show w.heap.size + 1 + i = w.heap.size + (i + 1) by omega] at this
      exact this
/-- a list of slices of bytes that can be read. -/
def RowsOk (w : World) (R n : Nat) : Prop := ∀ k, k < n → ∃ a l c f, w.cell? ⟨R, k, none⟩ = some (.slice a l c) ∧ Sl w a l c f ∧ c ≤ 1000
theorem RowsOk.below {w w' : World} {R n : Nat} (h : RowsOk w R n) (hB : Below w.heap.size w w') : RowsOk w' R n := fun k hk => by
  obtain ⟨a, l, c, f, h1, h2, h3⟩ := h k hk
  exact ⟨a, l, c, f, (hB.cell (p := ⟨R, k, none⟩) (World.block_lt_of_cell? _ _ h1)).trans h1, h2.same hB, h3⟩
/-- PolyEnds' rows. -/
def endRows : List (List Nat) := [[0], [0, 0, 0], [1], [7], [0, 1], [3, 0], [1, 1, 1], [0, 0, 9, 0], [2, 3, 5, 7, 11, 13], [255, 254, 0, 1]]
def endCells (b : Nat) : Array Value :=
  #[.slice none 0 0, .slice (some ⟨b, 0, none⟩) 1 1, .slice (some ⟨b + 1, 0, none⟩) 3 3, .slice (some ⟨b + 2, 0, none⟩) 1 1, .slice (some ⟨b + 3, 0, none⟩) 1 1, .slice (some ⟨b + 4, 0, none⟩) 2 2, .slice (some ⟨b + 5, 0, none⟩) 2 2, .slice (some ⟨b + 6, 0, none⟩) 3 3, .slice (some ⟨b + 7, 0, none⟩) 4 4, .slice (some ⟨b + 8, 0, none⟩) 6 6, .slice (some ⟨b + 9, 0, none⟩) 4 4]
theorem rows_end (w : World) : RowsOk ((laid endRows w).alloc (.cells (endCells w.heap.size) 22)) (w.heap.size + 10) 11 := by
  have hL := laid_sl endRows w (by decide)
  have hs : (laid endRows w).heap.size = w.heap.size + 10 := laid_size endRows w
  have hB : Below (laid endRows w).heap.size (laid endRows w) ((laid endRows w).alloc (.cells (endCells w.heap.size) 22)) := (Below.refl _ _).alloc (Nat.le_refl _) _
  have hnew := heap_alloc_new (laid endRows w) (.cells (endCells w.heap.size) 22)
  rw [hs] at hnew
  have key : ∀ i v, endRows[i]? = some v → (endCells w.heap.size)[i + 1]? = some (.slice (some ⟨w.heap.size + i, 0, none⟩) v.length v.length) → v.length ≤ 1000 → ∃ a l c f, ((laid endRows w).alloc (.cells (endCells w.heap.size) 22)).cell? ⟨w.heap.size + 10, i + 1, none⟩ = some (.slice a l c) ∧ Sl ((laid endRows w).alloc (.cells (endCells w.heap.size) 22)) a l c f ∧ c ≤ 1000 := by
    intro i v hi hc hl
    exact ⟨_, _, _, _, by rw [cell_of_row _ _ _ _ _ _ hnew]; exact hc, (hL i v hi).same hB, hl⟩
  intro k hk
  rcases k with _ | _ | _ | _ | _ | _ | _ | _ | _ | _ | _ | k
  · exact ⟨none, 0, 0, fun _ => 0, by rw [cell_of_row _ _ _ _ _ _ hnew]; rfl, (Nw.nil _ 0 (fun _ => rfl)).sl, by omega⟩
  · exact key 0 _ rfl rfl (by decide)
  · exact key 1 _ rfl rfl (by decide)
  · exact key 2 _ rfl rfl (by decide)
  · exact key 3 _ rfl rfl (by decide)
  · exact key 4 _ rfl rfl (by decide)
  · exact key 5 _ rfl rfl (by decide)
  · exact key 6 _ rfl rfl (by decide)
  · exact key 7 _ rfl rfl (by decide)
  · exact key 8 _ rfl rfl (by decide)
  · exact key 9 _ rfl rfl (by decide)
  · omega

theorem below_refl_alloc (w : World) (o : Obj) : Below w.heap.size w (w.alloc o) := (Below.refl _ _).alloc (Nat.le_refl _) o
theorem cell_new2 (w : World) (u v : Value) (t : TypeId) : ∀ j x, [u, v][j]? = some x → (w.alloc (.cells #[u, v] t)).cell? ((⟨w.heap.size, 0, none⟩ : Addr).add j) = some x := by
  intro j x hx
  rcases j with _ | _ | j
  · rw [Addr.add_lit, Nat.zero_add, cell_of_row _ _ _ _ _ _ (heap_alloc_new _ _)]; simpa using hx
  · rw [Addr.add_lit, cell_of_row _ _ _ _ _ _ (heap_alloc_new _ _)]; simpa using hx
  · simp at hx
theorem append_below {w wx w6 : World} {B g cap cap' n : Nat} {a : Option Addr} {xs : List Value} (hB : Below w.heap.size w wx) (hown : w6.ownsRow w.heap.size 5 1 (.slice (some ⟨g, 0, none⟩) n cap') n xs)
    (hc : a = some ⟨g, 0, none⟩ ∧ cap' = cap ∧ wx.grownBy w6 (some g) ∨ B ≤ g ∧ wx.grownBy w6 none) : Below w.heap.size w w6 := by
  rcases hc with ⟨_, _, hg⟩ | ⟨_, hg⟩
  · exact hB.grown hg hB.size (fun x hx => by cases hx; exact (hown.lt g rfl).1)
  · exact hB.grown hg hB.size (fun x hx => by cases hx)
theorem Sl.cutG {w : World} {g n cap k : Nat} {f : Nat → Nat} (h : Sl w (some ⟨g, 0, none⟩) n cap f) (hk : k ≤ n) : Sl w (some ⟨g, 0, none⟩) k cap (fun i => if i < k then f i else 0) where
  capOk := Nat.le_trans hk h.capOk
  maxOk := h.maxOk
  bytes := fun i => by show (if i < k then f i else 0) < 256; split; exact h.bytes i; omega
  up := fun i hi => by show (if i < k then f i else 0) = 0; rw [if_neg (by omega)]
  nil := fun e => by cases e
  spot := fun ad e _ => by cases e; rfl
  cell := fun ad e i hi => by
    show _ = some (Value.int .u8 ((if i < k then f i else 0 : Nat) : Int))
    rw [if_pos hi]; exact h.cell ad e i (by omega)
/-- the same, at an operation that is guarded. -/
theorem wpList_append_bag_g {P : Program} (w : World) {ops : Array Oper} {rest : List Oper} {o : Oper} {act : Act} {Q : Exit → Act → World → Prop} (hgd : Region.wanted o (yielded ops act.tmps) = true) (s x : Operand) (t : TypeId)
    (ho : o.op = .call { callee := .builtin .append, args := #[s, x], argTypes := #[t, t] })
    (base : Nat) (e : TypeId) (i : TypeInfo) (z : Value) (bytes : Nat) (ht : P.underlying t = some (.slice e)) (hi : P.info? e = some i) (hz : i.zero = some z)
    (hsize : i.size = 1) (hby : i.bytes = bytes) (hzs : z.cells.size = 1)
    (a : Option Addr) (n cap : Nat) (xs : List Value) (hs : act.eval s = .slice a n cap) (hown : w.ownsRow base e 1 (.slice a n cap) n xs)
    (ad : Addr) (m c : Nat) (news : List Value) (hx : act.eval x = .slice (some ad) m c) (hl : news.length = m) (hnews : ∀ j u, news[j]? = some u → w.cell? (ad.add j) = some u) (h1 : ∀ u ∈ news, u.oneCell' = true)
    (hm : 0 < m) (h63 : n + m ≤ maxLen) (hbytes : (n + m) * bytes ≤ 140737488355328) (hbase : base ≤ w.heap.size)
    (h : ∀ g cap' w', w'.ownsRow base e 1 (.slice (some ⟨g, 0, none⟩) (n + m) cap') (n + m) (xs ++ news) → (a = some ⟨g, 0, none⟩ ∧ cap' = cap ∧ w.grownBy w' (some g) ∨ w.heap.size ≤ g ∧ w.grownBy w' none) → g < w'.heap.size → wpList P ops Q rest (act.put o.dst (.slice (some ⟨g, 0, none⟩) (n + m) cap')) w') : wpList P ops Q (o :: rest) act w := by
  refine BigFrame.wpList_want hgd fun _ hK => ?_
  obtain ⟨g, cap', w', hr, h2, h3, h4⟩ := run_append_bag (P := P) w t o.type base e i z bytes ht hi hz hsize hby hzs a n cap xs hown ad m c news hl hnews h1 hm h63 hbytes hbase
  unfold Oper.wp execOp
  simp only [ho, resolve, invoke, builtin, Sem.run_bind, Sem.run_pure, Result.andThen_ok, List.map_toArray, List.map_cons, List.map_nil, hs, hx, hr]
  exact hK _ _ (h g cap' w' h2 h3 h4)
end Go.Proofs.Ytmabdfcabpnabaa
