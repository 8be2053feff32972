import Derived.Deep.AppendLies
import Derived.Deep.Onto
import Derived.Laws.OwnMore
import Derived.Test.YtjlmajopfeplpaaGreatMg6
namespace Go.Proofs.YtjlmajopfeplpaaGreat
open Go.RowKit Go.Shelf

theorem own_below {w w' : World} {B : Nat} {e : TypeId} {s : Nat} {v : Value} {n : Nat} {xs : List Value} (h : w.ownsRow B e s v n xs) (hB : Below w.heap.size w w') : w'.ownsRow B e s v n xs :=
  h.kept (row := none) ⟨hB.os, hB.tape, hB.output, hB.size, fun k hk _ => hB.block k hk⟩ (by cases v.ownBlock <;> simp)
/-- so many coefficients, as values. -/
def rowv (f : Nat → Nat) (n : Nat) : List Value := (List.range n).map fun i => Value.int .u8 (f i : Nat)
theorem rowv_succ (f : Nat → Nat) (n : Nat) : rowv f (n + 1) = rowv f n ++ [.int .u8 (f n : Nat)] := by unfold rowv; rw [List.range_succ, List.map_append]; rfl
theorem cell_new1 (w : World) (v : Value) (t : TypeId) : ∀ j u, [v][j]? = some u → (w.alloc (.cells #[v] t)).cell? ((⟨w.heap.size, 0, none⟩ : Addr).add j) = some u := by
  intro j u hu
  cases j with
  | zero => simpa [Addr.add_lit, World.cell?_alloc_new] using hu
  | succ j => simp at hu

theorem rowv_len (f : Nat → Nat) (n : Nat) : (rowv f n).length = n := by simp [rowv]
theorem rowv_get {f : Nat → Nat} {n i : Nat} (h : i < n) : (rowv f n)[i]? = some (.int .u8 (f i : Nat)) := by simp [rowv, h]
theorem rowv_take {f : Nat → Nat} {n m : Nat} : (rowv f (n + m)).take n = rowv f n := by
  unfold rowv
  rw [← List.map_take, List.take_range, Nat.min_eq_left (Nat.le_add_right n m)]
theorem rowv_congr {f g : Nat → Nat} {n : Nat} (h : ∀ i, i < n → f i = g i) : rowv f n = rowv g n := by
  unfold rowv
  exact List.map_congr_left fun i hi => by rw [h i (List.mem_range.1 hi)]
theorem rowv_set (f : Nat → Nat) (n j v : Nat) : (rowv f n).set j (.int .u8 (v : Nat)) = rowv (fun i => if i = j then v else f i) n := by
  apply List.ext_getElem?
  intro i
  rw [List.getElem?_set]
  by_cases hi : i < n
  · rw [rowv_get hi, rowv_get hi, rowv_len]
    by_cases e : j = i
    · subst e; rw [if_pos rfl, if_pos hi]; simp
    · rw [if_neg e]
      show _ = some (Value.int .u8 ((if i = j then v else f i : Nat) : Int))
      rw [if_neg (fun h => e h.symm)]
  · rw [List.getElem?_eq_none (by rw [rowv_len]; omega), List.getElem?_eq_none (by rw [rowv_len]; omega), rowv_len]
    by_cases e : j = i
    · subst e; rw [if_pos rfl, if_neg hi]
    · rw [if_neg e]
theorem rowv_ones (f : Nat → Nat) (n : Nat) : ∀ u ∈ rowv f n, u.oneCell' = true := by
  intro u hu
  obtain ⟨i, _, rfl⟩ := List.mem_map.1 hu
  rfl

theorem grownBelow {w w' : World} (hB : Below w.heap.size w w') (row : Option Nat) : w.grownBy w' row := ⟨hB.os, hB.tape, hB.output, hB.size, fun k hk _ => hB.block k hk⟩
theorem grownSet (w : World) (g j : Nat) (u : Value) : w.grownBy (w.setCell ⟨g, j, none⟩ u) (some g) := by
  have hB := (Below.refl 0 w).setCell (p := ⟨g, j, none⟩) (Nat.zero_le _) u
  exact ⟨hB.os, hB.tape, hB.output, hB.size, fun k _ hne => heap_setCell_other w ⟨g, j, none⟩ k u (fun h => hne (by rw [h]))⟩
theorem grown_alloc (w : World) (o : Obj) : w.grownBy (w.alloc o) none := grownBelow ((Below.refl _ w).alloc (Nat.le_refl _) o) none


/-- what owns a row owns its first elements. -/
theorem own_short {w : World} {B e n m cap : Nat} {a : Option Addr} {xs : List Value} (h : w.ownsRow B e 1 (.slice a (n + m) cap) (n + m) xs) : w.ownsRow B e 1 (.slice a n cap) n (xs.take n) := by
  obtain ⟨hl, h⟩ := h
  refine ⟨by rw [List.length_take, hl]; omega, ?_⟩
  rcases h with ⟨hv, h0⟩ | ⟨g, cap', cur, hv, hb, hg, hnc, hcm, hcs, ht⟩
  · left
    obtain rfl : n = 0 := by omega
    obtain rfl : m = 0 := by omega
    exact ⟨hv, rfl⟩
  · right
    simp only [Value.slice.injEq, true_and] at hv
    obtain ⟨rfl, rfl⟩ := hv
    refine ⟨g, cap, cur, rfl, hb, hg, by omega, hcm, hcs, ?_⟩
    rw [← ht, List.take_take, Nat.min_eq_left (by omega), Nat.mul_one]

section
variable {P : Program}
/-- append, and where the new slice lies: in the old row, as long; or in a new block. -/
theorem run_append_bag (w : World) (t ty : TypeId) (base : Nat) (e : TypeId) (i : TypeInfo) (z : Value) (bytes : Nat) (ht : P.underlying t = some (.slice e)) (hi : P.info? e = some i) (hz : i.zero = some z)
    (hsize : i.size = 1) (hby : i.bytes = bytes) (hzs : z.cells.size = 1)
    (a : Option Addr) (n cap : Nat) (xs : List Value) (hown : w.ownsRow base e 1 (.slice a n cap) n xs)
    (ad : Addr) (m c : Nat) (news : List Value) (hl : news.length = m) (hnews : ∀ j u, news[j]? = some u → w.cell? (ad.add j) = some u) (h1 : ∀ u ∈ news, u.oneCell' = true)
    (hm : 0 < m) (h63 : n + m ≤ maxLen) (hbytes : (n + m) * bytes ≤ 140737488355328) (hbase : base ≤ w.heap.size) :
    ∃ g cap' w', (Builtin.append_ #[t, t] ty #[.slice a n cap, .slice (some ad) m c]).run P w = .ok (.slice (some ⟨g, 0, none⟩) (n + m) cap') w' ∧
      w'.ownsRow base e 1 (.slice (some ⟨g, 0, none⟩) (n + m) cap') (n + m) (xs ++ news) ∧ (a = some ⟨g, 0, none⟩ ∧ cap' = cap ∧ w.grownBy w' (some g) ∨ w.heap.size ≤ g ∧ w.grownBy w' none) ∧ g < w'.heap.size := by
  have hl' : news.length = m * 1 := by omega
  rcases hown.2 with ⟨hv, h0⟩ | ⟨g, cap2, cur, hv, hb, hg, hnc, hcm, hcs, htk⟩
  · rw [hv] at hown ⊢
    obtain ⟨g, cap', w', hr, h2, h3, h4, h5⟩ := run_append_lies (P := P) w t ty base e i z 1 bytes ht hi hz hsize hby hzs (by decide) (.slice none 0 0) n xs hown ad m c news hl' hnews h1 hm h63 hbytes hbase _ rfl
    exact ⟨g, cap', w', hr, h2, Or.inr ⟨by rcases h4 with h | h; exact (by cases h); omega, h3⟩, h5⟩
  · simp only [Value.slice.injEq, true_and] at hv
    obtain ⟨rfl, rfl⟩ := hv
    rcases Nat.lt_or_ge cap (n + m) with hr | hr
    · obtain ⟨v', w', hrun, h2, h3⟩ := run_append_arg_grows (P := P) w t ty e i z 1 bytes ht hi hz hsize hby hzs (by decide) ⟨g, 0, none⟩ n cap xs hown.1 (fun j u hj => hown.cells rfl j u hj) ad m c news hl' hnews hr h63 hbytes
      obtain ⟨g2, cap2, rfl, hb2, hlt⟩ := h2.form (by omega)
      exact ⟨g2, cap2, w', hrun, h2.mono hbase, Or.inr ⟨hb2, h3⟩, hlt⟩
    · obtain ⟨w', hrun, h2, h3⟩ := run_append_fits (P := P) w base t ty e i 1 ht hi hsize g n cap xs hown ad m c news hl' hnews h1 hr
      exact ⟨g, cap, w', hrun, h2, Or.inl ⟨rfl, rfl, h3⟩, (h2.lt g rfl).2⟩

theorem wpList_append_bag (w : World) {ops : Array Oper} {rest : List Oper} {o : Oper} {act : Act} {Q : Exit → Act → World → Prop} (hgd : o.guard = none) (s x : Operand) (t : TypeId)
    (ho : o.op = .call { callee := .builtin .append, args := #[s, x], argTypes := #[t, t] })
    (base : Nat) (e : TypeId) (i : TypeInfo) (z : Value) (bytes : Nat) (ht : P.underlying t = some (.slice e)) (hi : P.info? e = some i) (hz : i.zero = some z)
    (hsize : i.size = 1) (hby : i.bytes = bytes) (hzs : z.cells.size = 1)
    (a : Option Addr) (n cap : Nat) (xs : List Value) (hs : act.eval s = .slice a n cap) (hown : w.ownsRow base e 1 (.slice a n cap) n xs)
    (ad : Addr) (m c : Nat) (news : List Value) (hx : act.eval x = .slice (some ad) m c) (hl : news.length = m) (hnews : ∀ j u, news[j]? = some u → w.cell? (ad.add j) = some u) (h1 : ∀ u ∈ news, u.oneCell' = true)
    (hm : 0 < m) (h63 : n + m ≤ maxLen) (hbytes : (n + m) * bytes ≤ 140737488355328) (hbase : base ≤ w.heap.size)
    (h : ∀ g cap' w', w'.ownsRow base e 1 (.slice (some ⟨g, 0, none⟩) (n + m) cap') (n + m) (xs ++ news) → (a = some ⟨g, 0, none⟩ ∧ cap' = cap ∧ w.grownBy w' (some g) ∨ w.heap.size ≤ g ∧ w.grownBy w' none) → g < w'.heap.size → wpList P ops Q rest (act.put o.dst (.slice (some ⟨g, 0, none⟩) (n + m) cap')) w') : wpList P ops Q (o :: rest) act w := by
  refine wpList_plain hgd fun _ hK => ?_
  obtain ⟨g, cap', w', hr, h2, h3, h4⟩ := run_append_bag (P := P) w t o.type base e i z bytes ht hi hz hsize hby hzs a n cap xs hown ad m c news hl hnews h1 hm h63 hbytes hbase
  unfold Oper.wp execOp
  simp only [ho, resolve, invoke, builtin, Sem.run_bind, Sem.run_pure, Result.andThen_ok, List.map_toArray, List.map_cons, List.map_nil, hs, hx, hr]
  exact hK _ _ (h g cap' w' h2 h3 h4)
end
end Go.Proofs.YtjlmajopfeplpaaGreat

namespace Go.Proofs.YtjlmajopfeplpaaGreat
open Go.RowKit Go.Shelf

theorem below_dr {B : Nat} {w w' : World} (h : Below B w w') (q : Nat) : Below B w (w'.drewN q) := ⟨h.os, h.tape, h.output, h.size, h.block⟩
/-- a slice of slices of bytes, as it reads: its row i is the slice r i, of l i bytes, and reads as f i. -/
structure Rd (w : World) (a : Option Addr) (n cap : Nat) (r : Nat → Option Addr) (l c : Nat → Nat) (f : Nat → Nat → Nat) : Prop where
  capOk : n ≤ cap
  maxOk : cap ≤ maxLen
  bm : Mt.Bm f
  nil : a = none → n = 0 ∧ cap = 0
  spot : ∀ ad, a = some ad → n ≠ 0 → ad.spot = none
  cell : ∀ ad, a = some ad → ∀ i, i < n → w.cell? ⟨ad.block, ad.off + i, none⟩ = some (.slice (r i) (l i) (c i))
  row : ∀ i, i < n → Sl w (r i) (l i) (c i) (f i)
section
variable {w w' : World} {a : Option Addr} {n cap : Nat} {r : Nat → Option Addr} {l c : Nat → Nat} {f : Nat → Nat → Nat}
theorem Rd.same (h : Rd w a n cap r l c f) (hB : Below w.heap.size w w') : Rd w' a n cap r l c f :=
  ⟨h.capOk, h.maxOk, h.bm, h.nil, h.spot, fun ad ha i hi => by
    have hc := h.cell ad ha i hi
    rw [hB.cell (World.block_lt_of_cell? _ _ hc)]; exact hc, fun i hi => (h.row i hi).same hB⟩
theorem Rd.drewN (h : Rd w a n cap r l c f) (q : Nat) : Rd (w.drewN q) a n cap r l c f := ⟨h.capOk, h.maxOk, h.bm, h.nil, h.spot, h.cell, fun i hi => (h.row i hi).drewN q⟩
theorem Rd.at_ (h : Rd w a n cap r l c f) {k : Nat} (hk : k < n) : ∃ b off, a = some ⟨b, off, none⟩ ∧ w.cell? ⟨b, off + k, none⟩ = some (.slice (r k) (l k) (c k)) := by
  cases a with
  | none => have := h.nil rfl; omega
  | some ad =>
    have hc := h.cell ad rfl k hk
    obtain ⟨b, off, spot⟩ := ad
    obtain rfl : spot = none := h.spot _ rfl (by omega)
    exact ⟨b, off, rfl, hc⟩
theorem Rd.up (h : Rd w a n cap r l c f) {i j : Nat} (hi : i < n) (hj : l i ≤ j) : f i j = 0 := (h.row i hi).up j hj
end

/-- a matrix in memory of its own, from B on: the block G holds the rows, the block b i the row i. -/
structure Gr (w : World) (B G n cap : Nat) (b l c : Nat → Nat) (f : Nat → Nat → Nat) : Prop where
  blk : ∃ vs : Array Value, w.heap[G]? = some (.cells vs 28 (0, 0)) ∧ vs.size = cap ∧ ∀ i, i < n → vs[i]? = some (.slice (some ⟨b i, 0, none⟩) (l i) (c i))
  row : ∀ i, i < n → Bl w (b i) (l i) (c i) (f i)
  lc : ∀ i, i < n → l i ≤ c i ∧ c i ≤ maxLen
  nc : n ≤ cap ∧ cap ≤ maxLen
  lo : B ≤ G ∧ ∀ i, i < n → B ≤ b i
  inj : ∀ i j, i < n → j < n → b i = b j → i = j
  bm : Mt.Bm f
  up : ∀ i, i < n → Pf.Up (f i) (l i)
section
variable {w w' : World} {B G n cap : Nat} {b l c : Nat → Nat} {f : Nat → Nat → Nat}
theorem Gr.cell (h : Gr w B G n cap b l c f) {i : Nat} (hi : i < n) : w.cell? ⟨G, i, none⟩ = some (.slice (some ⟨b i, 0, none⟩) (l i) (c i)) := by
  obtain ⟨vs, h1, _, h3⟩ := h.blk
  rw [cell_of_row w G i vs _ _ h1]
  exact h3 i hi
theorem Gr.free (h : Gr w B G n cap b l c f) (i : Nat) : w.frozen? ⟨G, i, none⟩ = false := by
  obtain ⟨vs, h1, _⟩ := h.blk
  exact frozen_of_row w G i vs _ h1
theorem Gr.ltG (h : Gr w B G n cap b l c f) : G < w.heap.size := by
  obtain ⟨vs, h1, _⟩ := h.blk
  exact (Array.getElem?_eq_some_iff.1 h1).1
theorem Gr.ltb (h : Gr w B G n cap b l c f) {i : Nat} (hi : i < n) : b i < w.heap.size := (h.row i hi).lt
theorem Gr.ne (h : Gr w B G n cap b l c f) {i : Nat} (hi : i < n) : b i ≠ G := by
  intro e
  obtain ⟨vs, h1, _⟩ := h.row i hi
  obtain ⟨vs', h1', _⟩ := h.blk
  rw [e, h1'] at h1
  injection h1 with h1
  injection h1 with _ h2
  exact absurd h2 (by decide)
theorem Gr.kept (h : Gr w B G n cap b l c f) (hG : w'.heap[G]? = w.heap[G]?) (hb : ∀ i, i < n → w'.heap[b i]? = w.heap[b i]?) : Gr w' B G n cap b l c f := by
  obtain ⟨vs, h1, h2, h3⟩ := h.blk
  exact ⟨⟨vs, hG.trans h1, h2, h3⟩, fun i hi => (h.row i hi).kept (hb i hi), h.lc, h.nc, h.lo, h.inj, h.bm, h.up⟩
theorem Gr.same (h : Gr w B G n cap b l c f) (hB : Below w.heap.size w w') : Gr w' B G n cap b l c f := h.kept (hB.block G h.ltG) fun _ hi => hB.block _ (h.ltb hi)
theorem Gr.drewN (h : Gr w B G n cap b l c f) (q : Nat) : Gr (w.drewN q) B G n cap b l c f := h.kept rfl fun _ _ => rfl
theorem Gr.grown {row : Option Nat} (h : Gr w B G n cap b l c f) (hg : w.grownBy w' row) (hG : some G ≠ row) (hb : ∀ i, i < n → some (b i) ≠ row) : Gr w' B G n cap b l c f :=
  h.kept (hg.block G h.ltG hG) fun i hi => hg.block _ (h.ltb hi) (hb i hi)
theorem Gr.mono (h : Gr w B G n cap b l c f) {B' : Nat} (hB : B' ≤ B) : Gr w B' G n cap b l c f :=
  ⟨h.blk, h.row, h.lc, h.nc, ⟨Nat.le_trans hB h.lo.1, fun i hi => Nat.le_trans hB (h.lo.2 i hi)⟩, h.inj, h.bm, h.up⟩
theorem Gr.congr (h : Gr w B G n cap b l c f) {g : Nat → Nat → Nat} (hg : Mt.Bm g) (e : ∀ i j, i < n → f i j = g i j) : Gr w B G n cap b l c g :=
  ⟨h.blk, fun i hi => (h.row i hi).congr fun j _ => e i j hi, h.lc, h.nc, h.lo, h.inj, hg, fun i hi j hj => by rw [← e i j hi]; exact h.up i hi j hj⟩
theorem Gr.rd (h : Gr w B G n cap b l c f) : Rd w (some ⟨G, 0, none⟩) n cap (fun i => some ⟨b i, 0, none⟩) l c f :=
  ⟨h.nc.1, h.nc.2, h.bm, fun e => (by cases e), fun ad e _ => (by cases e; rfl), fun ad e i hi => by
    cases e
    show w.cell? ⟨G, 0 + i, none⟩ = _
    rw [Nat.zero_add]; exact h.cell hi, fun i hi => (h.row i hi).sl (h.lc i hi).1 (h.lc i hi).2 (h.bm i) (h.up i hi)⟩
theorem up_ite {g : Nat → Nat → Nat} {r k : Nat} {x : Nat → Nat} {i : Nat} (h1 : i = r → Pf.Up x k) (h2 : i ≠ r → Pf.Up (g i) k) : Pf.Up (fun j => if i = r then x j else g i j) k := fun j hj => by
  show (if i = r then x j else g i j) = 0
  by_cases e : i = r
  · rw [if_pos e]; exact h1 e j hj
  · rw [if_neg e]; exact h2 e j hj
/-- a row written anew. -/
theorem Gr.rowset (h : Gr w B G n cap b l c f) {r : Nat} (hr : r < n) (hg : w.grownBy w' (some (b r))) {x : Nat → Nat} (hx : Bl w' (b r) (l r) (c r) x) (hy : Pf.By x) (hu : Pf.Up x (l r)) : Gr w' B G n cap b l c (fun i j => if i = r then x j else f i j) := by
  obtain ⟨vs, h1, h2, h3⟩ := h.blk
  refine ⟨⟨vs, (hg.block G h.ltG (fun e => h.ne hr (by injection e with e; exact e.symm))).trans h1, h2, h3⟩, fun i hi => ?_, h.lc, h.nc, h.lo, h.inj, fun i j => ?_, fun i hi => up_ite (fun e => by rw [e]; exact hu) (fun _ => h.up i hi)⟩
  · by_cases e : i = r
    · subst e
      exact hx.congr fun j _ => (if_pos rfl).symm
    · exact ((h.row i hi).kept (hg.block _ (h.ltb hi) (fun e2 => e (h.inj i r hi hr (by injection e2))))).congr fun j _ => (if_neg e).symm
  · show (if i = r then x j else f i j) < 256
    split
    · exact hy j
    · exact h.bm i j
/-- one byte written. -/
theorem Gr.set (h : Gr w B G n cap b l c f) {r j : Nat} (hr : r < n) (hj : j < l r) {v : Nat} (hv : v < 256) : Gr (w.setCell ⟨b r, j, none⟩ (.int .u8 (v : Nat))) B G n cap b l c (fun i k => if i = r then (if k = j then v else f r k) else f i k) :=
  h.rowset hr (grownSet w (b r) j _) ((h.row r hr).set hj v) (fun k => by
    show (if k = j then v else f r k) < 256
    split
    · exact hv
    · exact h.bm r k) (fun k hk => by
    show (if k = j then v else f r k) = 0
    rw [if_neg (by omega)]; exact h.up r hr k hk)
/-- one row more. -/
theorem Gr.push (h : Gr w B G n cap b l c f) (hn : n < cap) {g ll cc : Nat} {x : Nat → Nat} (hx : Bl w g ll cc x) (h1 : ll ≤ cc ∧ cc ≤ maxLen) (hB : B ≤ g) (hne : ∀ i, i < n → b i ≠ g) (hy : Pf.By x) (hu : Pf.Up x ll) :
    Gr (w.setCell ⟨G, n, none⟩ (.slice (some ⟨g, 0, none⟩) ll cc)) B G (n + 1) cap (fun i => if i = n then g else b i) (fun i => if i = n then ll else l i) (fun i => if i = n then cc else c i) (fun i j => if i = n then x j else f i j) := by
  obtain ⟨vs, k1, k2, k3⟩ := h.blk
  have hgG : g ≠ G := by
    intro e
    obtain ⟨vs', h1', _⟩ := hx
    rw [e, k1] at h1'
    injection h1' with h1'
    injection h1' with _ h2
    exact absurd h2 (by decide)
  have hoth : ∀ k, k ≠ G → (w.setCell ⟨G, n, none⟩ (.slice (some ⟨g, 0, none⟩) ll cc)).heap[k]? = w.heap[k]? := fun k hk => Below.heap_setCell w ⟨G, n, none⟩ _ k hk
  refine ⟨⟨vs.setIfInBounds n (.slice (some ⟨g, 0, none⟩) ll cc), heap_setCell_same w G n vs _ _ k1, by simpa using k2, fun i hi => ?_⟩, fun i hi => ?_, fun i hi => ?_, ⟨hn, h.nc.2⟩, ⟨h.lo.1, fun i hi => ?_⟩, fun i j hi hj e => ?_, fun i j => ?_, fun i hi => ?_⟩
  · rw [Array.getElem?_setIfInBounds]
    by_cases e : n = i
    · subst e
      rw [if_pos rfl, if_pos (by omega)]
      simp
    · rw [if_neg e, k3 i (by omega)]
      simp only [if_neg (fun hh : i = n => e hh.symm)]
  · by_cases e : i = n
    · subst e
      simp only [if_true]
      exact (hx.kept (hoth g hgG)).congr fun j _ => rfl
    · simp only [if_neg e]
      exact (h.row i (by omega)).kept (hoth _ (h.ne (by omega)))
  · by_cases e : i = n
    · subst e; simp only [if_true]; exact h1
    · simp only [if_neg e]; exact h.lc i (by omega)
  · by_cases e : i = n
    · subst e; simp only [if_true]; exact hB
    · simp only [if_neg e]; exact h.lo.2 i (by omega)
  · have e' : (if i = n then g else b i) = (if j = n then g else b j) := e
    by_cases e1 : i = n <;> by_cases e2 : j = n
    · omega
    · rw [if_pos e1, if_neg e2] at e'; exact absurd e'.symm (hne j (by omega))
    · rw [if_neg e1, if_pos e2] at e'; exact absurd e' (hne i (by omega))
    · rw [if_neg e1, if_neg e2] at e'; exact h.inj i j (by omega) (by omega) e'
  · show (if i = n then x j else f i j) < 256
    split
    · exact hy j
    · exact h.bm i j
  · by_cases e : i = n
    · subst e; simp only [if_true]; exact hu
    · simp only [if_neg e]; exact h.up i (by omega)
/-- one row more, as long as all. -/
theorem Gr.pushU {wi : Nat} (h : Gr w B G n cap b (fun _ => wi) (fun _ => wi) f) (hn : n < cap) {g : Nat} {x : Nat → Nat} (hx : Bl w g wi wi x) (hm : wi ≤ maxLen) (hB : B ≤ g) (hne : ∀ i, i < n → b i ≠ g) (hy : Pf.By x) (hu : Pf.Up x wi)
    {f' : Nat → Nat → Nat} (hf : Mt.Bm f') (e1 : ∀ i j, i < n → f i j = f' i j) (e2 : ∀ j, x j = f' n j) :
    Gr (w.setCell ⟨G, n, none⟩ (.slice (some ⟨g, 0, none⟩) wi wi)) B G (n + 1) cap (fun i => if i = n then g else b i) (fun _ => wi) (fun _ => wi) f' := by
  have := h.push hn hx ⟨Nat.le_refl _, hm⟩ hB hne hy hu
  have e : (fun i => if i = n then wi else wi) = fun _ => wi := by funext i; split <;> rfl
  rw [e] at this
  refine this.congr hf fun i j hi => ?_
  show (if i = n then x j else f i j) = f' i j
  by_cases c : i = n
  · rw [if_pos c, c]; exact e2 j
  · rw [if_neg c]; exact e1 i j (by omega)
end
theorem gr_none {w : World} {B G cap : Nat} {b l c : Nat → Nat} {vs : Array Value} (h1 : w.heap[G]? = some (.cells vs 28 (0, 0))) (h2 : vs.size = cap) (hm : cap ≤ maxLen) (hB : B ≤ G) : Gr w B G 0 cap b l c (fun _ _ => 0) :=
  ⟨⟨vs, h1, h2, fun i hi => absurd hi (Nat.not_lt_zero i)⟩, fun i hi => absurd hi (Nat.not_lt_zero i), fun i hi => absurd hi (Nat.not_lt_zero i), ⟨Nat.zero_le _, hm⟩, ⟨hB, fun i hi => absurd hi (Nat.not_lt_zero i)⟩, fun i _ hi => absurd hi (Nat.not_lt_zero i), fun _ _ => (by omega : 0 < 256), fun i hi => absurd hi (Nat.not_lt_zero i)⟩
end Go.Proofs.YtjlmajopfeplpaaGreat

namespace Go.Proofs.YtjlmajopfeplpaaGreat
open Go.RowKit Go.Shelf

/-- a row of its own from B on, of which the first n are h; or none. -/
def Rq (W : World) (B : Nat) (a : Option Addr) (n cap : Nat) (h : Nat → Nat) : Prop :=
  (a = none ∧ n = 0 ∧ cap = 0) ∨ ∃ g, a = some ⟨g, 0, none⟩ ∧ B ≤ g ∧ Bl W g n cap h ∧ n ≤ cap ∧ cap ≤ maxLen
section
variable {W W' : World} {B n cap : Nat} {a : Option Addr} {h : Nat → Nat}
theorem Rq.kept (r : Rq W B a n cap h) (hk : ∀ g, a = some ⟨g, 0, none⟩ → g < W.heap.size → W'.heap[g]? = W.heap[g]?) : Rq W' B a n cap h := by
  rcases r with r | ⟨g, e, h1, h2, h3, h4⟩
  · exact Or.inl r
  · exact Or.inr ⟨g, e, h1, h2.kept (hk g e h2.lt), h3, h4⟩
theorem Rq.same (r : Rq W B a n cap h) (hB : Below W.heap.size W W') : Rq W' B a n cap h := r.kept fun g _ hl => hB.block g hl
theorem Rq.grown {row : Option Nat} (r : Rq W B a n cap h) (hg : W.grownBy W' row) (hr : ∀ g, a = some ⟨g, 0, none⟩ → some g ≠ row) : Rq W' B a n cap h := r.kept fun g e hl => hg.block g hl (hr g e)
theorem Rq.congr {h' : Nat → Nat} (r : Rq W B a n cap h) (he : ∀ i, i < n → h i = h' i) : Rq W B a n cap h' := by
  rcases r with r | ⟨g, e, h1, h2, h3, h4⟩
  · exact Or.inl r
  · exact Or.inr ⟨g, e, h1, h2.congr he, h3, h4⟩
theorem Rq.lt (r : Rq W B a n cap h) : ∀ g, a = some ⟨g, 0, none⟩ → B ≤ g ∧ g < W.heap.size := fun g e => by
  rcases r with ⟨r, _⟩ | ⟨g', e', h1, h2, _⟩
  · rw [r] at e; cases e
  · rw [e'] at e; cases e; exact ⟨h1, h2.lt⟩
theorem Rq.at_ (r : Rq W B a n cap h) {i : Nat} (hi : i < n) : ∃ g, a = some ⟨g, 0, none⟩ ∧ B ≤ g ∧ Bl W g n cap h := by
  rcases r with ⟨_, r, _⟩ | ⟨g, e, h1, h2, _⟩
  · omega
  · exact ⟨g, e, h1, h2⟩
theorem Rq.owns (r : Rq W B a n cap h) : W.ownsRow B 5 1 (.slice a n cap) n (rowv h n) := by
  rcases r with ⟨rfl, rfl, rfl⟩ | ⟨g, rfl, h1, ⟨vs, k1, k2, k3⟩, h3, h4⟩
  · exact World.ownsRow_nil _ _ _ _
  · refine ⟨by rw [rowv_len]; omega, Or.inr ⟨g, cap, vs, rfl, h1, k1, h3, h4, by omega, ?_⟩⟩
    apply List.ext_getElem?
    intro i
    rw [List.getElem?_take]
    by_cases c : i < n
    · rw [if_pos (by omega), Array.getElem?_toList, k3 i c, rowv_get c]
    · rw [if_neg (by omega), List.getElem?_eq_none (by rw [rowv_len]; omega)]
theorem Rq.of_owns {g : Nat} (ho : W.ownsRow B 5 1 (.slice (some ⟨g, 0, none⟩) n cap) n (rowv h n)) : Rq W B (some ⟨g, 0, none⟩) n cap h := by
  have hb := Bl.of_owns (h := h) ho (fun i hi => rowv_get hi)
  obtain ⟨_, h2 | ⟨g', cap', cur, e, hg, hh, hn, hm, hs, ht⟩⟩ := ho
  · exact absurd h2.1 (by simp)
  · simp only [Value.slice.injEq, Option.some.injEq, Addr.mk.injEq, and_true, true_and] at e
    obtain ⟨rfl, rfl⟩ := e
    exact Or.inr ⟨g, rfl, hg, hb, by omega, hm⟩
end
end Go.Proofs.YtjlmajopfeplpaaGreat

namespace Go.Proofs.YtjlmajopfeplpaaGreat
open Go.RowKit Go.Shelf

/-- a matrix in memory of its own, or none, without rows. -/
def Go_ (w : World) (B : Nat) (a : Option Addr) (n cap : Nat) (b l c : Nat → Nat) (f : Nat → Nat → Nat) : Prop := Mt.Bm f ∧ ((a = none ∧ n = 0 ∧ cap = 0) ∨ ∃ G, a = some ⟨G, 0, none⟩ ∧ Gr w B G n cap b l c f)
section
variable {w w' : World} {B n cap : Nat} {a : Option Addr} {b l c : Nat → Nat} {f : Nat → Nat → Nat}
theorem Go_.pos (h : Go_ w B a n cap b l c f) (hn : 0 < n) : ∃ G, a = some ⟨G, 0, none⟩ ∧ Gr w B G n cap b l c f := by
  rcases h.2 with h | h
  · omega
  · exact h
theorem Go_.same (h : Go_ w B a n cap b l c f) (hB : Below w.heap.size w w') : Go_ w' B a n cap b l c f := ⟨h.1, by
  rcases h.2 with h | ⟨G, e, h⟩
  · exact Or.inl h
  · exact Or.inr ⟨G, e, h.same hB⟩⟩
theorem Go_.rd (h : Go_ w B a n cap b l c f) : Rd w a n cap (fun i => some ⟨b i, 0, none⟩) l c f := by
  rcases h with ⟨hb, ⟨rfl, rfl, rfl⟩ | ⟨G, rfl, h⟩⟩
  · exact ⟨Nat.le_refl _, by unfold maxLen; omega, hb, fun _ => ⟨rfl, rfl⟩, fun _ e => (by cases e), fun _ e => (by cases e), fun i hi => absurd hi (Nat.not_lt_zero i)⟩
  · exact h.rd
theorem Go_.mono (h : Go_ w B a n cap b l c f) {B' : Nat} (hB : B' ≤ B) : Go_ w B' a n cap b l c f := ⟨h.1, by
  rcases h.2 with h | ⟨G, e, h⟩
  · exact Or.inl h
  · exact Or.inr ⟨G, e, h.mono hB⟩⟩
theorem Gr.go {G : Nat} (h : Gr w B G n cap b l c f) : Go_ w B (some ⟨G, 0, none⟩) n cap b l c f := ⟨h.bm, Or.inr ⟨G, rfl, h⟩⟩
theorem go_none (w : World) (B : Nat) (b l c : Nat → Nat) : Go_ w B none 0 0 b l c (fun _ _ => 0) := ⟨fun _ _ => (by omega : 0 < 256), Or.inl ⟨rfl, rfl, rfl⟩⟩
end

/-- rows that are put into a list, one behind the other. -/
structure Pr (w : World) (B : Nat) (a : Option Addr) (k cap : Nat) (b l c : Nat → Nat) (f : Nat → Nat → Nat) : Prop where
  own : w.ownsRow B 28 1 (.slice a k cap) k ((List.range k).map fun i => Value.slice (some ⟨b i, 0, none⟩) (l i) (c i))
  row : ∀ i, i < k → Bl w (b i) (l i) (c i) (f i)
  lc : ∀ i, i < k → l i ≤ c i ∧ c i ≤ maxLen
  lo : ∀ i, i < k → B ≤ b i
  inj : ∀ i j, i < k → j < k → b i = b j → i = j
  bm : Mt.Bm f
  up : ∀ i, i < k → Pf.Up (f i) (l i)
section
variable {w w' : World} {B k cap : Nat} {a : Option Addr} {b l c : Nat → Nat} {f : Nat → Nat → Nat}
theorem own_ne_bl {w : World} {B g n cap x m cp : Nat} {xs : List Value} {h : Nat → Nat} (ho : w.ownsRow B 28 1 (.slice (some ⟨g, 0, none⟩) n cap) n xs) (hb : Bl w x m cp h) : x ≠ g := by
  rintro rfl
  obtain ⟨h1, h2 | ⟨g', cap', cur, e, _, hh, _⟩⟩ := ho
  · exact absurd h2.1 (by simp)
  · simp only [Value.slice.injEq, Option.some.injEq, Addr.mk.injEq, and_true, true_and] at e
    obtain ⟨rfl, rfl⟩ := e
    obtain ⟨vs, h1, _⟩ := hb
    rw [hh] at h1
    injection h1 with h1
    injection h1 with _ h2
    exact absurd h2 (by decide)
theorem Pr.go (h : Pr w B a k cap b l c f) : Go_ w B a k cap b l c f := by
  refine ⟨h.bm, ?_⟩
  obtain ⟨h1, ⟨e, h2⟩ | ⟨g', cap', cur, e, hg, hh, hnc, hcm, hs, ht⟩⟩ := h.own
  · left
    simp only [Value.slice.injEq] at e
    exact e
  · simp only [Value.slice.injEq, true_and] at e
    obtain ⟨rfl, rfl⟩ := e
    refine Or.inr ⟨g', rfl, ⟨cur, hh, by simpa using hs, fun i hi => ?_⟩, h.row, h.lc, ⟨hnc, hcm⟩, ⟨hg, h.lo⟩, h.inj, h.bm, h.up⟩
    have : (cur.toList.take (k * 1))[i]? = some (.slice (some ⟨b i, 0, none⟩) (l i) (c i)) := by rw [ht]; simp [hi]
    rw [List.getElem?_take, if_pos (by omega), Array.getElem?_toList] at this
    exact this
theorem pr_none (w : World) (B : Nat) (b l c : Nat → Nat) : Pr w B none 0 0 b l c (fun _ _ => 0) :=
  ⟨World.ownsRow_nil _ _ _ _, fun i hi => absurd hi (Nat.not_lt_zero i), fun i hi => absurd hi (Nat.not_lt_zero i), fun i hi => absurd hi (Nat.not_lt_zero i), fun i _ hi => absurd hi (Nat.not_lt_zero i), fun _ _ => (by omega : 0 < 256), fun i hi => absurd hi (Nat.not_lt_zero i)⟩
/-- one row more: made in w1, put in w2. -/
theorem Pr.step {w1 w2 : World} {g ll cc G' cap' : Nat} {x : Nat → Nat} (h : Pr w B a k cap b l c f) (hW : Below w.heap.size w w1) (hx : Bl w1 g ll cc x) (hg : w.heap.size ≤ g) (hB : B ≤ w.heap.size) (h1 : ll ≤ cc ∧ cc ≤ maxLen) (hy : Pf.By x) (hu : Pf.Up x ll)
    (hown : w2.ownsRow B 28 1 (.slice (some ⟨G', 0, none⟩) (k + 1) cap') (k + 1) (((List.range k).map fun i => Value.slice (some ⟨b i, 0, none⟩) (l i) (c i)) ++ [.slice (some ⟨g, 0, none⟩) ll cc]))
    (hc : a = some ⟨G', 0, none⟩ ∧ cap' = cap ∧ w1.grownBy w2 (some G') ∨ w1.heap.size ≤ G' ∧ w1.grownBy w2 none) :
    Pr w2 B (some ⟨G', 0, none⟩) (k + 1) cap' (fun i => if i = k then g else b i) (fun i => if i = k then ll else l i) (fun i => if i = k then cc else c i) (fun i j => if i = k then x j else f i j) := by
  have hlt : ∀ i, i < k → b i < w.heap.size := fun i hi => (h.row i hi).lt
  have hkeep : ∀ y m cp (z : Nat → Nat), Bl w1 y m cp z → Bl w2 y m cp z := fun y m cp z hz => by
    refine hz.kept ?_
    rcases hc with ⟨e, _, hgr⟩ | ⟨hG, hgr⟩
    · refine hgr.block y hz.lt (fun e2 => ?_)
      injection e2 with e2
      subst e
      exact own_ne_bl (own_below h.own hW) hz e2
    · exact hgr.block y hz.lt (by simp)
  refine ⟨?_, fun i hi => ?_, fun i hi => ?_, fun i hi => ?_, fun i j hi hj e => ?_, fun i j => ?_, fun i hi => ?_⟩
  · rw [List.range_succ, List.map_append]
    have e1 : ((List.range k).map fun i => Value.slice (some ⟨if i = k then g else b i, 0, none⟩) (if i = k then ll else l i) (if i = k then cc else c i)) = (List.range k).map fun i => Value.slice (some ⟨b i, 0, none⟩) (l i) (c i) :=
      List.map_congr_left fun i hi => by
        have := List.mem_range.1 hi
        rw [if_neg (by omega), if_neg (by omega), if_neg (by omega)]
    rw [e1]
    simp only [List.map_cons, List.map_nil, if_true]
    exact hown
  · by_cases e : i = k
    · subst e
      simp only [if_true]
      exact hkeep _ _ _ _ hx
    · simp only [if_neg e]
      exact hkeep _ _ _ _ ((h.row i (by omega)).kept (hW.block _ (hlt i (by omega))))
  · by_cases e : i = k
    · subst e; simp only [if_true]; exact h1
    · simp only [if_neg e]; exact h.lc i (by omega)
  · by_cases e : i = k
    · subst e; simp only [if_true]; omega
    · simp only [if_neg e]; exact h.lo i (by omega)
  · have e' : (if i = k then g else b i) = (if j = k then g else b j) := e
    by_cases e1 : i = k <;> by_cases e2 : j = k
    · omega
    · rw [if_pos e1, if_neg e2] at e'; have := hlt j (by omega); omega
    · rw [if_neg e1, if_pos e2] at e'; have := hlt i (by omega); omega
    · rw [if_neg e1, if_neg e2] at e'; exact h.inj i j (by omega) (by omega) e'
  · show (if i = k then x j else f i j) < 256
    split
    · exact hy j
    · exact h.bm i j
  · by_cases e : i = k
    · subst e; simp only [if_true]; exact hu
    · simp only [if_neg e]; exact h.up i (by omega)
end
theorem Pr.congr {w : World} {B k cap : Nat} {a : Option Addr} {b l c l' c' : Nat → Nat} {f f' : Nat → Nat → Nat} (h : Pr w B a k cap b l c f) (hl : ∀ i, i < k → l i = l' i) (hc : ∀ i, i < k → c i = c' i) (hf : Mt.Bm f') (e : ∀ i j, i < k → f i j = f' i j) : Pr w B a k cap b l' c' f' := by
  have e1 : ((List.range k).map fun i => Value.slice (some ⟨b i, 0, none⟩) (l i) (c i)) = (List.range k).map fun i => Value.slice (some ⟨b i, 0, none⟩) (l' i) (c' i) :=
    List.map_congr_left fun i hi => by
      have := List.mem_range.1 hi
      rw [hl i this, hc i this]
  refine ⟨e1 ▸ h.own, fun i hi => ?_, fun i hi => by rw [← hl i hi, ← hc i hi]; exact h.lc i hi, h.lo, h.inj, hf, fun i hi j hj => ?_⟩
  · rw [← hl i hi, ← hc i hi]; exact (h.row i hi).congr fun j _ => e i j hi
  · rw [← e i j hi]; exact h.up i hi j (by rw [hl i hi]; exact hj)

theorem below_apn {B g cap cap' : Nat} {a : Option Addr} {w0 w w' : World} (hB : Below B w0 w) (hw : B ≤ w.heap.size) (hc : a = some ⟨g, 0, none⟩ ∧ cap' = cap ∧ w.grownBy w' (some g) ∨ w.heap.size ≤ g ∧ w.grownBy w' none) (ha : ∀ g, a = some ⟨g, 0, none⟩ → B ≤ g) : Below B w0 w' := by
  rcases hc with ⟨e, _, hg⟩ | ⟨_, hg⟩
  · exact hB.grown hg hw (fun k e2 => by cases e2; exact ha g e)
  · exact hB.grown hg hw (fun k e2 => by cases e2)

end Go.Proofs.YtjlmajopfeplpaaGreat

namespace Go.Proofs.YtjlmajopfeplpaaGreat
open Go.RowKit Go.Shelf

/-- the mark, as a number from 0 on. -/
def mkN (k i : Nat) : Nat := (mkB k i).toNat
theorem mkN_eq (k i : Nat) : ((mkN k i : Nat) : Int) = mkB k i := by have := mkB_bd k i; unfold mkN; omega
theorem mkN_lt (k i : Nat) : mkN k i < 256 := by have := mkB_bd k i; unfold mkN; omega
theorem markN_any (k i : Nat) (x y : Int) (hx : x = (k : Int)) (hy : y = (i : Int)) (hk : k ≤ 1000000) (hi : i ≤ 1000000000000) (w : World) :
    Calls Tryz.prog 29 #[.int .i64 x, .int .i64 y] w fun e w' => e = .returned (.int .u8 (mkN k i : Nat)) ∧ w' = w := by
  subst hx hy
  rw [mkN_eq]
  exact markByte_any k i (by omega) (by omega) (by omega) (by omega) w

/-- the block that a slice lies in. -/
def blk (a : Option Addr) : Option Nat := a.map Addr.block
theorem own_blk (a : Option Addr) (l c : Nat) : (Value.slice a l c).ownBlock = blk a := by cases a <;> rfl

/-- a list of slices of bytes, each of a row of its own: of ll elements each, of which the first l read as h. -/
structure Bag (w : World) (B L n : Nat) (a : Nat → Option Addr) (ll l c : Nat → Nat) (h : Nat → Nat → Nat) : Prop where
  lst : ∀ k, k < n → w.cell? ⟨L, k, none⟩ = some (.slice (a k) (ll k) (c k))
  own : ∀ k, k < n → w.ownsRow B 5 1 (.slice (a k) (l k) (c k)) (l k) (rowv (h k) (l k))
/-- no two lie in one block. -/
def Sep (a : Nat → Option Addr) (n : Nat) : Prop := ∀ i j, i < n → j < n → i ≠ j → blk (a i) = none ∨ blk (a i) ≠ blk (a j)
/-- none lies in this block. -/
def Not (a : Nat → Option Addr) (n L : Nat) : Prop := ∀ k, k < n → blk (a k) ≠ some L

section
variable {w w' : World} {B L n : Nat} {a : Nat → Option Addr} {ll l c : Nat → Nat} {h : Nat → Nat → Nat}
theorem Bag.grown {row : Option Nat} (hb : Bag w B L n a ll l c h) (hg : w.grownBy w' row) (hL : some L ≠ row) (hr : ∀ k, k < n → blk (a k) = none ∨ blk (a k) ≠ row) : Bag w' B L n a ll l c h :=
  ⟨fun k hk => hg.cell (hb.lst k hk) hL, fun k hk => (hb.own k hk).kept hg (by rw [own_blk]; exact hr k hk)⟩
theorem Bag.grown0 (hb : Bag w B L n a ll l c h) (hg : w.grownBy w' none) : Bag w' B L n a ll l c h :=
  hb.grown hg (by simp) fun k _ => by cases blk (a k) <;> simp
theorem Bag.below (hb : Bag w B L n a ll l c h) (hB : Below w.heap.size w w') : Bag w' B L n a ll l c h := hb.grown0 (grownBelow hB none)
theorem Bag.lt (hb : Bag w B L n a ll l c h) {k g : Nat} (hk : k < n) (e : blk (a k) = some g) : B ≤ g ∧ g < w.heap.size := (hb.own k hk).lt g (by rw [own_blk]; exact e)
theorem Bag.far (hb : Bag w B L n a ll l c h) {g : Nat} (hg : w.heap.size ≤ g) : ∀ k, k < n → blk (a k) = none ∨ blk (a k) ≠ some g := fun k hk => by
  right; intro e
  have := (hb.lt hk e).2
  omega
theorem Bag.ltL (hb : Bag w B L n a ll l c h) (hn : 0 < n) : L < w.heap.size := World.block_lt_of_cell? _ _ (hb.lst 0 hn)
theorem Bag.at_ (hb : Bag w B L n a ll l c h) {k i : Nat} (hk : k < n) (hi : i < l k) : ∃ g, a k = some ⟨g, 0, none⟩ ∧ w.cell? ⟨g, i, none⟩ = some (.int .u8 (h k i : Nat)) ∧ w.frozen? ⟨g, i, none⟩ = false := by
  obtain ⟨g, cap, hv, _, _⟩ := (hb.own k hk).form (by omega)
  simp only [Value.slice.injEq, true_and] at hv
  have o := hb.own k hk
  rw [hv.1] at o
  exact ⟨g, hv.1, by rw [o.cellAt i (by omega), rowv_get hi], o.frozenAt i⟩
theorem Bag.congr {h' : Nat → Nat → Nat} (hb : Bag w B L n a ll l c h) (he : ∀ k i, k < n → i < l k → h k i = h' k i) : Bag w B L n a ll l c h' :=
  ⟨hb.lst, fun k hk => by rw [← rowv_congr fun i hi => he k i hk hi]; exact hb.own k hk⟩
theorem Bag.set (hb : Bag w B L n a ll l c h) {k i g : Nat} (hk : k < n) (e : a k = some ⟨g, 0, none⟩) (hs : Sep a n) (hL : Not a n L) (v : Nat) :
    Bag (w.setCell ⟨g, i, none⟩ (.int .u8 (v : Nat))) B L n a ll l c (fun j x => if j = k ∧ x = i then v else h j x) := by
  have hg := grownSet w g i (.int .u8 (v : Nat))
  refine ⟨fun j hj => hg.cell (hb.lst j hj) (fun h => hL k hk (by rw [e]; exact h.symm)), fun j hj => ?_⟩
  by_cases hjk : j = k
  · subst hjk
    have o := hb.own j hj
    rw [e] at o ⊢
    have := (o.stored i (.int .u8 (v : Nat))).1
    rw [rowv_set] at this
    rw [rowv_congr (g := fun x => if x = i then v else h j x) fun x _ => by simp]
    exact this
  · rw [rowv_congr (g := h j) fun x _ => by simp [hjk]]
    refine (hb.own j hj).kept hg ?_
    rw [own_blk]
    rcases hs j k hj hk hjk with h | h
    · exact Or.inl h
    · right; rw [e] at h; exact h
/-- behind an append onto one of them. -/
theorem Bag.app (hb : Bag w B L n a ll l c h) {k g x cap' : Nat} {ys : List Value} (hk : k < n) (hs : Sep a n) (hL : Not a n L)
    (hown : w'.ownsRow B 5 1 (.slice (some ⟨g, 0, none⟩) (l k + x) cap') (l k + x) ys) (hys : ys.take (l k) = rowv (h k) (l k)) (e : a k = some ⟨g, 0, none⟩) (ec : cap' = c k) (hg : w.grownBy w' (some g)) : Bag w' B L n a ll l c h := by
  refine ⟨fun j hj => hg.cell (hb.lst j hj) (fun h => hL k hk (by rw [e]; exact h.symm)), fun j hj => ?_⟩
  by_cases hjk : j = k
  · subst hjk
    have := own_short hown
    rw [hys, ec, ← e] at this
    exact this
  · refine (hb.own j hj).kept hg ?_
    rw [own_blk]
    rcases hs j k hj hk hjk with h | h
    · exact Or.inl h
    · right; rw [e] at h; exact h
end

/-- below B all is as it was; and of what was there nothing has turned but the rows. -/
structure Bel (B n : Nat) (a : Nat → Option Addr) (w wr : World) : Prop where
  be : Below B w wr
  kp : ∀ g, g < w.heap.size → (∀ k, k < n → blk (a k) ≠ some g) → wr.heap[g]? = w.heap[g]?
section
variable {B n : Nat} {a : Nat → Option Addr} {w wr w' : World}
theorem Bel.refl (B n : Nat) (a : Nat → Option Addr) (w : World) : Bel B n a w w := ⟨Below.refl _ _, fun _ _ _ => rfl⟩
theorem Bel.size (h : Bel B n a w wr) : w.heap.size ≤ wr.heap.size := h.be.size
theorem Bel.grown0 (h : Bel B n a w wr) (hg : wr.grownBy w' none) (hB : B ≤ w.heap.size) : Bel B n a w w' :=
  ⟨h.be.grown hg (Nat.le_trans hB h.size) (fun x hx => by cases hx), fun g hl hn => (hg.block g (Nat.lt_of_lt_of_le hl h.size) (by simp)).trans (h.kp g hl hn)⟩
theorem Bel.drewN (h : Bel B n a w wr) (hB : B ≤ w.heap.size) (q : Nat) : Bel B n a w (wr.drewN q) := h.grown0 (grownBelow (below_drewN (Below.refl _ _) q) none) hB
theorem Bel.grownRow {g k : Nat} (h : Bel B n a w wr) (hg : wr.grownBy w' (some g)) (hB : B ≤ w.heap.size) (hk : k < n) (e : blk (a k) = some g) (hb : B ≤ g) : Bel B n a w w' :=
  ⟨h.be.grown hg (Nat.le_trans hB h.size) (fun x hx => by cases hx; exact hb), fun x hl hn => (hg.block x (Nat.lt_of_lt_of_le hl h.size) (fun hh => hn k hk (by rw [e, ← hh]))).trans (h.kp x hl hn)⟩
theorem Bel.grownNew {g : Nat} (h : Bel B n a w wr) (hg : wr.grownBy w' (some g)) (hB : B ≤ w.heap.size) (hb : w.heap.size ≤ g) : Bel B n a w w' :=
  ⟨h.be.grown hg (Nat.le_trans hB h.size) (fun x hx => by cases hx; exact Nat.le_trans hB hb), fun x hl hn => (hg.block x (Nat.lt_of_lt_of_le hl h.size) (fun hh => by cases hh; omega)).trans (h.kp x hl hn)⟩
end

/-- a block of so many slices of bytes. -/
def Gb (w : World) (G n : Nat) : Prop := ∃ vs : Array Value, w.heap[G]? = some (.cells vs 28 (0, 0)) ∧ vs.size = n
theorem Gb.grown {w w' : World} {G n : Nat} {row : Option Nat} (h : Gb w G n) (hg : w.grownBy w' row) (hr : some G ≠ row) : Gb w' G n := by
  obtain ⟨vs, h1, h2⟩ := h
  exact ⟨vs, (hg.block G (Array.getElem?_eq_some_iff.1 h1).1 hr).trans h1, h2⟩
theorem Gb.lt {w : World} {G n : Nat} (h : Gb w G n) : G < w.heap.size := by
  obtain ⟨vs, h1, h2⟩ := h
  exact (Array.getElem?_eq_some_iff.1 h1).1
theorem Gb.cell {w : World} {G n k : Nat} (h : Gb w G n) (hk : k < n) : ∃ v, w.cell? ⟨G, k, none⟩ = some v := by
  obtain ⟨vs, h1, h2⟩ := h
  rw [cell_of_row w G k vs _ _ h1]
  exact ⟨vs[k]'(by omega), by simp [h2, hk]⟩
theorem Gb.free {w : World} {G n : Nat} (h : Gb w G n) (k : Nat) : w.frozen? ⟨G, k, none⟩ = false := by
  obtain ⟨vs, h1, h2⟩ := h
  exact frozen_of_row w G k vs _ h1
theorem Gb.set {w : World} {G n k : Nat} (h : Gb w G n) (v : Value) : Gb (w.setCell ⟨G, k, none⟩ v) G n := by
  obtain ⟨vs, h1, h2⟩ := h
  exact ⟨vs.setIfInBounds k v, heap_setCell_same w G k vs _ _ h1, by simpa using h2⟩
theorem Gb.cellSet {w : World} {G n k : Nat} (h : Gb w G n) (hk : k < n) (v : Value) : (w.setCell ⟨G, k, none⟩ v).cell? ⟨G, k, none⟩ = some v := by
  obtain ⟨vs, h1, h2⟩ := h
  rw [cell_of_row _ G k _ _ _ (heap_setCell_same w G k vs _ _ h1)]
  simp [h2, hk]
theorem Gb.cellOther {w : World} {G n k j : Nat} (h : Gb w G n) (hj : j ≠ k) (v : Value) : (w.setCell ⟨G, k, none⟩ v).cell? ⟨G, j, none⟩ = w.cell? ⟨G, j, none⟩ := by
  obtain ⟨vs, h1, h2⟩ := h
  rw [cell_of_row _ G j _ _ _ (heap_setCell_same w G k vs _ _ h1), cell_of_row _ G j _ _ _ h1, Array.getElem?_setIfInBounds, if_neg (fun e => hj e.symm)]
/-- one slice more is put into the second list. -/
theorem Bag.put {w : World} {B G n k : Nat} {a : Nat → Option Addr} {ll l c : Nat → Nat} {h : Nat → Nat → Nat} (hb : Bag w B G k a ll l c h) (hg : Gb w G n) (hk : k < n) (ho : Not a k G) {x : Option Addr} {cx : Nat}
    (hx : blk x ≠ some G) (hown : w.ownsRow B 5 1 (.slice x (l k) cx) (l k) (rowv (h k) (l k))) :
    Bag (w.setCell ⟨G, k, none⟩ (.slice x (ll k) cx)) B G (k + 1) (fun j => if j = k then x else a j) ll l (fun j => if j = k then cx else c j) h := by
  have hgr := grownSet w G k (.slice x (ll k) cx)
  refine ⟨fun j hj => ?_, fun j hj => ?_⟩
  · by_cases e : j = k
    · subst e; simp only [if_pos]; exact hg.cellSet hk _
    · simp only [if_neg e]; rw [hg.cellOther e]; exact hb.lst j (by omega)
  · by_cases e : j = k
    · subst e; simp only [if_pos]
      exact hown.kept hgr (by rw [own_blk]; exact Or.inr hx)
    · simp only [if_neg e]
      exact (hb.own j (by omega)).kept hgr (by rw [own_blk]; exact Or.inr (ho j (by omega)))

/-- slices that are grown one by one: before the one k; that one has i more; wq: the world before it. -/
structure St4 (wq wr : World) (B L G n k i : Nat) (a : Nat → Option Addr) (l c : Nat → Nat) (hf : Nat → Option Addr) (df : Nat → Nat) (gA : Option Addr) (gC : Nat) : Prop where
  own : wr.ownsRow B 5 1 (.slice gA (l k + i) gC) (l k + i) (rowv (mkN k) (l k + i))
  org : gA = a k ∧ gC = c k ∨ ∃ x, gA = some ⟨x, 0, none⟩ ∧ wq.heap.size ≤ x
  bl : Bag wr B L n a l l c mkN
  bg : Bag wr B G k hf (fun j => l j + 64) (fun j => l j + 64) df mkN
  gb : Gb wr G n
  sz : wq.heap.size ≤ wr.heap.size
/-- what stands fast meanwhile. -/
structure Fix4 (w wq : World) (B L G n k : Nat) (a : Nat → Option Addr) (hf : Nat → Option Addr) : Prop where
  hk : k < n
  sep : Sep a n
  noL : Not a n L
  noG : Not a n G
  nhG : Not hf k G
  sh : ∀ j i, j < k → i < n → j ≠ i → blk (hf j) ≠ none → blk (hf j) ≠ blk (a i)
  fa : ∀ j g, j < n → blk (a j) = some g → g < wq.heap.size
  fh : ∀ j g, j < k → blk (hf j) = some g → g < wq.heap.size
  lL : L < wq.heap.size
  lG : G < wq.heap.size
  bL : B ≤ L
  bG : B ≤ G
  ne : L ≠ G
  bw : B ≤ w.heap.size
  ws : w.heap.size ≤ wq.heap.size
  wG : w.heap.size ≤ G
theorem St4.step {w wq wi w6 : World} {B L G n k i g cap' : Nat} {a : Nat → Option Addr} {l c : Nat → Nat} {hf : Nat → Option Addr} {df : Nat → Nat} {gA : Option Addr} {gC : Nat} {o : Obj}
    (h : St4 wq wi B L G n k i a l c hf df gA gC) (f : Fix4 w wq B L G n k a hf) (hB : Bel B n a w wi)
    (hown : w6.ownsRow B 5 1 (.slice (some ⟨g, 0, none⟩) (l k + i + 1) cap') (l k + i + 1) (rowv (mkN k) (l k + i) ++ [.int .u8 (mkN k (l k + i) : Nat)]))
    (hc : gA = some ⟨g, 0, none⟩ ∧ cap' = gC ∧ (wi.alloc o).grownBy w6 (some g) ∨ (wi.alloc o).heap.size ≤ g ∧ (wi.alloc o).grownBy w6 none) :
    St4 wq w6 B L G n k (i + 1) a l c hf df (some ⟨g, 0, none⟩) cap' ∧ Bel B n a w w6 := by
  rw [← rowv_succ] at hown
  have hgB := (hown.lt g rfl).1
  have bl := h.bl.grown0 (grown_alloc wi o)
  have bg := h.bg.grown0 (grown_alloc wi o)
  have gb := h.gb.grown (grown_alloc wi o) (by simp)
  have hsz := h.sz
  have hws := f.ws
  have hBa := hB.grown0 (grown_alloc wi o) f.bw
  have hsa : wi.heap.size ≤ (wi.alloc o).heap.size := by simp
  rcases hc with ⟨e, ec, hg⟩ | ⟨hge, hg⟩
  · have hs6 : wq.heap.size ≤ w6.heap.size := Nat.le_trans (Nat.le_trans hsz hsa) hg.size
    rcases h.org with ⟨ea, eca⟩ | ⟨x, ex, hx⟩
    · have ea' : a k = some ⟨g, 0, none⟩ := by rw [← ea, e]
      have hbk : blk (a k) = some g := by rw [ea']; rfl
      have hBw6 := hBa.grownRow hg f.bw f.hk hbk hgB
      refine ⟨⟨hown, Or.inl ⟨ea'.symm, by rw [ec, eca]⟩, bl.app (x := i + 1) f.hk f.sep f.noL hown (show (rowv (mkN k) (l k + (i + 1))).take (l k) = _ from rowv_take) ea' (by rw [ec, eca]) hg, bg.grown hg (fun hh => f.noG k f.hk (by rw [hbk, ← hh])) (fun j hj => ?_), gb.grown hg (fun hh => f.noG k f.hk (by rw [hbk, ← hh])), hs6⟩, hBw6⟩
      by_cases hn : blk (hf j) = none
      · exact Or.inl hn
      · right; rw [← hbk]; exact f.sh j k hj f.hk (by omega) hn
    · rw [ex] at e
      cases e
      have hBw6 := hBa.grownNew hg f.bw (Nat.le_trans hws hx)
      refine ⟨⟨hown, Or.inr ⟨g, rfl, hx⟩, bl.grown hg (fun hh => by cases hh; have := f.lL; omega) (fun j hj => Or.inr (fun hh => by have := f.fa j g hj hh; omega)), bg.grown hg (fun hh => by cases hh; have := f.lG; omega) (fun j hj => Or.inr (fun hh => by have := f.fh j g hj hh; omega)), gb.grown hg (fun hh => by cases hh; have := f.lG; omega), hs6⟩, hBw6⟩
  · refine ⟨⟨hown, Or.inr ⟨g, rfl, by omega⟩, bl.grown0 hg, bg.grown0 hg, gb.grown hg (by simp), Nat.le_trans (Nat.le_trans hsz hsa) hg.size⟩, hBa.grown0 hg f.bw⟩
/-- .. and is put into the second list. -/
theorem St4.out {w wq wr : World} {B L G n k : Nat} {a : Nat → Option Addr} {l c : Nat → Nat} {hf : Nat → Option Addr} {df : Nat → Nat} {gA : Option Addr} {gC : Nat}
    (h : St4 wq wr B L G n k 64 a l c hf df gA gC) (f : Fix4 w wq B L G n k a hf) (hB : Bel B n a w wr) :
    ∃ hf' df', Bag (wr.setCell ⟨G, k, none⟩ (.slice gA (l k + 64) gC)) B L n a l l c mkN ∧ Bag (wr.setCell ⟨G, k, none⟩ (.slice gA (l k + 64) gC)) B G (k + 1) hf' (fun j => l j + 64) (fun j => l j + 64) df' mkN ∧
      Gb (wr.setCell ⟨G, k, none⟩ (.slice gA (l k + 64) gC)) G n ∧ Not hf' (k + 1) G ∧ (∀ j i, j < k + 1 → i < n → j ≠ i → blk (hf' j) ≠ none → blk (hf' j) ≠ blk (a i)) ∧ Bel B n a w (wr.setCell ⟨G, k, none⟩ (.slice gA (l k + 64) gC)) := by
  have hgA : blk gA ≠ some G := by
    rcases h.org with ⟨e, _⟩ | ⟨x, e, hx⟩
    · rw [e]; exact f.noG k f.hk
    · rw [e]; intro hh; have hh : some x = some G := hh; cases hh; have := f.lG; omega
  refine ⟨fun j => if j = k then gA else hf j, fun j => if j = k then gC else df j, ?_, h.bg.put h.gb f.hk f.nhG hgA h.own, h.gb.set _, ?_, ?_, hB.grownNew (grownSet _ _ _ _) f.bw f.wG⟩
  · exact h.bl.grown (grownSet _ _ _ _) (fun hh => by cases hh; exact f.ne rfl) (fun j hj => Or.inr (f.noG j hj))
  · intro j hj
    by_cases e : j = k
    · subst e; simp only [if_pos]; exact hgA
    · simp only [if_neg e]; exact f.nhG j (by omega)
  · intro j i hj hi hji hn
    by_cases e : j = k
    · subst e
      simp only [if_pos] at hn ⊢
      rcases h.org with ⟨e, _⟩ | ⟨x, e, hx⟩
      · rw [e] at hn ⊢
        rcases f.sep j i f.hk hi hji with h1 | h1
        · exact absurd h1 hn
        · exact h1
      · rw [e]
        intro hh
        have := f.fa i x hi hh.symm
        omega
    · simp only [if_neg e] at hn ⊢
      exact f.sh j i (by omega) hi hji hn
/-- slices that are grown by many at once: before the one k. -/
structure Fin5 (w wr : World) (B L G n k : Nat) (a : Nat → Option Addr) (l c : Nat → Nat) (hf : Nat → Option Addr) (df : Nat → Nat) : Prop where
  bl : Bag wr B L n a l l c mkN
  bg : Bag wr B G k hf (fun j => l j + 64) l df mkN
  gb : Gb wr G n
  ng : Not hf k G
  sh : ∀ j i, j < k → i < n → j ≠ i → blk (hf j) ≠ none → blk (hf j) ≠ blk (a i)
  be : Bel B n a w wr
section
variable {w wq wi w6 : World} {B L G n k : Nat} {a : Nat → Option Addr} {l c : Nat → Nat} {hf : Nat → Option Addr} {df : Nat → Nat}
theorem Fin5.grown0 (h : Fin5 w wi B L G n k a l c hf df) (hg : wi.grownBy w6 none) (hB : B ≤ w.heap.size) : Fin5 w w6 B L G n k a l c hf df :=
  ⟨h.bl.grown0 hg, h.bg.grown0 hg, h.gb.grown hg (by simp), h.ng, h.sh, h.be.grown0 hg hB⟩
theorem Fin5.setM (h : Fin5 w wi B L G n k a l c hf df) (f : Fix4 w wq B L G n k a hf) {M : Nat} (hM : wq.heap.size ≤ M) (i : Nat) (u : Value) : Fin5 w (wi.setCell ⟨M, i, none⟩ u) B L G n k a l c hf df := by
  have hg := grownSet wi M i u
  have lL := f.lL
  have lG := f.lG
  have hws := f.ws
  exact ⟨h.bl.grown hg (fun hh => by cases hh; omega) (fun j hj => Or.inr fun hh => by have := f.fa j M hj hh; omega), h.bg.grown hg (fun hh => by cases hh; omega) (fun j hj => Or.inr fun hh => by have := f.fh j M hj hh; omega),
    h.gb.grown hg (fun hh => by cases hh; omega), h.ng, h.sh, h.be.grownNew hg f.bw (by omega)⟩
theorem Fin5.app {g cap' : Nat} {news : List Value} (h : Fin5 w wi B L G n k a l c hf df) (f : Fix4 w wq B L G n k a hf) (hsz : wq.heap.size ≤ wi.heap.size)
    (hown : w6.ownsRow B 5 1 (.slice (some ⟨g, 0, none⟩) (l k + 64) cap') (l k + 64) (rowv (mkN k) (l k) ++ news))
    (hc : a k = some ⟨g, 0, none⟩ ∧ cap' = c k ∧ wi.grownBy w6 (some g) ∨ wi.heap.size ≤ g ∧ wi.grownBy w6 none) :
    Gb w6 G n ∧ ∃ hf' df', Fin5 w (w6.setCell ⟨G, k, none⟩ (.slice (some ⟨g, 0, none⟩) (l k + 64) cap')) B L G n (k + 1) a l c hf' df' := by
  have lL := f.lL
  have lG := f.lG
  have bL := f.bL
  have hgB := (hown.lt g rfl).1
  have htk : (rowv (mkN k) (l k) ++ news).take (l k) = rowv (mkN k) (l k) := by
    rw [List.take_append_of_le_length (by rw [rowv_len]; omega), List.take_of_length_le (by rw [rowv_len]; omega)]
  have hsh := own_short hown
  rw [htk] at hsh
  have key : Bag w6 B L n a l l c mkN ∧ Bag w6 B G k hf (fun j => l j + 64) l df mkN ∧ Gb w6 G n ∧ Bel B n a w w6 ∧ g ≠ G ∧ ∀ i, i < n → k ≠ i → some g ≠ blk (a i) := by
    rcases hc with ⟨e, ec, hg⟩ | ⟨hge, hg⟩
    · have hbk : blk (a k) = some g := by rw [e]; rfl
      have hgG : g ≠ G := fun hh => f.noG k f.hk (by rw [hbk, hh])
      refine ⟨h.bl.app f.hk f.sep f.noL hown htk e ec hg, h.bg.grown hg (fun hh => hgG (by cases hh; rfl)) (fun j hj => ?_), h.gb.grown hg (fun hh => hgG (by cases hh; rfl)), h.be.grownRow hg f.bw f.hk hbk hgB, hgG, fun i hi hki hh => ?_⟩
      · by_cases hn : blk (hf j) = none
        · exact Or.inl hn
        · right; rw [← hbk]; exact f.sh j k hj f.hk (by omega) hn
      · rcases f.sep k i f.hk hi hki with h1 | h1
        · rw [hbk] at h1; cases h1
        · exact h1 (by rw [hbk, hh])
    · exact ⟨h.bl.grown0 hg, h.bg.grown0 hg, h.gb.grown hg (by simp), h.be.grown0 hg f.bw, by omega, fun i hi _ hh => by have := f.fa i g hi hh.symm; omega⟩
  obtain ⟨bl, bg, gb, be, hgG, hgi⟩ := key
  refine ⟨gb, fun j => if j = k then some ⟨g, 0, none⟩ else hf j, fun j => if j = k then cap' else df j, ?_, bg.put gb f.hk f.nhG (fun hh => hgG (by cases hh; rfl)) hsh, gb.set _, ?_, ?_, be.grownNew (grownSet _ _ _ _) f.bw f.wG⟩
  · exact bl.grown (grownSet _ _ _ _) (fun hh => by cases hh; exact f.ne rfl) (fun j hj => Or.inr (f.noG j hj))
  · intro j hj
    by_cases e : j = k
    · subst e; simp only [if_pos]; exact fun hh => hgG (by cases hh; rfl)
    · simp only [if_neg e]; exact f.nhG j (by omega)
  · intro j i hj hi hji hn
    by_cases e : j = k
    · subst e
      simp only [if_pos]
      exact hgi i hi hji
    · simp only [if_neg e] at hn ⊢
      exact f.sh j i (by omega) hi hji hn
end
end Go.Proofs.YtjlmajopfeplpaaGreat

namespace Go.Proofs.YtjlmajopfeplpaaGreat
open Go.RowKit Go.Shelf

end Go.Proofs.YtjlmajopfeplpaaGreat

/-
  As Ab's append, where the block may go on behind the slice's capacity (bytes.Join, bytealg.MakeNoZero(n)[:n:n]).
-/
namespace Go.Proofs.YtjlmajopfeplpaaGreat.Oz
open Go.RowKit Go.Shelf

/-- a slice of a block of its own, which may be longer than the slice's capacity. -/
def OzRow (w : World) (base : Nat) (e : TypeId) (size : Nat) (v : Value) (n : Nat) (xs : List Value) : Prop :=
  xs.length = n * size ∧
  ((v = .slice none 0 0 ∧ n = 0) ∨
   ∃ g cap cur, v = .slice (some ⟨g, 0, none⟩) n cap ∧ base ≤ g ∧ w.heap[g]? = some (.cells cur e (0, 0)) ∧ n ≤ cap ∧ cap ≤ maxLen ∧ cap * size ≤ cur.size ∧ cur.toList.take (n * size) = xs)
theorem of_owns {w : World} {base : Nat} {e : TypeId} {size : Nat} {v : Value} {n : Nat} {xs : List Value} (h : w.ownsRow base e size v n xs) : OzRow w base e size v n xs :=
  ⟨h.1, h.2.imp id fun ⟨g, cap, cur, h1, h2, h3, h4, h5, h6, h7⟩ => ⟨g, cap, cur, h1, h2, h3, h4, h5, by omega, h7⟩⟩
section
variable {w w' : World} {base : Nat} {e : TypeId} {size : Nat} {v : Value} {n : Nat} {xs : List Value}
theorem OzRow_nil (w : World) (base : Nat) (e : TypeId) (size : Nat) : OzRow w base e size (.slice none 0 0) 0 [] := of_owns (World.ownsRow_nil w base e size)
theorem OzRow.lt (h : OzRow w base e size v n xs) : ∀ k, v.ownBlock = some k → base ≤ k ∧ k < w.heap.size := by
  intro k hk
  rcases h.2 with ⟨rfl, _⟩ | ⟨g, cap, cur, rfl, hb, hg, _⟩
  · simp [Value.ownBlock] at hk
  · simp [Value.ownBlock] at hk
    subst hk
    exact ⟨hb, (Array.getElem?_eq_some_iff.1 hg).1⟩
theorem OzRow.kept {row : Option Nat} (h : OzRow w base e size v n xs) (hg : w.grownBy w' row) (hne : v.ownBlock = none ∨ v.ownBlock ≠ row) : OzRow w' base e size v n xs := by
  refine ⟨h.1, ?_⟩
  rcases h.2 with hn | ⟨g, cap, cur, rfl, hb, hgg, rest⟩
  · exact .inl hn
  · refine .inr ⟨g, cap, cur, rfl, hb, ?_, rest⟩
    rw [hg.block g (Array.getElem?_eq_some_iff.1 hgg).1 (by simpa [Value.ownBlock] using hne)]
    exact hgg
theorem OzRow.alloc (h : OzRow w base e size v n xs) (o : Obj) : OzRow (w.alloc o) base e size v n xs :=
  h.kept (World.grownBy_alloc w o none) (by cases v.ownBlock <;> simp)
theorem OzRow.mono {base' : Nat} (h : OzRow w base e size v n xs) (hb : base' ≤ base) : OzRow w base' e size v n xs :=
  ⟨h.1, h.2.imp id fun ⟨g, cap, cur, h1, h2, h3⟩ => ⟨g, cap, cur, h1, Nat.le_trans hb h2, h3⟩⟩
theorem OzRow.form (h : OzRow w base e size v n xs) (hn : 0 < n) : ∃ g cap, v = .slice (some ⟨g, 0, none⟩) n cap ∧ base ≤ g ∧ g < w.heap.size := by
  rcases h.2 with ⟨_, h0⟩ | ⟨g, cap, cur, hv, hb, hg, _⟩
  · omega
  · exact ⟨g, cap, hv, hb, (Array.getElem?_eq_some_iff.1 hg).1⟩
theorem OzRow.cells (h : OzRow w base e size v n xs) {g : Nat} (hg : v.ownBlock = some g) : ∀ j u, xs[j]? = some u → w.cell? ((⟨g, 0, none⟩ : Addr).add j) = some u := by
  intro j u hj
  rcases h.2 with ⟨rfl, _⟩ | ⟨g', cap, cur, rfl, _, hh, _, _, _, ht⟩
  · simp [Value.ownBlock] at hg
  · simp [Value.ownBlock] at hg
    subst hg
    rw [Addr.add_lit, Nat.zero_add, cell_of_row w g' j cur e _ hh]
    rw [← ht, List.getElem?_take] at hj
    split at hj
    · rw [← Array.getElem?_toList]; exact hj
    · cases hj
variable {g cap : Nat}
theorem OzRow.cellAt (h : OzRow w base e size (.slice (some ⟨g, 0, none⟩) n cap) n xs) (j : Nat) (hj : j < n * size) : w.cell? ⟨g, j, none⟩ = xs[j]? := by
  rcases h.2 with ⟨h', _⟩ | ⟨g', cap', cur, h', _, hg, _, _, _, htake⟩
  · simp at h'
  · simp only [Value.slice.injEq, Option.some.injEq, Addr.mk.injEq, and_true, true_and] at h'
    obtain ⟨rfl, rfl⟩ := h'
    rw [cell_of_row w g j cur e (0, 0) hg, ← htake, List.getElem?_take, if_pos hj]
    simp
theorem OzRow.frozenAt (h : OzRow w base e size (.slice (some ⟨g, 0, none⟩) n cap) n xs) (j : Nat) : w.frozen? ⟨g, j, none⟩ = false := by
  rcases h.2 with ⟨h', _⟩ | ⟨g', cap', cur, h', _, hg, _⟩
  · simp at h'
  · simp only [Value.slice.injEq, Option.some.injEq, Addr.mk.injEq, and_true, true_and] at h'
    obtain ⟨rfl, rfl⟩ := h'
    exact frozen_of_row w g j cur e hg
theorem OzRow.stored (h : OzRow w base e size (.slice (some ⟨g, 0, none⟩) n cap) n xs) (j : Nat) (u : Value) :
    OzRow (w.setCell ⟨g, j, none⟩ u) base e size (.slice (some ⟨g, 0, none⟩) n cap) n (xs.set j u) ∧ w.grownBy (w.setCell ⟨g, j, none⟩ u) (some g) := by
  rcases h.2 with ⟨h', _⟩ | ⟨g', cap', cur, h', hb, hg, hnc, hcm, hcs, htake⟩
  · simp at h'
  · simp only [Value.slice.injEq, Option.some.injEq, Addr.mk.injEq, and_true, true_and] at h'
    obtain ⟨rfl, rfl⟩ := h'
    refine ⟨⟨by simpa using h.1, .inr ⟨g, cap, cur.setIfInBounds j u, rfl, hb, heap_setCell_same w g j cur e u hg, hnc, hcm, by simpa using hcs, ?_⟩⟩,
      ⟨rfl, rfl, rfl, by simp, fun k _ hk => heap_setCell_other w ⟨g, j, none⟩ k u (fun e => hk (by simp [e]))⟩⟩
    rw [Array.toList_setIfInBounds, ← htake, List.take_set]
theorem own_below (h : OzRow w base e size v n xs) (hB : Below w.heap.size w w') : OzRow w' base e size v n xs :=
  h.kept (row := none) ⟨hB.os, hB.tape, hB.output, hB.size, fun k hk _ => hB.block k hk⟩ (by cases v.ownBlock <;> simp)
end
/-- what owns a row owns its first elements. -/
theorem own_short {w : World} {B e n m cap : Nat} {a : Option Addr} {xs : List Value} (h : OzRow w B e 1 (.slice a (n + m) cap) (n + m) xs) : OzRow w B e 1 (.slice a n cap) n (xs.take n) := by
  obtain ⟨hl, h⟩ := h
  refine ⟨by rw [List.length_take, hl]; omega, ?_⟩
  rcases h with ⟨hv, h0⟩ | ⟨g, cap', cur, hv, hb, hg, hnc, hcm, hcs, ht⟩
  · left
    obtain rfl : n = 0 := by omega
    obtain rfl : m = 0 := by omega
    exact ⟨hv, rfl⟩
  · right
    simp only [Value.slice.injEq, true_and] at hv
    obtain ⟨rfl, rfl⟩ := hv
    refine ⟨g, cap, cur, rfl, hb, hg, by omega, hcm, hcs, ?_⟩
    rw [← ht, List.take_take, Nat.min_eq_left (by omega), Nat.mul_one]

section
variable {P : Program}
theorem oz_append_fits (w : World) (base : Nat) (t ty e : TypeId) (i : TypeInfo) (ht : P.underlying t = some (.slice e)) (hi : P.info? e = some i) (hsize : i.size = 1)
    (g n cap : Nat) (xs : List Value) (hown : OzRow w base e 1 (.slice (some ⟨g, 0, none⟩) n cap) n xs)
    (a : Addr) (m c : Nat) (news : List Value) (hl : news.length = m) (hnews : ∀ j u, news[j]? = some u → w.cell? (a.add j) = some u) (h1 : ∀ u ∈ news, u.oneCell' = true)
    (hroom : n + m ≤ cap) :
    ∃ w', (Builtin.append_ #[t, t] ty #[.slice (some ⟨g, 0, none⟩) n cap, .slice (some a) m c]).run P w = .ok (.slice (some ⟨g, 0, none⟩) (n + m) cap) w' ∧
      OzRow w' base e 1 (.slice (some ⟨g, 0, none⟩) (n + m) cap) (n + m) (xs ++ news) ∧ w.grownBy w' (some g) := by
  have hx1 : xs.length = n := by have := hown.1; omega
  have hlen : (xs ++ news).length = n + m := by rw [List.length_append, hx1, hl]
  rcases hown.2 with ⟨h, _⟩ | ⟨g', cap', cur, h, hbg, hg, hnc, hcm, hcs, htake⟩
  · simp at h
  · simp only [Value.slice.injEq, Option.some.injEq, Addr.mk.injEq, and_true, true_and] at h
    obtain ⟨rfl, rfl⟩ := h
    rw [Nat.mul_one] at hcs htake
    have hr := run_append_room (P := P) w t ty e i ht hi g n cap cur hg a m c news (by rw [hl, hsize, Nat.mul_one]) hnews h1 hroom (by rw [hl, hsize, Nat.mul_one]; omega)
    rw [hsize, Nat.mul_one] at hr
    refine ⟨_, hr, ⟨by rw [hlen, Nat.mul_one], .inr ⟨g, cap, _, rfl, hbg, setRow_heap w g cur _ e _ hg, hroom, hcm, ?_, ?_⟩⟩, ⟨rfl, rfl, rfl, by simp, fun k _ hk => setRow_other w g k _ (fun e => hk (by simp [e]))⟩⟩
    · simp only [List.size_toArray, List.length_append, List.length_take, List.length_drop, Array.length_toList]
      omega
    · rw [htake, Nat.mul_one, ← hlen]
      exact List.take_left
/-- append, and where the new slice lies: in the old row, as long; or in a new block. -/
theorem run_append_bag (w : World) (t ty : TypeId) (base : Nat) (e : TypeId) (i : TypeInfo) (z : Value) (bytes : Nat) (ht : P.underlying t = some (.slice e)) (hi : P.info? e = some i) (hz : i.zero = some z)
    (hsize : i.size = 1) (hby : i.bytes = bytes) (hzs : z.cells.size = 1)
    (a : Option Addr) (n cap : Nat) (xs : List Value) (hown : OzRow w base e 1 (.slice a n cap) n xs)
    (ad : Addr) (m c : Nat) (news : List Value) (hl : news.length = m) (hnews : ∀ j u, news[j]? = some u → w.cell? (ad.add j) = some u) (h1 : ∀ u ∈ news, u.oneCell' = true)
    (hm : 0 < m) (h63 : n + m ≤ maxLen) (hbytes : (n + m) * bytes ≤ 140737488355328) (hbase : base ≤ w.heap.size) :
    ∃ g cap' w', (Builtin.append_ #[t, t] ty #[.slice a n cap, .slice (some ad) m c]).run P w = .ok (.slice (some ⟨g, 0, none⟩) (n + m) cap') w' ∧
      OzRow w' base e 1 (.slice (some ⟨g, 0, none⟩) (n + m) cap') (n + m) (xs ++ news) ∧ (a = some ⟨g, 0, none⟩ ∧ cap' = cap ∧ w.grownBy w' (some g) ∨ w.heap.size ≤ g ∧ w.grownBy w' none) ∧ g < w'.heap.size := by
  rcases hown.2 with ⟨hv, h0⟩ | ⟨g, cap2, cur, hv, hb, hg, hnc, hcm, hcs, htk⟩
  · simp only [Value.slice.injEq] at hv
    obtain ⟨rfl, rfl, rfl⟩ := hv
    obtain rfl : xs = [] := List.eq_nil_of_length_eq_zero (by rw [hown.1])
    obtain ⟨g, cap', w', hr, h2, h3, h4⟩ := Go.Proofs.YtjlmajopfeplpaaGreat.run_append_bag (P := P) w t ty base e i z bytes ht hi hz hsize hby hzs none 0 0 [] (World.ownsRow_nil w base e 1) ad m c news hl hnews h1 hm h63 hbytes hbase
    exact ⟨g, cap', w', hr, of_owns h2, h3, h4⟩
  · simp only [Value.slice.injEq, true_and] at hv
    obtain ⟨rfl, rfl⟩ := hv
    rcases Nat.lt_or_ge cap (n + m) with hr | hr
    · obtain ⟨v', w', hrun, h2, h3⟩ := run_append_arg_grows (P := P) w t ty e i z 1 bytes ht hi hz hsize hby hzs (by decide) ⟨g, 0, none⟩ n cap xs hown.1 (fun j u hj => hown.cells rfl j u hj) ad m c news (by omega) hnews hr h63 hbytes
      obtain ⟨g2, cap2, rfl, hb2, hlt⟩ := h2.form (by omega)
      exact ⟨g2, cap2, w', hrun, of_owns (h2.mono hbase), Or.inr ⟨hb2, h3⟩, hlt⟩
    · obtain ⟨w', hrun, h2, h3⟩ := oz_append_fits (P := P) w base t ty e i ht hi hsize g n cap xs hown ad m c news hl hnews h1 hr
      exact ⟨g, cap, w', hrun, h2, Or.inl ⟨rfl, rfl, h3⟩, (h2.lt g rfl).2⟩

theorem wpList_append_bag (w : World) {ops : Array Oper} {rest : List Oper} {o : Oper} {act : Act} {Q : Exit → Act → World → Prop} (hgd : o.guard = none) (s x : Operand) (t : TypeId)
    (ho : o.op = .call { callee := .builtin .append, args := #[s, x], argTypes := #[t, t] })
    (base : Nat) (e : TypeId) (i : TypeInfo) (z : Value) (bytes : Nat) (ht : P.underlying t = some (.slice e)) (hi : P.info? e = some i) (hz : i.zero = some z)
    (hsize : i.size = 1) (hby : i.bytes = bytes) (hzs : z.cells.size = 1)
    (a : Option Addr) (n cap : Nat) (xs : List Value) (hs : act.eval s = .slice a n cap) (hown : OzRow w base e 1 (.slice a n cap) n xs)
    (ad : Addr) (m c : Nat) (news : List Value) (hx : act.eval x = .slice (some ad) m c) (hl : news.length = m) (hnews : ∀ j u, news[j]? = some u → w.cell? (ad.add j) = some u) (h1 : ∀ u ∈ news, u.oneCell' = true)
    (hm : 0 < m) (h63 : n + m ≤ maxLen) (hbytes : (n + m) * bytes ≤ 140737488355328) (hbase : base ≤ w.heap.size)
    (h : ∀ g cap' w', OzRow w' base e 1 (.slice (some ⟨g, 0, none⟩) (n + m) cap') (n + m) (xs ++ news) → (a = some ⟨g, 0, none⟩ ∧ cap' = cap ∧ w.grownBy w' (some g) ∨ w.heap.size ≤ g ∧ w.grownBy w' none) → g < w'.heap.size → wpList P ops Q rest (act.put o.dst (.slice (some ⟨g, 0, none⟩) (n + m) cap')) w') : wpList P ops Q (o :: rest) act w := by
  refine wpList_plain hgd fun _ hK => ?_
  obtain ⟨g, cap', w', hr, h2, h3, h4⟩ := run_append_bag (P := P) w t o.type base e i z bytes ht hi hz hsize hby hzs a n cap xs hown ad m c news hl hnews h1 hm h63 hbytes hbase
  unfold Oper.wp execOp
  simp only [ho, resolve, invoke, builtin, Sem.run_bind, Sem.run_pure, Result.andThen_ok, List.map_toArray, List.map_cons, List.map_nil, hs, hx, hr]
  exact hK _ _ (h g cap' w' h2 h3 h4)
end
end Go.Proofs.YtjlmajopfeplpaaGreat.Oz

namespace Go.Proofs.YtjlmajopfeplpaaGreat.Oz
open Go.RowKit Go.Shelf

/-- the mark, as a number from 0 on. -/
def mkN (k i : Nat) : Nat := (mkB k i).toNat
theorem mkN_eq (k i : Nat) : ((mkN k i : Nat) : Int) = mkB k i := by have := mkB_bd k i; unfold mkN; omega
theorem mkN_lt (k i : Nat) : mkN k i < 256 := by have := mkB_bd k i; unfold mkN; omega
theorem markN_any (k i : Nat) (x y : Int) (hx : x = (k : Int)) (hy : y = (i : Int)) (hk : k ≤ 1000000) (hi : i ≤ 1000000000000) (w : World) :
    Calls Tryz.prog 29 #[.int .i64 x, .int .i64 y] w fun e w' => e = .returned (.int .u8 (mkN k i : Nat)) ∧ w' = w := by
  subst hx hy
  rw [mkN_eq]
  exact markByte_any k i (by omega) (by omega) (by omega) (by omega) w

/-- the block that a slice lies in. -/
def blk (a : Option Addr) : Option Nat := a.map Addr.block
theorem own_blk (a : Option Addr) (l c : Nat) : (Value.slice a l c).ownBlock = blk a := by cases a <;> rfl

/-- a list of slices of bytes, each of a row of its own: of ll elements each, of which the first l read as h. -/
structure Bag (w : World) (B L n : Nat) (a : Nat → Option Addr) (ll l c : Nat → Nat) (h : Nat → Nat → Nat) : Prop where
  lst : ∀ k, k < n → w.cell? ⟨L, k, none⟩ = some (.slice (a k) (ll k) (c k))
  own : ∀ k, k < n → OzRow w B 5 1 (.slice (a k) (l k) (c k)) (l k) (rowv (h k) (l k))
/-- no two lie in one block. -/
def Sep (a : Nat → Option Addr) (n : Nat) : Prop := ∀ i j, i < n → j < n → i ≠ j → blk (a i) = none ∨ blk (a i) ≠ blk (a j)
/-- none lies in this block. -/
def Not (a : Nat → Option Addr) (n L : Nat) : Prop := ∀ k, k < n → blk (a k) ≠ some L

section
variable {w w' : World} {B L n : Nat} {a : Nat → Option Addr} {ll l c : Nat → Nat} {h : Nat → Nat → Nat}
theorem Bag.grown {row : Option Nat} (hb : Bag w B L n a ll l c h) (hg : w.grownBy w' row) (hL : some L ≠ row) (hr : ∀ k, k < n → blk (a k) = none ∨ blk (a k) ≠ row) : Bag w' B L n a ll l c h :=
  ⟨fun k hk => hg.cell (hb.lst k hk) hL, fun k hk => (hb.own k hk).kept hg (by rw [own_blk]; exact hr k hk)⟩
theorem Bag.grown0 (hb : Bag w B L n a ll l c h) (hg : w.grownBy w' none) : Bag w' B L n a ll l c h :=
  hb.grown hg (by simp) fun k _ => by cases blk (a k) <;> simp
theorem Bag.below (hb : Bag w B L n a ll l c h) (hB : Below w.heap.size w w') : Bag w' B L n a ll l c h := hb.grown0 (grownBelow hB none)
theorem Bag.lt (hb : Bag w B L n a ll l c h) {k g : Nat} (hk : k < n) (e : blk (a k) = some g) : B ≤ g ∧ g < w.heap.size := (hb.own k hk).lt g (by rw [own_blk]; exact e)
theorem Bag.far (hb : Bag w B L n a ll l c h) {g : Nat} (hg : w.heap.size ≤ g) : ∀ k, k < n → blk (a k) = none ∨ blk (a k) ≠ some g := fun k hk => by
  right; intro e
  have := (hb.lt hk e).2
  omega
theorem Bag.ltL (hb : Bag w B L n a ll l c h) (hn : 0 < n) : L < w.heap.size := World.block_lt_of_cell? _ _ (hb.lst 0 hn)
theorem Bag.at_ (hb : Bag w B L n a ll l c h) {k i : Nat} (hk : k < n) (hi : i < l k) : ∃ g, a k = some ⟨g, 0, none⟩ ∧ w.cell? ⟨g, i, none⟩ = some (.int .u8 (h k i : Nat)) ∧ w.frozen? ⟨g, i, none⟩ = false := by
  obtain ⟨g, cap, hv, _, _⟩ := (hb.own k hk).form (by omega)
  simp only [Value.slice.injEq, true_and] at hv
  have o := hb.own k hk
  rw [hv.1] at o
  exact ⟨g, hv.1, by rw [o.cellAt i (by omega), rowv_get hi], o.frozenAt i⟩
theorem Bag.congr {h' : Nat → Nat → Nat} (hb : Bag w B L n a ll l c h) (he : ∀ k i, k < n → i < l k → h k i = h' k i) : Bag w B L n a ll l c h' :=
  ⟨hb.lst, fun k hk => by rw [← rowv_congr fun i hi => he k i hk hi]; exact hb.own k hk⟩
theorem Bag.set (hb : Bag w B L n a ll l c h) {k i g : Nat} (hk : k < n) (e : a k = some ⟨g, 0, none⟩) (hs : Sep a n) (hL : Not a n L) (v : Nat) :
    Bag (w.setCell ⟨g, i, none⟩ (.int .u8 (v : Nat))) B L n a ll l c (fun j x => if j = k ∧ x = i then v else h j x) := by
  have hg := grownSet w g i (.int .u8 (v : Nat))
  refine ⟨fun j hj => hg.cell (hb.lst j hj) (fun h => hL k hk (by rw [e]; exact h.symm)), fun j hj => ?_⟩
  by_cases hjk : j = k
  · subst hjk
    have o := hb.own j hj
    rw [e] at o ⊢
    have := (o.stored i (.int .u8 (v : Nat))).1
    rw [rowv_set] at this
    rw [rowv_congr (g := fun x => if x = i then v else h j x) fun x _ => by simp]
    exact this
  · rw [rowv_congr (g := h j) fun x _ => by simp [hjk]]
    refine (hb.own j hj).kept hg ?_
    rw [own_blk]
    rcases hs j k hj hk hjk with h | h
    · exact Or.inl h
    · right; rw [e] at h; exact h
/-- behind an append onto one of them. -/
theorem Bag.app (hb : Bag w B L n a ll l c h) {k g x cap' : Nat} {ys : List Value} (hk : k < n) (hs : Sep a n) (hL : Not a n L)
    (hown : OzRow w' B 5 1 (.slice (some ⟨g, 0, none⟩) (l k + x) cap') (l k + x) ys) (hys : ys.take (l k) = rowv (h k) (l k)) (e : a k = some ⟨g, 0, none⟩) (ec : cap' = c k) (hg : w.grownBy w' (some g)) : Bag w' B L n a ll l c h := by
  refine ⟨fun j hj => hg.cell (hb.lst j hj) (fun h => hL k hk (by rw [e]; exact h.symm)), fun j hj => ?_⟩
  by_cases hjk : j = k
  · subst hjk
    have := own_short hown
    rw [hys, ec, ← e] at this
    exact this
  · refine (hb.own j hj).kept hg ?_
    rw [own_blk]
    rcases hs j k hj hk hjk with h | h
    · exact Or.inl h
    · right; rw [e] at h; exact h
end

/-- below B all is as it was; and of what was there nothing has turned but the rows. -/
structure Bel (B n : Nat) (a : Nat → Option Addr) (w wr : World) : Prop where
  be : Below B w wr
  kp : ∀ g, g < w.heap.size → (∀ k, k < n → blk (a k) ≠ some g) → wr.heap[g]? = w.heap[g]?
section
variable {B n : Nat} {a : Nat → Option Addr} {w wr w' : World}
theorem Bel.refl (B n : Nat) (a : Nat → Option Addr) (w : World) : Bel B n a w w := ⟨Below.refl _ _, fun _ _ _ => rfl⟩
theorem Bel.size (h : Bel B n a w wr) : w.heap.size ≤ wr.heap.size := h.be.size
theorem Bel.grown0 (h : Bel B n a w wr) (hg : wr.grownBy w' none) (hB : B ≤ w.heap.size) : Bel B n a w w' :=
  ⟨h.be.grown hg (Nat.le_trans hB h.size) (fun x hx => by cases hx), fun g hl hn => (hg.block g (Nat.lt_of_lt_of_le hl h.size) (by simp)).trans (h.kp g hl hn)⟩
theorem Bel.drewN (h : Bel B n a w wr) (hB : B ≤ w.heap.size) (q : Nat) : Bel B n a w (wr.drewN q) := h.grown0 (grownBelow (below_drewN (Below.refl _ _) q) none) hB
theorem Bel.grownRow {g k : Nat} (h : Bel B n a w wr) (hg : wr.grownBy w' (some g)) (hB : B ≤ w.heap.size) (hk : k < n) (e : blk (a k) = some g) (hb : B ≤ g) : Bel B n a w w' :=
  ⟨h.be.grown hg (Nat.le_trans hB h.size) (fun x hx => by cases hx; exact hb), fun x hl hn => (hg.block x (Nat.lt_of_lt_of_le hl h.size) (fun hh => hn k hk (by rw [e, ← hh]))).trans (h.kp x hl hn)⟩
theorem Bel.grownNew {g : Nat} (h : Bel B n a w wr) (hg : wr.grownBy w' (some g)) (hB : B ≤ w.heap.size) (hb : w.heap.size ≤ g) : Bel B n a w w' :=
  ⟨h.be.grown hg (Nat.le_trans hB h.size) (fun x hx => by cases hx; exact Nat.le_trans hB hb), fun x hl hn => (hg.block x (Nat.lt_of_lt_of_le hl h.size) (fun hh => by cases hh; omega)).trans (h.kp x hl hn)⟩
end

/-- a block of so many slices of bytes. -/
def Gb (w : World) (G n : Nat) : Prop := ∃ vs : Array Value, w.heap[G]? = some (.cells vs 28 (0, 0)) ∧ vs.size = n
theorem Gb.grown {w w' : World} {G n : Nat} {row : Option Nat} (h : Gb w G n) (hg : w.grownBy w' row) (hr : some G ≠ row) : Gb w' G n := by
  obtain ⟨vs, h1, h2⟩ := h
  exact ⟨vs, (hg.block G (Array.getElem?_eq_some_iff.1 h1).1 hr).trans h1, h2⟩
theorem Gb.lt {w : World} {G n : Nat} (h : Gb w G n) : G < w.heap.size := by
  obtain ⟨vs, h1, h2⟩ := h
  exact (Array.getElem?_eq_some_iff.1 h1).1
theorem Gb.cell {w : World} {G n k : Nat} (h : Gb w G n) (hk : k < n) : ∃ v, w.cell? ⟨G, k, none⟩ = some v := by
  obtain ⟨vs, h1, h2⟩ := h
  rw [cell_of_row w G k vs _ _ h1]
  exact ⟨vs[k]'(by omega), by simp [h2, hk]⟩
theorem Gb.free {w : World} {G n : Nat} (h : Gb w G n) (k : Nat) : w.frozen? ⟨G, k, none⟩ = false := by
  obtain ⟨vs, h1, h2⟩ := h
  exact frozen_of_row w G k vs _ h1
theorem Gb.set {w : World} {G n k : Nat} (h : Gb w G n) (v : Value) : Gb (w.setCell ⟨G, k, none⟩ v) G n := by
  obtain ⟨vs, h1, h2⟩ := h
  exact ⟨vs.setIfInBounds k v, heap_setCell_same w G k vs _ _ h1, by simpa using h2⟩
theorem Gb.cellSet {w : World} {G n k : Nat} (h : Gb w G n) (hk : k < n) (v : Value) : (w.setCell ⟨G, k, none⟩ v).cell? ⟨G, k, none⟩ = some v := by
  obtain ⟨vs, h1, h2⟩ := h
  rw [cell_of_row _ G k _ _ _ (heap_setCell_same w G k vs _ _ h1)]
  simp [h2, hk]
theorem Gb.cellOther {w : World} {G n k j : Nat} (h : Gb w G n) (hj : j ≠ k) (v : Value) : (w.setCell ⟨G, k, none⟩ v).cell? ⟨G, j, none⟩ = w.cell? ⟨G, j, none⟩ := by
  obtain ⟨vs, h1, h2⟩ := h
  rw [cell_of_row _ G j _ _ _ (heap_setCell_same w G k vs _ _ h1), cell_of_row _ G j _ _ _ h1, Array.getElem?_setIfInBounds, if_neg (fun e => hj e.symm)]
/-- one slice more is put into the second list. -/
theorem Bag.put {w : World} {B G n k : Nat} {a : Nat → Option Addr} {ll l c : Nat → Nat} {h : Nat → Nat → Nat} (hb : Bag w B G k a ll l c h) (hg : Gb w G n) (hk : k < n) (ho : Not a k G) {x : Option Addr} {cx : Nat}
    (hx : blk x ≠ some G) (hown : OzRow w B 5 1 (.slice x (l k) cx) (l k) (rowv (h k) (l k))) :
    Bag (w.setCell ⟨G, k, none⟩ (.slice x (ll k) cx)) B G (k + 1) (fun j => if j = k then x else a j) ll l (fun j => if j = k then cx else c j) h := by
  have hgr := grownSet w G k (.slice x (ll k) cx)
  refine ⟨fun j hj => ?_, fun j hj => ?_⟩
  · by_cases e : j = k
    · subst e; simp only [if_pos]; exact hg.cellSet hk _
    · simp only [if_neg e]; rw [hg.cellOther e]; exact hb.lst j (by omega)
  · by_cases e : j = k
    · subst e; simp only [if_pos]
      exact hown.kept hgr (by rw [own_blk]; exact Or.inr hx)
    · simp only [if_neg e]
      exact (hb.own j (by omega)).kept hgr (by rw [own_blk]; exact Or.inr (ho j (by omega)))

/-- slices that are grown one by one: before the one k; that one has i more; wq: the world before it. -/
structure St4 (wq wr : World) (B L G n k i : Nat) (a : Nat → Option Addr) (l c : Nat → Nat) (hf : Nat → Option Addr) (df : Nat → Nat) (gA : Option Addr) (gC : Nat) : Prop where
  own : OzRow wr B 5 1 (.slice gA (l k + i) gC) (l k + i) (rowv (mkN k) (l k + i))
  org : gA = a k ∧ gC = c k ∨ ∃ x, gA = some ⟨x, 0, none⟩ ∧ wq.heap.size ≤ x
  bl : Bag wr B L n a l l c mkN
  bg : Bag wr B G k hf (fun j => l j + 64) (fun j => l j + 64) df mkN
  gb : Gb wr G n
  sz : wq.heap.size ≤ wr.heap.size
/-- what stands fast meanwhile. -/
structure Fix4 (w wq : World) (B L G n k : Nat) (a : Nat → Option Addr) (hf : Nat → Option Addr) : Prop where
  hk : k < n
  sep : Sep a n
  noL : Not a n L
  noG : Not a n G
  nhG : Not hf k G
  sh : ∀ j i, j < k → i < n → j ≠ i → blk (hf j) ≠ none → blk (hf j) ≠ blk (a i)
  fa : ∀ j g, j < n → blk (a j) = some g → g < wq.heap.size
  fh : ∀ j g, j < k → blk (hf j) = some g → g < wq.heap.size
  lL : L < wq.heap.size
  lG : G < wq.heap.size
  bL : B ≤ L
  bG : B ≤ G
  ne : L ≠ G
  bw : B ≤ w.heap.size
  ws : w.heap.size ≤ wq.heap.size
  wG : w.heap.size ≤ G
theorem St4.step {w wq wi w6 : World} {B L G n k i g cap' : Nat} {a : Nat → Option Addr} {l c : Nat → Nat} {hf : Nat → Option Addr} {df : Nat → Nat} {gA : Option Addr} {gC : Nat} {o : Obj}
    (h : St4 wq wi B L G n k i a l c hf df gA gC) (f : Fix4 w wq B L G n k a hf) (hB : Bel B n a w wi)
    (hown : OzRow w6 B 5 1 (.slice (some ⟨g, 0, none⟩) (l k + i + 1) cap') (l k + i + 1) (rowv (mkN k) (l k + i) ++ [.int .u8 (mkN k (l k + i) : Nat)]))
    (hc : gA = some ⟨g, 0, none⟩ ∧ cap' = gC ∧ (wi.alloc o).grownBy w6 (some g) ∨ (wi.alloc o).heap.size ≤ g ∧ (wi.alloc o).grownBy w6 none) :
    St4 wq w6 B L G n k (i + 1) a l c hf df (some ⟨g, 0, none⟩) cap' ∧ Bel B n a w w6 := by
  rw [← rowv_succ] at hown
  have hgB := (hown.lt g rfl).1
  have bl := h.bl.grown0 (grown_alloc wi o)
  have bg := h.bg.grown0 (grown_alloc wi o)
  have gb := h.gb.grown (grown_alloc wi o) (by simp)
  have hsz := h.sz
  have hws := f.ws
  have hBa := hB.grown0 (grown_alloc wi o) f.bw
  have hsa : wi.heap.size ≤ (wi.alloc o).heap.size := by simp
  rcases hc with ⟨e, ec, hg⟩ | ⟨hge, hg⟩
  · have hs6 : wq.heap.size ≤ w6.heap.size := Nat.le_trans (Nat.le_trans hsz hsa) hg.size
    rcases h.org with ⟨ea, eca⟩ | ⟨x, ex, hx⟩
    · have ea' : a k = some ⟨g, 0, none⟩ := by rw [← ea, e]
      have hbk : blk (a k) = some g := by rw [ea']; rfl
      have hBw6 := hBa.grownRow hg f.bw f.hk hbk hgB
      refine ⟨⟨hown, Or.inl ⟨ea'.symm, by rw [ec, eca]⟩, bl.app (x := i + 1) f.hk f.sep f.noL hown (show (rowv (mkN k) (l k + (i + 1))).take (l k) = _ from rowv_take) ea' (by rw [ec, eca]) hg, bg.grown hg (fun hh => f.noG k f.hk (by rw [hbk, ← hh])) (fun j hj => ?_), gb.grown hg (fun hh => f.noG k f.hk (by rw [hbk, ← hh])), hs6⟩, hBw6⟩
      by_cases hn : blk (hf j) = none
      · exact Or.inl hn
      · right; rw [← hbk]; exact f.sh j k hj f.hk (by omega) hn
    · rw [ex] at e
      cases e
      have hBw6 := hBa.grownNew hg f.bw (Nat.le_trans hws hx)
      refine ⟨⟨hown, Or.inr ⟨g, rfl, hx⟩, bl.grown hg (fun hh => by cases hh; have := f.lL; omega) (fun j hj => Or.inr (fun hh => by have := f.fa j g hj hh; omega)), bg.grown hg (fun hh => by cases hh; have := f.lG; omega) (fun j hj => Or.inr (fun hh => by have := f.fh j g hj hh; omega)), gb.grown hg (fun hh => by cases hh; have := f.lG; omega), hs6⟩, hBw6⟩
  · refine ⟨⟨hown, Or.inr ⟨g, rfl, by omega⟩, bl.grown0 hg, bg.grown0 hg, gb.grown hg (by simp), Nat.le_trans (Nat.le_trans hsz hsa) hg.size⟩, hBa.grown0 hg f.bw⟩
/-- .. and is put into the second list. -/
theorem St4.out {w wq wr : World} {B L G n k : Nat} {a : Nat → Option Addr} {l c : Nat → Nat} {hf : Nat → Option Addr} {df : Nat → Nat} {gA : Option Addr} {gC : Nat}
    (h : St4 wq wr B L G n k 64 a l c hf df gA gC) (f : Fix4 w wq B L G n k a hf) (hB : Bel B n a w wr) :
    ∃ hf' df', Bag (wr.setCell ⟨G, k, none⟩ (.slice gA (l k + 64) gC)) B L n a l l c mkN ∧ Bag (wr.setCell ⟨G, k, none⟩ (.slice gA (l k + 64) gC)) B G (k + 1) hf' (fun j => l j + 64) (fun j => l j + 64) df' mkN ∧
      Gb (wr.setCell ⟨G, k, none⟩ (.slice gA (l k + 64) gC)) G n ∧ Not hf' (k + 1) G ∧ (∀ j i, j < k + 1 → i < n → j ≠ i → blk (hf' j) ≠ none → blk (hf' j) ≠ blk (a i)) ∧ Bel B n a w (wr.setCell ⟨G, k, none⟩ (.slice gA (l k + 64) gC)) := by
  have hgA : blk gA ≠ some G := by
    rcases h.org with ⟨e, _⟩ | ⟨x, e, hx⟩
    · rw [e]; exact f.noG k f.hk
    · rw [e]; intro hh; have hh : some x = some G := hh; cases hh; have := f.lG; omega
  refine ⟨fun j => if j = k then gA else hf j, fun j => if j = k then gC else df j, ?_, h.bg.put h.gb f.hk f.nhG hgA h.own, h.gb.set _, ?_, ?_, hB.grownNew (grownSet _ _ _ _) f.bw f.wG⟩
  · exact h.bl.grown (grownSet _ _ _ _) (fun hh => by cases hh; exact f.ne rfl) (fun j hj => Or.inr (f.noG j hj))
  · intro j hj
    by_cases e : j = k
    · subst e; simp only [if_pos]; exact hgA
    · simp only [if_neg e]; exact f.nhG j (by omega)
  · intro j i hj hi hji hn
    by_cases e : j = k
    · subst e
      simp only [if_pos] at hn ⊢
      rcases h.org with ⟨e, _⟩ | ⟨x, e, hx⟩
      · rw [e] at hn ⊢
        rcases f.sep j i f.hk hi hji with h1 | h1
        · exact absurd h1 hn
        · exact h1
      · rw [e]
        intro hh
        have := f.fa i x hi hh.symm
        omega
    · simp only [if_neg e] at hn ⊢
      exact f.sh j i (by omega) hi hji hn
/-- slices that are grown by many at once: before the one k. -/
structure Fin5 (w wr : World) (B L G n k : Nat) (a : Nat → Option Addr) (l c : Nat → Nat) (hf : Nat → Option Addr) (df : Nat → Nat) : Prop where
  bl : Bag wr B L n a l l c mkN
  bg : Bag wr B G k hf (fun j => l j + 64) l df mkN
  gb : Gb wr G n
  ng : Not hf k G
  sh : ∀ j i, j < k → i < n → j ≠ i → blk (hf j) ≠ none → blk (hf j) ≠ blk (a i)
  be : Bel B n a w wr
section
variable {w wq wi w6 : World} {B L G n k : Nat} {a : Nat → Option Addr} {l c : Nat → Nat} {hf : Nat → Option Addr} {df : Nat → Nat}
theorem Fin5.grown0 (h : Fin5 w wi B L G n k a l c hf df) (hg : wi.grownBy w6 none) (hB : B ≤ w.heap.size) : Fin5 w w6 B L G n k a l c hf df :=
  ⟨h.bl.grown0 hg, h.bg.grown0 hg, h.gb.grown hg (by simp), h.ng, h.sh, h.be.grown0 hg hB⟩
theorem Fin5.setM (h : Fin5 w wi B L G n k a l c hf df) (f : Fix4 w wq B L G n k a hf) {M : Nat} (hM : wq.heap.size ≤ M) (i : Nat) (u : Value) : Fin5 w (wi.setCell ⟨M, i, none⟩ u) B L G n k a l c hf df := by
  have hg := grownSet wi M i u
  have lL := f.lL
  have lG := f.lG
  have hws := f.ws
  exact ⟨h.bl.grown hg (fun hh => by cases hh; omega) (fun j hj => Or.inr fun hh => by have := f.fa j M hj hh; omega), h.bg.grown hg (fun hh => by cases hh; omega) (fun j hj => Or.inr fun hh => by have := f.fh j M hj hh; omega),
    h.gb.grown hg (fun hh => by cases hh; omega), h.ng, h.sh, h.be.grownNew hg f.bw (by omega)⟩
theorem Fin5.app {g cap' : Nat} {news : List Value} (h : Fin5 w wi B L G n k a l c hf df) (f : Fix4 w wq B L G n k a hf) (hsz : wq.heap.size ≤ wi.heap.size)
    (hown : OzRow w6 B 5 1 (.slice (some ⟨g, 0, none⟩) (l k + 64) cap') (l k + 64) (rowv (mkN k) (l k) ++ news))
    (hc : a k = some ⟨g, 0, none⟩ ∧ cap' = c k ∧ wi.grownBy w6 (some g) ∨ wi.heap.size ≤ g ∧ wi.grownBy w6 none) :
    Gb w6 G n ∧ ∃ hf' df', Fin5 w (w6.setCell ⟨G, k, none⟩ (.slice (some ⟨g, 0, none⟩) (l k + 64) cap')) B L G n (k + 1) a l c hf' df' := by
  have lL := f.lL
  have lG := f.lG
  have bL := f.bL
  have hgB := (hown.lt g rfl).1
  have htk : (rowv (mkN k) (l k) ++ news).take (l k) = rowv (mkN k) (l k) := by
    rw [List.take_append_of_le_length (by rw [rowv_len]; omega), List.take_of_length_le (by rw [rowv_len]; omega)]
  have hsh := own_short hown
  rw [htk] at hsh
  have key : Bag w6 B L n a l l c mkN ∧ Bag w6 B G k hf (fun j => l j + 64) l df mkN ∧ Gb w6 G n ∧ Bel B n a w w6 ∧ g ≠ G ∧ ∀ i, i < n → k ≠ i → some g ≠ blk (a i) := by
    rcases hc with ⟨e, ec, hg⟩ | ⟨hge, hg⟩
    · have hbk : blk (a k) = some g := by rw [e]; rfl
      have hgG : g ≠ G := fun hh => f.noG k f.hk (by rw [hbk, hh])
      refine ⟨h.bl.app f.hk f.sep f.noL hown htk e ec hg, h.bg.grown hg (fun hh => hgG (by cases hh; rfl)) (fun j hj => ?_), h.gb.grown hg (fun hh => hgG (by cases hh; rfl)), h.be.grownRow hg f.bw f.hk hbk hgB, hgG, fun i hi hki hh => ?_⟩
      · by_cases hn : blk (hf j) = none
        · exact Or.inl hn
        · right; rw [← hbk]; exact f.sh j k hj f.hk (by omega) hn
      · rcases f.sep k i f.hk hi hki with h1 | h1
        · rw [hbk] at h1; cases h1
        · exact h1 (by rw [hbk, hh])
    · exact ⟨h.bl.grown0 hg, h.bg.grown0 hg, h.gb.grown hg (by simp), h.be.grown0 hg f.bw, by omega, fun i hi _ hh => by have := f.fa i g hi hh.symm; omega⟩
  obtain ⟨bl, bg, gb, be, hgG, hgi⟩ := key
  refine ⟨gb, fun j => if j = k then some ⟨g, 0, none⟩ else hf j, fun j => if j = k then cap' else df j, ?_, bg.put gb f.hk f.nhG (fun hh => hgG (by cases hh; rfl)) hsh, gb.set _, ?_, ?_, be.grownNew (grownSet _ _ _ _) f.bw f.wG⟩
  · exact bl.grown (grownSet _ _ _ _) (fun hh => by cases hh; exact f.ne rfl) (fun j hj => Or.inr (f.noG j hj))
  · intro j hj
    by_cases e : j = k
    · subst e; simp only [if_pos]; exact fun hh => hgG (by cases hh; rfl)
    · simp only [if_neg e]; exact f.nhG j (by omega)
  · intro j i hj hi hji hn
    by_cases e : j = k
    · subst e
      simp only [if_pos]
      exact hgi i hi hji
    · simp only [if_neg e] at hn ⊢
      exact f.sh j i (by omega) hi hji hn
end
end Go.Proofs.YtjlmajopfeplpaaGreat.Oz
