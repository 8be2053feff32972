import Derived.Deep.AppendLies
import Derived.Deep.Onto
import Derived.Test.YtjlmajopfeplpaaMg5
namespace Go.Proofs.Ytjlmajopfeplpaa
open Go.RowKit Go.Shelf

theorem own_below {w w' : World} {B : Nat} {e : TypeId} {s : Nat} {v : Value} {n : Nat} {xs : List Value} (h : w.ownsRow B e s v n xs) (hB : Below w.heap.size w w') : w'.ownsRow B e s v n xs :=
  h.kept (row := none) ⟨hB.os, hB.tape, hB.output, hB.size, fun k hk _ => hB.block k hk⟩ (by cases v.ownBlock <;> simp)
/-- so many coefficients, as values. -/
def rowv (f : Nat → Nat) (n : Nat) : List Value := (List.range n).map fun i => Value.int .u8 (f i : Nat)
theorem rowv_succ (f : Nat → Nat) (n : Nat) : rowv f (n + 1) = rowv f n ++ [.int .u8 (f n : Nat)] := by unfold rowv; rw [List.range_succ, List.map_append]; rfl
theorem cell_new1 (w : World) (v : Value) (t : TypeId) : ∀ j u, [v][j]? = some u → (w.alloc (.cells #[v] t)).cell? ((⟨w.heap.size, 0, none⟩ : Addr).add j) = some u := by
  intro j u hu
  cases j with
  | zero => simpa [Addr.add_lit, World.cell?_alloc_new] using hu
  | succ j => simp at hu

theorem rowv_len (f : Nat → Nat) (n : Nat) : (rowv f n).length = n := by simp [rowv]
theorem rowv_get {f : Nat → Nat} {n i : Nat} (h : i < n) : (rowv f n)[i]? = some (.int .u8 (f i : Nat)) := by simp [rowv, h]
theorem rowv_take {f : Nat → Nat} {n m : Nat} : (rowv f (n + m)).take n = rowv f n := by
  unfold rowv
  rw [← List.map_take, List.take_range, Nat.min_eq_left (Nat.le_add_right n m)]
theorem rowv_congr {f g : Nat → Nat} {n : Nat} (h : ∀ i, i < n → f i = g i) : rowv f n = rowv g n := by
  unfold rowv
  exact List.map_congr_left fun i hi => by rw [h i (List.mem_range.1 hi)]
theorem rowv_set (f : Nat → Nat) (n j v : Nat) : (rowv f n).set j (.int .u8 (v : Nat)) = rowv (fun i => if i = j then v else f i) n := by
  apply List.ext_getElem?
  intro i
  rw [List.getElem?_set]
  by_cases hi : i < n
  · rw [rowv_get hi, rowv_get hi, rowv_len]
    by_cases e : j = i
    · subst e; rw [if_pos rfl, if_pos hi]; simp
    · rw [if_neg e]
      show _ = some (Value.int .u8 ((if i = j then v else f i : Nat) : Int))
      rw [if_neg (fun h => e h.symm)]
  · rw [List.getElem?_eq_none (by rw [rowv_len]; omega), List.getElem?_eq_none (by rw [rowv_len]; omega), rowv_len]
    by_cases e : j = i
    · subst e; rw [if_pos rfl, if_neg hi]
    · rw [if_neg e]
theorem rowv_ones (f : Nat → Nat) (n : Nat) : ∀ u ∈ rowv f n, u.oneCell' = true := by
  intro u hu
  obtain ⟨i, _, rfl⟩ := List.mem_map.1 hu
  rfl

theorem grownBelow {w w' : World} (hB : Below w.heap.size w w') (row : Option Nat) : w.grownBy w' row := ⟨hB.os, hB.tape, hB.output, hB.size, fun k hk _ => hB.block k hk⟩
theorem grownSet (w : World) (g j : Nat) (u : Value) : w.grownBy (w.setCell ⟨g, j, none⟩ u) (some g) := by
  have hB := (Below.refl 0 w).setCell (p := ⟨g, j, none⟩) (Nat.zero_le _) u
  exact ⟨hB.os, hB.tape, hB.output, hB.size, fun k _ hne => heap_setCell_other w ⟨g, j, none⟩ k u (fun h => hne (by rw [h]))⟩
theorem grown_alloc (w : World) (o : Obj) : w.grownBy (w.alloc o) none := grownBelow ((Below.refl _ w).alloc (Nat.le_refl _) o) none


/-- what owns a row owns its first elements. -/
theorem own_short {w : World} {B e n m cap : Nat} {a : Option Addr} {xs : List Value} (h : w.ownsRow B e 1 (.slice a (n + m) cap) (n + m) xs) : w.ownsRow B e 1 (.slice a n cap) n (xs.take n) := by
  obtain ⟨hl, h⟩ := h
  refine ⟨by rw [List.length_take, hl]; omega, ?_⟩
  rcases h with ⟨hv, h0⟩ | ⟨g, cap', cur, hv, hb, hg, hnc, hcm, hcs, ht⟩
  · left
    obtain rfl : n = 0 := by omega
    obtain rfl : m = 0 := by omega
    exact ⟨hv, rfl⟩
  · right
    simp only [Value.slice.injEq, true_and] at hv
    obtain ⟨rfl, rfl⟩ := hv
    refine ⟨g, cap, cur, rfl, hb, hg, by omega, hcm, hcs, ?_⟩
    rw [← ht, List.take_take, Nat.min_eq_left (by omega), Nat.mul_one]

section
variable {P : Program}
/-- append, and where the new slice lies: in the old row, as long; or in a new block. -/
theorem run_append_bag (w : World) (t ty : TypeId) (base : Nat) (e : TypeId) (i : TypeInfo) (z : Value) (bytes : Nat) (ht : P.underlying t = some (.slice e)) (hi : P.info? e = some i) (hz : i.zero = some z)
    (hsize : i.size = 1) (hby : i.bytes = bytes) (hzs : z.cells.size = 1)
    (a : Option Addr) (n cap : Nat) (xs : List Value) (hown : w.ownsRow base e 1 (.slice a n cap) n xs)
    (ad : Addr) (m c : Nat) (news : List Value) (hl : news.length = m) (hnews : ∀ j u, news[j]? = some u → w.cell? (ad.add j) = some u) (h1 : ∀ u ∈ news, u.oneCell' = true)
    (hm : 0 < m) (h63 : n + m ≤ maxLen) (hbytes : (n + m) * bytes ≤ 140737488355328) (hbase : base ≤ w.heap.size) :
    ∃ g cap' w', (Builtin.append_ #[t, t] ty #[.slice a n cap, .slice (some ad) m c]).run P w = .ok (.slice (some ⟨g, 0, none⟩) (n + m) cap') w' ∧
      w'.ownsRow base e 1 (.slice (some ⟨g, 0, none⟩) (n + m) cap') (n + m) (xs ++ news) ∧ (a = some ⟨g, 0, none⟩ ∧ cap' = cap ∧ w.grownBy w' (some g) ∨ w.heap.size ≤ g ∧ w.grownBy w' none) ∧ g < w'.heap.size := by
  have hl' : news.length = m * 1 := by omega
  rcases hown.2 with ⟨hv, h0⟩ | ⟨g, cap2, cur, hv, hb, hg, hnc, hcm, hcs, htk⟩
  · rw [hv] at hown ⊢
    obtain ⟨g, cap', w', hr, h2, h3, h4, h5⟩ := run_append_lies (P := P) w t ty base e i z 1 bytes ht hi hz hsize hby hzs (by decide) (.slice none 0 0) n xs hown ad m c news hl' hnews h1 hm h63 hbytes hbase _ rfl
    exact ⟨g, cap', w', hr, h2, Or.inr ⟨by rcases h4 with h | h; exact (by cases h); omega, h3⟩, h5⟩
  · simp only [Value.slice.injEq, true_and] at hv
    obtain ⟨rfl, rfl⟩ := hv
    rcases Nat.lt_or_ge cap (n + m) with hr | hr
    · obtain ⟨v', w', hrun, h2, h3⟩ := run_append_arg_grows (P := P) w t ty e i z 1 bytes ht hi hz hsize hby hzs (by decide) ⟨g, 0, none⟩ n cap xs hown.1 (fun j u hj => hown.cells rfl j u hj) ad m c news hl' hnews hr h63 hbytes
      obtain ⟨g2, cap2, rfl, hb2, hlt⟩ := h2.form (by omega)
      exact ⟨g2, cap2, w', hrun, h2.mono hbase, Or.inr ⟨hb2, h3⟩, hlt⟩
    · obtain ⟨w', hrun, h2, h3⟩ := run_append_fits (P := P) w base t ty e i 1 ht hi hsize g n cap xs hown ad m c news hl' hnews h1 hr
      exact ⟨g, cap, w', hrun, h2, Or.inl ⟨rfl, rfl, h3⟩, (h2.lt g rfl).2⟩

theorem wpList_append_bag (w : World) {ops : Array Oper} {rest : List Oper} {o : Oper} {act : Act} {Q : Exit → Act → World → Prop} (hgd : o.guard = none) (s x : Operand) (t : TypeId)
    (ho : o.op = .call { callee := .builtin .append, args := #[s, x], argTypes := #[t, t] })
    (base : Nat) (e : TypeId) (i : TypeInfo) (z : Value) (bytes : Nat) (ht : P.underlying t = some (.slice e)) (hi : P.info? e = some i) (hz : i.zero = some z)
    (hsize : i.size = 1) (hby : i.bytes = bytes) (hzs : z.cells.size = 1)
    (a : Option Addr) (n cap : Nat) (xs : List Value) (hs : act.eval s = .slice a n cap) (hown : w.ownsRow base e 1 (.slice a n cap) n xs)
    (ad : Addr) (m c : Nat) (news : List Value) (hx : act.eval x = .slice (some ad) m c) (hl : news.length = m) (hnews : ∀ j u, news[j]? = some u → w.cell? (ad.add j) = some u) (h1 : ∀ u ∈ news, u.oneCell' = true)
    (hm : 0 < m) (h63 : n + m ≤ maxLen) (hbytes : (n + m) * bytes ≤ 140737488355328) (hbase : base ≤ w.heap.size)
    (h : ∀ g cap' w', w'.ownsRow base e 1 (.slice (some ⟨g, 0, none⟩) (n + m) cap') (n + m) (xs ++ news) → (a = some ⟨g, 0, none⟩ ∧ cap' = cap ∧ w.grownBy w' (some g) ∨ w.heap.size ≤ g ∧ w.grownBy w' none) → g < w'.heap.size → wpList P ops Q rest (act.put o.dst (.slice (some ⟨g, 0, none⟩) (n + m) cap')) w') : wpList P ops Q (o :: rest) act w := by
  refine wpList_plain hgd fun _ hK => ?_
  obtain ⟨g, cap', w', hr, h2, h3, h4⟩ := run_append_bag (P := P) w t o.type base e i z bytes ht hi hz hsize hby hzs a n cap xs hown ad m c news hl hnews h1 hm h63 hbytes hbase
  unfold Oper.wp execOp
  simp only [ho, resolve, invoke, builtin, Sem.run_bind, Sem.run_pure, Result.andThen_ok, List.map_toArray, List.map_cons, List.map_nil, hs, hx, hr]
  exact hK _ _ (h g cap' w' h2 h3 h4)
end
end Go.Proofs.Ytjlmajopfeplpaa

namespace Go.Proofs.Ytjlmajopfeplpaa
open Go.RowKit Go.Shelf

theorem below_dr {B : Nat} {w w' : World} (h : Below B w w') (q : Nat) : Below B w (w'.drewN q) := ⟨h.os, h.tape, h.output, h.size, h.block⟩
/-- a slice of slices of bytes, as it reads: its row i is the slice r i, of l i bytes, and reads as f i. -/
structure Rd (w : World) (a : Option Addr) (n cap : Nat) (r : Nat → Option Addr) (l c : Nat → Nat) (f : Nat → Nat → Nat) : Prop where
  capOk : n ≤ cap
  maxOk : cap ≤ maxLen
  bm : Mt.Bm f
  nil : a = none → n = 0 ∧ cap = 0
  spot : ∀ ad, a = some ad → n ≠ 0 → ad.spot = none
  cell : ∀ ad, a = some ad → ∀ i, i < n → w.cell? ⟨ad.block, ad.off + i, none⟩ = some (.slice (r i) (l i) (c i))
  row : ∀ i, i < n → Sl w (r i) (l i) (c i) (f i)
section
variable {w w' : World} {a : Option Addr} {n cap : Nat} {r : Nat → Option Addr} {l c : Nat → Nat} {f : Nat → Nat → Nat}
theorem Rd.same (h : Rd w a n cap r l c f) (hB : Below w.heap.size w w') : Rd w' a n cap r l c f :=
  ⟨h.capOk, h.maxOk, h.bm, h.nil, h.spot, fun ad ha i hi => by
    have hc := h.cell ad ha i hi
    rw [hB.cell (World.block_lt_of_cell? _ _ hc)]; exact hc, fun i hi => (h.row i hi).same hB⟩
theorem Rd.drewN (h : Rd w a n cap r l c f) (q : Nat) : Rd (w.drewN q) a n cap r l c f := ⟨h.capOk, h.maxOk, h.bm, h.nil, h.spot, h.cell, fun i hi => (h.row i hi).drewN q⟩
theorem Rd.at_ (h : Rd w a n cap r l c f) {k : Nat} (hk : k < n) : ∃ b off, a = some ⟨b, off, none⟩ ∧ w.cell? ⟨b, off + k, none⟩ = some (.slice (r k) (l k) (c k)) := by
  cases a with
  | none => have := h.nil rfl; omega
  | some ad =>
    have hc := h.cell ad rfl k hk
    obtain ⟨b, off, spot⟩ := ad
    obtain rfl : spot = none := h.spot _ rfl (by omega)
    exact ⟨b, off, rfl, hc⟩
theorem Rd.up (h : Rd w a n cap r l c f) {i j : Nat} (hi : i < n) (hj : l i ≤ j) : f i j = 0 := (h.row i hi).up j hj
end

/-- a matrix in memory of its own, from B on: the block G holds the rows, the block b i the row i. -/
structure Gr (w : World) (B G n cap : Nat) (b l c : Nat → Nat) (f : Nat → Nat → Nat) : Prop where
  blk : ∃ vs : Array Value, w.heap[G]? = some (.cells vs 27 (0, 0)) ∧ vs.size = cap ∧ ∀ i, i < n → vs[i]? = some (.slice (some ⟨b i, 0, none⟩) (l i) (c i))
  row : ∀ i, i < n → Bl w (b i) (l i) (c i) (f i)
  lc : ∀ i, i < n → l i ≤ c i ∧ c i ≤ maxLen
  nc : n ≤ cap ∧ cap ≤ maxLen
  lo : B ≤ G ∧ ∀ i, i < n → B ≤ b i
  inj : ∀ i j, i < n → j < n → b i = b j → i = j
  bm : Mt.Bm f
  up : ∀ i, i < n → Pf.Up (f i) (l i)
section
variable {w w' : World} {B G n cap : Nat} {b l c : Nat → Nat} {f : Nat → Nat → Nat}
theorem Gr.cell (h : Gr w B G n cap b l c f) {i : Nat} (hi : i < n) : w.cell? ⟨G, i, none⟩ = some (.slice (some ⟨b i, 0, none⟩) (l i) (c i)) := by
  obtain ⟨vs, h1, _, h3⟩ := h.blk
  rw [cell_of_row w G i vs _ _ h1]
  exact h3 i hi
theorem Gr.free (h : Gr w B G n cap b l c f) (i : Nat) : w.frozen? ⟨G, i, none⟩ = false := by
  obtain ⟨vs, h1, _⟩ := h.blk
  exact frozen_of_row w G i vs _ h1
theorem Gr.ltG (h : Gr w B G n cap b l c f) : G < w.heap.size := by
  obtain ⟨vs, h1, _⟩ := h.blk
  exact (Array.getElem?_eq_some_iff.1 h1).1
theorem Gr.ltb (h : Gr w B G n cap b l c f) {i : Nat} (hi : i < n) : b i < w.heap.size := (h.row i hi).lt
theorem Gr.ne (h : Gr w B G n cap b l c f) {i : Nat} (hi : i < n) : b i ≠ G := by
  intro e
  obtain ⟨vs, h1, _⟩ := h.row i hi
  obtain ⟨vs', h1', _⟩ := h.blk
  rw [e, h1'] at h1
  injection h1 with h1
  injection h1 with _ h2
  exact absurd h2 (by decide)
theorem Gr.kept (h : Gr w B G n cap b l c f) (hG : w'.heap[G]? = w.heap[G]?) (hb : ∀ i, i < n → w'.heap[b i]? = w.heap[b i]?) : Gr w' B G n cap b l c f := by
  obtain ⟨vs, h1, h2, h3⟩ := h.blk
  exact ⟨⟨vs, hG.trans h1, h2, h3⟩, fun i hi => (h.row i hi).kept (hb i hi), h.lc, h.nc, h.lo, h.inj, h.bm, h.up⟩
theorem Gr.same (h : Gr w B G n cap b l c f) (hB : Below w.heap.size w w') : Gr w' B G n cap b l c f := h.kept (hB.block G h.ltG) fun _ hi => hB.block _ (h.ltb hi)
theorem Gr.drewN (h : Gr w B G n cap b l c f) (q : Nat) : Gr (w.drewN q) B G n cap b l c f := h.kept rfl fun _ _ => rfl
theorem Gr.grown {row : Option Nat} (h : Gr w B G n cap b l c f) (hg : w.grownBy w' row) (hG : some G ≠ row) (hb : ∀ i, i < n → some (b i) ≠ row) : Gr w' B G n cap b l c f :=
  h.kept (hg.block G h.ltG hG) fun i hi => hg.block _ (h.ltb hi) (hb i hi)
theorem Gr.mono (h : Gr w B G n cap b l c f) {B' : Nat} (hB : B' ≤ B) : Gr w B' G n cap b l c f :=
  ⟨h.blk, h.row, h.lc, h.nc, ⟨Nat.le_trans hB h.lo.1, fun i hi => Nat.le_trans hB (h.lo.2 i hi)⟩, h.inj, h.bm, h.up⟩
theorem Gr.congr (h : Gr w B G n cap b l c f) {g : Nat → Nat → Nat} (hg : Mt.Bm g) (e : ∀ i j, i < n → f i j = g i j) : Gr w B G n cap b l c g :=
  ⟨h.blk, fun i hi => (h.row i hi).congr fun j _ => e i j hi, h.lc, h.nc, h.lo, h.inj, hg, fun i hi j hj => by rw [← e i j hi]; exact h.up i hi j hj⟩
theorem Gr.rd (h : Gr w B G n cap b l c f) : Rd w (some ⟨G, 0, none⟩) n cap (fun i => some ⟨b i, 0, none⟩) l c f :=
  ⟨h.nc.1, h.nc.2, h.bm, fun e => (by cases e), fun ad e _ => (by cases e; rfl), fun ad e i hi => by
    cases e
    show w.cell? ⟨G, 0 + i, none⟩ = _
    rw [Nat.zero_add]; exact h.cell hi, fun i hi => (h.row i hi).sl (h.lc i hi).1 (h.lc i hi).2 (h.bm i) (h.up i hi)⟩
theorem up_ite {g : Nat → Nat → Nat} {r k : Nat} {x : Nat → Nat} {i : Nat} (h1 : i = r → Pf.Up x k) (h2 : i ≠ r → Pf.Up (g i) k) : Pf.Up (fun j => if i = r then x j else g i j) k := fun j hj => by
  show (if i = r then x j else g i j) = 0
  by_cases e : i = r
  · rw [if_pos e]; exact h1 e j hj
  · rw [if_neg e]; exact h2 e j hj
/-- a row written anew. -/
theorem Gr.rowset (h : Gr w B G n cap b l c f) {r : Nat} (hr : r < n) (hg : w.grownBy w' (some (b r))) {x : Nat → Nat} (hx : Bl w' (b r) (l r) (c r) x) (hy : Pf.By x) (hu : Pf.Up x (l r)) : Gr w' B G n cap b l c (fun i j => if i = r then x j else f i j) := by
  obtain ⟨vs, h1, h2, h3⟩ := h.blk
  refine ⟨⟨vs, (hg.block G h.ltG (fun e => h.ne hr (by injection e with e; exact e.symm))).trans h1, h2, h3⟩, fun i hi => ?_, h.lc, h.nc, h.lo, h.inj, fun i j => ?_, fun i hi => up_ite (fun e => by rw [e]; exact hu) (fun _ => h.up i hi)⟩
  · by_cases e : i = r
    · subst e
      exact hx.congr fun j _ => (if_pos rfl).symm
    · exact ((h.row i hi).kept (hg.block _ (h.ltb hi) (fun e2 => e (h.inj i r hi hr (by injection e2))))).congr fun j _ => (if_neg e).symm
  · show (if i = r then x j else f i j) < 256
    split
    · exact hy j
    · exact h.bm i j
/-- one byte written. -/
theorem Gr.set (h : Gr w B G n cap b l c f) {r j : Nat} (hr : r < n) (hj : j < l r) {v : Nat} (hv : v < 256) : Gr (w.setCell ⟨b r, j, none⟩ (.int .u8 (v : Nat))) B G n cap b l c (fun i k => if i = r then (if k = j then v else f r k) else f i k) :=
  h.rowset hr (grownSet w (b r) j _) ((h.row r hr).set hj v) (fun k => by
    show (if k = j then v else f r k) < 256
    split
    · exact hv
    · exact h.bm r k) (fun k hk => by
    show (if k = j then v else f r k) = 0
    rw [if_neg (by omega)]; exact h.up r hr k hk)
/-- one row more. -/
theorem Gr.push (h : Gr w B G n cap b l c f) (hn : n < cap) {g ll cc : Nat} {x : Nat → Nat} (hx : Bl w g ll cc x) (h1 : ll ≤ cc ∧ cc ≤ maxLen) (hB : B ≤ g) (hne : ∀ i, i < n → b i ≠ g) (hy : Pf.By x) (hu : Pf.Up x ll) :
    Gr (w.setCell ⟨G, n, none⟩ (.slice (some ⟨g, 0, none⟩) ll cc)) B G (n + 1) cap (fun i => if i = n then g else b i) (fun i => if i = n then ll else l i) (fun i => if i = n then cc else c i) (fun i j => if i = n then x j else f i j) := by
  obtain ⟨vs, k1, k2, k3⟩ := h.blk
  have hgG : g ≠ G := by
    intro e
    obtain ⟨vs', h1', _⟩ := hx
    rw [e, k1] at h1'
    injection h1' with h1'
    injection h1' with _ h2
    exact absurd h2 (by decide)
  have hoth : ∀ k, k ≠ G → (w.setCell ⟨G, n, none⟩ (.slice (some ⟨g, 0, none⟩) ll cc)).heap[k]? = w.heap[k]? := fun k hk => Below.heap_setCell w ⟨G, n, none⟩ _ k hk
  refine ⟨⟨vs.setIfInBounds n (.slice (some ⟨g, 0, none⟩) ll cc), heap_setCell_same w G n vs _ _ k1, by simpa using k2, fun i hi => ?_⟩, fun i hi => ?_, fun i hi => ?_, ⟨hn, h.nc.2⟩, ⟨h.lo.1, fun i hi => ?_⟩, fun i j hi hj e => ?_, fun i j => ?_, fun i hi => ?_⟩
  · rw [Array.getElem?_setIfInBounds]
    by_cases e : n = i
    · subst e
      rw [if_pos rfl, if_pos (by omega)]
      simp
    · rw [if_neg e, k3 i (by omega)]
      simp only [if_neg (fun hh : i = n => e hh.symm)]
  · by_cases e : i = n
    · subst e
      simp only [if_true]
      exact (hx.kept (hoth g hgG)).congr fun j _ => rfl
    · simp only [if_neg e]
      exact (h.row i (by omega)).kept (hoth _ (h.ne (by omega)))
  · by_cases e : i = n
    · subst e; simp only [if_true]; exact h1
    · simp only [if_neg e]; exact h.lc i (by omega)
  · by_cases e : i = n
    · subst e; simp only [if_true]; exact hB
    · simp only [if_neg e]; exact h.lo.2 i (by omega)
  · have e' : (if i = n then g else b i) = (if j = n then g else b j) := e
    by_cases e1 : i = n <;> by_cases e2 : j = n
    · omega
    · rw [if_pos e1, if_neg e2] at e'; exact absurd e'.symm (hne j (by omega))
    · rw [if_neg e1, if_pos e2] at e'; exact absurd e' (hne i (by omega))
    · rw [if_neg e1, if_neg e2] at e'; exact h.inj i j (by omega) (by omega) e'
  · show (if i = n then x j else f i j) < 256
    split
    · exact hy j
    · exact h.bm i j
  · by_cases e : i = n
    · subst e; simp only [if_true]; exact hu
    · simp only [if_neg e]; exact h.up i (by omega)
/-- one row more, as long as all. -/
theorem Gr.pushU {wi : Nat} (h : Gr w B G n cap b (fun _ => wi) (fun _ => wi) f) (hn : n < cap) {g : Nat} {x : Nat → Nat} (hx : Bl w g wi wi x) (hm : wi ≤ maxLen) (hB : B ≤ g) (hne : ∀ i, i < n → b i ≠ g) (hy : Pf.By x) (hu : Pf.Up x wi)
    {f' : Nat → Nat → Nat} (hf : Mt.Bm f') (e1 : ∀ i j, i < n → f i j = f' i j) (e2 : ∀ j, x j = f' n j) :
    Gr (w.setCell ⟨G, n, none⟩ (.slice (some ⟨g, 0, none⟩) wi wi)) B G (n + 1) cap (fun i => if i = n then g else b i) (fun _ => wi) (fun _ => wi) f' := by
  have := h.push hn hx ⟨Nat.le_refl _, hm⟩ hB hne hy hu
  have e : (fun i => if i = n then wi else wi) = fun _ => wi := by funext i; split <;> rfl
  rw [e] at this
  refine this.congr hf fun i j hi => ?_
  show (if i = n then x j else f i j) = f' i j
  by_cases c : i = n
  · rw [if_pos c, c]; exact e2 j
  · rw [if_neg c]; exact e1 i j (by omega)
end
theorem gr_none {w : World} {B G cap : Nat} {b l c : Nat → Nat} {vs : Array Value} (h1 : w.heap[G]? = some (.cells vs 27 (0, 0))) (h2 : vs.size = cap) (hm : cap ≤ maxLen) (hB : B ≤ G) : Gr w B G 0 cap b l c (fun _ _ => 0) :=
  ⟨⟨vs, h1, h2, fun i hi => absurd hi (Nat.not_lt_zero i)⟩, fun i hi => absurd hi (Nat.not_lt_zero i), fun i hi => absurd hi (Nat.not_lt_zero i), ⟨Nat.zero_le _, hm⟩, ⟨hB, fun i hi => absurd hi (Nat.not_lt_zero i)⟩, fun i _ hi => absurd hi (Nat.not_lt_zero i), fun _ _ => (by omega : 0 < 256), fun i hi => absurd hi (Nat.not_lt_zero i)⟩
end Go.Proofs.Ytjlmajopfeplpaa

namespace Go.Proofs.Ytjlmajopfeplpaa
open Go.RowKit Go.Shelf

/-- a row of its own from B on, of which the first n are h; or none. -/
def Rq (W : World) (B : Nat) (a : Option Addr) (n cap : Nat) (h : Nat → Nat) : Prop :=
  (a = none ∧ n = 0 ∧ cap = 0) ∨ ∃ g, a = some ⟨g, 0, none⟩ ∧ B ≤ g ∧ Bl W g n cap h ∧ n ≤ cap ∧ cap ≤ maxLen
section
variable {W W' : World} {B n cap : Nat} {a : Option Addr} {h : Nat → Nat}
theorem Rq.kept (r : Rq W B a n cap h) (hk : ∀ g, a = some ⟨g, 0, none⟩ → g < W.heap.size → W'.heap[g]? = W.heap[g]?) : Rq W' B a n cap h := by
  rcases r with r | ⟨g, e, h1, h2, h3, h4⟩
  · exact Or.inl r
  · exact Or.inr ⟨g, e, h1, h2.kept (hk g e h2.lt), h3, h4⟩
theorem Rq.same (r : Rq W B a n cap h) (hB : Below W.heap.size W W') : Rq W' B a n cap h := r.kept fun g _ hl => hB.block g hl
theorem Rq.grown {row : Option Nat} (r : Rq W B a n cap h) (hg : W.grownBy W' row) (hr : ∀ g, a = some ⟨g, 0, none⟩ → some g ≠ row) : Rq W' B a n cap h := r.kept fun g e hl => hg.block g hl (hr g e)
theorem Rq.congr {h' : Nat → Nat} (r : Rq W B a n cap h) (he : ∀ i, i < n → h i = h' i) : Rq W B a n cap h' := by
  rcases r with r | ⟨g, e, h1, h2, h3, h4⟩
  · exact Or.inl r
  · exact Or.inr ⟨g, e, h1, h2.congr he, h3, h4⟩
theorem Rq.lt (r : Rq W B a n cap h) : ∀ g, a = some ⟨g, 0, none⟩ → B ≤ g ∧ g < W.heap.size := fun g e => by
  rcases r with ⟨r, _⟩ | ⟨g', e', h1, h2, _⟩
  · rw [r] at e; cases e
  · rw [e'] at e; cases e; exact ⟨h1, h2.lt⟩
theorem Rq.at_ (r : Rq W B a n cap h) {i : Nat} (hi : i < n) : ∃ g, a = some ⟨g, 0, none⟩ ∧ B ≤ g ∧ Bl W g n cap h := by
  rcases r with ⟨_, r, _⟩ | ⟨g, e, h1, h2, _⟩
  · omega
  · exact ⟨g, e, h1, h2⟩
theorem Rq.owns (r : Rq W B a n cap h) : W.ownsRow B 5 1 (.slice a n cap) n (rowv h n) := by
  rcases r with ⟨rfl, rfl, rfl⟩ | ⟨g, rfl, h1, ⟨vs, k1, k2, k3⟩, h3, h4⟩
  · exact World.ownsRow_nil _ _ _ _
  · refine ⟨by rw [rowv_len]; omega, Or.inr ⟨g, cap, vs, rfl, h1, k1, h3, h4, by omega, ?_⟩⟩
    apply List.ext_getElem?
    intro i
    rw [List.getElem?_take]
    by_cases c : i < n
    · rw [if_pos (by omega), Array.getElem?_toList, k3 i c, rowv_get c]
    · rw [if_neg (by omega), List.getElem?_eq_none (by rw [rowv_len]; omega)]
theorem Rq.of_owns {g : Nat} (ho : W.ownsRow B 5 1 (.slice (some ⟨g, 0, none⟩) n cap) n (rowv h n)) : Rq W B (some ⟨g, 0, none⟩) n cap h := by
  have hb := Bl.of_owns (h := h) ho (fun i hi => rowv_get hi)
  obtain ⟨_, h2 | ⟨g', cap', cur, e, hg, hh, hn, hm, hs, ht⟩⟩ := ho
  · exact absurd h2.1 (by simp)
  · simp only [Value.slice.injEq, Option.some.injEq, Addr.mk.injEq, and_true, true_and] at e
    obtain ⟨rfl, rfl⟩ := e
    exact Or.inr ⟨g, rfl, hg, hb, by omega, hm⟩
end
end Go.Proofs.Ytjlmajopfeplpaa

namespace Go.Proofs.Ytjlmajopfeplpaa
open Go.RowKit Go.Shelf

end Go.Proofs.Ytjlmajopfeplpaa
