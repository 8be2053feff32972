import Derived.Deep.AppendLies
import Derived.Deep.Onto
import Derived.Test.YtpejkglikgefjaaMg3
namespace Go.Proofs.Ytpejkglikgefjaa
open Go.RowKit Go.Shelf

theorem own_below {w w' : World} {B : Nat} {e : TypeId} {s : Nat} {v : Value} {n : Nat} {xs : List Value} (h : w.ownsRow B e s v n xs) (hB : Below w.heap.size w w') : w'.ownsRow B e s v n xs :=
  h.kept (row := none) ⟨hB.os, hB.tape, hB.output, hB.size, fun k hk _ => hB.block k hk⟩ (by cases v.ownBlock <;> simp)
/-- so many coefficients, as values. -/
def rowv (f : Nat → Nat) (n : Nat) : List Value := (List.range n).map fun i => Value.int .u8 (f i : Nat)
theorem rowv_succ (f : Nat → Nat) (n : Nat) : rowv f (n + 1) = rowv f n ++ [.int .u8 (f n : Nat)] := by unfold rowv; rw [List.range_succ, List.map_append]; rfl
theorem cell_new1 (w : World) (v : Value) (t : TypeId) : ∀ j u, [v][j]? = some u → (w.alloc (.cells #[v] t)).cell? ((⟨w.heap.size, 0, none⟩ : Addr).add j) = some u := by
  intro j u hu
  cases j with
  | zero => simpa [Addr.add_lit, World.cell?_alloc_new] using hu
  | succ j => simp at hu

theorem rowv_len (f : Nat → Nat) (n : Nat) : (rowv f n).length = n := by simp [rowv]
theorem rowv_get {f : Nat → Nat} {n i : Nat} (h : i < n) : (rowv f n)[i]? = some (.int .u8 (f i : Nat)) := by simp [rowv, h]
theorem rowv_take {f : Nat → Nat} {n m : Nat} : (rowv f (n + m)).take n = rowv f n := by
  unfold rowv
  rw [← List.map_take, List.take_range, Nat.min_eq_left (Nat.le_add_right n m)]
theorem rowv_congr {f g : Nat → Nat} {n : Nat} (h : ∀ i, i < n → f i = g i) : rowv f n = rowv g n := by
  unfold rowv
  exact List.map_congr_left fun i hi => by rw [h i (List.mem_range.1 hi)]
theorem rowv_set (f : Nat → Nat) (n j v : Nat) : (rowv f n).set j (.int .u8 (v : Nat)) = rowv (fun i => if i = j then v else f i) n := by
  apply List.ext_getElem?
  intro i
  rw [List.getElem?_set]
  by_cases hi : i < n
  · rw [rowv_get hi, rowv_get hi, rowv_len]
    by_cases e : j = i
    · subst e; rw [if_pos rfl, if_pos hi]; simp
    · rw [if_neg e]
      show _ = some (Value.int .u8 ((if i = j then v else f i : Nat) : Int))
      rw [if_neg (fun h => e h.symm)]
  · rw [List.getElem?_eq_none (by rw [rowv_len]; omega), List.getElem?_eq_none (by rw [rowv_len]; omega), rowv_len]
    by_cases e : j = i
    · subst e; rw [if_pos rfl, if_neg hi]
    · rw [if_neg e]
theorem rowv_ones (f : Nat → Nat) (n : Nat) : ∀ u ∈ rowv f n, u.oneCell' = true := by
  intro u hu
  obtain ⟨i, _, rfl⟩ := List.mem_map.1 hu
  rfl

theorem grownBelow {w w' : World} (hB : Below w.heap.size w w') (row : Option Nat) : w.grownBy w' row := ⟨hB.os, hB.tape, hB.output, hB.size, fun k hk _ => hB.block k hk⟩
theorem grownSet (w : World) (g j : Nat) (u : Value) : w.grownBy (w.setCell ⟨g, j, none⟩ u) (some g) := by
  have hB := (Below.refl 0 w).setCell (p := ⟨g, j, none⟩) (Nat.zero_le _) u
  exact ⟨hB.os, hB.tape, hB.output, hB.size, fun k _ hne => heap_setCell_other w ⟨g, j, none⟩ k u (fun h => hne (by rw [h]))⟩
theorem grown_alloc (w : World) (o : Obj) : w.grownBy (w.alloc o) none := grownBelow ((Below.refl _ w).alloc (Nat.le_refl _) o) none


/-- what owns a row owns its first elements. -/
theorem own_short {w : World} {B e n m cap : Nat} {a : Option Addr} {xs : List Value} (h : w.ownsRow B e 1 (.slice a (n + m) cap) (n + m) xs) : w.ownsRow B e 1 (.slice a n cap) n (xs.take n) := by
  obtain ⟨hl, h⟩ := h
  refine ⟨by rw [List.length_take, hl]; omega, ?_⟩
  rcases h with ⟨hv, h0⟩ | ⟨g, cap', cur, hv, hb, hg, hnc, hcm, hcs, ht⟩
  · left
    obtain rfl : n = 0 := by omega
    obtain rfl : m = 0 := by omega
    exact ⟨hv, rfl⟩
  · right
    simp only [Value.slice.injEq, true_and] at hv
    obtain ⟨rfl, rfl⟩ := hv
    refine ⟨g, cap, cur, rfl, hb, hg, by omega, hcm, hcs, ?_⟩
    rw [← ht, List.take_take, Nat.min_eq_left (by omega), Nat.mul_one]

section
variable {P : Program}
/-- append, and where the new slice lies: in the old row, as long; or in a new block. -/
theorem run_append_bag (w : World) (t ty : TypeId) (base : Nat) (e : TypeId) (i : TypeInfo) (z : Value) (bytes : Nat) (ht : P.underlying t = some (.slice e)) (hi : P.info? e = some i) (hz : i.zero = some z)
    (hsize : i.size = 1) (hby : i.bytes = bytes) (hzs : z.cells.size = 1)
    (a : Option Addr) (n cap : Nat) (xs : List Value) (hown : w.ownsRow base e 1 (.slice a n cap) n xs)
    (ad : Addr) (m c : Nat) (news : List Value) (hl : news.length = m) (hnews : ∀ j u, news[j]? = some u → w.cell? (ad.add j) = some u) (h1 : ∀ u ∈ news, u.oneCell' = true)
    (hm : 0 < m) (h63 : n + m ≤ maxLen) (hbytes : (n + m) * bytes ≤ 140737488355328) (hbase : base ≤ w.heap.size) :
    ∃ g cap' w', (Builtin.append_ #[t, t] ty #[.slice a n cap, .slice (some ad) m c]).run P w = .ok (.slice (some ⟨g, 0, none⟩) (n + m) cap') w' ∧
      w'.ownsRow base e 1 (.slice (some ⟨g, 0, none⟩) (n + m) cap') (n + m) (xs ++ news) ∧ (a = some ⟨g, 0, none⟩ ∧ cap' = cap ∧ w.grownBy w' (some g) ∨ w.heap.size ≤ g ∧ w.grownBy w' none) ∧ g < w'.heap.size := by
  have hl' : news.length = m * 1 := by omega
  rcases hown.2 with ⟨hv, h0⟩ | ⟨g, cap2, cur, hv, hb, hg, hnc, hcm, hcs, htk⟩
  · rw [hv] at hown ⊢
    obtain ⟨g, cap', w', hr, h2, h3, h4, h5⟩ := run_append_lies (P := P) w t ty base e i z 1 bytes ht hi hz hsize hby hzs (by decide) (.slice none 0 0) n xs hown ad m c news hl' hnews h1 hm h63 hbytes hbase _ rfl
    exact ⟨g, cap', w', hr, h2, Or.inr ⟨by rcases h4 with h | h; exact (by cases h); omega, h3⟩, h5⟩
  · simp only [Value.slice.injEq, true_and] at hv
    obtain ⟨rfl, rfl⟩ := hv
    rcases Nat.lt_or_ge cap (n + m) with hr | hr
    · obtain ⟨v', w', hrun, h2, h3⟩ := run_append_arg_grows (P := P) w t ty e i z 1 bytes ht hi hz hsize hby hzs (by decide) ⟨g, 0, none⟩ n cap xs hown.1 (fun j u hj => hown.cells rfl j u hj) ad m c news hl' hnews hr h63 hbytes
      obtain ⟨g2, cap2, rfl, hb2, hlt⟩ := h2.form (by omega)
      exact ⟨g2, cap2, w', hrun, h2.mono hbase, Or.inr ⟨hb2, h3⟩, hlt⟩
    · obtain ⟨w', hrun, h2, h3⟩ := run_append_fits (P := P) w base t ty e i 1 ht hi hsize g n cap xs hown ad m c news hl' hnews h1 hr
      exact ⟨g, cap, w', hrun, h2, Or.inl ⟨rfl, rfl, h3⟩, (h2.lt g rfl).2⟩

theorem wpList_append_bag (w : World) {ops : Array Oper} {rest : List Oper} {o : Oper} {act : Act} {Q : Exit → Act → World → Prop} (hgd : o.guard = none) (s x : Operand) (t : TypeId)
    (ho : o.op = .call { callee := .builtin .append, args := #[s, x], argTypes := #[t, t] })
    (base : Nat) (e : TypeId) (i : TypeInfo) (z : Value) (bytes : Nat) (ht : P.underlying t = some (.slice e)) (hi : P.info? e = some i) (hz : i.zero = some z)
    (hsize : i.size = 1) (hby : i.bytes = bytes) (hzs : z.cells.size = 1)
    (a : Option Addr) (n cap : Nat) (xs : List Value) (hs : act.eval s = .slice a n cap) (hown : w.ownsRow base e 1 (.slice a n cap) n xs)
    (ad : Addr) (m c : Nat) (news : List Value) (hx : act.eval x = .slice (some ad) m c) (hl : news.length = m) (hnews : ∀ j u, news[j]? = some u → w.cell? (ad.add j) = some u) (h1 : ∀ u ∈ news, u.oneCell' = true)
    (hm : 0 < m) (h63 : n + m ≤ maxLen) (hbytes : (n + m) * bytes ≤ 140737488355328) (hbase : base ≤ w.heap.size)
    (h : ∀ g cap' w', w'.ownsRow base e 1 (.slice (some ⟨g, 0, none⟩) (n + m) cap') (n + m) (xs ++ news) → (a = some ⟨g, 0, none⟩ ∧ cap' = cap ∧ w.grownBy w' (some g) ∨ w.heap.size ≤ g ∧ w.grownBy w' none) → g < w'.heap.size → wpList P ops Q rest (act.put o.dst (.slice (some ⟨g, 0, none⟩) (n + m) cap')) w') : wpList P ops Q (o :: rest) act w := by
  refine wpList_plain hgd fun _ hK => ?_
  obtain ⟨g, cap', w', hr, h2, h3, h4⟩ := run_append_bag (P := P) w t o.type base e i z bytes ht hi hz hsize hby hzs a n cap xs hown ad m c news hl hnews h1 hm h63 hbytes hbase
  unfold Oper.wp execOp
  simp only [ho, resolve, invoke, builtin, Sem.run_bind, Sem.run_pure, Result.andThen_ok, List.map_toArray, List.map_cons, List.map_nil, hs, hx, hr]
  exact hK _ _ (h g cap' w' h2 h3 h4)
end
end Go.Proofs.Ytpejkglikgefjaa

namespace Go.Proofs.Ytpejkglikgefjaa
open Go.RowKit Go.Shelf

theorem below_dr {B : Nat} {w w' : World} (h : Below B w w') (q : Nat) : Below B w (w'.drewN q) := ⟨h.os, h.tape, h.output, h.size, h.block⟩
/-- a slice of slices of bytes, as it reads: its row i is the slice r i, of l i bytes, and reads as f i. -/
structure Rd (w : World) (a : Option Addr) (n cap : Nat) (r : Nat → Option Addr) (l c : Nat → Nat) (f : Nat → Nat → Nat) : Prop where
  capOk : n ≤ cap
  maxOk : cap ≤ maxLen
  bm : Mt.Bm f
  nil : a = none → n = 0 ∧ cap = 0
  spot : ∀ ad, a = some ad → n ≠ 0 → ad.spot = none
  cell : ∀ ad, a = some ad → ∀ i, i < n → w.cell? ⟨ad.block, ad.off + i, none⟩ = some (.slice (r i) (l i) (c i))
  row : ∀ i, i < n → Sl w (r i) (l i) (c i) (f i)
section
variable {w w' : World} {a : Option Addr} {n cap : Nat} {r : Nat → Option Addr} {l c : Nat → Nat} {f : Nat → Nat → Nat}
theorem Rd.same (h : Rd w a n cap r l c f) (hB : Below w.heap.size w w') : Rd w' a n cap r l c f :=
  ⟨h.capOk, h.maxOk, h.bm, h.nil, h.spot, fun ad ha i hi => by
    have hc := h.cell ad ha i hi
    rw [hB.cell (World.block_lt_of_cell? _ _ hc)]; exact hc, fun i hi => (h.row i hi).same hB⟩
theorem Rd.drewN (h : Rd w a n cap r l c f) (q : Nat) : Rd (w.drewN q) a n cap r l c f := ⟨h.capOk, h.maxOk, h.bm, h.nil, h.spot, h.cell, fun i hi => (h.row i hi).drewN q⟩
theorem Rd.at_ (h : Rd w a n cap r l c f) {k : Nat} (hk : k < n) : ∃ b off, a = some ⟨b, off, none⟩ ∧ w.cell? ⟨b, off + k, none⟩ = some (.slice (r k) (l k) (c k)) := by
  cases a with
  | none => have := h.nil rfl; omega
  | some ad =>
    have hc := h.cell ad rfl k hk
    obtain ⟨b, off, spot⟩ := ad
    obtain rfl : spot = none := h.spot _ rfl (by omega)
    exact ⟨b, off, rfl, hc⟩
theorem Rd.up (h : Rd w a n cap r l c f) {i j : Nat} (hi : i < n) (hj : l i ≤ j) : f i j = 0 := (h.row i hi).up j hj
end

section
variable {w w' : World} {B G n cap : Nat} {b l c : Nat → Nat} {f : Nat → Nat → Nat}
theorem up_ite {g : Nat → Nat → Nat} {r k : Nat} {x : Nat → Nat} {i : Nat} (h1 : i = r → Pf.Up x k) (h2 : i ≠ r → Pf.Up (g i) k) : Pf.Up (fun j => if i = r then x j else g i j) k := fun j hj => by
  show (if i = r then x j else g i j) = 0
  by_cases e : i = r
  · rw [if_pos e]; exact h1 e j hj
  · rw [if_neg e]; exact h2 e j hj
end
end Go.Proofs.Ytpejkglikgefjaa

namespace Go.Proofs.Ytpejkglikgefjaa
open Go.RowKit Go.Shelf

/-- a row of its own from B on, of which the first n are h; or none. -/
def Rq (W : World) (B : Nat) (a : Option Addr) (n cap : Nat) (h : Nat → Nat) : Prop :=
  (a = none ∧ n = 0 ∧ cap = 0) ∨ ∃ g, a = some ⟨g, 0, none⟩ ∧ B ≤ g ∧ Bl W g n cap h ∧ n ≤ cap ∧ cap ≤ maxLen
section
variable {W W' : World} {B n cap : Nat} {a : Option Addr} {h : Nat → Nat}
theorem Rq.kept (r : Rq W B a n cap h) (hk : ∀ g, a = some ⟨g, 0, none⟩ → g < W.heap.size → W'.heap[g]? = W.heap[g]?) : Rq W' B a n cap h := by
  rcases r with r | ⟨g, e, h1, h2, h3, h4⟩
  · exact Or.inl r
  · exact Or.inr ⟨g, e, h1, h2.kept (hk g e h2.lt), h3, h4⟩
theorem Rq.same (r : Rq W B a n cap h) (hB : Below W.heap.size W W') : Rq W' B a n cap h := r.kept fun g _ hl => hB.block g hl
theorem Rq.grown {row : Option Nat} (r : Rq W B a n cap h) (hg : W.grownBy W' row) (hr : ∀ g, a = some ⟨g, 0, none⟩ → some g ≠ row) : Rq W' B a n cap h := r.kept fun g e hl => hg.block g hl (hr g e)
theorem Rq.congr {h' : Nat → Nat} (r : Rq W B a n cap h) (he : ∀ i, i < n → h i = h' i) : Rq W B a n cap h' := by
  rcases r with r | ⟨g, e, h1, h2, h3, h4⟩
  · exact Or.inl r
  · exact Or.inr ⟨g, e, h1, h2.congr he, h3, h4⟩
theorem Rq.lt (r : Rq W B a n cap h) : ∀ g, a = some ⟨g, 0, none⟩ → B ≤ g ∧ g < W.heap.size := fun g e => by
  rcases r with ⟨r, _⟩ | ⟨g', e', h1, h2, _⟩
  · rw [r] at e; cases e
  · rw [e'] at e; cases e; exact ⟨h1, h2.lt⟩
theorem Rq.at_ (r : Rq W B a n cap h) {i : Nat} (hi : i < n) : ∃ g, a = some ⟨g, 0, none⟩ ∧ B ≤ g ∧ Bl W g n cap h := by
  rcases r with ⟨_, r, _⟩ | ⟨g, e, h1, h2, _⟩
  · omega
  · exact ⟨g, e, h1, h2⟩
theorem Rq.owns (r : Rq W B a n cap h) : W.ownsRow B 5 1 (.slice a n cap) n (rowv h n) := by
  rcases r with ⟨rfl, rfl, rfl⟩ | ⟨g, rfl, h1, ⟨vs, k1, k2, k3⟩, h3, h4⟩
  · exact World.ownsRow_nil _ _ _ _
  · refine ⟨by rw [rowv_len]; omega, Or.inr ⟨g, cap, vs, rfl, h1, k1, h3, h4, by omega, ?_⟩⟩
    apply List.ext_getElem?
    intro i
    rw [List.getElem?_take]
    by_cases c : i < n
    · rw [if_pos (by omega), Array.getElem?_toList, k3 i c, rowv_get c]
    · rw [if_neg (by omega), List.getElem?_eq_none (by rw [rowv_len]; omega)]
theorem Rq.of_owns {g : Nat} (ho : W.ownsRow B 5 1 (.slice (some ⟨g, 0, none⟩) n cap) n (rowv h n)) : Rq W B (some ⟨g, 0, none⟩) n cap h := by
  have hb := Bl.of_owns (h := h) ho (fun i hi => rowv_get hi)
  obtain ⟨_, h2 | ⟨g', cap', cur, e, hg, hh, hn, hm, hs, ht⟩⟩ := ho
  · exact absurd h2.1 (by simp)
  · simp only [Value.slice.injEq, Option.some.injEq, Addr.mk.injEq, and_true, true_and] at e
    obtain ⟨rfl, rfl⟩ := e
    exact Or.inr ⟨g, rfl, hg, hb, by omega, hm⟩
end
end Go.Proofs.Ytpejkglikgefjaa

namespace Go.Proofs.Ytpejkglikgefjaa
open Go.RowKit Go.Shelf

section
variable {w w' : World} {B n cap : Nat} {a : Option Addr} {b l c : Nat → Nat} {f : Nat → Nat → Nat}
end

section
variable {w w' : World} {B k cap : Nat} {a : Option Addr} {b l c : Nat → Nat} {f : Nat → Nat → Nat}
end
theorem below_apn {B g cap cap' : Nat} {a : Option Addr} {w0 w w' : World} (hB : Below B w0 w) (hw : B ≤ w.heap.size) (hc : a = some ⟨g, 0, none⟩ ∧ cap' = cap ∧ w.grownBy w' (some g) ∨ w.heap.size ≤ g ∧ w.grownBy w' none) (ha : ∀ g, a = some ⟨g, 0, none⟩ → B ≤ g) : Below B w0 w' := by
  rcases hc with ⟨e, _, hg⟩ | ⟨_, hg⟩
  · exact hB.grown hg hw (fun k e2 => by cases e2; exact ha g e)
  · exact hB.grown hg hw (fun k e2 => by cases e2)

end Go.Proofs.Ytpejkglikgefjaa

namespace Go.Proofs.Ytpejkglikgefjaa
open Go.RowKit Go.Shelf

/-- the mark, as a number from 0 on. -/
def mkN (k i : Nat) : Nat := (mkB k i).toNat
theorem mkN_eq (k i : Nat) : ((mkN k i : Nat) : Int) = mkB k i := by have := mkB_bd k i; unfold mkN; omega
theorem mkN_lt (k i : Nat) : mkN k i < 256 := by have := mkB_bd k i; unfold mkN; omega
/-- the block that a slice lies in. -/
def blk (a : Option Addr) : Option Nat := a.map Addr.block
theorem own_blk (a : Option Addr) (l c : Nat) : (Value.slice a l c).ownBlock = blk a := by cases a <;> rfl

/-- a list of slices of bytes, each of a row of its own: of ll elements each, of which the first l read as h. -/
structure Bag (w : World) (B L n : Nat) (a : Nat → Option Addr) (ll l c : Nat → Nat) (h : Nat → Nat → Nat) : Prop where
  lst : ∀ k, k < n → w.cell? ⟨L, k, none⟩ = some (.slice (a k) (ll k) (c k))
  own : ∀ k, k < n → w.ownsRow B 5 1 (.slice (a k) (l k) (c k)) (l k) (rowv (h k) (l k))
/-- no two lie in one block. -/
def Sep (a : Nat → Option Addr) (n : Nat) : Prop := ∀ i j, i < n → j < n → i ≠ j → blk (a i) = none ∨ blk (a i) ≠ blk (a j)
/-- none lies in this block. -/
def Not (a : Nat → Option Addr) (n L : Nat) : Prop := ∀ k, k < n → blk (a k) ≠ some L

section
variable {w w' : World} {B L n : Nat} {a : Nat → Option Addr} {ll l c : Nat → Nat} {h : Nat → Nat → Nat}
theorem Bag.grown {row : Option Nat} (hb : Bag w B L n a ll l c h) (hg : w.grownBy w' row) (hL : some L ≠ row) (hr : ∀ k, k < n → blk (a k) = none ∨ blk (a k) ≠ row) : Bag w' B L n a ll l c h :=
  ⟨fun k hk => hg.cell (hb.lst k hk) hL, fun k hk => (hb.own k hk).kept hg (by rw [own_blk]; exact hr k hk)⟩
theorem Bag.grown0 (hb : Bag w B L n a ll l c h) (hg : w.grownBy w' none) : Bag w' B L n a ll l c h :=
  hb.grown hg (by simp) fun k _ => by cases blk (a k) <;> simp
theorem Bag.below (hb : Bag w B L n a ll l c h) (hB : Below w.heap.size w w') : Bag w' B L n a ll l c h := hb.grown0 (grownBelow hB none)
theorem Bag.lt (hb : Bag w B L n a ll l c h) {k g : Nat} (hk : k < n) (e : blk (a k) = some g) : B ≤ g ∧ g < w.heap.size := (hb.own k hk).lt g (by rw [own_blk]; exact e)
theorem Bag.far (hb : Bag w B L n a ll l c h) {g : Nat} (hg : w.heap.size ≤ g) : ∀ k, k < n → blk (a k) = none ∨ blk (a k) ≠ some g := fun k hk => by
  right; intro e
  have := (hb.lt hk e).2
  omega
theorem Bag.ltL (hb : Bag w B L n a ll l c h) (hn : 0 < n) : L < w.heap.size := World.block_lt_of_cell? _ _ (hb.lst 0 hn)
theorem Bag.at_ (hb : Bag w B L n a ll l c h) {k i : Nat} (hk : k < n) (hi : i < l k) : ∃ g, a k = some ⟨g, 0, none⟩ ∧ w.cell? ⟨g, i, none⟩ = some (.int .u8 (h k i : Nat)) ∧ w.frozen? ⟨g, i, none⟩ = false := by
  obtain ⟨g, cap, hv, _, _⟩ := (hb.own k hk).form (by omega)
  simp only [Value.slice.injEq, true_and] at hv
  have o := hb.own k hk
  rw [hv.1] at o
  exact ⟨g, hv.1, by rw [o.cellAt i (by omega), rowv_get hi], o.frozenAt i⟩
theorem Bag.congr {h' : Nat → Nat → Nat} (hb : Bag w B L n a ll l c h) (he : ∀ k i, k < n → i < l k → h k i = h' k i) : Bag w B L n a ll l c h' :=
  ⟨hb.lst, fun k hk => by rw [← rowv_congr fun i hi => he k i hk hi]; exact hb.own k hk⟩
theorem Bag.set (hb : Bag w B L n a ll l c h) {k i g : Nat} (hk : k < n) (e : a k = some ⟨g, 0, none⟩) (hs : Sep a n) (hL : Not a n L) (v : Nat) :
    Bag (w.setCell ⟨g, i, none⟩ (.int .u8 (v : Nat))) B L n a ll l c (fun j x => if j = k ∧ x = i then v else h j x) := by
  have hg := grownSet w g i (.int .u8 (v : Nat))
  refine ⟨fun j hj => hg.cell (hb.lst j hj) (fun h => hL k hk (by rw [e]; exact h.symm)), fun j hj => ?_⟩
  by_cases hjk : j = k
  · subst hjk
    have o := hb.own j hj
    rw [e] at o ⊢
    have := (o.stored i (.int .u8 (v : Nat))).1
    rw [rowv_set] at this
    rw [rowv_congr (g := fun x => if x = i then v else h j x) fun x _ => by simp]
    exact this
  · rw [rowv_congr (g := h j) fun x _ => by simp [hjk]]
    refine (hb.own j hj).kept hg ?_
    rw [own_blk]
    rcases hs j k hj hk hjk with h | h
    · exact Or.inl h
    · right; rw [e] at h; exact h
/-- behind an append onto one of them. -/
theorem Bag.app (hb : Bag w B L n a ll l c h) {k g x cap' : Nat} {ys : List Value} (hk : k < n) (hs : Sep a n) (hL : Not a n L)
    (hown : w'.ownsRow B 5 1 (.slice (some ⟨g, 0, none⟩) (l k + x) cap') (l k + x) ys) (hys : ys.take (l k) = rowv (h k) (l k)) (e : a k = some ⟨g, 0, none⟩) (ec : cap' = c k) (hg : w.grownBy w' (some g)) : Bag w' B L n a ll l c h := by
  refine ⟨fun j hj => hg.cell (hb.lst j hj) (fun h => hL k hk (by rw [e]; exact h.symm)), fun j hj => ?_⟩
  by_cases hjk : j = k
  · subst hjk
    have := own_short hown
    rw [hys, ec, ← e] at this
    exact this
  · refine (hb.own j hj).kept hg ?_
    rw [own_blk]
    rcases hs j k hj hk hjk with h | h
    · exact Or.inl h
    · right; rw [e] at h; exact h
end

/-- below B all is as it was; and of what was there nothing has turned but the rows. -/
structure Bel (B n : Nat) (a : Nat → Option Addr) (w wr : World) : Prop where
  be : Below B w wr
  kp : ∀ g, g < w.heap.size → (∀ k, k < n → blk (a k) ≠ some g) → wr.heap[g]? = w.heap[g]?
section
variable {B n : Nat} {a : Nat → Option Addr} {w wr w' : World}
theorem Bel.refl (B n : Nat) (a : Nat → Option Addr) (w : World) : Bel B n a w w := ⟨Below.refl _ _, fun _ _ _ => rfl⟩
theorem Bel.size (h : Bel B n a w wr) : w.heap.size ≤ wr.heap.size := h.be.size
theorem Bel.grown0 (h : Bel B n a w wr) (hg : wr.grownBy w' none) (hB : B ≤ w.heap.size) : Bel B n a w w' :=
  ⟨h.be.grown hg (Nat.le_trans hB h.size) (fun x hx => by cases hx), fun g hl hn => (hg.block g (Nat.lt_of_lt_of_le hl h.size) (by simp)).trans (h.kp g hl hn)⟩
theorem Bel.drewN (h : Bel B n a w wr) (hB : B ≤ w.heap.size) (q : Nat) : Bel B n a w (wr.drewN q) := h.grown0 (grownBelow (below_drewN (Below.refl _ _) q) none) hB
theorem Bel.grownRow {g k : Nat} (h : Bel B n a w wr) (hg : wr.grownBy w' (some g)) (hB : B ≤ w.heap.size) (hk : k < n) (e : blk (a k) = some g) (hb : B ≤ g) : Bel B n a w w' :=
  ⟨h.be.grown hg (Nat.le_trans hB h.size) (fun x hx => by cases hx; exact hb), fun x hl hn => (hg.block x (Nat.lt_of_lt_of_le hl h.size) (fun hh => hn k hk (by rw [e, ← hh]))).trans (h.kp x hl hn)⟩
theorem Bel.grownNew {g : Nat} (h : Bel B n a w wr) (hg : wr.grownBy w' (some g)) (hB : B ≤ w.heap.size) (hb : w.heap.size ≤ g) : Bel B n a w w' :=
  ⟨h.be.grown hg (Nat.le_trans hB h.size) (fun x hx => by cases hx; exact Nat.le_trans hB hb), fun x hl hn => (hg.block x (Nat.lt_of_lt_of_le hl h.size) (fun hh => by cases hh; omega)).trans (h.kp x hl hn)⟩
end

/-- what stands fast meanwhile. -/
structure Fix4 (w wq : World) (B L G n k : Nat) (a : Nat → Option Addr) (hf : Nat → Option Addr) : Prop where
  hk : k < n
  sep : Sep a n
  noL : Not a n L
  noG : Not a n G
  nhG : Not hf k G
  sh : ∀ j i, j < k → i < n → j ≠ i → blk (hf j) ≠ none → blk (hf j) ≠ blk (a i)
  fa : ∀ j g, j < n → blk (a j) = some g → g < wq.heap.size
  fh : ∀ j g, j < k → blk (hf j) = some g → g < wq.heap.size
  lL : L < wq.heap.size
  lG : G < wq.heap.size
  bL : B ≤ L
  bG : B ≤ G
  ne : L ≠ G
  bw : B ≤ w.heap.size
  ws : w.heap.size ≤ wq.heap.size
  wG : w.heap.size ≤ G
section
variable {w wq wi w6 : World} {B L G n k : Nat} {a : Nat → Option Addr} {l c : Nat → Nat} {hf : Nat → Option Addr} {df : Nat → Nat}
end
end Go.Proofs.Ytpejkglikgefjaa
