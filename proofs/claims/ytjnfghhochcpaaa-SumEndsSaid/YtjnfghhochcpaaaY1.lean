import Derived.Test.YtjnfghhochcpaaaY0
import Derived.Test.YtjnfghhochcpaaaAb
import Derived.Test.YtjnfghhochcpaaaK2
namespace Go.Proofs.Ytjnfghhochcpaaa.Oz
open Go.RowKit Go.Shelf

/-- the mark, as a number from 0 on. -/
def mkN (k i : Nat) : Nat := (mkB k i).toNat
theorem mkN_eq (k i : Nat) : ((mkN k i : Nat) : Int) = mkB k i := by have := mkB_bd k i; unfold mkN; omega
theorem mkN_lt (k i : Nat) : mkN k i < 256 := by have := mkB_bd k i; unfold mkN; omega
theorem markN_any (k i : Nat) (x y : Int) (hx : x = (k : Int)) (hy : y = (i : Int)) (hk : k ≤ 1000000) (hi : i ≤ 1000000000000) (w : World) :
    Calls Try.prog 24 #[.int .i64 x, .int .i64 y] w fun e w' => e = .returned (.int .u8 (mkN k i : Nat)) ∧ w' = w := by
  subst hx hy
  rw [mkN_eq]
  exact markByte_any k i (by omega) (by omega) (by omega) (by omega) w

/-- the block that a slice lies in. -/
def blk (a : Option Addr) : Option Nat := a.map Addr.block
theorem own_blk (a : Option Addr) (l c : Nat) : (Value.slice a l c).ownBlock = blk a := by cases a <;> rfl

/-- a list of slices of bytes, each of a row of its own: of ll elements each, of which the first l read as h. -/
structure Bag (w : World) (B L n : Nat) (a : Nat → Option Addr) (ll l c : Nat → Nat) (h : Nat → Nat → Nat) : Prop where
  lst : ∀ k, k < n → w.cell? ⟨L, k, none⟩ = some (.slice (a k) (ll k) (c k))
  own : ∀ k, k < n → OzRow w B 5 1 (.slice (a k) (l k) (c k)) (l k) (rowv (h k) (l k))
/-- no two lie in one block. -/
def Sep (a : Nat → Option Addr) (n : Nat) : Prop := ∀ i j, i < n → j < n → i ≠ j → blk (a i) = none ∨ blk (a i) ≠ blk (a j)
/-- none lies in this block. -/
def Not (a : Nat → Option Addr) (n L : Nat) : Prop := ∀ k, k < n → blk (a k) ≠ some L

section
variable {w w' : World} {B L n : Nat} {a : Nat → Option Addr} {ll l c : Nat → Nat} {h : Nat → Nat → Nat}
theorem Bag.grown {row : Option Nat} (hb : Bag w B L n a ll l c h) (hg : w.grownBy w' row) (hL : some L ≠ row) (hr : ∀ k, k < n → blk (a k) = none ∨ blk (a k) ≠ row) : Bag w' B L n a ll l c h :=
  ⟨fun k hk => hg.cell (hb.lst k hk) hL, fun k hk => (hb.own k hk).kept hg (by rw [own_blk]; exact hr k hk)⟩
theorem Bag.grown0 (hb : Bag w B L n a ll l c h) (hg : w.grownBy w' none) : Bag w' B L n a ll l c h :=
  hb.grown hg (by simp) fun k _ => by cases blk (a k) <;> simp
theorem Bag.below (hb : Bag w B L n a ll l c h) (hB : Below w.heap.size w w') : Bag w' B L n a ll l c h := hb.grown0 (grownBelow hB none)
theorem Bag.lt (hb : Bag w B L n a ll l c h) {k g : Nat} (hk : k < n) (e : blk (a k) = some g) : B ≤ g ∧ g < w.heap.size := (hb.own k hk).lt g (by rw [own_blk]; exact e)
theorem Bag.far (hb : Bag w B L n a ll l c h) {g : Nat} (hg : w.heap.size ≤ g) : ∀ k, k < n → blk (a k) = none ∨ blk (a k) ≠ some g := fun k hk => by
  right; intro e
  have := (hb.lt hk e).2
  omega
theorem Bag.ltL (hb : Bag w B L n a ll l c h) (hn : 0 < n) : L < w.heap.size := World.block_lt_of_cell? _ _ (hb.lst 0 hn)
theorem Bag.at_ (hb : Bag w B L n a ll l c h) {k i : Nat} (hk : k < n) (hi : i < l k) : ∃ g, a k = some ⟨g, 0, none⟩ ∧ w.cell? ⟨g, i, none⟩ = some (.int .u8 (h k i : Nat)) ∧ w.frozen? ⟨g, i, none⟩ = false := by
  obtain ⟨g, cap, hv, _, _⟩ := (hb.own k hk).form (by omega)
  simp only [Value.slice.injEq, true_and] at hv
  have o := hb.own k hk
  rw [hv.1] at o
  exact ⟨g, hv.1, by rw [o.cellAt i (by omega), rowv_get hi], o.frozenAt i⟩
theorem Bag.congr {h' : Nat → Nat → Nat} (hb : Bag w B L n a ll l c h) (he : ∀ k i, k < n → i < l k → h k i = h' k i) : Bag w B L n a ll l c h' :=
  ⟨hb.lst, fun k hk => by rw [← rowv_congr fun i hi => he k i hk hi]; exact hb.own k hk⟩
theorem Bag.set (hb : Bag w B L n a ll l c h) {k i g : Nat} (hk : k < n) (e : a k = some ⟨g, 0, none⟩) (hs : Sep a n) (hL : Not a n L) (v : Nat) :
    Bag (w.setCell ⟨g, i, none⟩ (.int .u8 (v : Nat))) B L n a ll l c (fun j x => if j = k ∧ x = i then v else h j x) := by
  have hg := grownSet w g i (.int .u8 (v : Nat))
  refine ⟨fun j hj => hg.cell (hb.lst j hj) (fun h => hL k hk (by rw [e]; exact h.symm)), fun j hj => ?_⟩
  by_cases hjk : j = k
  · subst hjk
    have o := hb.own j hj
    rw [e] at o ⊢
    have := (o.stored i (.int .u8 (v : Nat))).1
    rw [rowv_set] at this
    rw [rowv_congr (g := fun x => if x = i then v else h j x) fun x _ => by simp]
    exact this
  · rw [rowv_congr (g := h j) fun x _ => by simp [hjk]]
    refine (hb.own j hj).kept hg ?_
    rw [own_blk]
    rcases hs j k hj hk hjk with h | h
    · exact Or.inl h
    · right; rw [e] at h; exact h
/-- behind an append onto one of them. -/
theorem Bag.app (hb : Bag w B L n a ll l c h) {k g x cap' : Nat} {ys : List Value} (hk : k < n) (hs : Sep a n) (hL : Not a n L)
    (hown : OzRow w' B 5 1 (.slice (some ⟨g, 0, none⟩) (l k + x) cap') (l k + x) ys) (hys : ys.take (l k) = rowv (h k) (l k)) (e : a k = some ⟨g, 0, none⟩) (ec : cap' = c k) (hg : w.grownBy w' (some g)) : Bag w' B L n a ll l c h := by
  refine ⟨fun j hj => hg.cell (hb.lst j hj) (fun h => hL k hk (by rw [e]; exact h.symm)), fun j hj => ?_⟩
  by_cases hjk : j = k
  · subst hjk
    have := own_short hown
    rw [hys, ec, ← e] at this
    exact this
  · refine (hb.own j hj).kept hg ?_
    rw [own_blk]
    rcases hs j k hj hk hjk with h | h
    · exact Or.inl h
    · right; rw [e] at h; exact h
end

/-- below B all is as it was; and of what was there nothing has turned but the rows. -/
structure Bel (B n : Nat) (a : Nat → Option Addr) (w wr : World) : Prop where
  be : Below B w wr
  kp : ∀ g, g < w.heap.size → (∀ k, k < n → blk (a k) ≠ some g) → wr.heap[g]? = w.heap[g]?
section
variable {B n : Nat} {a : Nat → Option Addr} {w wr w' : World}
theorem Bel.refl (B n : Nat) (a : Nat → Option Addr) (w : World) : Bel B n a w w := ⟨Below.refl _ _, fun _ _ _ => rfl⟩
theorem Bel.size (h : Bel B n a w wr) : w.heap.size ≤ wr.heap.size := h.be.size
theorem Bel.grown0 (h : Bel B n a w wr) (hg : wr.grownBy w' none) (hB : B ≤ w.heap.size) : Bel B n a w w' :=
  ⟨h.be.grown hg (Nat.le_trans hB h.size) (fun x hx => by cases hx), fun g hl hn => (hg.block g (Nat.lt_of_lt_of_le hl h.size) (by simp)).trans (h.kp g hl hn)⟩
theorem Bel.drewN (h : Bel B n a w wr) (hB : B ≤ w.heap.size) (q : Nat) : Bel B n a w (wr.drewN q) := h.grown0 (grownBelow (below_drewN (Below.refl _ _) q) none) hB
theorem Bel.grownRow {g k : Nat} (h : Bel B n a w wr) (hg : wr.grownBy w' (some g)) (hB : B ≤ w.heap.size) (hk : k < n) (e : blk (a k) = some g) (hb : B ≤ g) : Bel B n a w w' :=
  ⟨h.be.grown hg (Nat.le_trans hB h.size) (fun x hx => by cases hx; exact hb), fun x hl hn => (hg.block x (Nat.lt_of_lt_of_le hl h.size) (fun hh => hn k hk (by rw [e, ← hh]))).trans (h.kp x hl hn)⟩
theorem Bel.grownNew {g : Nat} (h : Bel B n a w wr) (hg : wr.grownBy w' (some g)) (hB : B ≤ w.heap.size) (hb : w.heap.size ≤ g) : Bel B n a w w' :=
  ⟨h.be.grown hg (Nat.le_trans hB h.size) (fun x hx => by cases hx; exact Nat.le_trans hB hb), fun x hl hn => (hg.block x (Nat.lt_of_lt_of_le hl h.size) (fun hh => by cases hh; omega)).trans (h.kp x hl hn)⟩
end

/-- a block of so many slices of bytes. -/
def Gb (w : World) (G n : Nat) : Prop := ∃ vs : Array Value, w.heap[G]? = some (.cells vs 23 (0, 0)) ∧ vs.size = n
theorem Gb.grown {w w' : World} {G n : Nat} {row : Option Nat} (h : Gb w G n) (hg : w.grownBy w' row) (hr : some G ≠ row) : Gb w' G n := by
  obtain ⟨vs, h1, h2⟩ := h
  exact ⟨vs, (hg.block G (Array.getElem?_eq_some_iff.1 h1).1 hr).trans h1, h2⟩
theorem Gb.lt {w : World} {G n : Nat} (h : Gb w G n) : G < w.heap.size := by
  obtain ⟨vs, h1, h2⟩ := h
  exact (Array.getElem?_eq_some_iff.1 h1).1
theorem Gb.cell {w : World} {G n k : Nat} (h : Gb w G n) (hk : k < n) : ∃ v, w.cell? ⟨G, k, none⟩ = some v := by
  obtain ⟨vs, h1, h2⟩ := h
  rw [cell_of_row w G k vs _ _ h1]
  exact ⟨vs[k]'(by omega), by simp [h2, hk]⟩
theorem Gb.free {w : World} {G n : Nat} (h : Gb w G n) (k : Nat) : w.frozen? ⟨G, k, none⟩ = false := by
  obtain ⟨vs, h1, h2⟩ := h
  exact frozen_of_row w G k vs _ h1
theorem Gb.set {w : World} {G n k : Nat} (h : Gb w G n) (v : Value) : Gb (w.setCell ⟨G, k, none⟩ v) G n := by
  obtain ⟨vs, h1, h2⟩ := h
  exact ⟨vs.setIfInBounds k v, heap_setCell_same w G k vs _ _ h1, by simpa using h2⟩
theorem Gb.cellSet {w : World} {G n k : Nat} (h : Gb w G n) (hk : k < n) (v : Value) : (w.setCell ⟨G, k, none⟩ v).cell? ⟨G, k, none⟩ = some v := by
  obtain ⟨vs, h1, h2⟩ := h
  rw [cell_of_row _ G k _ _ _ (heap_setCell_same w G k vs _ _ h1)]
  simp [h2, hk]
theorem Gb.cellOther {w : World} {G n k j : Nat} (h : Gb w G n) (hj : j ≠ k) (v : Value) : (w.setCell ⟨G, k, none⟩ v).cell? ⟨G, j, none⟩ = w.cell? ⟨G, j, none⟩ := by
  obtain ⟨vs, h1, h2⟩ := h
  rw [cell_of_row _ G j _ _ _ (heap_setCell_same w G k vs _ _ h1), cell_of_row _ G j _ _ _ h1, Array.getElem?_setIfInBounds, if_neg (fun e => hj e.symm)]
/-- one slice more is put into the second list. -/
theorem Bag.put {w : World} {B G n k : Nat} {a : Nat → Option Addr} {ll l c : Nat → Nat} {h : Nat → Nat → Nat} (hb : Bag w B G k a ll l c h) (hg : Gb w G n) (hk : k < n) (ho : Not a k G) {x : Option Addr} {cx : Nat}
    (hx : blk x ≠ some G) (hown : OzRow w B 5 1 (.slice x (l k) cx) (l k) (rowv (h k) (l k))) :
    Bag (w.setCell ⟨G, k, none⟩ (.slice x (ll k) cx)) B G (k + 1) (fun j => if j = k then x else a j) ll l (fun j => if j = k then cx else c j) h := by
  have hgr := grownSet w G k (.slice x (ll k) cx)
  refine ⟨fun j hj => ?_, fun j hj => ?_⟩
  · by_cases e : j = k
    · subst e; simp only [if_pos]; exact hg.cellSet hk _
    · simp only [if_neg e]; rw [hg.cellOther e]; exact hb.lst j (by omega)
  · by_cases e : j = k
    · subst e; simp only [if_pos]
      exact hown.kept hgr (by rw [own_blk]; exact Or.inr hx)
    · simp only [if_neg e]
      exact (hb.own j (by omega)).kept hgr (by rw [own_blk]; exact Or.inr (ho j (by omega)))

/-- slices that are grown one by one: before the one k; that one has i more; wq: the world before it. -/
structure St4 (wq wr : World) (B L G n k i : Nat) (a : Nat → Option Addr) (l c : Nat → Nat) (hf : Nat → Option Addr) (df : Nat → Nat) (gA : Option Addr) (gC : Nat) : Prop where
  own : OzRow wr B 5 1 (.slice gA (l k + i) gC) (l k + i) (rowv (mkN k) (l k + i))
  org : gA = a k ∧ gC = c k ∨ ∃ x, gA = some ⟨x, 0, none⟩ ∧ wq.heap.size ≤ x
  bl : Bag wr B L n a l l c mkN
  bg : Bag wr B G k hf (fun j => l j + 64) (fun j => l j + 64) df mkN
  gb : Gb wr G n
  sz : wq.heap.size ≤ wr.heap.size
/-- what stands fast meanwhile. -/
structure Fix4 (w wq : World) (B L G n k : Nat) (a : Nat → Option Addr) (hf : Nat → Option Addr) : Prop where
  hk : k < n
  sep : Sep a n
  noL : Not a n L
  noG : Not a n G
  nhG : Not hf k G
  sh : ∀ j i, j < k → i < n → j ≠ i → blk (hf j) ≠ none → blk (hf j) ≠ blk (a i)
  fa : ∀ j g, j < n → blk (a j) = some g → g < wq.heap.size
  fh : ∀ j g, j < k → blk (hf j) = some g → g < wq.heap.size
  lL : L < wq.heap.size
  lG : G < wq.heap.size
  bL : B ≤ L
  bG : B ≤ G
  ne : L ≠ G
  bw : B ≤ w.heap.size
  ws : w.heap.size ≤ wq.heap.size
  wG : w.heap.size ≤ G
theorem St4.step {w wq wi w6 : World} {B L G n k i g cap' : Nat} {a : Nat → Option Addr} {l c : Nat → Nat} {hf : Nat → Option Addr} {df : Nat → Nat} {gA : Option Addr} {gC : Nat} {o : Obj}
    (h : St4 wq wi B L G n k i a l c hf df gA gC) (f : Fix4 w wq B L G n k a hf) (hB : Bel B n a w wi)
    (hown : OzRow w6 B 5 1 (.slice (some ⟨g, 0, none⟩) (l k + i + 1) cap') (l k + i + 1) (rowv (mkN k) (l k + i) ++ [.int .u8 (mkN k (l k + i) : Nat)]))
    (hc : gA = some ⟨g, 0, none⟩ ∧ cap' = gC ∧ (wi.alloc o).grownBy w6 (some g) ∨ (wi.alloc o).heap.size ≤ g ∧ (wi.alloc o).grownBy w6 none) :
    St4 wq w6 B L G n k (i + 1) a l c hf df (some ⟨g, 0, none⟩) cap' ∧ Bel B n a w w6 := by
  rw [← rowv_succ] at hown
  have hgB := (hown.lt g rfl).1
  have bl := h.bl.grown0 (grown_alloc wi o)
  have bg := h.bg.grown0 (grown_alloc wi o)
  have gb := h.gb.grown (grown_alloc wi o) (by simp)
  have hsz := h.sz
  have hws := f.ws
  have hBa := hB.grown0 (grown_alloc wi o) f.bw
  have hsa : wi.heap.size ≤ (wi.alloc o).heap.size := by simp
  rcases hc with ⟨e, ec, hg⟩ | ⟨hge, hg⟩
  · have hs6 : wq.heap.size ≤ w6.heap.size := Nat.le_trans (Nat.le_trans hsz hsa) hg.size
    rcases h.org with ⟨ea, eca⟩ | ⟨x, ex, hx⟩
    · have ea' : a k = some ⟨g, 0, none⟩ := by rw [← ea, e]
      have hbk : blk (a k) = some g := by rw [ea']; rfl
      have hBw6 := hBa.grownRow hg f.bw f.hk hbk hgB
      refine ⟨⟨hown, Or.inl ⟨ea'.symm, by rw [ec, eca]⟩, bl.app (x := i + 1) f.hk f.sep f.noL hown (show (rowv (mkN k) (l k + (i + 1))).take (l k) = _ from rowv_take) ea' (by rw [ec, eca]) hg, bg.grown hg (fun hh => f.noG k f.hk (by rw [hbk, ← hh])) (fun j hj => ?_), gb.grown hg (fun hh => f.noG k f.hk (by rw [hbk, ← hh])), hs6⟩, hBw6⟩
      by_cases hn : blk (hf j) = none
      · exact Or.inl hn
      · right; rw [← hbk]; exact f.sh j k hj f.hk (by omega) hn
    · rw [ex] at e
      cases e
      have hBw6 := hBa.grownNew hg f.bw (Nat.le_trans hws hx)
      refine ⟨⟨hown, Or.inr ⟨g, rfl, hx⟩, bl.grown hg (fun hh => by cases hh; have := f.lL; omega) (fun j hj => Or.inr (fun hh => by have := f.fa j g hj hh; omega)), bg.grown hg (fun hh => by cases hh; have := f.lG; omega) (fun j hj => Or.inr (fun hh => by have := f.fh j g hj hh; omega)), gb.grown hg (fun hh => by cases hh; have := f.lG; omega), hs6⟩, hBw6⟩
  · refine ⟨⟨hown, Or.inr ⟨g, rfl, by omega⟩, bl.grown0 hg, bg.grown0 hg, gb.grown hg (by simp), Nat.le_trans (Nat.le_trans hsz hsa) hg.size⟩, hBa.grown0 hg f.bw⟩
/-- .. and is put into the second list. -/
theorem St4.out {w wq wr : World} {B L G n k : Nat} {a : Nat → Option Addr} {l c : Nat → Nat} {hf : Nat → Option Addr} {df : Nat → Nat} {gA : Option Addr} {gC : Nat}
    (h : St4 wq wr B L G n k 64 a l c hf df gA gC) (f : Fix4 w wq B L G n k a hf) (hB : Bel B n a w wr) :
    ∃ hf' df', Bag (wr.setCell ⟨G, k, none⟩ (.slice gA (l k + 64) gC)) B L n a l l c mkN ∧ Bag (wr.setCell ⟨G, k, none⟩ (.slice gA (l k + 64) gC)) B G (k + 1) hf' (fun j => l j + 64) (fun j => l j + 64) df' mkN ∧
      Gb (wr.setCell ⟨G, k, none⟩ (.slice gA (l k + 64) gC)) G n ∧ Not hf' (k + 1) G ∧ (∀ j i, j < k + 1 → i < n → j ≠ i → blk (hf' j) ≠ none → blk (hf' j) ≠ blk (a i)) ∧ Bel B n a w (wr.setCell ⟨G, k, none⟩ (.slice gA (l k + 64) gC)) := by
  have hgA : blk gA ≠ some G := by
    rcases h.org with ⟨e, _⟩ | ⟨x, e, hx⟩
    · rw [e]; exact f.noG k f.hk
    · rw [e]; intro hh; have hh : some x = some G := hh; cases hh; have := f.lG; omega
  refine ⟨fun j => if j = k then gA else hf j, fun j => if j = k then gC else df j, ?_, h.bg.put h.gb f.hk f.nhG hgA h.own, h.gb.set _, ?_, ?_, hB.grownNew (grownSet _ _ _ _) f.bw f.wG⟩
  · exact h.bl.grown (grownSet _ _ _ _) (fun hh => by cases hh; exact f.ne rfl) (fun j hj => Or.inr (f.noG j hj))
  · intro j hj
    by_cases e : j = k
    · subst e; simp only [if_pos]; exact hgA
    · simp only [if_neg e]; exact f.nhG j (by omega)
  · intro j i hj hi hji hn
    by_cases e : j = k
    · subst e
      simp only [if_pos] at hn ⊢
      rcases h.org with ⟨e, _⟩ | ⟨x, e, hx⟩
      · rw [e] at hn ⊢
        rcases f.sep j i f.hk hi hji with h1 | h1
        · exact absurd h1 hn
        · exact h1
      · rw [e]
        intro hh
        have := f.fa i x hi hh.symm
        omega
    · simp only [if_neg e] at hn ⊢
      exact f.sh j i (by omega) hi hji hn
/-- slices that are grown by many at once: before the one k. -/
structure Fin5 (w wr : World) (B L G n k : Nat) (a : Nat → Option Addr) (l c : Nat → Nat) (hf : Nat → Option Addr) (df : Nat → Nat) : Prop where
  bl : Bag wr B L n a l l c mkN
  bg : Bag wr B G k hf (fun j => l j + 64) l df mkN
  gb : Gb wr G n
  ng : Not hf k G
  sh : ∀ j i, j < k → i < n → j ≠ i → blk (hf j) ≠ none → blk (hf j) ≠ blk (a i)
  be : Bel B n a w wr
section
variable {w wq wi w6 : World} {B L G n k : Nat} {a : Nat → Option Addr} {l c : Nat → Nat} {hf : Nat → Option Addr} {df : Nat → Nat}
theorem Fin5.grown0 (h : Fin5 w wi B L G n k a l c hf df) (hg : wi.grownBy w6 none) (hB : B ≤ w.heap.size) : Fin5 w w6 B L G n k a l c hf df :=
  ⟨h.bl.grown0 hg, h.bg.grown0 hg, h.gb.grown hg (by simp), h.ng, h.sh, h.be.grown0 hg hB⟩
theorem Fin5.setM (h : Fin5 w wi B L G n k a l c hf df) (f : Fix4 w wq B L G n k a hf) {M : Nat} (hM : wq.heap.size ≤ M) (i : Nat) (u : Value) : Fin5 w (wi.setCell ⟨M, i, none⟩ u) B L G n k a l c hf df := by
  have hg := grownSet wi M i u
  have lL := f.lL
  have lG := f.lG
  have hws := f.ws
  exact ⟨h.bl.grown hg (fun hh => by cases hh; omega) (fun j hj => Or.inr fun hh => by have := f.fa j M hj hh; omega), h.bg.grown hg (fun hh => by cases hh; omega) (fun j hj => Or.inr fun hh => by have := f.fh j M hj hh; omega),
    h.gb.grown hg (fun hh => by cases hh; omega), h.ng, h.sh, h.be.grownNew hg f.bw (by omega)⟩
theorem Fin5.app {g cap' : Nat} {news : List Value} (h : Fin5 w wi B L G n k a l c hf df) (f : Fix4 w wq B L G n k a hf) (hsz : wq.heap.size ≤ wi.heap.size)
    (hown : OzRow w6 B 5 1 (.slice (some ⟨g, 0, none⟩) (l k + 64) cap') (l k + 64) (rowv (mkN k) (l k) ++ news))
    (hc : a k = some ⟨g, 0, none⟩ ∧ cap' = c k ∧ wi.grownBy w6 (some g) ∨ wi.heap.size ≤ g ∧ wi.grownBy w6 none) :
    Gb w6 G n ∧ ∃ hf' df', Fin5 w (w6.setCell ⟨G, k, none⟩ (.slice (some ⟨g, 0, none⟩) (l k + 64) cap')) B L G n (k + 1) a l c hf' df' := by
  have lL := f.lL
  have lG := f.lG
  have bL := f.bL
  have hgB := (hown.lt g rfl).1
  have htk : (rowv (mkN k) (l k) ++ news).take (l k) = rowv (mkN k) (l k) := by
    rw [List.take_append_of_le_length (by rw [rowv_len]; omega), List.take_of_length_le (by rw [rowv_len]; omega)]
  have hsh := own_short hown
  rw [htk] at hsh
  have key : Bag w6 B L n a l l c mkN ∧ Bag w6 B G k hf (fun j => l j + 64) l df mkN ∧ Gb w6 G n ∧ Bel B n a w w6 ∧ g ≠ G ∧ ∀ i, i < n → k ≠ i → some g ≠ blk (a i) := by
    rcases hc with ⟨e, ec, hg⟩ | ⟨hge, hg⟩
    · have hbk : blk (a k) = some g := by rw [e]; rfl
      have hgG : g ≠ G := fun hh => f.noG k f.hk (by rw [hbk, hh])
      refine ⟨h.bl.app f.hk f.sep f.noL hown htk e ec hg, h.bg.grown hg (fun hh => hgG (by cases hh; rfl)) (fun j hj => ?_), h.gb.grown hg (fun hh => hgG (by cases hh; rfl)), h.be.grownRow hg f.bw f.hk hbk hgB, hgG, fun i hi hki hh => ?_⟩
      · by_cases hn : blk (hf j) = none
        · exact Or.inl hn
        · right; rw [← hbk]; exact f.sh j k hj f.hk (by omega) hn
      · rcases f.sep k i f.hk hi hki with h1 | h1
        · rw [hbk] at h1; cases h1
        · exact h1 (by rw [hbk, hh])
    · exact ⟨h.bl.grown0 hg, h.bg.grown0 hg, h.gb.grown hg (by simp), h.be.grown0 hg f.bw, by omega, fun i hi _ hh => by have := f.fa i g hi hh.symm; omega⟩
  obtain ⟨bl, bg, gb, be, hgG, hgi⟩ := key
  refine ⟨gb, fun j => if j = k then some ⟨g, 0, none⟩ else hf j, fun j => if j = k then cap' else df j, ?_, bg.put gb f.hk f.nhG (fun hh => hgG (by cases hh; rfl)) hsh, gb.set _, ?_, ?_, be.grownNew (grownSet _ _ _ _) f.bw f.wG⟩
  · exact bl.grown (grownSet _ _ _ _) (fun hh => by cases hh; exact f.ne rfl) (fun j hj => Or.inr (f.noG j hj))
  · intro j hj
    by_cases e : j = k
    · subst e; simp only [if_pos]; exact fun hh => hgG (by cases hh; rfl)
    · simp only [if_neg e]; exact f.nhG j (by omega)
  · intro j i hj hi hji hn
    by_cases e : j = k
    · subst e
      simp only [if_pos]
      exact hgi i hi hji
    · simp only [if_neg e] at hn ⊢
      exact f.sh j i (by omega) hi hji hn
end
end Go.Proofs.Ytjnfghhochcpaaa.Oz
