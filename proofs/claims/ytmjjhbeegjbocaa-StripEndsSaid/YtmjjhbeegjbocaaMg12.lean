import Derived.ArgAppend
import Derived.Laws.IdiomCopy
import Derived.Test.YtmjjhbeegjbocaaMg11
/-
  Rows of bytes that are parts of one block (three-index slices): told cell by cell. A slice owns the cells from its place to its capacity.
-/
namespace Go.Proofs.Ytmjjhbeegjbocaa.Of
open Go.RowKit Go.Shelf

/-- what a slice owns: a block, from, to. -/
def span : Value → Option (Nat × Nat × Nat)
  | .slice (some a) _ cap => some (a.block, a.off, a.off + cap)
  | _ => none
/-- a slice, wherever in a block from base on, whose cells to its capacity may be written. -/
def OfRow (w : World) (base : Nat) (v : Value) (n : Nat) (xs : List Value) : Prop :=
  xs.length = n ∧
  ((v = .slice none 0 0 ∧ n = 0) ∨
   ∃ g o cap, v = .slice (some ⟨g, o, none⟩) n cap ∧ base ≤ g ∧ g < w.heap.size ∧ n ≤ cap ∧ cap ≤ maxLen ∧ (∀ j, j < cap → (w.cell? ⟨g, o + j, none⟩).isSome = true ∧ w.frozen? ⟨g, o + j, none⟩ = false) ∧ ∀ j u, xs[j]? = some u → w.cell? ⟨g, o + j, none⟩ = some u)
/-- just these cells may have turned, of what was there. -/
structure Turn (w w' : World) (s : Option (Nat × Nat × Nat)) : Prop where
  os : w'.os = w.os
  tape : w'.tape = w.tape
  output : w'.output = w.output
  size : w.heap.size ≤ w'.heap.size
  block : ∀ k, k < w.heap.size → (∀ g lo hi, s = some (g, lo, hi) → k ≠ g) → w'.heap[k]? = w.heap[k]?
  cell : ∀ g lo hi i, s = some (g, lo, hi) → g < w.heap.size → (i < lo ∨ hi ≤ i) → w'.cell? ⟨g, i, none⟩ = w.cell? ⟨g, i, none⟩
  some_ : ∀ g lo hi i, s = some (g, lo, hi) → (w.cell? ⟨g, i, none⟩).isSome = true → (w'.cell? ⟨g, i, none⟩).isSome = true
  free : ∀ g lo hi i, s = some (g, lo, hi) → g < w.heap.size → w'.frozen? ⟨g, i, none⟩ = w.frozen? ⟨g, i, none⟩
/-- spans that don't meet. -/
def Off (s t : Option (Nat × Nat × Nat)) : Prop := ∀ g lo hi g' lo' hi', s = some (g, lo, hi) → t = some (g', lo', hi') → g ≠ g' ∨ hi ≤ lo' ∨ hi' ≤ lo
theorem Turn.of_below {w w' : World} (h : Below w.heap.size w w') : Turn w w' none :=
  ⟨h.os, h.tape, h.output, h.size, fun k hk _ => h.block k hk, fun _ _ _ _ e => (by cases e), fun _ _ _ _ e => (by cases e), fun _ _ _ _ e => (by cases e)⟩
theorem Turn.below {w w' : World} {B g lo hi : Nat} (h : Turn w w' (some (g, lo, hi))) (h0 : B ≤ w.heap.size) (h1 : B ≤ g) : Below B w w' :=
  ⟨h.os, h.tape, h.output, h.size, fun k hk => h.block k (by omega) (fun g' lo' hi' e => by cases e; omega)⟩
theorem OfRow.kept {w w' : World} {base n : Nat} {v : Value} {xs : List Value} {s : Option (Nat × Nat × Nat)} (h : OfRow w base v n xs) (ht : Turn w w' s) (hs : Off (span v) s) : OfRow w' base v n xs := by
  refine ⟨h.1, ?_⟩
  rcases h.2 with hn | ⟨g, o, cap, rfl, hb, hlt, hnc, hcm, hok, hx⟩
  · exact .inl hn
  · have key : ∀ j, j < cap → w'.cell? ⟨g, o + j, none⟩ = w.cell? ⟨g, o + j, none⟩ ∧ w'.frozen? ⟨g, o + j, none⟩ = w.frozen? ⟨g, o + j, none⟩ := fun j hj => by
      by_cases c : ∀ g' lo' hi', s = some (g', lo', hi') → g ≠ g'
      · have := ht.block g hlt c
        simp only [World.cell?, World.frozen?, this, and_self]
      · simp only [Classical.not_forall] at c
        obtain ⟨g', lo', hi', e, hne⟩ := c
        obtain rfl : g = g' := Classical.not_not.1 hne
        rcases hs g o (o + cap) g lo' hi' rfl e with k | k | k
        · exact absurd rfl k
        · exact ⟨ht.cell g lo' hi' _ e hlt (by omega), ht.free g lo' hi' _ e hlt⟩
        · exact ⟨ht.cell g lo' hi' _ e hlt (by omega), ht.free g lo' hi' _ e hlt⟩
    refine .inr ⟨g, o, cap, rfl, hb, Nat.lt_of_lt_of_le hlt ht.size, hnc, hcm, fun j hj => ?_, fun j u hj => ?_⟩
    · rw [(key j hj).1, (key j hj).2]; exact hok j hj
    · have hjl : j < xs.length := (List.getElem?_eq_some_iff.1 hj).1
      have := h.1
      rw [(key j (by omega)).1]; exact hx j u hj
theorem setCells_rest (b : Nat) : ∀ (vs : List Value) (o : Nat) (w : World), (w.setCells b o vs).os = w.os ∧ (w.setCells b o vs).tape = w.tape ∧ (w.setCells b o vs).output = w.output ∧ (w.setCells b o vs).heap.size = w.heap.size ∧ ∀ k, k ≠ b → (w.setCells b o vs).heap[k]? = w.heap[k]?
  | [], _, _ => ⟨rfl, rfl, rfl, rfl, fun _ _ => rfl⟩
  | v :: r, o, w => by
    obtain ⟨r1, r2, r3, r4, r5⟩ := setCells_rest b r (o + 1) (w.setCell ⟨b, o, none⟩ v)
    exact ⟨r1, r2, r3, by rw [World.setCells, r4]; simp, fun k hk => (r5 k hk).trans (heap_setCell_other _ _ _ _ hk)⟩
theorem Turn.setCells {w : World} {g o cap lo : Nat} {news : List Value} (h1 : o ≤ lo) (h2 : lo + news.length ≤ o + cap) (hc : ∀ j, j < news.length → (w.cell? ⟨g, lo + j, none⟩).isSome = true) : Turn w (w.setCells g lo news) (some (g, o, o + cap)) := by
  obtain ⟨r1, r2, r3, r4, r5⟩ := setCells_rest g news lo w
  refine ⟨r1, r2, r3, by omega, fun k _ hk => r5 k (hk g _ _ rfl), fun g' lo' hi' i e _ hi => ?_, fun g' lo' hi' i e hs => ?_, fun g' lo' hi' i e _ => World.frozen?_setCells g news lo w _⟩
  · cases e
    exact World.cell?_setCells_out g news lo w _ (fun _ _ => by show i < lo ∨ lo + news.length ≤ i; omega)
  · cases e
    by_cases c : lo ≤ i ∧ i < lo + news.length
    · have := World.cell?_setCells_in g news lo w hc (i - lo) (by omega)
      rw [show lo + (i - lo) = i by omega] at this
      rw [this]; rfl
    · rw [World.cell?_setCells_out g news lo w _ (fun _ _ => by show i < lo ∨ lo + news.length ≤ i; omega)]
      exact hs
theorem of_owns {w : World} {base : Nat} {v : Value} {n : Nat} {xs : List Value} (h : w.ownsRow base 5 1 v n xs) : OfRow w base v n xs := by
  refine ⟨by have := h.1; omega, h.2.imp id ?_⟩
  rintro ⟨g, cap, cur, rfl, hb, hg, hnc, hcm, hcs, ht⟩
  rw [Nat.mul_one] at hcs ht
  refine ⟨g, 0, cap, rfl, hb, (Array.getElem?_eq_some_iff.1 hg).1, hnc, hcm, fun j hj => ⟨?_, ?_⟩, fun j u hj => ?_⟩
  · rw [Nat.zero_add, cell_of_row w g j _ _ _ hg, Array.getElem?_eq_getElem (by omega)]; rfl
  · exact frozen_of_row w g _ _ _ hg
  · rw [Nat.zero_add, cell_of_row w g j _ _ _ hg]
    rw [← ht, List.getElem?_take] at hj
    split at hj
    · rw [← Array.getElem?_toList]; exact hj
    · cases hj
theorem OfRow.cellAt {w : World} {base n g o cap : Nat} {xs : List Value} (h : OfRow w base (.slice (some ⟨g, o, none⟩) n cap) n xs) (j : Nat) (hj : j < n) : w.cell? ⟨g, o + j, none⟩ = xs[j]? := by
  rcases h.2 with ⟨h', _⟩ | ⟨g', o', cap', h', _, _, _, _, _, hx⟩
  · simp at h'
  · simp only [Value.slice.injEq, Option.some.injEq, Addr.mk.injEq, and_true, true_and] at h'
    obtain ⟨⟨rfl, rfl⟩, rfl⟩ := h'
    have hl := h.1
    rw [List.getElem?_eq_getElem (by omega)]
    exact hx j _ (List.getElem?_eq_getElem (by omega))
theorem OfRow.frozenAt {w : World} {base n g o cap : Nat} {xs : List Value} (h : OfRow w base (.slice (some ⟨g, o, none⟩) n cap) n xs) (j : Nat) (hj : j < n) : w.frozen? ⟨g, o + j, none⟩ = false := by
  rcases h.2 with ⟨h', _⟩ | ⟨g', o', cap', h', _, _, hnc, _, hok, _⟩
  · simp at h'
  · simp only [Value.slice.injEq, Option.some.injEq, Addr.mk.injEq, and_true, true_and] at h'
    obtain ⟨⟨rfl, rfl⟩, rfl⟩ := h'
    exact (hok j (by omega)).2
theorem OfRow.stored {w : World} {base n g o cap : Nat} {xs : List Value} (h : OfRow w base (.slice (some ⟨g, o, none⟩) n cap) n xs) (j : Nat) (hj : j < n) (u : Value) :
    OfRow (w.setCell ⟨g, o + j, none⟩ u) base (.slice (some ⟨g, o, none⟩) n cap) n (xs.set j u) ∧ Turn w (w.setCell ⟨g, o + j, none⟩ u) (some (g, o, o + cap)) := by
  rcases h.2 with ⟨h', _⟩ | ⟨g', o', cap', h', hb, hlt, hnc, hcm, hok, hx⟩
  · simp at h'
  · simp only [Value.slice.injEq, Option.some.injEq, Addr.mk.injEq, and_true, true_and] at h'
    obtain ⟨⟨rfl, rfl⟩, rfl⟩ := h'
    have hc : ∀ k, k < [u].length → (w.cell? ⟨g, o + j + k, none⟩).isSome = true := fun k hk => by
      rw [List.length_singleton] at hk
      rw [Nat.add_assoc]; exact (hok (j + k) (by omega)).1
    have hT : Turn w (w.setCells g (o + j) [u]) (some (g, o, o + cap)) := Turn.setCells (by omega) (by rw [List.length_singleton]; omega) hc
    refine ⟨⟨by rw [List.length_set]; exact h.1, .inr ⟨g, o, cap, rfl, hb, Nat.lt_of_lt_of_le hlt hT.size, hnc, hcm, fun k hk => ⟨hT.some_ _ _ _ _ rfl (hok k hk).1, by have := hT.free g o (o + cap) (o + k) rfl hlt; exact this.trans (hok k hk).2⟩, fun k v hk => ?_⟩⟩, hT⟩
    have hl := h.1
    have hkl : k < n := by have := (List.getElem?_eq_some_iff.1 hk).1; rw [List.length_set] at this; omega
    by_cases e : k = j
    · subst e
      rw [List.getElem?_set_self (by omega)] at hk
      cases hk
      have := World.cell?_setCells_in g [u] (o + k) w hc 0 (by simp)
      exact this
    · rw [List.getElem?_set_ne (fun q => e q.symm)] at hk
      have := World.cell?_setCells_out g [u] (o + j) w ⟨g, o + k, none⟩ (fun _ _ => by show o + k < o + j ∨ o + j + 1 ≤ o + k; omega)
      exact this.trans (hx k v hk)
section
variable {P : Program}
theorem of_append (w : World) (t ty : TypeId) (base : Nat) (i : TypeInfo) (z : Value) (ht : P.underlying t = some (.slice 5)) (hi : P.info? 5 = some i) (hz : i.zero = some z)
    (hsize : i.size = 1) (hby : i.bytes = 1) (hzs : z.cells.size = 1)
    (a : Option Addr) (n cap : Nat) (xs : List Value) (hown : OfRow w base (.slice a n cap) n xs)
    (ad : Addr) (m c : Nat) (news : List Value) (hl : news.length = m) (hnews : ∀ j u, news[j]? = some u → w.cell? (ad.add j) = some u) (h1 : ∀ u ∈ news, u.oneCell' = true)
    (hm : 0 < m) (h63 : n + m ≤ 140737488355328) (hbase : base ≤ w.heap.size) :
    ∃ v' w', (Builtin.append_ #[t, t] ty #[.slice a n cap, .slice (some ad) m c]).run P w = .ok v' w' ∧ OfRow w' base v' (n + m) (xs ++ news) ∧
      (n + m ≤ cap ∧ v' = .slice a (n + m) cap ∧ Turn w w' (span (.slice a n cap)) ∨ (∃ g cap', v' = .slice (some ⟨g, 0, none⟩) (n + m) cap' ∧ w.heap.size ≤ g) ∧ w.grownBy w' none) := by
  have hx := hown.1
  rcases hown.2 with ⟨hv, h0⟩ | ⟨g, o, cap2, hv, hb, hlt, hnc, hcm, hok, hxs⟩
  · simp only [Value.slice.injEq] at hv
    obtain ⟨rfl, rfl, rfl⟩ := hv
    obtain rfl : xs = [] := List.eq_nil_of_length_eq_zero hx
    obtain ⟨g, cap', w', hr, h2, h3, h4⟩ := run_append_bag (P := P) w t ty base 5 i z 1 ht hi hz hsize hby hzs none 0 0 [] (World.ownsRow_nil w base 5 1) ad m c news hl hnews h1 hm (by unfold maxLen; omega) (by omega) hbase
    refine ⟨_, w', hr, of_owns h2, Or.inr ⟨⟨g, cap', rfl, ?_⟩, ?_⟩⟩
    · rcases h3 with ⟨e, _⟩ | ⟨e, _⟩
      · cases e
      · exact e
    · rcases h3 with ⟨e, _⟩ | ⟨_, e⟩
      · cases e
      · exact e
  · simp only [Value.slice.injEq, true_and] at hv
    obtain ⟨rfl, rfl⟩ := hv
    rcases Nat.lt_or_ge cap (n + m) with hr | hr
    · obtain ⟨v', w', hrun, h2, h3⟩ := run_append_arg_grows (P := P) w t ty 5 i z 1 1 ht hi hz hsize hby hzs (by decide) ⟨g, o, none⟩ n cap xs (by omega) (fun j u hj => by rw [Addr.add_lit]; exact hxs j u hj) ad m c news (by omega) hnews hr (by unfold maxLen; omega) (by omega)
      obtain ⟨g2, cap2, rfl, hb2, hlt2⟩ := h2.form (by omega)
      exact ⟨_, w', hrun, of_owns (h2.mono hbase), Or.inr ⟨⟨g2, cap2, rfl, hb2⟩, h3⟩⟩
    · have hc : ∀ j, j < news.length → (w.cell? ⟨g, o + n + j, none⟩).isSome = true := fun j hj => by rw [Nat.add_assoc]; exact (hok (n + j) (by omega)).1
      have hrun := run_append_room_cells (P := P) w t ty 5 i ht hi g o n cap ad m c news (by rw [hl, hsize, Nat.mul_one]) hnews h1 hr (by rw [hsize, Nat.mul_one]; exact hc) (by rw [hsize, Nat.mul_one]; intro j hj; rw [Nat.add_assoc]; exact (hok (n + j) (by omega)).2)
      rw [hsize, Nat.mul_one] at hrun
      have hT : Turn w (w.setCells g (o + n) news) (some (g, o, o + cap)) := Turn.setCells (by omega) (by omega) hc
      refine ⟨_, _, hrun, ⟨by rw [List.length_append, hx, hl], .inr ⟨g, o, cap, rfl, hb, Nat.lt_of_lt_of_le hlt hT.size, hr, hcm, fun j hj => ⟨hT.some_ _ _ _ _ rfl (hok j hj).1, by rw [hT.free _ _ _ _ rfl hlt]; exact (hok j hj).2⟩, fun j u hj => ?_⟩⟩, Or.inl ⟨hr, rfl, hT⟩⟩
      by_cases d : j < n
      · rw [List.getElem?_append_left (by omega)] at hj
        rw [World.cell?_setCells_out g news (o + n) w _ (fun _ _ => Or.inl (by show o + j < o + n; omega))]
        exact hxs j u hj
      · rw [List.getElem?_append_right (by omega), hx] at hj
        have hjl := (List.getElem?_eq_some_iff.1 hj).1
        have := World.cell?_setCells_in g news (o + n) w hc (j - n) hjl
        rw [show o + n + (j - n) = o + j by omega] at this
        rw [this]
        exact (List.getElem?_eq_some_iff.1 hj).2 ▸ rfl
end
end Go.Proofs.Ytmjjhbeegjbocaa.Of

namespace Go.Proofs.Ytmjjhbeegjbocaa.Of
open Go.RowKit Go.Shelf

/-- the mark, as a number from 0 on. -/
def mkN (k i : Nat) : Nat := (mkB k i).toNat
theorem mkN_eq (k i : Nat) : ((mkN k i : Nat) : Int) = mkB k i := by have := mkB_bd k i; unfold mkN; omega
theorem mkN_lt (k i : Nat) : mkN k i < 256 := by have := mkB_bd k i; unfold mkN; omega
theorem markN_any (k i : Nat) (x y : Int) (hx : x = (k : Int)) (hy : y = (i : Int)) (hk : k ≤ 1000000) (hi : i ≤ 1000000000000) (w : World) :
    Calls Try.prog 25 #[.int .i64 x, .int .i64 y] w fun e w' => e = .returned (.int .u8 (mkN k i : Nat)) ∧ w' = w := by
  subst hx hy
  rw [mkN_eq]
  exact markByte_any k i (by omega) (by omega) (by omega) (by omega) w
/-- what a slice owns. -/
def spn (a : Option Addr) (c : Nat) : Option (Nat × Nat × Nat) := a.map fun ad => (ad.block, ad.off, ad.off + c)
theorem span_slice (a : Option Addr) (l c : Nat) : span (.slice a l c) = spn a c := by cases a <;> rfl
/-- the block that a slice lies in. -/
def blk (a : Option Addr) : Option Nat := a.map Addr.block
/-- a list of slices of bytes, wherever they lie: of ll elements each, of which the first l read as h. -/
structure Bag (w : World) (B L n : Nat) (a : Nat → Option Addr) (ll l c : Nat → Nat) (h : Nat → Nat → Nat) : Prop where
  lst : ∀ k, k < n → w.cell? ⟨L, k, none⟩ = some (.slice (a k) (ll k) (c k))
  own : ∀ k, k < n → OfRow w B (.slice (a k) (l k) (c k)) (l k) (rowv (h k) (l k))
/-- no two own the same cell. -/
def Sep (a : Nat → Option Addr) (c : Nat → Nat) (n : Nat) : Prop := ∀ i j, i < n → j < n → i ≠ j → Off (spn (a i) (c i)) (spn (a j) (c j))
/-- none lies in this block. -/
def Not (a : Nat → Option Addr) (n L : Nat) : Prop := ∀ k, k < n → blk (a k) ≠ some L
theorem off_none (s : Option (Nat × Nat × Nat)) : Off s none := fun _ _ _ _ _ _ _ e => by cases e
theorem off_symm {s t : Option (Nat × Nat × Nat)} (h : Off s t) : Off t s := fun g lo hi g' lo' hi' e e' => by
  rcases h g' lo' hi' g lo hi e' e with k | k | k
  · exact Or.inl (fun q => k q.symm)
  · exact Or.inr (Or.inr k)
  · exact Or.inr (Or.inl k)
theorem OfRow.lt {w : World} {B n c : Nat} {a : Option Addr} {xs : List Value} (h : OfRow w B (.slice a n c) n xs) : ∀ g, blk a = some g → B ≤ g ∧ g < w.heap.size := fun g e => by
  rcases h.2 with ⟨hv, _⟩ | ⟨g', o, cap, hv, hb, hlt, _⟩
  · simp only [Value.slice.injEq] at hv; rw [hv.1] at e; cases e
  · simp only [Value.slice.injEq, true_and] at hv; rw [hv.1] at e; cases e; exact ⟨hb, hlt⟩
section
variable {w w' : World} {B L n : Nat} {a : Nat → Option Addr} {ll l c : Nat → Nat} {h : Nat → Nat → Nat}
theorem Turn.cellAt {s : Option (Nat × Nat × Nat)} (ht : Turn w w' s) {g i : Nat} {v : Value} (hc : w.cell? ⟨g, i, none⟩ = some v) (hg : ∀ x lo hi, s = some (x, lo, hi) → g ≠ x) : w'.cell? ⟨g, i, none⟩ = some v := by
  have := ht.block g (World.block_lt_of_cell? _ _ hc) hg
  rw [← hc]; simp only [World.cell?, this]
theorem Bag.turn (hb : Bag w B L n a ll l c h) {s : Option (Nat × Nat × Nat)} (ht : Turn w w' s) (hL : ∀ g lo hi, s = some (g, lo, hi) → L ≠ g) (hr : ∀ k, k < n → Off (spn (a k) (c k)) s) : Bag w' B L n a ll l c h :=
  ⟨fun k hk => ht.cellAt (hb.lst k hk) hL, fun k hk => (hb.own k hk).kept ht (by rw [span_slice]; exact hr k hk)⟩
theorem Bag.below (hb : Bag w B L n a ll l c h) (hB : Below w.heap.size w w') : Bag w' B L n a ll l c h := hb.turn (Turn.of_below hB) (fun _ _ _ e => by cases e) fun _ _ => off_none _
theorem Bag.lt (hb : Bag w B L n a ll l c h) {k g : Nat} (hk : k < n) (e : blk (a k) = some g) : B ≤ g ∧ g < w.heap.size := (hb.own k hk).lt g e
theorem Bag.ltL (hb : Bag w B L n a ll l c h) (hn : 0 < n) : L < w.heap.size := World.block_lt_of_cell? _ _ (hb.lst 0 hn)
theorem Bag.at_ (hb : Bag w B L n a ll l c h) {k i : Nat} (hk : k < n) (hi : i < l k) : ∃ g o, a k = some ⟨g, o, none⟩ ∧ w.cell? ⟨g, o + i, none⟩ = some (.int .u8 (h k i : Nat)) ∧ w.frozen? ⟨g, o + i, none⟩ = false := by
  have o := hb.own k hk
  rcases o.2 with ⟨hv, h0⟩ | ⟨g, of, cap, hv, _⟩
  · omega
  · simp only [Value.slice.injEq, true_and] at hv
    rw [hv.1] at o
    exact ⟨g, of, hv.1, by rw [o.cellAt i hi, rowv_get hi], o.frozenAt i hi⟩
theorem Bag.congr {h' : Nat → Nat → Nat} (hb : Bag w B L n a ll l c h) (he : ∀ k i, k < n → i < l k → h k i = h' k i) : Bag w B L n a ll l c h' :=
  ⟨hb.lst, fun k hk => by rw [← rowv_congr fun i hi => he k i hk hi]; exact hb.own k hk⟩
theorem Bag.set (hb : Bag w B L n a ll l c h) {k i g o : Nat} (hk : k < n) (hi : i < l k) (e : a k = some ⟨g, o, none⟩) (hs : Sep a c n) (hL : Not a n L) (v : Nat) :
    Bag (w.setCell ⟨g, o + i, none⟩ (.int .u8 (v : Nat))) B L n a ll l c (fun j x => if j = k ∧ x = i then v else h j x) ∧ Turn w (w.setCell ⟨g, o + i, none⟩ (.int .u8 (v : Nat))) (spn (a k) (c k)) := by
  have ow := hb.own k hk
  rw [e] at ow
  obtain ⟨h1, h2⟩ := ow.stored i hi (.int .u8 (v : Nat))
  have h2' : Turn w (w.setCell ⟨g, o + i, none⟩ (.int .u8 (v : Nat))) (spn (a k) (c k)) := by rw [e]; exact h2
  refine ⟨⟨fun j hj => h2'.cellAt (hb.lst j hj) (fun x lo hi' e' hx => hL k hk (by rw [e] at e' ⊢; cases e'; rw [hx]; rfl)), fun j hj => ?_⟩, h2'⟩
  by_cases hjk : j = k
  · subst hjk
    rw [rowv_set] at h1
    rw [rowv_congr (g := fun x => if x = i then v else h j x) fun x _ => by simp]
    rw [e]; exact h1
  · rw [rowv_congr (g := h j) fun x _ => by simp [hjk]]
    exact (hb.own j hj).kept h2' (by rw [span_slice]; exact hs j k hj hk hjk)
end
end Go.Proofs.Ytmjjhbeegjbocaa.Of

namespace Go.Proofs.Ytmjjhbeegjbocaa.Of
open Go.RowKit Go.Shelf

theorem Turn.of_grown {w w' : World} {row : Option Nat} (h : w.grownBy w' row) (hr : ∀ g, row = some g → w.heap.size ≤ g) : Turn w w' none :=
  ⟨h.os, h.tape, h.output, h.size, fun k hk _ => h.block k hk (fun e => by have := hr k e.symm; omega), fun _ _ _ _ e => (by cases e), fun _ _ _ _ e => (by cases e), fun _ _ _ _ e => (by cases e)⟩
/-- below B all is as it was; and of what was there nothing has turned but the rows' blocks. -/
structure Bel (B n : Nat) (a : Nat → Option Addr) (w wr : World) : Prop where
  be : Below B w wr
  kp : ∀ g, g < w.heap.size → (∀ k, k < n → blk (a k) ≠ some g) → wr.heap[g]? = w.heap[g]?
section
variable {B n : Nat} {a : Nat → Option Addr} {c : Nat → Nat} {w wr w' : World}
theorem Bel.refl (B n : Nat) (a : Nat → Option Addr) (w : World) : Bel B n a w w := ⟨Below.refl _ _, fun _ _ _ => rfl⟩
theorem Bel.size (h : Bel B n a w wr) : w.heap.size ≤ wr.heap.size := h.be.size
theorem Bel.turn0 (h : Bel B n a w wr) (ht : Turn wr w' none) (hB : B ≤ w.heap.size) : Bel B n a w w' :=
  ⟨h.be.trans ⟨ht.os, ht.tape, ht.output, ht.size, fun k hk => ht.block k (Nat.lt_of_lt_of_le hk (Nat.le_trans hB h.size)) (fun _ _ _ e => by cases e)⟩,
    fun g hl hn => (ht.block g (Nat.lt_of_lt_of_le hl h.size) (fun _ _ _ e => by cases e)).trans (h.kp g hl hn)⟩
theorem Bel.turnRow {k : Nat} (h : Bel B n a w wr) (ht : Turn wr w' (spn (a k) (c k))) (hB : B ≤ w.heap.size) (hk : k < n) (hb : ∀ g, blk (a k) = some g → B ≤ g) : Bel B n a w w' := by
  have key : ∀ g, (∀ x, blk (a k) = some x → g ≠ x) → ∀ x lo hi, spn (a k) (c k) = some (x, lo, hi) → g ≠ x := fun g hg x lo hi e => by
    cases ha : a k with
    | none => rw [ha] at e; cases e
    | some ad => rw [ha] at e; cases e; exact hg _ (by rw [ha]; rfl)
  refine ⟨h.be.trans ⟨ht.os, ht.tape, ht.output, ht.size, fun j hj => ht.block j (Nat.lt_of_lt_of_le hj (Nat.le_trans hB h.size)) (key j fun x e => by have := hb x e; omega)⟩, fun g hl hn => ?_⟩
  exact (ht.block g (Nat.lt_of_lt_of_le hl h.size) (key g fun x e q => hn k hk (by rw [q]; exact e))).trans (h.kp g hl hn)
theorem Bel.grownNew {g : Nat} (h : Bel B n a w wr) (hg : wr.grownBy w' (some g)) (hB : B ≤ w.heap.size) (hb : w.heap.size ≤ g) : Bel B n a w w' :=
  ⟨h.be.grown hg (Nat.le_trans hB h.size) (fun x hx => by cases hx; exact Nat.le_trans hB hb), fun x hl hn => (hg.block x (Nat.lt_of_lt_of_le hl h.size) (fun hh => by cases hh; omega)).trans (h.kp x hl hn)⟩
end
/-- a block of so many slices of bytes. -/
def Gb (w : World) (G n : Nat) : Prop := ∃ vs : Array Value, w.heap[G]? = some (.cells vs 22 (0, 0)) ∧ vs.size = n
theorem Gb.turn {w w' : World} {G n : Nat} {s : Option (Nat × Nat × Nat)} (h : Gb w G n) (ht : Turn w w' s) (hr : ∀ g lo hi, s = some (g, lo, hi) → G ≠ g) : Gb w' G n := by
  obtain ⟨vs, h1, h2⟩ := h
  exact ⟨vs, (ht.block G (Array.getElem?_eq_some_iff.1 h1).1 hr).trans h1, h2⟩
theorem Gb.lt {w : World} {G n : Nat} (h : Gb w G n) : G < w.heap.size := by
  obtain ⟨vs, h1, h2⟩ := h
  exact (Array.getElem?_eq_some_iff.1 h1).1
theorem Gb.cell {w : World} {G n k : Nat} (h : Gb w G n) (hk : k < n) : ∃ v, w.cell? ⟨G, k, none⟩ = some v := by
  obtain ⟨vs, h1, h2⟩ := h
  rw [cell_of_row w G k vs _ _ h1]
  exact ⟨vs[k]'(by omega), by simp [h2, hk]⟩
theorem Gb.free {w : World} {G n : Nat} (h : Gb w G n) (k : Nat) : w.frozen? ⟨G, k, none⟩ = false := by
  obtain ⟨vs, h1, h2⟩ := h
  exact frozen_of_row w G k vs _ h1
theorem Gb.set {w : World} {G n k : Nat} (h : Gb w G n) (v : Value) : Gb (w.setCell ⟨G, k, none⟩ v) G n := by
  obtain ⟨vs, h1, h2⟩ := h
  exact ⟨vs.setIfInBounds k v, heap_setCell_same w G k vs _ _ h1, by simpa using h2⟩
theorem Gb.cellSet {w : World} {G n k : Nat} (h : Gb w G n) (hk : k < n) (v : Value) : (w.setCell ⟨G, k, none⟩ v).cell? ⟨G, k, none⟩ = some v := by
  obtain ⟨vs, h1, h2⟩ := h
  rw [cell_of_row _ G k _ _ _ (heap_setCell_same w G k vs _ _ h1)]
  simp [h2, hk]
theorem Gb.cellOther {w : World} {G n k j : Nat} (h : Gb w G n) (hj : j ≠ k) (v : Value) : (w.setCell ⟨G, k, none⟩ v).cell? ⟨G, j, none⟩ = w.cell? ⟨G, j, none⟩ := by
  obtain ⟨vs, h1, h2⟩ := h
  rw [cell_of_row _ G j _ _ _ (heap_setCell_same w G k vs _ _ h1), cell_of_row _ G j _ _ _ h1, Array.getElem?_setIfInBounds, if_neg (fun e => hj e.symm)]
/-- a row that does not lie in the block where a cell is set. -/
theorem OfRow.past {w : World} {B n c G i : Nat} {x : Option Addr} {xs : List Value} {v : Value} (h : OfRow w B (.slice x n c) n xs) (hx : blk x ≠ some G) : OfRow (w.setCell ⟨G, i, none⟩ v) B (.slice x n c) n xs := by
  refine ⟨h.1, ?_⟩
  rcases h.2 with hn | ⟨g, o, cap, hv, hb, hlt, hnc, hcm, hok, hc⟩
  · exact .inl hn
  · have hgG : g ≠ G := fun e => hx (by simp only [Value.slice.injEq, true_and] at hv; rw [hv.1, e]; rfl)
    have key : ∀ j, (w.setCell ⟨G, i, none⟩ v).cell? ⟨g, j, none⟩ = w.cell? ⟨g, j, none⟩ := fun j => World.cell?_setCell_other _ _ _ _ (fun e => hgG (by cases e; rfl))
    exact .inr ⟨g, o, cap, hv, hb, by simpa using hlt, hnc, hcm, fun j hj => ⟨by rw [key]; exact (hok j hj).1, by rw [World.frozen?_setCell]; exact (hok j hj).2⟩, fun j u hj => by rw [key]; exact hc j u hj⟩
/-- one slice more is put into the second list. -/
theorem Bag.put {w : World} {B G n k : Nat} {a : Nat → Option Addr} {ll l c : Nat → Nat} {h : Nat → Nat → Nat} (hb : Bag w B G k a ll l c h) (hg : Gb w G n) (hk : k < n) (ho : Not a k G) {x : Option Addr} {cx : Nat}
    (hx : blk x ≠ some G) (hown : OfRow w B (.slice x (l k) cx) (l k) (rowv (h k) (l k))) :
    Bag (w.setCell ⟨G, k, none⟩ (.slice x (ll k) cx)) B G (k + 1) (fun j => if j = k then x else a j) ll l (fun j => if j = k then cx else c j) h := by
  refine ⟨fun j hj => ?_, fun j hj => ?_⟩
  · by_cases e : j = k
    · subst e; simp only [if_pos]; exact hg.cellSet hk _
    · simp only [if_neg e]; rw [hg.cellOther e]; exact hb.lst j (by omega)
  · by_cases e : j = k
    · subst e; simp only [if_pos]
      exact hown.past hx
    · simp only [if_neg e]
      exact (hb.own j (by omega)).past (ho j (by omega))
end Go.Proofs.Ytmjjhbeegjbocaa.Of

namespace Go.Proofs.Ytmjjhbeegjbocaa.Of
open Go.RowKit Go.Shelf

theorem of_short {w : World} {B n m c : Nat} {a : Option Addr} {ys : List Value} (h : OfRow w B (.slice a (n + m) c) (n + m) ys) : OfRow w B (.slice a n c) n (ys.take n) := by
  have h1 := h.1
  refine ⟨by rw [List.length_take]; omega, ?_⟩
  rcases h.2 with ⟨hv, h0⟩ | ⟨g, o, cap, hv, hb, hlt, hnc, hcm, hok, hc⟩
  · simp only [Value.slice.injEq] at hv
    obtain ⟨rfl, _, rfl⟩ := hv
    exact .inl ⟨by rw [show n = 0 by omega], by omega⟩
  · simp only [Value.slice.injEq, true_and] at hv
    obtain ⟨rfl, rfl⟩ := hv
    refine .inr ⟨g, o, c, rfl, hb, hlt, by omega, hcm, hok, fun j u hj => ?_⟩
    rw [List.getElem?_take] at hj
    split at hj
    · exact hc j u hj
    · cases hj
/-- behind an append onto one of them. -/
theorem Bag.app {w w' : World} {B L n : Nat} {a : Nat → Option Addr} {ll l c : Nat → Nat} {h : Nat → Nat → Nat} (hb : Bag w B L n a ll l c h) {k x : Nat} {ys : List Value} (hk : k < n) (hs : Sep a c n) (hL : Not a n L)
    (hown : OfRow w' B (.slice (a k) (l k + x) (c k)) (l k + x) ys) (hys : ys.take (l k) = rowv (h k) (l k)) (ht : Turn w w' (spn (a k) (c k))) : Bag w' B L n a ll l c h := by
  refine ⟨fun j hj => ht.cellAt (hb.lst j hj) (fun y lo hi e q => ?_), fun j hj => ?_⟩
  · cases ha : a k with
    | none => rw [ha] at e; cases e
    | some ad => rw [ha] at e; cases e; exact hL k hk (by rw [ha, q]; rfl)
  · by_cases hjk : j = k
    · subst hjk
      have := of_short hown
      rwa [hys] at this
    · exact (hb.own j hj).kept ht (by rw [span_slice]; exact hs j k hj hk hjk)
/-- slices that are grown one by one: before the one k; that one has i more; wq: the world before it. -/
structure St4 (wq wr : World) (B L G n k i : Nat) (a : Nat → Option Addr) (l c : Nat → Nat) (hf : Nat → Option Addr) (df : Nat → Nat) (gA : Option Addr) (gC : Nat) : Prop where
  own : OfRow wr B (.slice gA (l k + i) gC) (l k + i) (rowv (mkN k) (l k + i))
  org : gA = a k ∧ gC = c k ∨ ∃ x, gA = some ⟨x, 0, none⟩ ∧ wq.heap.size ≤ x
  bl : Bag wr B L n a l l c mkN
  bg : Bag wr B G k hf (fun j => l j + 64) (fun j => l j + 64) df mkN
  gb : Gb wr G n
  sz : wq.heap.size ≤ wr.heap.size
/-- what stands fast meanwhile. -/
structure Fix4 (w wq : World) (B L G n k : Nat) (a : Nat → Option Addr) (c : Nat → Nat) (hf : Nat → Option Addr) (df : Nat → Nat) : Prop where
  hk : k < n
  sep : Sep a c n
  noL : Not a n L
  noG : Not a n G
  nhG : Not hf k G
  sh : ∀ j i, j < k → i < n → j ≠ i → Off (spn (hf j) (df j)) (spn (a i) (c i))
  fa : ∀ j g, j < n → blk (a j) = some g → B ≤ g ∧ g < wq.heap.size
  fh : ∀ j g, j < k → blk (hf j) = some g → g < wq.heap.size
  lL : L < wq.heap.size
  lG : G < wq.heap.size
  bL : B ≤ L
  bG : B ≤ G
  ne : L ≠ G
  bw : B ≤ w.heap.size
  ws : w.heap.size ≤ wq.heap.size
  wG : w.heap.size ≤ G
theorem spn_blk {a : Option Addr} {c g lo hi : Nat} (e : spn a c = some (g, lo, hi)) : blk a = some g := by
  cases a with
  | none => cases e
  | some ad => cases e; rfl
theorem off_blk {a b : Option Addr} {c d : Nat} (h : ∀ g, blk a = some g → blk b = some g → False) : Off (spn a c) (spn b d) := fun g lo hi g' lo' hi' e e' => Or.inl fun q => h g (spn_blk e) (by rw [q]; exact spn_blk e')
theorem St4.step {w wq wi w6 : World} {B L G n k i : Nat} {a : Nat → Option Addr} {l c : Nat → Nat} {hf : Nat → Option Addr} {df : Nat → Nat} {gA : Option Addr} {gC : Nat} {o : Obj} {v : Value}
    (h : St4 wq wi B L G n k i a l c hf df gA gC) (f : Fix4 w wq B L G n k a c hf df) (hB : Bel B n a w wi)
    (hown : OfRow w6 B v (l k + i + 1) (rowv (mkN k) (l k + i) ++ [.int .u8 (mkN k (l k + i) : Nat)]))
    (hc : v = .slice gA (l k + i + 1) gC ∧ Turn (wi.alloc o) w6 (spn gA gC) ∨ (∃ g cap', v = .slice (some ⟨g, 0, none⟩) (l k + i + 1) cap' ∧ (wi.alloc o).heap.size ≤ g) ∧ (wi.alloc o).grownBy w6 none) :
    ∃ gA' gC', v = .slice gA' (l k + i + 1) gC' ∧ St4 wq w6 B L G n k (i + 1) a l c hf df gA' gC' ∧ Bel B n a w w6 := by
  rw [← rowv_succ] at hown
  have ta : Turn wi (wi.alloc o) none := Turn.of_below ((Below.refl _ wi).alloc (Nat.le_refl _) o)
  have nn : ∀ g lo hi, (none : Option (Nat × Nat × Nat)) = some (g, lo, hi) → False := fun _ _ _ e => by cases e
  have bl := h.bl.turn ta (fun g lo hi e => (nn g lo hi e).elim) fun _ _ => off_none _
  have bg := h.bg.turn ta (fun g lo hi e => (nn g lo hi e).elim) fun _ _ => off_none _
  have gb := h.gb.turn ta (fun g lo hi e => (nn g lo hi e).elim)
  have hsz := h.sz
  have hws := f.ws
  have hBa := hB.turn0 ta f.bw
  have hsa : wi.heap.size ≤ (wi.alloc o).heap.size := by simp
  rcases hc with ⟨rfl, ht⟩ | ⟨⟨g, cap', rfl, hge⟩, hg⟩
  · have hs6 : wq.heap.size ≤ w6.heap.size := Nat.le_trans (Nat.le_trans hsz hsa) ht.size
    rcases h.org with ⟨rfl, rfl⟩ | ⟨x, rfl, hx⟩
    · have hBw6 := hBa.turnRow ht f.bw f.hk (fun g e => (f.fa k g f.hk e).1)
      refine ⟨_, _, rfl, ⟨hown, Or.inl ⟨rfl, rfl⟩, bl.app (x := i + 1) f.hk f.sep f.noL hown (show (rowv (mkN k) (l k + (i + 1))).take (l k) = _ from rowv_take) ht, bg.turn ht (fun g lo hi e q => f.noG k f.hk (by rw [q]; exact spn_blk e)) (fun j hj => f.sh j k hj f.hk (by omega)), gb.turn ht (fun g lo hi e q => f.noG k f.hk (by rw [q]; exact spn_blk e)), hs6⟩, hBw6⟩
    · have hlx := (h.own.lt x rfl).2
      have hgr : ∀ y lo hi, spn (some ⟨x, 0, none⟩) gC = some (y, lo, hi) → y = x := fun y lo hi e => by cases e; rfl
      have hBw6 : Bel B n a w w6 := ⟨hBa.be.trans ⟨ht.os, ht.tape, ht.output, ht.size, fun j hj => ht.block j (Nat.lt_of_lt_of_le hj (Nat.le_trans f.bw hBa.size)) (fun y lo hi e => by rw [hgr y lo hi e]; have := f.bw; omega)⟩,
        fun j hl hn => (ht.block j (Nat.lt_of_lt_of_le hl hBa.size) (fun y lo hi e => by rw [hgr y lo hi e]; omega)).trans (hBa.kp j hl hn)⟩
      refine ⟨_, _, rfl, ⟨hown, Or.inr ⟨x, rfl, hx⟩, bl.turn ht (fun y lo hi e => by rw [hgr y lo hi e]; have := f.lL; omega) (fun j hj => off_blk fun y e e2 => by cases e2; exact absurd (show x < wq.heap.size from (f.fa j _ hj e).2) (by omega)), bg.turn ht (fun y lo hi e => by rw [hgr y lo hi e]; have := f.lG; omega) (fun j hj => off_blk fun y e e2 => by cases e2; exact absurd (show x < wq.heap.size from f.fh j _ hj e) (by omega)), gb.turn ht (fun y lo hi e => by rw [hgr y lo hi e]; have := f.lG; omega), hs6⟩, hBw6⟩
  · have tg := Turn.of_grown hg (fun _ e => by cases e)
    refine ⟨_, _, rfl, ⟨hown, Or.inr ⟨g, rfl, by omega⟩, bl.turn tg (fun g lo hi e => (nn g lo hi e).elim) (fun _ _ => off_none _), bg.turn tg (fun g lo hi e => (nn g lo hi e).elim) (fun _ _ => off_none _), gb.turn tg (fun g lo hi e => (nn g lo hi e).elim), Nat.le_trans (Nat.le_trans hsz hsa) hg.size⟩, hBa.turn0 tg f.bw⟩
end Go.Proofs.Ytmjjhbeegjbocaa.Of

namespace Go.Proofs.Ytmjjhbeegjbocaa.Of
open Go.RowKit Go.Shelf

/-- another block's cell. -/
theorem Bag.past {w : World} {B L n G i : Nat} {a : Nat → Option Addr} {ll l c : Nat → Nat} {h : Nat → Nat → Nat} (hb : Bag w B L n a ll l c h) (hL : L ≠ G) (hG : Not a n G) (v : Value) : Bag (w.setCell ⟨G, i, none⟩ v) B L n a ll l c h :=
  ⟨fun k hk => by rw [World.cell?_setCell_other _ _ _ _ (fun e => hL (by cases e; rfl))]; exact hb.lst k hk, fun k hk => (hb.own k hk).past (hG k hk)⟩
/-- .. and is put into the second list. -/
theorem St4.out {w wq wr : World} {B L G n k : Nat} {a : Nat → Option Addr} {l c : Nat → Nat} {hf : Nat → Option Addr} {df : Nat → Nat} {gA : Option Addr} {gC : Nat}
    (h : St4 wq wr B L G n k 64 a l c hf df gA gC) (f : Fix4 w wq B L G n k a c hf df) (hB : Bel B n a w wr) :
    ∃ hf' df', Bag (wr.setCell ⟨G, k, none⟩ (.slice gA (l k + 64) gC)) B L n a l l c mkN ∧ Bag (wr.setCell ⟨G, k, none⟩ (.slice gA (l k + 64) gC)) B G (k + 1) hf' (fun j => l j + 64) (fun j => l j + 64) df' mkN ∧
      Gb (wr.setCell ⟨G, k, none⟩ (.slice gA (l k + 64) gC)) G n ∧ Not hf' (k + 1) G ∧ (∀ j i, j < k + 1 → i < n → j ≠ i → Off (spn (hf' j) (df' j)) (spn (a i) (c i))) ∧ Bel B n a w (wr.setCell ⟨G, k, none⟩ (.slice gA (l k + 64) gC)) := by
  have hgA : blk gA ≠ some G := by
    rcases h.org with ⟨e, _⟩ | ⟨x, e, hx⟩
    · rw [e]; exact f.noG k f.hk
    · rw [e]; intro hh; have hh : some x = some G := hh; cases hh; have := f.lG; omega
  refine ⟨fun j => if j = k then gA else hf j, fun j => if j = k then gC else df j, ?_, h.bg.put h.gb f.hk f.nhG hgA h.own, h.gb.set _, ?_, ?_, hB.grownNew (grownSet _ _ _ _) f.bw f.wG⟩
  · exact h.bl.past f.ne f.noG _
  · intro j hj
    by_cases e : j = k
    · subst e; simp only [if_pos]; exact hgA
    · simp only [if_neg e]; exact f.nhG j (by omega)
  · intro j i hj hi hji
    by_cases e : j = k
    · subst e
      simp only [if_pos]
      rcases h.org with ⟨e, e2⟩ | ⟨x, e, hx⟩
      · rw [e, e2]; exact f.sep j i f.hk hi hji
      · rw [e]
        exact off_blk fun y e1 e2 => by
          cases e1
          exact absurd (show x < wq.heap.size from (f.fa i _ hi e2).2) (by omega)
    · simp only [if_neg e]
      exact f.sh j i (by omega) hi hji
/-- slices that are grown by many at once: before the one k. -/
structure Fin5 (w wr : World) (B L G n k : Nat) (a : Nat → Option Addr) (l c : Nat → Nat) (hf : Nat → Option Addr) (df : Nat → Nat) : Prop where
  bl : Bag wr B L n a l l c mkN
  bg : Bag wr B G k hf (fun j => l j + 64) l df mkN
  gb : Gb wr G n
  ng : Not hf k G
  sh : ∀ j i, j < k → i < n → j ≠ i → Off (spn (hf j) (df j)) (spn (a i) (c i))
  be : Bel B n a w wr
section
variable {w wq wi w6 : World} {B L G n k : Nat} {a : Nat → Option Addr} {l c : Nat → Nat} {hf : Nat → Option Addr} {df : Nat → Nat}
theorem Fin5.turn0 (h : Fin5 w wi B L G n k a l c hf df) (ht : Turn wi w6 none) (hB : B ≤ w.heap.size) : Fin5 w w6 B L G n k a l c hf df :=
  ⟨h.bl.turn ht (fun g lo hi e => by cases e) (fun _ _ => off_none _), h.bg.turn ht (fun g lo hi e => by cases e) (fun _ _ => off_none _), h.gb.turn ht (fun g lo hi e => by cases e), h.ng, h.sh, h.be.turn0 ht hB⟩
theorem Fin5.setM (h : Fin5 w wi B L G n k a l c hf df) (f : Fix4 w wq B L G n k a c hf df) {M : Nat} (hM : wq.heap.size ≤ M) (i : Nat) (u : Value) : Fin5 w (wi.setCell ⟨M, i, none⟩ u) B L G n k a l c hf df := by
  have hg := grownSet wi M i u
  have lL := f.lL
  have lG := f.lG
  have hws := f.ws
  have hGb : Gb (wi.setCell ⟨M, i, none⟩ u) G n := by
    obtain ⟨vs, h1, h2⟩ := h.gb
    exact ⟨vs, (heap_setCell_other _ _ _ _ (show G ≠ M by omega)).trans h1, h2⟩
  exact ⟨h.bl.past (by omega) (fun j hj hh => by have := (f.fa j M hj hh).2; omega) _, h.bg.past (by omega) (fun j hj hh => by have := f.fh j M hj hh; omega) _, hGb, h.ng, h.sh, h.be.grownNew hg f.bw (by omega)⟩
theorem Fin5.app {v : Value} {news : List Value} (h : Fin5 w wi B L G n k a l c hf df) (f : Fix4 w wq B L G n k a c hf df) (hsz : wq.heap.size ≤ wi.heap.size)
    (hown : OfRow w6 B v (l k + 64) (rowv (mkN k) (l k) ++ news))
    (hc : v = .slice (a k) (l k + 64) (c k) ∧ Turn wi w6 (spn (a k) (c k)) ∨ (∃ g cap', v = .slice (some ⟨g, 0, none⟩) (l k + 64) cap' ∧ wi.heap.size ≤ g) ∧ wi.grownBy w6 none) :
    Gb w6 G n ∧ ∃ gA gC hf' df', v = .slice gA (l k + 64) gC ∧ Fin5 w (w6.setCell ⟨G, k, none⟩ (.slice gA (l k + 64) gC)) B L G n (k + 1) a l c hf' df' := by
  have lL := f.lL
  have lG := f.lG
  have htk : (rowv (mkN k) (l k) ++ news).take (l k) = rowv (mkN k) (l k) := by
    rw [List.take_append_of_le_length (by rw [rowv_len]; omega), List.take_of_length_le (by rw [rowv_len]; omega)]
  have key : ∃ gA gC, v = .slice gA (l k + 64) gC ∧ Bag w6 B L n a l l c mkN ∧ Bag w6 B G k hf (fun j => l j + 64) l df mkN ∧ Gb w6 G n ∧ Bel B n a w w6 ∧ blk gA ≠ some G ∧ ∀ i, i < n → k ≠ i → Off (spn gA gC) (spn (a i) (c i)) := by
    rcases hc with ⟨rfl, ht⟩ | ⟨⟨g, cap', rfl, hge⟩, hg⟩
    · exact ⟨_, _, rfl, h.bl.app f.hk f.sep f.noL hown htk ht, h.bg.turn ht (fun g lo hi e q => f.noG k f.hk (by rw [q]; exact spn_blk e)) (fun j hj => f.sh j k hj f.hk (by omega)), h.gb.turn ht (fun g lo hi e q => f.noG k f.hk (by rw [q]; exact spn_blk e)),
        h.be.turnRow ht f.bw f.hk (fun g e => (f.fa k g f.hk e).1), f.noG k f.hk, fun i hi hki => f.sep k i f.hk hi hki⟩
    · have tg := Turn.of_grown hg (fun _ e => by cases e)
      have h2 := h.turn0 tg f.bw
      exact ⟨_, _, rfl, h2.bl, h2.bg, h2.gb, h2.be, fun hh => by have hh : some g = some G := hh; cases hh; omega, fun i hi _ => off_blk fun y e1 e2 => by
        cases e1
        exact absurd (show g < wq.heap.size from (f.fa i _ hi e2).2) (by omega)⟩
  obtain ⟨gA, gC, rfl, bl, bg, gb, be, hgG, hgi⟩ := key
  have hsh := of_short hown
  rw [htk] at hsh
  refine ⟨gb, gA, gC, fun j => if j = k then gA else hf j, fun j => if j = k then gC else df j, rfl, ?_, bg.put gb f.hk f.nhG hgG hsh, gb.set _, ?_, ?_, be.grownNew (grownSet _ _ _ _) f.bw f.wG⟩
  · exact bl.past f.ne f.noG _
  · intro j hj
    by_cases e : j = k
    · subst e; simp only [if_pos]; exact hgG
    · simp only [if_neg e]; exact f.nhG j (by omega)
  · intro j i hj hi hji
    by_cases e : j = k
    · subst e
      simp only [if_pos]
      exact hgi i hi hji
    · simp only [if_neg e]
      exact f.sh j i (by omega) hi hji
end
end Go.Proofs.Ytmjjhbeegjbocaa.Of
