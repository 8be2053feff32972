import Derived.Test.YtjnfghhochcpaaaAb
import Derived.Test.YtjnfghhochcpaaaK2
import Derived.Test.YtjnfghhochcpaaaMt
namespace Go.Proofs.Ytjnfghhochcpaaa
open Go.RowKit Go.Shelf

theorem below_dr {B : Nat} {w w' : World} (h : Below B w w') (q : Nat) : Below B w (w'.drewN q) := ⟨h.os, h.tape, h.output, h.size, h.block⟩
/-- a slice of slices of bytes, as it reads: its row i is the slice r i, of l i bytes, and reads as f i. -/
structure Rd (w : World) (a : Option Addr) (n cap : Nat) (r : Nat → Option Addr) (l c : Nat → Nat) (f : Nat → Nat → Nat) : Prop where
  capOk : n ≤ cap
  maxOk : cap ≤ maxLen
  bm : Mt.Bm f
  nil : a = none → n = 0 ∧ cap = 0
  spot : ∀ ad, a = some ad → n ≠ 0 → ad.spot = none
  cell : ∀ ad, a = some ad → ∀ i, i < n → w.cell? ⟨ad.block, ad.off + i, none⟩ = some (.slice (r i) (l i) (c i))
  row : ∀ i, i < n → Sl w (r i) (l i) (c i) (f i)
section
variable {w w' : World} {a : Option Addr} {n cap : Nat} {r : Nat → Option Addr} {l c : Nat → Nat} {f : Nat → Nat → Nat}
theorem Rd.same (h : Rd w a n cap r l c f) (hB : Below w.heap.size w w') : Rd w' a n cap r l c f :=
  ⟨h.capOk, h.maxOk, h.bm, h.nil, h.spot, fun ad ha i hi => by
    have hc := h.cell ad ha i hi
    rw [hB.cell (World.block_lt_of_cell? _ _ hc)]; exact hc, fun i hi => (h.row i hi).same hB⟩
theorem Rd.drewN (h : Rd w a n cap r l c f) (q : Nat) : Rd (w.drewN q) a n cap r l c f := ⟨h.capOk, h.maxOk, h.bm, h.nil, h.spot, h.cell, fun i hi => (h.row i hi).drewN q⟩
theorem Rd.at_ (h : Rd w a n cap r l c f) {k : Nat} (hk : k < n) : ∃ b off, a = some ⟨b, off, none⟩ ∧ w.cell? ⟨b, off + k, none⟩ = some (.slice (r k) (l k) (c k)) := by
  cases a with
  | none => have := h.nil rfl; omega
  | some ad =>
    have hc := h.cell ad rfl k hk
    obtain ⟨b, off, spot⟩ := ad
    obtain rfl : spot = none := h.spot _ rfl (by omega)
    exact ⟨b, off, rfl, hc⟩
theorem Rd.up (h : Rd w a n cap r l c f) {i j : Nat} (hi : i < n) (hj : l i ≤ j) : f i j = 0 := (h.row i hi).up j hj
end

/-- a matrix in memory of its own, from B on: the block G holds the rows, the block b i the row i. -/
structure Gr (w : World) (B G n cap : Nat) (b l c : Nat → Nat) (f : Nat → Nat → Nat) : Prop where
  blk : ∃ vs : Array Value, w.heap[G]? = some (.cells vs 23 (0, 0)) ∧ vs.size = cap ∧ ∀ i, i < n → vs[i]? = some (.slice (some ⟨b i, 0, none⟩) (l i) (c i))
  row : ∀ i, i < n → Bl w (b i) (l i) (c i) (f i)
  lc : ∀ i, i < n → l i ≤ c i ∧ c i ≤ maxLen
  nc : n ≤ cap ∧ cap ≤ maxLen
  lo : B ≤ G ∧ ∀ i, i < n → B ≤ b i
  inj : ∀ i j, i < n → j < n → b i = b j → i = j
  bm : Mt.Bm f
  up : ∀ i, i < n → Pf.Up (f i) (l i)
section
variable {w w' : World} {B G n cap : Nat} {b l c : Nat → Nat} {f : Nat → Nat → Nat}
theorem Gr.cell (h : Gr w B G n cap b l c f) {i : Nat} (hi : i < n) : w.cell? ⟨G, i, none⟩ = some (.slice (some ⟨b i, 0, none⟩) (l i) (c i)) := by
  obtain ⟨vs, h1, _, h3⟩ := h.blk
  rw [cell_of_row w G i vs _ _ h1]
  exact h3 i hi
theorem Gr.free (h : Gr w B G n cap b l c f) (i : Nat) : w.frozen? ⟨G, i, none⟩ = false := by
  obtain ⟨vs, h1, _⟩ := h.blk
  exact frozen_of_row w G i vs _ h1
theorem Gr.ltG (h : Gr w B G n cap b l c f) : G < w.heap.size := by
  obtain ⟨vs, h1, _⟩ := h.blk
  exact (Array.getElem?_eq_some_iff.1 h1).1
theorem Gr.ltb (h : Gr w B G n cap b l c f) {i : Nat} (hi : i < n) : b i < w.heap.size := (h.row i hi).lt
theorem Gr.ne (h : Gr w B G n cap b l c f) {i : Nat} (hi : i < n) : b i ≠ G := by
  intro e
  obtain ⟨vs, h1, _⟩ := h.row i hi
  obtain ⟨vs', h1', _⟩ := h.blk
  rw [e, h1'] at h1
  injection h1 with h1
  injection h1 with _ h2
  exact absurd h2 (by decide)
theorem Gr.kept (h : Gr w B G n cap b l c f) (hG : w'.heap[G]? = w.heap[G]?) (hb : ∀ i, i < n → w'.heap[b i]? = w.heap[b i]?) : Gr w' B G n cap b l c f := by
  obtain ⟨vs, h1, h2, h3⟩ := h.blk
  exact ⟨⟨vs, hG.trans h1, h2, h3⟩, fun i hi => (h.row i hi).kept (hb i hi), h.lc, h.nc, h.lo, h.inj, h.bm, h.up⟩
theorem Gr.same (h : Gr w B G n cap b l c f) (hB : Below w.heap.size w w') : Gr w' B G n cap b l c f := h.kept (hB.block G h.ltG) fun _ hi => hB.block _ (h.ltb hi)
theorem Gr.drewN (h : Gr w B G n cap b l c f) (q : Nat) : Gr (w.drewN q) B G n cap b l c f := h.kept rfl fun _ _ => rfl
theorem Gr.grown {row : Option Nat} (h : Gr w B G n cap b l c f) (hg : w.grownBy w' row) (hG : some G ≠ row) (hb : ∀ i, i < n → some (b i) ≠ row) : Gr w' B G n cap b l c f :=
  h.kept (hg.block G h.ltG hG) fun i hi => hg.block _ (h.ltb hi) (hb i hi)
theorem Gr.mono (h : Gr w B G n cap b l c f) {B' : Nat} (hB : B' ≤ B) : Gr w B' G n cap b l c f :=
  ⟨h.blk, h.row, h.lc, h.nc, ⟨Nat.le_trans hB h.lo.1, fun i hi => Nat.le_trans hB (h.lo.2 i hi)⟩, h.inj, h.bm, h.up⟩
theorem Gr.congr (h : Gr w B G n cap b l c f) {g : Nat → Nat → Nat} (hg : Mt.Bm g) (e : ∀ i j, i < n → f i j = g i j) : Gr w B G n cap b l c g :=
  ⟨h.blk, fun i hi => (h.row i hi).congr fun j _ => e i j hi, h.lc, h.nc, h.lo, h.inj, hg, fun i hi j hj => by rw [← e i j hi]; exact h.up i hi j hj⟩
theorem Gr.rd (h : Gr w B G n cap b l c f) : Rd w (some ⟨G, 0, none⟩) n cap (fun i => some ⟨b i, 0, none⟩) l c f :=
  ⟨h.nc.1, h.nc.2, h.bm, fun e => (by cases e), fun ad e _ => (by cases e; rfl), fun ad e i hi => by
    cases e
    show w.cell? ⟨G, 0 + i, none⟩ = _
    rw [Nat.zero_add]; exact h.cell hi, fun i hi => (h.row i hi).sl (h.lc i hi).1 (h.lc i hi).2 (h.bm i) (h.up i hi)⟩
theorem up_ite {g : Nat → Nat → Nat} {r k : Nat} {x : Nat → Nat} {i : Nat} (h1 : i = r → Pf.Up x k) (h2 : i ≠ r → Pf.Up (g i) k) : Pf.Up (fun j => if i = r then x j else g i j) k := fun j hj => by
  show (if i = r then x j else g i j) = 0
  by_cases e : i = r
  · rw [if_pos e]; exact h1 e j hj
  · rw [if_neg e]; exact h2 e j hj
/-- a row written anew. -/
theorem Gr.rowset (h : Gr w B G n cap b l c f) {r : Nat} (hr : r < n) (hg : w.grownBy w' (some (b r))) {x : Nat → Nat} (hx : Bl w' (b r) (l r) (c r) x) (hy : Pf.By x) (hu : Pf.Up x (l r)) : Gr w' B G n cap b l c (fun i j => if i = r then x j else f i j) := by
  obtain ⟨vs, h1, h2, h3⟩ := h.blk
  refine ⟨⟨vs, (hg.block G h.ltG (fun e => h.ne hr (by injection e with e; exact e.symm))).trans h1, h2, h3⟩, fun i hi => ?_, h.lc, h.nc, h.lo, h.inj, fun i j => ?_, fun i hi => up_ite (fun e => by rw [e]; exact hu) (fun _ => h.up i hi)⟩
  · by_cases e : i = r
    · subst e
      exact hx.congr fun j _ => (if_pos rfl).symm
    · exact ((h.row i hi).kept (hg.block _ (h.ltb hi) (fun e2 => e (h.inj i r hi hr (by injection e2))))).congr fun j _ => (if_neg e).symm
  · show (if i = r then x j else f i j) < 256
    split
    · exact hy j
    · exact h.bm i j
/-- one byte written. -/
theorem Gr.set (h : Gr w B G n cap b l c f) {r j : Nat} (hr : r < n) (hj : j < l r) {v : Nat} (hv : v < 256) : Gr (w.setCell ⟨b r, j, none⟩ (.int .u8 (v : Nat))) B G n cap b l c (fun i k => if i = r then (if k = j then v else f r k) else f i k) :=
  h.rowset hr (grownSet w (b r) j _) ((h.row r hr).set hj v) (fun k => by
    show (if k = j then v else f r k) < 256
    split
    · exact hv
    · exact h.bm r k) (fun k hk => by
    show (if k = j then v else f r k) = 0
    rw [if_neg (by omega)]; exact h.up r hr k hk)
/-- one row more. -/
theorem Gr.push (h : Gr w B G n cap b l c f) (hn : n < cap) {g ll cc : Nat} {x : Nat → Nat} (hx : Bl w g ll cc x) (h1 : ll ≤ cc ∧ cc ≤ maxLen) (hB : B ≤ g) (hne : ∀ i, i < n → b i ≠ g) (hy : Pf.By x) (hu : Pf.Up x ll) :
    Gr (w.setCell ⟨G, n, none⟩ (.slice (some ⟨g, 0, none⟩) ll cc)) B G (n + 1) cap (fun i => if i = n then g else b i) (fun i => if i = n then ll else l i) (fun i => if i = n then cc else c i) (fun i j => if i = n then x j else f i j) := by
  obtain ⟨vs, k1, k2, k3⟩ := h.blk
  have hgG : g ≠ G := by
    intro e
    obtain ⟨vs', h1', _⟩ := hx
    rw [e, k1] at h1'
    injection h1' with h1'
    injection h1' with _ h2
    exact absurd h2 (by decide)
  have hoth : ∀ k, k ≠ G → (w.setCell ⟨G, n, none⟩ (.slice (some ⟨g, 0, none⟩) ll cc)).heap[k]? = w.heap[k]? := fun k hk => Below.heap_setCell w ⟨G, n, none⟩ _ k hk
  refine ⟨⟨vs.setIfInBounds n (.slice (some ⟨g, 0, none⟩) ll cc), heap_setCell_same w G n vs _ _ k1, by simpa using k2, fun i hi => ?_⟩, fun i hi => ?_, fun i hi => ?_, ⟨hn, h.nc.2⟩, ⟨h.lo.1, fun i hi => ?_⟩, fun i j hi hj e => ?_, fun i j => ?_, fun i hi => ?_⟩
  · rw [Array.getElem?_setIfInBounds]
    by_cases e : n = i
    · subst e
      rw [if_pos rfl, if_pos (by omega)]
      simp
    · rw [if_neg e, k3 i (by omega)]
      simp only [if_neg (fun hh : i = n => e hh.symm)]
  · by_cases e : i = n
    · subst e
      simp only [if_true]
      exact (hx.kept (hoth g hgG)).congr fun j _ => rfl
    · simp only [if_neg e]
      exact (h.row i (by omega)).kept (hoth _ (h.ne (by omega)))
  · by_cases e : i = n
    · subst e; simp only [if_true]; exact h1
    · simp only [if_neg e]; exact h.lc i (by omega)
  · by_cases e : i = n
    · subst e; simp only [if_true]; exact hB
    · simp only [if_neg e]; exact h.lo.2 i (by omega)
  · have e' : (if i = n then g else b i) = (if j = n then g else b j) := e
    by_cases e1 : i = n <;> by_cases e2 : j = n
    · omega
    · rw [if_pos e1, if_neg e2] at e'; exact absurd e'.symm (hne j (by omega))
    · rw [if_neg e1, if_pos e2] at e'; exact absurd e' (hne i (by omega))
    · rw [if_neg e1, if_neg e2] at e'; exact h.inj i j (by omega) (by omega) e'
  · show (if i = n then x j else f i j) < 256
    split
    · exact hy j
    · exact h.bm i j
  · by_cases e : i = n
    · subst e; simp only [if_true]; exact hu
    · simp only [if_neg e]; exact h.up i (by omega)
/-- one row more, as long as all. -/
theorem Gr.pushU {wi : Nat} (h : Gr w B G n cap b (fun _ => wi) (fun _ => wi) f) (hn : n < cap) {g : Nat} {x : Nat → Nat} (hx : Bl w g wi wi x) (hm : wi ≤ maxLen) (hB : B ≤ g) (hne : ∀ i, i < n → b i ≠ g) (hy : Pf.By x) (hu : Pf.Up x wi)
    {f' : Nat → Nat → Nat} (hf : Mt.Bm f') (e1 : ∀ i j, i < n → f i j = f' i j) (e2 : ∀ j, x j = f' n j) :
    Gr (w.setCell ⟨G, n, none⟩ (.slice (some ⟨g, 0, none⟩) wi wi)) B G (n + 1) cap (fun i => if i = n then g else b i) (fun _ => wi) (fun _ => wi) f' := by
  have := h.push hn hx ⟨Nat.le_refl _, hm⟩ hB hne hy hu
  have e : (fun i => if i = n then wi else wi) = fun _ => wi := by funext i; split <;> rfl
  rw [e] at this
  refine this.congr hf fun i j hi => ?_
  show (if i = n then x j else f i j) = f' i j
  by_cases c : i = n
  · rw [if_pos c, c]; exact e2 j
  · rw [if_neg c]; exact e1 i j (by omega)
end
theorem gr_none {w : World} {B G cap : Nat} {b l c : Nat → Nat} {vs : Array Value} (h1 : w.heap[G]? = some (.cells vs 23 (0, 0))) (h2 : vs.size = cap) (hm : cap ≤ maxLen) (hB : B ≤ G) : Gr w B G 0 cap b l c (fun _ _ => 0) :=
  ⟨⟨vs, h1, h2, fun i hi => absurd hi (Nat.not_lt_zero i)⟩, fun i hi => absurd hi (Nat.not_lt_zero i), fun i hi => absurd hi (Nat.not_lt_zero i), ⟨Nat.zero_le _, hm⟩, ⟨hB, fun i hi => absurd hi (Nat.not_lt_zero i)⟩, fun i _ hi => absurd hi (Nat.not_lt_zero i), fun _ _ => (by omega : 0 < 256), fun i hi => absurd hi (Nat.not_lt_zero i)⟩
end Go.Proofs.Ytjnfghhochcpaaa
