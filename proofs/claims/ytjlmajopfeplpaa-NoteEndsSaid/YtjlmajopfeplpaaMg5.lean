import Derived.Below
import Derived.Shelf.Abstract
import Derived.Laws.OwnMore
import Derived.WalkKit
import Derived.WalkSpells
import Derived.WalkLawsBesides
import Derived.Test.YtjlmajopfeplpaaMg4
namespace Go.Proofs.Ytjlmajopfeplpaa
open Go.RowKit Go.Shelf

/-- a slice of bytes that reads as f; nothing stands behind its end. -/
structure Sl (w : World) (a : Option Addr) (len cap : Nat) (f : Nat → Nat) : Prop where
  capOk : len ≤ cap
  maxOk : cap ≤ maxLen
  bytes : Pf.By f
  up : Pf.Up f len
  nil : a = none → len = 0 ∧ cap = 0
  spot : ∀ ad, a = some ad → len ≠ 0 → ad.spot = none
  cell : ∀ ad, a = some ad → ∀ i, i < len → w.cell? ⟨ad.block, ad.off + i, none⟩ = some (.int .u8 (f i : Nat))

theorem Sl.below {w w' : World} {B : Nat} {a : Option Addr} {len cap : Nat} {f : Nat → Nat} (h : Sl w a len cap f) (hB : Below B w w') (hb : ∀ ad, a = some ad → len ≠ 0 → ad.block < B) : Sl w' a len cap f :=
  ⟨h.capOk, h.maxOk, h.bytes, h.up, h.nil, h.spot, fun ad ha i hi => by rw [hB.cell (p := ⟨ad.block, ad.off + i, none⟩) (hb ad ha (by omega))]; exact h.cell ad ha i hi⟩
theorem Sl.same {w w' : World} {a : Option Addr} {len cap : Nat} {f : Nat → Nat} (h : Sl w a len cap f) (hB : Below w.heap.size w w') : Sl w' a len cap f :=
  ⟨h.capOk, h.maxOk, h.bytes, h.up, h.nil, h.spot, fun ad ha i hi => by
    have hc := h.cell ad ha i hi
    rw [hB.cell (World.block_lt_of_cell? _ _ hc)]; exact hc⟩
theorem Sl.drewN {w : World} {a : Option Addr} {len cap : Nat} {f : Nat → Nat} (h : Sl w a len cap f) (q : Nat) : Sl (w.drewN q) a len cap f :=
  ⟨h.capOk, h.maxOk, h.bytes, h.up, h.nil, h.spot, h.cell⟩
theorem Sl.at_ {w : World} {a : Option Addr} {len cap k : Nat} {f : Nat → Nat} (h : Sl w a len cap f) (hk : k < len) : ∃ b off, a = some ⟨b, off, none⟩ ∧ w.cell? ⟨b, off + k, none⟩ = some (.int .u8 (f k : Nat)) := by
  cases a with
  | none => have := h.nil rfl; omega
  | some ad =>
    have hc := h.cell ad rfl k hk
    obtain ⟨b, off, spot⟩ := ad
    obtain rfl : spot = none := h.spot _ rfl (by omega)
    exact ⟨b, off, rfl, hc⟩
theorem Sl.lt {w : World} {a : Option Addr} {len cap : Nat} {f : Nat → Nat} (h : Sl w a len cap f) : ∀ ad, a = some ad → len ≠ 0 → ad.block < w.heap.size := fun ad ha hl => by
  have := h.cell ad ha 0 (by omega)
  exact World.block_lt_of_cell? _ ⟨ad.block, ad.off + 0, none⟩ this
end Go.Proofs.Ytjlmajopfeplpaa

namespace Go.Proofs.Ytjlmajopfeplpaa
open Go.RowKit Go.Shelf

/-- a block of bytes: of cap cells the first n read as h. -/
def Bl (w : World) (g n cap : Nat) (h : Nat → Nat) : Prop :=
  ∃ vs : Array Value, w.heap[g]? = some (.cells vs 5 (0, 0)) ∧ vs.size = cap ∧ ∀ i, i < n → vs[i]? = some (.int .u8 (h i : Nat))
theorem Bl.cell {w : World} {g n cap : Nat} {h : Nat → Nat} (hb : Bl w g n cap h) {i : Nat} (hi : i < n) : w.cell? ⟨g, i, none⟩ = some (.int .u8 (h i : Nat)) := by
  obtain ⟨vs, h1, h2, h3⟩ := hb
  rw [cell_of_row w g i vs _ _ h1]
  exact h3 i hi
theorem Bl.free {w : World} {g n cap : Nat} {h : Nat → Nat} (hb : Bl w g n cap h) (i : Nat) : w.frozen? ⟨g, i, none⟩ = false := by
  obtain ⟨vs, h1, h2, h3⟩ := hb
  exact frozen_of_row w g i vs _ h1
theorem Bl.lt {w : World} {g n cap : Nat} {h : Nat → Nat} (hb : Bl w g n cap h) : g < w.heap.size := by
  obtain ⟨vs, h1, h2, h3⟩ := hb
  exact (Array.getElem?_eq_some_iff.1 h1).1
theorem Bl.set {w : World} {g n cap : Nat} {h : Nat → Nat} (hb : Bl w g n cap h) {j : Nat} (hj : j < n) (v : Nat) :
    Bl (w.setCell ⟨g, j, none⟩ (.int .u8 (v : Nat))) g n cap (fun i => if i = j then v else h i) := by
  obtain ⟨vs, h1, h2, h3⟩ := hb
  refine ⟨vs.setIfInBounds j (.int .u8 (v : Nat)), heap_setCell_same w g j vs _ _ h1, by simpa using h2, fun i hi => ?_⟩
  rw [Array.getElem?_setIfInBounds]
  have := (Array.getElem?_eq_some_iff.1 (h3 j hj)).1
  show _ = some (Value.int .u8 ((if i = j then v else h i : Nat) : Int))
  by_cases e : j = i
  · subst e; rw [if_pos rfl, if_pos this, if_pos rfl]
  · rw [if_neg e, if_neg (fun hh => e (Eq.symm hh))]; exact h3 i hi
theorem Bl.kept {w w' : World} {g n cap : Nat} {h : Nat → Nat} (hb : Bl w g n cap h) (hk : w'.heap[g]? = w.heap[g]?) : Bl w' g n cap h := by
  obtain ⟨vs, h1, h2, h3⟩ := hb
  exact ⟨vs, hk.trans h1, h2, h3⟩
theorem Bl.below {w w' : World} {B g n cap : Nat} {h : Nat → Nat} (hb : Bl w g n cap h) (hB : Below B w w') (hg : g < B) : Bl w' g n cap h := hb.kept (hB.block g hg)
theorem Bl.congr {w : World} {g n cap : Nat} {h h' : Nat → Nat} (hb : Bl w g n cap h) (he : ∀ i, i < n → h i = h' i) : Bl w g n cap h' := by
  obtain ⟨vs, h1, h2, h3⟩ := hb
  exact ⟨vs, h1, h2, fun i hi => by rw [← he i hi]; exact h3 i hi⟩
theorem Bl.less {w : World} {g n m cap : Nat} {h : Nat → Nat} (hb : Bl w g n cap h) (hm : m ≤ n) : Bl w g m cap h := by
  obtain ⟨vs, h1, h2, h3⟩ := hb
  exact ⟨vs, h1, h2, fun i hi => h3 i (by omega)⟩
theorem Bl.drewN {w : World} {g n cap : Nat} {h : Nat → Nat} (hb : Bl w g n cap h) (q : Nat) : Bl (w.drewN q) g n cap h := hb
theorem Bl.of_owns {w : World} {base g n cap : Nat} {h : Nat → Nat} {xs : List Value} (ho : w.ownsRow base 5 1 (.slice (some ⟨g, 0, none⟩) n cap) n xs) (hx : ∀ i, i < n → xs[i]? = some (.int .u8 (h i : Nat))) : Bl w g n cap h := by
  obtain ⟨h1, h2 | ⟨g', cap', cur, e, _, hh, _, _, hs, ht⟩⟩ := ho
  · exact absurd h2.1 (by simp)
  · simp only [Value.slice.injEq, Option.some.injEq, Addr.mk.injEq, and_true, true_and] at e
    obtain ⟨rfl, rfl⟩ := e
    refine ⟨cur, hh, by simpa using hs, fun i hi => ?_⟩
    have := hx i hi
    rw [← ht, List.getElem?_take, if_pos (by omega)] at this
    simpa using this
theorem Bl.alloc (w : World) (vs : List Value) (h : Nat → Nat) (hv : ∀ i, i < vs.length → vs[i]? = some (.int .u8 (h i : Nat))) : Bl (w.alloc (.cells vs.toArray 5)) w.heap.size vs.length vs.length h :=
  ⟨vs.toArray, heap_alloc_new w _, by simp, fun i hi => by simpa using hv i hi⟩
theorem Bl.sl {w : World} {g n cap : Nat} {h : Nat → Nat} (hb : Bl w g n cap h) (h1 : n ≤ cap) (h2 : cap ≤ maxLen) (h3 : Pf.By h) (h4 : Pf.Up h n) : Sl w (some ⟨g, 0, none⟩) n cap h :=
  ⟨h1, h2, h3, h4, fun e => (by cases e), fun ad e _ => (by cases e; rfl), fun ad e i hi => by
    cases e
    show w.cell? ⟨g, 0 + i, none⟩ = _
    rw [Nat.zero_add]; exact hb.cell hi⟩

/-- what a slice's spare room is: a block of its own from B on, as long as its capacity; or it has none. -/
def Ow (w : World) (B : Nat) (a : Option Addr) (cap : Nat) : Prop := (a = none ∧ cap = 0) ∨ ∃ g vs, a = some ⟨g, 0, none⟩ ∧ B ≤ g ∧ w.heap[g]? = some (.cells vs 5 (0, 0)) ∧ vs.size = cap
theorem Bl.ow {w : World} {B g n cap : Nat} {h : Nat → Nat} (hb : Bl w g n cap h) (hg : B ≤ g) : Ow w B (some ⟨g, 0, none⟩) cap := by
  obtain ⟨vs, h1, h2, h3⟩ := hb
  exact Or.inr ⟨g, vs, rfl, hg, h1, h2⟩
theorem Ow.mono {w : World} {B B' : Nat} {a : Option Addr} {cap : Nat} (h : Ow w B a cap) (hB : B' ≤ B) : Ow w B' a cap := by
  rcases h with h | ⟨g, vs, e, hg, h1, h2⟩
  · exact Or.inl h
  · exact Or.inr ⟨g, vs, e, by omega, h1, h2⟩
theorem Ow.lt {w : World} {B g : Nat} {cap : Nat} (h : Ow w B (some ⟨g, 0, none⟩) cap) : g < w.heap.size := by
  rcases h with ⟨h, _⟩ | ⟨g', vs, e, hg, h1, h2⟩
  · cases h
  · cases e; exact (Array.getElem?_eq_some_iff.1 h1).1
theorem Ow.below {w w' : World} {B : Nat} {a : Option Addr} {cap : Nat} (h : Ow w B a cap) (hB : Below w.heap.size w w') : Ow w' B a cap := by
  rcases h with h | ⟨g, vs, e, hg, h1, h2⟩
  · exact Or.inl h
  · exact Or.inr ⟨g, vs, e, hg, (hB.block g (Array.getElem?_eq_some_iff.1 h1).1).trans h1, h2⟩
theorem Ow.grown {w w' : World} {B : Nat} {a : Option Addr} {cap : Nat} {row : Option Nat} (h : Ow w B a cap) (hg : w.grownBy w' row) (hr : ∀ g, a = some ⟨g, 0, none⟩ → some g ≠ row) : Ow w' B a cap := by
  rcases h with h | ⟨g, vs, e, hb, h1, h2⟩
  · exact Or.inl h
  · exact Or.inr ⟨g, vs, e, hb, (hg.block g (Array.getElem?_eq_some_iff.1 h1).1 (hr g e)).trans h1, h2⟩
theorem Sl.grown {w w' : World} {a : Option Addr} {len cap : Nat} {f : Nat → Nat} {row : Option Nat} (h : Sl w a len cap f) (hg : w.grownBy w' row) (hr : ∀ ad, a = some ad → len ≠ 0 → some ad.block ≠ row) : Sl w' a len cap f :=
  ⟨h.capOk, h.maxOk, h.bytes, h.up, h.nil, h.spot, fun ad ha i hi => hg.cell (h.cell ad ha i hi) (hr ad ha (by omega))⟩
/-- a slice of bytes in new memory. -/
structure Nw (w : World) (B : Nat) (a : Option Addr) (len cap : Nat) (f : Nat → Nat) : Prop where
  sl : Sl w a len cap f
  ow : Ow w B a cap
theorem Nw.below {w w' : World} {B : Nat} {a : Option Addr} {len cap : Nat} {f : Nat → Nat} (h : Nw w B a len cap f) (hB : Below w.heap.size w w') : Nw w' B a len cap f := ⟨h.sl.same hB, h.ow.below hB⟩
theorem Nw.mono {w : World} {B B' : Nat} {a : Option Addr} {len cap : Nat} {f : Nat → Nat} (h : Nw w B a len cap f) (hB : B' ≤ B) : Nw w B' a len cap f := ⟨h.sl, h.ow.mono hB⟩
theorem Nw.grown {w w' : World} {B : Nat} {a : Option Addr} {len cap : Nat} {f : Nat → Nat} {row : Option Nat} (h : Nw w B a len cap f) (hg : w.grownBy w' row) (hr : ∀ g, a = some ⟨g, 0, none⟩ → some g ≠ row) : Nw w' B a len cap f :=
  ⟨h.sl.grown hg (fun ad ha hl => by
    rcases h.ow with ⟨e, _⟩ | ⟨g, vs, e, _⟩
    · rw [e] at ha; cases ha
    · rw [e] at ha; cases ha; exact hr g e), h.ow.grown hg hr⟩
theorem Nw.nil (w : World) (B : Nat) {f : Nat → Nat} (hf : ∀ i, f i = 0) : Nw w B none 0 0 f :=
  ⟨⟨Nat.le_refl _, by unfold maxLen; omega, fun i => by rw [hf i]; omega, fun i _ => hf i, fun _ => ⟨rfl, rfl⟩, fun _ e => (by cases e), fun _ e => (by cases e)⟩, Or.inl ⟨rfl, rfl⟩⟩
theorem Nw.cond {w : World} {B : Nat} {a : Option Addr} {len cap : Nat} {f : Nat → Nat} (h : Nw w B a len cap f) : (a = none ∧ len = 0 ∧ cap = 0 ∧ ∀ i, f i = 0) ∨ ∃ g, a = some ⟨g, 0, none⟩ ∧ B ≤ g ∧ Bl w g len cap f := by
  rcases h.ow with ⟨e, e2⟩ | ⟨g, vs, e, hg, h1, h2⟩
  · have := h.sl.nil e
    exact Or.inl ⟨e, this.1, this.2, fun i => h.sl.up i (by omega)⟩
  · refine Or.inr ⟨g, e, hg, vs, h1, h2, fun i hi => ?_⟩
    have := h.sl.cell _ e i hi
    rw [show (⟨g, 0, none⟩ : Addr).block = g from rfl, show (⟨g, 0, none⟩ : Addr).off = 0 from rfl, Nat.zero_add, cell_of_row w g i vs _ _ h1] at this
    exact this
/-- what a call answers that hands out a slice. -/
def Gives (w : World) (n : Nat) (f : Nat → Nat) (e : Ending) (w' : World) : Prop := ∃ a cap, e = .returned (.slice a n cap) ∧ Nw w' w.heap.size a n cap f ∧ Below w.heap.size w w'

theorem Sl.reads {w : World} {a : Option Addr} {len cap : Nat} {f : Nat → Nat} (h : Sl w a len cap f) : ∀ ad, a = some ad → ∀ j u, ((List.range len).map fun i => Value.int .u8 (f i : Nat))[j]? = some u → w.cell? (ad.add j) = some u := by
  intro ad ha j u hu
  have hj : j < len := by
    have := (List.getElem?_eq_some_iff.1 hu).1
    rwa [List.length_map, List.length_range] at this
  have hs := h.spot ad ha (by omega)
  have hc := h.cell ad ha j hj
  obtain ⟨b, off, spot⟩ := ad
  simp only at hs; subst hs
  rw [Addr.add_lit, hc, ← hu]
  simp [hj]
theorem ones_map (n : Nat) (f : Nat → Nat) : ∀ u ∈ (List.range n).map fun i => Value.int .u8 (f i : Nat), u.oneCell' = true := by
  intro u hu
  obtain ⟨i, _, rfl⟩ := List.mem_map.1 hu
  rfl
theorem get_map {n i : Nat} (f : Nat → Nat) (hi : i < n) : ((List.range n).map fun i => Value.int .u8 (f i : Nat))[i]? = some (.int .u8 (f i : Nat)) := by simp [hi]
theorem get_zeros {n i : Nat} (hi : i < n) : (madeCells #[Value.int .u8 0] n).toList[i]? = some (.int .u8 ((0 : Nat) : Int)) := by
  rw [toList_madeCells_one, List.getElem?_replicate, if_pos hi]; rfl
theorem sl_single (w : World) (c : Nat) (hc : c < 256) : Sl (w.alloc (.cells #[.int .u8 (c : Nat)] 5)) (some ⟨w.heap.size, 0, none⟩) 1 1 (Pf.sc c) :=
  (Bl.alloc w [.int .u8 (c : Nat)] (Pf.sc c) (fun i hi => by
    have : i = 0 := by simpa using hi
    subst this; rfl)).sl (by simp) (by unfold maxLen; simp) (Pf.sc_by hc) (Pf.sc_up c)

/-- what owns its row is a slice in new memory. -/
theorem owns_new {w : World} {B n : Nat} {f : Nat → Nat} {v : Value} (ho : w.ownsRow B 5 1 v n ((List.range n).map fun i => Value.int .u8 (f i : Nat))) (hb : Pf.By f) (hu : Pf.Up f n) : ∃ a cap, v = .slice a n cap ∧ Nw w B a n cap f := by
  rcases ho.2 with ⟨rfl, rfl⟩ | ⟨g, cap, cur, rfl, hg, _, hnc, hcm, _⟩
  · exact ⟨none, 0, rfl, Nw.nil _ _ fun i => hu i (by omega)⟩
  · have hB := Bl.of_owns (h := f) ho (fun i hi => get_map f hi)
    exact ⟨_, cap, rfl, hB.sl hnc hcm hb hu, hB.ow hg⟩
end Go.Proofs.Ytjlmajopfeplpaa

namespace Go.Proofs.Ytjlmajopfeplpaa
open Go.RowKit Go.Shelf

/-- so many coefficients, as numbers. -/
def ints (f : Nat → Nat) (n : Nat) : List Int := (List.range n).map fun i => ((f i : Nat) : Int)
theorem ints_len (f : Nat → Nat) (n : Nat) : (ints f n).length = n := by simp [ints]
theorem ints_get {f : Nat → Nat} {n i : Nat} (h : i < n) : (ints f n).getD i 0 = ((f i : Nat) : Int) := by simp [ints, h]
theorem Sl.has8 {w : World} {a : Option Addr} {len cap : Nat} {f : Nat → Nat} (h : Sl w a len cap f) : Has8 w a len cap (ints f len) where
  lenOk := ints_len f len
  capOk := h.capOk
  maxOk := h.maxOk
  byte := fun i hi => by rw [ints_get hi]; have := h.bytes i; omega
  nil := h.nil
  spot := h.spot
  cell := fun ad ha i hi => by rw [ints_get hi]; exact h.cell ad ha i hi
/-- the coefficients of what came in. -/
def coef (xs : List Int) (n i : Nat) : Nat := if i < n then (xs.getD i 0).toNat else 0
theorem Has8.sl {w : World} {a : Option Addr} {len cap : Nat} {xs : List Int} (h : Has8 w a len cap xs) : Sl w a len cap (coef xs len) where
  capOk := h.capOk
  maxOk := h.maxOk
  bytes := fun i => by
    unfold coef; split
    · rename_i hi; have := h.byte i hi; omega
    · omega
  up := fun i hi => by unfold coef; rw [if_neg (by omega)]
  nil := h.nil
  spot := h.spot
  cell := fun ad ha i hi => by
    have := h.byte i hi
    rw [h.cell ad ha i hi]
    unfold coef; rw [if_pos hi, Int.toNat_of_nonneg this.1]

theorem Block.ow {w : World} {g B : Nat} {vs : List Value} (h : Block w g vs 5) (hg : B ≤ g) : Ow w B (some ⟨g, 0, none⟩) vs.length :=
  Or.inr ⟨g, vs.toArray, rfl, hg, h, by simp⟩
theorem lentC_len (xs : List Int) (n : Nat) : (lentC xs n).length = xs.length + n := by simp [lentC, marks]
theorem Block.nw {w : World} {g B len : Nat} {f : Nat → Nat} (h : Block w g (lentC (ints f len) 12) 5) (hg : B ≤ g) (hb : Pf.By f) (hu : Pf.Up f len) (hl : len ≤ 1000000000000) : Nw w B (some ⟨g, 0, none⟩) len (len + 12) f where
  sl := ⟨by omega, by unfold maxLen; omega, hb, hu, fun e => (by cases e), fun ad e _ => (by cases e; rfl), fun ad e i hi => by
    cases e
    rw [show (⟨g, 0, none⟩ : Addr).off = 0 from rfl, Nat.zero_add, h.cell (lentC_lo (n := 12) (by rw [ints_len]; exact hi)), ints_get hi]⟩
  ow := by
    have := h.ow hg
    rwa [lentC_len, ints_len] at this

theorem lentS_any (a : Option Addr) (len cap : Nat) (f : Nat → Nat) (w : World) (h : Sl w a len cap f) (hl : len ≤ 1000000000000) :
    Calls Try.prog 32 #[.slice a len cap] w fun e w' =>
      e = .returned (.slice (some ⟨w.heap.size, 0, none⟩) len (len + 12)) ∧ Block w' w.heap.size (lentC (ints f len) 12) 5 ∧ Below w.heap.size w w' :=
  lent_any a len cap (ints f len) w h.has8 hl
theorem keptS_any (g : Nat) (a : Option Addr) (len cap : Nat) (f : Nat → Nat) (w : World) (h : Sl w a len cap f) (hg : Block w g (lentC (ints f len) 12) 5) (hl : len ≤ 1000000000000) :
    Calls Try.prog 34 #[.slice (some ⟨g, 0, none⟩) len (len + 12), .slice a len cap] w fun e w' => e = .returned (.bool true) ∧ ∃ q, w' = w.drewN q :=
  kept_any g a len cap (ints f len) w h.has8 hg hl

set_option maxHeartbeats 1000000 in
set_option maxRecDepth 100000 in
/-- two slices that read alike. -/
theorem same_any (a a' : Option Addr) (l c c' : Nat) (f : Nat → Nat) (hl : l ≤ 1000000000000) (w : World) (h1 : Sl w a l c f) (h2 : Sl w a' l c' f) :
    Calls Try.prog 12 #[.slice a l c, .slice a' l c'] w fun e w' => e = .returned (.bool true) ∧ ∃ q, w' = w.drewN q := by
  have H1 := Lib.hid h1; have H2 := Lib.hid h2; clear h1 h2
  have g1 : ((l : Int) != (l : Int)) = false := by simp
  go_enter Try.func12, Try.ntmps12
  go_wp2_with fail
  clear g1
  go_loopw [5] (fun i wr => ∃ k : Nat, k ≤ l ∧ i = .int .i64 k ∧ ∃ q, wr = w.drewN q) (fun i _ => l - (intOf i).toNat)
  case atStart => exact ⟨0, by omega, rfl, 0, rfl⟩
  case round =>
    obtain ⟨k, hk, rfl, q, rfl⟩ := hrel
    by_cases hlt : k < l
    · obtain ⟨b1, o1, e1, c1⟩ := H1.out.at_ hlt
      obtain ⟨b2, o2, e2, c2⟩ := H2.out.at_ hlt
      have E1 := Lib.hid (show a = some ⟨b1, o1, none⟩ from e1)
      have E2 := Lib.hid (show a' = some ⟨b2, o2, none⟩ from e2)
      subst e1 e2
      have i1 : (k : Int) < (l : Int) := by omega
      have g2 : (((f k : Nat) : Int) != ((f k : Nat) : Int)) = false := by simp
      go_wp2_with fail
      go_quiet (fail)
      go_wp2
      go_roundw
      case rel => exact ⟨k + 1, by omega, by go_num, q + nq, rfl⟩
      case measure => simp [intOf]; omega
    · obtain rfl : k = l := by omega
      have i1 : ¬ (k : Int) < (k : Int) := by omega
      go_wp2
      go_ret
      exact ⟨rfl, q, rfl⟩
/-- a slice of bytes that came in, as it is opened. -/
theorem has8_row {w : World} {a : Option Addr} {len cap : Nat} {zs : List Int}
    (h : (a = none ∧ len = 0 ∧ cap = 0 ∧ zs = []) ∨
      ∃ x, a = some x ∧ len ≤ cap ∧ cap ≤ maxLen ∧ zs.length = cap ∧ (∀ i, i < zs.length → w.cell? (x.add i) = some (.int .u8 (zs.getD i 0))) ∧ ∀ n ∈ zs, (Lit.int .u8 n).wf = true) : Has8 w a len cap (zs.take len) := by
  rcases h with ⟨rfl, rfl, rfl, rfl⟩ | ⟨x, rfl, hl, hm, hz, hc, hw⟩
  · exact ⟨rfl, by omega, by omega, (fun i hi => by omega), (fun _ => ⟨rfl, rfl⟩), (fun _ h => by cases h), (fun _ h => by cases h)⟩
  · refine ⟨by simp; omega, hl, hm, (fun i hi => ?_), (fun h => by cases h), (fun ad ha hne => ?_), (fun ad ha i hi => ?_)⟩
    · have e : (zs.take len).getD i 0 = zs[i]'(by omega) := by simp [hi, show i < zs.length by omega]
      rw [e]
      have := bounds_u8 (hw _ (List.getElem_mem (show i < zs.length by omega)))
      omega
    · cases ha
      have := hc 0 (by omega)
      rw [Addr.add_zero'] at this
      simpa using World.cell?_spot this
    · cases ha
      have h0 := hc 0 (by omega)
      rw [Addr.add_zero'] at h0
      have hs : x.spot = none := by simpa using World.cell?_spot h0
      have hci := hc i (by omega)
      obtain ⟨b, off, spot⟩ := x
      simp only at hs; subst hs
      rw [Addr.add_lit] at hci
      rw [hci]
      simp [hi, show i < zs.length by omega]

/-- a slice of bytes that came in. -/
theorem sl_row {w : World} {a : Option Addr} {len cap : Nat} {zs : List Int}
    (h : (a = none ∧ len = 0 ∧ cap = 0 ∧ zs = []) ∨
      ∃ x, a = some x ∧ len ≤ cap ∧ cap ≤ maxLen ∧ zs.length = cap ∧ (∀ i, i < zs.length → w.cell? (x.add i) = some (.int .u8 (zs.getD i 0))) ∧ ∀ n ∈ zs, (Lit.int .u8 n).wf = true) : Sl w a len cap (coef (zs.take len) len) := (has8_row h).sl
end Go.Proofs.Ytjlmajopfeplpaa

namespace Go.Proofs.Ytjlmajopfeplpaa
open Go.RowKit Go.Shelf

theorem hmk8 (N : Nat) (hN : N ≤ 1000000000000) : ∀ W : World, (Instr.makeSlice 27 (.int .i64 (N : Nat)) (.int .i64 (N : Nat))).run Try.prog W = .ok (.slice (some ⟨W.heap.size, 0, none⟩) N N) (W.alloc (.cells (madeCells #[.int .u8 0] N) 5)) := fun W => by
  obtain ⟨i0, hi, hz0, hz1, hz2⟩ := info_parts Try.infoU8
  have := run_make (P := Try.prog) W 27 5 i0 (.int .u8 0) Try.underlying27 hi hz0 .i64 .i64 (N : Int) (N : Int) (by omega) (Int.le_refl _) (by rw [hz2]; omega) (by omega)
  have e : (Value.int .u8 0).cells = #[.int .u8 0] := rfl
  rw [hz1, e, Int.toNat_natCast, Nat.mul_one] at this; exact this
theorem bl_made (W : World) (N : Nat) : Bl (W.alloc (.cells (madeCells #[.int .u8 0] N) 5)) W.heap.size N N (fun _ => 0) :=
  ⟨_, heap_alloc_new W _, size_madeCells _ _, fun i hi => by
    have := get_zeros (n := N) (i := i) hi
    rwa [Array.getElem?_toList] at this⟩
theorem zero_by : Pf.By (fun _ => 0) := fun _ => (by omega : 0 < 256)
theorem zero_up (k : Nat) : Pf.Up (fun _ => 0) k := fun _ _ => rfl
end Go.Proofs.Ytjlmajopfeplpaa

namespace Go.Proofs.Ytjlmajopfeplpaa
open Go.RowKit Go.Shelf

/-- what Pick picks. -/
def pkv (x n : Int) : Int := if x.tmod n < 0 then x.tmod n + n else x.tmod n
theorem pkv_bd (x : Int) {n : Int} (h : 1 ≤ n) : 0 ≤ pkv x n ∧ pkv x n < n := by
  have a1 := Int.tmod_lt_of_pos x (show (0 : Int) < n by omega)
  have a2 := Int.lt_tmod_of_pos x (show (0 : Int) < n by omega)
  unfold pkv; split <;> omega
set_option maxHeartbeats 1000000 in
theorem pickv_any (x n : Int) (h1 : 1 ≤ n) (h2 : n ≤ 1000000000) (w : World) :
    Calls Try.prog 26 #[.int .i64 x, .int .i64 n] w fun e w' => e = .returned (.int .i64 (pkv x n)) ∧ w' = w := by
  have a1 := Int.tmod_lt_of_pos x (show (0 : Int) < n by omega)
  have a2 := Int.lt_tmod_of_pos x (show (0 : Int) < n by omega)
  have g1 : ¬ n < 1 := by omega
  have g2 : ¬ n = 0 := by omega
  unfold pkv
  generalize hr : x.tmod n = r at *
  by_cases h : r < 0
  · rw [if_pos h]
    have HR := Lib.hid hr
    go_enter Try.func26, Try.ntmps26
    go_wp2
    go_ret
    exact ⟨rfl, rfl⟩
  · rw [if_neg h]
    have HR := Lib.hid hr
    go_enter Try.func26, Try.ntmps26
    go_wp2
    go_ret
    exact ⟨rfl, rfl⟩
end Go.Proofs.Ytjlmajopfeplpaa
