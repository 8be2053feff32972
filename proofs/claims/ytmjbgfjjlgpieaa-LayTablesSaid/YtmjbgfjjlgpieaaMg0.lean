import Derived.Test.YtmjbgfjjlgpieaaProg
import Derived.WalkKit
import Derived.WalkSpells
import Derived.WalkLawsBesides
import Derived.BigQuiet
import Derived.Deep.QuietTactic
import Derived.Lib.Hide
import Derived.OpenShut
namespace Go.Proofs.Ytmjbgfjjlgpieaa
open Go.RowKit

set_option maxHeartbeats 400000 in
theorem mark_any (k i : Int) (hk0 : 0 ≤ k) (hk : k ≤ 1000000) (hi0 : 0 ≤ i) (hi : i ≤ 1000000000000) (w : World) :
    Calls Try.prog 32 #[.int .i64 k, .int .i64 i] w fun e w' => e = .returned (.int .i64 (1000003 * (k + 7) + i)) ∧ w' = w := by
  go_enter Try.func32, Try.ntmps32
  go_wp2
  go_ret
  exact ⟨rfl, rfl⟩

/-- the byte of a mark. -/
def mkB (k i : Int) : Int := IntKind.u64.wrap ((1000003 * (k + 7) + i) * 11400714819323198485) / 72057594037927936 % 256
theorem mkB_bd (k i : Int) : 0 ≤ mkB k i ∧ mkB k i < 256 := by unfold mkB; omega

/-- a slice of bytes that reads as xs. -/
structure Has8 (w : World) (a : Option Addr) (len cap : Nat) (xs : List Int) : Prop where
  lenOk : xs.length = len
  capOk : len ≤ cap
  maxOk : cap ≤ maxLen
  byte : ∀ i, i < len → 0 ≤ xs.getD i 0 ∧ xs.getD i 0 < 256
  nil : a = none → len = 0 ∧ cap = 0
  spot : ∀ ad, a = some ad → len ≠ 0 → ad.spot = none
  cell : ∀ ad, a = some ad → ∀ i, i < len → w.cell? ⟨ad.block, ad.off + i, none⟩ = some (.int .u8 (xs.getD i 0))

theorem Has8.below {w w' : World} {a : Option Addr} {len cap : Nat} {xs : List Int} (h : Has8 w a len cap xs) (hB : Below w.heap.size w w') : Has8 w' a len cap xs where
  lenOk := h.lenOk
  capOk := h.capOk
  maxOk := h.maxOk
  byte := h.byte
  nil := h.nil
  spot := h.spot
  cell ad ha i hi := by
    have hc := h.cell ad ha i hi
    rw [hB.cell (World.block_lt_of_cell? _ _ hc)]; exact hc

theorem Has8.news {w : World} {a : Option Addr} {len cap : Nat} {xs : List Int} (h : Has8 w a len cap xs) : ∀ ad, a = some ad → ∀ j u, (xs.map (Value.int .u8))[j]? = some u → w.cell? (ad.add j) = some u := by
  intro ad ha j u hu
  have hj : j < len := by
    have := (List.getElem?_eq_some_iff.1 hu).1
    rw [List.length_map, h.lenOk] at this; exact this
  have hs := h.spot ad ha (by omega)
  have hc := h.cell ad ha j hj
  obtain ⟨b, off, spot⟩ := ad
  simp only at hs; subst hs
  rw [Addr.add_lit, hc, ← hu]
  simp [h.lenOk, hj]

theorem ones_of (xs : List Int) : ∀ u ∈ xs.map (Value.int .u8), u.oneCell' = true := by
  intro u hu
  obtain ⟨x, _, rfl⟩ := List.mem_map.1 hu
  rfl
theorem cell_single (w : World) (v : Value) (t : TypeId) : ∀ j u, ([v] : List Value)[j]? = some u → (w.alloc (.cells #[v] t)).cell? ((⟨w.heap.size, 0, none⟩ : Addr).add j) = some u := by
  intro j u hu
  have hj : j = 0 := by
    have := (List.getElem?_eq_some_iff.1 hu).1
    simpa using this
  subst hj
  rw [Addr.add_lit, World.cell?_alloc_new]
  simpa using hu
theorem one_single (k : IntKind) (n : Int) : ∀ u ∈ [Value.int k n], u.oneCell' = true := by
  intro u hu
  obtain rfl := List.mem_singleton.1 hu
  rfl
theorem Try.infoU8 : (Try.prog.info? 5).map (fun i => (i.zero, i.size, i.bytes)) = some (some (.int .u8 0), 1, 1) := by kernel_rfl

/-- the first so many marks. -/
def marks (n : Nat) : List Value := (List.range n).map fun i => .int .u8 (mkB 1 (i : Nat))
theorem marks_succ (n : Nat) : marks (n + 1) = marks n ++ [.int .u8 (mkB 1 (n : Nat))] := by simp [marks, List.range_succ]
theorem marks_len (n : Nat) : (marks n).length = n := by simp [marks]
/-- a list and so many marks. -/
def lentC (xs : List Int) (n : Nat) : List Value := xs.map (Value.int .u8) ++ marks n
theorem lentC_succ (xs : List Int) (n : Nat) : lentC xs (n + 1) = lentC xs n ++ [.int .u8 (mkB 1 (n : Nat))] := by simp [lentC, marks_succ]

theorem ownsRow_whole {w : World} {B e n g : Nat} {xs : List Value} (h : w.ownsRow B e 1 (.slice (some ⟨g, 0, none⟩) n n) n xs) : w.heap[g]? = some (.cells xs.toArray e (0, 0)) := by
  obtain ⟨hl, h⟩ := h
  rcases h with ⟨h, _⟩ | ⟨g', cap, cur, hv, _, hh, _, _, hs, ht⟩
  · cases h
  · cases hv
    rw [hh]
    have : cur.toList = xs := by rw [← ht, List.take_of_length_le]; simp [hs]
    rw [← this]

/-- a block that holds just these values. -/
def Block (w : World) (g : Nat) (vs : List Value) (e : TypeId) : Prop := w.heap[g]? = some (.cells vs.toArray e (0, 0))
theorem Block.cell {w : World} {g : Nat} {vs : List Value} {e : TypeId} (h : Block w g vs e) {j : Nat} {v : Value} (hj : vs[j]? = some v) : w.cell? ⟨g, j, none⟩ = some v := by
  unfold Block at h
  simp [World.cell?, h, hj]
theorem Block.free {w : World} {g : Nat} {vs : List Value} {e : TypeId} (h : Block w g vs e) (j : Nat) : w.frozen? ⟨g, j, none⟩ = false := by
  unfold Block at h
  simp [World.frozen?, h]
theorem Block.lt {w : World} {g : Nat} {vs : List Value} {e : TypeId} (h : Block w g vs e) : g < w.heap.size := by
  unfold Block at h
  exact (Array.getElem?_eq_some_iff.1 h).1
theorem Block.below {w w' : World} {B g : Nat} {vs : List Value} {e : TypeId} (h : Block w g vs e) (hB : Below B w w') (hg : g < B) : Block w' g vs e := by
  unfold Block at *
  rw [hB.block g hg]; exact h
theorem lentC_lo {xs : List Int} {n j : Nat} (h : j < xs.length) : (lentC xs n)[j]? = some (.int .u8 (xs.getD j 0)) := by
  unfold lentC
  rw [List.getElem?_append_left (by simpa using h)]
  simp [h]
theorem lentC_hi {xs : List Int} {n j : Nat} (h1 : xs.length ≤ j) (h2 : j < xs.length + n) : (lentC xs n)[j]? = some (.int .u8 (mkB 1 ((j : Int) - (xs.length : Int)))) := by
  unfold lentC
  rw [List.getElem?_append_right (by simpa using h1), List.length_map]
  unfold marks
  rw [List.getElem?_map, List.getElem?_range (by omega)]
  show some (Value.int .u8 (mkB 1 ((j - xs.length : Nat) : Int))) = _
  rw [show ((j - xs.length : Nat) : Int) = (j : Int) - (xs.length : Int) by omega]

end Go.Proofs.Ytmjbgfjjlgpieaa
