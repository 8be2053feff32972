import Derived.Test.YtjlmajopfeplpaaProg
import Derived.WalkKit
import Derived.WalkSpells
import Derived.WalkLawsBesides
import Derived.BigQuiet
import Derived.Deep.QuietTactic
import Derived.Lib.Hide
import Derived.OpenShut
import Derived.Test.YtjlmajopfeplpaaMg1
namespace Go.Proofs.Ytjlmajopfeplpaa
open Go.RowKit

set_option maxHeartbeats 400000 in
theorem mark_any (k i : Int) (hk0 : 0 ≤ k) (hk : k ≤ 1000000) (hi0 : 0 ≤ i) (hi : i ≤ 1000000000000) (w : World) :
    Calls Try.prog 61 #[.int .i64 k, .int .i64 i] w fun e w' => e = .returned (.int .i64 (1000003 * (k + 7) + i)) ∧ w' = w := by
  go_enter Try.func61, Try.ntmps61
  go_wp2
  go_ret
  exact ⟨rfl, rfl⟩

/-- the byte of a mark. -/
def mkB (k i : Int) : Int := IntKind.u64.wrap ((1000003 * (k + 7) + i) * 11400714819323198485) / 72057594037927936 % 256
theorem mkB_bd (k i : Int) : 0 ≤ mkB k i ∧ mkB k i < 256 := by unfold mkB; omega

set_option maxHeartbeats 400000 in
theorem markByte_any (k i : Int) (hk0 : 0 ≤ k) (hk : k ≤ 1000000) (hi0 : 0 ≤ i) (hi : i ≤ 1000000000000) (w : World) :
    Calls Try.prog 48 #[.int .i64 k, .int .i64 i] w fun e w' => e = .returned (.int .u8 (mkB k i)) ∧ w' = w := by
  go_enter Try.func48, Try.ntmps48
  go_wp2_with fail
  refine (mark_any k i hk0 hk hi0 hi _).mono ?_
  rintro e w' ⟨rfl, rfl⟩
  go_wp2
  go_ret
  exact ⟨rfl, rfl⟩

/-- a slice of bytes that reads as xs. -/
structure Has8 (w : World) (a : Option Addr) (len cap : Nat) (xs : List Int) : Prop where
  lenOk : xs.length = len
  capOk : len ≤ cap
  maxOk : cap ≤ maxLen
  byte : ∀ i, i < len → 0 ≤ xs.getD i 0 ∧ xs.getD i 0 < 256
  nil : a = none → len = 0 ∧ cap = 0
  spot : ∀ ad, a = some ad → len ≠ 0 → ad.spot = none
  cell : ∀ ad, a = some ad → ∀ i, i < len → w.cell? ⟨ad.block, ad.off + i, none⟩ = some (.int .u8 (xs.getD i 0))

theorem Has8.below {w w' : World} {a : Option Addr} {len cap : Nat} {xs : List Int} (h : Has8 w a len cap xs) (hB : Below w.heap.size w w') : Has8 w' a len cap xs where
  lenOk := h.lenOk
  capOk := h.capOk
  maxOk := h.maxOk
  byte := h.byte
  nil := h.nil
  spot := h.spot
  cell ad ha i hi := by
    have hc := h.cell ad ha i hi
    rw [hB.cell (World.block_lt_of_cell? _ _ hc)]; exact hc

theorem Has8.news {w : World} {a : Option Addr} {len cap : Nat} {xs : List Int} (h : Has8 w a len cap xs) : ∀ ad, a = some ad → ∀ j u, (xs.map (Value.int .u8))[j]? = some u → w.cell? (ad.add j) = some u := by
  intro ad ha j u hu
  have hj : j < len := by
    have := (List.getElem?_eq_some_iff.1 hu).1
    rw [List.length_map, h.lenOk] at this; exact this
  have hs := h.spot ad ha (by omega)
  have hc := h.cell ad ha j hj
  obtain ⟨b, off, spot⟩ := ad
  simp only at hs; subst hs
  rw [Addr.add_lit, hc, ← hu]
  simp [h.lenOk, hj]

theorem ones_of (xs : List Int) : ∀ u ∈ xs.map (Value.int .u8), u.oneCell' = true := by
  intro u hu
  obtain ⟨x, _, rfl⟩ := List.mem_map.1 hu
  rfl
theorem cell_single (w : World) (v : Value) (t : TypeId) : ∀ j u, ([v] : List Value)[j]? = some u → (w.alloc (.cells #[v] t)).cell? ((⟨w.heap.size, 0, none⟩ : Addr).add j) = some u := by
  intro j u hu
  have hj : j = 0 := by
    have := (List.getElem?_eq_some_iff.1 hu).1
    simpa using this
  subst hj
  rw [Addr.add_lit, World.cell?_alloc_new]
  simpa using hu
theorem one_single (k : IntKind) (n : Int) : ∀ u ∈ [Value.int k n], u.oneCell' = true := by
  intro u hu
  obtain rfl := List.mem_singleton.1 hu
  rfl
theorem Try.infoU8 : (Try.prog.info? 5).map (fun i => (i.zero, i.size, i.bytes)) = some (some (.int .u8 0), 1, 1) := by kernel_rfl

/-- the first so many marks. -/
def marks (n : Nat) : List Value := (List.range n).map fun i => .int .u8 (mkB 1 (i : Nat))
theorem marks_succ (n : Nat) : marks (n + 1) = marks n ++ [.int .u8 (mkB 1 (n : Nat))] := by simp [marks, List.range_succ]
theorem marks_len (n : Nat) : (marks n).length = n := by simp [marks]
/-- a list and so many marks. -/
def lentC (xs : List Int) (n : Nat) : List Value := xs.map (Value.int .u8) ++ marks n
theorem lentC_succ (xs : List Int) (n : Nat) : lentC xs (n + 1) = lentC xs n ++ [.int .u8 (mkB 1 (n : Nat))] := by simp [lentC, marks_succ]

theorem ownsRow_whole {w : World} {B e n g : Nat} {xs : List Value} (h : w.ownsRow B e 1 (.slice (some ⟨g, 0, none⟩) n n) n xs) : w.heap[g]? = some (.cells xs.toArray e (0, 0)) := by
  obtain ⟨hl, h⟩ := h
  rcases h with ⟨h, _⟩ | ⟨g', cap, cur, hv, _, hh, _, _, hs, ht⟩
  · cases h
  · cases hv
    rw [hh]
    have : cur.toList = xs := by rw [← ht, List.take_of_length_le]; simp [hs]
    rw [← this]

set_option maxHeartbeats 1000000 in
set_option maxRecDepth 100000 in
theorem lent_any (a : Option Addr) (len cap : Nat) (xs : List Int) (w : World) (h : Has8 w a len cap xs) (hl : len ≤ 1000000000000) :
    Calls Try.prog 32 #[.slice a len cap] w fun e w' =>
      e = .returned (.slice (some ⟨w.heap.size, 0, none⟩) len (len + 12)) ∧ w'.heap[w.heap.size]? = some (.cells (lentC xs 12).toArray 5 (0, 0)) ∧ Below w.heap.size w w' := by
  obtain ⟨i0, hi, hz0, hz1, hz2⟩ := info_parts Try.infoU8
  have H := Lib.hid h; clear h
  have HI := Lib.hid hi; have HZ0 := Lib.hid hz0; have HZ1 := Lib.hid hz1; have HZ2 := Lib.hid hz2
  clear hi hz0 hz1 hz2
  go_enter Try.func32, Try.ntmps32
  go_wp2_with (first
    | (at_make; refine wpList_make_own _ rfl _ _ _ rfl w.heap.size 5 i0 (.int .u8 0) 1 Try.underlying27 HI.out HZ0.out HZ1.out .i64 .i64 _ (len + 12) rfl rfl (by omega) (by rw [HZ2.out]; omega) (by unfold maxLen; omega) (Nat.le_refl _) ?_; intro w1 hown1 hgrow1; have HO1 := Lib.hid hown1; have HB1 := Lib.hid ((Below.refl w.heap.size w).grown hgrow1 (Nat.le_refl _) (by simp)); clear hown1 hgrow1)
    | (at_builtin; refine wpList_append_fits_any _ rfl _ _ _ rfl w.heap.size 5 i0 1 Try.underlying27 HI.out HZ1.out w.heap.size 0 (len + 12) [] rfl HO1.out a len cap (xs.map (Value.int .u8)) rfl (by rw [List.length_map, H.out.lenOk, Nat.mul_one]) H.out.nil (H.out.below HB1.out).news (ones_of xs) (by omega) ?_; intro w2 hown2 hgrow2; rw [Nat.zero_add, List.nil_append] at hown2; have HO2 := Lib.hid hown2; have HB2 := Lib.hid (HB1.out.grown hgrow2 HB1.out.size (by intro k hk; cases hk; exact Nat.le_refl _)); clear hown2 hgrow2))
  clear HO1 HB1
  go_loopw [3, 4] (fun o i wr => ∃ k : Nat, k ≤ 12 ∧ i = .int .i64 k ∧ o = .slice (some ⟨w.heap.size, 0, none⟩) (len + k) (len + 12) ∧ wr.ownsRow w.heap.size 5 1 (.slice (some ⟨w.heap.size, 0, none⟩) (len + k) (len + 12)) (len + k) (lentC xs k) ∧ Below w.heap.size w wr) (fun _ i _ => 12 - (intOf i).toNat)
  case atStart => exact ⟨0, by omega, rfl, by simp, by simpa [lentC, marks] using HO2.out, HB2.out⟩
  case round =>
    obtain ⟨k, hk, rfl, rfl, hO, hB⟩ := hrel
    have HO := Lib.hid hO; have HB := Lib.hid hB; clear hO hB
    by_cases hlt : k < 12
    · have hge := HB.out.size
      go_wp2_with (first
        | (go_at_call 48; refine (markByte_any 1 (k : Int) (by omega) (by omega) (by omega) (by omega) _).mono ?_; rintro e w' ⟨rfl, rfl⟩)
        | (at_builtin; refine wpList_append_fits _ rfl _ _ _ rfl w.heap.size 5 i0 1 Try.underlying27 HI.out HZ1.out w.heap.size (len + k) (len + 12) (lentC xs k) rfl (HO.out.alloc _) _ 1 1 [.int .u8 (mkB 1 (k : Nat))] rfl rfl (cell_single _ _ _) (one_single _ _) (by omega) ?_; intro w4 hown4 hgrow4; rw [← lentC_succ] at hown4; have HO4 := Lib.hid hown4; have HB4 := Lib.hid ((HB.out.alloc hge _).grown hgrow4 (by simp; omega) (by intro k hk; cases hk; exact Nat.le_refl _)); clear hown4 hgrow4))
      go_roundw
      case rel => exact ⟨k + 1, by omega, by go_num, rfl, HO4.out, HB4.out⟩
      case measure => simp [intOf]; omega
    · obtain rfl : k = 12 := by omega
      have hle := H.out.capOk
      go_wp2
      go_ret
      exact ⟨rfl, ownsRow_whole HO.out, HB.out⟩

/-- a block that holds just these values. -/
def Block (w : World) (g : Nat) (vs : List Value) (e : TypeId) : Prop := w.heap[g]? = some (.cells vs.toArray e (0, 0))
theorem Block.cell {w : World} {g : Nat} {vs : List Value} {e : TypeId} (h : Block w g vs e) {j : Nat} {v : Value} (hj : vs[j]? = some v) : w.cell? ⟨g, j, none⟩ = some v := by
  unfold Block at h
  simp [World.cell?, h, hj]
theorem Block.free {w : World} {g : Nat} {vs : List Value} {e : TypeId} (h : Block w g vs e) (j : Nat) : w.frozen? ⟨g, j, none⟩ = false := by
  unfold Block at h
  simp [World.frozen?, h]
theorem Block.lt {w : World} {g : Nat} {vs : List Value} {e : TypeId} (h : Block w g vs e) : g < w.heap.size := by
  unfold Block at h
  exact (Array.getElem?_eq_some_iff.1 h).1
theorem Block.below {w w' : World} {B g : Nat} {vs : List Value} {e : TypeId} (h : Block w g vs e) (hB : Below B w w') (hg : g < B) : Block w' g vs e := by
  unfold Block at *
  rw [hB.block g hg]; exact h
theorem lentC_lo {xs : List Int} {n j : Nat} (h : j < xs.length) : (lentC xs n)[j]? = some (.int .u8 (xs.getD j 0)) := by
  unfold lentC
  rw [List.getElem?_append_left (by simpa using h)]
  simp [h]
theorem lentC_hi {xs : List Int} {n j : Nat} (h1 : xs.length ≤ j) (h2 : j < xs.length + n) : (lentC xs n)[j]? = some (.int .u8 (mkB 1 ((j : Int) - (xs.length : Int)))) := by
  unfold lentC
  rw [List.getElem?_append_right (by simpa using h1), List.length_map]
  unfold marks
  rw [List.getElem?_map, List.getElem?_range (by omega)]
  show some (Value.int .u8 (mkB 1 ((j - xs.length : Nat) : Int))) = _
  rw [show ((j - xs.length : Nat) : Int) = (j : Int) - (xs.length : Int) by omega]

set_option maxHeartbeats 1000000 in
set_option maxRecDepth 100000 in
theorem kept_any (g : Nat) (a : Option Addr) (len cap : Nat) (xs : List Int) (w : World) (h : Has8 w a len cap xs) (hg : Block w g (lentC xs 12) 5) (hl : len ≤ 1000000000000) :
    Calls Try.prog 34 #[.slice (some ⟨g, 0, none⟩) len (len + 12), .slice a len cap] w fun e w' => e = .returned (.bool true) ∧ ∃ q, w' = w.drewN q := by
  have H := Lib.hid h; have HG := Lib.hid hg; clear h hg
  have hne : ((len : Int) != (len : Int)) = false := by simp
  go_enter Try.func34, Try.ntmps34
  go_wp2_with fail
  go_loopw [6] (fun i wr => ∃ k : Nat, k ≤ len + 12 ∧ i = .int .i64 k ∧ ∃ q, wr = w.drewN q) (fun i _ => len + 12 - (intOf i).toNat)
  case atStart => exact ⟨0, by omega, rfl, 0, rfl⟩
  case round =>
    obtain ⟨k, hk, rfl, q, hq⟩ := hrel
    have HQ := Lib.hid hq
    by_cases hlt : k < len
    · obtain ⟨ad, rfl⟩ : ∃ ad, a = some ad := by
        cases a with
        | none => have := H.out.nil rfl; omega
        | some ad => exact ⟨ad, rfl⟩
      obtain ⟨b, off, spot⟩ := ad
      obtain rfl : spot = none := H.out.spot _ rfl (by omega)
      have c1 : wr.cell? ⟨b, off + k, none⟩ = some (.int .u8 (xs.getD k 0)) := by rw [hq]; exact H.out.cell _ rfl k hlt
      have c2 : wr.cell? ⟨g, k, none⟩ = some (.int .u8 (xs.getD k 0)) := by rw [hq]; exact HG.out.cell (lentC_lo (by rw [H.out.lenOk]; exact hlt))
      clear hq
      generalize xs.getD k 0 = v at c1 c2
      have i1 : (k : Int) < (len : Int) := by omega
      have i2 : (k : Int) < (len : Int) + 12 := by omega
      have i5 : decide (len ≤ k) = false := by simp; omega
      go_wp2_with fail
      go_quiet (fail)
      go_wp2
      go_roundw
      case rel => exact ⟨k + 1, by omega, by go_num, q + nq, by rw [HQ.out, World.drewN_drewN]⟩
      case measure => simp [intOf]; omega
    · by_cases hlt2 : k < len + 12
      · have c2 : wr.cell? ⟨g, k, none⟩ = some (.int .u8 (mkB 1 ((k : Int) - (len : Int)))) := by
          have := HG.out.cell (lentC_hi (xs := xs) (n := 12) (j := k) (by rw [H.out.lenOk]; omega) (by rw [H.out.lenOk]; omega))
          rw [H.out.lenOk] at this
          rw [hq]; exact this
        clear hq
        have i1 : ¬ (k : Int) < (len : Int) := by omega
        have i2 : (k : Int) < (len : Int) + 12 := by omega
        have i4 : decide (k < len) = false := by simp; omega
        have i5 : decide (len ≤ k) = true := by simp; omega
        have i6 : IntKind.i64.wrap ((k : Int) - (len : Int)) = (k : Int) - (len : Int) := IntWalk.i64_in _ (by omega)
        go_wp2_with fail
        go_quiet ((go_at_call 48; exact Calls.quiet_of_same (markByte_any 1 ((k : Int) - (len : Int)) (by omega) (by omega) (by omega) (by omega) _)))
        go_wp2
        go_roundw
        case rel => exact ⟨k + 1, by omega, by go_num, q + nq, by rw [HQ.out, World.drewN_drewN]⟩
        case measure => simp [intOf]; omega
      · clear hq
        obtain rfl : k = len + 12 := by omega
        go_wp2
        go_ret
        exact ⟨rfl, q, HQ.out⟩
end Go.Proofs.Ytjlmajopfeplpaa

namespace Go.Proofs.Ytjlmajopfeplpaa
open Go.RowKit

/-- the inverse of a byte, as a number from 0 on. -/
def ivN (b : Nat) : Nat := if b = 0 then 0 else Gf.pwr b (-1)
theorem ivN_lt (b : Nat) : ivN b < 256 := by unfold ivN; split; omega; exact Gf.pwr_lt _ _
theorem invOf_nat (b : Nat) : invOf (b : Int) = (ivN b : Nat) := by
  unfold invOf ivN
  by_cases h : b = 0
  · rw [if_pos h, if_pos (by omega)]; rfl
  · rw [if_neg h, if_neg (by omega), Int.toNat_natCast]
theorem ne_no {x y : Nat} (h : x = y) : (((x : Nat) : Int) != (y : Int)) = false := by simp [h]
theorem eq_yes {x y : Nat} (h : x = y) : (((x : Nat) : Int) == (y : Int)) = true := by simp [h]
theorem eq_no {x y : Nat} (h : x ≠ y) : (((x : Nat) : Int) == (y : Int)) = false := by simp; omega
theorem ne_yes {x y : Nat} (h : x ≠ y) : (((x : Nat) : Int) != (y : Int)) = true := by simp; omega

theorem IsField.below {fb B : Nat} {w w' : World} (h : IsField fb w) (hB : Below B w w') (hl : fb < B) : IsField fb w' := fun j hj => by
  rw [hB.cell (p := ⟨fb, j, none⟩) hl, hB.frozen (p := ⟨fb, j, none⟩) hl]; exact h j hj

theorem byte_of {a : Int} (h : (Lit.int .u8 a).wf = true) : ∃ n : Nat, a = (n : Int) ∧ n < 256 := by
  have hb := bounds_u8 h
  exact ⟨a.toNat, by omega, by omega⟩
end Go.Proofs.Ytjlmajopfeplpaa
