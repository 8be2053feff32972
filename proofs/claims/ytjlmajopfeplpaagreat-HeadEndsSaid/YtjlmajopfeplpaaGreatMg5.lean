import Derived.Test.YtjlmajopfeplpaaGreatProg
import Derived.WalkKit
import Derived.WalkSpells
import Derived.WalkLawsBesides
import Derived.BigQuiet
import Derived.Deep.QuietTactic
import Derived.Lib.Hide
import Derived.OpenShut
import Derived.Test.YtjlmajopfeplpaaGreatMg1
namespace Go.Proofs.YtjlmajopfeplpaaGreat
open Go.RowKit

set_option maxHeartbeats 400000 in
theorem mark_any (k i : Int) (hk0 : 0 ≤ k) (hk : k ≤ 1000000) (hi0 : 0 ≤ i) (hi : i ≤ 1000000000000) (w : World) :
    Calls Tryz.prog 54 #[.int .i64 k, .int .i64 i] w fun e w' => e = .returned (.int .i64 (1000003 * (k + 7) + i)) ∧ w' = w := by
  go_enter Tryz.func54, Tryz.ntmps54
  go_wp2
  go_ret
  exact ⟨rfl, rfl⟩

/-- the byte of a mark. -/
def mkB (k i : Int) : Int := IntKind.u64.wrap ((1000003 * (k + 7) + i) * 11400714819323198485) / 72057594037927936 % 256
theorem mkB_bd (k i : Int) : 0 ≤ mkB k i ∧ mkB k i < 256 := by unfold mkB; omega

set_option maxHeartbeats 400000 in
theorem markByte_any (k i : Int) (hk0 : 0 ≤ k) (hk : k ≤ 1000000) (hi0 : 0 ≤ i) (hi : i ≤ 1000000000000) (w : World) :
    Calls Tryz.prog 29 #[.int .i64 k, .int .i64 i] w fun e w' => e = .returned (.int .u8 (mkB k i)) ∧ w' = w := by
  go_enter Tryz.func29, Tryz.ntmps29
  go_wp2_with fail
  refine (mark_any k i hk0 hk hi0 hi _).mono ?_
  rintro e w' ⟨rfl, rfl⟩
  go_wp2
  go_ret
  exact ⟨rfl, rfl⟩

/-- a slice of bytes that reads as xs. -/
structure Has8 (w : World) (a : Option Addr) (len cap : Nat) (xs : List Int) : Prop where
  lenOk : xs.length = len
  capOk : len ≤ cap
  maxOk : cap ≤ maxLen
  byte : ∀ i, i < len → 0 ≤ xs.getD i 0 ∧ xs.getD i 0 < 256
  nil : a = none → len = 0 ∧ cap = 0
  spot : ∀ ad, a = some ad → len ≠ 0 → ad.spot = none
  cell : ∀ ad, a = some ad → ∀ i, i < len → w.cell? ⟨ad.block, ad.off + i, none⟩ = some (.int .u8 (xs.getD i 0))

theorem Has8.below {w w' : World} {a : Option Addr} {len cap : Nat} {xs : List Int} (h : Has8 w a len cap xs) (hB : Below w.heap.size w w') : Has8 w' a len cap xs where
  lenOk := h.lenOk
  capOk := h.capOk
  maxOk := h.maxOk
  byte := h.byte
  nil := h.nil
  spot := h.spot
  cell ad ha i hi := by
    have hc := h.cell ad ha i hi
    rw [hB.cell (World.block_lt_of_cell? _ _ hc)]; exact hc

theorem Has8.news {w : World} {a : Option Addr} {len cap : Nat} {xs : List Int} (h : Has8 w a len cap xs) : ∀ ad, a = some ad → ∀ j u, (xs.map (Value.int .u8))[j]? = some u → w.cell? (ad.add j) = some u := by
  intro ad ha j u hu
  have hj : j < len := by
    have := (List.getElem?_eq_some_iff.1 hu).1
    rw [List.length_map, h.lenOk] at this; exact this
  have hs := h.spot ad ha (by omega)
  have hc := h.cell ad ha j hj
  obtain ⟨b, off, spot⟩ := ad
  simp only at hs; subst hs
  rw [Addr.add_lit, hc, ← hu]
  simp [h.lenOk, hj]

theorem ones_of (xs : List Int) : ∀ u ∈ xs.map (Value.int .u8), u.oneCell' = true := by
  intro u hu
  obtain ⟨x, _, rfl⟩ := List.mem_map.1 hu
  rfl
theorem cell_single (w : World) (v : Value) (t : TypeId) : ∀ j u, ([v] : List Value)[j]? = some u → (w.alloc (.cells #[v] t)).cell? ((⟨w.heap.size, 0, none⟩ : Addr).add j) = some u := by
  intro j u hu
  have hj : j = 0 := by
    have := (List.getElem?_eq_some_iff.1 hu).1
    simpa using this
  subst hj
  rw [Addr.add_lit, World.cell?_alloc_new]
  simpa using hu
theorem one_single (k : IntKind) (n : Int) : ∀ u ∈ [Value.int k n], u.oneCell' = true := by
  intro u hu
  obtain rfl := List.mem_singleton.1 hu
  rfl
theorem Tryz.infoU8 : (Tryz.prog.info? 5).map (fun i => (i.zero, i.size, i.bytes)) = some (some (.int .u8 0), 1, 1) := by kernel_rfl

/-- the first so many marks. -/
def marks (n : Nat) : List Value := (List.range n).map fun i => .int .u8 (mkB 1 (i : Nat))
theorem marks_succ (n : Nat) : marks (n + 1) = marks n ++ [.int .u8 (mkB 1 (n : Nat))] := by simp [marks, List.range_succ]
theorem marks_len (n : Nat) : (marks n).length = n := by simp [marks]
/-- a list and so many marks. -/
def lentC (xs : List Int) (n : Nat) : List Value := xs.map (Value.int .u8) ++ marks n
theorem lentC_succ (xs : List Int) (n : Nat) : lentC xs (n + 1) = lentC xs n ++ [.int .u8 (mkB 1 (n : Nat))] := by simp [lentC, marks_succ]

theorem ownsRow_whole {w : World} {B e n g : Nat} {xs : List Value} (h : w.ownsRow B e 1 (.slice (some ⟨g, 0, none⟩) n n) n xs) : w.heap[g]? = some (.cells xs.toArray e (0, 0)) := by
  obtain ⟨hl, h⟩ := h
  rcases h with ⟨h, _⟩ | ⟨g', cap, cur, hv, _, hh, _, _, hs, ht⟩
  · cases h
  · cases hv
    rw [hh]
    have : cur.toList = xs := by rw [← ht, List.take_of_length_le]; simp [hs]
    rw [← this]

set_option maxHeartbeats 1000000 in
set_option maxRecDepth 100000 in
theorem lent_any (a : Option Addr) (len cap : Nat) (xs : List Int) (w : World) (h : Has8 w a len cap xs) (hl : len ≤ 1000000000000) :
    Calls Tryz.prog 12 #[.slice a len cap] w fun e w' =>
      e = .returned (.slice (some ⟨w.heap.size, 0, none⟩) len (len + 12)) ∧ w'.heap[w.heap.size]? = some (.cells (lentC xs 12).toArray 5 (0, 0)) ∧ Below w.heap.size w w' := by
  obtain ⟨i0, hi, hz0, hz1, hz2⟩ := info_parts Tryz.infoU8
  have H := Lib.hid h; clear h
  have HI := Lib.hid hi; have HZ0 := Lib.hid hz0; have HZ1 := Lib.hid hz1; have HZ2 := Lib.hid hz2
  clear hi hz0 hz1 hz2
  go_enter Tryz.func12, Tryz.ntmps12
  go_wp2_with (first
    | (at_make; refine wpList_make_own _ rfl _ _ _ rfl w.heap.size 5 i0 (.int .u8 0) 1 Tryz.underlying28 HI.out HZ0.out HZ1.out .i64 .i64 _ (len + 12) rfl rfl (by omega) (by rw [HZ2.out]; omega) (by unfold maxLen; omega) (Nat.le_refl _) ?_; intro w1 hown1 hgrow1; have HO1 := Lib.hid hown1; have HB1 := Lib.hid ((Below.refl w.heap.size w).grown hgrow1 (Nat.le_refl _) (by simp)); clear hown1 hgrow1)
    | (at_builtin; refine wpList_append_fits_any _ rfl _ _ _ rfl w.heap.size 5 i0 1 Tryz.underlying28 HI.out HZ1.out w.heap.size 0 (len + 12) [] rfl HO1.out a len cap (xs.map (Value.int .u8)) rfl (by rw [List.length_map, H.out.lenOk, Nat.mul_one]) H.out.nil (H.out.below HB1.out).news (ones_of xs) (by omega) ?_; intro w2 hown2 hgrow2; rw [Nat.zero_add, List.nil_append] at hown2; have HO2 := Lib.hid hown2; have HB2 := Lib.hid (HB1.out.grown hgrow2 HB1.out.size (by intro k hk; cases hk; exact Nat.le_refl _)); clear hown2 hgrow2))
  clear HO1 HB1
  go_loopw [3, 4] (fun o i wr => ∃ k : Nat, k ≤ 12 ∧ i = .int .i64 k ∧ o = .slice (some ⟨w.heap.size, 0, none⟩) (len + k) (len + 12) ∧ wr.ownsRow w.heap.size 5 1 (.slice (some ⟨w.heap.size, 0, none⟩) (len + k) (len + 12)) (len + k) (lentC xs k) ∧ Below w.heap.size w wr) (fun _ i _ => 12 - (intOf i).toNat)
  case atStart => exact ⟨0, by omega, rfl, by simp, by simpa [lentC, marks] using HO2.out, HB2.out⟩
  case round =>
    obtain ⟨k, hk, rfl, rfl, hO, hB⟩ := hrel
    have HO := Lib.hid hO; have HB := Lib.hid hB; clear hO hB
    by_cases hlt : k < 12
    · have hge := HB.out.size
      go_wp2_with (first
        | (go_at_call 29; refine (markByte_any 1 (k : Int) (by omega) (by omega) (by omega) (by omega) _).mono ?_; rintro e w' ⟨rfl, rfl⟩)
        | (at_builtin; refine wpList_append_fits _ rfl _ _ _ rfl w.heap.size 5 i0 1 Tryz.underlying28 HI.out HZ1.out w.heap.size (len + k) (len + 12) (lentC xs k) rfl (HO.out.alloc _) _ 1 1 [.int .u8 (mkB 1 (k : Nat))] rfl rfl (cell_single _ _ _) (one_single _ _) (by omega) ?_; intro w4 hown4 hgrow4; rw [← lentC_succ] at hown4; have HO4 := Lib.hid hown4; have HB4 := Lib.hid ((HB.out.alloc hge _).grown hgrow4 (by simp; omega) (by intro k hk; cases hk; exact Nat.le_refl _)); clear hown4 hgrow4))
      go_roundw
      case rel => exact ⟨k + 1, by omega, by go_num, rfl, HO4.out, HB4.out⟩
      case measure => simp [intOf]; omega
    · obtain rfl : k = 12 := by omega
      have hle := H.out.capOk
      go_wp2
      go_ret
      exact ⟨rfl, ownsRow_whole HO.out, HB.out⟩

/-- a block that holds just these values. -/
def Block (w : World) (g : Nat) (vs : List Value) (e : TypeId) : Prop := w.heap[g]? = some (.cells vs.toArray e (0, 0))
theorem Block.cell {w : World} {g : Nat} {vs : List Value} {e : TypeId} (h : Block w g vs e) {j : Nat} {v : Value} (hj : vs[j]? = some v) : w.cell? ⟨g, j, none⟩ = some v := by
  unfold Block at h
  simp [World.cell?, h, hj]
theorem Block.free {w : World} {g : Nat} {vs : List Value} {e : TypeId} (h : Block w g vs e) (j : Nat) : w.frozen? ⟨g, j, none⟩ = false := by
  unfold Block at h
  simp [World.frozen?, h]
theorem Block.lt {w : World} {g : Nat} {vs : List Value} {e : TypeId} (h : Block w g vs e) : g < w.heap.size := by
  unfold Block at h
  exact (Array.getElem?_eq_some_iff.1 h).1
theorem Block.below {w w' : World} {B g : Nat} {vs : List Value} {e : TypeId} (h : Block w g vs e) (hB : Below B w w') (hg : g < B) : Block w' g vs e := by
  unfold Block at *
  rw [hB.block g hg]; exact h
theorem lentC_lo {xs : List Int} {n j : Nat} (h : j < xs.length) : (lentC xs n)[j]? = some (.int .u8 (xs.getD j 0)) := by
  unfold lentC
  rw [List.getElem?_append_left (by simpa using h)]
  simp [h]
theorem lentC_hi {xs : List Int} {n j : Nat} (h1 : xs.length ≤ j) (h2 : j < xs.length + n) : (lentC xs n)[j]? = some (.int .u8 (mkB 1 ((j : Int) - (xs.length : Int)))) := by
  unfold lentC
  rw [List.getElem?_append_right (by simpa using h1), List.length_map]
  unfold marks
  rw [List.getElem?_map, List.getElem?_range (by omega)]
  show some (Value.int .u8 (mkB 1 ((j - xs.length : Nat) : Int))) = _
  rw [show ((j - xs.length : Nat) : Int) = (j : Int) - (xs.length : Int) by omega]

set_option maxHeartbeats 1000000 in
set_option maxRecDepth 100000 in
theorem kept_any (g : Nat) (a : Option Addr) (len cap : Nat) (xs : List Int) (w : World) (h : Has8 w a len cap xs) (hg : Block w g (lentC xs 12) 5) (hl : len ≤ 1000000000000) :
    Calls Tryz.prog 20 #[.slice (some ⟨g, 0, none⟩) len (len + 12), .slice a len cap] w fun e w' => e = .returned (.bool true) ∧ ∃ q, w' = w.drewN q := by
  have H := Lib.hid h; have HG := Lib.hid hg; clear h hg
  have hne : ((len : Int) != (len : Int)) = false := by simp
  go_enter Tryz.func20, Tryz.ntmps20
  go_wp2_with fail
  go_loopw [6] (fun i wr => ∃ k : Nat, k ≤ len + 12 ∧ i = .int .i64 k ∧ ∃ q, wr = w.drewN q) (fun i _ => len + 12 - (intOf i).toNat)
  case atStart => exact ⟨0, by omega, rfl, 0, rfl⟩
  case round =>
    obtain ⟨k, hk, rfl, q, hq⟩ := hrel
    have HQ := Lib.hid hq
    by_cases hlt : k < len
    · obtain ⟨ad, rfl⟩ : ∃ ad, a = some ad := by
        cases a with
        | none => have := H.out.nil rfl; omega
        | some ad => exact ⟨ad, rfl⟩
      obtain ⟨b, off, spot⟩ := ad
      obtain rfl : spot = none := H.out.spot _ rfl (by omega)
      have c1 : wr.cell? ⟨b, off + k, none⟩ = some (.int .u8 (xs.getD k 0)) := by rw [hq]; exact H.out.cell _ rfl k hlt
      have c2 : wr.cell? ⟨g, k, none⟩ = some (.int .u8 (xs.getD k 0)) := by rw [hq]; exact HG.out.cell (lentC_lo (by rw [H.out.lenOk]; exact hlt))
      clear hq
      generalize xs.getD k 0 = v at c1 c2
      have i1 : (k : Int) < (len : Int) := by omega
      have i2 : (k : Int) < (len : Int) + 12 := by omega
      have i5 : decide (len ≤ k) = false := by simp; omega
      go_wp2_with fail
      go_quiet (fail)
      go_wp2
      go_roundw
      case rel => exact ⟨k + 1, by omega, by go_num, q + nq, by rw [HQ.out, World.drewN_drewN]⟩
      case measure => simp [intOf]; omega
    · by_cases hlt2 : k < len + 12
      · have c2 : wr.cell? ⟨g, k, none⟩ = some (.int .u8 (mkB 1 ((k : Int) - (len : Int)))) := by
          have := HG.out.cell (lentC_hi (xs := xs) (n := 12) (j := k) (by rw [H.out.lenOk]; omega) (by rw [H.out.lenOk]; omega))
          rw [H.out.lenOk] at this
          rw [hq]; exact this
        clear hq
        have i1 : ¬ (k : Int) < (len : Int) := by omega
        have i2 : (k : Int) < (len : Int) + 12 := by omega
        have i4 : decide (k < len) = false := by simp; omega
        have i5 : decide (len ≤ k) = true := by simp; omega
        have i6 : IntKind.i64.wrap ((k : Int) - (len : Int)) = (k : Int) - (len : Int) := IntWalk.i64_in _ (by omega)
        go_wp2_with fail
        go_quiet ((go_at_call 29; exact Calls.quiet_of_same (markByte_any 1 ((k : Int) - (len : Int)) (by omega) (by omega) (by omega) (by omega) _)))
        go_wp2
        go_roundw
        case rel => exact ⟨k + 1, by omega, by go_num, q + nq, by rw [HQ.out, World.drewN_drewN]⟩
        case measure => simp [intOf]; omega
      · clear hq
        obtain rfl : k = len + 12 := by omega
        go_wp2
        go_ret
        exact ⟨rfl, q, HQ.out⟩
end Go.Proofs.YtjlmajopfeplpaaGreat

namespace Go.Proofs.YtjlmajopfeplpaaGreat
open Go.RowKit

/-- the inverse of a byte, as a number from 0 on. -/
def ivN (b : Nat) : Nat := if b = 0 then 0 else Gf.pwr b (-1)
theorem ivN_lt (b : Nat) : ivN b < 256 := by unfold ivN; split; omega; exact Gf.pwr_lt _ _
theorem invOf_nat (b : Nat) : invOf (b : Int) = (ivN b : Nat) := by
  unfold invOf ivN
  by_cases h : b = 0
  · rw [if_pos h, if_pos (by omega)]; rfl
  · rw [if_neg h, if_neg (by omega), Int.toNat_natCast]
theorem ne_no {x y : Nat} (h : x = y) : (((x : Nat) : Int) != (y : Int)) = false := by simp [h]
theorem eq_yes {x y : Nat} (h : x = y) : (((x : Nat) : Int) == (y : Int)) = true := by simp [h]
theorem eq_no {x y : Nat} (h : x ≠ y) : (((x : Nat) : Int) == (y : Int)) = false := by simp; omega
theorem ne_yes {x y : Nat} (h : x ≠ y) : (((x : Nat) : Int) != (y : Int)) = true := by simp; omega

theorem IsField.below {fb B : Nat} {w w' : World} (h : IsField fb w) (hB : Below B w w') (hl : fb < B) : IsField fb w' := fun j hj => by
  rw [hB.cell (p := ⟨fb, j, none⟩) hl, hB.frozen (p := ⟨fb, j, none⟩) hl]; exact h j hj

theorem byte_of {a : Int} (h : (Lit.int .u8 a).wf = true) : ∃ n : Nat, a = (n : Int) ∧ n < 256 := by
  have hb := bounds_u8 h
  exact ⟨a.toNat, by omega, by omega⟩
end Go.Proofs.YtjlmajopfeplpaaGreat

namespace Go.Proofs.YtjlmajopfeplpaaGreat.Pf
open Gf

/-- one step of a division: the quotient, and what is left. -/
def dstep (b : Nat → Nat) (t : Nat) (s : (Nat → Nat) × (Nat → Nat)) (p : Nat) : (Nat → Nat) × (Nat → Nat) :=
  (fun n => if n = p then mul (s.2 (p + t)) (ivN (b t)) else s.1 n, fun n => if p ≤ n then s.2 n ^^^ mul (mul (s.2 (p + t)) (ivN (b t))) (b (n - p)) else s.2 n)
def dfold (b : Nat → Nat) (t : Nat) (f : Nat → Nat) (l : List Nat) : (Nat → Nat) × (Nat → Nat) := l.foldl (dstep b t) (fun _ => 0, f)
theorem dfold_snoc (b : Nat → Nat) (t : Nat) (f : Nat → Nat) (l : List Nat) (p : Nat) : dfold b t f (l ++ [p]) = dstep b t (dfold b t f l) p := by simp [dfold]
theorem dstep_by {b : Nat → Nat} {t : Nat} {s : (Nat → Nat) × (Nat → Nat)} (hb : By b) (h1 : By s.1) (h2 : By s.2) (p : Nat) : By (dstep b t s p).1 ∧ By (dstep b t s p).2 := by
  have hp := mul_lt (h2 (p + t)) (ivN_lt (b t))
  refine ⟨fun n => ?_, fun n => ?_⟩
  · show (if n = p then _ else _) < 256
    split
    · exact hp
    · exact h1 n
  · show (if p ≤ n then _ else _) < 256
    split
    · exact xor_lt (h2 n) (mul_lt hp (hb _))
    · exact h2 n
theorem dfold_by {b f : Nat → Nat} {t : Nat} (hb : By b) (hf : By f) (l : List Nat) : By (dfold b t f l).1 ∧ By (dfold b t f l).2 := by
  have : ∀ (l : List Nat) (s : (Nat → Nat) × (Nat → Nat)), By s.1 → By s.2 → By (l.foldl (dstep b t) s).1 ∧ By (l.foldl (dstep b t) s).2 := by
    intro l
    induction l with
    | nil => exact fun s h1 h2 => ⟨h1, h2⟩
    | cons p l ih =>
      intro s h1 h2
      have := dstep_by hb h1 h2 (t := t) p
      exact ih _ this.1 this.2
  exact this l _ (fun _ => by show 0 < 256; omega) hf
/-- a row, in the midst of it. -/
def rmid (r : Nat → Nat) (p part : Nat) (b : Nat → Nat) (i n : Nat) : Nat := if p ≤ n ∧ n < p + i then r n ^^^ mul part (b (n - p)) else r n
theorem rmid_0 (r : Nat → Nat) (p part : Nat) (b : Nat → Nat) (n : Nat) : r n = rmid r p part b 0 n := by unfold rmid; rw [if_neg (by omega)]
theorem rmid_at (r : Nat → Nat) (p part : Nat) (b : Nat → Nat) (i : Nat) : rmid r p part b i (p + i) = r (p + i) := by unfold rmid; rw [if_neg (by omega)]
theorem rmid_s (r : Nat → Nat) (p part : Nat) (b : Nat → Nat) (i n : Nat) : (if n = p + i then r (p + i) ^^^ mul part (b i) else rmid r p part b i n) = rmid r p part b (i + 1) n := by
  unfold rmid
  by_cases e : n = p + i
  · subst e
    rw [if_pos rfl, if_pos ⟨by omega, by omega⟩, Nat.add_sub_cancel_left]
  · rw [if_neg e]
    by_cases h : p ≤ n ∧ n < p + i
    · rw [if_pos h, if_pos ⟨h.1, by omega⟩]
    · rw [if_neg h, if_neg (by omega)]
theorem rmid_e {b : Nat → Nat} {t : Nat} (hb : Up b (t + 1)) (s : (Nat → Nat) × (Nat → Nat)) (p n : Nat) : rmid s.2 p (mul (s.2 (p + t)) (ivN (b t))) b (t + 1) n = (dstep b t s p).2 n := by
  unfold rmid dstep
  show _ = if p ≤ n then _ else _
  by_cases h : p ≤ n
  · rw [if_pos h]
    by_cases h2 : n < p + (t + 1)
    · rw [if_pos ⟨h, h2⟩]
    · rw [if_neg (by omega), hb (n - p) (by omega), mul_zero, Nat.xor_zero]
  · rw [if_neg h, if_neg (by omega)]
theorem rmid_by {r b : Nat → Nat} {part : Nat} (hr : By r) (hb : By b) (hp : part < 256) (p i : Nat) : By (rmid r p part b i) := fun n => by
  unfold rmid; split
  · exact xor_lt (hr n) (mul_lt hp (hb _))
  · exact hr n
theorem cv_single {b : Nat → Nat} {p c N : Nat} (hp : p < N) (n : Nat) : cv (fun i => if i = p then c else 0) b N n = if p ≤ n then mul c (b (n - p)) else 0 := by
  unfold cv
  rw [xsum_one (j := p) N hp]
  · show (if p ≤ n then mul (if p = p then c else 0) _ else 0) = _
    rw [if_pos rfl]
  · intro i _ hne
    show (if i ≤ n then mul (if i = p then c else 0) _ else 0) = 0
    rw [if_neg hne, zero_mul]; split <;> rfl
theorem ivN_mul {x y : Nat} (hx : x < 256) (hy : y < 256) (h0 : y ≠ 0) : mul (mul x (ivN y)) y = x := by
  rw [← mul_assoc hx (ivN_lt y) hy]
  have : mul (ivN y) y = 1 := by unfold ivN; rw [if_neg h0]; exact mul_inv hy h0
  rw [this, mul_one' hx]

/-- what a division has done when k places are over, from the end. -/
theorem dfold_inv {b f : Nat → Nat} {t N : Nat} (hb : By b) (hf : By f) (hbu : Ln b (t + 1)) (hfu : Up f (N + t)) : ∀ k, k ≤ N → ∀ l : List Nat, l = (List.range k).map (fun j => N - 1 - j) →
    (∀ n, f n = cv (dfold b t f l).1 b N n ^^^ (dfold b t f l).2 n) ∧ (∀ i, i < N - k ∨ N ≤ i → (dfold b t f l).1 i = 0) ∧ (∀ n, N - k + t ≤ n → (dfold b t f l).2 n = 0) ∧ (0 < k → (dfold b t f l).1 (N - 1) = mul (f (N - 1 + t)) (ivN (b t)))
  | 0, _, l, hl => by
    have hl : l = [] := by simpa using hl
    subst hl
    refine ⟨fun n => ?_, fun i _ => rfl, fun n hn => hfu n (by omega), fun h => by omega⟩
    show f n = cv (fun _ => 0) b N n ^^^ f n
    rw [cv_zero (fun _ => rfl), Nat.zero_xor]
  | k + 1, hk, l, hl => by
    rw [List.range_succ, List.map_append] at hl
    obtain ⟨h1, h2, h3, h4⟩ := dfold_inv hb hf hbu hfu k (by omega) _ rfl
    have hby := dfold_by (t := t) hb hf ((List.range k).map (fun j => N - 1 - j))
    obtain ⟨p, hp⟩ : ∃ p, N - 1 - k = p := ⟨_, rfl⟩
    have hp1 : p + k + 1 = N := by omega
    have hl2 : l = (List.range k).map (fun j => N - 1 - j) ++ [p] := by rw [hl, ← hp]; rfl
    rw [hl2, dfold_snoc]
    clear hl2 hl
    generalize dfold b t f ((List.range k).map (fun j => N - 1 - j)) = s at *
    have hc := mul_lt (hby.2 (p + t)) (ivN_lt (b t))
    have hb0 : b t ≠ 0 := by have := hbu.2.resolve_left (by omega); simpa using this
    have hsum : ∀ n, (dstep b t s p).1 n = s.1 n ^^^ (if n = p then mul (s.2 (p + t)) (ivN (b t)) else 0) := fun n => by
      show (if n = p then _ else _) = _
      by_cases e : n = p
      · rw [if_pos e, if_pos e, h2 n (Or.inl (by omega)), Nat.zero_xor]
      · rw [if_neg e, if_neg e, Nat.xor_zero]
    refine ⟨fun n => ?_, fun i hi => ?_, fun n hn => ?_, fun _ => ?_⟩
    · have e1 : cv (dstep b t s p).1 b N n = cv s.1 b N n ^^^ (if p ≤ n then mul (mul (s.2 (p + t)) (ivN (b t))) (b (n - p)) else 0) := by
        rw [← cv_single (c := mul (s.2 (p + t)) (ivN (b t))) (N := N) (by omega), ← cv_xor hby.1 (fun i => by show (if i = p then _ else 0) < 256; split; exact hc; omega) hb]
        exact congrArg (fun g => cv g b N n) (funext hsum)
      rw [e1, h1 n]
      show _ = _ ^^^ (if p ≤ n then _ else _)
      by_cases e : p ≤ n
      · rw [if_pos e, if_pos e]
        generalize mul (mul (s.2 (p + t)) (ivN (b t))) (b (n - p)) = z
        rw [show cv s.1 b N n ^^^ z ^^^ (s.2 n ^^^ z) = cv s.1 b N n ^^^ s.2 n ^^^ (z ^^^ z) from by ac_rfl, Nat.xor_self, Nat.xor_zero]
      · rw [if_neg e, if_neg e, Nat.xor_zero]
    · rw [hsum, if_neg (by omega), Nat.xor_zero]
      exact h2 i (by omega)
    · show (if p ≤ n then _ else _) = 0
      rw [if_pos (by omega)]
      by_cases e : n = p + t
      · subst e
        rw [Nat.add_sub_cancel_left, ivN_mul (hby.2 _) (hb _) hb0, Nat.xor_self]
      · rw [h3 n (by omega), hbu.1 (n - p) (by omega), mul_zero]; rfl
    · by_cases e : k = 0
      · subst e
        have hpN : N - 1 = p := by omega
        rw [hsum, if_pos hpN, h2 (N - 1) (Or.inl (by omega)), Nat.zero_xor]
        have := h1 (p + t)
        rw [show cv s.1 b N (p + t) = 0 from cv_zero (fun i => h2 i (by omega)) N _, Nat.zero_xor] at this
        rw [← this, hpN]
      · rw [hsum, if_neg (by omega), Nat.xor_zero]
        exact h4 (by omega)
end Go.Proofs.YtjlmajopfeplpaaGreat.Pf

namespace Go.Proofs.YtjlmajopfeplpaaGreat.Pf
open Gf

/-- x, and 1 at the next place. -/
def lin (x n : Nat) : Nat := if n = 0 then x else if n = 1 then 1 else 0
theorem lin_by {x : Nat} (h : x < 256) : By (lin x) := fun n => by unfold lin; split; exact h; split <;> omega
theorem lin_up (x : Nat) : Up (lin x) 2 := fun n hn => by unfold lin; rw [if_neg (by omega), if_neg (by omega)]
theorem lin_Ln (x : Nat) : Ln (lin x) 2 := ⟨lin_up x, Or.inr (by show lin x 1 ≠ 0; unfold lin; simp)⟩
theorem lin_ev {x z : Nat} (hx : x < 256) (hz : z < 256) : ev (lin x) z 2 = x ^^^ z := by
  unfold ev
  show 0 ^^^ mul (lin x 0) (pn z 0) ^^^ mul (lin x 1) (pn z 1) = _
  rw [Nat.zero_xor]
  show mul x 1 ^^^ mul 1 (mul 1 z) = _
  rw [mul_one' hx, mul_one _ hz, mul_one _ hz]
theorem sc_ev {c z : Nat} (hc : c < 256) : ev (sc c) z 1 = c := by
  unfold ev
  show 0 ^^^ mul (sc c 0) (pn z 0) = c
  rw [Nat.zero_xor]
  exact mul_one' hc
theorem mul_eq_zero {a b : Nat} (ha : a < 256) (hb : b < 256) : mul a b = 0 ↔ a = 0 ∨ b = 0 := by
  constructor
  · intro h
    by_cases a0 : a = 0
    · exact Or.inl a0
    by_cases b0 : b = 0
    · exact Or.inr b0
    exact absurd h (mul_pos ha hb a0 b0)
  · rintro (rfl | rfl)
    · exact zero_mul _
    · exact mul_zero _
theorem mul_iv {x y : Nat} (hx : x < 256) (hy : y < 256) (h0 : y ≠ 0) : mul y (mul x (ivN y)) = x := by
  rw [mul_comm hy (mul_lt hx (ivN_lt _)), ivN_mul hx hy h0]

/-- so far: through the first k points; and what is 0 just at them. -/
structure Newt (xs ys : Nat → Nat) (k : Nat) (S N : Nat → Nat) : Prop where
  sb : By S
  nb : By N
  su : Up S k
  nl : Ln N (k + 1)
  at_ : ∀ j, j < k → ev S (xs j) k = ys j
  zero : ∀ z, z < 256 → (ev N z (k + 1) = 0 ↔ ∃ j, j < k ∧ xs j = z)
  two : ∀ i j, i < j → j < k → xs i ≠ xs j
theorem Newt.start (xs ys : Nat → Nat) : Newt xs ys 0 (fun _ => 0) (sc 1) where
  sb := fun _ => by show 0 < 256; omega
  nb := sc_by (by omega)
  su := fun _ _ => rfl
  nl := ⟨sc_up 1, Or.inr (by decide)⟩
  at_ := fun j h => by omega
  zero := fun z hz => by
    rw [sc_ev (by omega)]
    exact ⟨fun h => by omega, fun ⟨j, h, _⟩ => by omega⟩
  two := fun i j _ h => by omega
theorem Newt.step {xs ys S N : Nat → Nat} {k : Nat} (h : Newt xs ys k S N) (hx : ∀ j, xs j < 256) (hy : ∀ j, ys j < 256) (h0 : ev N (xs k) (k + 1) ≠ 0) :
    Newt xs ys (k + 1) (fun i => S i ^^^ pm N (sc (mul (ys k ^^^ ev S (xs k) k) (ivN (ev N (xs k) (k + 1))))) i) (pm N (lin (xs k))) := by
  have e1 := ev_lt h.sb (hx k) k
  have e2 := ev_lt h.nb (hx k) (k + 1)
  have hg := xor_lt (hy k) e1
  have hp := mul_lt hg (ivN_lt (ev N (xs k) (k + 1)))
  have hiv := mul_iv hg e2 h0
  generalize mul (ys k ^^^ ev S (xs k) k) (ivN (ev N (xs k) (k + 1))) = part at *
  have hu : Up (pm N (sc part)) (k + 1) := pm_up1 h.nl.1 (sc_up part) (by omega)
  have hev : ∀ z, z < 256 → ev (fun i => S i ^^^ pm N (sc part) i) z (k + 1) = ev S z k ^^^ mul (ev N z (k + 1)) part := fun z hz => by
    rw [ev_xor h.sb (pm_by h.nb (sc_by hp)) hz, ev_up z h.su (by omega), pm_ev h.nb (sc_by hp) hz h.nl.1 (sc_up part) hu, sc_ev hp]
  have hnl : Ln (pm N (lin (xs k))) (k + 1 + 1) := by
    have := pm_Ln h.nb (lin_by (hx k)) h.nl (lin_Ln (xs k))
    unfold pl at this
    rw [if_neg (by omega)] at this
    exact this
  have hze : ∀ z, z < 256 → (ev (pm N (lin (xs k))) z (k + 1 + 1) = 0 ↔ ∃ j, j < k + 1 ∧ xs j = z) := fun z hz => by
    rw [pm_ev h.nb (lin_by (hx k)) hz h.nl.1 (lin_up _) hnl.1, lin_ev (hx k) hz, mul_eq_zero (ev_lt h.nb hz _) (xor_lt (hx k) hz), h.zero z hz]
    constructor
    · rintro (⟨j, hj, e⟩ | e)
      · exact ⟨j, by omega, e⟩
      · exact ⟨k, by omega, xor_cancel e⟩
    · rintro ⟨j, hj, e⟩
      by_cases hjk : j = k
      · subst hjk; exact Or.inr (by rw [e, Nat.xor_self])
      · exact Or.inl ⟨j, by omega, e⟩
  refine ⟨fun i => xor_lt (h.sb i) (pm_by h.nb (sc_by hp) i), pm_by h.nb (lin_by (hx k)), fun i hi => ?_, hnl, fun j hj => ?_, hze, fun i j hij hj => ?_⟩
  · show S i ^^^ pm N (sc part) i = 0
    rw [h.su i (by omega), hu i hi]; rfl
  · rw [hev (xs j) (hx j)]
    by_cases hjk : j = k
    · subst hjk
      rw [hiv, ← Nat.xor_assoc, Nat.xor_comm (ev S (xs j) j), Nat.xor_assoc, Nat.xor_self, Nat.xor_zero]
    · rw [(h.zero (xs j) (hx j)).2 ⟨j, by omega, rfl⟩, zero_mul, Nat.xor_zero]
      exact h.at_ j (by omega)
  · by_cases hjk : j = k
    · subst hjk
      intro e
      exact h0 ((h.zero (xs j) (hx j)).2 ⟨i, hij, e⟩)
    · exact h.two i j hij (by omega)
end Go.Proofs.YtjlmajopfeplpaaGreat.Pf

namespace Go.Proofs.YtjlmajopfeplpaaGreat.Pf
open Gf

/-- one term. -/
def trm (s c n : Nat) : Nat := if n = s then c else 0
theorem trm_by {s c : Nat} (h : c < 256) : By (trm s c) := fun n => by unfold trm; split <;> omega
theorem trm_up (s c : Nat) : Up (trm s c) (s + 1) := fun n hn => by unfold trm; rw [if_neg (by omega)]
theorem pm_trm {s c : Nat} {b : Nat → Nat} {m : Nat} (hb : Up b (m + 1)) : pm (trm s c) b (s + m) = mul c (b m) := by
  rw [← cv_eq (trm_up s c), cv_top (trm_up s c) hb (Nat.lt_succ_self s)]
  unfold trm; rw [if_pos rfl]
theorem pm_xor {p p' q : Nat → Nat} (hp : By p) (hp' : By p') (hq : By q) (n : Nat) : pm (fun i => p i ^^^ p' i) q n = pm p q n ^^^ pm p' q n := cv_xor hp hp' hq (n + 1) n
/-- one step of a long division, from the top. -/
theorem long_step {f b Q R : Nat → Nat} {t s : Nat} (hb : By b) (hQ : By Q) (hR : By R) (hbl : Ln b (t + 1)) (hru : Up R (t + 1 + s)) (h : ∀ i, f i = pm Q b i ^^^ R i) :
    (∀ i, f i = pm (fun i => Q i ^^^ trm s (mul (R (t + s)) (ivN (b t))) i) b i ^^^ (R i ^^^ pm (trm s (mul (R (t + s)) (ivN (b t)))) b i)) ∧ Up (fun i => R i ^^^ pm (trm s (mul (R (t + s)) (ivN (b t)))) b i) (t + s) := by
  have hb0 : b t ≠ 0 := by have := hbl.2.resolve_left (by omega); simpa using this
  have hc := mul_lt (hR (t + s)) (ivN_lt (b t))
  have hm := ivN_mul (hR (t + s)) (hb t) hb0
  generalize mul (R (t + s)) (ivN (b t)) = c at *
  refine ⟨fun i => ?_, fun i hi => ?_⟩
  · rw [pm_xor hQ (trm_by hc) hb, h i]
    generalize pm (trm s c) b i = z
    rw [show pm Q b i ^^^ z ^^^ (R i ^^^ z) = pm Q b i ^^^ R i ^^^ (z ^^^ z) from by ac_rfl, Nat.xor_self, Nat.xor_zero]
  · show R i ^^^ pm (trm s c) b i = 0
    by_cases e : i = t + s
    · subst e
      rw [Nat.add_comm t s, pm_trm hbl.1, hm, Nat.add_comm s t, Nat.xor_self]
    · rw [hru i (by omega), pm_up1 (trm_up s c) hbl.1 (by omega) i (by omega)]; rfl
/-- quotients and rests are the only ones. -/
theorem long_uniq {f b Q Q' R R' : Nat → Nat} {t k k' : Nat} (hb : By b) (hQ : By Q) (hQ' : By Q') (hbl : Ln b (t + 1)) (hq : Up Q k) (hq' : Up Q' k') (hr : Up R t) (hr' : Up R' t) (h : ∀ i, f i = pm Q b i ^^^ R i) (h' : ∀ i, f i = pm Q' b i ^^^ R' i) :
    Q = Q' ∧ R = R' := by
  have := div_uniq hb hQ hQ' hbl hq hq' hr hr' (fun n => by rw [cv_eq hq, cv_eq hq', ← h n, ← h' n])
  exact ⟨funext this.1, funext this.2⟩
end Go.Proofs.YtjlmajopfeplpaaGreat.Pf

namespace Go.Proofs.YtjlmajopfeplpaaGreat.Pf
open Gf

/-- a product of x less each of the first m places but one. -/
structure Bas (xs : Nat → Nat) (l i m : Nat) (p : Nat → Nat) : Prop where
  by_ : By p
  up : Up p (if i < m then m else m + 1)
  zero : ∀ z, z < 256 → (ev p z (l + 1) = 0 ↔ ∃ j, j < m ∧ j ≠ i ∧ xs j = z)
theorem Bas.start (xs : Nat → Nat) (l i : Nat) : Bas xs l i 0 (sc 1) where
  by_ := sc_by (by omega)
  up := by rw [if_neg (by omega)]; exact sc_up 1
  zero := fun z hz => by
    rw [ev_up z (sc_up 1) (by omega), sc_ev (by omega)]
    exact ⟨fun h => by omega, fun ⟨j, h, _⟩ => by omega⟩
theorem Bas.skip {xs : Nat → Nat} {l i : Nat} {p : Nat → Nat} (h : Bas xs l i i p) : Bas xs l i (i + 1) p where
  by_ := h.by_
  up := by
    have := h.up
    rw [if_neg (by omega)] at this
    rw [if_pos (by omega)]; exact this
  zero := fun z hz => by
    rw [h.zero z hz]
    exact ⟨fun ⟨j, h1, h2, h3⟩ => ⟨j, by omega, h2, h3⟩, fun ⟨j, h1, h2, h3⟩ => ⟨j, by omega, h2, h3⟩⟩
theorem Bas.up_le {xs : Nat → Nat} {l i m : Nat} {p : Nat → Nat} (h : Bas xs l i m p) : Up p (m + 1) := h.up.mono (by split <;> omega)
theorem Bas.step {xs : Nat → Nat} {l i m : Nat} {p : Nat → Nat} (h : Bas xs l i m p) (hx : ∀ j, xs j < 256) (hm : m < l) (_hi : i < l) (hne : m ≠ i) : Bas xs l i (m + 1) (pm p (lin (xs m))) where
  by_ := pm_by h.by_ (lin_by (hx m))
  up := by
    refine (pm_up1 h.up (lin_up (xs m)) (by omega)).mono ?_
    by_cases e : i < m
    · rw [if_pos e, if_pos (by omega)]; omega
    · rw [if_neg e, if_neg (by omega)]; omega
  zero := fun z hz => by
    have hu : Up (pm p (lin (xs m))) (l + 1) := (pm_up1 h.up (lin_up (xs m)) (by omega)).mono (by split <;> omega)
    rw [pm_ev h.by_ (lin_by (hx m)) hz (h.up_le.mono (show m + 1 ≤ l + 1 by omega)) (lin_up _) hu, lin_ev (hx m) hz, mul_eq_zero (ev_lt h.by_ hz _) (xor_lt (hx m) hz), h.zero z hz]
    constructor
    · rintro (⟨j, h1, h2, h3⟩ | e)
      · exact ⟨j, by omega, h2, h3⟩
      · exact ⟨m, by omega, hne, xor_cancel e⟩
    · rintro ⟨j, h1, h2, h3⟩
      by_cases e : j = m
      · subst e; exact Or.inr (by rw [h3, Nat.xor_self])
      · exact Or.inl ⟨j, by omega, h2, h3⟩
/-- through the first k points, and 0 at the others. -/
structure Lag (xs ys : Nat → Nat) (l k : Nat) (S : Nat → Nat) : Prop where
  by_ : By S
  up : Up S l
  at_ : ∀ j, j < l → ev S (xs j) l = if j < k then ys j else 0
theorem Lag.start (xs ys : Nat → Nat) (l : Nat) : Lag xs ys l 0 (fun _ => 0) where
  by_ := fun _ => by show 0 < 256; omega
  up := fun _ _ => rfl
  at_ := fun j _ => by rw [if_neg (by omega)]; exact xsum_zero l fun i _ => zero_mul _
theorem Lag.step {xs ys : Nat → Nat} {l k : Nat} {S p : Nat → Nat} (h : Lag xs ys l k S) (hb : Bas xs l k l p) (hx : ∀ j, xs j < 256) (hy : ∀ j, ys j < 256) (hk : k < l) (hd : ∀ i j, i < j → j < l → xs i ≠ xs j) :
    Lag xs ys l (k + 1) (fun i => S i ^^^ pm p (sc (mul (ys k) (ivN (ev p (xs k) (l + 1))))) i) := by
  have e2 := ev_lt hb.by_ (hx k) (l + 1)
  have hnz : ev p (xs k) (l + 1) ≠ 0 := fun e => by
    obtain ⟨j, h1, h2, h3⟩ := (hb.zero (xs k) (hx k)).1 e
    rcases Nat.lt_or_ge j k with hl | hl
    · exact hd j k hl hk h3
    · exact hd k j (by omega) h1 h3.symm
  have hc := mul_lt (hy k) (ivN_lt (ev p (xs k) (l + 1)))
  have hiv := mul_iv (hy k) e2 hnz
  generalize mul (ys k) (ivN (ev p (xs k) (l + 1))) = c at *
  have hup : Up p l := by have := hb.up; rwa [if_pos hk] at this
  have hu : Up (pm p (sc c)) l := pm_up1 hup (sc_up c) (by omega)
  refine ⟨fun i => xor_lt (h.by_ i) (pm_by hb.by_ (sc_by hc) i), fun i hi => ?_, fun j hj => ?_⟩
  · show S i ^^^ pm p (sc c) i = 0
    rw [h.up i hi, hu i hi]; rfl
  · rw [ev_xor h.by_ (pm_by hb.by_ (sc_by hc)) (hx j), h.at_ j hj, pm_ev hb.by_ (sc_by hc) (hx j) (hup.mono (show l ≤ l + 1 by omega)) (sc_up c) hu, sc_ev hc]
    by_cases e : j = k
    · subst e
      rw [if_neg (by omega), if_pos (by omega), Nat.zero_xor, hiv]
    · rw [(hb.zero (xs j) (hx j)).2 ⟨j, hj, e, rfl⟩, zero_mul, Nat.xor_zero]
      by_cases e2 : j < k
      · rw [if_pos e2, if_pos (by omega)]
      · rw [if_neg e2, if_neg (by omega)]
end Go.Proofs.YtjlmajopfeplpaaGreat.Pf

namespace Go.Proofs.YtjlmajopfeplpaaGreat.Pf
open Gf
/-- all places, one behind the other. -/
def places (xs : Nat → Nat) (l : Nat) : List Nat := (List.range l).map xs
theorem places_len (xs : Nat → Nat) (l : Nat) : (places xs l).length = l := by simp [places]
theorem places_nodup {xs : Nat → Nat} : ∀ l, (∀ i j, i < j → j < l → xs i ≠ xs j) → (places xs l).Nodup
  | 0, _ => by simp [places]
  | l + 1, h => by
    unfold places
    rw [List.range_succ, List.map_append]
    refine List.nodup_append.2 ⟨places_nodup l (fun i j h1 h2 => h i j h1 (by omega)), by simp, ?_⟩
    intro a ha b hb
    obtain ⟨i, hi, rfl⟩ := List.mem_map.1 ha
    have hb : b = xs l := by simpa using hb
    rw [hb]
    exact h i l (List.mem_range.1 hi) (by omega)
theorem mem_places {xs : Nat → Nat} {l r : Nat} : r ∈ places xs l ↔ ∃ i, i < l ∧ xs i = r := by
  unfold places
  rw [List.mem_map]
  constructor
  · rintro ⟨i, hi, e⟩; exact ⟨i, List.mem_range.1 hi, e⟩
  · rintro ⟨i, hi, e⟩; exact ⟨i, List.mem_range.2 hi, e⟩
/-- through points there is one. -/
theorem same_through {xs p q : Nat → Nat} {l : Nat} (hx : ∀ i, xs i < 256) (hd : ∀ i j, i < j → j < l → xs i ≠ xs j) (hp : By p) (hq : By q) (hpu : Up p l) (hqu : Up q l) (h : ∀ i, i < l → ev p (xs i) l = ev q (xs i) l) : p = q :=
  funext fun i => through_uniq (rs := places xs l) hp hq (places_nodup l hd) (fun r hr => by obtain ⟨j, _, e⟩ := mem_places.1 hr; rw [← e]; exact hx j) (by rw [places_len]; exact hpu) (by rw [places_len]; exact hqu)
    (fun r hr => by obtain ⟨j, hj, e⟩ := mem_places.1 hr; rw [← e, places_len]; exact h j hj) i
theorem newt_lag {xs ys S N S' : Nat → Nat} {l : Nat} (hx : ∀ i, xs i < 256) (h : Newt xs ys l S N) (h' : Lag xs ys l l S') : S = S' :=
  same_through hx h.two h.sb h'.by_ h.su h'.up fun i hi => by rw [h.at_ i hi, h'.at_ i hi, if_pos hi]
/-- the coefficients of a list. -/
def lit (vs : List Nat) (i : Nat) : Nat := vs.getD i 0
theorem lit_by {vs : List Nat} (h : ∀ v ∈ vs, v < 256) : By (lit vs) := fun i => by
  unfold lit
  rcases Nat.lt_or_ge i vs.length with hi | hi
  · rw [show vs.getD i 0 = vs[i] by simp [hi]]; exact h _ (List.getElem_mem hi)
  · simp [hi]
theorem lit_up (vs : List Nat) : Up (lit vs) vs.length := fun i hi => by unfold lit; simp [hi]
theorem awake_value : ev (lit [1, 0, 3]) 2 3 = 13 := by decide +kernel
theorem awake_zero : lit [0, 1] 0 ≠ lit [0, 1] 1 := by decide
theorem awake_through {S N : Nat → Nat} (h : Newt (lit [0, 1]) (lit [5, 5]) 2 S N) : S = sc 5 := by
  refine same_through (fun i => lit_by (by decide) i) h.two h.sb (sc_by (by omega)) h.su ((sc_up 5).mono (by omega)) fun i hi => ?_
  rw [h.at_ i hi, ev_up _ (sc_up 5) (by omega), sc_ev (by omega)]
  rcases (show i = 0 ∨ i = 1 by omega) with rfl | rfl <;> rfl
end Go.Proofs.YtjlmajopfeplpaaGreat.Pf

namespace Go.Proofs.YtjlmajopfeplpaaGreat.Pf
open Gf

/-- the gaps of x to so many points, one left out. -/
def gp (P : Nat → Nat) (i x : Nat) : Nat → Nat
  | 0 => 1
  | k + 1 => if k = i then gp P i x k else mul (gp P i x k) (x ^^^ P k)
/-- the inverses of the gaps of a point to so many others. -/
def sg (P : Nat → Nat) (i : Nat) : Nat → Nat
  | 0 => 1
  | k + 1 => if k = i then sg P i k else mul (sg P i k) (ivN (P k ^^^ P i))
/-- the weights of x. -/
def lw (P : Nat → Nat) (n x i : Nat) : Nat := if i < n then mul (sg P i n) (gp P i x n) else 0
/-- the gaps of x to c points from lo on. -/
def sgm (P : Nat → Nat) (x lo : Nat) : Nat → Nat
  | 0 => 1
  | c + 1 => mul (sgm P x lo c) (x ^^^ P (lo + c))
/-- all unlike. -/
def Dst (P : Nat → Nat) (n : Nat) : Prop := ∀ i j, i < j → j < n → P i ≠ P j

section
variable {P : Nat → Nat} (hP : By P)
include hP
theorem gp_lt (i : Nat) {x : Nat} (hx : x < 256) : ∀ k, gp P i x k < 256
  | 0 => by show 1 < 256; omega
  | k + 1 => by
    unfold gp; split
    · exact gp_lt i hx k
    · exact mul_lt (gp_lt i hx k) (xor_lt hx (hP k))
omit hP in
theorem sg_lt (i : Nat) : ∀ k, sg P i k < 256
  | 0 => by show 1 < 256; omega
  | k + 1 => by
    unfold sg; split
    · exact sg_lt i k
    · exact mul_lt (sg_lt i k) (ivN_lt _)
theorem sgm_lt {x : Nat} (hx : x < 256) (lo : Nat) : ∀ c, sgm P x lo c < 256
  | 0 => by show 1 < 256; omega
  | c + 1 => mul_lt (sgm_lt hx lo c) (xor_lt hx (hP _))
theorem lw_by (n : Nat) {x : Nat} (hx : x < 256) : By (lw P n x) := fun i => by
  unfold lw; split
  · exact mul_lt (sg_lt i n) (gp_lt hP i hx n)
  · omega
omit hP in
theorem lw_up (n x : Nat) : Up (lw P n x) n := fun i hi => by unfold lw; rw [if_neg (by omega)]
theorem sgm_first {x : Nat} (hx : x < 256) (lo : Nat) : ∀ c, sgm P x lo (c + 1) = mul (sgm P x (lo + 1) c) (x ^^^ P lo)
  | 0 => rfl
  | c + 1 => by
    have h1 := sgm_lt hP hx (lo + 1) c
    have h2 := xor_lt hx (hP lo)
    have h3 := xor_lt hx (hP (lo + (c + 1)))
    show mul (sgm P x lo (c + 1)) (x ^^^ P (lo + (c + 1))) = mul (mul (sgm P x (lo + 1) c) (x ^^^ P (lo + 1 + c))) (x ^^^ P lo)
    rw [sgm_first hx lo c, show lo + 1 + c = lo + (c + 1) by omega, ← mul_assoc h1 h2 h3, ← mul_assoc h1 h3 h2, mul_comm h2 h3]
omit hP in
theorem gp_ahead (x i : Nat) : ∀ k, k ≤ i → gp P i x k = sgm P x 0 k
  | 0, _ => rfl
  | k + 1, h => by
    show (if k = i then gp P i x k else mul (gp P i x k) (x ^^^ P k)) = mul (sgm P x 0 k) (x ^^^ P (0 + k))
    rw [if_neg (by omega), gp_ahead x i k (by omega), Nat.zero_add]
theorem gp_behind {x : Nat} (hx : x < 256) (i : Nat) : ∀ t, gp P i x (i + 1 + t) = mul (sgm P x 0 i) (sgm P x (i + 1) t)
  | 0 => by
    show (if i = i then gp P i x i else _) = mul _ 1
    rw [if_pos rfl, gp_ahead x i i (Nat.le_refl _), mul_one' (sgm_lt hP hx 0 i)]
  | t + 1 => by
    show (if i + 1 + t = i then _ else mul (gp P i x (i + 1 + t)) (x ^^^ P (i + 1 + t))) = mul _ (mul _ _)
    rw [if_neg (by omega), gp_behind hx i t, mul_assoc (sgm_lt hP hx _ _) (sgm_lt hP hx _ _) (xor_lt hx (hP _))]
/-- a weight, as it is made: the scale, by what is ahead, by what is behind. -/
theorem lw_made {x n i : Nat} (hx : x < 256) (hi : i < n) : lw P n x i = mul (mul (sg P i n) (sgm P x 0 i)) (sgm P x (i + 1) (n - 1 - i)) := by
  unfold lw
  rw [if_pos hi]
  have := gp_behind hP hx i (n - 1 - i)
  rw [show i + 1 + (n - 1 - i) = n by omega] at this
  rw [this, mul_assoc (sg_lt i n) (sgm_lt hP hx _ _) (sgm_lt hP hx _ _)]

/-- a polynomial of the gaps. -/
def lp (P : Nat → Nat) (i : Nat) : Nat → Nat → Nat
  | 0 => sc 1
  | k + 1 => if k = i then lp P i k else pm (lp P i k) (lin (P k))
theorem lp_by (i : Nat) : ∀ k, By (lp P i k)
  | 0 => sc_by (by omega)
  | k + 1 => by
    unfold lp; split
    · exact lp_by i k
    · exact pm_by (lp_by i k) (lin_by (hP k))
omit hP in
theorem lp_up (i : Nat) : ∀ k, Up (lp P i k) (if i < k then k else k + 1)
  | 0 => by rw [if_neg (by omega)]; exact sc_up 1
  | k + 1 => by
    have h := lp_up i k
    show Up (if k = i then lp P i k else pm (lp P i k) (lin (P k))) _
    by_cases e : k = i
    · rw [if_pos e, if_pos (by omega)]; rwa [if_neg (by omega)] at h
    · rw [if_neg e]
      refine (pm_up1 h (lin_up (P k)) (by omega)).mono ?_
      by_cases e2 : i < k
      · rw [if_pos e2, if_pos (by omega)]; omega
      · rw [if_neg e2, if_neg (by omega)]; omega
omit hP in
theorem lp_up1 (i k : Nat) : Up (lp P i k) (k + 1) := (lp_up i k).mono (by split <;> omega)
theorem lp_ev {x : Nat} (hx : x < 256) (i : Nat) : ∀ k, ev (lp P i k) x (k + 1) = gp P i x k
  | 0 => sc_ev (by omega)
  | k + 1 => by
    have ih := lp_ev hx i k
    show ev (if k = i then lp P i k else pm (lp P i k) (lin (P k))) x (k + 1 + 1) = (if k = i then gp P i x k else mul (gp P i x k) (x ^^^ P k))
    by_cases e : k = i
    · rw [if_pos e, if_pos e, ev_up x (lp_up1 i k) (by omega), ih]
    · rw [if_neg e, if_neg e, pm_ev (lp_by hP i k) (lin_by (hP k)) hx (lp_up1 i k) (lin_up _) ((pm_up1 (lp_up1 i k) (lin_up (P k)) (by omega)).mono (by omega)), ih, lin_ev (hP k) hx, Nat.xor_comm]
/-- the polynomial of a weight. -/
def lbp (P : Nat → Nat) (n i : Nat) : Nat → Nat := fun c => mul (lp P i n c) (sg P i n)
theorem lbp_by (n i : Nat) : By (lbp P n i) := fun c => mul_lt (lp_by hP i n c) (sg_lt i n)
omit hP in
theorem lbp_up {n i : Nat} (hi : i < n) : Up (lbp P n i) n := fun c hc => by
  have := lp_up (P := P) i n
  rw [if_pos hi] at this
  unfold lbp; rw [this c hc, zero_mul]
omit hP in
theorem ev_scale {p : Nat → Nat} {s x : Nat} (hp : By p) (hs : s < 256) (hx : x < 256) (n : Nat) : ev (fun c => mul (p c) s) x n = mul (ev p x n) s := by
  unfold ev
  rw [xsum_mul hs n (fun i _ => mul_lt (hp i) (pn_lt hx i))]
  refine xsum_congr n fun i _ => ?_
  rw [← mul_assoc (hp i) hs (pn_lt hx i), ← mul_assoc (hp i) (pn_lt hx i) hs, mul_comm hs (pn_lt hx i)]
theorem lbp_ev {x n i : Nat} (hx : x < 256) (hi : i < n) : ev (lbp P n i) x n = lw P n x i := by
  unfold lbp lw
  rw [if_pos hi, ev_scale (lp_by hP i n) (sg_lt i n) hx, mul_comm (sg_lt i n) (gp_lt hP i hx n), ← lp_ev hP hx i n]
  have := lp_up (P := P) i n
  rw [if_pos hi] at this
  rw [ev_up (n := n + 1) x this (by omega)]
omit hP in
theorem gp_zero {x i j : Nat} (hne : j ≠ i) (e : P j = x) : ∀ k, j < k → gp P i x k = 0
  | 0, h => by omega
  | k + 1, h => by
    unfold gp
    by_cases ek : k = i
    · rw [if_pos ek]; exact gp_zero hne e k (by omega)
    · rw [if_neg ek]
      by_cases ej : j = k
      · rw [← ej, e, Nat.xor_self, mul_zero]
      · rw [gp_zero hne e k (by omega), zero_mul]
theorem sg_gp {i n : Nat} (hd : Dst P n) (hi : i < n) : ∀ k, k ≤ n → mul (sg P i k) (gp P i (P i) k) = 1
  | 0, _ => by show mul 1 1 = 1; decide
  | k + 1, h => by
    have ih := sg_gp hd hi k (by omega)
    unfold gp sg
    by_cases ek : k = i
    · rw [if_pos ek, if_pos ek]; exact ih
    · rw [if_neg ek, if_neg ek]
      have hne : P k ≠ P i := by
        rcases Nat.lt_or_ge k i with h1 | h1
        · exact hd k i h1 hi
        · exact fun e => hd i k (by omega) (by omega) e.symm
      have hg : P k ^^^ P i ≠ 0 := fun e => hne (xor_cancel e)
      have l1 := xor_lt (hP k) (hP i)
      have l2 := ivN_lt (P k ^^^ P i)
      have l3 := sg_lt (P := P) i k
      have l4 := gp_lt hP i (hP i) k
      have e1 : mul (ivN (P k ^^^ P i)) (P k ^^^ P i) = 1 := by
        unfold ivN; rw [if_neg hg]; exact mul_inv l1 hg
      rw [Nat.xor_comm (P i) (P k)]
      generalize P k ^^^ P i = d at *
      generalize ivN d = v at *
      rw [← mul_assoc l3 l2 (mul_lt l4 l1), mul_comm l4 l1, mul_assoc l2 l1 l4, e1, mul_one _ l4, ih]
theorem lw_at {i j n : Nat} (hd : Dst P n) (hi : i < n) (hj : j < n) : lw P n (P j) i = if i = j then 1 else 0 := by
  unfold lw
  rw [if_pos hi]
  by_cases e : i = j
  · rw [if_pos e, ← e, sg_gp hP hd hi n (Nat.le_refl _)]
  · rw [if_neg e, gp_zero (Ne.symm e) rfl n hj, mul_zero]
omit hP in
/-- a sum of polynomials, each by a byte. -/
theorem ev_sum {L : Nat → Nat → Nat} {v : Nat → Nat} {x n : Nat} (hL : ∀ i, By (L i)) (hv : By v) (hx : x < 256) : ∀ m, By (fun c => xsum (fun i => mul (L i c) (v i)) m) ∧ ev (fun c => xsum (fun i => mul (L i c) (v i)) m) x n = xsum (fun i => mul (ev (L i) x n) (v i)) m
  | 0 => ⟨fun _ => by show 0 < 256; omega, xsum_zero n fun i _ => zero_mul _⟩
  | m + 1 => by
    obtain ⟨h1, h2⟩ := ev_sum (n := n) hL hv hx m
    have h3 : By (fun c => mul (L m c) (v m)) := fun c => mul_lt (hL m c) (hv m)
    refine ⟨fun c => xor_lt (h1 c) (h3 c), ?_⟩
    show ev (fun c => xsum (fun i => mul (L i c) (v i)) m ^^^ mul (L m c) (v m)) x n = xsum (fun i => mul (ev (L i) x n) (v i)) m ^^^ mul (ev (L m) x n) (v m)
    rw [ev_xor h1 h3 hx, h2, ev_scale (hL m) (hv m) hx]
/-- a value is the sum of the weights by the values at the points. -/
theorem lagrange {p v : Nat → Nat} {n x : Nat} (hd : Dst P n) (hp : By p) (hu : Up p n) (hv : By v) (he : ∀ i, i < n → ev p (P i) n = v i) (hx : x < 256) : ev p x n = xsum (fun i => mul (lw P n x i) (v i)) n := by
  have H : ∀ z, z < 256 → By (fun c => xsum (fun i => mul (lbp P n i c) (v i)) n) ∧ ev (fun c => xsum (fun i => mul (lbp P n i c) (v i)) n) z n = xsum (fun i => mul (ev (lbp P n i) z n) (v i)) n := fun z hz => ev_sum (fun i => lbp_by hP n i) hv hz n
  have hq : p = fun c => xsum (fun i => mul (lbp P n i c) (v i)) n := by
    refine same_through (xs := P) (l := n) hP hd hp (H x hx).1 hu (fun c hc => xsum_zero n fun i hi => ?_) fun j hj => ?_
    · rw [lbp_up hi c hc, zero_mul]
    · rw [he j hj, (H _ (hP j)).2, xsum_one n hj (fun i hi hne => ?_)]
      · rw [lbp_ev hP (hP j) hj, lw_at hP hd hj hj, if_pos rfl, mul_one _ (hv j)]
      · rw [lbp_ev hP (hP j) hi, lw_at hP hd hi hj, if_neg hne, zero_mul]
  rw [hq, (H x hx).2]
  exact xsum_congr n fun i hi => by rw [lbp_ev hP hx hi]
end
theorem lag_val {P v S : Nat → Nat} {n x : Nat} (hP : By P) (hv : By v) (hd : Dst P n) (h : Lag P v n n S) (hx : x < 256) : ev S x n = xsum (fun i => mul (lw P n x i) (v i)) n :=
  lagrange hP hd h.by_ h.up hv (fun i hi => by rw [h.at_ i hi, if_pos hi]) hx
/-- the weights of one point. -/
def dlt (i k : Nat) : Nat := if k = i then 1 else 0
theorem dlt_by (i : Nat) : By (dlt i) := fun k => by unfold dlt; split <;> omega
theorem dlt_up {i n : Nat} (h : i < n) : Up (dlt i) n := fun k hk => by unfold dlt; rw [if_neg (by omega)]
theorem lw_dlt {P : Nat → Nat} (hP : By P) {n x i : Nat} (hx : x < 256) (hi : i < n) : xsum (fun k => mul (lw P n x k) (dlt i k)) n = lw P n x i := by
  rw [xsum_one n hi (fun k _ hne => by unfold dlt; rw [if_neg hne, mul_zero])]
  unfold dlt; rw [if_pos rfl, mul_one' (lw_by hP n hx i)]
theorem gp_congr {P P' : Nat → Nat} {i x : Nat} : ∀ k, (∀ j, j < k → P j = P' j) → gp P i x k = gp P' i x k
  | 0, _ => rfl
  | k + 1, h => by
    unfold gp; rw [gp_congr k (fun j hj => h j (by omega)), h k (by omega)]
theorem sg_congr {P P' : Nat → Nat} {i : Nat} (hi : P i = P' i) : ∀ k, (∀ j, j < k → P j = P' j) → sg P i k = sg P' i k
  | 0, _ => rfl
  | k + 1, h => by
    unfold sg; rw [sg_congr hi k (fun j hj => h j (by omega)), h k (by omega), hi]
theorem lw_congr {P P' : Nat → Nat} {n : Nat} (h : ∀ j, j < n → P j = P' j) (x : Nat) : lw P n x = lw P' n x := funext fun i => by
  unfold lw
  by_cases hi : i < n
  · rw [if_pos hi, if_pos hi, gp_congr n h, sg_congr (h i hi) n h]
  · rw [if_neg hi, if_neg hi]
end Go.Proofs.YtjlmajopfeplpaaGreat.Pf

namespace Go.Proofs.YtjlmajopfeplpaaGreat
open Go.RowKit

/-- the sum of the products at the first so many places. -/
def dotTo (xs ys : List Int) : Nat → Nat
  | 0 => 0
  | k + 1 => dotTo xs ys k ^^^ Gf.mul (xs.getD k 0).toNat (ys.getD k 0).toNat
theorem dotTo_lt {w w' : World} {a a' : Option Addr} {l c l' c' : Nat} {xs ys : List Int} (h : Has8 w a l c xs) (h' : Has8 w' a' l' c' ys) : ∀ k, k ≤ l → k ≤ l' → dotTo xs ys k < 256
  | 0, _, _ => by show 0 < 256; omega
  | k + 1, h1, h2 => by
    have b1 := h.byte k (by omega)
    have b2 := h'.byte k (by omega)
    exact Gf.xor_lt (dotTo_lt h h' k (by omega) (by omega)) (Gf.mul_lt (by omega) (by omega))

theorem Has8.some {w : World} {a : Option Addr} {l c k : Nat} {xs : List Int} (h : Has8 w a l c xs) (hk : k < l) : ∃ b off, a = some ⟨b, off, none⟩ ∧ w.cell? ⟨b, off + k, none⟩ = some (.int .u8 (xs.getD k 0)) := by
  cases a with
  | none => have := h.nil rfl; omega
  | some ad =>
    have hc := h.cell ad rfl k hk
    obtain ⟨b, off, spot⟩ := ad
    obtain rfl : spot = none := h.spot _ rfl (by omega)
    exact ⟨b, off, rfl, hc⟩
theorem Has8.drewN {w : World} {a : Option Addr} {l c : Nat} {xs : List Int} (h : Has8 w a l c xs) (q : Nat) : Has8 (w.drewN q) a l c xs :=
  ⟨h.lenOk, h.capOk, h.maxOk, h.byte, h.nil, h.spot, h.cell⟩

end Go.Proofs.YtjlmajopfeplpaaGreat
