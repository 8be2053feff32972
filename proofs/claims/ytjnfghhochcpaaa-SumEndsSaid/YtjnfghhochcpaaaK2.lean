import Derived.Test.YtjnfghhochcpaaaMb
import Derived.Test.YtjnfghhochcpaaaKt
import Derived.Test.YtjnfghhochcpaaaFy
namespace Go.Proofs.Ytjnfghhochcpaaa
open Go.RowKit Go.Shelf

/-- so many coefficients, as numbers. -/
def ints (f : Nat → Nat) (n : Nat) : List Int := (List.range n).map fun i => ((f i : Nat) : Int)
theorem ints_len (f : Nat → Nat) (n : Nat) : (ints f n).length = n := by simp [ints]
theorem ints_get {f : Nat → Nat} {n i : Nat} (h : i < n) : (ints f n).getD i 0 = ((f i : Nat) : Int) := by simp [ints, h]
theorem Sl.has8 {w : World} {a : Option Addr} {len cap : Nat} {f : Nat → Nat} (h : Sl w a len cap f) : Has8 w a len cap (ints f len) where
  lenOk := ints_len f len
  capOk := h.capOk
  maxOk := h.maxOk
  byte := fun i hi => by rw [ints_get hi]; have := h.bytes i; omega
  nil := h.nil
  spot := h.spot
  cell := fun ad ha i hi => by rw [ints_get hi]; exact h.cell ad ha i hi
/-- the coefficients of what came in. -/
def coef (xs : List Int) (n i : Nat) : Nat := if i < n then (xs.getD i 0).toNat else 0
theorem Has8.sl {w : World} {a : Option Addr} {len cap : Nat} {xs : List Int} (h : Has8 w a len cap xs) : Sl w a len cap (coef xs len) where
  capOk := h.capOk
  maxOk := h.maxOk
  bytes := fun i => by
    unfold coef; split
    · rename_i hi; have := h.byte i hi; omega
    · omega
  up := fun i hi => by unfold coef; rw [if_neg (by omega)]
  nil := h.nil
  spot := h.spot
  cell := fun ad ha i hi => by
    have := h.byte i hi
    rw [h.cell ad ha i hi]
    unfold coef; rw [if_pos hi, Int.toNat_of_nonneg this.1]

theorem Block.ow {w : World} {g B : Nat} {vs : List Value} (h : Block w g vs 5) (hg : B ≤ g) : Ow w B (some ⟨g, 0, none⟩) vs.length :=
  Or.inr ⟨g, vs.toArray, rfl, hg, h, by simp⟩
theorem lentC_len (xs : List Int) (n : Nat) : (lentC xs n).length = xs.length + n := by simp [lentC, marks]
theorem Block.nw {w : World} {g B len : Nat} {f : Nat → Nat} (h : Block w g (lentC (ints f len) 12) 5) (hg : B ≤ g) (hb : Pf.By f) (hu : Pf.Up f len) (hl : len ≤ 1000000000000) : Nw w B (some ⟨g, 0, none⟩) len (len + 12) f where
  sl := ⟨by omega, by unfold maxLen; omega, hb, hu, fun e => (by cases e), fun ad e _ => (by cases e; rfl), fun ad e i hi => by
    cases e
    rw [show (⟨g, 0, none⟩ : Addr).off = 0 from rfl, Nat.zero_add, h.cell (lentC_lo (n := 12) (by rw [ints_len]; exact hi)), ints_get hi]⟩
  ow := by
    have := h.ow hg
    rwa [lentC_len, ints_len] at this

theorem lentS_any (a : Option Addr) (len cap : Nat) (f : Nat → Nat) (w : World) (h : Sl w a len cap f) (hl : len ≤ 1000000000000) :
    Calls Try.prog 10 #[.slice a len cap] w fun e w' =>
      e = .returned (.slice (some ⟨w.heap.size, 0, none⟩) len (len + 12)) ∧ Block w' w.heap.size (lentC (ints f len) 12) 5 ∧ Below w.heap.size w w' :=
  lent_any a len cap (ints f len) w h.has8 hl
theorem keptS_any (g : Nat) (a : Option Addr) (len cap : Nat) (f : Nat → Nat) (w : World) (h : Sl w a len cap f) (hg : Block w g (lentC (ints f len) 12) 5) (hl : len ≤ 1000000000000) :
    Calls Try.prog 21 #[.slice (some ⟨g, 0, none⟩) len (len + 12), .slice a len cap] w fun e w' => e = .returned (.bool true) ∧ ∃ q, w' = w.drewN q :=
  kept_any g a len cap (ints f len) w h.has8 hg hl

set_option maxHeartbeats 1000000 in
set_option maxRecDepth 100000 in
/-- two slices that read alike. -/
theorem same_any (a a' : Option Addr) (l c c' : Nat) (f : Nat → Nat) (hl : l ≤ 1000000000000) (w : World) (h1 : Sl w a l c f) (h2 : Sl w a' l c' f) :
    Calls Try.prog 18 #[.slice a l c, .slice a' l c'] w fun e w' => e = .returned (.bool true) ∧ ∃ q, w' = w.drewN q := by
  have H1 := Lib.hid h1; have H2 := Lib.hid h2; clear h1 h2
  have g1 : ((l : Int) != (l : Int)) = false := by simp
  go_enter Try.func18, Try.ntmps18
  go_wp2_with fail
  clear g1
  go_loopw [5] (fun i wr => ∃ k : Nat, k ≤ l ∧ i = .int .i64 k ∧ ∃ q, wr = w.drewN q) (fun i _ => l - (intOf i).toNat)
  case atStart => exact ⟨0, by omega, rfl, 0, rfl⟩
  case round =>
    obtain ⟨k, hk, rfl, q, rfl⟩ := hrel
    by_cases hlt : k < l
    · obtain ⟨b1, o1, e1, c1⟩ := H1.out.at_ hlt
      obtain ⟨b2, o2, e2, c2⟩ := H2.out.at_ hlt
      have E1 := Lib.hid (show a = some ⟨b1, o1, none⟩ from e1)
      have E2 := Lib.hid (show a' = some ⟨b2, o2, none⟩ from e2)
      subst e1 e2
      have i1 : (k : Int) < (l : Int) := by omega
      have g2 : (((f k : Nat) : Int) != ((f k : Nat) : Int)) = false := by simp
      go_wp2_with fail
      go_quiet (fail)
      go_wp2
      go_roundw
      case rel => exact ⟨k + 1, by omega, by go_num, q + nq, rfl⟩
      case measure => simp [intOf]; omega
    · obtain rfl : k = l := by omega
      have i1 : ¬ (k : Int) < (k : Int) := by omega
      go_wp2
      go_ret
      exact ⟨rfl, q, rfl⟩
/-- a slice of bytes that came in, as it is opened. -/
theorem has8_row {w : World} {a : Option Addr} {len cap : Nat} {zs : List Int}
    (h : (a = none ∧ len = 0 ∧ cap = 0 ∧ zs = []) ∨
      ∃ x, a = some x ∧ len ≤ cap ∧ cap ≤ maxLen ∧ zs.length = cap ∧ (∀ i, i < zs.length → w.cell? (x.add i) = some (.int .u8 (zs.getD i 0))) ∧ ∀ n ∈ zs, (Lit.int .u8 n).wf = true) : Has8 w a len cap (zs.take len) := by
  rcases h with ⟨rfl, rfl, rfl, rfl⟩ | ⟨x, rfl, hl, hm, hz, hc, hw⟩
  · exact ⟨rfl, by omega, by omega, (fun i hi => by omega), (fun _ => ⟨rfl, rfl⟩), (fun _ h => by cases h), (fun _ h => by cases h)⟩
  · refine ⟨by simp; omega, hl, hm, (fun i hi => ?_), (fun h => by cases h), (fun ad ha hne => ?_), (fun ad ha i hi => ?_)⟩
    · have e : (zs.take len).getD i 0 = zs[i]'(by omega) := by simp [hi, show i < zs.length by omega]
      rw [e]
      have := bounds_u8 (hw _ (List.getElem_mem (show i < zs.length by omega)))
      omega
    · cases ha
      have := hc 0 (by omega)
      rw [Addr.add_zero'] at this
      simpa using World.cell?_spot this
    · cases ha
      have h0 := hc 0 (by omega)
      rw [Addr.add_zero'] at h0
      have hs : x.spot = none := by simpa using World.cell?_spot h0
      have hci := hc i (by omega)
      obtain ⟨b, off, spot⟩ := x
      simp only at hs; subst hs
      rw [Addr.add_lit] at hci
      rw [hci]
      simp [hi, show i < zs.length by omega]

/-- a slice of bytes that came in. -/
theorem sl_row {w : World} {a : Option Addr} {len cap : Nat} {zs : List Int}
    (h : (a = none ∧ len = 0 ∧ cap = 0 ∧ zs = []) ∨
      ∃ x, a = some x ∧ len ≤ cap ∧ cap ≤ maxLen ∧ zs.length = cap ∧ (∀ i, i < zs.length → w.cell? (x.add i) = some (.int .u8 (zs.getD i 0))) ∧ ∀ n ∈ zs, (Lit.int .u8 n).wf = true) : Sl w a len cap (coef (zs.take len) len) := (has8_row h).sl
end Go.Proofs.Ytjnfghhochcpaaa
