import Derived.RegionTactic
import Derived.BigRegion
import Derived.Lib.QuietBelow
import Derived.Test.YtjlmajopfeplpaaMg12
import Derived.Test.YtjlmajopfeplpaaMg18
namespace Go.Proofs.Ytjlmajopfeplpaa
open Go.RowKit Go.Shelf

/-- where a slice of a slice lies. -/
def cutA (a : Option Addr) (l cap : Nat) : Option Addr := if cap = l then a else a.map (·.add l)
theorem elem8 : Try.prog.elem 27 = 5 := by kernel_rfl
theorem und8 : Try.prog.underlying 27 = some (.slice (Try.prog.elem 27)) := by kernel_rfl
theorem size8 (w : World) : (sizeOf (Try.prog.elem 27)).run Try.prog w = .ok 1 w := by rw [elem8]; kernel_rfl
theorem slice_lh (a : Option Addr) (n cap l h : Nat) (h1 : l ≤ h) (h2 : h ≤ cap) (W : World) :
    (Instr.slice 27 (.slice a n cap) (some (.int .i64 (l : Nat))) (some (.int .i64 (h : Nat))) none).run Try.prog W = .ok (.slice (cutA a l cap) (h - l) (cap - l)) W := by
  rw [run_slice_lh (P := Try.prog) W 27 a n cap und8 .i64 .i64 l h (by omega) (by omega) (by omega), size8]
  simp [Result.andThen, sliced, cutA]
theorem slice_h (a : Option Addr) (n cap h : Nat) (h2 : h ≤ cap) (W : World) :
    (Instr.slice 27 (.slice a n cap) none (some (.int .i64 (h : Nat))) none).run Try.prog W = .ok (.slice a h cap) W := by
  rw [run_slice_h (P := Try.prog) W 27 a n cap und8 .i64 h (by omega) (by omega), size8]
  cases a <;> simp [Result.andThen, sliced, Addr.add] 
theorem slice_l (a : Option Addr) (n cap l : Nat) (h1 : l ≤ n) (W : World) :
    (Instr.slice 27 (.slice a n cap) (some (.int .i64 (l : Nat))) none none).run Try.prog W = .ok (.slice (cutA a l cap) (n - l) (cap - l)) W := by
  rw [run_slice_l (P := Try.prog) W 27 a n cap und8 .i64 l (by omega) (by omega), size8]
  simp [Result.andThen, sliced, cutA]
theorem Lib.add_plain8 (b o i : Nat) : (⟨b, o, none⟩ : Addr).add i = ⟨b, o + i, none⟩ := by unfold Addr.add; split <;> simp_all
theorem sl_cutA {w : World} {a : Option Addr} {n cap : Nat} {f : Nat → Nat} (h : Sl w a n cap f) {l m : Nat} (hl : l + m ≤ n) : Sl w (cutA a l cap) m (cap - l) (sub f l m) := by
  unfold cutA
  have hc := h.capOk
  have hm := h.maxOk
  by_cases e : cap = l
  · obtain rfl : m = 0 := by omega
    rw [if_pos e, show sub f l 0 = fun _ => 0 from funext fun i => if_neg (by omega)]
    exact Sl.none_ w a _ (by omega) (fun _ => by omega)
  · rw [if_neg e]
    cases a with
    | none => have := h.nil rfl; omega
    | some ad =>
      by_cases h0 : m = 0
      · subst h0
        rw [show sub f l 0 = fun _ => 0 from funext fun i => if_neg (by omega)]
        exact Sl.none_ w _ _ (by omega) (fun e => by cases e)
      · obtain ⟨b, off, eb, _⟩ := h.at_ (k := 0) (by omega)
        cases eb
        have := h.sub (lo := l) (m := m) hl
        show Sl w (some ((⟨b, off, none⟩ : Addr).add l)) _ _ _
        rw [Lib.add_plain8]; exact this
theorem sl_cutH {w : World} {a : Option Addr} {n cap : Nat} {f : Nat → Nat} (h : Sl w a n cap f) {m : Nat} (hl : m ≤ n) : Sl w a m cap (sub f 0 m) := by
  have hc := h.capOk
  cases a with
  | none =>
    have := h.nil rfl
    obtain rfl : m = 0 := by omega
    rw [show sub f 0 0 = fun _ => 0 from funext fun i => if_neg (by omega)]
    exact Sl.none_ w _ _ h.maxOk (fun _ => this.2)
  | some ad =>
    by_cases h0 : m = 0
    · subst h0
      rw [show sub f 0 0 = fun _ => 0 from funext fun i => if_neg (by omega)]
      exact Sl.none_ w _ _ h.maxOk (fun e => by cases e)
    · obtain ⟨b, off, eb, _⟩ := h.at_ (k := 0) (by omega)
      cases eb
      have := h.sub (lo := 0) (m := m) (by omega)
      simpa using this
end Go.Proofs.Ytjlmajopfeplpaa

namespace Go.Proofs.Ytjlmajopfeplpaa
open Go.RowKit Go.Shelf

theorem of_one {w : World} {a : Option Addr} {n cap : Nat} {f : Nat → Nat} (h : Sl w a n cap f) (hn : n ≤ 1000000000000) (N : Nat) (hN : N = w.heap.size) :
    Calls Try.prog 60 #[.slice (some ⟨N, 0, none⟩) 1 1] (w.alloc (.cells #[.slice a n cap] 27)) fun e w' => e = .returned (.int .u32 (Crc.go 0 f n : Nat)) ∧ Below w.heap.size w w' :=
  (of_sum _ 1 1 _ _ _ _ (by omega) (fun _ _ => hn) _ (rd_at h hN)).mono fun e w' ⟨h1, h2⟩ => ⟨h1, ((Below.refl _ w).alloc (Nat.le_refl _) _).trans (h2.mono (by simp))⟩

/-- one of four. -/
def of4 {α : Type} (x y z u : α) (i : Nat) : α := if i = 0 then x else if i = 1 then y else if i = 2 then z else u
theorem rd_four {w : World} {a0 a1 a2 a3 : Option Addr} {n0 n1 n2 n3 c0 c1 c2 c3 N : Nat} {f0 f1 f2 f3 : Nat → Nat} (h0 : Sl w a0 n0 c0 f0) (h1 : Sl w a1 n1 c1 f1) (h2 : Sl w a2 n2 c2 f2) (h3 : Sl w a3 n3 c3 f3) (hN : N = w.heap.size) :
    Rd (w.alloc (.cells #[.slice a0 n0 c0, .slice a1 n1 c1, .slice a2 n2 c2, .slice a3 n3 c3] 27)) (some ⟨N, 0, none⟩) 4 4 (of4 a0 a1 a2 a3) (of4 n0 n1 n2 n3) (of4 c0 c1 c2 c3) (of4 f0 f1 f2 f3) := by
  subst hN
  refine ⟨Nat.le_refl _, by unfold maxLen; omega, fun i j => ?_, fun e => (by cases e), fun ad e _ => (by cases e; rfl), fun ad e i hi => ?_, fun i hi => ?_⟩
  · unfold of4; (repeat' split)
    · exact h0.bytes j
    · exact h1.bytes j
    · exact h2.bytes j
    · exact h3.bytes j
  · cases e
    show (w.alloc _).cell? ⟨w.heap.size, 0 + i, none⟩ = _
    rw [Nat.zero_add, World.cell?_alloc_new]
    match i, hi with
    | 0, _ => rfl | 1, _ => rfl | 2, _ => rfl | 3, _ => rfl
    | i + 4, hi => exact absurd hi (by omega)
  · refine Sl.same (w := w) ?_ ((Below.refl _ w).alloc (Nat.le_refl _) _)
    match i, hi with
    | 0, _ => exact h0
    | 1, _ => exact h1
    | 2, _ => exact h2
    | 3, _ => exact h3
    | i + 4, hi => exact absurd hi (by omega)
theorem crc_cut (f : Nat → Nat) (s lo n : Nat) (h : lo ≤ n) : Crc.go (Crc.go s (sub f 0 lo) lo) (sub f lo (n - lo)) (n - lo) = Crc.go s f n := by
  obtain ⟨d, rfl⟩ : ∃ d, n = lo + d := ⟨n - lo, by omega⟩
  rw [Nat.add_sub_cancel_left, Crc.go_add, Crc.go_congr (f := sub f 0 lo) (g := f) (fun i hi => by unfold sub; rw [if_pos hi, Nat.zero_add])]
  exact Crc.go_congr fun i hi => if_pos hi
theorem go_sub (f : Nat → Nat) (s lo d : Nat) (hi : Nat) (h : d ≤ hi) : Crc.go s (sub f lo hi) d = Crc.go s (fun i => f (lo + i)) d := Crc.go_congr fun i hi' => if_pos (by omega)
theorem rows_four (f g : Nat → Nat) (lo hi n : Nat) (h1 : lo ≤ hi) (h2 : hi ≤ n) :
    Crc.rows 0 (of4 lo (hi - lo) 0 (n - hi)) (of4 (sub f 0 lo) (sub f lo (hi - lo)) g (sub f hi (n - hi))) 4 = Crc.go 0 f n := by
  show Crc.go (Crc.go (Crc.go (Crc.go 0 (sub f 0 lo) lo) (sub f lo (hi - lo)) (hi - lo)) g 0) (sub f hi (n - hi)) (n - hi) = _
  rw [Crc.go_0, crc_cut f 0 lo hi h1]
  have e : Crc.go 0 f hi = Crc.go 0 (sub f 0 hi) hi := Crc.go_congr fun i hi' => by unfold sub; rw [if_pos hi', Nat.zero_add]
  rw [e, crc_cut f 0 hi n h2]
theorem of_cut {w : World} {a : Option Addr} {n cap : Nat} {f : Nat → Nat} (h : Sl w a n cap f) (lo hi : Nat) (h1 : lo ≤ hi) (h2 : hi ≤ n) (hn : n ≤ 1000000000000) (N : Nat) (hN : N = w.heap.size) :
    Calls Try.prog 60 #[.slice (some ⟨N, 0, none⟩) 4 4] (w.alloc (.cells #[.slice a lo cap, .slice (cutA a lo cap) (hi - lo) (cap - lo), .slice none 0 0, .slice (cutA a hi cap) (n - hi) (cap - hi)] 27)) fun e w' => e = .returned (.int .u32 (Crc.go 0 f n : Nat)) ∧ Below w.heap.size w w' :=
  (of_sum _ 4 4 _ _ _ _ (by omega) (fun i _ => by unfold of4; (repeat' split) <;> omega) _ (rd_four (sl_cutH h (by omega)) (sl_cutA h (by omega)) (Sl.none_ w none 0 (by unfold maxLen; omega) (fun _ => rfl)) (sl_cutA h (by omega)) hN)).mono
    fun e w' ⟨g1, g2⟩ => ⟨by rw [g1, rows_four f _ lo hi n h1 h2], ((Below.refl _ w).alloc (Nat.le_refl _) _).trans (g2.mono (by simp))⟩
end Go.Proofs.Ytjlmajopfeplpaa
