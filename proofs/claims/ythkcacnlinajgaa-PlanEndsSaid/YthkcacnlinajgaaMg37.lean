import Derived.RegionTactic
import Derived.BigRegion
import Derived.Lib.QuietBelow
import Derived.Test.YthkcacnlinajgaaMg14
import Derived.Test.YthkcacnlinajgaaMg36
namespace Go.Proofs.Ythkcacnlinajgaa
open Go.RowKit Go.Shelf

/-- where a slice of a slice lies. -/
def cutA (a : Option Addr) (l cap : Nat) : Option Addr := if cap = l then a else a.map (·.add l)
theorem elem8 : Try.prog.elem 139 = 5 := by kernel_rfl
theorem und8 : Try.prog.underlying 139 = some (.slice (Try.prog.elem 139)) := by kernel_rfl
theorem size8 (w : World) : (sizeOf (Try.prog.elem 139)).run Try.prog w = .ok 1 w := by rw [elem8]; kernel_rfl
theorem slice_lh (a : Option Addr) (n cap l h : Nat) (h1 : l ≤ h) (h2 : h ≤ cap) (W : World) :
    (Instr.slice 139 (.slice a n cap) (some (.int .i64 (l : Nat))) (some (.int .i64 (h : Nat))) none).run Try.prog W = .ok (.slice (cutA a l cap) (h - l) (cap - l)) W := by
  rw [run_slice_lh (P := Try.prog) W 139 a n cap und8 .i64 .i64 l h (by omega) (by omega) (by omega), size8]
  simp [Result.andThen, sliced, cutA]
theorem slice_h (a : Option Addr) (n cap h : Nat) (h2 : h ≤ cap) (W : World) :
    (Instr.slice 139 (.slice a n cap) none (some (.int .i64 (h : Nat))) none).run Try.prog W = .ok (.slice a h cap) W := by
  rw [run_slice_h (P := Try.prog) W 139 a n cap und8 .i64 h (by omega) (by omega), size8]
  cases a <;> simp [Result.andThen, sliced, Addr.add] 
theorem slice_l (a : Option Addr) (n cap l : Nat) (h1 : l ≤ n) (W : World) :
    (Instr.slice 139 (.slice a n cap) (some (.int .i64 (l : Nat))) none none).run Try.prog W = .ok (.slice (cutA a l cap) (n - l) (cap - l)) W := by
  rw [run_slice_l (P := Try.prog) W 139 a n cap und8 .i64 l (by omega) (by omega), size8]
  simp [Result.andThen, sliced, cutA]
theorem Lib.add_plain8 (b o i : Nat) : (⟨b, o, none⟩ : Addr).add i = ⟨b, o + i, none⟩ := by unfold Addr.add; split <;> simp_all
theorem sl_cutA {w : World} {a : Option Addr} {n cap : Nat} {f : Nat → Nat} (h : Sl w a n cap f) {l m : Nat} (hl : l + m ≤ n) : Sl w (cutA a l cap) m (cap - l) (sub f l m) := by
  unfold cutA
  have hc := h.capOk
  have hm := h.maxOk
  by_cases e : cap = l
  · obtain rfl : m = 0 := by omega
    rw [if_pos e, show sub f l 0 = fun _ => 0 from funext fun i => if_neg (by omega)]
    exact Sl.none_ w a _ (by omega) (fun _ => by omega)
  · rw [if_neg e]
    cases a with
    | none => have := h.nil rfl; omega
    | some ad =>
      by_cases h0 : m = 0
      · subst h0
        rw [show sub f l 0 = fun _ => 0 from funext fun i => if_neg (by omega)]
        exact Sl.none_ w _ _ (by omega) (fun e => by cases e)
      · obtain ⟨b, off, eb, _⟩ := h.at_ (k := 0) (by omega)
        cases eb
        have := h.sub (lo := l) (m := m) hl
        show Sl w (some ((⟨b, off, none⟩ : Addr).add l)) _ _ _
        rw [Lib.add_plain8]; exact this
theorem sl_cutH {w : World} {a : Option Addr} {n cap : Nat} {f : Nat → Nat} (h : Sl w a n cap f) {m : Nat} (hl : m ≤ n) : Sl w a m cap (sub f 0 m) := by
  have hc := h.capOk
  cases a with
  | none =>
    have := h.nil rfl
    obtain rfl : m = 0 := by omega
    rw [show sub f 0 0 = fun _ => 0 from funext fun i => if_neg (by omega)]
    exact Sl.none_ w _ _ h.maxOk (fun _ => this.2)
  | some ad =>
    by_cases h0 : m = 0
    · subst h0
      rw [show sub f 0 0 = fun _ => 0 from funext fun i => if_neg (by omega)]
      exact Sl.none_ w _ _ h.maxOk (fun e => by cases e)
    · obtain ⟨b, off, eb, _⟩ := h.at_ (k := 0) (by omega)
      cases eb
      have := h.sub (lo := 0) (m := m) (by omega)
      simpa using this
end Go.Proofs.Ythkcacnlinajgaa
