import Derived.Test.YtdempjkkahjekaaBk
namespace Go.Proofs.Ytdempjkkahjekaa
open Go.RowKit Go.Shelf
attribute [local go_sem] Oper.semAt_some

/-- the lean part of a slice: nil where there is none. -/
def tA (a : Option Addr) (n : Nat) : Option Addr := if n = 0 then none else a
def tC (cap n : Nat) : Nat := if n = 0 then 0 else cap

theorem ln_of {f : Nat → Nat} {len n : Nat} (hu : Pf.Up f len) (h1 : ∀ i, n ≤ i → i < len → f i = 0) (h2 : n = 0 ∨ f (n - 1) ≠ 0) : Pf.ln f len = n := by
  refine Pf.Ln.uniq (Pf.ln_Ln len hu) ⟨fun i hi => ?_, h2⟩
  rcases Nat.lt_or_ge i len with h | h
  · exact h1 i hi h
  · exact hu i h
theorem mem_dnl {len k i : Nat} (hk : k ≤ len) : i ∈ dnl len k ↔ len - k ≤ i ∧ i < len := by
  unfold dnl
  rw [List.mem_map]
  constructor
  · rintro ⟨j, hj, rfl⟩
    have := List.mem_range.1 hj
    omega
  · intro h
    exact ⟨len - 1 - i, List.mem_range.2 (by omega), by omega⟩
theorem dnl_last {len k : Nat} (_hk : k < len) : dnl len (k + 1) = dnl len k ++ [len - 1 - k] := by
  unfold dnl
  rw [List.range_succ, List.map_append]; rfl

theorem Sl.trim {w : World} {a : Option Addr} {len cap : Nat} {f : Nat → Nat} (h : Sl w a len cap f) : Sl w (tA a (Pf.ln f len)) (Pf.ln f len) (tC cap (Pf.ln f len)) f := by
  have hl := Pf.ln_le f len
  have hL := Pf.ln_Ln len h.up
  unfold tA tC
  by_cases e : Pf.ln f len = 0
  · rw [if_pos e, if_pos e]
    exact ⟨by omega, by unfold maxLen; omega, h.bytes, hL.1, fun _ => ⟨e, rfl⟩, fun ad ha => (by cases ha), fun ad ha => (by cases ha)⟩
  · rw [if_neg e, if_neg e]
    exact ⟨Nat.le_trans hl h.capOk, h.maxOk, h.bytes, hL.1, fun ha => (by have := h.nil ha; omega), fun ad ha _ => h.spot ad ha (by omega), fun ad ha i hi => h.cell ad ha i (by omega)⟩

end Go.Proofs.Ytdempjkkahjekaa
