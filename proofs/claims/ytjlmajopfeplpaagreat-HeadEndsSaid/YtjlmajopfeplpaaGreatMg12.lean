import Derived.RangeFuncNested
import Derived.RangeFuncBox
import Derived.RangeFuncBound
import Derived.RangeFuncCalls
import Derived.RangeFuncLeaves
import Derived.Shelf.Abstract
import Derived.OwnWalkIn
import Derived.TacticsInMore
import Derived.LoopNIn
import Derived.LoopIn
import Derived.Test.YtjlmajopfeplpaaGreatMg2
import Derived.Test.YtjlmajopfeplpaaGreatMg6
namespace Go.Proofs.YtjlmajopfeplpaaGreat
open Go.RowKit Go.Shelf
attribute [local go_sem] Oper.semAt_some

/-- one of those that come from the end: its place, and what stands there. -/
structure It (len : Nat) (ok : Nat → Nat → Prop) where
  i : Nat
  v : Nat
  hi : i < len
  hv : v < 256
  hok : ok i v
def It.enc {len : Nat} {ok : Nat → Nat → Prop} (x : It len ok) : Array Value := #[.int .i64 (x.i : Nat), .int .u8 (x.v : Nat)]
/-- k places, from the end. -/
def dnl (len k : Nat) : List Nat := (List.range k).map fun j => len - 1 - j
theorem dnl_succ {len m : Nat} (h : m < len) : dnl len (len - m) = dnl len (len - (m + 1)) ++ [m] := by
  unfold dnl
  rw [show len - m = (len - (m + 1)) + 1 by omega, List.range_succ, List.map_append]
  congr 1
  simp
  omega
theorem dnl_len (len k : Nat) : (dnl len k).length = k := by simp [dnl]

/-- what is read from the end: the slice in its box, and bytes in it. -/
def Good (Bs : Nat) (a : Option Addr) (len cap : Nat) (ok : Nat → Nat → Prop) (W : World) : Prop :=
  W.cell? ⟨Bs, 0, none⟩ = some (.slice a len cap) ∧ ∀ i, i < len → ∃ b off v, a = Option.some ⟨b, off, none⟩ ∧ v < 256 ∧ ok i v ∧ W.cell? ⟨b, off + i, none⟩ = some (.int .u8 (v : Nat))
def KpG (Bs : Nat) (a : Option Addr) (len cap : Nat) (ok : Nat → Nat → Prop) (W W' : World) : Prop := Good Bs a len cap ok W → Good Bs a len cap ok W'
theorem kpG_t {Bs : Nat} {a : Option Addr} {len cap : Nat} {ok : Nat → Nat → Prop} {A B C : World} (h : KpG Bs a len cap ok A B) (k : KpG Bs a len cap ok B C) : KpG Bs a len cap ok A C := fun g => k (h g)
theorem cell_putObj {W : World} {l : Nat} {o o' : Obj} (h : W.heap[l]? = some o) (hc : o.isCells = false) {p : Addr} {v : Value} (hp : W.cell? p = some v) : (W.putObj l o').cell? p = some v :=
  cell_kept hp (grownBy_putObj' W l o') (fun r e => by cases e; exact ⟨o, h, hc⟩)
theorem Good.putObj {Bs : Nat} {a : Option Addr} {len cap : Nat} {ok : Nat → Nat → Prop} {W : World} (g : Good Bs a len cap ok W) {l : Nat} {o : Obj} (o' : Obj) (h : W.heap[l]? = some o) (hc : o.isCells = false) : Good Bs a len cap ok (W.putObj l o') :=
  ⟨cell_putObj h hc g.1, fun i hi => by
    obtain ⟨b, off, v, h1, h2, h3, h4⟩ := g.2 i hi
    exact ⟨b, off, v, h1, h2, h3, cell_putObj h hc h4⟩⟩
theorem kpG_b {Bs : Nat} {a : Option Addr} {len cap : Nat} {ok : Nat → Nat → Prop} {w : World} (W : World) (l : Nat) (o o' : Obj) (_ : w.heap.size ≤ l) (h : W.heap[l]? = some o) (hc : o.isCells = false) (_ : o.isWalk = false) : KpG Bs a len cap ok W (W.putObj l o') :=
  fun g => g.putObj o' h hc
theorem Good.own {β : Type} (Bs : Nat) (a : Option Addr) (len cap : Nat) (ok : Nat → Nat → Prop) : Own (fun (_ : β) W => Good Bs a len cap ok W) := fun _ A B row g hg hr =>
  ⟨cell_kept g.1 hg hr, fun i hi => by
    obtain ⟨b, off, v, h1, h2, h3, h4⟩ := g.2 i hi
    exact ⟨b, off, v, h1, h2, h3, cell_kept h4 hg hr⟩⟩
theorem Good.of_sl {w : World} {a : Option Addr} {len cap : Nat} {f : Nat → Nat} (h : Sl w a len cap f) {Bs : Nat} (hb : w.cell? ⟨Bs, 0, none⟩ = some (.slice a len cap)) : Good Bs a len cap (fun i v => v = f i) w :=
  ⟨hb, fun i hi => by
    obtain ⟨b, off, e, hc⟩ := h.at_ hi
    exact ⟨b, off, f i, e, h.bytes i, rfl, hc⟩⟩

end Go.Proofs.YtjlmajopfeplpaaGreat

namespace Go.Proofs.YtjlmajopfeplpaaGreat
open Go.RowKit Go.Shelf
attribute [local go_sem] Oper.semAt_some

/-- the lean part of a slice: nil where there is none. -/
def tA (a : Option Addr) (n : Nat) : Option Addr := if n = 0 then none else a
def tC (cap n : Nat) : Nat := if n = 0 then 0 else cap

theorem ln_of {f : Nat → Nat} {len n : Nat} (hu : Pf.Up f len) (h1 : ∀ i, n ≤ i → i < len → f i = 0) (h2 : n = 0 ∨ f (n - 1) ≠ 0) : Pf.ln f len = n := by
  refine Pf.Ln.uniq (Pf.ln_Ln len hu) ⟨fun i hi => ?_, h2⟩
  rcases Nat.lt_or_ge i len with h | h
  · exact h1 i hi h
  · exact hu i h
theorem mem_dnl {len k i : Nat} (hk : k ≤ len) : i ∈ dnl len k ↔ len - k ≤ i ∧ i < len := by
  unfold dnl
  rw [List.mem_map]
  constructor
  · rintro ⟨j, hj, rfl⟩
    have := List.mem_range.1 hj
    omega
  · intro h
    exact ⟨len - 1 - i, List.mem_range.2 (by omega), by omega⟩
theorem dnl_last {len k : Nat} (_hk : k < len) : dnl len (k + 1) = dnl len k ++ [len - 1 - k] := by
  unfold dnl
  rw [List.range_succ, List.map_append]; rfl

theorem Sl.trim {w : World} {a : Option Addr} {len cap : Nat} {f : Nat → Nat} (h : Sl w a len cap f) : Sl w (tA a (Pf.ln f len)) (Pf.ln f len) (tC cap (Pf.ln f len)) f := by
  have hl := Pf.ln_le f len
  have hL := Pf.ln_Ln len h.up
  unfold tA tC
  by_cases e : Pf.ln f len = 0
  · rw [if_pos e, if_pos e]
    exact ⟨by omega, by unfold maxLen; omega, h.bytes, hL.1, fun _ => ⟨e, rfl⟩, fun ad ha => (by cases ha), fun ad ha => (by cases ha)⟩
  · rw [if_neg e, if_neg e]
    exact ⟨Nat.le_trans hl h.capOk, h.maxOk, h.bytes, hL.1, fun ha => (by have := h.nil ha; omega), fun ad ha _ => h.spot ad ha (by omega), fun ad ha i hi => h.cell ad ha i (by omega)⟩

end Go.Proofs.YtjlmajopfeplpaaGreat

namespace Go.Proofs.YtjlmajopfeplpaaGreat
open Go.RowKit Go.Shelf

theorem Ow.trim {w : World} {B : Nat} {a : Option Addr} {cap : Nat} (h : Ow w B a cap) (n : Nat) : Ow w B (tA a n) (tC cap n) := by
  unfold tA tC
  by_cases e : n = 0
  · rw [if_pos e, if_pos e]; exact Or.inl ⟨rfl, rfl⟩
  · rw [if_neg e, if_neg e]; exact h
theorem Nw.trim {w : World} {B : Nat} {a : Option Addr} {len cap : Nat} {f : Nat → Nat} (h : Nw w B a len cap f) : Nw w B (tA a (Pf.ln f len)) (Pf.ln f len) (tC cap (Pf.ln f len)) f := ⟨h.sl.trim, h.ow.trim _⟩
end Go.Proofs.YtjlmajopfeplpaaGreat
