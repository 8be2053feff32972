import Derived.Below
import Derived.Shelf.Abstract
import Derived.Test.YtmjbgfjjlgpieaaMg0
import Derived.Test.YtmjbgfjjlgpieaaMg1
namespace Go.Proofs.Ytmjbgfjjlgpieaa
open Go.RowKit Go.Shelf

/-- a slice of bytes that reads as f; nothing stands behind its end. -/
structure Sl (w : World) (a : Option Addr) (len cap : Nat) (f : Nat → Nat) : Prop where
  capOk : len ≤ cap
  maxOk : cap ≤ maxLen
  bytes : Pf.By f
  up : Pf.Up f len
  nil : a = none → len = 0 ∧ cap = 0
  spot : ∀ ad, a = some ad → len ≠ 0 → ad.spot = none
  cell : ∀ ad, a = some ad → ∀ i, i < len → w.cell? ⟨ad.block, ad.off + i, none⟩ = some (.int .u8 (f i : Nat))

theorem Sl.below {w w' : World} {B : Nat} {a : Option Addr} {len cap : Nat} {f : Nat → Nat} (h : Sl w a len cap f) (hB : Below B w w') (hb : ∀ ad, a = some ad → len ≠ 0 → ad.block < B) : Sl w' a len cap f :=
  ⟨h.capOk, h.maxOk, h.bytes, h.up, h.nil, h.spot, fun ad ha i hi => by rw [hB.cell (p := ⟨ad.block, ad.off + i, none⟩) (hb ad ha (by omega))]; exact h.cell ad ha i hi⟩
theorem Sl.same {w w' : World} {a : Option Addr} {len cap : Nat} {f : Nat → Nat} (h : Sl w a len cap f) (hB : Below w.heap.size w w') : Sl w' a len cap f :=
  ⟨h.capOk, h.maxOk, h.bytes, h.up, h.nil, h.spot, fun ad ha i hi => by
    have hc := h.cell ad ha i hi
    rw [hB.cell (World.block_lt_of_cell? _ _ hc)]; exact hc⟩
theorem Sl.drewN {w : World} {a : Option Addr} {len cap : Nat} {f : Nat → Nat} (h : Sl w a len cap f) (q : Nat) : Sl (w.drewN q) a len cap f :=
  ⟨h.capOk, h.maxOk, h.bytes, h.up, h.nil, h.spot, h.cell⟩
theorem Sl.at_ {w : World} {a : Option Addr} {len cap k : Nat} {f : Nat → Nat} (h : Sl w a len cap f) (hk : k < len) : ∃ b off, a = some ⟨b, off, none⟩ ∧ w.cell? ⟨b, off + k, none⟩ = some (.int .u8 (f k : Nat)) := by
  cases a with
  | none => have := h.nil rfl; omega
  | some ad =>
    have hc := h.cell ad rfl k hk
    obtain ⟨b, off, spot⟩ := ad
    obtain rfl : spot = none := h.spot _ rfl (by omega)
    exact ⟨b, off, rfl, hc⟩
theorem Sl.lt {w : World} {a : Option Addr} {len cap : Nat} {f : Nat → Nat} (h : Sl w a len cap f) : ∀ ad, a = some ad → len ≠ 0 → ad.block < w.heap.size := fun ad ha hl => by
  have := h.cell ad ha 0 (by omega)
  exact World.block_lt_of_cell? _ ⟨ad.block, ad.off + 0, none⟩ this
end Go.Proofs.Ytmjbgfjjlgpieaa
