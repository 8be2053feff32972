import Derived.StillTailTactics
import Derived.Outline
import Derived.Test.YtjlmajopfeplpaaGreatMg12
namespace Go.Proofs.YtjlmajopfeplpaaGreat
open Go.RowKit Go.Shelf

end Go.Proofs.YtjlmajopfeplpaaGreat

namespace Go.Proofs.YtjlmajopfeplpaaGreat
open Go.RowKit Go.Shelf

theorem Nw.of_bl {w : World} {B g len cap : Nat} {f : Nat → Nat} (hb : Bl w g len cap f) (h1 : len ≤ cap) (h2 : cap ≤ maxLen) (h3 : Pf.By f) (h4 : Pf.Up f len) (hg : B ≤ g) : Nw w B (some ⟨g, 0, none⟩) len cap f := ⟨hb.sl h1 h2 h3 h4, hb.ow hg⟩

/-- a slice with places to read. -/
theorem Nw.cells {w : World} {B : Nat} {a : Option Addr} {len cap : Nat} {f : Nat → Nat} (h : Nw w B a len cap f) (hl : 0 < len) : ∃ g, a = some ⟨g, 0, none⟩ ∧ B ≤ g ∧ Bl w g len cap f := by
  rcases h.cond with ⟨_, e, _⟩ | h
  · omega
  · exact h

end Go.Proofs.YtjlmajopfeplpaaGreat

namespace Go.Proofs.YtjlmajopfeplpaaGreat
open Go.RowKit Go.Shelf

end Go.Proofs.YtjlmajopfeplpaaGreat

namespace Go.Proofs.YtjlmajopfeplpaaGreat
open Go.RowKit Go.Shelf
attribute [local go_sem] Oper.semAt_some

theorem keeps_drewN (W : World) (q : Nat) : KeepsOthers W (W.drewN q) := ⟨Nat.le_refl _, fun _ _ h _ => h⟩
theorem World.drewN_cell? (W : World) (q : Nat) (p : Addr) : (W.drewN q).cell? p = W.cell? p := rfl
theorem Good.drewN {Bs : Nat} {a : Option Addr} {len cap : Nat} {ok : Nat → Nat → Prop} {W : World} (g : Good Bs a len cap ok W) (q : Nat) : Good Bs a len cap ok (W.drewN q) := g
theorem Good.set {Bs : Nat} {a : Option Addr} {len cap : Nat} {ok : Nat → Nat → Prop} {W : World} (g : Good Bs a len cap ok W) {p : Addr} (h1 : p.block ≠ Bs) (h2 : ∀ ad, a = some ad → len ≠ 0 → ad.block ≠ p.block) (u : Value) : Good Bs a len cap ok (W.setCell p u) :=
  ⟨by rw [World.cell?_setCell_other _ _ _ _ (by intro hh; cases hh; exact h1 rfl)]; exact g.1, fun i hi => by
    obtain ⟨b, off, v, e1, e2, e3, e4⟩ := g.2 i hi
    refine ⟨b, off, v, e1, e2, e3, ?_⟩
    rw [World.cell?_setCell_other _ _ _ _ (by intro hh; cases hh; exact h2 _ e1 (by omega) rfl)]; exact e4⟩
/-- the value as it grows from the end. -/
def hvl {len : Nat} {ok : Nat → Nat → Prop} (x : Nat) (pre : List (It len ok)) : Nat := pre.foldl (fun v y => Gf.mul v x ^^^ y.v) 0
theorem hvl_snoc {len : Nat} {ok : Nat → Nat → Prop} (x : Nat) (pre : List (It len ok)) (y : It len ok) : hvl x (pre ++ [y]) = Gf.mul (hvl x pre) x ^^^ y.v := by simp [hvl]
theorem snoc_cases {α : Type} : ∀ l : List α, l = [] ∨ ∃ i y, l = i ++ [y] := fun l => by
  rcases List.eq_nil_or_concat l with h | ⟨i, y, h⟩
  · exact Or.inl h
  · exact Or.inr ⟨i, y, by rw [h, List.concat_eq_append]⟩
theorem hvl_lt {len : Nat} {ok : Nat → Nat → Prop} {x : Nat} (hx : x < 256) (pre : List (It len ok)) : hvl x pre < 256 := by
  have : ∀ n, ∀ pre : List (It len ok), pre.length = n → hvl x pre < 256 := by
    intro n
    induction n with
    | zero => intro pre h; rw [List.eq_nil_of_length_eq_zero h]; show 0 < 256; omega
    | succ n ih =>
      intro pre h
      rcases snoc_cases pre with rfl | ⟨i, y, rfl⟩
      · simp at h
      · rw [hvl_snoc]
        exact Gf.xor_lt (Gf.mul_lt (ih i (by simpa using h)) hx) y.hv
  exact this _ pre rfl
theorem hvl_hn {len : Nat} {f : Nat → Nat} (x : Nat) : ∀ k, k ≤ len → ∀ pre : List (It len (fun i v => v = f i)), pre.map It.i = dnl len k → hvl x pre = Pf.hn f x len k
  | 0, _, pre, h => by
    have : pre = [] := by simpa [dnl] using h
    rw [this]; rfl
  | k + 1, hk, pre, h => by
    rw [dnl_last (by omega)] at h
    rcases snoc_cases pre with rfl | ⟨i, y, rfl⟩
    · simp at h
    · rw [List.map_append] at h
      obtain ⟨h1, h2⟩ := List.append_inj' h rfl
      have h2 : y.i = len - 1 - k := by simpa using h2
      rw [hvl_snoc, hvl_hn x k (by omega) i h1, y.hok, h2]; rfl

end Go.Proofs.YtjlmajopfeplpaaGreat
