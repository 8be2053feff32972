import Derived.Test.YtjlmajopfeplpaaGreatMg20
import Derived.Test.YtjlmajopfeplpaaGreatMg27
import Derived.Test.YtjlmajopfeplpaaGreatMg31
namespace Go.Proofs.YtjlmajopfeplpaaGreat
open Go.RowKit Go.Shelf

theorem nw_owns {w : World} {B n cap : Nat} {a : Option Addr} {f : Nat → Nat} (h : Nw w B a n cap f) : w.ownsRow B 5 1 (.slice a n cap) n (rowv f n) := by
  rcases h.cond with ⟨rfl, rfl, rfl, _⟩ | ⟨g, rfl, hg, vs, h1, h2, h3⟩
  · exact ⟨by simp [rowv], Or.inl ⟨rfl, rfl⟩⟩
  · refine ⟨by rw [rowv_len]; omega, Or.inr ⟨g, cap, vs, rfl, hg, h1, h.sl.capOk, h.sl.maxOk, by omega, ?_⟩⟩
    have := h.sl.capOk
    apply List.ext_getElem?
    intro i
    rw [List.getElem?_take]
    by_cases hi : i < n
    · rw [if_pos (by omega), rowv_get hi]
      simpa using h3 i hi
    · rw [if_neg (by omega), List.getElem?_eq_none (by rw [rowv_len]; omega)]
theorem nw_blk {w : World} {B n cap g : Nat} {a : Option Addr} {f : Nat → Nat} (h : Nw w B a n cap f) (e : blk a = some g) : B ≤ g ∧ g < w.heap.size := by
  have := (nw_owns h).lt g (by rw [own_blk]; exact e)
  exact this
/-- the k-th of five. -/
def fiv {α : Type} (x0 x1 x2 x3 x4 : α) : Nat → α
  | 0 => x0 | 1 => x1 | 2 => x2 | 3 => x3 | _ => x4
theorem fiv_all {P : Nat → Prop} (h0 : P 0) (h1 : P 1) (h2 : P 2) (h3 : P 3) (h4 : P 4) : ∀ k, k < 5 → P k := fun k hk => by
  rcases (show k = 0 ∨ k = 1 ∨ k = 2 ∨ k = 3 ∨ k = 4 by omega) with rfl | rfl | rfl | rfl | rfl <;> assumption
theorem sep_of {x : Nat → Option Addr} {n : Nat} {lo hi : Nat → Nat} (H : ∀ k, k < n → ∀ g, blk (x k) = some g → lo k ≤ g ∧ g < hi k) (M : ∀ i j, i < j → j < n → hi i ≤ lo j) : Sep x n := fun i j hi' hj' hne => by
  cases e : blk (x i) with
  | none => exact Or.inl rfl
  | some g =>
    right
    intro e2
    have q1 := H i hi' g e
    have q2 := H j hj' g e2.symm
    rcases Nat.lt_or_ge i j with h | h
    · have := M i j h hj'; omega
    · have := M j i (by omega) hi'; omega
theorem bag5 {w0 : World} {B : Nat} {x0 x1 x2 x3 x4 : Option Addr} {n0 n1 n2 n3 n4 c0 c1 c2 c3 c4 : Nat} {h : Nat → Nat → Nat}
    (hown : ∀ k, k < 5 → w0.ownsRow B 5 1 (.slice (fiv x0 x1 x2 x3 x4 k) (fiv n0 n1 n2 n3 n4 k) (fiv c0 c1 c2 c3 c4 k)) (fiv n0 n1 n2 n3 n4 k) (rowv (h k) (fiv n0 n1 n2 n3 n4 k))) :
    Bag (w0.alloc (.cells #[.slice x0 n0 c0, .slice x1 n1 c1, .slice x2 n2 c2, .slice x3 n3 c3, .slice x4 n4 c4] 28)) B w0.heap.size 5 (fiv x0 x1 x2 x3 x4) (fiv n0 n1 n2 n3 n4) (fiv n0 n1 n2 n3 n4) (fiv c0 c1 c2 c3 c4) h :=
  ⟨fun k hk => by
    rw [cell_of_row _ _ k _ _ _ (heap_alloc_new _ _)]
    rcases k with _ | _ | _ | _ | _ | k <;> first | rfl | omega, fun k hk => (hown k hk).alloc _⟩

/-- what both answer: a slice, and an error. -/
def SlE (w : World) (len : Nat) (E : Int) (F : Nat → Nat) (e : Ending) (w' : World) : Prop := ∃ a c, e = .returned (.tuple #[.slice a len c, .int .i64 E]) ∧ Nw w' w.heap.size a len c F ∧ Below w.heap.size w w'
theorem values_says {n n' m : Nat} {P g f : Nat → Nat} : ∃ (len : Nat) (E : Int) (F : Nat → Nat), len ≤ m ∧ ∀ (w : World) e w', ValSays w n n' m P g f e w' → SlE w len E F e w' := by
  by_cases hne : n = n'
  · by_cases hd : Pf.Dst P n
    · refine ⟨m, 0, vls P n g f m, Nat.le_refl _, ?_⟩
      rintro w e w' (⟨h, _⟩ | ⟨_, h, _⟩ | ⟨_, _, h⟩)
      · exact absurd hne h
      · exact absurd hd h
      · exact h
    · refine ⟨0, 9, fun _ => 0, by omega, ?_⟩
      rintro w e w' (⟨h, _⟩ | ⟨_, h, rfl, hB⟩ | ⟨_, h, _⟩)
      · exact absurd hne h
      · exact ⟨none, 0, rfl, Nw.nil _ _ fun _ => rfl, hB⟩
      · exact absurd h hd
  · refine ⟨0, 2, fun _ => 0, by omega, ?_⟩
    rintro w e w' (⟨_, rfl, hB⟩ | ⟨h, _⟩ | ⟨h, _⟩)
    · exact ⟨none, 0, rfl, Nw.nil _ _ fun _ => rfl, hB⟩
    · exact absurd h hne
    · exact absurd h hne
theorem value_says {n n' x : Nat} {P g : Nat → Nat} : ∃ (v : Nat) (E : Int), ∀ (w : World) e w', Val1Says w n n' x P g e w' → e = .returned (.tuple #[.int .u8 (v : Nat), .int .i64 E]) ∧ Below w.heap.size w w' := by
  by_cases hne : n = n'
  · by_cases hd : Pf.Dst P n
    · refine ⟨dotN (Pf.lw P n x) g n, 0, ?_⟩
      rintro w e w' ⟨⟨h, _⟩ | ⟨_, h, _⟩ | ⟨_, _, h⟩, hB⟩
      · exact absurd hne h
      · exact absurd hd h
      · exact ⟨h, hB⟩
    · refine ⟨0, 9, ?_⟩
      rintro w e w' ⟨⟨h, _⟩ | ⟨_, _, h⟩ | ⟨_, h, _⟩, hB⟩
      · exact absurd hne h
      · exact ⟨h, hB⟩
      · exact absurd h hd
  · refine ⟨0, 2, ?_⟩
    rintro w e w' ⟨⟨_, h⟩ | ⟨h, _⟩ | ⟨h, _⟩, hB⟩
    · exact ⟨h, hB⟩
    · exact absurd h hne
    · exact absurd h hne
end Go.Proofs.YtjlmajopfeplpaaGreat
