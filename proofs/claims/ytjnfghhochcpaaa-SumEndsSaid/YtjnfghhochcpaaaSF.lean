import Derived.Test.YtjnfghhochcpaaaSD
import Derived.Test.YtjnfghhochcpaaaS8
import Derived.Test.YtjnfghhochcpaaaLr
import Derived.Test.YtjnfghhochcpaaaY3
namespace Go.Proofs.Ytjnfghhochcpaaa
open Go.RowKit Go.Shelf

/-- what Open answers, as numbers. -/
def openE (n : Nat) (f : Nat → Nat) : Int := if n < 4 then 4 else if okB f (n - 4) = true then 0 else 10
def openN (n : Nat) (f : Nat → Nat) : Nat := if n < 4 then 0 else if okB f (n - 4) = true then n - 4 else 0
def openF (n : Nat) (f : Nat → Nat) : Nat → Nat := if n < 4 then (fun _ => 0) else if okB f (n - 4) = true then sub f 0 (n - 4) else (fun _ => 0)
theorem openN_le (n : Nat) (f : Nat → Nat) : openN n f ≤ n := by unfold openN; (repeat' split) <;> omega
def OpenOut (w : World) (n : Nat) (f : Nat → Nat) (e : Ending) (w' : World) : Prop :=
  ∃ a c, e = .returned (.tuple #[.slice a (openN n f) c, .int .i64 (openE n f)]) ∧ Nw w' w.heap.size a (openN n f) c (openF n f) ∧ Below w.heap.size w w'
theorem OpenSays.out {w : World} {n : Nat} {f : Nat → Nat} {e : Ending} {w' : World} (h : OpenSays w n f e w') : OpenOut w n f e w' := by
  unfold OpenOut openN openE openF
  rcases h with ⟨h1, rfl, hB⟩ | ⟨h1, h2, rfl, hB⟩ | ⟨h1, h2, a, c, rfl, hn, hB⟩
  · rw [if_pos h1, if_pos h1, if_pos h1]
    exact ⟨none, 0, rfl, Nw.nil _ _ (fun _ => rfl), hB⟩
  · have h1' : ¬ n < 4 := by omega
    rw [if_neg h1', if_neg h1', if_neg h1', h2]
    exact ⟨none, 0, rfl, Nw.nil _ _ (fun _ => rfl), hB⟩
  · have h1' : ¬ n < 4 := by omega
    rw [if_neg h1', if_neg h1', if_neg h1', h2]
    exact ⟨a, c, rfl, hn, hB⟩
/-- a slice of a block that goes on, as a row of its own. -/
theorem Bl.oz {w : World} {B g n cap C : Nat} {h : Nat → Nat} (hb : Bl w g n C h) (h1 : n ≤ cap) (h2 : cap ≤ C) (h3 : cap ≤ maxLen) (hB : B ≤ g) : Oz.OzRow w B 5 1 (.slice (some ⟨g, 0, none⟩) n cap) n (rowv h n) := by
  obtain ⟨vs, e1, e2, e3⟩ := hb
  refine ⟨by rw [rowv_len, Nat.mul_one], Or.inr ⟨g, cap, vs, rfl, hB, e1, h1, h3, by omega, ?_⟩⟩
  rw [Nat.mul_one]
  apply List.ext_getElem?
  intro i
  by_cases hi : i < n
  · rw [List.getElem?_take, if_pos hi, Array.getElem?_toList, e3 i hi, rowv_get hi]
  · rw [List.getElem?_take, if_neg hi, List.getElem?_eq_none (by rw [rowv_len]; omega)]
theorem Nw.oz {w : World} {B n cap : Nat} {a : Option Addr} {h : Nat → Nat} (hn : Nw w B a n cap h) : Oz.OzRow w B 5 1 (.slice a n cap) n (rowv h n) := by
  have h1 := hn.sl.capOk; have h2 := hn.sl.maxOk
  rcases hn.cond with ⟨rfl, rfl, rfl, _⟩ | ⟨g, rfl, hB, hb⟩
  · exact Oz.OzRow_nil _ _ _ _
  · exact hb.oz h1 (Nat.le_refl _) h2 hB
/-- one of three. -/
def of3 {α : Type} (x y z : α) (i : Nat) : α := if i = 0 then x else if i = 1 then y else z
theorem bag_three {w : World} {B N : Nat} {a0 a1 a2 : Option Addr} {n0 n1 n2 c0 c1 c2 : Nat} {h0 h1 h2 : Nat → Nat} (hN : N = w.heap.size)
    (o0 : Oz.OzRow w B 5 1 (.slice a0 n0 c0) n0 (rowv h0 n0)) (o1 : Oz.OzRow w B 5 1 (.slice a1 n1 c1) n1 (rowv h1 n1)) (o2 : Oz.OzRow w B 5 1 (.slice a2 n2 c2) n2 (rowv h2 n2)) :
    Oz.Bag (w.alloc (.cells #[.slice a0 n0 c0, .slice a1 n1 c1, .slice a2 n2 c2] 23)) B N 3 (of3 a0 a1 a2) (of3 n0 n1 n2) (of3 n0 n1 n2) (of3 c0 c1 c2) (of3 h0 h1 h2) := by
  subst hN
  refine ⟨fun k hk => ?_, fun k hk => ?_⟩
  · rw [World.cell?_alloc_new]
    match k, hk with
    | 0, _ => rfl | 1, _ => rfl | 2, _ => rfl
    | k + 3, hk => exact absurd hk (by omega)
  · match k, hk with
    | 0, _ => exact o0.alloc _
    | 1, _ => exact o1.alloc _
    | 2, _ => exact o2.alloc _
    | k + 3, hk => exact absurd hk (by omega)
theorem sep_three {a0 a1 a2 : Option Addr} (h01 : Oz.blk a0 = none ∨ Oz.blk a0 ≠ Oz.blk a1) (h02 : Oz.blk a0 = none ∨ Oz.blk a0 ≠ Oz.blk a2) (h12 : Oz.blk a1 = none ∨ Oz.blk a1 ≠ Oz.blk a2) : Oz.Sep (of3 a0 a1 a2) 3 := by
  have sy : ∀ {x y : Option Nat}, (x = none ∨ x ≠ y) → (y = none ∨ y ≠ x) := fun {x y} h => by
    rcases h with h | h
    · cases y with
      | none => exact Or.inl rfl
      | some v => right; rw [h]; simp
    · exact Or.inr (Ne.symm h)
  intro i j hi hj hij
  match i, j, hi, hj, hij with
  | 0, 0, _, _, h => exact absurd rfl h
  | 0, 1, _, _, _ => exact h01
  | 0, 2, _, _, _ => exact h02
  | 1, 0, _, _, _ => exact sy h01
  | 1, 1, _, _, h => exact absurd rfl h
  | 1, 2, _, _, _ => exact h12
  | 2, 0, _, _, _ => exact sy h02
  | 2, 1, _, _, _ => exact sy h12
  | 2, 2, _, _, h => exact absurd rfl h
  | i + 3, _, hi, _, _ => exact absurd hi (by omega)
  | 0, j + 3, _, hj, _ => exact absurd hj (by omega)
  | 1, j + 3, _, hj, _ => exact absurd hj (by omega)
  | 2, j + 3, _, hj, _ => exact absurd hj (by omega)
end Go.Proofs.Ytjnfghhochcpaaa
