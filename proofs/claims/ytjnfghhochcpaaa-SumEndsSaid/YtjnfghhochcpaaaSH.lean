import Derived.Test.YtjnfghhochcpaaaSG
namespace Go.Proofs.Ytjnfghhochcpaaa
open Go.RowKit Go.Shelf

/-- a literal of bytes, whatever they are. -/
theorem lit_sl (w : World) (N : Nat) (hN : N = w.heap.size) (zs : List Int) (hz : ∀ z ∈ zs, 0 ≤ z ∧ z < 256) (hm : zs.length ≤ 1000) :
    Sl (w.alloc (.cells (zs.map (Value.int .u8)).toArray 5)) (some ⟨N, 0, none⟩) zs.length zs.length (coef zs zs.length) := by
  subst hN
  have hg : ∀ i, i < zs.length → 0 ≤ zs.getD i 0 ∧ zs.getD i 0 < 256 := fun i hi => by
    have e : zs.getD i 0 = zs[i] := by simp [hi]
    rw [e]; exact hz _ (List.getElem_mem hi)
  refine ⟨Nat.le_refl _, by unfold maxLen; omega, fun i => ?_, fun i hi => if_neg (by omega), fun e => (by cases e), fun ad e _ => (by cases e; rfl), fun ad e i hi => ?_⟩
  · unfold coef; split
    · rename_i h; have := hg i h; omega
    · omega
  · cases e
    show (w.alloc _).cell? ⟨w.heap.size, 0 + i, none⟩ = _
    rw [Nat.zero_add, World.cell?_alloc_new, List.getElem?_toArray, List.getElem?_map]
    unfold coef
    rw [if_pos hi]
    have h := hg i hi
    have e : zs[i]? = some (zs.getD i 0) := by simp [hi]
    rw [e]
    show some (Value.int .u8 (zs.getD i 0)) = _
    rw [Int.toNat_of_nonneg h.1]
theorem rd_three {w : World} {a0 a1 a2 : Option Addr} {n0 n1 n2 c0 c1 c2 N : Nat} {f0 f1 f2 : Nat → Nat} (h0 : Sl w a0 n0 c0 f0) (h1 : Sl w a1 n1 c1 f1) (h2 : Sl w a2 n2 c2 f2) (hN : N = w.heap.size) :
    Rd (w.alloc (.cells #[.slice a0 n0 c0, .slice a1 n1 c1, .slice a2 n2 c2] 23)) (some ⟨N, 0, none⟩) 3 3 (of3 a0 a1 a2) (of3 n0 n1 n2) (of3 c0 c1 c2) (of3 f0 f1 f2) := by
  subst hN
  refine ⟨Nat.le_refl _, by unfold maxLen; omega, fun i j => ?_, fun e => (by cases e), fun ad e _ => (by cases e; rfl), fun ad e i hi => ?_, fun i hi => ?_⟩
  · unfold of3; (repeat' split)
    · exact h0.bytes j
    · exact h1.bytes j
    · exact h2.bytes j
  · cases e
    show (w.alloc _).cell? ⟨w.heap.size, 0 + i, none⟩ = _
    rw [Nat.zero_add, World.cell?_alloc_new]
    match i, hi with
    | 0, _ => rfl | 1, _ => rfl | 2, _ => rfl
    | i + 3, hi => exact absurd hi (by omega)
  · refine Sl.same (w := w) ?_ ((Below.refl _ w).alloc (Nat.le_refl _) _)
    match i, hi with
    | 0, _ => exact h0
    | 1, _ => exact h1
    | 2, _ => exact h2
    | i + 3, hi => exact absurd hi (by omega)
/-- one of two. -/
def of2 {α : Type} (x y : α) (i : Nat) : α := if i = 0 then x else y
theorem rd_two {w : World} {a0 a1 : Option Addr} {n0 n1 c0 c1 N : Nat} {f0 f1 : Nat → Nat} (h0 : Sl w a0 n0 c0 f0) (h1 : Sl w a1 n1 c1 f1) (hN : N = w.heap.size) :
    Rd (w.alloc (.cells #[.slice a0 n0 c0, .slice a1 n1 c1] 23)) (some ⟨N, 0, none⟩) 2 2 (of2 a0 a1) (of2 n0 n1) (of2 c0 c1) (of2 f0 f1) := by
  subst hN
  refine ⟨Nat.le_refl _, by unfold maxLen; omega, fun i j => ?_, fun e => (by cases e), fun ad e _ => (by cases e; rfl), fun ad e i hi => ?_, fun i hi => ?_⟩
  · unfold of2; split
    · exact h0.bytes j
    · exact h1.bytes j
  · cases e
    show (w.alloc _).cell? ⟨w.heap.size, 0 + i, none⟩ = _
    rw [Nat.zero_add, World.cell?_alloc_new]
    match i, hi with
    | 0, _ => rfl | 1, _ => rfl
    | i + 2, hi => exact absurd hi (by omega)
  · refine Sl.same (w := w) ?_ ((Below.refl _ w).alloc (Nat.le_refl _) _)
    match i, hi with
    | 0, _ => exact h0
    | 1, _ => exact h1
    | i + 2, hi => exact absurd hi (by omega)
/-- SumDoes of no rows. -/
theorem does_none (a' : Option Addr) (m cap' : Nat) (g : Nat → Nat) (st : Int) (h0 : 0 ≤ st) (h1 : st < 4294967296) (hm : m ≤ 140737488355328) (w : World) (hS : Sl w a' m cap' g) :
    Calls Try.prog 3 #[.slice none 0 0, .slice a' m cap', .int .u32 st] w fun e w' => e = .returned (.bool true) ∧ Below w.heap.size w w' := by
  obtain ⟨s, rfl⟩ := Int.eq_ofNat_of_zero_le h0
  exact sumDoes_any none 0 0 _ _ _ _ a' m cap' g s (by omega) (by omega) (fun i hi => absurd hi (Nat.not_lt_zero i)) hm w (rd_nil8 w) hS
/-- SumDoes of some rows. -/
theorem does_any (a : Option Addr) (n cap : Nat) (r : Nat → Option Addr) (l c : Nat → Nat) (f : Nat → Nat → Nat) (a' : Option Addr) (m cap' : Nat) (g : Nat → Nat) (st : Int) (h0 : 0 ≤ st) (h1 : st < 4294967296) (hn : n ≤ 1000) (hl : ∀ i, i < n → l i ≤ 1000) (hm : m ≤ 1000) (w : World) (hR : Rd w a n cap r l c f) (hS : Sl w a' m cap' g) :
    Calls Try.prog 3 #[.slice a n cap, .slice a' m cap', .int .u32 st] w fun e w' => e = .returned (.bool true) ∧ Below w.heap.size w w' := by
  obtain ⟨s, rfl⟩ := Int.eq_ofNat_of_zero_le h0
  exact sumDoes_any a n cap r l c f a' m cap' g s (by omega) (by omega) (fun i hi => by have := hl i hi; omega) (by omega) w hR hS
theorem Nw.owns8 {w : World} {B n cap : Nat} {a : Option Addr} {f : Nat → Nat} (h : Nw w B a n cap f) : w.ownsRow B 5 1 (.slice a n cap) n (rowv f n) := by
  have h1 := h.sl.capOk; have h2 := h.sl.maxOk
  rcases h.cond with ⟨rfl, rfl, rfl, _⟩ | ⟨g, rfl, hB, vs, e1, e2, e3⟩
  · exact World.ownsRow_nil _ _ _ _
  · refine ⟨by rw [rowv_len, Nat.mul_one], Or.inr ⟨g, cap, vs, rfl, hB, e1, h1, h2, by omega, ?_⟩⟩
    rw [Nat.mul_one]
    apply List.ext_getElem?
    intro i
    by_cases hi : i < n
    · rw [List.getElem?_take, if_pos hi, Array.getElem?_toList, e3 i hi, rowv_get hi]
    · rw [List.getElem?_take, if_neg hi, List.getElem?_eq_none (by rw [rowv_len]; omega)]
theorem nw_more {w : World} {B n cap v : Nat} {a : Option Addr} {f : Nat → Nat} (h : w.ownsRow B 5 1 (.slice a (n + 1) cap) (n + 1) (rowv f n ++ [.int .u8 (v : Nat)])) (hf : Pf.By f) (hu : Pf.Up f n) (hv : v < 256) :
    ∃ f', Nw w B a (n + 1) cap f' := by
  have e : rowv f n ++ [.int .u8 (v : Nat)] = (List.range (n + 1)).map fun i => Value.int .u8 ((if i = n then v else f i : Nat) : Int) := by
    rw [List.range_succ, List.map_append]
    congr 1
    · refine List.map_congr_left (fun i hi => ?_)
      have h1 : i < n := by simpa using hi
      have h2 : ¬ i = n := by omega
      rw [if_neg h2]
    · simp
  rw [e] at h
  obtain ⟨a', c', e', hn⟩ := owns_new (f := fun i => if i = n then v else f i) h (fun i => by show (if i = n then v else f i) < 256; split; exact hv; exact hf i) (fun i hi => by show (if i = n then v else f i) = 0; rw [if_neg (by omega)]; exact hu i (by omega))
  simp only [Value.slice.injEq, true_and] at e'
  obtain ⟨rfl, rfl⟩ := e'
  exact ⟨_, hn⟩
end Go.Proofs.Ytjnfghhochcpaaa
