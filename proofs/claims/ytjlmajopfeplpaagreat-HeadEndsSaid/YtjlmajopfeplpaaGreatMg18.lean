import Derived.Sort.QuietIn
import Derived.Test.YtjlmajopfeplpaaGreatMg17
namespace Go.Proofs.YtjlmajopfeplpaaGreat.Pf
open Gf
/-- the weights as they are made from behind: what stands, and the gaps behind. -/
def wst (P : Nat → Nat) (x : Nat) (h0 : Nat → Nat) (l : List Nat) : Nat × (Nat → Nat) :=
  l.foldl (fun s j => (mul s.1 (x ^^^ P j), fun i => if i = j then mul (s.2 j) s.1 else s.2 i)) (1, h0)
theorem wst_snoc (P : Nat → Nat) (x : Nat) (h0 : Nat → Nat) (l : List Nat) (j : Nat) : wst P x h0 (l ++ [j]) = (mul (wst P x h0 l).1 (x ^^^ P j), fun i => if i = j then mul ((wst P x h0 l).2 j) (wst P x h0 l).1 else (wst P x h0 l).2 i) := by
  unfold wst; rw [List.foldl_append]; rfl
theorem wst_by {P h0 : Nat → Nat} {x : Nat} (hP : By P) (hx : x < 256) (h : By h0) : ∀ l, (wst P x h0 l).1 < 256 ∧ By (wst P x h0 l).2 := by
  have : ∀ n, ∀ l : List Nat, l.length = n → (wst P x h0 l).1 < 256 ∧ By (wst P x h0 l).2 := by
    intro n
    induction n with
    | zero => intro l hl; rw [List.eq_nil_of_length_eq_zero hl]; exact ⟨by show 1 < 256; omega, h⟩
    | succ n ih =>
      intro l hl
      rcases List.eq_nil_or_concat l with rfl | ⟨i, y, rfl⟩
      · simp at hl
      · rw [List.concat_eq_append, wst_snoc]
        obtain ⟨h1, h2⟩ := ih i (by simpa using hl)
        refine ⟨mul_lt h1 (xor_lt hx (hP y)), fun k => ?_⟩
        show (if k = y then _ else _) < 256
        split
        · exact mul_lt (h2 y) h1
        · exact h2 k
  exact fun l => this _ l rfl
theorem wst_dnl {P h0 : Nat → Nat} {x n : Nat} (hP : By P) (hx : x < 256) : ∀ k, k ≤ n → (wst P x h0 (dnl n k)).1 = sgm P x (n - k) k ∧ ∀ i, (wst P x h0 (dnl n k)).2 i = if n - k ≤ i ∧ i < n then mul (h0 i) (sgm P x (i + 1) (n - 1 - i)) else h0 i
  | 0, _ => ⟨rfl, fun i => by rw [if_neg (by omega)]; rfl⟩
  | k + 1, hk => by
    obtain ⟨h1, h2⟩ := wst_dnl (h0 := h0) (n := n) hP hx k (by omega)
    rw [dnl_last (len := n) (k := k) (by omega), wst_snoc]
    refine ⟨?_, fun i => ?_⟩
    · show mul (wst P x h0 (dnl n k)).1 (x ^^^ P (n - 1 - k)) = _
      rw [h1]
      have := sgm_first hP hx (n - (k + 1)) k
      rw [this, show n - (k + 1) + 1 = n - k by omega, show n - (k + 1) = n - 1 - k by omega]
    · show (if i = n - 1 - k then mul ((wst P x h0 (dnl n k)).2 (n - 1 - k)) (wst P x h0 (dnl n k)).1 else (wst P x h0 (dnl n k)).2 i) = _
      by_cases e : i = n - 1 - k
      · rw [if_pos e, if_pos (by omega), h2, if_neg (by omega), h1, e, show n - 1 - k + 1 = n - k by omega, show n - 1 - (n - 1 - k) = k by omega]
      · rw [if_neg e, h2]
        by_cases c : n - k ≤ i ∧ i < n
        · rw [if_pos c, if_pos (by omega)]
        · rw [if_neg c, if_neg (by omega)]
/-- the first so many weights, ahead alone. -/
def hd0 (P : Nat → Nat) (n x k i : Nat) : Nat := if i < k then mul (sg P i n) (sgm P x 0 i) else 0
theorem hd0_by {P : Nat → Nat} (hP : By P) {x : Nat} (hx : x < 256) (n k : Nat) : By (hd0 P n x k) := fun i => by
  unfold hd0; split
  · exact mul_lt (sg_lt i n) (sgm_lt hP hx 0 i)
  · omega
theorem hd0_s (P : Nat → Nat) (n x k i : Nat) : (if i = k then mul (sg P k n) (sgm P x 0 k) else hd0 P n x k i) = hd0 P n x (k + 1) i := by
  unfold hd0
  by_cases e : i = k
  · subst e; rw [if_pos rfl, if_pos (by omega)]
  · rw [if_neg e]
    by_cases h : i < k
    · rw [if_pos h, if_pos (by omega)]
    · rw [if_neg h, if_neg (by omega)]
theorem wst_lw {P : Nat → Nat} (hP : By P) {x n : Nat} (hx : x < 256) {i : Nat} (hi : i < n) : (wst P x (hd0 P n x n) (dnl n n)).2 i = lw P n x i := by
  rw [(wst_dnl hP hx n (Nat.le_refl _)).2 i, if_pos (by omega), lw_made hP hx hi]
  unfold hd0; rw [if_pos hi]
end Go.Proofs.YtjlmajopfeplpaaGreat.Pf
namespace Go.Proofs.YtjlmajopfeplpaaGreat
open Go.RowKit Go.Shelf
attribute [local go_sem] Oper.semAt_some

theorem heap_kep {X Y : World} {row : Option Nat} {k : Nat} {cs : Array Value} {t : TypeId} {z : Nat × Nat} (h : X.heap[k]? = some (.cells cs t z)) (hg : X.grownBy Y row) (hr : ∀ r, row = some r → ∃ o : Obj, X.heap[r]? = some o ∧ o.isCells = false) : Y.heap[k]? = some (.cells cs t z) :=
  (hg.block k (Array.getElem?_eq_some_iff.1 h).1 (fun e => by obtain ⟨o, ho, hc⟩ := hr k e.symm; rw [h] at ho; cases ho; cases hc)).trans h
theorem Bl.kep {X Y : World} {row : Option Nat} {g n cap : Nat} {h : Nat → Nat} (hb : Bl X g n cap h) (hg : X.grownBy Y row) (hr : ∀ r, row = some r → ∃ o : Obj, X.heap[r]? = some o ∧ o.isCells = false) : Bl Y g n cap h := by
  obtain ⟨v, h1, h2, h3⟩ := hb
  exact ⟨v, heap_kep h1 hg hr, h2, h3⟩
theorem Rq.kep {X Y : World} {row : Option Nat} {B n cap : Nat} {a : Option Addr} {h : Nat → Nat} (r : Rq X B a n cap h) (hg : X.grownBy Y row) (hr : ∀ r, row = some r → ∃ o : Obj, X.heap[r]? = some o ∧ o.isCells = false) : Rq Y B a n cap h := by
  rcases r with r | ⟨g, e, h1, h2, h3, h4⟩
  · exact Or.inl r
  · exact Or.inr ⟨g, e, h1, h2.kep hg hr, h3, h4⟩
theorem IsField.kep {X Y : World} {row : Option Nat} {fb : Nat} (h : IsField fb X) (hg : X.grownBy Y row) (hr : ∀ r, row = some r → ∃ o : Obj, X.heap[r]? = some o ∧ o.isCells = false) : IsField fb Y := fun j hj =>
  ⟨cell_kept (h j hj).1 hg hr, (frozen_kept (h j hj).1 hg hr).trans (h j hj).2⟩
theorem bx_set {W : World} {b g i : Nat} {t : TypeId} {v u : Value} (h : Boxed W b t v) (hne : b ≠ g) : Boxed (W.setCell ⟨g, i, none⟩ u) b t v :=
  (heap_setCell_other W ⟨g, i, none⟩ b u hne).trans h
theorem Good.of_rq {W : World} {B n cap : Nat} {a : Option Addr} {P : Nat → Nat} (r : Rq W B a n cap P) (hP : Pf.By P) {Bs : Nat} (hb : W.cell? ⟨Bs, 0, none⟩ = some (.slice a n cap)) : Good Bs a n cap (fun i v => v = P i) W :=
  ⟨hb, fun i hi => by
    obtain ⟨g, e, _, h2⟩ := r.at_ hi
    exact ⟨g, 0, P i, e, hP i, rfl, by rw [Nat.zero_add]; exact h2.cell hi⟩⟩

section
variable {w W W' : World} {wb fb n cp cs : Nat} {ap aq : Option Addr} {P S h : Nat → Nat} {x u : Nat}
end

end Go.Proofs.YtjlmajopfeplpaaGreat
