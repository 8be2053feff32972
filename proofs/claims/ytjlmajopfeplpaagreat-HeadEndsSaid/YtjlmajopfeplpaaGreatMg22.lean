import Derived.Test.YtjlmajopfeplpaaGreatMg2
import Derived.Test.YtjlmajopfeplpaaGreatMg9
namespace Go.Proofs.YtjlmajopfeplpaaGreat
open Go.RowKit Go.Shelf

/-- a row to which a part of another one was added, at k places from c on. -/
def addf (F S : Nat → Nat) (p c k j : Nat) : Nat := if c ≤ j ∧ j < c + k then F j ^^^ Gf.mul (S j) p else F j
theorem addf_by {F S : Nat → Nat} {p : Nat} (hF : Pf.By F) (hS : Pf.By S) (hp : p < 256) (c k : Nat) : Pf.By (addf F S p c k) := fun j => by
  unfold addf; split
  · exact Gf.xor_lt (hF j) (Gf.mul_lt (hS j) hp)
  · exact hF j
theorem addf_s (F S : Nat → Nat) (p c k j : Nat) : (if j = c + k then addf F S p c k (c + k) ^^^ Gf.mul (S (c + k)) p else addf F S p c k j) = addf F S p c (k + 1) j := by
  unfold addf
  by_cases e : j = c + k
  · subst e; rw [if_pos rfl, if_neg (by omega), if_pos (by omega)]
  · rw [if_neg e]
    by_cases h : c ≤ j ∧ j < c + k
    · rw [if_pos h, if_pos (by omega)]
    · rw [if_neg h, if_neg (by omega)]
theorem addf_at (F S : Nat → Nat) (p c k : Nat) : addf F S p c k (c + k) = F (c + k) := if_neg (by omega)

end Go.Proofs.YtjlmajopfeplpaaGreat

namespace Go.Proofs.YtjlmajopfeplpaaGreat
open Go.RowKit Go.Shelf

theorem ivN_iv (x : Nat) : ivN x = Mt.iv x := rfl
section
variable {w w' : World} {B W fb G n wi : Nat} {b : Nat → Nat} {M : Nat → Nat → Nat}
end

/-- a row by a byte, at k places from c on. -/
def sclf (F : Nat → Nat) (x c k j : Nat) : Nat := if c ≤ j ∧ j < c + k then Gf.mul (F j) x else F j
theorem sclf_by {F : Nat → Nat} {x : Nat} (hF : Pf.By F) (hx : x < 256) (c k : Nat) : Pf.By (sclf F x c k) := fun j => by
  unfold sclf; split
  · exact Gf.mul_lt (hF j) hx
  · exact hF j
theorem sclf_s (F : Nat → Nat) (x c k j : Nat) : (if j = c + k then Gf.mul (F (c + k)) x else sclf F x c k j) = sclf F x c (k + 1) j := by
  unfold sclf
  by_cases e : j = c + k
  · subst e; rw [if_pos rfl, if_pos (by omega)]
  · rw [if_neg e]
    by_cases h : c ≤ j ∧ j < c + k
    · rw [if_pos h, if_pos (by omega)]
    · rw [if_neg h, if_neg (by omega)]
theorem sclf_at (F : Nat → Nat) (x c k : Nat) : sclf F x c k (c + k) = F (c + k) := if_neg (by omega)
theorem sclf_end {F : Nat → Nat} {x c m : Nat} (hz : ∀ j, j < c → F j = 0) (hu : Pf.Up F (c + m)) (j : Nat) : sclf F x c m j = Gf.mul (F j) x := by
  unfold sclf
  by_cases h : c ≤ j ∧ j < c + m
  · rw [if_pos h]
  · rw [if_neg h]
    have : F j = 0 := by
      by_cases c1 : j < c
      · exact hz j c1
      · exact hu j (by omega)
    rw [this, Gf.zero_mul]
/-- of the first k rows, but for the row r, that row's part taken. -/
def ldk (M : Nat → Nat → Nat) (S : Nat → Nat) (r c k i j : Nat) : Nat := if i = r then S j else if i < k then M i j ^^^ Gf.mul (S j) (M i c) else M i j
theorem ldk_bm {M : Nat → Nat → Nat} {S : Nat → Nat} (hM : Mt.Bm M) (hS : Pf.By S) (r c k : Nat) : Mt.Bm (ldk M S r c k) := fun i j => by
  unfold ldk; split
  · exact hS j
  · split
    · exact Gf.xor_lt (hM i j) (Gf.mul_lt (hS j) (hM i c))
    · exact hM i j
theorem ldk_r (M : Nat → Nat → Nat) (S : Nat → Nat) (c k i j : Nat) : ldk M S k c (k + 1) i j = ldk M S k c k i j := by
  unfold ldk
  by_cases e : i = k
  · rw [if_pos e, if_pos e]
  · rw [if_neg e, if_neg e]
    by_cases h : i < k
    · rw [if_pos h, if_pos (by omega)]
    · rw [if_neg h, if_neg (by omega)]
theorem ldk_0 (M : Nat → Nat → Nat) (S : Nat → Nat) {r c k : Nat} (h0 : M k c = 0) (i j : Nat) : ldk M S r c k i j = ldk M S r c (k + 1) i j := by
  unfold ldk
  by_cases e : i = r
  · rw [if_pos e, if_pos e]
  · rw [if_neg e, if_neg e]
    by_cases h : i < k
    · rw [if_pos h, if_pos (by omega)]
    · rw [if_neg h]
      by_cases h2 : i = k
      · rw [if_pos (by omega), h2, h0, Gf.mul_zero, Nat.xor_zero]
      · rw [if_neg (by omega)]
theorem ldk_s (M : Nat → Nat → Nat) (S : Nat → Nat) {r c k : Nat} (hk : k ≠ r) (i j : Nat) : (if i = k then M k j ^^^ Gf.mul (S j) (M k c) else ldk M S r c k i j) = ldk M S r c (k + 1) i j := by
  unfold ldk
  by_cases e : i = k
  · rw [if_pos e, if_neg (by omega), if_pos (by omega), e]
  · rw [if_neg e]
    by_cases e2 : i = r
    · rw [if_pos e2, if_pos e2]
    · rw [if_neg e2, if_neg e2]
      by_cases h : i < k
      · rw [if_pos h, if_pos (by omega)]
      · rw [if_neg h, if_neg (by omega)]
theorem ldk_at (M : Nat → Nat → Nat) (S : Nat → Nat) {r c k : Nat} (hk : k ≠ r) (j : Nat) : ldk M S r c k k j = M k j := by
  unfold ldk; rw [if_neg hk, if_neg (by omega)]
theorem ldk_row (M : Nat → Nat → Nat) (S : Nat → Nat) (r c k : Nat) (j : Nat) : ldk M S r c k r j = S j := if_pos rfl
theorem addf_all {F S : Nat → Nat} {p c m : Nat} (hz : ∀ j, j < c → S j = 0) (hu : Pf.Up S (c + m)) (j : Nat) : addf F S p c m j = F j ^^^ Gf.mul (S j) p := by
  unfold addf
  by_cases h : c ≤ j ∧ j < c + m
  · rw [if_pos h]
  · rw [if_neg h]
    have : S j = 0 := by
      by_cases c1 : j < c
      · exact hz j c1
      · exact hu j (by omega)
    rw [this, Gf.zero_mul, Nat.xor_zero]

end Go.Proofs.YtjlmajopfeplpaaGreat

namespace Go.Proofs.YtjlmajopfeplpaaGreat
open Go.RowKit Go.Shelf

/-- two rows in each other's place. -/
theorem Gr.swap {w : World} {B G n cap wi : Nat} {b : Nat → Nat} {M : Nat → Nat → Nat} (h : Gr w B G n cap b (fun _ => wi) (fun _ => wi) M) {p l : Nat} (hp : p < n) (hl : l < n) :
    Gr ((w.setCell ⟨G, l, none⟩ (.slice (some ⟨b p, 0, none⟩) wi wi)).setCell ⟨G, p, none⟩ (.slice (some ⟨b l, 0, none⟩) wi wi)) B G n cap (fun i => b (Mt.tau p l i)) (fun _ => wi) (fun _ => wi) (Mt.swp M p l) := by
  obtain ⟨vs, h1, h2, h3⟩ := h.blk
  have k1 := heap_setCell_same w G l vs 28 (.slice (some ⟨b p, 0, none⟩) wi wi) h1
  have k2 := heap_setCell_same (w.setCell ⟨G, l, none⟩ (.slice (some ⟨b p, 0, none⟩) wi wi)) G p _ 28 (.slice (some ⟨b l, 0, none⟩) wi wi) k1
  have hoth : ∀ k, k ≠ G → ((w.setCell ⟨G, l, none⟩ (.slice (some ⟨b p, 0, none⟩) wi wi)).setCell ⟨G, p, none⟩ (.slice (some ⟨b l, 0, none⟩) wi wi)).heap[k]? = w.heap[k]? := fun k hk =>
    (Below.heap_setCell _ ⟨G, p, none⟩ _ k hk).trans (Below.heap_setCell _ ⟨G, l, none⟩ _ k hk)
  have hs := h.nc.1
  refine ⟨⟨_, k2, by simpa using h2, fun i hi => ?_⟩, fun i hi => ?_, h.lc, h.nc, ⟨h.lo.1, fun i hi => h.lo.2 _ (Mt.tau_lt hp hl hi)⟩, fun i j hi hj e => ?_, Mt.swp_bm h.bm p l, fun i hi j hj => by rw [Mt.swp_tau]; exact h.up _ (Mt.tau_lt hp hl hi) j hj⟩
  · rw [Array.getElem?_setIfInBounds, Array.getElem?_setIfInBounds, Array.size_setIfInBounds]
    unfold Mt.tau
    by_cases e1 : p = i
    · subst e1
      rw [if_pos rfl, if_pos (by omega)]
      by_cases e2 : p = l
      · subst e2; rw [if_pos rfl]
      · rw [if_neg e2, if_pos rfl]
    · rw [if_neg e1]
      by_cases e2 : l = i
      · subst e2
        rw [if_pos rfl, if_pos (by omega), if_pos rfl]
      · rw [if_neg e2, if_neg (fun h => e2 h.symm), if_neg (fun h => e1 h.symm)]
        exact h3 i hi
  · have ht := Mt.tau_lt hp hl hi
    exact ((h.row _ ht).kept (hoth _ (h.ne ht))).congr fun j _ => by rw [Mt.swp_tau]
  · have := h.inj _ _ (Mt.tau_lt hp hl hi) (Mt.tau_lt hp hl hj) e
    rw [← Mt.tau_tau p l i, this, Mt.tau_tau]
end Go.Proofs.YtjlmajopfeplpaaGreat

namespace Go.Proofs.YtjlmajopfeplpaaGreat
open Go.RowKit Go.Shelf

end Go.Proofs.YtjlmajopfeplpaaGreat
