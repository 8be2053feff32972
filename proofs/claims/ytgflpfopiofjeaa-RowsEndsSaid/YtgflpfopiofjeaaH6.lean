import Derived.Test.YtgflpfopiofjeaaH5
import Derived.Test.YtgflpfopiofjeaaG8
namespace Go.Proofs.Ytgflpfopiofjeaa
open Go.RowKit Go.Shelf

/-- of the first k rows, but for the row r, that row's part taken: the part p i of the row i. -/
def ldg (Y : Nat → Nat → Nat) (S P : Nat → Nat) (r k i j : Nat) : Nat := if i = r then S j else if i < k then Y i j ^^^ Gf.mul (S j) (P i) else Y i j
theorem ldg_bm {Y : Nat → Nat → Nat} {S P : Nat → Nat} (hY : Mt.Bm Y) (hS : Pf.By S) (hP : Pf.By P) (r k : Nat) : Mt.Bm (ldg Y S P r k) := fun i j => by
  unfold ldg; split
  · exact hS j
  · split
    · exact Gf.xor_lt (hY i j) (Gf.mul_lt (hS j) (hP i))
    · exact hY i j
theorem ldg_r (Y : Nat → Nat → Nat) (S P : Nat → Nat) (k i j : Nat) : ldg Y S P k (k + 1) i j = ldg Y S P k k i j := by
  unfold ldg
  by_cases e : i = k
  · rw [if_pos e, if_pos e]
  · rw [if_neg e, if_neg e]
    by_cases h : i < k
    · rw [if_pos h, if_pos (by omega)]
    · rw [if_neg h, if_neg (by omega)]
theorem ldg_0 (Y : Nat → Nat → Nat) (S P : Nat → Nat) {r k : Nat} (h0 : P k = 0) (i j : Nat) : ldg Y S P r k i j = ldg Y S P r (k + 1) i j := by
  unfold ldg
  by_cases e : i = r
  · rw [if_pos e, if_pos e]
  · rw [if_neg e, if_neg e]
    by_cases h : i < k
    · rw [if_pos h, if_pos (by omega)]
    · rw [if_neg h]
      by_cases h2 : i = k
      · rw [if_pos (by omega), h2, h0, Gf.mul_zero, Nat.xor_zero]
      · rw [if_neg (by omega)]
theorem ldg_s (Y : Nat → Nat → Nat) (S P : Nat → Nat) {r k : Nat} (hk : k ≠ r) (i j : Nat) : (if i = k then Y k j ^^^ Gf.mul (S j) (P k) else ldg Y S P r k i j) = ldg Y S P r (k + 1) i j := by
  unfold ldg
  by_cases e : i = k
  · rw [if_pos e, if_neg (by omega), if_pos (by omega), e]
  · rw [if_neg e]
    by_cases e2 : i = r
    · rw [if_pos e2, if_pos e2]
    · rw [if_neg e2, if_neg e2]
      by_cases h : i < k
      · rw [if_pos h, if_pos (by omega)]
      · rw [if_neg h, if_neg (by omega)]
theorem ldg_at (Y : Nat → Nat → Nat) (S P : Nat → Nat) {r k : Nat} (hk : k ≠ r) (j : Nat) : ldg Y S P r k k j = Y k j := by
  unfold ldg; rw [if_neg hk, if_neg (by omega)]
theorem ldg_row (Y : Nat → Nat → Nat) (S P : Nat → Nat) (r k j : Nat) : ldg Y S P r k r j = S j := if_pos rfl
/-- the columns from wx on, as a matrix. -/
def shf (n wx wy : Nat) (M : Nat → Nat → Nat) : Nat → Nat → Nat := cl n wy fun i j => M i (wx + j)
theorem shf_bm {M : Nat → Nat → Nat} (hM : Mt.Bm M) (n wx wy : Nat) : Mt.Bm (shf n wx wy M) := cl_bm (fun i j => hM i (wx + j)) n wy
section
variable {n wx wy l t c : Nat} {M : Nat → Nat → Nat}
theorem tau_comm (p l i : Nat) : Mt.tau p l i = Mt.tau l p i := by
  unfold Mt.tau
  by_cases e1 : i = l <;> by_cases e2 : i = p
  · rw [if_pos e1, if_pos e2]; omega
  · rw [if_pos e1, if_neg e2, if_pos e1]
  · rw [if_neg e1, if_pos e2, if_pos e2]
  · rw [if_neg e1, if_neg e2, if_neg e2, if_neg e1]
theorem swp_cl (hl : l < n) (ht : t < n) {i j : Nat} (hi : i < n) : Mt.swp (cl n wx M) l t i j = cl n wx (Mt.swp M t l) i j := by
  rw [Mt.swp_tau]
  by_cases h : j < wx
  · rw [cl_in (Mt.tau_lt hl ht hi) h, cl_in hi h, Mt.swp_tau, tau_comm]
  · rw [cl_up n wx _ _ j (by omega), cl_up n wx _ i j (by omega)]
theorem swp_shf (hl : l < n) (ht : t < n) {i j : Nat} (hi : i < n) : Mt.swp (shf n wx wy M) l t i j = shf n wx wy (Mt.swp M t l) i j := by
  unfold shf
  rw [swp_cl (M := fun i j => M i (wx + j)) hl ht hi]; rfl
theorem lead_x (hl : l < n) (ht : t < n) (hc : c < wx) {i j : Nat} (hi : i < n) :
    ldg (Mt.swp (cl n wx M) l t) (fun j => Gf.mul (Mt.swp (cl n wx M) l t l j) (Mt.iv (Mt.swp (cl n wx M) l t l c))) (fun i => Mt.swp (cl n wx M) l t i c) l n i j = cl n wx (Mt.ldd (Mt.swp M t l) l c) i j := by
  show (if i = l then Gf.mul (Mt.swp (cl n wx M) l t l j) (Mt.iv (Mt.swp (cl n wx M) l t l c)) else if i < n then Mt.swp (cl n wx M) l t i j ^^^ Gf.mul (Gf.mul (Mt.swp (cl n wx M) l t l j) (Mt.iv (Mt.swp (cl n wx M) l t l c))) (Mt.swp (cl n wx M) l t i c) else Mt.swp (cl n wx M) l t i j) = _
  by_cases h : j < wx
  · rw [swp_cl hl ht hl, swp_cl hl ht hl, swp_cl hl ht hi, swp_cl hl ht hi, cl_in hl h, cl_in hl hc, cl_in hi h, cl_in hi hc, cl_in hi h]
    unfold Mt.ldd
    by_cases e : i = l
    · rw [if_pos e, if_pos e]
    · rw [if_neg e, if_neg e, if_pos hi]
  · rw [swp_cl hl ht hl, swp_cl hl ht hi, cl_up n wx _ l j (by omega), cl_up n wx _ i j (by omega), cl_up n wx _ i j (by omega), Gf.zero_mul]
    split
    · rfl
    · rw [Gf.zero_mul]; rfl
theorem lead_y (hl : l < n) (ht : t < n) (hc : c < wx) {i j : Nat} (hi : i < n) :
    ldg (Mt.swp (shf n wx wy M) l t) (fun j => Gf.mul (Mt.swp (shf n wx wy M) l t l j) (Mt.iv (Mt.swp (cl n wx M) l t l c))) (fun i => Mt.swp (cl n wx M) l t i c) l n i j = shf n wx wy (Mt.ldd (Mt.swp M t l) l c) i j := by
  show (if i = l then Gf.mul (Mt.swp (shf n wx wy M) l t l j) (Mt.iv (Mt.swp (cl n wx M) l t l c)) else if i < n then Mt.swp (shf n wx wy M) l t i j ^^^ Gf.mul (Gf.mul (Mt.swp (shf n wx wy M) l t l j) (Mt.iv (Mt.swp (cl n wx M) l t l c))) (Mt.swp (cl n wx M) l t i c) else Mt.swp (shf n wx wy M) l t i j) = _
  by_cases h : j < wy
  · rw [swp_shf hl ht hl, swp_cl hl ht hl, swp_shf hl ht hi, swp_cl hl ht hi, cl_in hl hc, cl_in hi hc]
    unfold shf
    rw [cl_in hl h, cl_in hi h, cl_in hi h]
    unfold Mt.ldd
    by_cases e : i = l
    · rw [if_pos e, if_pos e]
    · rw [if_neg e, if_neg e, if_pos hi]
  · have z : ∀ (A : Nat → Nat → Nat) i, shf n wx wy A i j = 0 := fun A i => cl_up n wy _ i j (by omega)
    rw [swp_shf hl ht hl, swp_shf hl ht hi, z, z, z, Gf.zero_mul]
    split
    · rfl
    · rw [Gf.zero_mul]; rfl
end

/-- two matrices turned alike: what stands in memory. -/
structure XY (w : World) (Hy GX GY n cx cy wx wy : Nat) (bx by' : Nat → Nat) (wr : World) (X Y : Nat → Nat → Nat) : Prop where
  gx : Gr wr w.heap.size GX n cx bx (fun _ => wx) (fun _ => wx) X
  gy : Gr wr Hy GY n cy by' (fun _ => wy) (fun _ => wy) Y
  hG : GX < Hy
  hb : ∀ i, i < n → bx i < Hy
  hy : w.heap.size ≤ Hy
  be : Below w.heap.size w wr
section
variable {w wr w' : World} {Hy GX GY n cx cy wx wy : Nat} {bx by' : Nat → Nat} {X Y : Nat → Nat → Nat}
theorem XY.drewN (h : XY w Hy GX GY n cx cy wx wy bx by' wr X Y) (q : Nat) : XY w Hy GX GY n cx cy wx wy bx by' (wr.drewN q) X Y := ⟨h.gx.drewN q, h.gy.drewN q, h.hG, h.hb, h.hy, below_dr h.be q⟩
theorem XY.congr (h : XY w Hy GX GY n cx cy wx wy bx by' wr X Y) {X' Y' : Nat → Nat → Nat} (hX : Mt.Bm X') (hY : Mt.Bm Y') (e1 : ∀ i j, i < n → X i j = X' i j) (e2 : ∀ i j, i < n → Y i j = Y' i j) : XY w Hy GX GY n cx cy wx wy bx by' wr X' Y' :=
  ⟨h.gx.congr hX e1, h.gy.congr hY e2, h.hG, h.hb, h.hy, h.be⟩
theorem XY.setx (h : XY w Hy GX GY n cx cy wx wy bx by' wr X Y) {r : Nat} (hr : r < n) (hg : wr.grownBy w' (some (bx r))) {x : Nat → Nat} (hx : Bl w' (bx r) wx wx x) (hy : Pf.By x) (hu : Pf.Up x wx) : XY w Hy GX GY n cx cy wx wy bx by' w' (fun i j => if i = r then x j else X i j) Y :=
  ⟨h.gx.rowset hr hg hx hy hu, h.gy.grown hg (by have := h.gy.lo.1; have := h.hb r hr; simp; omega) (fun i hi => by have := h.gy.lo.2 i hi; have := h.hb r hr; simp; omega), h.hG, h.hb, h.hy, h.be.grown hg h.be.size (fun k e => by cases e; exact h.gx.lo.2 r hr)⟩
theorem XY.sety (h : XY w Hy GX GY n cx cy wx wy bx by' wr X Y) {r : Nat} (hr : r < n) (hg : wr.grownBy w' (some (by' r))) {x : Nat → Nat} (hx : Bl w' (by' r) wy wy x) (hy : Pf.By x) (hu : Pf.Up x wy) : XY w Hy GX GY n cx cy wx wy bx by' w' X (fun i j => if i = r then x j else Y i j) :=
  ⟨h.gx.grown hg (by have := h.hG; have := h.gy.lo.2 r hr; simp; omega) (fun i hi => by have := h.hb i hi; have := h.gy.lo.2 r hr; simp; omega), h.gy.rowset hr hg hx hy hu, h.hG, h.hb, h.hy, h.be.grown hg h.be.size (fun k e => by cases e; exact Nat.le_trans h.hy (h.gy.lo.2 r hr))⟩
theorem XY.swapx (h : XY w Hy GX GY n cx cy wx wy bx by' wr X Y) {p l : Nat} (hp : p < n) (hl : l < n) :
    XY w Hy GX GY n cx cy wx wy (fun i => bx (Mt.tau p l i)) by' ((wr.setCell ⟨GX, l, none⟩ (.slice (some ⟨bx p, 0, none⟩) wx wx)).setCell ⟨GX, p, none⟩ (.slice (some ⟨bx l, 0, none⟩) wx wx)) (Mt.swp X p l) Y := by
  have hoth : ∀ k, k ≠ GX → ((wr.setCell ⟨GX, l, none⟩ (.slice (some ⟨bx p, 0, none⟩) wx wx)).setCell ⟨GX, p, none⟩ (.slice (some ⟨bx l, 0, none⟩) wx wx)).heap[k]? = wr.heap[k]? := fun k hk =>
    (Below.heap_setCell _ ⟨GX, p, none⟩ _ k hk).trans (Below.heap_setCell _ ⟨GX, l, none⟩ _ k hk)
  have h1 := h.hG
  exact ⟨h.gx.swap hp hl, h.gy.kept (hoth _ (by have := h.gy.lo.1; omega)) (fun i hi => hoth _ (by have := h.gy.lo.2 i hi; omega)), h.hG, fun i hi => h.hb _ (Mt.tau_lt hp hl hi), h.hy, (h.be.setCell (p := ⟨GX, l, none⟩) h.gx.lo.1 _).setCell (p := ⟨GX, p, none⟩) h.gx.lo.1 _⟩
theorem XY.swapy (h : XY w Hy GX GY n cx cy wx wy bx by' wr X Y) {p l : Nat} (hp : p < n) (hl : l < n) :
    XY w Hy GX GY n cx cy wx wy bx (fun i => by' (Mt.tau p l i)) ((wr.setCell ⟨GY, l, none⟩ (.slice (some ⟨by' p, 0, none⟩) wy wy)).setCell ⟨GY, p, none⟩ (.slice (some ⟨by' l, 0, none⟩) wy wy)) X (Mt.swp Y p l) := by
  have hoth : ∀ k, k ≠ GY → ((wr.setCell ⟨GY, l, none⟩ (.slice (some ⟨by' p, 0, none⟩) wy wy)).setCell ⟨GY, p, none⟩ (.slice (some ⟨by' l, 0, none⟩) wy wy)).heap[k]? = wr.heap[k]? := fun k hk =>
    (Below.heap_setCell _ ⟨GY, p, none⟩ _ k hk).trans (Below.heap_setCell _ ⟨GY, l, none⟩ _ k hk)
  have h1 := h.gy.lo.1
  have h2 := h.hy
  exact ⟨h.gx.kept (hoth _ (by have := h.hG; omega)) (fun i hi => hoth _ (by have := h.hb i hi; omega)), h.gy.swap hp hl, h.hG, h.hb, h.hy, (h.be.setCell (p := ⟨GY, l, none⟩) (by show w.heap.size ≤ GY; omega) _).setCell (p := ⟨GY, p, none⟩) (by show w.heap.size ≤ GY; omega) _⟩
end
theorem rinv_nat (x : Nat) (hx : x < 256) (w : World) :
    Calls Try.prog 51 #[.int .u8 x] w fun e w' => e = .returned (.tuple #[.int .u8 (Mt.iv x : Nat), .int .i64 (zeroErr x)]) ∧ w' = w := by
  have h := rinv_any x (by omega) (by omega) w
  rw [invOf_nat] at h; exact h
theorem swp_up {X : Nat → Nat → Nat} {n k p l : Nat} (h : ∀ i, i < n → Pf.Up (X i) k) (hp : p < n) (hl : l < n) : ∀ i, i < n → Pf.Up (Mt.swp X p l i) k := fun i hi j hj => by
  rw [Mt.swp_tau]; exact h _ (Mt.tau_lt hp hl hi) j hj
end Go.Proofs.Ytgflpfopiofjeaa
