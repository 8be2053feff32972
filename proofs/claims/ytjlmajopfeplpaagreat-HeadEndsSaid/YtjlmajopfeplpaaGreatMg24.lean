import Derived.Deep.RegionWith
import Derived.Deep.DeepCutAuto
import Derived.Test.YtjlmajopfeplpaaGreatMg20
import Derived.Test.YtjlmajopfeplpaaGreatMg23
namespace Go.Proofs.YtjlmajopfeplpaaGreat.Pf
open Gf
/-- K rows of a table, by whichever bytes. -/
theorem tbl_two {R : Nat → Nat} {K : Nat} (hR : By R) (hd : Dst R K) (hK : K ≤ 256) : Mt.Two K (fun j b => lw R K (idn j) b) (fun a j => lw idn K (R a) j) := by
  have hp : ∀ (P Q : Nat → Nat), By P → By Q → Dst P K → Dst Q K → ∀ x, x < 256 → ∀ b, b < K → xsum (fun j => mul (lw P K x j) (lw Q K (P j) b)) K = lw Q K x b := fun P Q hP hQ hdP hdQ x hx b hb => by
    rw [← lbp_ev hQ hx hb]
    exact (lagrange hP hdP (p := lbp Q K b) (v := fun j => lw Q K (P j) b) (lbp_by hQ K b) (lbp_up hb) (fun j => lw_by hQ K (hP j) b) (fun i hi => lbp_ev hQ (hP i) hb) hx).symm
  refine ⟨fun i j => lw_by hR K (idn_by i) j, fun i j => lw_by idn_by K (hR i) j, fun i j hi hj => ?_, fun i j hi hj => ?_⟩
  · show xsum (fun k => mul (lw R K (idn i) k) (lw idn K (R k) j)) K = _
    rw [hp R idn hR idn_by hd (idn_dst hK) _ (idn_by i) j hj, lw_at idn_by (idn_dst hK) hj hi]
    unfold Mt.dl
    by_cases e : j = i
    · rw [if_pos e, if_pos e.symm]
    · rw [if_neg e, if_neg (Ne.symm e)]
  · show xsum (fun k => mul (lw idn K (R i) k) (lw R K (idn k) j)) K = _
    rw [hp idn R idn_by hR (idn_dst hK) hd _ (hR i) j hj, lw_at hR hd hj hi]
    unfold Mt.dl
    by_cases e : j = i
    · rw [if_pos e, if_pos e.symm]
    · rw [if_neg e, if_neg (Ne.symm e)]
/-- their rank. -/
theorem tbl_rk {R : Nat → Nat} {K : Nat} (hR : ∀ i, i < K → R i < 256) (hd : Dst R K) (hK : K ≤ 256) : Mt.rk K K (fun i => tbl K (R i)) = K := by
  have hd2 : Dst (fun i => R i % 256) K := fun i j h1 h2 => by
    show R i % 256 ≠ R j % 256
    rw [Nat.mod_eq_of_lt (hR i (by omega)), Nat.mod_eq_of_lt (hR j h2)]; exact hd i j h1 h2
  exact Mt.rk_two (tbl_two (R := fun i => R i % 256) (fun i => Nat.mod_lt _ (by omega)) hd2 hK).turn
theorem isP_no {P : Nat → Nat} {x : Nat} : ∀ k, isP P x k = false → ∀ j, j < k → P j ≠ x
  | 0, _, _, h => by omega
  | k + 1, h, j, hj => by
    unfold isP at h
    rw [Bool.or_eq_false_iff] at h
    by_cases e : j = k
    · rw [e]; exact of_decide_eq_false h.2
    · exact isP_no k h.1 j (by omega)
theorem isP_congr {P Q : Nat → Nat} {x : Nat} : ∀ k, (∀ j, j < k → P j = Q j) → isP P x k = isP Q x k
  | 0, _ => rfl
  | k + 1, h => by
    unfold isP; rw [isP_congr k (fun j hj => h j (by omega)), h k (by omega)]
theorem isP_lt {P : Nat → Nat} {x k j : Nat} (hj : j < k) (e : P j = x) : isP P x k = true := by
  cases h : isP P x k
  · exact absurd e (isP_no k h j hj)
  · rfl
end Go.Proofs.YtjlmajopfeplpaaGreat.Pf
namespace Go.Proofs.YtjlmajopfeplpaaGreat
open Go.RowKit Go.Shelf

/-- a block of numbers. -/
def Bi (w : World) (g n : Nat) (h : Nat → Int) : Prop := ∃ vs : Array Value, w.heap[g]? = some (.cells vs 3 (0, 0)) ∧ vs.size = n ∧ ∀ i, i < n → vs[i]? = some (.int .i64 (h i))
section
variable {w w' : World} {g n : Nat} {h : Nat → Int}
theorem Bi.cell (b : Bi w g n h) {i : Nat} (hi : i < n) : w.cell? ⟨g, i, none⟩ = some (.int .i64 (h i)) := by
  obtain ⟨vs, h1, h2, h3⟩ := b
  rw [cell_of_row w g i vs _ _ h1]; exact h3 i hi
theorem Bi.free (b : Bi w g n h) (i : Nat) : w.frozen? ⟨g, i, none⟩ = false := by
  obtain ⟨vs, h1, _⟩ := b
  exact frozen_of_row w g i vs _ h1
theorem Bi.lt (b : Bi w g n h) : g < w.heap.size := by
  obtain ⟨vs, h1, _⟩ := b
  exact (Array.getElem?_eq_some_iff.1 h1).1
theorem Bi.kept (b : Bi w g n h) (hk : w'.heap[g]? = w.heap[g]?) : Bi w' g n h := by
  obtain ⟨vs, h1, h2⟩ := b
  exact ⟨vs, hk.trans h1, h2⟩
theorem Bi.congr {h' : Nat → Int} (b : Bi w g n h) (he : ∀ i, i < n → h i = h' i) : Bi w g n h' := by
  obtain ⟨vs, h1, h2, h3⟩ := b
  exact ⟨vs, h1, h2, fun i hi => by rw [← he i hi]; exact h3 i hi⟩
theorem Bi.set (b : Bi w g n h) {j : Nat} (hj : j < n) (v : Int) : Bi (w.setCell ⟨g, j, none⟩ (.int .i64 v)) g n (fun i => if i = j then v else h i) := by
  obtain ⟨vs, h1, h2, h3⟩ := b
  refine ⟨vs.setIfInBounds j (.int .i64 v), heap_setCell_same w g j vs _ _ h1, by simpa using h2, fun i hi => ?_⟩
  rw [Array.getElem?_setIfInBounds]
  show _ = some (Value.int .i64 (if i = j then v else h i))
  by_cases e : j = i
  · subst e; rw [if_pos rfl, if_pos (by omega), if_pos rfl]
  · rw [if_neg e, if_neg (fun hh => e (Eq.symm hh))]; exact h3 i hi
end
theorem bi_made (W : World) (N : Nat) : Bi (W.alloc (.cells (madeCells #[.int .i64 0] N) 3)) W.heap.size N (fun _ => 0) :=
  ⟨_, heap_alloc_new W _, size_madeCells _ _, fun i hi => by
    have : (madeCells #[Value.int .i64 0] N).toList[i]? = some (.int .i64 0) := by rw [toList_madeCells_one, List.getElem?_replicate, if_pos hi]
    rwa [Array.getElem?_toList] at this⟩
theorem Tryz.infoInt : (Tryz.prog.info? 3).map (fun i => (i.zero, i.size, i.bytes)) = some (some (.int .i64 0), 1, 8) := by kernel_rfl
theorem hmkI (N : Nat) (hN : N ≤ 1000000000) : ∀ W : World, (Instr.makeSlice 22 (.int .i64 (N : Nat)) (.int .i64 (N : Nat))).run Tryz.prog W = .ok (.slice (some ⟨W.heap.size, 0, none⟩) N N) (W.alloc (.cells (madeCells #[.int .i64 0] N) 3)) := fun W => by
  obtain ⟨i0, hi, hz0, hz1, hz2⟩ := info_parts Tryz.infoInt
  have := run_make (P := Tryz.prog) W 22 3 i0 (.int .i64 0) Tryz.underlying22 hi hz0 .i64 .i64 (N : Int) (N : Int) (by omega) (Int.le_refl _) (by rw [hz2]; omega) (by omega)
  have e : (Value.int .i64 0).cells = #[.int .i64 0] := rfl
  rw [hz1, e, Int.toNat_natCast, Nat.mul_one] at this; exact this
/-- a list of rows of a table. -/
def rowl (b : Nat → Nat) (K : Nat) (R : Nat → Nat) (m : Nat) : List Value := (List.range m).map fun i => Value.slice (some ⟨b (R i), 0, none⟩) K K
theorem rowl_succ (b : Nat → Nat) (K : Nat) (R : Nat → Nat) (m : Nat) : rowl b K R (m + 1) = rowl b K R m ++ [Value.slice (some ⟨b (R m), 0, none⟩) K K] := by
  unfold rowl; rw [List.range_succ, List.map_append]; rfl
theorem rowl_congr (b : Nat → Nat) (K : Nat) {R R' : Nat → Nat} {m : Nat} (h : ∀ i, i < m → R i = R' i) : rowl b K R m = rowl b K R' m := by
  unfold rowl
  exact List.map_congr_left fun i hi => by rw [h i (List.mem_range.1 hi)]
theorem rowl_rd {w : World} {B G N cap m sc K : Nat} {b : Nat → Nat} {R : Nat → Nat} {f : Nat → Nat → Nat} {sa : Option Addr} (ho : w.ownsRow B 28 1 (.slice sa m sc) m (rowl b K R m)) {B' : Nat} (hG : Gr w B' G N cap b (fun _ => K) (fun _ => K) f) (hR : ∀ i, i < m → R i < N) :
    Rd w sa m sc (fun i => some ⟨b (R i), 0, none⟩) (fun _ => K) (fun _ => K) (fun i => f (R i)) := by
  obtain ⟨_, ⟨e, h0⟩ | ⟨g, cap', cur, e, hg, hh, hnc, hcm, hs, ht⟩⟩ := ho
  · simp only [Value.slice.injEq] at e
    obtain ⟨rfl, rfl, rfl⟩ := e
    exact ⟨Nat.le_refl _, by unfold maxLen; omega, fun i j => hG.bm _ _, fun _ => ⟨rfl, rfl⟩, fun _ e => (by cases e), fun _ e => (by cases e), fun i hi => absurd hi (Nat.not_lt_zero i)⟩
  · simp only [Value.slice.injEq, true_and] at e
    obtain ⟨rfl, rfl⟩ := e
    refine ⟨by omega, hcm, fun i j => hG.bm _ _, fun e => (by cases e), fun ad e _ => (by cases e; rfl), fun ad e i hi => ?_, fun i hi => ?_⟩
    · cases e
      show w.cell? ⟨g, 0 + i, none⟩ = _
      rw [Nat.zero_add, cell_of_row w g i cur _ _ hh]
      have : (cur.toList.take (m * 1))[i]? = some (.slice (some ⟨b (R i), 0, none⟩) K K) := by rw [ht]; simp [rowl, hi]
      rw [List.getElem?_take, if_pos (by omega), Array.getElem?_toList] at this
      exact this
    · exact (hG.row (R i) (hR i hi)).sl (Nat.le_refl _) (hG.lc (R i) (hR i hi)).2 (hG.bm _) (hG.up (R i) (hR i hi))
end Go.Proofs.YtjlmajopfeplpaaGreat

namespace Go.Proofs.YtjlmajopfeplpaaGreat.Pf
open Gf
/-- values at t of rows that are held at the points R: the polynomials, place by place. -/
def mv (R : Nat → Nat) (K : Nat) (g : Nat → Nat → Nat) (t j : Nat) : Nat := xsum (fun p => mul (lw R K t p) (g p j)) K
section
variable {R : Nat → Nat} {K : Nat}
theorem mv_bm (hR : By R) {g : Nat → Nat → Nat} (hg : Mt.Bm g) {t : Nat} (ht : t < 256) : By (mv R K g t) := fun j => xsum_lt K fun p _ => mul_lt (lw_by hR K ht p) (hg p j)
theorem mv_up {g : Nat → Nat → Nat} {wi : Nat} (hg : ∀ p, p < K → Up (g p) wi) (t : Nat) : Up (mv R K g t) wi := fun j hj => xsum_zero K fun p hp => by rw [hg p hp j hj, mul_zero]
theorem mv_congr {g g' : Nat → Nat → Nat} (h : ∀ p j, p < K → g p j = g' p j) (t : Nat) : mv R K g t = mv R K g' t := funext fun j => xsum_congr K fun p hp => by rw [h p j hp]
theorem mv_points {R' : Nat → Nat} (h : ∀ j, j < K → R j = R' j) (g : Nat → Nat → Nat) (t : Nat) : mv R K g t = mv R' K g t := by
  unfold mv; rw [lw_congr h]
theorem mv_dot (g : Nat → Nat → Nat) (t j : Nat) : mv R K g t j = dotN (lw R K t) (fun p => g p j) K := rfl
/-- at a point itself stands what is held there. -/
theorem mv_at (hR : By R) (hd : Dst R K) {g : Nat → Nat → Nat} (hg : Mt.Bm g) {i : Nat} (hi : i < K) : mv R K g (R i) = g i := funext fun j => by
  unfold mv
  rw [xsum_one K hi (fun p hp hne => by rw [lw_at hR hd hp hi, if_neg hne, zero_mul]), lw_at hR hd hi hi, if_pos rfl, mul_one _ (hg i j)]
/-- from points to other points, and on from these, is the way straight on. -/
theorem mv_mv {Q : Nat → Nat} (hR : By R) (hQ : By Q) (_hdR : Dst R K) (hdQ : Dst Q K) {g : Nat → Nat → Nat} (hg : Mt.Bm g) {t : Nat} (ht : t < 256) : mv Q K (fun p => mv R K g (Q p)) t = mv R K g t := funext fun j => by
  have e : ∀ b, b < K → xsum (fun p => mul (lw Q K t p) (lw R K (Q p) b)) K = lw R K t b := fun b hb => by
    rw [← lbp_ev hR ht hb]
    exact (lagrange hQ hdQ (p := lbp R K b) (v := fun p => lw R K (Q p) b) (lbp_by hR K b) (lbp_up hb) (fun p => lw_by hR K (hQ p) b) (fun i hi => lbp_ev hR (hQ i) hb) ht).symm
  have a := Mt.mm_assoc (A := fun _ p => lw Q K t p) (B := fun p b => lw R K (Q p) b) (C := g) (fun _ p => lw_by hQ K ht p) (fun p b => lw_by hR K (hQ p) b) hg K K 0 j
  show xsum (fun p => mul (lw Q K t p) (xsum (fun b => mul (lw R K (Q p) b) (g b j)) K)) K = _
  refine Eq.trans a.symm ?_
  show xsum (fun b => mul (xsum (fun p => mul (lw Q K t p) (lw R K (Q p) b)) K) (g b j)) K = _
  exact xsum_congr K fun b hb => by rw [e b hb]
/-- of sums. -/
theorem mv_xor {g g' : Nat → Nat → Nat} (t j : Nat) : mv R K (fun p j => g p j ^^^ g' p j) t j = mv R K g t j ^^^ mv R K g' t j := by
  unfold mv
  rw [← xsum_xor]
  exact xsum_congr K fun p _ => mul_xor _ _ _
/-- the matrix that turns symbols to their source. -/
theorem inv_lw (hR : ∀ i, i < K → R i < 256) (hd : Dst R K) (hK : K ≤ 256) {i j : Nat} (hi : i < K) (hj : j < K) : Mt.inv (fun i => tbl K (R i)) K i j = lw R K i j := by
  have hd2 : Dst (fun i => R i % 256) K := fun i j h1 h2 => by
    show R i % 256 ≠ R j % 256
    rw [Nat.mod_eq_of_lt (hR i (by omega)), Nat.mod_eq_of_lt (hR j h2)]; exact hd i j h1 h2
  have t := tbl_two (R := fun i => R i % 256) (fun i => Nat.mod_lt _ (by omega)) hd2 hK
  have b := Mt.inv_two (A := fun i => tbl K (R i)) (fun i j => tbl_bm K (R i) j) (tbl_rk hR hd hK)
  have := Mt.two_uniq b t hi hj
  rw [this]
  show lw (fun i => R i % 256) K (idn i) j = lw R K i j
  rw [idn_at (by omega), lw_congr (P' := R) (fun j hj => Nat.mod_eq_of_lt (hR j hj))]
end
end Go.Proofs.YtjlmajopfeplpaaGreat.Pf

namespace Go.Proofs.YtjlmajopfeplpaaGreat
open Go.RowKit Go.Shelf

section
variable {w w' : World} {cb fb G N K : Nat} {b : Nat → Nat}
end

/-- what asks rows: a function of a place. -/
structure Ask (w : World) (F lb n : Nat) (r : Nat → Option Addr) (l c : Nat → Nat) (f : Nat → Nat → Nat) : Prop where
  bm : Mt.Bm f
  ent : ∀ (args : Array Value) (W : World), (callFunc F args).run Tryz.prog W = .ok (.enter F args) W
  call : ∀ W, Below w.heap.size w W → ∀ k : Nat, k < n → Calls Tryz.prog F #[.int .i64 (k : Nat), .pointer (some ⟨lb, 0, none⟩)] W fun e W' => e = .returned (.slice (r k) (l k) (c k)) ∧ W' = W
  row : ∀ i, i < n → Sl w (r i) (l i) (c i) (f i)
theorem Ask.same {w w' : World} {F lb n : Nat} {r : Nat → Option Addr} {l c : Nat → Nat} {f : Nat → Nat → Nat} (h : Ask w F lb n r l c f) (hB : Below w.heap.size w w') : Ask w' F lb n r l c f :=
  ⟨h.bm, h.ent, fun W hW => h.call W (hB.trans (hW.mono hB.size)), fun i hi => (h.row i hi).same hB⟩

def EvenSays (n : Nat) (l : Nat → Nat) (e : Ending) : Prop := ∃ v : Bool, e = .returned (.bool v) ∧ (v = true ↔ ∀ i, i < n → l i = l 0)
/-- rows that are a source. -/
def IsS (n K : Nat) (l : Nat → Nat) : Prop := n = K ∧ ∀ i, i < n → l i = l 0
def TakeSays (n K : Nat) (l : Nat → Nat) (e : Ending) : Prop := ∃ v : Bool, e = .returned (.bool v) ∧ (v = true ↔ IsS n K l)
end Go.Proofs.YtjlmajopfeplpaaGreat

namespace Go.Proofs.YtjlmajopfeplpaaGreat
open Go.RowKit Go.Shelf

/-- a sum of rows, each by its weight. -/
def smv (wt : Nat → Nat) (f : Nat → Nat → Nat) (m j : Nat) : Nat := Pf.xsum (fun p => Gf.mul (wt p) (f p j)) m
theorem smv_by {wt : Nat → Nat} {f : Nat → Nat → Nat} (hw : Pf.By wt) (hf : Mt.Bm f) (m : Nat) : Pf.By (smv wt f m) := fun j => Pf.xsum_lt m fun p _ => Gf.mul_lt (hw p) (hf p j)
theorem smv_up {wt : Nat → Nat} {f : Nat → Nat → Nat} {m wi : Nat} (hf : ∀ p, p < m → Pf.Up (f p) wi) : Pf.Up (smv wt f m) wi := fun j hj => Pf.xsum_zero m fun p hp => by rw [hf p hp j hj, Gf.mul_zero]
theorem smv_skip {wt : Nat → Nat} {f : Nat → Nat → Nat} {k : Nat} (h : wt k = 0) (j : Nat) : smv wt f k j = smv wt f (k + 1) j := by
  show _ = smv wt f k j ^^^ Gf.mul (wt k) (f k j)
  rw [h, Gf.zero_mul, Nat.xor_zero]
/-- amid a row. -/
def smd (wt : Nat → Nat) (f : Nat → Nat → Nat) (k j i : Nat) : Nat := if i < j then smv wt f (k + 1) i else smv wt f k i
theorem smd_by {wt : Nat → Nat} {f : Nat → Nat → Nat} (hw : Pf.By wt) (hf : Mt.Bm f) (k j : Nat) : Pf.By (smd wt f k j) := fun i => by
  unfold smd; split
  · exact smv_by hw hf _ i
  · exact smv_by hw hf _ i
theorem smd_s (wt : Nat → Nat) (f : Nat → Nat → Nat) (k j i : Nat) : (if i = j then smd wt f k j j ^^^ Gf.mul (wt k) (f k j) else smd wt f k j i) = smd wt f k (j + 1) i := by
  unfold smd
  by_cases e : i = j
  · subst e; rw [if_pos rfl, if_neg (by omega), if_pos (by omega)]; rfl
  · rw [if_neg e]
    by_cases h : i < j
    · rw [if_pos h, if_pos (by omega)]
    · rw [if_neg h, if_neg (by omega)]

theorem ask_row {w W : World} {F lb n wi k : Nat} {r : Nat → Option Addr} {l c : Nat → Nat} {f : Nat → Nat → Nat} (h : Ask w F lb n r l c f) (he : ∀ i, i < n → l i = wi) (hk : k < n) (hB : Below w.heap.size w W) : Sl W (r k) wi (c k) (f k) := by
  have := h.row k hk
  rw [he k hk] at this
  exact this.same hB
/-- the first k sums. -/
def smk (M f : Nat → Nat → Nat) (ml : Nat → Nat) (k i j : Nat) : Nat := if i < k then smv (M i) f (ml i) j else 0
theorem smk_bm {M f : Nat → Nat → Nat} (hM : Mt.Bm M) (hf : Mt.Bm f) (ml : Nat → Nat) (k : Nat) : Mt.Bm (smk M f ml k) := fun i j => by
  unfold smk; split
  · exact smv_by (hM i) hf _ j
  · omega

/-- a list of rows, in new memory. -/
def SumsSays (w : World) (m wi : Nat) (F : Nat → Nat → Nat) (e : Ending) (w' : World) : Prop := ∃ G b, e = .returned (.slice (some ⟨G, 0, none⟩) m m) ∧ Gr w' w.heap.size G m m b (fun _ => wi) (fun _ => wi) F ∧ Below w.heap.size w w'

end Go.Proofs.YtjlmajopfeplpaaGreat

namespace Go.Proofs.YtjlmajopfeplpaaGreat
open Go.RowKit Go.Shelf

/-- indexes of n symbols, all of them. -/
def InR (h : Nat → Int) (m N : Nat) : Prop := ∀ i, i < m → 0 ≤ h i ∧ h i < N
/-- no two the same. -/
def DsI (h : Nat → Int) (m : Nat) : Prop := ∀ i j, i < j → j < m → h i ≠ h j
/-- what is wrong with indexes, if anything. -/
def Chk (h : Nat → Int) (m N K : Nat) (E : Int) : Prop := (¬ InR h m N ∧ E = 2) ∨ (InR h m N ∧ ¬ DsI h m ∧ E = 9) ∨ (InR h m N ∧ DsI h m ∧ m < K ∧ E = 8) ∨ (InR h m N ∧ DsI h m ∧ K ≤ m ∧ E = 0)
theorem Chk.uniq {h : Nat → Int} {m N K : Nat} {E E' : Int} (a : Chk h m N K E) (b : Chk h m N K E') : E = E' := by
  rcases a with ⟨a1, rfl⟩ | ⟨a1, a2, rfl⟩ | ⟨a1, a2, a3, rfl⟩ | ⟨a1, a2, a3, rfl⟩ <;> rcases b with ⟨b1, rfl⟩ | ⟨b1, b2, rfl⟩ | ⟨b1, b2, b3, rfl⟩ | ⟨b1, b2, b3, rfl⟩ <;> first | rfl | exact absurd b1 a1 | exact absurd a1 b1 | exact absurd b2 a2 | exact absurd a2 b2 | omega
/-- is x one of the first t? -/
def hit (h : Nat → Int) (x : Int) : Nat → Bool
  | 0 => false
  | t + 1 => hit h x t || decide (h t = x)
theorem hit_yes {h : Nat → Int} {x : Int} : ∀ t, hit h x t = true → ∃ i, i < t ∧ h i = x
  | 0, e => by cases e
  | t + 1, e => by
    unfold hit at e
    rw [Bool.or_eq_true] at e
    rcases e with e | e
    · obtain ⟨i, h1, h2⟩ := hit_yes t e
      exact ⟨i, by omega, h2⟩
    · exact ⟨t, by omega, of_decide_eq_true e⟩
theorem hit_no {h : Nat → Int} {x : Int} : ∀ t, hit h x t = false → ∀ i, i < t → h i ≠ x
  | 0, _, i, hi => by omega
  | t + 1, e, i, hi => by
    unfold hit at e
    rw [Bool.or_eq_false_iff] at e
    by_cases c : i = t
    · rw [c]; exact of_decide_eq_false e.2
    · exact hit_no t e.1 i (by omega)
/-- the cells of what was seen, of nothing. -/
def zerosB : Array Value := Array.replicate 255 (.bool false)
/-- what was seen. -/
def Sn (w : World) (g : Nat) (h : Nat → Int) (t : Nat) : Prop := ∀ j, j < 255 → w.cell? ⟨g, j, none⟩ = some (.bool (hit h (j : Nat) t)) ∧ w.frozen? ⟨g, j, none⟩ = false
theorem Sn.set {w : World} {g : Nat} {h : Nat → Int} {t j : Nat} (s : Sn w g h t) (hj : j < 255) (he : h t = (j : Nat)) : Sn (w.setCell ⟨g, j, none⟩ (.bool true)) g h (t + 1) := fun i hi => by
  refine ⟨?_, by rw [World.frozen?_setCell]; exact (s i hi).2⟩
  by_cases e : i = j
  · subst e
    rw [World.cell?_setCell_same _ _ _ (s i hi).1]
    simp [hit, he]
  · rw [World.cell?_setCell_other _ _ _ _ (by intro hh; cases hh; exact e rfl), (s i hi).1]
    have : ¬ h t = (i : Nat) := by omega
    simp [hit, this]

def ChkSays (h : Nat → Int) (m N K : Nat) (e : Ending) : Prop := ∃ E : Int, e = .returned (.int .i64 E) ∧ Chk h m N K E

/-- the points of indexes. -/
def pts (h : Nat → Int) (i : Nat) : Nat := (h i).toNat % 256
theorem pts_by (h : Nat → Int) : Pf.By (pts h) := fun _ => Nat.mod_lt _ (by omega)
theorem pts_at {h : Nat → Int} {m N i : Nat} (hr : InR h m N) (hN : N ≤ 255) (hi : i < m) : pts h i = (h i).toNat := by
  have := hr i hi
  unfold pts; omega
theorem pts_dst {h : Nat → Int} {m N K : Nat} (hr : InR h m N) (hd : DsI h m) (hN : N ≤ 255) (hK : K ≤ m) : Pf.Dst (pts h) K := fun i j hij hj => by
  have h1 := hr i (by omega); have h2 := hr j (by omega)
  rw [pts_at hr hN (by omega), pts_at hr hN (by omega)]
  have := hd i j hij (by omega)
  omega
/-- the matrix that turns symbols back. -/
def trn (h : Nat → Int) (K i j : Nat) : Nat := if i < K then Pf.lw (pts h) K i j else 0
theorem trn_bm (h : Nat → Int) {K : Nat} (hK : K ≤ 256) : Mt.Bm (trn h K) := fun i j => by
  unfold trn; split
  · exact Pf.lw_by (pts_by h) K (by omega) j
  · omega
/-- a list of which the first t rows are the table's rows R. -/
def Pk (w : World) (g K t : Nat) (b R : Nat → Nat) : Prop := ∃ vs : Array Value, w.heap[g]? = some (.cells vs 28 (0, 0)) ∧ vs.size = K ∧ ∀ i, i < t → vs[i]? = some (.slice (some ⟨b (R i), 0, none⟩) K K)
theorem Pk.made (w : World) (K : Nat) (b R : Nat → Nat) : Pk (w.alloc (.cells (madeCells #[.slice none 0 0] K) 28)) w.heap.size K 0 b R := ⟨_, heap_alloc_new _ _, size_madeCells _ _, fun i hi => absurd hi (Nat.not_lt_zero i)⟩
theorem Pk.cell {w : World} {g K t i : Nat} {b R : Nat → Nat} (h : Pk w g K t b R) (hi : i < K) : ∃ v, w.cell? ⟨g, i, none⟩ = some v := by
  obtain ⟨vs, h1, h2, _⟩ := h
  refine ⟨vs[i]'(by omega), ?_⟩
  rw [cell_of_row w g i vs _ _ h1]
  simp [show i < vs.size by omega]
theorem Pk.free {w : World} {g K t : Nat} {b R : Nat → Nat} (h : Pk w g K t b R) (i : Nat) : w.frozen? ⟨g, i, none⟩ = false := by
  obtain ⟨vs, h1, _⟩ := h
  exact frozen_of_row w g i vs _ h1
theorem Pk.set {w : World} {g K t : Nat} {b R : Nat → Nat} (h : Pk w g K t b R) (ht : t < K) : Pk (w.setCell ⟨g, t, none⟩ (.slice (some ⟨b (R t), 0, none⟩) K K)) g K (t + 1) b R := by
  obtain ⟨vs, h1, h2, h3⟩ := h
  refine ⟨vs.setIfInBounds t (.slice (some ⟨b (R t), 0, none⟩) K K), heap_setCell_same w g t vs _ _ h1, by simpa using h2, fun i hi => ?_⟩
  rw [Array.getElem?_setIfInBounds]
  by_cases e : t = i
  · subst e; rw [if_pos rfl, if_pos (by omega)]
  · rw [if_neg e]; exact h3 i (by omega)
theorem Pk.rd {w : World} {g K N G : Nat} {b R : Nat → Nat} (h : Pk w g K K b R) (hG : Gr w 0 G N N b (fun _ => K) (fun _ => K) (Pf.tbl K)) (hR : ∀ i, i < K → R i < N) (hK : K ≤ maxLen) :
    Rd w (some ⟨g, 0, none⟩) K K (fun i => some ⟨b (R i), 0, none⟩) (fun _ => K) (fun _ => K) (fun i => Pf.tbl K (R i)) := by
  obtain ⟨vs, h1, h2, h3⟩ := h
  refine ⟨Nat.le_refl _, hK, fun i j => hG.bm _ _, fun e => (by cases e), fun ad e _ => (by cases e; rfl), fun ad e i hi => ?_, fun i hi => (hG.row (R i) (hR i hi)).sl (Nat.le_refl _) (hG.lc (R i) (hR i hi)).2 (hG.bm _) (hG.up (R i) (hR i hi))⟩
  cases e
  show w.cell? ⟨g, 0 + i, none⟩ = _
  rw [Nat.zero_add, cell_of_row w g i vs _ _ h1]
  exact h3 i hi

/-- what is told of indexes: an error, or the matrix. -/
def TurnSays (h : Nat → Int) (m N K : Nat) (w : World) (e : Ending) (w' : World) : Prop :=
  (∃ E : Int, E ≠ 0 ∧ Chk h m N K E ∧ e = .returned (.tuple #[.slice none 0 0, .int .i64 E]) ∧ Below w.heap.size w w') ∨ (Chk h m N K 0 ∧ ∃ G b, e = .returned (.tuple #[.slice (some ⟨G, 0, none⟩) K K, .int .i64 0]) ∧ Gr w' w.heap.size G K K b (fun _ => K) (fun _ => K) (trn h K) ∧ Below w.heap.size w w')
theorem chk_ok {h : Nat → Int} {m N K : Nat} (c : Chk h m N K 0) : InR h m N ∧ DsI h m ∧ K ≤ m := by
  rcases c with ⟨_, e⟩ | ⟨_, _, e⟩ | ⟨_, _, _, e⟩ | ⟨h1, h2, h3, _⟩
  · cases e
  · cases e
  · cases e
  · exact ⟨h1, h2, h3⟩

end Go.Proofs.YtjlmajopfeplpaaGreat

namespace Go.Proofs.YtjlmajopfeplpaaGreat
open Go.RowKit Go.Shelf

/-- a source's symbols. -/
def enc (K : Nat) (f : Nat → Nat → Nat) (i : Nat) : Nat → Nat := Pf.mv Pf.idn K f (Pf.idn i)
theorem enc_bm {K : Nat} {f : Nat → Nat → Nat} (hf : Mt.Bm f) : Mt.Bm (enc K f) := fun i => Pf.mv_bm Pf.idn_by hf (Pf.idn_by i)
/-- a list of rows in new memory, and OK; or an error. -/
def Lst (w : World) (m wi : Nat) (F : Nat → Nat → Nat) (e : Ending) (w' : World) : Prop := ∃ G b, e = .returned (.tuple #[.slice (some ⟨G, 0, none⟩) m m, .int .i64 0]) ∧ Gr w' w.heap.size G m m b (fun _ => wi) (fun _ => wi) F ∧ Below w.heap.size w w'
def ErrL (w : World) (E : Int) (e : Ending) (w' : World) : Prop := e = .returned (.tuple #[.slice none 0 0, .int .i64 E]) ∧ Below w.heap.size w w'
def EncSays (n N K : Nat) (l : Nat → Nat) (f : Nat → Nat → Nat) (w : World) (e : Ending) (w' : World) : Prop := (¬ IsS n K l ∧ ErrL w 2 e w') ∨ (IsS n K l ∧ Lst w N (l 0) (enc K f) e w')

/-- one row in new memory, and OK. -/
def Row1 (w : World) (wi : Nat) (F : Nat → Nat) (e : Ending) (w' : World) : Prop := ∃ g, e = .returned (.tuple #[.slice (some ⟨g, 0, none⟩) wi wi, .int .i64 0]) ∧ w.heap.size ≤ g ∧ Bl w' g wi wi F ∧ Below w.heap.size w w'
def SymSays (n N K : Nat) (x : Int) (l : Nat → Nat) (f : Nat → Nat → Nat) (w : World) (e : Ending) (w' : World) : Prop := (¬ (IsS n K l ∧ 0 ≤ x ∧ x < N) ∧ ErrL w 2 e w') ∨ (IsS n K l ∧ 0 ≤ x ∧ x < N ∧ Row1 w (l 0) (enc K f x.toNat) e w')

end Go.Proofs.YtjlmajopfeplpaaGreat

namespace Go.Proofs.YtjlmajopfeplpaaGreat
open Go.RowKit Go.Shelf

/-- held symbols, as they read: indexes, rows. -/
structure Hs (w : World) (a : Option Addr) (m : Nat) (h : Nat → Int) (r : Nat → Option Addr) (l c : Nat → Nat) (f : Nat → Nat → Nat) : Prop where
  bm : Mt.Bm f
  cell : ∀ i, i < m → ∃ b o, a = some ⟨b, o, none⟩ ∧ w.cell? ⟨b, o + i * 2, none⟩ = some (.int .i64 (h i)) ∧ w.cell? ⟨b, o + i * 2 + 1, none⟩ = some (.slice (r i) (l i) (c i))
  row : ∀ i, i < m → Sl w (r i) (l i) (c i) (f i)
section
variable {w w' : World} {a : Option Addr} {m : Nat} {h : Nat → Int} {r : Nat → Option Addr} {l c : Nat → Nat} {f : Nat → Nat → Nat}
theorem Hs.same (s : Hs w a m h r l c f) (hB : Below w.heap.size w w') : Hs w' a m h r l c f := ⟨s.bm, fun i hi => by
  obtain ⟨b, o, e, h1, h2⟩ := s.cell i hi
  exact ⟨b, o, e, by rw [hB.cell (World.block_lt_of_cell? _ _ h1)]; exact h1, by rw [hB.cell (World.block_lt_of_cell? _ _ h2)]; exact h2⟩, fun i hi => (s.row i hi).same hB⟩
theorem Hs.less (s : Hs w a m h r l c f) {k : Nat} (hk : k ≤ m) : Hs w a k h r l c f := ⟨s.bm, fun i hi => s.cell i (by omega), fun i hi => s.row i (by omega)⟩
end

/-- what is wrong with held symbols, if anything. -/
def DChk (h : Nat → Int) (l : Nat → Nat) (m N K : Nat) (E : Int) : Prop := (¬ (∀ i, i < m → l i = l 0) ∧ E = 2) ∨ ((∀ i, i < m → l i = l 0) ∧ Chk h m N K E)
theorem DChk.uniq {h : Nat → Int} {l : Nat → Nat} {m N K : Nat} {E E' : Int} (a : DChk h l m N K E) (b : DChk h l m N K E') : E = E' := by
  rcases a with ⟨a1, rfl⟩ | ⟨a1, a2⟩ <;> rcases b with ⟨b1, rfl⟩ | ⟨b1, b2⟩
  · rfl
  · exact absurd b1 a1
  · exact absurd a1 b1
  · exact a2.uniq b2
/-- the source of symbols held. -/
def dcd (h : Nat → Int) (K : Nat) (f : Nat → Nat → Nat) (i j : Nat) : Nat := if i < K then Pf.mv (pts h) K f i j else 0
theorem dcd_bm (h : Nat → Int) {K : Nat} (hK : K ≤ 256) {f : Nat → Nat → Nat} (hf : Mt.Bm f) : Mt.Bm (dcd h K f) := fun i j => by
  unfold dcd; split
  · exact Pf.mv_bm (pts_by h) hf (by omega) j
  · omega
def DecSays (h : Nat → Int) (l : Nat → Nat) (f : Nat → Nat → Nat) (m N K : Nat) (w : World) (e : Ending) (w' : World) : Prop :=
  (∃ E : Int, E ≠ 0 ∧ DChk h l m N K E ∧ ErrL w E e w') ∨ (DChk h l m N K 0 ∧ Lst w K (l 0) (dcd h K f) e w')
theorem dchk_ok {h : Nat → Int} {l : Nat → Nat} {m N K : Nat} (c : DChk h l m N K 0) : (∀ i, i < m → l i = l 0) ∧ InR h m N ∧ DsI h m ∧ K ≤ m := by
  rcases c with ⟨_, e⟩ | ⟨h1, h2⟩
  · cases e
  · exact ⟨h1, chk_ok h2⟩
theorem Bi.si {w : World} {g n : Nat} {h : Nat → Int} (b : Bi w g n h) : Si w (some ⟨g, 0, none⟩) n h := ⟨fun i hi => ⟨g, 0, rfl, by rw [Nat.zero_add]; exact b.cell hi⟩⟩

end Go.Proofs.YtjlmajopfeplpaaGreat

namespace Go.Proofs.YtjlmajopfeplpaaGreat
open Go.RowKit Go.Shelf

theorem own_set {w : World} {B sz n g i : Nat} {e : TypeId} {v u : Value} {xs : List Value} (h : w.ownsRow B e sz v n xs) (hg : g < B) : (w.setCell ⟨g, i, none⟩ u).ownsRow B e sz v n xs := by
  have hl := h.lt
  refine h.kept (grownSet w g i u) ?_
  cases h2 : v.ownBlock with
  | none => exact Or.inl rfl
  | some k => exact Or.inr (fun hh => by have := (hl k h2).1; cases hh; omega)
/-- what was taken, with one more. -/
def onR (R : Nat → Nat) (t r i : Nat) : Nat := if i = t then r else R i
theorem onR_lo {R : Nat → Nat} {t r i : Nat} (h : i < t) : onR R t r i = R i := if_neg (by omega)
theorem onR_t (R : Nat → Nat) (t r : Nat) : onR R t r t = r := if_pos rfl
theorem isP_on (R : Nat → Nat) (t r i : Nat) : Pf.isP (onR R t r) i (t + 1) = (Pf.isP R i t || decide (r = i)) := by
  show (Pf.isP (onR R t r) i t || decide (onR R t r t = i)) = _
  rw [onR_t, Pf.isP_congr t (fun j hj => onR_lo hj)]
/-- the values at the points. -/
def vfn (f P : Nat → Nat) (l n i : Nat) : Nat := if i < n then Pf.ev f (P i) l else 0
theorem vfn_by {f P : Nat → Nat} (hf : Pf.By f) (hP : Pf.By P) (l n : Nat) : Pf.By (vfn f P l n) := fun i => by
  unfold vfn; split
  · exact Pf.ev_lt hf (hP i) l
  · omega
theorem vfn_up (f P : Nat → Nat) (l n : Nat) : Pf.Up (vfn f P l n) n := fun i hi => by unfold vfn; rw [if_neg (by omega)]
/-- a polynomial of as many coefficients as there are points at most, from its values. -/
theorem vfn_val {f P : Nat → Nat} {l n x : Nat} (hf : Pf.By f) (hu : Pf.Up f l) (hP : Pf.By P) (hd : Pf.Dst P n) (hl : l ≤ n) (hx : x < 256) : dotN (Pf.lw P n x) (vfn f P l n) n = Pf.ev f x l := by
  rw [← Pf.ev_up x hu hl]
  exact (Pf.lagrange hP hd hf (hu.mono hl) (vfn_by hf hP l n) (fun i hi => by unfold vfn; rw [if_pos hi, Pf.ev_up (P i) hu hl]) hx).symm

end Go.Proofs.YtjlmajopfeplpaaGreat

namespace Go.Proofs.YtjlmajopfeplpaaGreat
open Go.RowKit Go.Shelf

/-- held symbols, as values. -/
def hdv (h : Nat → Int) (r : Nat → Option Addr) (l c : Nat → Nat) : Nat → List Value
  | 0 => []
  | t + 1 => hdv h r l c t ++ [.int .i64 (h t), .slice (r t) (l t) (c t)]
section
variable {h : Nat → Int} {r : Nat → Option Addr} {l c : Nat → Nat}
theorem hdv_s (t : Nat) : hdv h r l c (t + 1) = hdv h r l c t ++ [.int .i64 (h t), .slice (r t) (l t) (c t)] := rfl
theorem hdv_len : ∀ t, (hdv h r l c t).length = t * 2
  | 0 => rfl
  | t + 1 => by rw [hdv_s, List.length_append, hdv_len t]; simp; omega
theorem hdv_congr {r' : Nat → Option Addr} : ∀ t, (∀ i, i < t → r i = r' i) → hdv h r l c t = hdv h r' l c t
  | 0, _ => rfl
  | t + 1, e => by rw [hdv_s, hdv_s, hdv_congr t (fun i hi => e i (by omega)), e t (by omega)]
theorem hdv_at : ∀ t i, i < t → (hdv h r l c t)[i * 2]? = some (.int .i64 (h i)) ∧ (hdv h r l c t)[i * 2 + 1]? = some (.slice (r i) (l i) (c i))
  | 0, i, e => absurd e (Nat.not_lt_zero i)
  | t + 1, i, e => by
    rw [hdv_s]
    have hl := hdv_len (h := h) (r := r) (l := l) (c := c) t
    by_cases q : i = t
    · subst q
      rw [List.getElem?_append_right (by omega), List.getElem?_append_right (by omega), hl, Nat.sub_self, Nat.add_sub_cancel_left]
      exact ⟨rfl, rfl⟩
    · rw [List.getElem?_append_left (by omega), List.getElem?_append_left (by omega)]
      exact hdv_at t i (by omega)
theorem hdv_hs {w : World} {B t hc : Nat} {e : TypeId} {f : Nat → Nat → Nat} {ha : Option Addr} (ho : w.ownsRow B e 2 (.slice ha t hc) t (hdv h r l c t)) (hf : Mt.Bm f) (hr : ∀ i, i < t → Sl w (r i) (l i) (c i) (f i)) : Hs w ha t h r l c f := by
  refine ⟨hf, fun i hi => ?_, hr⟩
  obtain ⟨_, ⟨e, h0⟩ | ⟨g, cap', cur, e, hg, hh, hnc, hcm, hs, ht⟩⟩ := ho
  · omega
  · simp only [Value.slice.injEq, true_and] at e
    obtain ⟨rfl, rfl⟩ := e
    have hat : ∀ j, j < t * 2 → cur[j]? = (hdv h r l c t)[j]? := fun j hj => by
      rw [← ht, List.getElem?_take, if_pos hj, Array.getElem?_toList]
    obtain ⟨h1, h2⟩ := hdv_at (h := h) (r := r) (l := l) (c := c) t i hi
    refine ⟨g, 0, rfl, ?_, ?_⟩
    · rw [Nat.zero_add, cell_of_row w g _ cur _ _ hh, hat _ (by omega)]; exact h1
    · rw [Nat.zero_add, cell_of_row w g _ cur _ _ hh, hat _ (by omega)]; exact h2
end
theorem pair_ones (z : Int) (a : Option Addr) (n c : Nat) : ∀ u ∈ [Value.int .i64 z, Value.slice a n c], u.oneCell' = true := by
  intro u hu
  rcases List.mem_cons.1 hu with rfl | hu
  · rfl
  · rcases List.mem_singleton.1 hu with rfl; rfl
end Go.Proofs.YtjlmajopfeplpaaGreat
