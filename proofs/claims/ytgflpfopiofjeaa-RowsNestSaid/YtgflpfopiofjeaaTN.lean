import Derived.Test.YtgflpfopiofjeaaTB
import Derived.Laws.AppendOwnNone
namespace Go.Proofs.Ytgflpfopiofjeaa
open Go.RowKit Go.Shelf

/-- a row of rows that is its own reads as a matrix, if its rows do. -/
theorem Rd.of_owns {w : World} {B g n cap : Nat} {xs : List Value} {r : Nat → Option Addr} {l c : Nat → Nat} {f : Nat → Nat → Nat} (ho : w.ownsRow B 23 1 (.slice (some ⟨g, 0, none⟩) n cap) n xs) (hx : ∀ i, i < n → xs[i]? = some (.slice (r i) (l i) (c i))) (hbm : Mt.Bm f) (hrow : ∀ i, i < n → Sl w (r i) (l i) (c i) (f i)) :
    Rd w (some ⟨g, 0, none⟩) n cap r l c f := by
  have hcells := ho.cells (g := g) rfl
  obtain ⟨h1, h2 | ⟨g', cap', cur, e, _, hh, hnc, hcm, hs, ht⟩⟩ := ho
  · exact absurd h2.1 (by simp)
  · simp only [Value.slice.injEq, Option.some.injEq, Addr.mk.injEq, and_true, true_and] at e
    obtain ⟨rfl, rfl⟩ := e
    refine ⟨hnc, hcm, hbm, fun e => (by cases e), fun ad e _ => (by cases e; rfl), fun ad e i hi => ?_, hrow⟩
    cases e
    have := hcells i _ (hx i hi)
    rw [Addr.add_lit] at this
    exact this
theorem below_app {B g cap cap' : Nat} {a : Option Addr} {w0 w w' : World} (hB : Below B w0 w) (hw : B ≤ w.heap.size) (hc : a = some ⟨g, 0, none⟩ ∧ cap' = cap ∧ w.grownBy w' (some g) ∨ w.heap.size ≤ g ∧ w.grownBy w' none) (ha : ∀ g, a = some ⟨g, 0, none⟩ → B ≤ g) : Below B w0 w' := by
  rcases hc with ⟨e, _, hg⟩ | ⟨_, hg⟩
  · exact hB.grown hg hw (fun k e2 => by cases e2; exact ha g e)
  · exact hB.grown hg hw (fun k e2 => by cases e2)
theorem rowsv_ones (n : Nat) (r : Nat → Option Addr) (l c : Nat → Nat) : ∀ u ∈ (List.range n).map fun i => Value.slice (r i) (l i) (c i), u.oneCell' = true := by
  intro u hu
  obtain ⟨i, _, rfl⟩ := List.mem_map.1 hu
  rfl
theorem rowsv_get {n i : Nat} (r : Nat → Option Addr) (l c : Nat → Nat) (hi : i < n) : ((List.range n).map fun i => Value.slice (r i) (l i) (c i))[i]? = some (.slice (r i) (l i) (c i)) := by simp [hi]
theorem Rd.reads {w : World} {a : Option Addr} {n cap : Nat} {r : Nat → Option Addr} {l c : Nat → Nat} {f : Nat → Nat → Nat} (h : Rd w a n cap r l c f) : ∀ ad, a = some ad → ∀ j u, ((List.range n).map fun i => Value.slice (r i) (l i) (c i))[j]? = some u → w.cell? (ad.add j) = some u := by
  intro ad ha j u hu
  have hj : j < n := by
    have := (List.getElem?_eq_some_iff.1 hu).1
    rwa [List.length_map, List.length_range] at this
  have hs := h.spot ad ha (by omega)
  have hc := h.cell ad ha j hj
  obtain ⟨b, off, spot⟩ := ad
  simp only at hs; subst hs
  rw [Addr.add_lit, hc, ← hu, rowsv_get r l c hj]

/-- the sum of the first row and the last one, so far as it was gone through. -/
def sumTo (f : Nat → Nat → Nat) (n k j : Nat) : Nat := if j < k then f 0 j ^^^ f (n - 1) j else 0
theorem sumTo_by {f : Nat → Nat → Nat} (hf : Mt.Bm f) (n k : Nat) : Pf.By (sumTo f n k) := fun j => by
  unfold sumTo; split
  · exact Gf.xor_lt (hf _ _) (hf _ _)
  · omega
theorem sumTo_up (f : Nat → Nat → Nat) (n k : Nat) : Pf.Up (sumTo f n k) k := fun j hj => by unfold sumTo; rw [if_neg (by omega)]
theorem sumTo_s (f : Nat → Nat → Nat) (n k j : Nat) : (if j = k then f 0 k ^^^ f (n - 1) k else sumTo f n k j) = sumTo f n (k + 1) j := by
  unfold sumTo
  by_cases e : j = k
  · subst e; rw [if_pos rfl, if_pos (by omega)]
  · rw [if_neg e]
    by_cases h : j < k
    · rw [if_pos h, if_pos (by omega)]
    · rw [if_neg h, if_neg (by omega)]
/-- with a row more. -/
def moreR (f : Nat → Nat → Nat) (n m i j : Nat) : Nat := if i = n then sumTo f n m j else f i j
theorem moreR_bm {f : Nat → Nat → Nat} (hf : Mt.Bm f) (n m : Nat) : Mt.Bm (moreR f n m) := fun i j => by
  unfold moreR; split
  · exact sumTo_by hf n m j
  · exact hf i j
theorem moreR_rk {f : Nat → Nat → Nat} (hf : Mt.Bm f) {n m : Nat} (hn : 0 < n) : Mt.rk (n + 1) m (moreR f n m) = Mt.rk n m f := by
  have hd : ∀ i k, Mt.dl i k < 256 := fun i k => Mt.dl_lt i k
  refine Mt.rk_more hf (moreR_bm hf n m) (v := fun k => Mt.dl 0 k ^^^ Mt.dl (n - 1) k) (fun k => Gf.xor_lt (hd _ _) (hd _ _)) (fun i j hi _ => if_neg (by omega)) (fun j hj => ?_)
  unfold moreR sumTo
  rw [if_pos rfl, if_pos hj]
  have e : Pf.xsum (fun k => Gf.mul (Mt.dl 0 k ^^^ Mt.dl (n - 1) k) (f k j)) n = Pf.xsum (fun k => Gf.mul (Mt.dl 0 k) (f k j) ^^^ Gf.mul (Mt.dl (n - 1) k) (f k j)) n :=
    Pf.xsum_congr n fun k _ => Gf.xor_mul (hd _ _) (hd _ _) (hf k j)
  rw [e, Pf.xsum_xor]
  show _ = Mt.mm n Mt.dl f 0 j ^^^ Mt.mm n Mt.dl f (n - 1) j
  rw [Mt.mm_one hf (by omega), Mt.mm_one hf (by omega)]
theorem nest_eq {f f' f'' : Nat → Nat → Nat} (hf : Mt.Bm f) (hf' : Mt.Bm f') (hf'' : Mt.Bm f'') (n n' n'' wl : Nat) : cl n wl (Mt.mm n' f (cl n' wl (Mt.mm n'' f' f''))) = cl n wl (Mt.mm n'' (cl n n'' (Mt.mm n' f f')) f'') := cl_congr fun i j hi hj => by
  rw [Mt.mm_congr (A' := Mt.mm n' f f') (B' := f'') (fun k hk => cl_in hi hk) (fun _ _ => rfl), Mt.mm_assoc hf hf' hf'']
  exact Mt.mm_congr (fun _ _ => rfl) fun k hk => cl_in hk hj
theorem unit_keeps {f : Nat → Nat → Nat} (hf : Mt.Bm f) {n m : Nat} (hu : ∀ i, i < n → Pf.Up (f i) m) : ∀ i, i < n → f i = cl n m (Mt.mm n (cl n n Mt.dl) f) i := fun i hi => funext fun j => by
  by_cases hj : j < m
  · rw [cl_in hi hj, Mt.mm_congr (A' := Mt.dl) (B' := f) (fun k hk => cl_in hi hk) (fun _ _ => rfl), Mt.mm_one hf hi]
  · rw [cl_up n m _ i j (by omega), hu i hi j (by omega)]
theorem rank_left {f f' : Nat → Nat → Nat} (hf : Mt.Bm f) (hf' : Mt.Bm f') (n n' n'' : Nat) : Mt.rk n n'' (cl n n'' (Mt.mm n' f f')) ≤ Mt.rk n n' f := by
  rw [Mt.rk_congr (cl_bm (Mt.mm_lt hf hf' n') n n'') (Mt.mm_lt hf hf' n') fun i j hi hj => cl_in hi hj]
  exact Mt.rk_mul_left hf hf' n n' n''
theorem rank_right {f f' : Nat → Nat → Nat} (hf : Mt.Bm f) (hf' : Mt.Bm f') (n n' n'' : Nat) : Mt.rk n n'' (cl n n'' (Mt.mm n' f f')) ≤ Mt.rk n' n'' f' := by
  rw [Mt.rk_congr (cl_bm (Mt.mm_lt hf hf' n') n n'') (Mt.mm_lt hf hf' n') fun i j hi hj => cl_in hi hj]
  exact Mt.rk_mul_right hf hf' n n' n''
theorem wd_any {n m : Nat} (h : 0 < n) : wd n (fun _ => m) = m := by unfold wd; rw [if_neg (by omega)]
theorem isM_any {n m : Nat} (h : 0 < n) (hn : n ≤ 255) (hm : m ≤ 255) : IsM n (fun _ => m) := ⟨fun _ _ => rfl, hn, by rw [wd_any h]; exact hm⟩
end Go.Proofs.Ytgflpfopiofjeaa
