import Derived.Test.YtjlmajopfeplpaaGreatMg24
import Derived.Test.YtjlmajopfeplpaaGreatMg29
namespace Go.Proofs.YtjlmajopfeplpaaGreat
open Go.RowKit Go.Shelf

/-- rows of one byte each, one behind the other. -/
def al1 (w : World) : List Nat → World
  | [] => w
  | x :: xs => al1 (w.alloc (.cells #[.int .u8 (x : Nat)] 5)) xs
def one (xs : List Nat) (i j : Nat) : Nat := if j = 0 then xs.getD i 0 else 0
theorem al1_size : ∀ (xs : List Nat) (w : World), (al1 w xs).heap.size = w.heap.size + xs.length
  | [], w => rfl
  | x :: xs, w => by
    show (al1 (w.alloc _) xs).heap.size = _
    rw [al1_size xs, World.size_alloc, List.length_cons]; omega
theorem al1_below : ∀ (xs : List Nat) (w : World), Below w.heap.size w (al1 w xs)
  | [], w => Below.refl _ w
  | x :: xs, w => by
    have h1 : Below w.heap.size w (w.alloc (.cells #[.int .u8 (x : Nat)] 5)) := (Below.refl _ w).alloc (Nat.le_refl _) _
    exact h1.trans ((al1_below xs _).mono h1.size)
theorem al1_all (w : World) (xs : List Nat) (o : Obj) : Below w.heap.size w ((al1 w xs).alloc o) := (al1_below xs w).trans (((Below.refl _ _).alloc (Nat.le_refl _) o).mono (al1_below xs w).size)
theorem one_by {xs : List Nat} (hx : ∀ x ∈ xs, x < 256) (i : Nat) : Pf.By (one xs i) := fun j => by
  unfold one
  split
  · rw [List.getD_eq_getElem?_getD]
    cases h : xs[i]? with
    | none => show 0 < 256; omega
    | some v => exact hx v (List.mem_of_getElem? h)
  · omega
theorem one_up (xs : List Nat) (i : Nat) : Pf.Up (one xs i) 1 := fun j hj => if_neg (by omega)
theorem al1_bl : ∀ (xs : List Nat) (w : World) (i : Nat), i < xs.length → Bl (al1 w xs) (w.heap.size + i) 1 1 (one xs i)
  | [], w, i, h => absurd h (Nat.not_lt_zero i)
  | x :: xs, w, i, h => by
    have h1 := al1_below xs (w.alloc (.cells #[.int .u8 (x : Nat)] 5))
    cases i with
    | zero =>
      have h2 : Bl (w.alloc (.cells #[.int .u8 (x : Nat)] 5)) w.heap.size 1 1 (one (x :: xs) 0) := ⟨_, heap_alloc_new _ _, rfl, fun i hi => by
        obtain rfl : i = 0 := by omega
        rfl⟩
      exact h2.below h1 (by rw [World.size_alloc]; omega)
    | succ i =>
      have := al1_bl xs (w.alloc (.cells #[.int .u8 (x : Nat)] 5)) i (by simpa using h)
      rw [World.size_alloc] at this
      rw [show w.heap.size + (i + 1) = w.heap.size + 1 + i by omega]
      exact this
theorem al1_rd (w : World) (xs : List Nat) (vs : Array Value) (hx : ∀ x ∈ xs, x < 256) (hl : xs.length ≤ 1000) (hs : vs.size = xs.length) (hv : ∀ i, i < xs.length → vs[i]? = some (.slice (some ⟨w.heap.size + i, 0, none⟩) 1 1)) :
    Rd ((al1 w xs).alloc (.cells vs 28)) (some ⟨w.heap.size + xs.length, 0, none⟩) xs.length xs.length (fun i => some ⟨w.heap.size + i, 0, none⟩) (fun _ => 1) (fun _ => 1) (one xs) := by
  have hB : Below (al1 w xs).heap.size (al1 w xs) ((al1 w xs).alloc (.cells vs 28)) := (Below.refl _ _).alloc (Nat.le_refl _) _
  refine ⟨Nat.le_refl _, by unfold maxLen; omega, fun i => one_by hx i, fun e => (by cases e), fun ad e _ => (by cases e; rfl), fun ad e i hi => ?_, fun i hi => ?_⟩
  · cases e
    show World.cell? _ ⟨_, 0 + i, none⟩ = _
    rw [Nat.zero_add, cell_of_row _ _ i vs _ _ (by rw [← al1_size]; exact heap_alloc_new _ _)]
    exact hv i hi
  · exact ((al1_bl xs w i hi).below hB ((al1_bl xs w i hi).lt)).sl (Nat.le_refl _) (by unfold maxLen; omega) (one_by hx i) (one_up xs i)
/-- the chapter's example. -/
def aw5 (i : Nat) : Int := if i = 0 then 2 else 3
theorem awake5_e : ∀ i, i < 4 → enc 2 (one [5, 4]) i = one [5, 4, 7, 6] i := fun i hi => by
  have h0 : ∀ i, i < 4 → enc 2 (one [5, 4]) i 0 = one [5, 4, 7, 6] i 0 := by decide +kernel
  funext j
  by_cases e : j = 0
  · subst e; exact h0 i hi
  · rw [one_up [5, 4, 7, 6] i j (by omega)]
    exact Pf.mv_up (wi := 1) (fun p _ => one_up [5, 4] p) _ j (by omega)
theorem awake5_d : ∀ i, i < 2 → dcd aw5 2 (one [7, 6]) i = one [5, 4] i := fun i hi => by
  have h0 : ∀ i, i < 2 → dcd aw5 2 (one [7, 6]) i 0 = one [5, 4] i 0 := by decide +kernel
  funext j
  by_cases e : j = 0
  · subst e; exact h0 i hi
  · rw [one_up [5, 4] i j (by omega)]
    unfold dcd
    rw [if_pos hi]
    exact Pf.mv_up (wi := 1) (fun p _ => one_up [7, 6] p) _ j (by omega)
theorem quiet_below {w w' : World} {q : Nat} (h : w' = w.drewN q) : Below w.heap.size w w' := by rw [h]; exact below_dr (Below.refl _ _) q
theorem two_lt {i : Nat} (h : i < 2) : i = 0 ∨ i = 1 := by omega

end Go.Proofs.YtjlmajopfeplpaaGreat

namespace Go.Proofs.YtjlmajopfeplpaaGreat
open Go.RowKit Go.Shelf

/-- what size answers: a number; if it is at most 160, no rows and no row are more than 160. -/
def Size5 (n : Nat) (l : Nat → Nat) (e : Ending) : Prop := ∃ s : Nat, e = .returned (.int .i64 (s : Nat)) ∧ s ≤ 281474976710656 ∧ (s ≤ 160 → n ≤ 160 ∧ ∀ i, i < n → l i ≤ 160)

/-- to have all of n values takes n places. -/
theorem pigeon : ∀ (t n : Nat) (R : Nat → Nat), (∀ r, r < n → ∃ j, j < t ∧ R j = r) → n ≤ t
  | 0, n, R, h => by
    rcases Nat.eq_zero_or_pos n with e | e
    · omega
    · obtain ⟨j, hj, _⟩ := h 0 e
      omega
  | t + 1, n, R, h => by
    rcases Nat.eq_zero_or_pos n with e | e
    · omega
    have ih := pigeon t (n - 1) (fun j => if R j = n - 1 then R t else R j) (fun r hr => by
      by_cases c : r = R t
      · obtain ⟨j, hj, e2⟩ := h (n - 1) (by omega)
        have hjt : j ≠ t := fun e3 => by subst e3; omega
        exact ⟨j, by omega, by show (if R j = n - 1 then R t else R j) = r; rw [if_pos e2, c]⟩
      · obtain ⟨j, hj, e2⟩ := h r (by omega)
        have hjt : j ≠ t := fun e3 => by subst e3; exact c e2.symm
        exact ⟨j, by omega, by show (if R j = n - 1 then R t else R j) = r; rw [if_neg (by omega)]; exact e2⟩)
    omega

/-- held symbols, put into a list: the rows R of a list. -/
def hdl (b : Nat → Nat) (wi : Nat) (R : Nat → Nat) : Nat → List Value
  | 0 => []
  | t + 1 => hdl b wi R t ++ [.int .i64 (R t : Nat), .slice (some ⟨b (R t), 0, none⟩) wi wi]
theorem hdl_s (b : Nat → Nat) (wi : Nat) (R : Nat → Nat) (t : Nat) : hdl b wi R (t + 1) = hdl b wi R t ++ [.int .i64 (R t : Nat), .slice (some ⟨b (R t), 0, none⟩) wi wi] := rfl
theorem hdl_len (b : Nat → Nat) (wi : Nat) (R : Nat → Nat) : ∀ t, (hdl b wi R t).length = t * 2
  | 0 => rfl
  | t + 1 => by
    unfold hdl; rw [List.length_append, hdl_len b wi R t]; simp; omega
theorem hdl_congr (b : Nat → Nat) (wi : Nat) {R R' : Nat → Nat} : ∀ t, (∀ i, i < t → R i = R' i) → hdl b wi R t = hdl b wi R' t
  | 0, _ => rfl
  | t + 1, h => by
    unfold hdl; rw [hdl_congr b wi t (fun i hi => h i (by omega)), h t (by omega)]
theorem hdl_at (b : Nat → Nat) (wi : Nat) (R : Nat → Nat) : ∀ t i, i < t → (hdl b wi R t)[i * 2]? = some (.int .i64 (R i : Nat)) ∧ (hdl b wi R t)[i * 2 + 1]? = some (.slice (some ⟨b (R i), 0, none⟩) wi wi)
  | 0, i, h => absurd h (Nat.not_lt_zero i)
  | t + 1, i, h => by
    unfold hdl
    have hl := hdl_len b wi R t
    by_cases e : i = t
    · subst e
      rw [List.getElem?_append_right (by omega), List.getElem?_append_right (by omega), hl, Nat.sub_self, Nat.add_sub_cancel_left]
      exact ⟨rfl, rfl⟩
    · rw [List.getElem?_append_left (by omega), List.getElem?_append_left (by omega)]
      exact hdl_at b wi R t i (by omega)
/-- numbers, put into a list. -/
def inl (R : Nat → Nat) (t : Nat) : List Value := (List.range t).map fun i => .int .i64 (R i : Nat)
theorem inl_s (R : Nat → Nat) (t : Nat) : inl R (t + 1) = inl R t ++ [.int .i64 (R t : Nat)] := by
  unfold inl; rw [List.range_succ, List.map_append]; rfl
theorem inl_congr {R R' : Nat → Nat} {t : Nat} (h : ∀ i, i < t → R i = R' i) : inl R t = inl R' t := by
  unfold inl
  exact List.map_congr_left fun i hi => by rw [h i (List.mem_range.1 hi)]
theorem inl_si {w : World} {B t ic : Nat} {R : Nat → Nat} {ia : Option Addr} (ho : w.ownsRow B 3 1 (.slice ia t ic) t (inl R t)) : Si w ia t (fun i => ((R i : Nat) : Int)) := ⟨fun i hi => by
  obtain ⟨_, ⟨e, h0⟩ | ⟨g, cap', cur, e, hg, hh, hnc, hcm, hs, ht⟩⟩ := ho
  · omega
  · simp only [Value.slice.injEq, true_and] at e
    obtain ⟨rfl, rfl⟩ := e
    refine ⟨g, 0, rfl, ?_⟩
    rw [Nat.zero_add, cell_of_row w g i cur _ _ hh]
    have : (cur.toList.take (t * 1))[i]? = some (.int .i64 (R i : Nat)) := by rw [ht]; simp [inl, hi]
    rw [List.getElem?_take, if_pos (by omega), Array.getElem?_toList] at this
    exact this⟩
/-- rows of elements of unlike kinds lie in unlike blocks. -/
theorem own_ty {w : World} {B B' s s' n n' : Nat} {e e' : TypeId} {v v' : Value} {xs xs' : List Value} (h : w.ownsRow B e s v n xs) (h' : w.ownsRow B' e' s' v' n' xs') (he : e ≠ e') : v.ownBlock = none ∨ v.ownBlock ≠ v'.ownBlock := by
  rcases h.2 with ⟨q, _⟩ | ⟨g, c1, cur, q, _, hh, _⟩
  · left; rw [q]; rfl
  · rcases h'.2 with ⟨q', _⟩ | ⟨g', c1', cur', q', _, hh', _⟩
    · right; rw [q, q']; simp [Value.ownBlock]
    · right
      rw [q, q']
      simp only [Value.ownBlock, ne_eq, Option.some.injEq]
      rintro rfl
      rw [hh] at hh'
      injection hh' with hh'
      injection hh' with _ q3
      exact he q3
theorem own_slice {w : World} {B s n : Nat} {e : TypeId} {v : Value} {xs : List Value} (h : w.ownsRow B e s v n xs) : ∃ a c, v = .slice a n c := by
  rcases h.2 with ⟨q, h0⟩ | ⟨g, c1, cur, q, _⟩
  · exact ⟨none, 0, by rw [q, h0]⟩
  · exact ⟨_, c1, q⟩
theorem Rd.less {w : World} {a : Option Addr} {n k cap : Nat} {r : Nat → Option Addr} {l c : Nat → Nat} {f : Nat → Nat → Nat} (h : Rd w a n cap r l c f) (hk : k ≤ n) (h0 : a = none → k = 0 ∧ cap = 0) (hs : ∀ ad, a = some ad → ad.spot = none) : Rd w a k cap r l c f :=
  ⟨Nat.le_trans hk h.capOk, h.maxOk, h.bm, h0, fun ad e _ => hs ad e, fun ad e i hi => h.cell ad e i (by omega), fun i hi => h.row i (by omega)⟩
end Go.Proofs.YtjlmajopfeplpaaGreat

namespace Go.Proofs.YtjlmajopfeplpaaGreat
open Go.RowKit Go.Shelf

/-- slices, as values. -/
def rls (r : Nat → Option Addr) (l c : Nat → Nat) (m : Nat) : List Value := (List.range m).map fun i => Value.slice (r i) (l i) (c i)
theorem rls_s (r : Nat → Option Addr) (l c : Nat → Nat) (m : Nat) : rls r l c (m + 1) = rls r l c m ++ [.slice (r m) (l m) (c m)] := by
  unfold rls; rw [List.range_succ, List.map_append]; rfl
theorem rls_rd {w : World} {B m sc : Nat} {sa : Option Addr} {r : Nat → Option Addr} {l c : Nat → Nat} {f : Nat → Nat → Nat} (ho : w.ownsRow B 28 1 (.slice sa m sc) m (rls r l c m)) (hf : Mt.Bm f) (hr : ∀ i, i < m → Sl w (r i) (l i) (c i) (f i)) : Rd w sa m sc r l c f := by
  obtain ⟨_, ⟨e, h0⟩ | ⟨g, cap', cur, e, hg, hh, hnc, hcm, hs, ht⟩⟩ := ho
  · simp only [Value.slice.injEq] at e
    obtain ⟨rfl, rfl, rfl⟩ := e
    exact ⟨Nat.le_refl _, by unfold maxLen; omega, hf, fun _ => ⟨rfl, rfl⟩, fun _ e => (by cases e), fun _ e => (by cases e), fun i hi => absurd hi (Nat.not_lt_zero i)⟩
  · simp only [Value.slice.injEq, true_and] at e
    obtain ⟨rfl, rfl⟩ := e
    refine ⟨by omega, hcm, hf, fun e => (by cases e), fun ad e _ => (by cases e; rfl), fun ad e i hi => ?_, hr⟩
    cases e
    show w.cell? ⟨g, 0 + i, none⟩ = _
    rw [Nat.zero_add, cell_of_row w g i cur _ _ hh]
    have : (cur.toList.take (m * 1))[i]? = some (.slice (r i) (l i) (c i)) := by rw [ht]; simp [rls, hi]
    rw [List.getElem?_take, if_pos (by omega), Array.getElem?_toList] at this
    exact this
def BytSays (w : World) (m : Nat) (r : Nat → Option Addr) (l c : Nat → Nat) (e : Ending) (w' : World) : Prop := ∃ sa sc, e = .returned (.slice sa m sc) ∧ w'.ownsRow w.heap.size 28 1 (.slice sa m sc) m (rls r l c m) ∧ Below w.heap.size w w'

/-- the sum of rows. -/
def xrow (f g : Nat → Nat → Nat) (i j : Nat) : Nat := f i j ^^^ g i j
theorem xrow_bm {f g : Nat → Nat → Nat} (hf : Mt.Bm f) (hg : Mt.Bm g) : Mt.Bm (xrow f g) := fun i j => Gf.xor_lt (hf i j) (hg i j)
/-- amid a row. -/
def xmid (f g : Nat → Nat → Nat) (k j i : Nat) : Nat := if i < j then xrow f g k i else 0
theorem xmid_s (f g : Nat → Nat → Nat) (k j i : Nat) : (if i = j then f k j ^^^ g k j else xmid f g k j i) = xmid f g k (j + 1) i := by
  unfold xmid
  by_cases e : i = j
  · subst e; rw [if_pos rfl, if_pos (by omega)]; rfl
  · rw [if_neg e]
    by_cases h : i < j
    · rw [if_pos h, if_pos (by omega)]
    · rw [if_neg h, if_neg (by omega)]
def xtk (f g : Nat → Nat → Nat) (k i j : Nat) : Nat := if i < k then xrow f g i j else 0
theorem xtk_bm {f g : Nat → Nat → Nat} (hf : Mt.Bm f) (hg : Mt.Bm g) (k : Nat) : Mt.Bm (xtk f g k) := fun i j => by
  unfold xtk; split
  · exact xrow_bm hf hg i j
  · omega
def SumSays (w : World) (n wi : Nat) (F : Nat → Nat → Nat) (e : Ending) (w' : World) : Prop := ∃ sa sc b c, e = .returned (.slice sa n sc) ∧ Go_ w' w.heap.size sa n sc b (fun _ => wi) c F ∧ Below w.heap.size w w'

end Go.Proofs.YtjlmajopfeplpaaGreat
