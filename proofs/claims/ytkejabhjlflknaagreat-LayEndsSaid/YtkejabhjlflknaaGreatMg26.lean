import Derived.Laws.AppendOwnNone
import Derived.Test.YtkejabhjlflknaaGreatMg8
import Derived.Test.YtkejabhjlflknaaGreatMg24
namespace Go.Proofs.YtkejabhjlflknaaGreat.Ar
open Go.RowKit Go.Shelf

/-- the places of the rows of so many matrices, one behind the other. -/
def pairs (n : Nat → Nat) (K : Nat) : List (Nat × Nat) := (List.range K).flatMap fun k => (List.range (n k)).map fun i => (k, i)
theorem pairs_s (n : Nat → Nat) (K : Nat) : pairs n (K + 1) = pairs n K ++ (List.range (n K)).map fun i => (K, i) := by
  unfold pairs
  rw [List.range_succ, List.flatMap_append]
  simp
def tot (n : Nat → Nat) : Nat → Nat
  | 0 => 0
  | k + 1 => tot n k + n k
theorem pairs_len (n : Nat → Nat) : ∀ K, (pairs n K).length = tot n K
  | 0 => rfl
  | K + 1 => by rw [pairs_s, List.length_append, pairs_len n K, List.length_map, List.length_range]; rfl
theorem pairs_at (n : Nat → Nat) : ∀ K j x, (pairs n K)[j]? = some x → x.1 < K ∧ x.2 < n x.1 ∧ j = tot n x.1 + x.2
  | 0, j, x, h => by simp [pairs] at h
  | K + 1, j, x, h => by
    rw [pairs_s] at h
    by_cases c : j < tot n K
    · rw [List.getElem?_append_left (by rw [pairs_len]; exact c)] at h
      obtain ⟨a, b, d⟩ := pairs_at n K j x h
      exact ⟨by omega, b, d⟩
    · rw [List.getElem?_append_right (by rw [pairs_len]; omega), pairs_len] at h
      have hl := (List.getElem?_eq_some_iff.1 h).1
      rw [List.length_map, List.length_range] at hl
      rw [List.getElem?_map, List.getElem?_range hl] at h
      simp only [Option.map_some, Option.some.injEq] at h
      subst h
      exact ⟨by omega, hl, by show j = tot n K + (j - tot n K); omega⟩
theorem tot_le (n : Nat → Nat) {k K : Nat} (h : k ≤ K) : tot n k ≤ tot n K := by
  induction K with
  | zero => obtain rfl : k = 0 := by omega
            exact Nat.le_refl _
  | succ K ih =>
    by_cases e : k = K + 1
    · subst e; exact Nat.le_refl _
    · exact Nat.le_trans (ih (by omega)) (Nat.le_add_right _ _)
/-- the rows, as values. -/
def vl (r : Nat → Nat → Option Addr) (l c : Nat → Nat → Nat) (ps : List (Nat × Nat)) : List Value := ps.map fun x => .slice (r x.1 x.2) (l x.1 x.2) (c x.1 x.2)
theorem vl_s (r : Nat → Nat → Option Addr) (l c : Nat → Nat → Nat) (n : Nat → Nat) (K : Nat) : vl r l c (pairs n (K + 1)) = vl r l c (pairs n K) ++ (List.range (n K)).map fun i => Value.slice (r K i) (l K i) (c K i) := by
  unfold vl
  rw [pairs_s, List.map_append, List.map_map]; rfl
/-- a list of rows of its own, from B on: each row one of its own, too, or none. -/
structure Gx (w : World) (B : Nat) (p : Option Addr) (n cp : Nat) (r : Nat → Option Addr) (l c : Nat → Nat) (f : Nat → Nat → Nat) : Prop where
  lst : (p = none ∧ n = 0 ∧ cp = 0) ∨ ∃ G vs, p = some ⟨G, 0, none⟩ ∧ B ≤ G ∧ w.heap[G]? = some (.cells vs 50 (0, 0)) ∧ n ≤ vs.size ∧ n ≤ cp ∧ cp ≤ maxLen ∧ ∀ i, i < n → vs[i]? = some (.slice (r i) (l i) (c i))
  own : ∀ i, i < n → w.ownsRow B 5 1 (.slice (r i) (l i) (c i)) (l i) (rowv (f i) (l i))
section
variable {w w' : World} {B : Nat} {p : Option Addr} {n cp : Nat} {r : Nat → Option Addr} {l c : Nat → Nat} {f : Nat → Nat → Nat}
theorem Gx.pos (h : Gx w B p n cp r l c f) (h0 : 0 < n) : ∃ G vs, p = some ⟨G, 0, none⟩ ∧ B ≤ G ∧ w.heap[G]? = some (.cells vs 50 (0, 0)) ∧ n ≤ vs.size ∧ n ≤ cp ∧ cp ≤ maxLen ∧ ∀ i, i < n → vs[i]? = some (.slice (r i) (l i) (c i)) := by
  rcases h.lst with ⟨_, h, _⟩ | h
  · omega
  · exact h
theorem own_same {w w' : World} {B : Nat} {e : TypeId} {v : Value} {n : Nat} {xs : List Value} (ho : w.ownsRow B e 1 v n xs) (hB : Below w.heap.size w w') : w'.ownsRow B e 1 v n xs := by
  refine ⟨ho.1, ?_⟩
  rcases ho.2 with h | ⟨g, cap, cur, h1, h2, h3, h4⟩
  · exact Or.inl h
  · exact Or.inr ⟨g, cap, cur, h1, h2, (hB.block g (Array.getElem?_eq_some_iff.1 h3).1).trans h3, h4⟩
theorem Gx.same (h : Gx w B p n cp r l c f) (hB : Below w.heap.size w w') : Gx w' B p n cp r l c f := ⟨by
  rcases h.lst with h | ⟨G, vs, e1, e2, e3, e4⟩
  · exact Or.inl h
  · exact Or.inr ⟨G, vs, e1, e2, (hB.block G (Array.getElem?_eq_some_iff.1 e3).1).trans e3, e4⟩, fun i hi => own_same (h.own i hi) hB⟩
/-- no row of one list lies where another row, or a list, lies. -/
theorem row_no_list {w : World} {B G : Nat} {v : Value} {n : Nat} {xs : List Value} {us : Array Value} {g : Nat} (ho : w.ownsRow B 5 1 v n xs) (hv : v.ownBlock = some g) (h : w.heap[G]? = some (.cells us 50 (0, 0))) : G ≠ g := by
  rintro rfl
  rcases ho.2 with ⟨e, _⟩ | ⟨g', cap, cur, e, _, h3, _⟩
  · rw [e] at hv; cases hv
  · rw [e] at hv
    simp only [Value.ownBlock, Option.some.injEq] at hv
    subst hv
    rw [h] at h3
    injection h3 with h3
    injection h3 with _ h4
    exact absurd h4 (by decide)
end
theorem apart_all (B K : Nat) (n : Nat → Nat) (r : Nat → Nat → Option Addr) (l c : Nat → Nat → Nat) (f : Nat → Nat → Nat → Nat) (w wr : World) (v : Value) (hO : wr.ownsRow w.heap.size 50 1 v (tot n K) (vl r l c (pairs n K))) (hBe : Below w.heap.size w wr)
    (hG : ∀ k i, k < K → i < n k → w.ownsRow B 5 1 (.slice (r k i) (l k i) (c k i)) (l k i) (rowv (f k i) (l k i))) (hd : ∀ k k' i i', k < K → k' < K → i < n k → i' < n k' → ∀ g, blk (r k i) = some g → blk (r k' i') = some g → k = k' ∧ i = i') (hB : B ≤ w.heap.size) (hn : tot n K ≤ 3000) (hl : ∀ k i, k < K → i < n k → l k i ≤ 1000000) :
    Calls Tryz.prog 38 #[v] wr fun e w' => e = .returned (.bool true) ∧ Below B w w' ∧ ∀ g, g < w.heap.size → (∀ k i, k < K → i < n k → blk (r k i) ≠ some g) → w'.heap[g]? = w.heap[g]? := by
  have h0 : tot n K = 0 → ∀ (a : Option Addr) (cap : Nat), v = .slice a 0 cap → Calls Tryz.prog 38 #[v] wr fun e w' => e = .returned (.bool true) ∧ Below B w w' ∧ ∀ g, g < w.heap.size → (∀ k i, k < K → i < n k → blk (r k i) ≠ some g) → w'.heap[g]? = w.heap[g]? := fun _ a cap e => by
    subst e
    refine (apartBytes0_any a cap wr).mono ?_
    rintro e w' ⟨rfl, h⟩
    exact ⟨rfl, (hBe.mono hB).trans (h.mono (Nat.le_trans hB hBe.size)), fun g hg _ => (h.block g (Nat.lt_of_lt_of_le hg hBe.size)).trans (hBe.block g hg)⟩
  rcases hO.2 with ⟨e, hz⟩ | ⟨A, cap, cur, e, _, hA, hnc, _, _, _⟩
  · exact h0 hz none 0 e
  · by_cases hz : tot n K = 0
    · exact h0 hz (some ⟨A, 0, none⟩) cap (by rw [e, hz])
    · subst e
      have hat : ∀ j, j < tot n K → ∃ x, (pairs n K)[j]? = some x ∧ (pairs n K).getD j (0, 0) = x ∧ x.1 < K ∧ x.2 < n x.1 ∧ j = tot n x.1 + x.2 := fun j hj => by
        have hlt : j < (pairs n K).length := by rw [pairs_len]; exact hj
        have hx := List.getElem?_eq_getElem hlt
        exact ⟨_, hx, by rw [List.getD_eq_getElem?_getD, hx]; rfl, pairs_at n K j _ hx⟩
      have hbag : Bag wr B A (tot n K) (fun j => r ((pairs n K).getD j (0, 0)).1 ((pairs n K).getD j (0, 0)).2) (fun j => if j < tot n K then l ((pairs n K).getD j (0, 0)).1 ((pairs n K).getD j (0, 0)).2 else 0) (fun j => if j < tot n K then l ((pairs n K).getD j (0, 0)).1 ((pairs n K).getD j (0, 0)).2 else 0)
          (fun j => c ((pairs n K).getD j (0, 0)).1 ((pairs n K).getD j (0, 0)).2) (fun j => f ((pairs n K).getD j (0, 0)).1 ((pairs n K).getD j (0, 0)).2) := by
        refine ⟨fun j hj => ?_, fun j hj => ?_⟩
        · obtain ⟨x, hx, hg, _⟩ := hat j hj
          have := hO.cells (g := A) rfl j (.slice (r x.1 x.2) (l x.1 x.2) (c x.1 x.2)) (by unfold vl; rw [List.getElem?_map, hx]; rfl)
          rw [Addr.add_lit, Nat.zero_add] at this
          rw [if_pos hj, hg]; exact this
        · obtain ⟨x, hx, hg, h1, h2, _⟩ := hat j hj
          rw [if_pos hj, hg]
          exact own_below (hG x.1 x.2 h1 h2) hBe
      have hsep : Sep (fun j => r ((pairs n K).getD j (0, 0)).1 ((pairs n K).getD j (0, 0)).2) (tot n K) := fun i j hi hj hne => by
        obtain ⟨x, hx, gx, x1, x2, x3⟩ := hat i hi
        obtain ⟨y, hy, gy, y1, y2, y3⟩ := hat j hj
        show blk (r ((pairs n K).getD i (0, 0)).1 ((pairs n K).getD i (0, 0)).2) = none ∨ blk (r ((pairs n K).getD i (0, 0)).1 ((pairs n K).getD i (0, 0)).2) ≠ blk (r ((pairs n K).getD j (0, 0)).1 ((pairs n K).getD j (0, 0)).2)
        rw [gx, gy]
        cases e1 : blk (r x.1 x.2) with
        | none => exact Or.inl rfl
        | some g =>
          right
          intro e
          obtain ⟨e1, e2⟩ := hd _ _ _ _ x1 y1 x2 y2 g e1 e.symm
          rw [e1, e2] at x3
          exact hne (x3.trans y3.symm)
      refine (apartBytes_bel B A (tot n K) cap _ _ _ _ wr hbag hsep (Array.getElem?_eq_some_iff.1 hA).1 (Nat.le_trans hB hBe.size) hnc hn (by omega) (fun j => ?_)).mono ?_
      · show (if j < tot n K then _ else 0) ≤ 1000000
        split
        · rename_i hj
          obtain ⟨x, hx, gx, x1, x2, x3⟩ := hat j hj
          rw [gx]; exact hl _ _ x1 x2
        · omega
      · rintro e w' ⟨rfl, h⟩
        refine ⟨rfl, (hBe.mono hB).trans h.be, fun g hg hne => (h.kp g (Nat.lt_of_lt_of_le hg hBe.size) fun j hj e => ?_).trans (hBe.block g hg)⟩
        obtain ⟨x, hx, gx, x1, x2, x3⟩ := hat j hj
        rw [gx] at e
        exact hne _ _ x1 x2 e

/-- how long the row i of the matrix k is written anew. -/
def nlen (k i : Nat) : Nat := 1 + (k * 31 + i) % 97
/-- lists of rows that are being written anew: k whole ones, and of the next m rows. -/
def Anew (K : Nat) (wr : World) (p : Nat → Option Addr) (n cp : Nat → Nat) (k m : Nat) : Prop :=
  ∀ t, t < K → 0 < n t → ∃ G vs, p t = some ⟨G, 0, none⟩ ∧ wr.heap[G]? = some (.cells vs 50 (0, 0)) ∧ n t ≤ vs.size ∧ n t ≤ cp t ∧ ∀ i, i < n t → (t < k ∨ t = k ∧ i < m) → ∃ ad cc, vs[i]? = some (.slice ad (nlen t i) cc)
theorem Anew.next {wr : World} {p : Nat → Option Addr} {n cp : Nat → Nat} {K k : Nat} (h : Anew K wr p n cp k (n k)) : Anew K wr p n cp (k + 1) 0 := fun t ht h0 => by
  obtain ⟨G, vs, e1, e2, e3, e4, e5⟩ := h t ht h0
  refine ⟨G, vs, e1, e2, e3, e4, fun i hi hc => e5 i hi ?_⟩
  rcases (show t < k ∨ t = k by omega) with h1 | h1
  · exact Or.inl h1
  · exact Or.inr ⟨h1, by rw [← h1]; exact hi⟩
theorem Anew.same {wr w' : World} {p : Nat → Option Addr} {n cp : Nat → Nat} {K k m : Nat} (h : Anew K wr p n cp k m) (hB : Below wr.heap.size wr w') : Anew K w' p n cp k m := fun t ht h0 => by
  obtain ⟨G, vs, e1, e2, e3⟩ := h t ht h0
  exact ⟨G, vs, e1, (hB.block G (Array.getElem?_eq_some_iff.1 e2).1).trans e2, e3⟩
theorem Anew.set {wr : World} {p : Nat → Option Addr} {n cp : Nat → Nat} {K k m G : Nat} (h : Anew K wr p n cp k m) (hp : p k = some ⟨G, 0, none⟩) (hg : ∀ t, t < K → t ≠ k → 0 < n t → p t ≠ p k) (hm : m < n k) (ad : Option Addr) (cc : Nat) : Anew K (wr.setCell ⟨G, m, none⟩ (.slice ad (nlen k m) cc)) p n cp k (m + 1) := fun t ht h0 => by
  obtain ⟨G', vs, e1, e2, e3, e4, e5⟩ := h t ht h0
  by_cases e : t = k
  · subst e
    rw [hp] at e1
    simp only [Option.some.injEq, Addr.mk.injEq, and_true] at e1
    subst e1
    refine ⟨G, vs.setIfInBounds m (.slice ad (nlen t m) cc), hp, heap_setCell_same wr G m vs _ _ e2, by simpa using e3, e4, fun i hi hc => ?_⟩
    rw [Array.getElem?_setIfInBounds]
    by_cases e : m = i
    · subst e; rw [if_pos rfl, if_pos (by omega)]; exact ⟨ad, cc, rfl⟩
    · rw [if_neg e]; exact e5 i hi (by omega)
  · have hne : G' ≠ G := fun e6 => hg t ht e h0 (by rw [e1, hp, e6])
    exact ⟨G', vs, e1, (Below.heap_setCell wr ⟨G, m, none⟩ _ G' hne).trans e2, e3, e4, fun i hi hc => e5 i hi (by omega)⟩

set_option maxHeartbeats 4000000 in
set_option maxRecDepth 100000 in
theorem apartRows_any (B L K : Nat) (p : Nat → Option Addr) (n cp : Nat → Nat) (r : Nat → Nat → Option Addr) (l c : Nat → Nat → Nat) (f : Nat → Nat → Nat → Nat) (w : World)
    (hL : ∃ us : Array Value, w.heap[L]? = some (.cells us 22 (0, 0)) ∧ us.size = K ∧ ∀ k, k < K → us[k]? = some (.slice (p k) (n k) (cp k)))
    (hG : ∀ k, k < K → Gx w B (p k) (n k) (cp k) (r k) (l k) (c k) (f k)) (hd : ∀ k k' i i', k < K → k' < K → i < n k → i' < n k' → ∀ g, blk (r k i) = some g → blk (r k' i') = some g → k = k' ∧ i = i')
    (hg : ∀ k k', k < K → k' < K → k ≠ k' → 0 < n k → p k ≠ p k') (hB : B ≤ w.heap.size) (hn : tot n K ≤ 3000) (hl : ∀ k i, k < K → i < n k → l k i ≤ 1000000) (hK : K ≤ 1000) :
    Calls Tryz.prog 15 #[.slice (some ⟨L, 0, none⟩) K K] w fun e w' => e = .returned (.bool true) ∧ Below B w w' := by
  obtain ⟨us, hL, hus, hLk⟩ := hL
  obtain ⟨i0, hi', hz0', hz1', hz2'⟩ := info_parts Tryz.infoRow
  have HI := Lib.hid hi'; have HZ0 := Lib.hid hz0'; have HZ1 := Lib.hid hz1'; have HZ2 := Lib.hid hz2'
  have HLc := Lib.hid (show ∀ W : World, W.heap[L]? = w.heap[L]? → ∀ k, k < K → W.cell? ⟨L, k, none⟩ = some (.slice (p k) (n k) (cp k)) from fun W e k hk => by
    rw [cell_of_row W L k _ _ _ (e.trans hL)]
    exact hLk k hk)
  have hLlt : L < w.heap.size := (Array.getElem?_eq_some_iff.1 hL).1
  have hnk : ∀ k, k < K → tot n (k + 1) ≤ 3000 := fun k hk => Nat.le_trans (tot_le n (by omega)) hn
  have HG := Lib.hid hG; have HD := Lib.hid hd; have HGG := Lib.hid hg; have HLL := Lib.hid hl; have HLB := Lib.hid hL; have HNK := Lib.hid hnk
  have HB0 := Lib.hid (Below.refl w.heap.size w)
  have HO0 := Lib.hid (World.ownsRow_nil w w.heap.size 50 1)
  clear hi' hz0' hz1' hz2' hG hd hg hl hL hnk hLk hus
  go_enter Tryz.func15, Tryz.ntmps15
  go_wp2_with fail
  go_loopw [3, 4] (fun v i wr => ∃ k : Nat, k ≤ K ∧ i = .int .i64 k ∧ wr.ownsRow w.heap.size 50 1 v (tot n k) (vl r l c (pairs n k)) ∧ Below w.heap.size w wr) (fun _ i _ => K - (intOf i).toNat)
  case atStart => exact ⟨0, by omega, rfl, HO0.out, HB0.out⟩
  case round =>
    rename_i wr
    obtain ⟨k, hk, rfl, hO, hBe⟩ := hrel
    have HO := Lib.hid hO; have HB := Lib.hid hBe
    clear hO hBe
    by_cases hk5 : k < K
    · have i1 : (k : Int) < (K : Int) := by omega
      have cL := HLc.out wr (HB.out.block L hLlt) k hk5
      have htot := HNK.out k hk5
      have htk : tot n (k + 1) = tot n k + n k := rfl
      rw [htk] at htot
      clear htk
      rcases (HG.out k hk5).lst with ⟨e1, e2, e3⟩ | ⟨G, vs, e1, hGB, hGh, hGn, hGc, hGm, hGv⟩
      · rw [e1, e2, e3] at cL
        have HE2 := Lib.hid e2
        clear e1 e2 e3
        go_wp2_with ((refine wpList_append_own_none rfl (.tmp 15) (.tmp 19) 22 rfl w.heap.size 50 i0 1 Tryz.underlying22 HI.out _ (tot n k) (vl r l c (pairs n k)) rfl HO.out rfl ?_))
        go_roundw
        case rel => exact ⟨k + 1, by omega, by go_num, by
          have h1 : tot n (k + 1) = tot n k := by show tot n k + n k = tot n k; rw [HE2.out, Nat.add_zero]
          have h2 : vl r l c (pairs n (k + 1)) = vl r l c (pairs n k) := by rw [vl_s, HE2.out]; simp
          rw [h1, h2]; exact HO.out, HB.out⟩
        case measure => simp [intOf]; omega
      · rw [e1] at cL
        have hrd : ∀ j u, ((List.range (n k)).map fun i => Value.slice (r k i) (l k i) (c k i))[j]? = some u → wr.cell? ((⟨G, 0, none⟩ : Addr).add j) = some u := by
          intro j u hu
          have hj : j < n k := by
            have := (List.getElem?_eq_some_iff.1 hu).1
            rwa [List.length_map, List.length_range] at this
          rw [Addr.add_lit, Nat.zero_add, cell_of_row wr G j vs _ _ ((HB.out.block G (Array.getElem?_eq_some_iff.1 hGh).1).trans hGh), hGv j hj, ← hu]
          simp [hj]
        have HRD := Lib.hid hrd
        clear e1 hrd hGB hGh hGn hGv
        go_wp2_with ((refine wpList_append_own _ rfl (.tmp 15) (.tmp 19) 22 rfl w.heap.size 50 i0 (.slice none 0 0) 1 24 Tryz.underlying22 HI.out HZ0.out HZ1.out HZ2.out rfl (by decide) _ (tot n k) (vl r l c (pairs n k)) rfl HO.out ⟨G, 0, none⟩ (n k) (cp k) ((List.range (n k)).map fun i => Value.slice (r k i) (l k i) (c k i)) rfl (by simp) HRD.out (fun u hu => by obtain ⟨i, _, rfl⟩ := List.mem_map.1 hu; rfl) (by unfold maxLen; omega) (by omega) HB.out.size ?_); intro v' w1 hown hgrow _; have HO2 := Lib.hid hown; have HGR := Lib.hid hgrow; clear hown hgrow)
        go_roundw
        case rel => exact ⟨k + 1, by omega, by go_num, by rw [vl_s]; exact HO2.out, HB.out.grown HGR.out HB.out.size (fun g e => (HO.out.lt g e).1)⟩
        case measure => simp [intOf]; omega
    · obtain rfl : K = k := by omega
      go_wp2_with fail
      refine (apart_all B K n r l c f w wr _ HO.out HB.out (fun k i hk hi => (HG.out k hk).own i hi) HD.out hB hn HLL.out).mono ?_
      rintro e w2 ⟨rfl, hB2, hkp⟩
      have hneL : ∀ k i, k < K → i < n k → blk (r k i) ≠ some L := fun k i hk hi e => by
        rcases ((HG.out k hk).own i hi).2 with ⟨e2, _⟩ | ⟨g', cap, cur, e2, _, h3, _⟩
        · simp only [Value.slice.injEq] at e2; rw [e2.1] at e; cases e
        · simp only [Value.slice.injEq] at e2
          rw [e2.1] at e
          simp only [blk, Option.map_some, Option.some.injEq] at e
          subst e
          rw [HLB.out] at h3
          injection h3 with h3
          injection h3 with _ h2
          exact absurd h2 (by decide)
      have hL2 := hkp L hLlt hneL
      have hA2 : Anew K w2 p n cp 0 0 := fun t ht h0 => by
        obtain ⟨G, vs, e1, hGB, hGh, hGn, hGc, hGm, hGv⟩ := (HG.out t ht).pos h0
        refine ⟨G, vs, e1, (hkp G (Array.getElem?_eq_some_iff.1 hGh).1 fun k i hk hi e => ?_).trans hGh, hGn, hGc, fun i hi hc => by omega⟩
        exact row_no_list ((HG.out k hk).own i hi) (by rw [own_blk]; exact e) hGh rfl
      have HL2 := Lib.hid hL2; have HA2 := Lib.hid hA2; have HB2 := Lib.hid hB2
      have HLT2 := Lib.hid (Nat.lt_of_lt_of_le hLlt hB2.size)
      clear hB2 hkp hneL hL2 hA2
      go_wp2_with fail
      go_loopw [5] (fun i wr => ∃ k : Nat, k ≤ K ∧ i = .int .i64 k ∧ Anew K wr p n cp k 0 ∧ wr.heap[L]? = w.heap[L]? ∧ Below B w wr) (fun i _ => K - (intOf i).toNat)
      case atStart => exact ⟨0, by omega, rfl, HA2.out, HL2.out, HB2.out⟩
      case round =>
        rename_i wr
        obtain ⟨k, hk, rfl, hA, hLk, hBe⟩ := hrel
        obtain ⟨wo, rfl⟩ : ∃ wo : World, wo = wr := ⟨_, rfl⟩
        have HA := Lib.hid hA; have HLk := Lib.hid hLk; have HBe := Lib.hid hBe
        clear hA hLk hBe
        by_cases hk5 : k < K
        · have i1 : (k : Int) < (K : Int) := by omega
          go_wp2_with fail
          go_loopw [6] (fun i wr => ∃ m : Nat, m ≤ n k ∧ i = .int .i64 m ∧ Anew K wr p n cp k m ∧ wr.heap[L]? = w.heap[L]? ∧ Below B w wr) (fun i _ => n k - (intOf i).toNat)
          case atStart => exact ⟨0, by omega, rfl, HA.out, HLk.out, HBe.out⟩
          case round =>
            rename_i wr
            obtain ⟨m, hm, rfl, hA, hLk, hBe⟩ := hrel
            have cL := HLc.out wr hLk k hk5
            have HA3 := Lib.hid hA; have HLk3 := Lib.hid hLk; have HB3 := Lib.hid hBe
            clear hLk hBe
            by_cases hmn : m < n k
            · obtain ⟨G, vs, e1, e2, e3, e4, e5⟩ := hA k hk5 (by omega)
              have j1 : (m : Int) < ((n k : Nat) : Int) := by omega
              have htot := HNK.out k hk5
              have hnk9 : n k ≤ 3000 := by have : tot n (k + 1) = tot n k + n k := rfl; omega
              rw [e1] at cL
              have cG : wr.cell? ⟨G, m, none⟩ = some (vs[m]'(by omega)) := by
                rw [cell_of_row wr G m vs _ _ e2]; simp [show m < vs.size by omega]
              have fG : wr.frozen? ⟨G, m, none⟩ = false := frozen_of_row wr G m vs _ e2
              have hLlt3 : L < wr.heap.size := World.block_lt_of_cell? _ _ cL
              have hGlt : G < wr.heap.size := (Array.getElem?_eq_some_iff.1 e2).1
              have HE1 := Lib.hid e1
              generalize vs[m]'(by omega) = v0 at cG
              clear hA e1 e2 e3 e4 e5
              go_wp2_with fail
              have hnl : nlen k m ≤ 97 := by unfold nlen; omega
              have hmk := hmk8 (nlen k m) (by omega)
              have s3 : ((k : Int) * 31 + (m : Int)) % 97 + 1 = ((nlen k m : Nat) : Int) := by unfold nlen; omega
              have s4 : 1 + ((k : Int) * 31 + (m : Int)) % 97 = ((nlen k m : Nat) : Int) := by unfold nlen; omega
              have cL' : (wr.alloc (.cells (madeCells #[.int .u8 0] (nlen k m)) 5)).cell? ⟨L, k, none⟩ = some (.slice (some ⟨G, 0, none⟩) (n k) (cp k)) := by
                rw [World.cell?_alloc_lt _ _ _ (by simpa using hLlt3)]; exact cL
              have cG' : (wr.alloc (.cells (madeCells #[.int .u8 0] (nlen k m)) 5)).cell? ⟨G, m, none⟩ = some v0 := by
                rw [World.cell?_alloc_lt _ _ _ (by simpa using hGlt)]; exact cG
              have fG' : (wr.alloc (.cells (madeCells #[.int .u8 0] (nlen k m)) 5)).frozen? ⟨G, m, none⟩ = false := by
                rw [World.frozen?_of_block (Below.heap_alloc wr _ G hGlt)]; exact fG
              go_region
              clear cL cG fG cL' cG' fG' s3 s4 hmk
              have hset := HA3.out.set HE1.out (fun t ht hne h0 => HGG.out t k ht hk5 hne h0) hmn (some ⟨wr.heap.size, 0, none⟩) (nlen k m)
              have hA4 : Anew K (((wr.setCell ⟨G, m, none⟩ (.slice (some ⟨wr.heap.size, 0, none⟩) (nlen k m) (nlen k m))).alloc (.cells (madeCells #[.int .u8 0] (nlen k m)) 5)).drew) p n cp k (m + 1) :=
                (hset.same ((Below.refl _ _).alloc (Nat.le_refl _) _)).same (Below.refl _ _).drew
              have hL4 : (((wr.setCell ⟨G, m, none⟩ (.slice (some ⟨wr.heap.size, 0, none⟩) (nlen k m) (nlen k m))).alloc (.cells (madeCells #[.int .u8 0] (nlen k m)) 5)).drew).heap[L]? = w.heap[L]? := by
                have hLG : L ≠ G := fun e => by
                  have hlb := HLB.out
                  obtain ⟨G2, vs2, q1, q2, _⟩ := HA3.out k hk5 (by omega)
                  rw [HE1.out] at q1
                  simp only [Option.some.injEq, Addr.mk.injEq, and_true] at q1
                  subst q1
                  rw [← e, HLk3.out, hlb] at q2
                  injection q2 with q2
                  injection q2 with _ q3
                  exact absurd q3 (by decide)
                have h1 : (((wr.setCell ⟨G, m, none⟩ (.slice (some ⟨wr.heap.size, 0, none⟩) (nlen k m) (nlen k m))).alloc (.cells (madeCells #[.int .u8 0] (nlen k m)) 5)).drew).heap[L]? = (wr.setCell ⟨G, m, none⟩ (.slice (some ⟨wr.heap.size, 0, none⟩) (nlen k m) (nlen k m))).heap[L]? := Below.heap_alloc _ _ L (by rw [World.size_setCell]; exact hLlt3)
                exact (h1.trans (Below.heap_setCell wr ⟨G, m, none⟩ _ L hLG)).trans HLk3.out
              have hBG : B ≤ G := by
                obtain ⟨G', vs', hp, hGB, _⟩ := (HG.out k hk5).pos (by omega)
                rw [HE1.out] at hp
                simp only [Option.some.injEq, Addr.mk.injEq, and_true] at hp
                subst hp
                exact hGB
              have hB4 : Below B w (((wr.setCell ⟨G, m, none⟩ (.slice (some ⟨wr.heap.size, 0, none⟩) (nlen k m) (nlen k m))).alloc (.cells (madeCells #[.int .u8 0] (nlen k m)) 5)).drew) :=
                ((HB3.out.setCell (p := ⟨G, m, none⟩) hBG _).alloc (by rw [World.size_setCell]; exact Nat.le_trans hB HB3.out.size) _).drew
              have HA4 := Lib.hid hA4; have HL4 := Lib.hid hL4; have HB4 := Lib.hid hB4
              clear hset hA4 hL4 hB4
              go_wp2_with fail
              go_roundw
              case rel => exact ⟨m + 1, by omega, by go_num, HA4.out, HL4.out, HB4.out⟩
              case measure => simp [intOf]; omega
            · obtain rfl : m = n k := by omega
              have j1 : ¬ ((n k : Nat) : Int) < ((n k : Nat) : Int) := by omega
              clear hA
              go_wp2_with fail
              go_roundw
              case rel => exact ⟨k + 1, by omega, by go_num, HA3.out.next, HLk3.out, HB3.out⟩
              case measure => simp [intOf]; omega
        · obtain rfl : K = k := by omega
          have i1 : ¬ (K : Int) < (K : Int) := by omega
          go_wp2_with fail
          clear i1
          go_loop [7] (fun i => ∃ k : Nat, k ≤ K ∧ i = .int .i64 k) (fun i => K - (intOf i).toNat)
          case atStart => exact ⟨0, by omega, rfl⟩
          case round =>
            obtain ⟨k, hk, rfl⟩ := hrel
            by_cases hk5 : k < K
            · have i1 : (k : Int) < (K : Int) := by omega
              go_wp2_with fail
              go_loop [8] (fun i => ∃ m : Nat, m ≤ n k ∧ i = .int .i64 m) (fun i => n k - (intOf i).toNat)
              case atStart => exact ⟨0, by omega, rfl⟩
              case round =>
                obtain ⟨m, hm, rfl⟩ := hrel
                have cL := HLc.out wo HLk.out k hk5
                by_cases hmn : m < n k
                · obtain ⟨G, vs, e1, e2, e3, e4, e5⟩ := HA.out k hk5 (by omega)
                  obtain ⟨ad, cc, e6⟩ := e5 m hmn (Or.inl hk5)
                  have j1 : (m : Int) < ((n k : Nat) : Int) := by omega
                  have htot := HNK.out k hk5
                  have hnk9 : n k ≤ 3000 := by have : tot n (k + 1) = tot n k + n k := rfl; omega
                  rw [e1] at cL
                  have cG : wo.cell? ⟨G, m, none⟩ = some (.slice ad (nlen k m) cc) := by rw [cell_of_row wo G m vs _ _ e2]; exact e6
                  have s4 : 1 + ((k : Int) * 31 + (m : Int)) % 97 = ((nlen k m : Nat) : Int) := by unfold nlen; omega
                  have hne : (((nlen k m : Nat) : Int) != ((nlen k m : Nat) : Int)) = false := by simp
                  clear e1 e2 e3 e4 e5 e6
                  go_wp2_with fail
                  go_round
                  case rel => exact ⟨m + 1, by omega, by go_num⟩
                  case measure => simp [intOf]; omega
                · obtain rfl : m = n k := by omega
                  have j1 : ¬ ((n k : Nat) : Int) < ((n k : Nat) : Int) := by omega
                  go_wp2_with fail
                  go_round
                  case rel => exact ⟨k + 1, by omega, by go_num⟩
                  case measure => simp [intOf]; omega
            · obtain rfl : K = k := by omega
              have i1 : ¬ (K : Int) < (K : Int) := by omega
              go_wp2
              go_ret
              exact ⟨rfl, HBe.out⟩
end Go.Proofs.YtkejabhjlflknaaGreat.Ar
