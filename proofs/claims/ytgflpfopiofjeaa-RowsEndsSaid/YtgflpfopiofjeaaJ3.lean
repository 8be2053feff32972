import Derived.Test.YtgflpfopiofjeaaJ1
import Derived.Test.YtgflpfopiofjeaaJ2
namespace Go.Proofs.Ytgflpfopiofjeaa
open Go.RowKit Go.Shelf

/-- the places of the rows of so many matrices, one behind the other. -/
def pairs (n : Nat → Nat) (K : Nat) : List (Nat × Nat) := (List.range K).flatMap fun k => (List.range (n k)).map fun i => (k, i)
theorem pairs_s (n : Nat → Nat) (K : Nat) : pairs n (K + 1) = pairs n K ++ (List.range (n K)).map fun i => (K, i) := by
  unfold pairs
  rw [List.range_succ, List.flatMap_append]
  simp
def tot (n : Nat → Nat) : Nat → Nat
  | 0 => 0
  | k + 1 => tot n k + n k
theorem pairs_len (n : Nat → Nat) : ∀ K, (pairs n K).length = tot n K
  | 0 => rfl
  | K + 1 => by rw [pairs_s, List.length_append, pairs_len n K, List.length_map, List.length_range]; rfl
theorem pairs_at (n : Nat → Nat) : ∀ K j x, (pairs n K)[j]? = some x → x.1 < K ∧ x.2 < n x.1 ∧ j = tot n x.1 + x.2
  | 0, j, x, h => by simp [pairs] at h
  | K + 1, j, x, h => by
    rw [pairs_s] at h
    by_cases c : j < tot n K
    · rw [List.getElem?_append_left (by rw [pairs_len]; exact c)] at h
      obtain ⟨a, b, d⟩ := pairs_at n K j x h
      exact ⟨by omega, b, d⟩
    · rw [List.getElem?_append_right (by rw [pairs_len]; omega), pairs_len] at h
      have hl := (List.getElem?_eq_some_iff.1 h).1
      rw [List.length_map, List.length_range] at hl
      rw [List.getElem?_map, List.getElem?_range hl] at h
      simp only [Option.map_some, Option.some.injEq] at h
      subst h
      exact ⟨by omega, hl, by show j = tot n K + (j - tot n K); omega⟩
/-- the rows, as values. -/
def vl (b l c : Nat → Nat → Nat) (ps : List (Nat × Nat)) : List Value := ps.map fun x => .slice (some ⟨b x.1 x.2, 0, none⟩) (l x.1 x.2) (c x.1 x.2)
theorem vl_s (b l c : Nat → Nat → Nat) (n : Nat → Nat) (K : Nat) : vl b l c (pairs n (K + 1)) = vl b l c (pairs n K) ++ (List.range (n K)).map fun i => Value.slice (some ⟨b K i, 0, none⟩) (l K i) (c K i) := by
  unfold vl
  rw [pairs_s, List.map_append, List.map_map]; rfl
theorem Bl.owns {w : World} {B g n cap : Nat} {h : Nat → Nat} (hb : Bl w g n cap h) (hg : B ≤ g) (h1 : n ≤ cap) (h2 : cap ≤ maxLen) : w.ownsRow B 5 1 (.slice (some ⟨g, 0, none⟩) n cap) n (rowv h n) := by
  obtain ⟨vs, k1, k2, k3⟩ := hb
  refine ⟨by rw [rowv_len]; omega, Or.inr ⟨g, cap, vs, rfl, hg, k1, h1, h2, by omega, ?_⟩⟩
  apply List.ext_getElem?
  intro i
  rw [List.getElem?_take]
  by_cases c : i < n
  · rw [if_pos (by omega), Array.getElem?_toList, k3 i c, rowv_get c]
  · rw [if_neg (by omega), List.getElem?_eq_none (by rw [rowv_len]; omega)]

theorem Rd.lists {w : World} {a : Option Addr} {n cap : Nat} {r : Nat → Option Addr} {l c : Nat → Nat} {f : Nat → Nat → Nat} (h : Rd w a n cap r l c f) : ∀ ad, a = some ad → ∀ j u, ((List.range n).map fun i => Value.slice (r i) (l i) (c i))[j]? = some u → w.cell? (ad.add j) = some u := by
  intro ad ha j u hu
  have hj : j < n := by
    have := (List.getElem?_eq_some_iff.1 hu).1
    rwa [List.length_map, List.length_range] at this
  have hs := h.spot ad ha (by omega)
  have hc := h.cell ad ha j hj
  obtain ⟨b, off, spot⟩ := ad
  simp only at hs; subst hs
  rw [Addr.add_lit, hc, ← hu]
  simp [hj]

theorem Go_.rowOf {w : World} {B n cap : Nat} {a : Option Addr} {b l c : Nat → Nat} {f : Nat → Nat → Nat} (h : Go_ w B a n cap b l c f) {i : Nat} (hi : i < n) : Bl w (b i) (l i) (c i) (f i) ∧ l i ≤ c i ∧ c i ≤ maxLen ∧ B ≤ b i := by
  obtain ⟨G, _, hG⟩ := h.pos (by omega)
  exact ⟨hG.row i hi, (hG.lc i hi).1, (hG.lc i hi).2, hG.lo.2 i hi⟩
theorem apart_all (B : Nat) (n : Nat → Nat) (b l c : Nat → Nat → Nat) (f : Nat → Nat → Nat → Nat) (w wr : World) (v : Value) (hO : wr.ownsRow w.heap.size 23 1 v (tot n 5) (vl b l c (pairs n 5))) (hBe : Below w.heap.size w wr)
    (hG : ∀ k i, k < 5 → i < n k → Bl w (b k i) (l k i) (c k i) (f k i) ∧ l k i ≤ c k i ∧ c k i ≤ maxLen ∧ B ≤ b k i) (hd : ∀ k k' i i', k < 5 → k' < 5 → i < n k → i' < n k' → b k i = b k' i' → k = k' ∧ i = i') (hB : B ≤ w.heap.size) (hn : tot n 5 ≤ 3000) (hl : ∀ k i, k < 5 → i < n k → l k i ≤ 1000000) :
    Calls Try.prog 44 #[v] wr fun e w' => e = .returned (.bool true) ∧ Below B w w' ∧ ∀ g, g < w.heap.size → (∀ k i, k < 5 → i < n k → g ≠ b k i) → w'.heap[g]? = w.heap[g]? := by
  have h0 : tot n 5 = 0 → ∀ (a : Option Addr) (cap : Nat), v = .slice a 0 cap → Calls Try.prog 44 #[v] wr fun e w' => e = .returned (.bool true) ∧ Below B w w' ∧ ∀ g, g < w.heap.size → (∀ k i, k < 5 → i < n k → g ≠ b k i) → w'.heap[g]? = w.heap[g]? := fun _ a cap e => by
    subst e
    refine (apartBytes0_any a cap wr).mono ?_
    rintro e w' ⟨rfl, h⟩
    exact ⟨rfl, (hBe.mono hB).trans (h.mono (Nat.le_trans hB hBe.size)), fun g hg _ => (h.block g (Nat.lt_of_lt_of_le hg hBe.size)).trans (hBe.block g hg)⟩
  rcases hO.2 with ⟨e, hz⟩ | ⟨A, cap, cur, e, _, hA, hnc, _, _, _⟩
  · exact h0 hz none 0 e
  · by_cases hz : tot n 5 = 0
    · exact h0 hz (some ⟨A, 0, none⟩) cap (by rw [e, hz])
    · subst e
      have hat : ∀ j, j < tot n 5 → ∃ x, (pairs n 5)[j]? = some x ∧ (pairs n 5).getD j (0, 0) = x ∧ x.1 < 5 ∧ x.2 < n x.1 ∧ j = tot n x.1 + x.2 := fun j hj => by
        have hlt : j < (pairs n 5).length := by rw [pairs_len]; exact hj
        have hx := List.getElem?_eq_getElem hlt
        exact ⟨_, hx, by rw [List.getD_eq_getElem?_getD, hx]; rfl, pairs_at n 5 j _ hx⟩
      have hbag : Bag wr B A (tot n 5) (fun j => some ⟨b ((pairs n 5).getD j (0, 0)).1 ((pairs n 5).getD j (0, 0)).2, 0, none⟩) (fun j => if j < tot n 5 then l ((pairs n 5).getD j (0, 0)).1 ((pairs n 5).getD j (0, 0)).2 else 0) (fun j => if j < tot n 5 then l ((pairs n 5).getD j (0, 0)).1 ((pairs n 5).getD j (0, 0)).2 else 0)
          (fun j => c ((pairs n 5).getD j (0, 0)).1 ((pairs n 5).getD j (0, 0)).2) (fun j => f ((pairs n 5).getD j (0, 0)).1 ((pairs n 5).getD j (0, 0)).2) := by
        refine ⟨fun j hj => ?_, fun j hj => ?_⟩
        · obtain ⟨x, hx, hg, _⟩ := hat j hj
          have := hO.cells (g := A) rfl j (.slice (some ⟨b x.1 x.2, 0, none⟩) (l x.1 x.2) (c x.1 x.2)) (by unfold vl; rw [List.getElem?_map, hx]; rfl)
          rw [Addr.add_lit, Nat.zero_add] at this
          rw [if_pos hj, hg]; exact this
        · obtain ⟨x, hx, hg, h1, h2, _⟩ := hat j hj
          rw [if_pos hj, hg]
          obtain ⟨k1, k2, k3, k4⟩ := hG x.1 x.2 h1 h2
          exact (k1.kept (hBe.block _ k1.lt)).owns k4 k2 k3
      have hsep : Sep (fun j => some ⟨b ((pairs n 5).getD j (0, 0)).1 ((pairs n 5).getD j (0, 0)).2, 0, none⟩) (tot n 5) := fun i j hi hj hne => by
        right
        intro e
        obtain ⟨x, hx, gx, x1, x2, x3⟩ := hat i hi
        obtain ⟨y, hy, gy, y1, y2, y3⟩ := hat j hj
        simp only [blk, Option.map_some, Option.some.injEq] at e
        rw [gx, gy] at e
        obtain ⟨e1, e2⟩ := hd _ _ _ _ x1 y1 x2 y2 e
        rw [e1, e2] at x3
        exact hne (x3.trans y3.symm)
      refine (apartBytes_bel B A (tot n 5) cap _ _ _ _ wr hbag hsep (Array.getElem?_eq_some_iff.1 hA).1 (Nat.le_trans hB hBe.size) hnc hn (by omega) (fun j => ?_)).mono ?_
      · show (if j < tot n 5 then _ else 0) ≤ 1000000
        split
        · rename_i hj
          obtain ⟨x, hx, gx, x1, x2, x3⟩ := hat j hj
          rw [gx]; exact hl _ _ x1 x2
        · omega
      · rintro e w' ⟨rfl, h⟩
        refine ⟨rfl, (hBe.mono hB).trans h.be, fun g hg hne => (h.kp g (Nat.lt_of_lt_of_le hg hBe.size) fun j hj e => ?_).trans (hBe.block g hg)⟩
        obtain ⟨x, hx, gx, x1, x2, x3⟩ := hat j hj
        simp only [blk, Option.map_some, Option.some.injEq] at e
        rw [gx] at e
        exact hne _ _ x1 x2 e.symm

/-- how long the row i of the matrix k is written anew. -/
def nlen (k i : Nat) : Nat := 1 + (k * 31 + i) % 97
/-- lists of rows that are being written anew: k whole ones, and of the next m rows. -/
def Anew (wr : World) (p : Nat → Option Addr) (n cp : Nat → Nat) (k m : Nat) : Prop :=
  ∀ t, t < 5 → 0 < n t → ∃ G vs, p t = some ⟨G, 0, none⟩ ∧ wr.heap[G]? = some (.cells vs 23 (0, 0)) ∧ n t ≤ vs.size ∧ n t ≤ cp t ∧ ∀ i, i < n t → (t < k ∨ t = k ∧ i < m) → ∃ ad cc, vs[i]? = some (.slice ad (nlen t i) cc)
theorem Anew.next {wr : World} {p : Nat → Option Addr} {n cp : Nat → Nat} {k : Nat} (h : Anew wr p n cp k (n k)) : Anew wr p n cp (k + 1) 0 := fun t ht h0 => by
  obtain ⟨G, vs, e1, e2, e3, e4, e5⟩ := h t ht h0
  refine ⟨G, vs, e1, e2, e3, e4, fun i hi hc => e5 i hi ?_⟩
  rcases (show t < k ∨ t = k by omega) with h1 | h1
  · exact Or.inl h1
  · exact Or.inr ⟨h1, by rw [← h1]; exact hi⟩
theorem Anew.same {wr w' : World} {p : Nat → Option Addr} {n cp : Nat → Nat} {k m : Nat} (h : Anew wr p n cp k m) (hB : Below wr.heap.size wr w') : Anew w' p n cp k m := fun t ht h0 => by
  obtain ⟨G, vs, e1, e2, e3⟩ := h t ht h0
  exact ⟨G, vs, e1, (hB.block G (Array.getElem?_eq_some_iff.1 e2).1).trans e2, e3⟩
theorem Anew.set {wr : World} {p : Nat → Option Addr} {n cp : Nat → Nat} {k m G : Nat} (h : Anew wr p n cp k m) (hp : p k = some ⟨G, 0, none⟩) (hg : ∀ t, t < 5 → t ≠ k → 0 < n t → p t ≠ p k) (hm : m < n k) (ad : Option Addr) (cc : Nat) : Anew (wr.setCell ⟨G, m, none⟩ (.slice ad (nlen k m) cc)) p n cp k (m + 1) := fun t ht h0 => by
  obtain ⟨G', vs, e1, e2, e3, e4, e5⟩ := h t ht h0
  by_cases e : t = k
  · subst e
    rw [hp] at e1
    simp only [Option.some.injEq, Addr.mk.injEq, and_true] at e1
    subst e1
    refine ⟨G, vs.setIfInBounds m (.slice ad (nlen t m) cc), hp, heap_setCell_same wr G m vs _ _ e2, by simpa using e3, e4, fun i hi hc => ?_⟩
    rw [Array.getElem?_setIfInBounds]
    by_cases e : m = i
    · subst e; rw [if_pos rfl, if_pos (by omega)]; exact ⟨ad, cc, rfl⟩
    · rw [if_neg e]; exact e5 i hi (by omega)
  · have hne : G' ≠ G := fun e6 => hg t ht e h0 (by rw [e1, hp, e6])
    exact ⟨G', vs, e1, (Below.heap_setCell wr ⟨G, m, none⟩ _ G' hne).trans e2, e3, e4, fun i hi hc => e5 i hi (by omega)⟩

set_option maxHeartbeats 4000000 in
set_option maxRecDepth 100000 in
theorem apartRows_any (B L : Nat) (p : Nat → Option Addr) (n cp : Nat → Nat) (b l c : Nat → Nat → Nat) (f : Nat → Nat → Nat → Nat) (w : World)
    (hL : w.heap[L]? = some (.cells #[.slice (p 0) (n 0) (cp 0), .slice (p 1) (n 1) (cp 1), .slice (p 2) (n 2) (cp 2), .slice (p 3) (n 3) (cp 3), .slice (p 4) (n 4) (cp 4)] 22 (0, 0)))
    (hG : ∀ k, k < 5 → Go_ w B (p k) (n k) (cp k) (b k) (l k) (c k) (f k)) (hd : ∀ k k' i i', k < 5 → k' < 5 → i < n k → i' < n k' → b k i = b k' i' → k = k' ∧ i = i')
    (hg : ∀ k k', k < 5 → k' < 5 → k ≠ k' → 0 < n k → p k ≠ p k') (hB : B ≤ w.heap.size) (hn : tot n 5 ≤ 3000) (hl : ∀ k i, k < 5 → i < n k → l k i ≤ 1000000) :
    Calls Try.prog 27 #[.slice (some ⟨L, 0, none⟩) 5 5] w fun e w' => e = .returned (.bool true) ∧ Below B w w' := by
  obtain ⟨i0, hi', hz0', hz1', hz2'⟩ := info_parts Try.infoRow
  have HI := Lib.hid hi'; have HZ0 := Lib.hid hz0'; have HZ1 := Lib.hid hz1'; have HZ2 := Lib.hid hz2'
  have HLc := Lib.hid (show ∀ W : World, W.heap[L]? = w.heap[L]? → ∀ k, k < 5 → W.cell? ⟨L, k, none⟩ = some (.slice (p k) (n k) (cp k)) from fun W e k hk => by
    rw [cell_of_row W L k _ _ _ (e.trans hL)]
    rcases (show k = 0 ∨ k = 1 ∨ k = 2 ∨ k = 3 ∨ k = 4 by omega) with rfl | rfl | rfl | rfl | rfl <;> rfl)
  have hLlt : L < w.heap.size := (Array.getElem?_eq_some_iff.1 hL).1
  have hnk : ∀ k, k < 5 → tot n (k + 1) ≤ 3000 := fun k hk => by
    have : tot n 5 = n 0 + n 1 + n 2 + n 3 + n 4 := by simp [tot]
    rcases (show k = 0 ∨ k = 1 ∨ k = 2 ∨ k = 3 ∨ k = 4 by omega) with rfl | rfl | rfl | rfl | rfl <;> simp [tot] <;> omega
  have HG := Lib.hid hG; have HD := Lib.hid hd; have HGG := Lib.hid hg; have HLL := Lib.hid hl; have HLB := Lib.hid hL; have HNK := Lib.hid hnk
  have HB0 := Lib.hid (Below.refl w.heap.size w)
  have HO0 := Lib.hid (World.ownsRow_nil w w.heap.size 23 1)
  clear hi' hz0' hz1' hz2' hG hd hg hl hL hnk
  go_enter Try.func27, Try.ntmps27
  go_wp2_with fail
  go_loopw [3, 4] (fun v i wr => ∃ k : Nat, k ≤ 5 ∧ i = .int .i64 k ∧ wr.ownsRow w.heap.size 23 1 v (tot n k) (vl b l c (pairs n k)) ∧ Below w.heap.size w wr) (fun _ i _ => 5 - (intOf i).toNat)
  case atStart => exact ⟨0, by omega, rfl, HO0.out, HB0.out⟩
  case round =>
    rename_i wr
    obtain ⟨k, hk, rfl, hO, hBe⟩ := hrel
    have HO := Lib.hid hO; have HB := Lib.hid hBe
    clear hO hBe
    by_cases hk5 : k < 5
    · have i1 : (k : Int) < 5 := by omega
      have cL := HLc.out wr (HB.out.block L hLlt) k hk5
      have htot := HNK.out k hk5
      have htk : tot n (k + 1) = tot n k + n k := rfl
      rw [htk] at htot
      clear htk
      rcases (HG.out k hk5).2 with ⟨e1, e2, e3⟩ | ⟨G, e1, hGr⟩
      · rw [e1, e2, e3] at cL
        have HE2 := Lib.hid e2
        clear e1 e2 e3
        go_wp2_with ((refine wpList_append_own_none rfl (.tmp 15) (.tmp 19) 22 rfl w.heap.size 23 i0 1 Try.underlying22 HI.out _ (tot n k) (vl b l c (pairs n k)) rfl HO.out rfl ?_))
        go_roundw
        case rel => exact ⟨k + 1, by omega, by go_num, by
          have h1 : tot n (k + 1) = tot n k := by show tot n k + n k = tot n k; rw [HE2.out, Nat.add_zero]
          have h2 : vl b l c (pairs n (k + 1)) = vl b l c (pairs n k) := by rw [vl_s, HE2.out]; simp
          rw [h1, h2]; exact HO.out, HB.out⟩
        case measure => simp [intOf]; omega
      · rw [e1] at cL
        have hrd := (hGr.same HB.out).rd
        have HRD := Lib.hid (hrd.lists _ rfl)
        clear e1 hrd
        go_wp2_with ((refine wpList_append_own _ rfl (.tmp 15) (.tmp 19) 22 rfl w.heap.size 23 i0 (.slice none 0 0) 1 24 Try.underlying22 HI.out HZ0.out HZ1.out HZ2.out rfl (by decide) _ (tot n k) (vl b l c (pairs n k)) rfl HO.out ⟨G, 0, none⟩ (n k) (cp k) ((List.range (n k)).map fun i => Value.slice (some ⟨b k i, 0, none⟩) (l k i) (c k i)) rfl (by simp) HRD.out (fun u hu => by obtain ⟨i, _, rfl⟩ := List.mem_map.1 hu; rfl) (by unfold maxLen; omega) (by omega) HB.out.size ?_); intro v' w1 hown hgrow _; have HO2 := Lib.hid hown; have HGR := Lib.hid hgrow; clear hown hgrow)
        go_roundw
        case rel => exact ⟨k + 1, by omega, by go_num, by rw [vl_s]; exact HO2.out, HB.out.grown HGR.out HB.out.size (fun g e => (HO.out.lt g e).1)⟩
        case measure => simp [intOf]; omega
    · obtain rfl : k = 5 := by omega
      go_wp2_with fail
      refine (apart_all B n b l c f w wr _ HO.out HB.out (fun k i hk hi => (HG.out k hk).rowOf hi) HD.out hB hn HLL.out).mono ?_
      rintro e w2 ⟨rfl, hB2, hkp⟩
      have hneL : ∀ k i, k < 5 → i < n k → L ≠ b k i := fun k i hk hi e => by
        obtain ⟨vs, h1, _⟩ := ((HG.out k hk).rowOf hi).1
        rw [← e, HLB.out] at h1
        injection h1 with h1
        injection h1 with _ h2
        exact absurd h2 (by decide)
      have hL2 := hkp L hLlt hneL
      have hA2 : Anew w2 p n cp 0 0 := fun t ht h0 => by
        obtain ⟨G, e1, hGr⟩ := (HG.out t ht).pos h0
        obtain ⟨vs, k1, k2, k3⟩ := hGr.blk
        refine ⟨G, vs, e1, (hkp G hGr.ltG fun k i hk hi e => ?_).trans k1, by have := hGr.nc.1; omega, hGr.nc.1, fun i hi hc => by omega⟩
        obtain ⟨vs', h1, _⟩ := ((HG.out k hk).rowOf hi).1
        rw [← e, k1] at h1
        injection h1 with h1
        injection h1 with _ h2
        exact absurd h2 (by decide)
      have HL2 := Lib.hid hL2; have HA2 := Lib.hid hA2; have HB2 := Lib.hid hB2
      have HLT2 := Lib.hid (Nat.lt_of_lt_of_le hLlt hB2.size)
      clear hB2 hkp hneL hL2 hA2
      go_wp2_with fail
      go_loopw [5] (fun i wr => ∃ k : Nat, k ≤ 5 ∧ i = .int .i64 k ∧ Anew wr p n cp k 0 ∧ wr.heap[L]? = w.heap[L]? ∧ Below B w wr) (fun i _ => 5 - (intOf i).toNat)
      case atStart => exact ⟨0, by omega, rfl, HA2.out, HL2.out, HB2.out⟩
      case round =>
        rename_i wr
        obtain ⟨k, hk, rfl, hA, hLk, hBe⟩ := hrel
        obtain ⟨wo, rfl⟩ : ∃ wo : World, wo = wr := ⟨_, rfl⟩
        have HA := Lib.hid hA; have HLk := Lib.hid hLk; have HBe := Lib.hid hBe
        clear hA hLk hBe
        by_cases hk5 : k < 5
        · have i1 : (k : Int) < 5 := by omega
          go_wp2_with fail
          go_loopw [6] (fun i wr => ∃ m : Nat, m ≤ n k ∧ i = .int .i64 m ∧ Anew wr p n cp k m ∧ wr.heap[L]? = w.heap[L]? ∧ Below B w wr) (fun i _ => n k - (intOf i).toNat)
          case atStart => exact ⟨0, by omega, rfl, HA.out, HLk.out, HBe.out⟩
          case round =>
            rename_i wr
            obtain ⟨m, hm, rfl, hA, hLk, hBe⟩ := hrel
            have cL := HLc.out wr hLk k hk5
            have HA3 := Lib.hid hA; have HLk3 := Lib.hid hLk; have HB3 := Lib.hid hBe
            clear hLk hBe
            by_cases hmn : m < n k
            · obtain ⟨G, vs, e1, e2, e3, e4, e5⟩ := hA k hk5 (by omega)
              have j1 : (m : Int) < ((n k : Nat) : Int) := by omega
              have htot := HNK.out k hk5
              have hnk9 : n k ≤ 3000 := by have : tot n (k + 1) = tot n k + n k := rfl; omega
              rw [e1] at cL
              have cG : wr.cell? ⟨G, m, none⟩ = some (vs[m]'(by omega)) := by
                rw [cell_of_row wr G m vs _ _ e2]; simp [show m < vs.size by omega]
              have fG : wr.frozen? ⟨G, m, none⟩ = false := frozen_of_row wr G m vs _ e2
              have hLlt3 : L < wr.heap.size := World.block_lt_of_cell? _ _ cL
              have hGlt : G < wr.heap.size := (Array.getElem?_eq_some_iff.1 e2).1
              have HE1 := Lib.hid e1
              generalize vs[m]'(by omega) = v0 at cG
              clear hA e1 e2 e3 e4 e5
              go_wp2_with fail
              have hnl : nlen k m ≤ 97 := by unfold nlen; omega
              have hmk := hmk8 (nlen k m) (by omega)
              have s3 : ((k : Int) * 31 + (m : Int)) % 97 + 1 = ((nlen k m : Nat) : Int) := by unfold nlen; omega
              have s4 : 1 + ((k : Int) * 31 + (m : Int)) % 97 = ((nlen k m : Nat) : Int) := by unfold nlen; omega
              have cL' : (wr.alloc (.cells (madeCells #[.int .u8 0] (nlen k m)) 5)).cell? ⟨L, k, none⟩ = some (.slice (some ⟨G, 0, none⟩) (n k) (cp k)) := by
                rw [World.cell?_alloc_lt _ _ _ (by simpa using hLlt3)]; exact cL
              have cG' : (wr.alloc (.cells (madeCells #[.int .u8 0] (nlen k m)) 5)).cell? ⟨G, m, none⟩ = some v0 := by
                rw [World.cell?_alloc_lt _ _ _ (by simpa using hGlt)]; exact cG
              have fG' : (wr.alloc (.cells (madeCells #[.int .u8 0] (nlen k m)) 5)).frozen? ⟨G, m, none⟩ = false := by
                rw [World.frozen?_of_block (Below.heap_alloc wr _ G hGlt)]; exact fG
              go_region
              clear cL cG fG cL' cG' fG' s3 s4 hmk
              have hset := HA3.out.set HE1.out (fun t ht hne h0 => HGG.out t k ht hk5 hne h0) hmn (some ⟨wr.heap.size, 0, none⟩) (nlen k m)
              have hA4 : Anew (((wr.setCell ⟨G, m, none⟩ (.slice (some ⟨wr.heap.size, 0, none⟩) (nlen k m) (nlen k m))).alloc (.cells (madeCells #[.int .u8 0] (nlen k m)) 5)).drew) p n cp k (m + 1) :=
                (hset.same ((Below.refl _ _).alloc (Nat.le_refl _) _)).same (Below.refl _ _).drew
              have hL4 : (((wr.setCell ⟨G, m, none⟩ (.slice (some ⟨wr.heap.size, 0, none⟩) (nlen k m) (nlen k m))).alloc (.cells (madeCells #[.int .u8 0] (nlen k m)) 5)).drew).heap[L]? = w.heap[L]? := by
                have hLG : L ≠ G := fun e => by
                  obtain ⟨G', hp, hGr⟩ := (HG.out k hk5).pos (by omega)
                  have hlb := HLB.out
                  obtain ⟨G2, vs2, q1, q2, _⟩ := HA3.out k hk5 (by omega)
                  rw [HE1.out] at q1
                  simp only [Option.some.injEq, Addr.mk.injEq, and_true] at q1
                  subst q1
                  rw [← e, HLk3.out, hlb] at q2
                  injection q2 with q2
                  injection q2 with _ q3
                  exact absurd q3 (by decide)
                have h1 : (((wr.setCell ⟨G, m, none⟩ (.slice (some ⟨wr.heap.size, 0, none⟩) (nlen k m) (nlen k m))).alloc (.cells (madeCells #[.int .u8 0] (nlen k m)) 5)).drew).heap[L]? = (wr.setCell ⟨G, m, none⟩ (.slice (some ⟨wr.heap.size, 0, none⟩) (nlen k m) (nlen k m))).heap[L]? := Below.heap_alloc _ _ L (by rw [World.size_setCell]; exact hLlt3)
                exact (h1.trans (Below.heap_setCell wr ⟨G, m, none⟩ _ L hLG)).trans HLk3.out
              have hBG : B ≤ G := by
                obtain ⟨G', hp, hGr⟩ := (HG.out k hk5).pos (by omega)
                rw [HE1.out] at hp
                simp only [Option.some.injEq, Addr.mk.injEq, and_true] at hp
                subst hp
                exact hGr.lo.1
              have hB4 : Below B w (((wr.setCell ⟨G, m, none⟩ (.slice (some ⟨wr.heap.size, 0, none⟩) (nlen k m) (nlen k m))).alloc (.cells (madeCells #[.int .u8 0] (nlen k m)) 5)).drew) :=
                ((HB3.out.setCell (p := ⟨G, m, none⟩) hBG _).alloc (by rw [World.size_setCell]; exact Nat.le_trans hB HB3.out.size) _).drew
              have HA4 := Lib.hid hA4; have HL4 := Lib.hid hL4; have HB4 := Lib.hid hB4
              clear hset hA4 hL4 hB4
              go_wp2_with fail
              go_roundw
              case rel => exact ⟨m + 1, by omega, by go_num, HA4.out, HL4.out, HB4.out⟩
              case measure => simp [intOf]; omega
            · obtain rfl : m = n k := by omega
              have j1 : ¬ ((n k : Nat) : Int) < ((n k : Nat) : Int) := by omega
              clear hA
              go_wp2_with fail
              go_roundw
              case rel => exact ⟨k + 1, by omega, by go_num, HA3.out.next, HLk3.out, HB3.out⟩
              case measure => simp [intOf]; omega
        · obtain rfl : k = 5 := by omega
          have i1 : ¬ ((5 : Nat) : Int) < 5 := by omega
          go_wp2_with fail
          clear i1
          go_loop [7] (fun i => ∃ k : Nat, k ≤ 5 ∧ i = .int .i64 k) (fun i => 5 - (intOf i).toNat)
          case atStart => exact ⟨0, by omega, rfl⟩
          case round =>
            obtain ⟨k, hk, rfl⟩ := hrel
            by_cases hk5 : k < 5
            · have i1 : (k : Int) < 5 := by omega
              go_wp2_with fail
              go_loop [8] (fun i => ∃ m : Nat, m ≤ n k ∧ i = .int .i64 m) (fun i => n k - (intOf i).toNat)
              case atStart => exact ⟨0, by omega, rfl⟩
              case round =>
                obtain ⟨m, hm, rfl⟩ := hrel
                have cL := HLc.out wo HLk.out k hk5
                by_cases hmn : m < n k
                · obtain ⟨G, vs, e1, e2, e3, e4, e5⟩ := HA.out k hk5 (by omega)
                  obtain ⟨ad, cc, e6⟩ := e5 m hmn (Or.inl hk5)
                  have j1 : (m : Int) < ((n k : Nat) : Int) := by omega
                  have htot := HNK.out k hk5
                  have hnk9 : n k ≤ 3000 := by have : tot n (k + 1) = tot n k + n k := rfl; omega
                  rw [e1] at cL
                  have cG : wo.cell? ⟨G, m, none⟩ = some (.slice ad (nlen k m) cc) := by rw [cell_of_row wo G m vs _ _ e2]; exact e6
                  have s4 : 1 + ((k : Int) * 31 + (m : Int)) % 97 = ((nlen k m : Nat) : Int) := by unfold nlen; omega
                  have hne : (((nlen k m : Nat) : Int) != ((nlen k m : Nat) : Int)) = false := by simp
                  clear e1 e2 e3 e4 e5 e6
                  go_wp2_with fail
                  go_round
                  case rel => exact ⟨m + 1, by omega, by go_num⟩
                  case measure => simp [intOf]; omega
                · obtain rfl : m = n k := by omega
                  have j1 : ¬ ((n k : Nat) : Int) < ((n k : Nat) : Int) := by omega
                  go_wp2_with fail
                  go_round
                  case rel => exact ⟨k + 1, by omega, by go_num⟩
                  case measure => simp [intOf]; omega
            · obtain rfl : k = 5 := by omega
              have i1 : ¬ ((5 : Nat) : Int) < 5 := by omega
              go_wp2
              go_ret
              exact ⟨rfl, HBe.out⟩
end Go.Proofs.Ytgflpfopiofjeaa
