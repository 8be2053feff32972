import Derived.Test.YtmjjhbeegjbocaaMg31
import Derived.Test.YtmjjhbeegjbocaaMg36
namespace Go.Proofs.Ytmjjhbeegjbocaa.Sp
open Go.RowKit Go.Shelf
open Of (OfRow Off spn off_blk off_none)
open Ar (tot)

theorem of_bl {w : World} {B g N C o l cap : Nat} {h : Nat → Nat} (hb : Bl w g N C h) (hB : B ≤ g) (h1 : l ≤ cap) (h2 : o + cap ≤ C) (h3 : o + l ≤ N) (hm : cap ≤ maxLen) : OfRow w B (.slice (some ⟨g, o, none⟩) l cap) l (rowv (fun j => h (o + j)) l) := by
  have hlt := hb.lt
  have hc := fun i hi => hb.cell (i := i) hi
  obtain ⟨vs, e1, e2, e3⟩ := hb
  refine ⟨rowv_len _ _, .inr ⟨g, o, cap, rfl, hB, hlt, h1, hm, fun j hj => ⟨?_, frozen_of_row w g _ _ _ e1⟩, fun j u hj => ?_⟩⟩
  · rw [cell_of_row w g (o + j) _ _ _ e1, Array.getElem?_eq_getElem (by omega)]; rfl
  · have hjl : j < l := by have := (List.getElem?_eq_some_iff.1 hj).1; rwa [rowv_len] at this
    rw [rowv_get hjl] at hj
    rw [← hj]; exact hc (o + j) (by omega)
theorem bl_u8 {w : World} {g n cap : Nat} {h : Nat → Nat} (hb : Bl w g n cap h) : ∃ vs z, w.heap[g]? = some (.cells vs 5 z) := by
  obtain ⟨vs, e, _⟩ := hb
  exact ⟨vs, _, e⟩
theorem apart_lists (B L K : Nat) (p : Nat → Option Addr) (n cp : Nat → Nat) (r : Nat → Nat → Option Addr) (l c : Nat → Nat → Nat) (f : Nat → Nat → Nat → Nat) (lo hi : Nat → Nat) (w : World)
    (hL : ∃ us : Array Value, w.heap[L]? = some (.cells us 23 (0, 0)) ∧ us.size = K ∧ ∀ k, k < K → us[k]? = some (.slice (p k) (n k) (cp k)))
    (hG : ∀ k, k < K → Of.Gx w B (p k) (n k) (cp k) (r k) (l k) (c k) (f k))
    (h8 : ∀ k, k < K → ∀ i g, i < n k → Of.blk (r k i) = some g → (∃ vs z, w.heap[g]? = some (.cells vs 5 z)) ∧ lo k ≤ g ∧ g < hi k)
    (hD : ∀ k k', k < K → k' < K → k ≠ k' → hi k ≤ lo k' ∨ hi k' ≤ lo k)
    (hW : ∀ k, k < K → ∀ i i', i < n k → i' < n k → i ≠ i' → Off (spn (r k i) (c k i)) (spn (r k i') (c k i')))
    (hg : ∀ k k', k < K → k' < K → k ≠ k' → 0 < n k → p k ≠ p k') (hB : B ≤ w.heap.size) (hn : tot n K ≤ 200000) (hl : ∀ k, k < K → ∀ i, i < n k → l k i ≤ 1000000) (hK : K ≤ 1000) :
    Calls Try.prog 23 #[.slice (some ⟨L, 0, none⟩) K K] w fun e w' => e = .returned (.bool true) ∧ Below B w w' := by
  refine Of.apartRows_any B L K p n cp r l c f w hL hG (fun k k' i i' hk hk' hi hi' hne => ?_) (fun k i hk hi e => ?_) (fun t k i G ht hk hi h0 e e2 => ?_) hg hB hn (fun k i hk hi => hl k hk i hi) hK
  · by_cases e : k = k'
    · subst e
      exact hW k hk i i' hi hi' (fun q => hne ⟨rfl, q⟩)
    · refine off_blk fun y e1 e2 => ?_
      have a1 := (h8 k hk i y hi e1).2
      have a2 := (h8 k' hk' i' y hi' e2).2
      rcases hD k k' hk hk' e with q | q <;> omega
  · obtain ⟨us, hu, _⟩ := hL
    obtain ⟨⟨vs, z, e1⟩, _⟩ := h8 k hk i L hi e
    rw [hu] at e1
    simp only [Option.some.injEq, Obj.cells.injEq] at e1
    exact absurd e1.2.1 (by decide)
  · obtain ⟨⟨vs, z, e1⟩, _⟩ := h8 k hk i G hi e2
    obtain ⟨G', vs', q1, _, q2, _⟩ := (hG t ht).pos h0
    rw [e] at q1
    cases q1
    rw [q2] at e1
    simp only [Option.some.injEq, Obj.cells.injEq] at e1
    exact absurd e1.2.1 (by decide)
/-- the k-th of four. -/
def qua {α : Type} (x0 x1 x2 x3 : α) : Nat → α
  | 0 => x0 | 1 => x1 | 2 => x2 | _ => x3
theorem qua_all {P : Nat → Prop} (h0 : P 0) (h1 : P 1) (h2 : P 2) (h3 : P 3) : ∀ k, k < 4 → P k := fun k hk => by
  rcases (show k = 0 ∨ k = 1 ∨ k = 2 ∨ k = 3 by omega) with rfl | rfl | rfl | rfl <;> assumption
theorem qua_two {P : Nat → Nat → Prop} (hs : ∀ i j, P i j → P j i) (h01 : P 0 1) (h02 : P 0 2) (h03 : P 0 3) (h12 : P 1 2) (h13 : P 1 3) (h23 : P 2 3) : ∀ i j, i < 4 → j < 4 → i ≠ j → P i j := fun i j hi hj hne => by
  rcases (show i = 0 ∨ i = 1 ∨ i = 2 ∨ i = 3 by omega) with rfl | rfl | rfl | rfl <;> rcases (show j = 0 ∨ j = 1 ∨ j = 2 ∨ j = 3 by omega) with rfl | rfl | rfl | rfl <;> first | (exact absurd rfl hne) | assumption | (exact hs _ _ (by assumption))
/-- rows that are cut, as they lie: none, or parts of one list. -/
def CutRows (w : World) (lo hi : Nat) (p : Option Addr) (k wi : Nat) (f : Nat → Nat) (r : Nat → Option Addr) : Prop :=
  (p = none ∧ k = 0) ∨ ∃ G g vs, p = some ⟨G, 0, none⟩ ∧ lo ≤ G ∧ G < hi ∧ lo ≤ g ∧ g < hi ∧ r = (fun i => some ⟨g, i * wi, none⟩) ∧ Bl w g (k * wi) (k * wi) f ∧ w.heap[G]? = some (.cells vs 22 (0, 0)) ∧ k ≤ vs.size ∧ ∀ i, i < k → vs[i]? = some (.slice (r i) wi wi)
section
variable {w w' : World} {lo hi k wi : Nat} {p : Option Addr} {f : Nat → Nat} {r : Nat → Option Addr}
theorem CutRows.same (h : CutRows w lo hi p k wi f r) (hB : Below w.heap.size w w') : CutRows w' lo hi p k wi f r := by
  rcases h with h | ⟨G, g, vs, h1, h2, h3, h4, h5, h6, h7, h8, h9, h10⟩
  · exact Or.inl h
  · exact Or.inr ⟨G, g, vs, h1, h2, h3, h4, h5, h6, h7.below hB h7.lt, (hB.block G (Array.getElem?_eq_some_iff.1 h8).1).trans h8, h9, h10⟩
theorem CutRows.rd (h : CutRows w lo hi p k wi f r) (hb : Pf.By f) (hk : k ≤ 1000000) (hs : k * wi ≤ 1000000) : Rd w p k k r (fun _ => wi) (fun _ => wi) (crow f wi) := by
  rcases h with ⟨rfl, rfl⟩ | ⟨G, g, vs, rfl, h2, h3, h4, h5, rfl, h7, h8, h9, h10⟩
  · exact ⟨Nat.le_refl _, Nat.zero_le _, fun i => crow_by hb wi i, fun _ => ⟨rfl, rfl⟩, fun _ e => (by cases e), fun _ e => (by cases e), fun i hi => absurd hi (Nat.not_lt_zero i)⟩
  · refine ⟨Nat.le_refl _, by unfold maxLen; omega, fun i => crow_by hb wi i, fun e => (by cases e), fun ad e _ => (by cases e; rfl), fun ad e i hi => ?_, fun i hi => ?_⟩
    · cases e
      show w.cell? ⟨G, 0 + i, none⟩ = _
      rw [Nat.zero_add, cell_of_row w G i vs _ _ h8]; exact h10 i hi
    · have hp := place_le (wi := wi) hi
      refine ⟨Nat.le_refl _, by unfold maxLen; omega, crow_by hb wi i, crow_up f wi i, fun e => (by cases e), fun ad e _ => (by cases e; rfl), fun ad e j hj => ?_⟩
      cases e
      show w.cell? ⟨g, i * wi + j, none⟩ = _
      rw [h7.cell (by omega)]
      unfold crow
      rw [if_pos hj]
theorem CutRows.gx (h : CutRows w lo hi p k wi f r) {B : Nat} (hB : B ≤ lo) (hk : k ≤ 1000000) (hs : k * wi ≤ 1000000) : Of.Gx w B p k k r (fun _ => wi) (fun _ => wi) (crow f wi) := by
  rcases h with ⟨rfl, rfl⟩ | ⟨G, g, vs, rfl, h2, h3, h4, h5, rfl, h7, h8, h9, h10⟩
  · exact ⟨Or.inl ⟨rfl, rfl, rfl⟩, fun i hi => absurd hi (Nat.not_lt_zero i)⟩
  · refine ⟨Or.inr ⟨G, vs, rfl, by omega, h8, h9, Nat.le_refl _, by unfold maxLen; omega, h10⟩, fun i hi => ?_⟩
    have hp := place_le (wi := wi) hi
    have := of_bl h7 (show B ≤ g by omega) (o := i * wi) (l := wi) (cap := wi) (Nat.le_refl _) hp hp (by unfold maxLen; omega)
    rw [rowv_congr (g := crow f wi i) (fun j hj => by unfold crow; rw [if_pos hj])] at this
    exact this
theorem CutRows.at_ (h : CutRows w lo hi p k wi f r) : ∀ i g, i < k → Of.blk (r i) = some g → (∃ vs z, w.heap[g]? = some (.cells vs 5 z)) ∧ lo ≤ g ∧ g < hi := fun i g hi e => by
  rcases h with ⟨rfl, rfl⟩ | ⟨G, g', vs, rfl, h2, h3, h4, h5, rfl, h7, h8, h9, h10⟩
  · omega
  · cases e
    exact ⟨bl_u8 h7, h4, h5⟩
theorem CutRows.off (h : CutRows w lo hi p k wi f r) : ∀ i i', i < k → i' < k → i ≠ i' → Off (spn (r i) wi) (spn (r i') wi) := fun i i' hi hi' hne => by
  rcases h with ⟨rfl, rfl⟩ | ⟨G, g', vs, rfl, h2, h3, h4, h5, rfl, h7, h8, h9, h10⟩
  · omega
  · intro a b c a' b' c' e e'
    cases e
    cases e'
    rcases Nat.lt_or_gt_of_ne hne with q | q
    · exact Or.inr (Or.inl (place_le (wi := wi) q))
    · exact Or.inr (Or.inr (place_le (wi := wi) q))
theorem CutRows.list (h : CutRows w lo hi p k wi f r) : ∀ G, p = some ⟨G, 0, none⟩ → lo ≤ G ∧ G < hi := fun G e => by
  rcases h with ⟨rfl, rfl⟩ | ⟨G', g', vs, rfl, h2, h3, _⟩
  · cases e
  · cases e; exact ⟨h2, h3⟩
end
end Go.Proofs.Ytmjjhbeegjbocaa.Sp

namespace Go.Proofs.Ytmjjhbeegjbocaa.Sp
open Go.RowKit Go.Shelf
open Of (OfRow Off spn off_blk off_none)

theorem own_vs {w : World} {B G K : Nat} {xs : List Value} (h : w.ownsRow B 22 1 (.slice (some ⟨G, 0, none⟩) K K) K xs) : ∃ vs, w.heap[G]? = some (.cells vs 22 (0, 0)) ∧ K ≤ vs.size ∧ ∀ i u, i < K → xs[i]? = some u → vs[i]? = some u := by
  rcases h.2 with ⟨e, _⟩ | ⟨g, cap, cur, e, _, hg, hnc, _, hs, ht⟩
  · cases e
  · simp only [Value.slice.injEq, Option.some.injEq, Addr.mk.injEq, and_true, true_and] at e
    obtain ⟨rfl, rfl⟩ := e
    refine ⟨cur, hg, by omega, fun i u hi hu => ?_⟩
    rw [← ht, List.getElem?_take, if_pos (by omega), Array.getElem?_toList] at hu
    exact hu
/-- both answers of Cut. -/
theorem cut_both (n : Nat) (k : Int) (f : Nat → Nat) (hb : Pf.By f) (hu : Pf.Up f n) : ∃ (kk wi : Nat) (E : Int), kk ≤ 255 ∧ wi ≤ 66000 ∧ kk * wi ≤ 66000 ∧
    (∀ a cap w, Sl w a n cap f → Calls Try.prog 11 #[.slice a n cap, .int .i64 k] w fun e w' => ∃ p r, e = .returned (.tuple #[.slice p kk kk, .int .i64 E]) ∧ CutRows w' w.heap.size w'.heap.size p kk wi f r ∧ Below w.heap.size w w') ∧
    (∀ a cap w, Sl w a n cap f → Calls Try.prog 12 #[.slice a n cap, .int .i64 k] w fun e w' => ∃ p c b, e = .returned (.tuple #[.slice p kk c, .int .i64 E]) ∧ Go_ w' w.heap.size p kk c b (fun _ => wi) (fun _ => wi) (crow f wi) ∧ Below w.heap.size w w') := by
  by_cases h : Bad n k
  · refine ⟨0, 0, 2, by omega, by omega, by omega, fun a cap w hS => (cut_bad a n cap k h w).mono ?_, fun a cap w hS => (rcut_bad a n cap k h w).mono ?_⟩
    · rintro e w' ⟨rfl, rfl⟩
      exact ⟨none, fun _ => none, rfl, Or.inl ⟨rfl, rfl⟩, Below.refl _ _⟩
    · rintro e w' ⟨rfl, rfl⟩
      exact ⟨none, 0, fun _ => 0, rfl, ⟨fun i => crow_by hb 0 i, Or.inl ⟨rfl, rfl, rfl⟩⟩, Below.refl _ _⟩
  · have h' := h
    unfold Bad at h'
    obtain ⟨K, rfl⟩ : ∃ K : Nat, k = K := ⟨k.toNat, by omega⟩
    have hlo := wid_lo (L := n) (k := K) (by omega)
    have hle := wid_le (L := n) (k := K) (by omega)
    refine ⟨K, wid n K, 0, by omega, by omega, by omega, fun a cap w hS => (cut_ok a n cap K f (by omega) (by omega) (by omega) w hS).mono ?_, fun a cap w hS => (rcut_ok a n cap K f (by omega) (by omega) (by omega) w hS).mono ?_⟩
    · rintro e w' ⟨G, rfl, hf⟩
      obtain ⟨g, hG, hg, hne, hB, hbl, ho, hR⟩ := CutFin.rd hf hb hu (by omega) (by omega)
      obtain ⟨vs, e1, e2, e3⟩ := own_vs ho
      exact ⟨_, _, rfl, Or.inr ⟨G, g, vs, rfl, hG, (Array.getElem?_eq_some_iff.1 e1).1, hg, hbl.lt, rfl, hbl, e1, e2, fun i hi => e3 i _ hi (range_part g _ hi)⟩, hB⟩
    · rintro e w' ⟨pa, pc, b, rfl, hG, hB⟩
      exact ⟨_, _, _, rfl, hG, hB⟩
/-- a row that is joined, as it lies: none, or a block. -/
def JRow (w : World) (lo hi : Nat) (p : Option Addr) (J : Nat) (h : Nat → Nat) : Prop := (p = none ∧ J = 0) ∨ ∃ g, p = some ⟨g, 0, none⟩ ∧ lo ≤ g ∧ g < hi ∧ Bl w g J J h
theorem JRow.same {w w' : World} {lo hi J : Nat} {p : Option Addr} {h : Nat → Nat} (r : JRow w lo hi p J h) (hB : Below w.heap.size w w') : JRow w' lo hi p J h := r.imp id fun ⟨g, h1, h2, h3, h4⟩ => ⟨g, h1, h2, h3, h4.below hB h4.lt⟩
theorem JRow.sl {w : World} {lo hi J : Nat} {p : Option Addr} {h : Nat → Nat} (r : JRow w lo hi p J h) (hb : Pf.By h) (hu : Pf.Up h J) (hJ : J ≤ 1000000) : Sl w p J J h := by
  rcases r with ⟨rfl, rfl⟩ | ⟨g, rfl, h2, h3, h4⟩
  · exact ⟨Nat.le_refl _, Nat.zero_le _, hb, hu, fun _ => ⟨rfl, rfl⟩, fun _ e => (by cases e), fun _ e => (by cases e)⟩
  · exact h4.sl (Nat.le_refl _) (by unfold maxLen; omega) hb hu
theorem JRow.own {w : World} {lo hi J B : Nat} {p : Option Addr} {h : Nat → Nat} (r : JRow w lo hi p J h) (hJ : J ≤ 1000000) (hB : B ≤ lo) : OfRow w B (.slice p J J) J (rowv h J) := by
  rcases r with ⟨rfl, rfl⟩ | ⟨g, rfl, h2, h3, h4⟩
  · exact ⟨rowv_len _ _, Or.inl ⟨rfl, rfl⟩⟩
  · have := of_bl h4 (show B ≤ g by omega) (o := 0) (l := J) (cap := J) (Nat.le_refl _) (by omega) (by omega) (by unfold maxLen; omega)
    rw [rowv_congr (g := h) (fun j hj => by rw [Nat.zero_add])] at this
    exact this
theorem JRow.at_ {w : World} {lo hi J : Nat} {p : Option Addr} {h : Nat → Nat} (r : JRow w lo hi p J h) : ∀ g, Of.blk p = some g → (∃ vs z, w.heap[g]? = some (.cells vs 5 z)) ∧ lo ≤ g ∧ g < hi := fun g e => by
  rcases r with ⟨rfl, rfl⟩ | ⟨g', rfl, h2, h3, h4⟩
  · cases e
  · cases e; exact ⟨bl_u8 h4, h2, h3⟩
/-- both answers of Join. -/
theorem join_both (n : Nat) (l : Nat → Nat) (f : Nat → Nat → Nat) (x : Int) (hbm : Mt.Bm f) : ∃ (J : Nat) (E : Int) (h : Nat → Nat), J ≤ 65535 ∧ Pf.By h ∧ Pf.Up h J ∧
    (∀ a cap r c w, Rd w a n cap r l c f → Calls Try.prog 13 #[.slice a n cap, .int .i64 x] w fun e w' => ∃ p, e = .returned (.tuple #[.slice p J J, .int .i64 E]) ∧ JRow w' w.heap.size w'.heap.size p J h ∧ Below w.heap.size w w') ∧
    (∀ a cap r c w, Rd w a n cap r l c f → Calls Try.prog 14 #[.slice a n cap, .int .i64 x] w fun e w' => ∃ p c', e = .returned (.tuple #[.slice p J c', .int .i64 E]) ∧ Nw w' w.heap.size p J c' h ∧ Below w.heap.size w w') := by
  by_cases h : Bad x n
  · refine ⟨0, 2, fun _ => 0, by omega, fun _ => (by omega : 0 < 256), fun _ _ => rfl, fun a cap r c w hR => (join_bad a n cap x h w).mono ?_, fun a cap r c w hR => (rjoin_bad a n cap x h w).mono ?_⟩
    · rintro e w' ⟨rfl, hB⟩
      exact ⟨_, rfl, Or.inl ⟨rfl, rfl⟩, hB⟩
    · rintro e w' ⟨rfl, rfl⟩
      exact ⟨_, _, rfl, Nw.nil _ _ fun i => rfl, Below.refl _ _⟩
  · have h' := h
    unfold Bad at h'
    obtain ⟨L, rfl⟩ : ∃ L : Nat, x = L := ⟨x.toNat, by omega⟩
    by_cases hall : ∀ i, i < n → l i = wid L n
    · refine ⟨L, 0, cut0 (jn f (wid L n)) L, by omega, cut0_by (jn_by hbm _) L, cut0_up _ _, fun a cap r c w hR => (join_ok a n cap L r l c f (by omega) (by omega) (by omega) w hR).mono ?_, fun a cap r c w hR => (rjoin_ok a n cap L r l c f (by omega) (by omega) (by omega) w hR).mono ?_⟩
      · rintro e w' ⟨hB, ⟨_, i, hi, hne⟩ | ⟨_, g, rfl, hg, hb⟩⟩
        · exact absurd (hall i hi) hne
        · exact ⟨_, rfl, Or.inr ⟨g, rfl, hg, hb.lt, hb.congr fun i hi => by unfold cut0; rw [if_pos hi]⟩, hB⟩
      · rintro e w' ⟨hB, ⟨_, i, hi, hne⟩ | ⟨_, a', c', rfl, hN⟩⟩
        · exact absurd (hall i hi) hne
        · exact ⟨_, _, rfl, hN, hB⟩
    · refine ⟨0, 4, fun _ => 0, by omega, fun _ => (by omega : 0 < 256), fun _ _ => rfl, fun a cap r c w hR => (join_ok a n cap L r l c f (by omega) (by omega) (by omega) w hR).mono ?_, fun a cap r c w hR => (rjoin_ok a n cap L r l c f (by omega) (by omega) (by omega) w hR).mono ?_⟩
      · rintro e w' ⟨hB, ⟨rfl, _⟩ | ⟨ha, _⟩⟩
        · exact ⟨_, rfl, Or.inl ⟨rfl, rfl⟩, hB⟩
        · exact absurd ha hall
      · rintro e w' ⟨hB, ⟨rfl, _⟩ | ⟨ha, _⟩⟩
        · exact ⟨_, _, rfl, Nw.nil _ _ fun i => rfl, hB⟩
        · exact absurd ha hall
theorem rwidth_any (x k : Int) (w : World) :
    Calls Try.prog 16 #[.int .i64 x, .int .i64 k] w fun e w' => e = .returned (.tuple #[.int .i64 (wv x k), .int .i64 (we x k)]) ∧ w' = w := by
  unfold wv we
  by_cases h : Bad x k
  · rw [if_pos h, if_pos h]; exact rwidth_bad x k h w
  · rw [if_neg h, if_neg h]
    unfold Bad at h
    obtain ⟨X, rfl⟩ : ∃ X : Nat, x = X := ⟨x.toNat, by omega⟩
    obtain ⟨K, rfl⟩ : ∃ K : Nat, k = K := ⟨k.toNat, by omega⟩
    exact rwidth_ok X K (by omega) (by omega) (by omega) w
def uv (x k : Int) : Int := if Bad x k then 0 else (was x.toNat k.toNat : Nat)
theorem waste_any (x k : Int) (w : World) :
    Calls Try.prog 17 #[.int .i64 x, .int .i64 k] w fun e w' => e = .returned (.tuple #[.int .i64 (uv x k), .int .i64 (we x k)]) ∧ w' = w := by
  unfold uv we
  by_cases h : Bad x k
  · rw [if_pos h, if_pos h]; exact waste_bad x k h w
  · rw [if_neg h, if_neg h]
    unfold Bad at h
    obtain ⟨X, rfl⟩ : ∃ X : Nat, x = X := ⟨x.toNat, by omega⟩
    obtain ⟨K, rfl⟩ : ∃ K : Nat, k = K := ⟨k.toNat, by omega⟩
    exact waste_ok X K (by omega) (by omega) (by omega) w
theorem rwaste_any (x k : Int) (w : World) :
    Calls Try.prog 18 #[.int .i64 x, .int .i64 k] w fun e w' => e = .returned (.tuple #[.int .i64 (uv x k), .int .i64 (we x k)]) ∧ w' = w := by
  unfold uv we
  by_cases h : Bad x k
  · rw [if_pos h, if_pos h]; exact rwaste_bad x k h w
  · rw [if_neg h, if_neg h]
    unfold Bad at h
    obtain ⟨X, rfl⟩ : ∃ X : Nat, x = X := ⟨x.toNat, by omega⟩
    obtain ⟨K, rfl⟩ : ∃ K : Nat, k = K := ⟨k.toNat, by omega⟩
    exact rwaste_ok X K (by omega) (by omega) (by omega) w
end Go.Proofs.Ytmjjhbeegjbocaa.Sp

namespace Go.Proofs.Ytmjjhbeegjbocaa.Sp
open Go.RowKit Go.Shelf
open Of (OfRow Off spn off_blk off_none)
open Ar (tot)

theorem go_gx {w : World} {B n cap : Nat} {a : Option Addr} {b l c : Nat → Nat} {f : Nat → Nat → Nat} (h : Go_ w B a n cap b l c f) {B' : Nat} (hB : B' ≤ B) : Of.Gx w B' a n cap (fun i => some ⟨b i, 0, none⟩) l c f := by
  rcases h with ⟨hb, ⟨rfl, rfl, rfl⟩ | ⟨G, rfl, h⟩⟩
  · exact ⟨Or.inl ⟨rfl, rfl, rfl⟩, fun i hi => absurd hi (Nat.not_lt_zero i)⟩
  · obtain ⟨vs, h1, h2, h3⟩ := h.blk
    refine ⟨Or.inr ⟨G, vs, rfl, by have := h.lo.1; omega, h1, by have := h.nc.1; omega, h.nc.1, h.nc.2, h3⟩, fun i hi => ?_⟩
    have := of_bl (h.row i hi) (show B' ≤ b i by have := h.lo.2 i hi; omega) (o := 0) (l := l i) (cap := c i) (h.lc i hi).1 (by omega) (by omega) (h.lc i hi).2
    rw [rowv_congr (g := f i) (fun j hj => by rw [Nat.zero_add])] at this
    exact this
theorem go_at {w : World} {B n cap hi : Nat} {a : Option Addr} {b l c : Nat → Nat} {f : Nat → Nat → Nat} (h : Go_ w B a n cap b l c f) (hh : ∀ i, i < n → b i < hi) : ∀ i g, i < n → Of.blk (some (⟨b i, 0, none⟩ : Addr)) = some g → (∃ vs z, w.heap[g]? = some (.cells vs 5 z)) ∧ B ≤ g ∧ g < hi := fun i g hi' e => by
  obtain ⟨G, _, hG⟩ := h.pos (by omega)
  cases e
  exact ⟨bl_u8 (hG.row i hi'), hG.lo.2 i hi', hh i hi'⟩
theorem go_off {w : World} {B n cap : Nat} {a : Option Addr} {b l c : Nat → Nat} {f : Nat → Nat → Nat} (h : Go_ w B a n cap b l c f) : ∀ i i', i < n → i' < n → i ≠ i' → Off (spn (some (⟨b i, 0, none⟩ : Addr)) (c i)) (spn (some (⟨b i', 0, none⟩ : Addr)) (c i')) := fun i i' hi hi' hne => by
  obtain ⟨G, _, hG⟩ := h.pos (by omega)
  exact off_blk fun g e1 e2 => by
    cases e1
    injection e2 with e2
    exact hne (hG.inj i i' hi hi' e2.symm)
theorem go_lies {w : World} {B n cap : Nat} {a : Option Addr} {b l c : Nat → Nat} {f : Nat → Nat → Nat} (h : Go_ w B a n cap b l c f) : (∀ i, i < n → b i < w.heap.size) ∧ ∀ G, a = some ⟨G, 0, none⟩ → B ≤ G ∧ G < w.heap.size := by
  rcases h.2 with ⟨rfl, rfl, _⟩ | ⟨G, rfl, hG⟩
  · exact ⟨fun i hi => absurd hi (Nat.not_lt_zero i), fun _ e => (by cases e)⟩
  · exact ⟨fun i hi => hG.ltb hi, fun G' e => by cases e; exact ⟨hG.lo.1, hG.ltG⟩⟩
/-- a list of one slice. -/
theorem one_gx {w : World} {B G n c : Nat} {p : Option Addr} {h : Nat → Nat} (hG : w.heap[G]? = some (.cells #[.slice p n c] 22 (0, 0))) (hB : B ≤ G) (ho : OfRow w B (.slice p n c) n (rowv h n)) : Of.Gx w B (some ⟨G, 0, none⟩) 1 1 (fun _ => p) (fun _ => n) (fun _ => c) (fun _ => h) :=
  ⟨Or.inr ⟨G, _, rfl, hB, hG, Nat.le_refl _, Nat.le_refl _, by unfold maxLen; omega, fun i hi => by
    obtain rfl : i = 0 := by omega
    rfl⟩, fun _ _ => ho⟩

/-- what is told lies apart, from what was lent, too. -/
theorem apart_four (w : World) (B s1 s2 s3 s4 s5 s6 N : Nat) (hN : N + 1 + 1 + 1 ≤ w.heap.size) (k0 : B ≤ s1) (k1 : s1 < s2) (k2 : s2 ≤ s3) (k3 : s3 ≤ s4) (k4 : s4 ≤ s5) (k5 : s5 ≤ s6) (k6 : s6 ≤ N)
    {pa px pj : Option Addr} {kk wi rn pcx n J : Nat} {f hj : Nat → Nat} {rr : Nat → Option Addr} {bx l : Nat → Nat} {h : Nat → Nat → Nat} (hkk : kk ≤ 255) (hwi : wi ≤ 66000) (hkw : kk * wi ≤ 66000) (hrn : rn ≤ 70000) (hl : ∀ i, i < rn → l i ≤ 70000) (hn : n ≤ 70000) (hJ : J ≤ 65535)
    (hA : CutRows w s3 s4 pa kk wi f rr) (hX : Go_ w s2 px rn pcx bx l (fun i => l i + 12) h) (hX2 : ∀ i, i < rn → bx i < s3) (hX3 : ∀ G, px = some ⟨G, 0, none⟩ → s2 ≤ G ∧ G < s3) (hJr : JRow w s5 s6 pj J hj) (hI : Bl w s1 n (n + 12) f)
    (h1 : w.heap[N]? = some (.cells #[.slice pj J J] 22 (0, 0))) (h2 : w.heap[N + 1]? = some (.cells #[.slice (some ⟨s1, 0, none⟩) n (n + 12)] 22 (0, 0)))
    (h3 : w.heap[N + 1 + 1]? = some (.cells #[.slice pa kk kk, .slice px rn pcx, .slice (some ⟨N, 0, none⟩) 1 1, .slice (some ⟨N + 1, 0, none⟩) 1 1] 23 (0, 0))) :
    Calls Try.prog 23 #[.slice (some ⟨N + 1 + 1, 0, none⟩) 4 4] w fun e w' => e = .returned (.bool true) ∧ Below B w w' := by
  have hIo : OfRow w B (.slice (some ⟨s1, 0, none⟩) n (n + 12)) n (rowv f n) := by
    have := of_bl hI k0 (o := 0) (l := n) (cap := n + 12) (by omega) (by omega) (by omega) (by unfold maxLen; omega)
    rw [rowv_congr (g := f) (fun j hj => by rw [Nat.zero_add])] at this
    exact this
  refine apart_lists B (N + 1 + 1) 4 (qua pa px (some ⟨N, 0, none⟩) (some ⟨N + 1, 0, none⟩)) (qua kk rn 1 1) (qua kk pcx 1 1) (qua rr (fun i => some ⟨bx i, 0, none⟩) (fun _ => pj) (fun _ => some ⟨s1, 0, none⟩)) (qua (fun _ => wi) l (fun _ => J) (fun _ => n)) (qua (fun _ => wi) (fun i => l i + 12) (fun _ => J) (fun _ => n + 12)) (qua (crow f wi) h (fun _ => hj) (fun _ => f)) (qua s3 s2 s5 s1) (qua s4 s3 s6 s2) w
    ⟨_, h3, rfl, qua_all rfl rfl rfl rfl⟩ (qua_all (hA.gx (by omega) (by omega) (by omega)) (go_gx hX (by omega)) (one_gx h1 (by omega) (hJr.own (by omega) (by omega))) (one_gx h2 (by omega) hIo))
    (qua_all hA.at_ (go_at hX hX2) (fun _ g _ e => hJr.at_ g e) (fun _ g _ e => by cases e; exact ⟨bl_u8 hI, Nat.le_refl _, k1⟩))
    (qua_two (fun i j h => h.symm) (Or.inr (Nat.le_refl s3)) (Or.inl (show s4 ≤ s5 from k4)) (Or.inr (show s2 ≤ s3 from k2)) (Or.inl (show s3 ≤ s5 by omega)) (Or.inr (Nat.le_refl s2)) (Or.inr (show s2 ≤ s5 by omega)))
    (qua_all hA.off (go_off hX) (fun i i' hi hi' hne => absurd (show i = i' by have hi : i < 1 := hi; have hi' : i' < 1 := hi'; omega) hne) (fun i i' hi hi' hne => absurd (show i = i' by have hi : i < 1 := hi; have hi' : i' < 1 := hi'; omega) hne))
    ?_ (by omega) ?_ (qua_all (fun i _ => (show wi ≤ 1000000 by omega)) (fun i hi => (show l i ≤ 1000000 by have := hl i hi; omega)) (fun i _ => (show J ≤ 1000000 by omega)) (fun i _ => (show n ≤ 1000000 by omega))) (by omega)
  · have hp0 := hA.list
    have a2 : pa ≠ some ⟨N, 0, none⟩ := fun e => by have := hp0 N e; omega
    have a3 : pa ≠ some ⟨N + 1, 0, none⟩ := fun e => by have := hp0 (N + 1) e; omega
    have b2 : px ≠ some ⟨N, 0, none⟩ := fun e => by have := hX3 N e; omega
    have b3 : px ≠ some ⟨N + 1, 0, none⟩ := fun e => by have := hX3 (N + 1) e; omega
    have c3 : (some ⟨N, 0, none⟩ : Option Addr) ≠ some ⟨N + 1, 0, none⟩ := fun e => by
      simp only [Option.some.injEq, Addr.mk.injEq, and_true] at e; omega
    have a1 : pa = px → kk = 0 ∧ rn = 0 := fun e => by
      rcases hA with ⟨rfl, h⟩ | ⟨G, g, vs, rfl, q2, q3, _⟩
      · refine ⟨h, ?_⟩
        rcases hX.2 with ⟨_, h, _⟩ | ⟨G, h, _⟩
        · exact h
        · rw [h] at e; cases e
      · have := hX3 G e.symm; omega
    have key := qua_two (P := fun i j => (0 < qua kk rn 1 1 i → qua pa px (some ⟨N, 0, none⟩) (some (⟨N + 1, 0, none⟩ : Addr)) i ≠ qua pa px (some ⟨N, 0, none⟩) (some ⟨N + 1, 0, none⟩) j) ∧ (0 < qua kk rn 1 1 j → qua pa px (some ⟨N, 0, none⟩) (some (⟨N + 1, 0, none⟩ : Addr)) j ≠ qua pa px (some ⟨N, 0, none⟩) (some ⟨N + 1, 0, none⟩) i)) (fun i j h => ⟨h.2, h.1⟩)
      ⟨fun h e => by have h : 0 < kk := h; have := a1 e; omega, fun h e => by have h : 0 < rn := h; have := a1 e.symm; omega⟩ ⟨fun _ => a2, fun _ => a2.symm⟩ ⟨fun _ => a3, fun _ => a3.symm⟩ ⟨fun _ => b2, fun _ => b2.symm⟩ ⟨fun _ => b3, fun _ => b3.symm⟩ ⟨fun _ => c3, fun _ => c3.symm⟩
    exact fun i j hi hj hne h0 => (key i j hi hj hne).1 h0
  · show 0 + kk + rn + 1 + 1 ≤ 200000
    omega
end Go.Proofs.Ytmjjhbeegjbocaa.Sp

namespace Go.Proofs.Ytmjjhbeegjbocaa.Sp
open Go.RowKit Go.Shelf

set_option maxHeartbeats 8000000 in
set_option maxRecDepth 100000 in
theorem stripDoes_any (a : Option Addr) (n cap : Nat) (f : Nat → Nat) (k : Int) (ra : Option Addr) (rn rc : Nat) (r : Nat → Option Addr) (l c : Nat → Nat) (h : Nat → Nat → Nat) (x : Int) (hn : n ≤ 140737488355328) (hrn : rn ≤ 140737488355328) (hl : ∀ i, i < rn → l i ≤ 140737488355328) (w : World) (hS : Sl w a n cap f) (hR : Rd w ra rn rc r l c h) :
    Calls Try.prog 3 #[.slice a n cap, .int .i64 k, .slice ra rn rc, .int .i64 x] w fun e w' => e = .returned (.bool true) ∧ Below w.heap.size w w' := by
  have HS := Lib.hid hS; have HR := Lib.hid hR; have HL := Lib.hid hl
  clear hS hR hl
  go_enter Try.func3, Try.ntmps3
  go_wp2_with fail
  refine (size9_any ra rn rc r l c h hrn HL.out _ HR.out).mono ?_
  rintro e w0 ⟨⟨s, rfl, hs, hsz⟩, rfl⟩
  have HSZ := Lib.hid hsz; clear hsz
  by_cases hbig : n + s ≤ 70000
  · have g1 : decide ((70000 : Int) < (n : Int) + (s : Int)) = false := by simp; omega
    obtain ⟨hr7, hl7⟩ := HSZ.out (by omega)
    have HL7 := Lib.hid hl7
    have hn7 : n ≤ 70000 := by omega
    clear hl7 HSZ HL hn hrn
    obtain ⟨kk, wi, E1, hkk, hwi, hkw, cp, cr⟩ := cut_both n k f HS.out.bytes HS.out.up
    obtain ⟨J, E2, hj, hJ, hjb, hju, jp, jr⟩ := join_both rn l h x HR.out.bm
    have CP := Lib.hid cp; have CR := Lib.hid cr; have JP := Lib.hid jp; have JR := Lib.hid jr; have HJB := Lib.hid hjb; have HJU := Lib.hid hju
    clear cp cr jp jr hjb hju
    go_wp2_with fail
    clear g1
    refine (lentS_any a n cap f _ HS.out (by omega)).mono ?_
    rintro e w1 ⟨rfl, hb1, hB1⟩
    have HI1 := Lib.hid hb1; have HB1 := Lib.hid hB1; have hs1 := hb1.lt
    clear hb1 hB1
    go_wp2_with fail
    refine (lentRows_any ra rn rc r l c h (by omega) (fun i hi => by have := HL7.out i hi; omega) _ (HR.out.same HB1.out)).mono ?_
    rintro e w2 ⟨px, pcx, bx, rfl, hg, hle, hB⟩
    have hs2 := hB.size
    have hly := go_lies hg
    have HB2 := Lib.hid (HB1.out.trans (hB.mono HB1.out.size)); have HI2 := Lib.hid (HI1.out.same hB); have HX2 := Lib.hid hg; have HE2 := Lib.hid hle; have HLY := Lib.hid hly
    clear hg hle hB hly HI1
    go_wp2_with fail
    have hin : Sl w2 (some ⟨w0.heap.size, 0, none⟩) n (n + 12) f := HI2.out.bl.sl (by omega) (by unfold maxLen; omega) HS.out.bytes HS.out.up
    refine (CP.out _ _ _ hin).mono ?_
    rintro e w3 ⟨pa, rr, rfl, hcr, hB⟩
    have hs3 := hB.size
    have HB3 := Lib.hid (HB2.out.trans (hB.mono HB2.out.size)); have HI3 := Lib.hid (HI2.out.same hB); have HX3 := Lib.hid (HX2.out.same hB); have HE3 := Lib.hid (HE2.out.same hB); have HA3 := Lib.hid hcr
    clear hin hcr hB HI2 HX2 HE2 CP
    go_wp2_with fail
    refine (CR.out _ _ _ (HS.out.same HB3.out)).mono ?_
    rintro e w4 ⟨pc, cc, bc, rfl, hgc, hB⟩
    have hs4 := hB.size
    have HB4 := Lib.hid (HB3.out.trans (hB.mono HB3.out.size)); have HI4 := Lib.hid (HI3.out.same hB); have HX4 := Lib.hid (HX3.out.same hB); have HE4 := Lib.hid (HE3.out.same hB); have HA4 := Lib.hid (HA3.out.same hB); have HC4 := Lib.hid hgc
    clear hgc hB HI3 HX3 HE3 HA3 CR
    go_wp2_with fail
    refine (JP.out _ _ _ _ _ HX4.out.rd).mono ?_
    rintro e w5 ⟨pj, rfl, hjr, hB⟩
    have hs5 := hB.size
    have HB5 := Lib.hid (HB4.out.trans (hB.mono HB4.out.size)); have HI5 := Lib.hid (HI4.out.same hB); have HX5 := Lib.hid (HX4.out.same hB); have HE5 := Lib.hid (HE4.out.same hB); have HA5 := Lib.hid (HA4.out.same hB); have HC5 := Lib.hid (HC4.out.same hB); have HJ5 := Lib.hid hjr
    clear hjr hB HI4 HX4 HE4 HA4 HC4 JP
    go_wp2_with fail
    refine (JR.out _ _ _ _ _ (HR.out.same HB5.out)).mono ?_
    rintro e w6 ⟨pm, cm, rfl, hnw, hB⟩
    have hs6 := hB.size
    have HB6 := Lib.hid (HB5.out.trans (hB.mono HB5.out.size)); have HI6 := Lib.hid (HI5.out.same hB); have HX6 := Lib.hid (HX5.out.same hB); have HE6 := Lib.hid (HE5.out.same hB); have HA6 := Lib.hid (HA5.out.same hB); have HC6 := Lib.hid (HC5.out.same hB); have HJ6 := Lib.hid (HJ5.out.same hB); have HM6 := Lib.hid hnw.sl
    clear hnw hB HI5 HX5 HE5 HA5 HC5 HJ5 JR
    go_wp2_with fail
    refine (width_any x k _).mono ?_
    rintro e w7 ⟨rfl, rfl⟩
    go_wp2_with fail
    refine (rwidth_any x k _).mono ?_
    rintro e w7 ⟨rfl, rfl⟩
    go_wp2_with fail
    refine (waste_any x k _).mono ?_
    rintro e w7 ⟨rfl, rfl⟩
    go_wp2_with fail
    refine (rwaste_any x k _).mono ?_
    rintro e w7 ⟨rfl, rfl⟩
    generalize wv x k = v1
    generalize we x k = v2
    generalize uv x k = v3
    go_wp2_with fail
    refine (sameRows_any pa pc kk kk cc rr (fun i => some ⟨bc i, 0, none⟩) (fun _ => wi) (fun _ => wi) (fun _ => wi) (fun _ => wi) (crow f wi) (crow f wi) (by omega) (fun _ _ => by omega) _ (HA6.out.rd HS.out.bytes (by omega) (by omega)) HC6.out.rd (fun _ _ => ⟨rfl, rfl⟩)).mono ?_
    rintro e w8 ⟨rfl, q8, hq8⟩
    have hB8 := quiet_bel hq8
    have HB8 := Lib.hid (HB6.out.trans (hB8.mono HB6.out.size)); have HI8 := Lib.hid (HI6.out.same hB8); have HX8 := Lib.hid (HX6.out.same hB8); have HE8 := Lib.hid (HE6.out.same hB8); have HA8 := Lib.hid (HA6.out.same hB8); have HJ8 := Lib.hid (HJ6.out.same hB8); have HM8 := Lib.hid (HM6.out.same hB8)
    have hs8 := hB8.size
    clear hq8 hB8 HI6 HX6 HE6 HA6 HC6 HJ6 HM6
    go_wp2_with fail
    refine (same_any pj pm J J cm hj (by omega) _ (HJ8.out.sl HJB.out HJU.out (by omega)) HM8.out).mono ?_
    rintro e w9 ⟨rfl, q9, hq9⟩
    have hB9 := quiet_bel hq9
    have HB9 := Lib.hid (HB8.out.trans (hB9.mono HB8.out.size)); have HI9 := Lib.hid (HI8.out.same hB9); have HX9 := Lib.hid (HX8.out.same hB9); have HE9 := Lib.hid (HE8.out.same hB9); have HA9 := Lib.hid (HA8.out.same hB9); have HJ9 := Lib.hid (HJ8.out.same hB9)
    have hs9 := hB9.size
    clear hq9 hB9 HI8 HX8 HE8 HA8 HJ8 HM8
    go_wp2_with fail
    refine (keptS_any _ a n cap f _ (HS.out.same HB9.out) HI9.out (by omega)).mono ?_
    rintro e w10 ⟨rfl, q10, hq10⟩
    have hB10 := quiet_bel hq10
    have HB10 := Lib.hid (HB9.out.trans (hB10.mono HB9.out.size)); have HI10 := Lib.hid (HI9.out.same hB10); have HX10 := Lib.hid (HX9.out.same hB10); have HE10 := Lib.hid (HE9.out.same hB10); have HA10 := Lib.hid (HA9.out.same hB10); have HJ10 := Lib.hid (HJ9.out.same hB10)
    have hs10 := hB10.size
    clear hq10 hB10 HI9 HX9 HE9 HA9 HJ9
    go_wp2_with fail
    refine (keptRows_any px ra rn pcx rc _ bx r l c h (by omega) (fun i hi => by have := HL7.out i hi; omega) _ HX10.out HE10.out (HR.out.same HB10.out)).mono ?_
    rintro e w11 ⟨rfl, q11, hq11⟩
    have hB11 := quiet_bel hq11
    have HB11 := Lib.hid (HB10.out.trans (hB11.mono HB10.out.size)); have HI11 := Lib.hid (HI10.out.same hB11); have HX11 := Lib.hid (HX10.out.same hB11); have HA11 := Lib.hid (HA10.out.same hB11); have HJ11 := Lib.hid (HJ10.out.same hB11)
    have hs11 := hB11.size
    clear hq11 hB11 HI10 HX10 HE10 HA10 HJ10
    go_wp2_with fail
    have hW : Below w11.heap.size w11 (((w11.alloc (.cells #[.slice pj J J] 22)).alloc (.cells #[.slice (some ⟨w0.heap.size, 0, none⟩) n (n + 12)] 22)).alloc (.cells #[.slice pa kk kk, .slice px rn pcx, .slice (some ⟨w11.heap.size, 0, none⟩) 1 1, .slice (some ⟨w11.heap.size + 1, 0, none⟩) 1 1] 23)) :=
      (((Below.refl _ w11).alloc (Nat.le_refl _) _).alloc (by simp only [World.size_alloc]; omega) _).alloc (by simp only [World.size_alloc]; omega) _
    have b1 := (Below.heap_alloc ((w11.alloc (.cells #[.slice pj J J] 22)).alloc (.cells #[.slice (some ⟨w0.heap.size, 0, none⟩) n (n + 12)] 22)) (.cells #[.slice pa kk kk, .slice px rn pcx, .slice (some ⟨w11.heap.size, 0, none⟩) 1 1, .slice (some ⟨w11.heap.size + 1, 0, none⟩) 1 1] 23) w11.heap.size (by simp only [World.size_alloc]; omega)).trans
      ((Below.heap_alloc (w11.alloc (.cells #[.slice pj J J] 22)) (.cells #[.slice (some ⟨w0.heap.size, 0, none⟩) n (n + 12)] 22) w11.heap.size (by simp only [World.size_alloc]; omega)).trans (heap_alloc_new w11 (.cells #[.slice pj J J] 22)))
    have b2 := heap_alloc_new (w11.alloc (.cells #[.slice pj J J] 22)) (.cells #[.slice (some ⟨w0.heap.size, 0, none⟩) n (n + 12)] 22)
    rw [World.size_alloc] at b2
    have b2' := (Below.heap_alloc ((w11.alloc (.cells #[.slice pj J J] 22)).alloc (.cells #[.slice (some ⟨w0.heap.size, 0, none⟩) n (n + 12)] 22)) (.cells #[.slice pa kk kk, .slice px rn pcx, .slice (some ⟨w11.heap.size, 0, none⟩) 1 1, .slice (some ⟨w11.heap.size + 1, 0, none⟩) 1 1] 23) (w11.heap.size + 1) (by simp only [World.size_alloc]; omega)).trans b2
    have b3 := heap_alloc_new ((w11.alloc (.cells #[.slice pj J J] 22)).alloc (.cells #[.slice (some ⟨w0.heap.size, 0, none⟩) n (n + 12)] 22)) (.cells #[.slice pa kk kk, .slice px rn pcx, .slice (some ⟨w11.heap.size, 0, none⟩) 1 1, .slice (some ⟨w11.heap.size + 1, 0, none⟩) 1 1] 23)
    simp only [World.size_alloc] at b3
    have hap := apart_four _ w0.heap.size w0.heap.size w1.heap.size w2.heap.size w3.heap.size w4.heap.size w5.heap.size w11.heap.size (by simp only [World.size_alloc]; omega) (Nat.le_refl _) hs1 hs2 hs3 hs4 hs5 (by omega) hkk hwi hkw hr7 (fun i hi => HL7.out i hi) hn7 hJ
      (HA11.out.same hW) (HX11.out.same hW) HLY.out.1 HLY.out.2 (HJ11.out.same hW) ((HI11.out.same hW).bl) b1 b2' b3
    have HAP := Lib.hid hap; have HW12 := Lib.hid (HB11.out.trans (hW.mono HB11.out.size))
    clear hap hW b1 b2 b2' b3 HA11 HX11 HJ11 HI11 HB11
    refine HAP.out.mono ?_
    rintro e w13 ⟨rfl, hB⟩
    have HB13 := Lib.hid (HW12.out.trans hB)
    clear hB HAP HW12
    go_wp2_with fail
    refine (awake9_any _).mono ?_
    rintro e w14 ⟨rfl, hB⟩
    have HB14 := Lib.hid (HB13.out.trans (hB.mono HB13.out.size))
    clear hB
    go_wp2
    go_ret
    exact ⟨rfl, HB14.out⟩
  · have g1 : decide ((70000 : Int) < (n : Int) + (s : Int)) = true := by simp; omega
    have HBG := Lib.hid hbig; clear hbig
    go_wp2_with fail
    refine (awake9_any _).mono ?_
    rintro e w1 ⟨rfl, hB⟩
    have HB := Lib.hid hB; clear hB
    go_wp2
    go_ret
    exact ⟨rfl, HB.out⟩
end Go.Proofs.Ytmjjhbeegjbocaa.Sp
