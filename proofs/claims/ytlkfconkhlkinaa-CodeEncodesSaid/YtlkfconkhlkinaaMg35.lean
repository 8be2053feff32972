import Derived.Test.YtlkfconkhlkinaaMg22
import Derived.Test.YtlkfconkhlkinaaMg26
import Derived.Test.YtlkfconkhlkinaaMg28
import Derived.Test.YtlkfconkhlkinaaMg29
import Derived.Test.YtlkfconkhlkinaaMg32
namespace Go.Proofs.Ytlkfconkhlkinaa
open Go.RowKit Go.Shelf

/-- the points of the first K indexes, and no more. -/
def ptk (h : Nat → Int) (K i : Nat) : Nat := if i < K then pts h i else 0
theorem ptk_by (h : Nat → Int) (K : Nat) : Pf.By (ptk h K) := fun i => by
  unfold ptk; split
  · exact pts_by h i
  · omega
theorem ptk_up (h : Nat → Int) (K : Nat) : Pf.Up (ptk h K) K := fun i hi => by unfold ptk; rw [if_neg (by omega)]
theorem ptk_pts (h : Nat → Int) (K : Nat) : ∀ j, j < K → ptk h K j = pts h j := fun j hj => by unfold ptk; rw [if_pos hj]
theorem ptk_dst {h : Nat → Int} {m N K : Nat} (hr : InR h m N) (hd : DsI h m) (hN : N ≤ 255) (hK : K ≤ m) : Pf.Dst (ptk h K) K := fun i j hij hj => by
  rw [ptk_pts h K i (by omega), ptk_pts h K j hj]; exact pts_dst hr hd hN hK i j hij hj
/-- the first t rows. -/
def trk5 (h : Nat → Int) (K t i j : Nat) : Nat := if i < t then Pf.lw (pts h) K (i % 256) j else 0
theorem trk5_bm (h : Nat → Int) (K t : Nat) : Mt.Bm (trk5 h K t) := fun i j => by
  unfold trk5; split
  · exact Pf.lw_by (pts_by h) K (Nat.mod_lt _ (by omega)) j
  · omega
/-- what is told of indexes: an error, or the matrix. -/
def TurnR (h : Nat → Int) (m N K : Nat) (w : World) (e : Ending) (w' : World) : Prop :=
  (∃ E : Int, E ≠ 0 ∧ Chk h m N K E ∧ ErrL w E e w') ∨ (Chk h m N K 0 ∧ LstR w K K (trn h K) e w')

theorem own_other {w w' : World} {B B' s s' n k g c cap' : Nat} {e e' : TypeId} {v : Value} {a : Option Addr} {xs ys : List Value} (ho : w.ownsRow B e s v n xs) (h2 : w.ownsRow B' e' s' (.slice a k c) k ys) (ht : e ≠ e') (hc : a = some ⟨g, 0, none⟩ ∧ cap' = c ∧ w.grownBy w' (some g) ∨ w.heap.size ≤ g ∧ w.grownBy w' none) : w'.ownsRow B e s v n xs := by
  rcases hc with ⟨rfl, _, hg⟩ | ⟨_, hg⟩
  · exact ho.kept hg (own_ty ho h2 ht)
  · exact ho.kept hg (by cases v.ownBlock <;> simp)
/-- numbers, put into a list. -/
def inh (h : Nat → Int) (t : Nat) : List Value := (List.range t).map fun i => .int .i64 (h i)
theorem inh_s (h : Nat → Int) (t : Nat) : inh h (t + 1) = inh h t ++ [.int .i64 (h t)] := by
  unfold inh; rw [List.range_succ, List.map_append]; rfl
theorem inh_si {w : World} {B t ic : Nat} {h : Nat → Int} {ia : Option Addr} (ho : w.ownsRow B 3 1 (.slice ia t ic) t (inh h t)) : Si w ia t h := ⟨fun i hi => by
  obtain ⟨_, ⟨e, h0⟩ | ⟨g, cap', cur, e, hg, hh, hnc, hcm, hs, ht⟩⟩ := ho
  · omega
  · simp only [Value.slice.injEq, true_and] at e
    obtain ⟨rfl, rfl⟩ := e
    refine ⟨g, 0, rfl, ?_⟩
    rw [Nat.zero_add, cell_of_row w g i cur _ _ hh]
    have : (cur.toList.take (t * 1))[i]? = some (.int .i64 (h i)) := by rw [ht]; simp [inh, hi]
    rw [List.getElem?_take, if_pos (by omega), Array.getElem?_toList] at this
    exact this⟩
/-- are the first k as long as the first? -/
def evb (l : Nat → Nat) : Nat → Bool
  | 0 => true
  | k + 1 => evb l k && decide (l k = l 0)
theorem evb_iff {l : Nat → Nat} : ∀ k, evb l k = true ↔ ∀ i, i < k → l i = l 0
  | 0 => ⟨fun _ i hi => absurd hi (Nat.not_lt_zero i), fun _ => rfl⟩
  | k + 1 => by
    unfold evb
    rw [Bool.and_eq_true, evb_iff k]
    refine ⟨fun h i hi => ?_, fun h => ⟨fun i hi => h i (by omega), decide_eq_true (h k (by omega))⟩⟩
    by_cases e : i = k
    · rw [e]; exact of_decide_eq_true h.2
    · exact h.1 i (by omega)
def DecR (h : Nat → Int) (l : Nat → Nat) (f : Nat → Nat → Nat) (m N K : Nat) (w : World) (e : Ending) (w' : World) : Prop :=
  (∃ E : Int, E ≠ 0 ∧ DChk h l m N K E ∧ ErrL w E e w') ∨ (DChk h l m N K 0 ∧ LstR w K (l 0) (dcd h K f) e w')
theorem Try.infoInt2 : (Try.prog.info? 3).map (fun i => (i.zero, i.size, i.bytes)) = some (some (.int .i64 0), 1, 8) := by kernel_rfl

end Go.Proofs.Ytlkfconkhlkinaa

namespace Go.Proofs.Ytlkfconkhlkinaa
open Go.RowKit Go.Shelf

/-- what both answer: a list of rows, and an error. -/
def Ou (h wi : Nat) (F : Nat → Nat → Nat) (E : Int) (w : World) (e : Ending) (w' : World) : Prop := ∃ a cap b c, e = .returned (.tuple #[.slice a h cap, .int .i64 E]) ∧ Go_ w' w.heap.size a h cap b (fun _ => wi) c F ∧ Below w.heap.size w w'
theorem Lst.ou {w w' : World} {m wi : Nat} {F : Nat → Nat → Nat} {e : Ending} (h : Lst w m wi F e w') : Ou m wi F 0 w e w' := by
  obtain ⟨G, b, h1, h2, h3⟩ := h
  exact ⟨_, _, b, _, h1, h2.go, h3⟩
theorem LstR.ou {w w' : World} {m wi : Nat} {F : Nat → Nat → Nat} {e : Ending} (h : LstR w m wi F e w') : Ou m wi F 0 w e w' := by
  obtain ⟨G, sc, b, c, h1, h2, h3⟩ := h
  exact ⟨_, _, b, c, h1, h2.go, h3⟩
theorem ErrL.ou {w w' : World} {E : Int} {e : Ending} (h : ErrL w E e w') : Ou 0 0 (fun _ _ => 0) E w e w' := ⟨none, 0, fun _ => 0, fun _ => 0, h.1, go_none _ _ _ _ _, h.2⟩
/-- a row, and an error. -/
def RwE (len : Nat) (F : Nat → Nat) (E : Int) (w : World) (e : Ending) (w' : World) : Prop := ∃ a c, e = .returned (.tuple #[.slice a len c, .int .i64 E]) ∧ Nw w' w.heap.size a len c F ∧ Below w.heap.size w w'

theorem enc_both (n N K : Nat) (l : Nat → Nat) (f : Nat → Nat → Nat) (B : Nat) (hN : N ≤ 255) (hl : ∀ i, i < n → l i ≤ B) (hK : 1 ≤ K) : ∃ h wi F E, h ≤ 255 ∧ wi ≤ B ∧ (∀ w e w', EncSays n N K l f w e w' → Ou h wi F E w e w') ∧ (∀ w e w', EncR n N K l f w e w' → Ou h wi F E w e w') := by
  by_cases hs : IsS n K l
  · refine ⟨N, l 0, enc K f, 0, hN, hl 0 (by rw [hs.1]; exact hK), fun w e w' h => ?_, fun w e w' h => ?_⟩
    · rcases h with ⟨h, _⟩ | ⟨_, h⟩
      · exact absurd hs h
      · exact h.ou
    · rcases h with ⟨h, _⟩ | ⟨_, h⟩
      · exact absurd hs h
      · exact h.ou
  · refine ⟨0, 0, fun _ _ => 0, 2, by omega, Nat.zero_le _, fun w e w' h => ?_, fun w e w' h => ?_⟩
    · rcases h with ⟨_, h⟩ | ⟨h, _⟩
      · exact h.ou
      · exact absurd h hs
    · rcases h with ⟨_, h⟩ | ⟨h, _⟩
      · exact h.ou
      · exact absurd h hs
theorem sym_both (n N K : Nat) (x : Int) (l : Nat → Nat) (f : Nat → Nat → Nat) (B : Nat) (hB : B ≤ 1000000) (hl : ∀ i, i < n → l i ≤ B) (hK : 1 ≤ K) (hf : Mt.Bm f) (hu : ∀ i, i < n → Pf.Up (f i) (l i)) : ∃ len F E, len ≤ B ∧ (∀ w e w', SymSays n N K x l f w e w' → RwE len F E w e w') := by
  by_cases hs : IsS n K l ∧ 0 ≤ x ∧ x < N
  · have hl0 := hl 0 (by rw [hs.1.1]; exact hK)
    refine ⟨l 0, enc K f x.toNat, 0, hl0, fun w e w' h => ?_⟩
    rcases h with ⟨h, _⟩ | ⟨_, _, _, g, rfl, hg, hb, hB2⟩
    · exact absurd hs h
    · refine ⟨_, _, rfl, ⟨hb.sl (Nat.le_refl _) (by unfold maxLen; omega) (enc_bm hf _) (Pf.mv_up (fun p hp => ?_) _), hb.ow hg⟩, hB2⟩
      have hp' : p < n := by rw [hs.1.1]; exact hp
      have := hu p hp'
      rwa [hs.1.2 p hp'] at this
  · refine ⟨0, fun _ => 0, 2, Nat.zero_le _, fun w e w' h => ?_⟩
    rcases h with ⟨_, h1, h2⟩ | ⟨h1, h2, h3, _⟩
    · exact ⟨none, 0, h1, Nw.nil _ _ fun _ => rfl, h2⟩
    · exact absurd ⟨h1, h2, h3⟩ hs
theorem chk_has (h : Nat → Int) (m N K : Nat) : ∃ E, Chk h m N K E := by
  by_cases h1 : InR h m N
  · by_cases h2 : DsI h m
    · by_cases h3 : m < K
      · exact ⟨8, Or.inr (Or.inr (Or.inl ⟨h1, h2, h3, rfl⟩))⟩
      · exact ⟨0, Or.inr (Or.inr (Or.inr ⟨h1, h2, by omega, rfl⟩))⟩
    · exact ⟨9, Or.inr (Or.inl ⟨h1, h2, rfl⟩)⟩
  · exact ⟨2, Or.inl ⟨h1, rfl⟩⟩
theorem dchk_has (h : Nat → Int) (l : Nat → Nat) (m N K : Nat) : ∃ E, DChk h l m N K E := by
  by_cases h1 : ∀ i, i < m → l i = l 0
  · obtain ⟨E, hE⟩ := chk_has h m N K
    exact ⟨E, Or.inr ⟨h1, hE⟩⟩
  · exact ⟨2, Or.inl ⟨h1, rfl⟩⟩
theorem turn_both (h : Nat → Int) (m N K : Nat) (hK : K ≤ 255) : ∃ hh F E, hh ≤ 255 ∧ (∀ w e w', TurnSays h m N K w e w' → Ou hh hh F E w e w') ∧ (∀ w e w', TurnR h m N K w e w' → Ou hh hh F E w e w') := by
  obtain ⟨E, hE⟩ := chk_has h m N K
  by_cases hz : E = 0
  · subst hz
    refine ⟨K, trn h K, 0, hK, fun w e w' q => ?_, fun w e w' q => ?_⟩
    · rcases q with ⟨E2, h1, h2, _⟩ | ⟨_, G, b, h1, h2, h3⟩
      · exact absurd (h2.uniq hE) h1
      · exact ⟨_, _, b, _, h1, h2.go, h3⟩
    · rcases q with ⟨E2, h1, h2, _⟩ | ⟨_, h⟩
      · exact absurd (h2.uniq hE) h1
      · exact h.ou
  · refine ⟨0, fun _ _ => 0, E, by omega, fun w e w' q => ?_, fun w e w' q => ?_⟩
    · rcases q with ⟨E2, h1, h2, h3, h4⟩ | ⟨h1, _⟩
      · obtain rfl := h2.uniq hE
        exact ErrL.ou ⟨h3, h4⟩
      · exact absurd (hE.uniq h1) hz
    · rcases q with ⟨E2, h1, h2, h3⟩ | ⟨h1, _⟩
      · obtain rfl := h2.uniq hE
        exact h3.ou
      · exact absurd (hE.uniq h1) hz
theorem dec_both (h : Nat → Int) (l : Nat → Nat) (f : Nat → Nat → Nat) (m N K B : Nat) (hK : K ≤ 255) (hK1 : 1 ≤ K) (hl : ∀ i, i < m → l i ≤ B) : ∃ hh wi F E, hh ≤ 255 ∧ wi ≤ B ∧ (∀ w e w', DecSays h l f m N K w e w' → Ou hh wi F E w e w') ∧ (∀ w e w', DecR h l f m N K w e w' → Ou hh wi F E w e w') := by
  obtain ⟨E, hE⟩ := dchk_has h l m N K
  by_cases hz : E = 0
  · subst hz
    have hm := (dchk_ok hE).2.2.2
    refine ⟨K, l 0, dcd h K f, 0, hK, hl 0 (by omega), fun w e w' q => ?_, fun w e w' q => ?_⟩
    · rcases q with ⟨E2, h1, h2, _⟩ | ⟨_, h⟩
      · exact absurd (h2.uniq hE) h1
      · exact h.ou
    · rcases q with ⟨E2, h1, h2, _⟩ | ⟨_, h⟩
      · exact absurd (h2.uniq hE) h1
      · exact h.ou
  · refine ⟨0, 0, fun _ _ => 0, E, by omega, Nat.zero_le _, fun w e w' q => ?_, fun w e w' q => ?_⟩
    · rcases q with ⟨E2, h1, h2, h3⟩ | ⟨h1, _⟩
      · obtain rfl := h2.uniq hE
        exact h3.ou
      · exact absurd (hE.uniq h1) hz
    · rcases q with ⟨E2, h1, h2, h3⟩ | ⟨h1, _⟩
      · obtain rfl := h2.uniq hE
        exact h3.ou
      · exact absurd (hE.uniq h1) hz

/-- the k-th of three. -/
def tri {α : Type} (x0 x1 x2 : α) : Nat → α
  | 0 => x0 | 1 => x1 | _ => x2
theorem tri_all {P : Nat → Prop} (h0 : P 0) (h1 : P 1) (h2 : P 2) : ∀ k, k < 3 → P k := fun k hk => by
  rcases (show k = 0 ∨ k = 1 ∨ k = 2 by omega) with rfl | rfl | rfl <;> assumption
theorem tri_two {P : Nat → Nat → Prop} (hs : ∀ i j, P i j → P j i) (h01 : P 0 1) (h02 : P 0 2) (h12 : P 1 2) : ∀ i j, i < 3 → j < 3 → i ≠ j → P i j := fun i j hi hj hne => by
  rcases (show i = 0 ∨ i = 1 ∨ i = 2 by omega) with rfl | rfl | rfl <;> rcases (show j = 0 ∨ j = 1 ∨ j = 2 by omega) with rfl | rfl | rfl <;> first | (exact absurd rfl hne) | assumption | (exact hs _ _ (by assumption))
theorem Go_.gx {w : World} {B n cap : Nat} {a : Option Addr} {b l c : Nat → Nat} {f : Nat → Nat → Nat} (h : Go_ w B a n cap b l c f) : Ar.Gx w B a n cap (fun i => some ⟨b i, 0, none⟩) l c f := by
  rcases h with ⟨hb, ⟨rfl, rfl, rfl⟩ | ⟨G, rfl, h⟩⟩
  · exact ⟨Or.inl ⟨rfl, rfl, rfl⟩, fun i hi => absurd hi (Nat.not_lt_zero i)⟩
  · obtain ⟨vs, h1, h2, h3⟩ := h.blk
    refine ⟨Or.inr ⟨G, vs, rfl, h.lo.1, h1, by have := h.nc.1; omega, h.nc.1, h.nc.2, h3⟩, fun i hi => ?_⟩
    have hr := (h.row i hi).sl (h.lc i hi).1 (h.lc i hi).2 (h.bm i) (h.up i hi)
    exact nw_owns ⟨hr, (h.row i hi).ow (h.lo.2 i hi)⟩
/-- where a matrix of its own lies. -/
theorem Go_.lies2 {w : World} {B n cap : Nat} {a : Option Addr} {b l c : Nat → Nat} {f : Nat → Nat → Nat} (h : Go_ w B a n cap b l c f) : (∀ i, i < n → ∀ g, blk (some (⟨b i, 0, none⟩ : Addr)) = some g → B ≤ g ∧ g < w.heap.size) ∧ ∀ G, a = some ⟨G, 0, none⟩ → B ≤ G ∧ G < w.heap.size := by
  rcases h.2 with ⟨rfl, rfl, _⟩ | ⟨G, rfl, hG⟩
  · exact ⟨fun i hi => absurd hi (Nat.not_lt_zero i), fun _ e => (by cases e)⟩
  · refine ⟨fun i hi g e => ?_, fun G' e => ?_⟩
    · simp only [blk, Option.map_some, Option.some.injEq] at e
      subst e; exact ⟨hG.lo.2 i hi, hG.ltb hi⟩
    · cases e; exact ⟨hG.lo.1, hG.ltG⟩
theorem Go_.inj2 {w : World} {B n cap : Nat} {a : Option Addr} {b l c : Nat → Nat} {f : Nat → Nat → Nat} (h : Go_ w B a n cap b l c f) {i i' g : Nat} (hi : i < n) (hi' : i' < n) (e1 : blk (some (⟨b i, 0, none⟩ : Addr)) = some g) (e2 : blk (some (⟨b i', 0, none⟩ : Addr)) = some g) : i = i' := by
  obtain ⟨G, _, hG⟩ := h.pos (by omega)
  simp only [blk, Option.map_some, Option.some.injEq] at e1 e2
  exact hG.inj i i' hi hi' (e1.trans e2.symm)
/-- a list of one row. -/
theorem Nw.gx {w : World} {B len c : Nat} {a : Option Addr} {F : Nat → Nat} {G : Nat} (h : Nw w B a len c F) (hG : w.heap[G]? = some (.cells #[.slice a len c] 35 (0, 0))) (hB : B ≤ G) : Ar.Gx w B (some ⟨G, 0, none⟩) 1 1 (fun _ => a) (fun _ => len) (fun _ => c) (fun _ => F) :=
  ⟨Or.inr ⟨G, _, rfl, hB, hG, Nat.le_refl _, Nat.le_refl _, by unfold maxLen; omega, fun i hi => by
    obtain rfl : i = 0 := by omega
    rfl⟩, fun _ _ => nw_owns h⟩
/-- three lists whose rows, and which themselves, lie in stretches of their own. -/
theorem apart3 (B L : Nat) (p : Nat → Option Addr) (n cp : Nat → Nat) (r : Nat → Nat → Option Addr) (l c : Nat → Nat → Nat) (f : Nat → Nat → Nat → Nat) (lo hi lo' hi' : Nat → Nat) (w : World)
    (hL : w.heap[L]? = some (.cells #[.slice (p 0) (n 0) (cp 0), .slice (p 1) (n 1) (cp 1), .slice (p 2) (n 2) (cp 2)] 22 (0, 0)))
    (hG : ∀ k, k < 3 → Ar.Gx w B (p k) (n k) (cp k) (r k) (l k) (c k) (f k)) (hin : ∀ k i i', k < 3 → i < n k → i' < n k → ∀ g, blk (r k i) = some g → blk (r k i') = some g → i = i')
    (hr : ∀ k i, k < 3 → i < n k → ∀ g, blk (r k i) = some g → lo k ≤ g ∧ g < hi k) (hp : ∀ k, k < 3 → ∀ G, p k = some ⟨G, 0, none⟩ → lo' k ≤ G ∧ G < hi' k)
    (M : ∀ i j, i < 3 → j < 3 → i ≠ j → hi i ≤ lo j ∨ hi j ≤ lo i) (M' : ∀ i j, i < 3 → j < 3 → i ≠ j → hi' i ≤ lo' j ∨ hi' j ≤ lo' i) (hB : B ≤ w.heap.size) (hn : n 0 + n 1 + n 2 ≤ 3000) (hl : ∀ k i, k < 3 → i < n k → l k i ≤ 1000000) :
    Calls Try.prog 18 #[.slice (some ⟨L, 0, none⟩) 3 3] w fun e w' => e = .returned (.bool true) ∧ Below B w w' := by
  refine Ar.apartRows_any B L 3 p n cp r l c f w ⟨_, hL, rfl, fun k hk => ?_⟩ hG (fun k k' i i' hk hk' hi hi' g h1 h2 => ?_) (fun k k' hk hk' hne h0 e => ?_) hB (by show 0 + n 0 + n 1 + n 2 ≤ 3000; omega) hl (by omega)
  · rcases (show k = 0 ∨ k = 1 ∨ k = 2 by omega) with rfl | rfl | rfl <;> rfl
  · by_cases ek : k = k'
    · subst ek
      exact ⟨rfl, hin k i i' hk hi hi' g h1 h2⟩
    · exfalso
      have q1 := hr k i hk hi g h1
      have q2 := hr k' i' hk' hi' g h2
      rcases M k k' hk hk' ek with m | m <;> omega
  · obtain ⟨G, _, e1, _⟩ := (hG k hk).pos h0
    have q1 := hp k hk G e1
    have q2 := hp k' hk' G (e ▸ e1)
    rcases M' k k' hk hk' hne with m | m <;> omega
end Go.Proofs.Ytlkfconkhlkinaa

namespace Go.Proofs.Ytlkfconkhlkinaa
open Go.RowKit Go.Shelf

set_option maxHeartbeats 8000000 in
set_option maxRecDepth 100000 in
theorem codeEncodes_any (a : Option Addr) (n cap : Nat) (x y z : Int) (r : Nat → Option Addr) (l c : Nat → Nat) (f : Nat → Nat → Nat) (hn : n ≤ 140737488355328) (hl : ∀ i, i < n → l i ≤ 140737488355328) (w : World) (hR : Rd w a n cap r l c f) :
    Calls Try.prog 3 #[.int .i64 x, .int .i64 y, .slice a n cap, .int .i64 z] w fun e w' => e = .returned (.bool true) ∧ Below w.heap.size w w' := by
  have HR := Lib.hid hR; have HLL := Lib.hid hl; clear hR hl
  by_cases c1 : 16 < x ∧ x < 255
  · obtain ⟨c1, c2⟩ := c1
    go_enter Try.func3, Try.ntmps3
    go_wp2_with fail
    refine (awake5_any _).mono ?_
    rintro e w1 ⟨rfl, hB⟩
    have HB := Lib.hid hB; clear hB
    go_wp2
    go_ret
    exact ⟨rfl, HB.out⟩
  by_cases c2 : 16 < x
  · have c3 : ¬ x < 255 := by omega
    clear c1
    go_enter Try.func3, Try.ntmps3
    go_wp2_with fail
    refine (size5_any a n cap r l c f hn HLL.out _ HR.out).mono ?_
    rintro e w' ⟨⟨s, rfl, hs, hsz⟩, hw'⟩
    rw [hw']; clear hw'
    by_cases c4 : 160 < s
    · have i1 : (160 : Int) < (s : Int) := by omega
      go_wp2_with fail
      refine (awake5_any _).mono ?_
      rintro e w1 ⟨rfl, hB⟩
      have HB := Lib.hid hB; clear hB
      go_wp2
      go_ret
      exact ⟨rfl, HB.out⟩
    have i1 : ¬ (160 : Int) < (s : Int) := by omega
    by_cases hg : y < 1 ∨ x < y ∨ 255 < x
    · have HQ := Lib.hid (cnew_no x y hg w); have HG := Lib.hid hg
      clear hg hsz
      go_wp2_with fail
      refine HQ.out.mono ?_
      rintro e w1 ⟨rfl, hB1⟩
      have HB1 := Lib.hid hB1; have HQ2 := Lib.hid (rnew_no x y HG.out w1); clear hB1
      go_wp2_with fail
      refine HQ2.out.mono ?_
      rintro e w2 ⟨rfl, hB2⟩
      have HB2 := Lib.hid (HB1.out.trans (hB2.mono HB1.out.size)); clear hB2
      go_wp2_with fail
      refine (awake5_any _).mono ?_
      rintro e w3 ⟨rfl, hB⟩
      have HB := Lib.hid (HB2.out.trans (hB.mono HB2.out.size)); clear hB
      go_wp2
      go_ret
      exact ⟨rfl, HB.out⟩
    obtain ⟨N, rfl⟩ : ∃ N : Nat, x = (N : Nat) := ⟨x.toNat, by omega⟩
    obtain ⟨K, rfl⟩ : ∃ K : Nat, y = (K : Nat) := ⟨y.toNat, by omega⟩
    have hK1 : 1 ≤ K := by omega
    have hKN : K ≤ N := by omega
    have hN5 : N ≤ 255 := by omega
    clear hg hsz
    go_wp2_with fail
    refine (cnew_yes N K hK1 hKN hN5 _).mono ?_
    rintro e w1 ⟨cb, fb, G0, b0, rfl, hC, hB1⟩
    have HB1 := Lib.hid hB1; clear hC hB1
    go_wp2_with fail
    refine (rnew_yes N K hK1 hKN hN5 _).mono ?_
    rintro e w2 ⟨rfl, hD, hB2⟩
    have HB2 := Lib.hid (HB1.out.trans (hB2.mono HB1.out.size)); clear hD hB2
    go_wp2_with fail
    refine (awake5_any _).mono ?_
    rintro e w3 ⟨rfl, hB⟩
    have HB := Lib.hid (HB2.out.trans (hB.mono HB2.out.size)); clear hB
    go_wp2
    go_ret
    exact ⟨rfl, HB.out⟩
  clear c1
  go_enter Try.func3, Try.ntmps3
  go_wp2_with fail
  refine (size5_any a n cap r l c f hn HLL.out _ HR.out).mono ?_
  rintro e w' ⟨⟨s, rfl, hs, hsz⟩, hw'⟩
  rw [hw']; clear hw'
  by_cases c4 : 160 < s
  · have i1 : (160 : Int) < (s : Int) := by omega
    go_wp2_with fail
    refine (awake5_any _).mono ?_
    rintro e w1 ⟨rfl, hB⟩
    have HB := Lib.hid hB; clear hB
    go_wp2
    go_ret
    exact ⟨rfl, HB.out⟩
  have j2 : ¬ (160 : Int) < (s : Int) := by omega
  obtain ⟨hn9, hl9⟩ := hsz (by omega)
  by_cases hg : y < 1 ∨ x < y ∨ 255 < x
  · have HQ := Lib.hid (cnew_no x y hg w); have HG := Lib.hid hg
    clear hg hsz hl9
    go_wp2_with fail
    refine HQ.out.mono ?_
    rintro e w1 ⟨rfl, hB1⟩
    have HB1 := Lib.hid hB1; have HQ2 := Lib.hid (rnew_no x y HG.out w1); clear hB1
    go_wp2_with fail
    refine HQ2.out.mono ?_
    rintro e w2 ⟨rfl, hB2⟩
    have HB2 := Lib.hid (HB1.out.trans (hB2.mono HB1.out.size)); clear hB2
    go_wp2_with fail
    refine (awake5_any _).mono ?_
    rintro e w3 ⟨rfl, hB⟩
    have HB := Lib.hid (HB2.out.trans (hB.mono HB2.out.size)); clear hB
    go_wp2
    go_ret
    exact ⟨rfl, HB.out⟩
  obtain ⟨N, rfl⟩ : ∃ N : Nat, x = (N : Nat) := ⟨x.toNat, by omega⟩
  obtain ⟨K, rfl⟩ : ∃ K : Nat, y = (K : Nat) := ⟨y.toNat, by omega⟩
  have hK1 : 1 ≤ K := by omega
  have hKN : K ≤ N := by omega
  have hN : N ≤ 16 := by omega
  have HL := Lib.hid hl9
  obtain ⟨h1, wi, F, E1, hh1, hwi, kp1, kr1⟩ := enc_both n N K l f 160 (by omega) hl9 hK1
  obtain ⟨len, FX, E2, hlen, kp2⟩ := sym_both n N K z l f 160 (by omega) hl9 hK1 HR.out.bm (fun i hi => (HR.out.row i hi).up)
  have KP1 := Lib.hid kp1; have KR1 := Lib.hid kr1; have KP2 := Lib.hid kp2
  clear hg hsz hl9 kp1 kr1 kp2 hn c4
  go_wp2_with fail
  refine (cnew_yes N K hK1 hKN (by omega) _).mono ?_
  rintro e w1 ⟨cb, fb, G0, b0, rfl, hC, hB1⟩
  have HC1 := Lib.hid hC; have HB1 := Lib.hid hB1; clear hC hB1
  go_wp2_with fail
  refine (rnew_yes N K hK1 hKN (by omega) _).mono ?_
  rintro e w2 ⟨rfl, hD, hB2⟩
  have HC2 := Lib.hid (HC1.out.same hB2); have HD2 := Lib.hid hD; have HB2 := Lib.hid (HB1.out.trans (hB2.mono HB1.out.size)); clear hD hB2 HC1
  have hs2 := HB2.out.size
  go_wp2_with fail
  refine (lentRows_any a n cap r l c f (by omega) (fun i hi => by have := HL.out i hi; omega) _ (HR.out.same HB2.out)).mono ?_
  rintro e w3 ⟨px, cx, bx, rfl, hg, hle, hB3⟩
  have HX3 := Lib.hid hg; have HXL3 := Lib.hid hle; have HC3 := Lib.hid (HC2.out.same hB3); have HD3 := Lib.hid (HD2.out.same hB3); have HB3 := Lib.hid (HB2.out.trans (hB3.mono hs2))
  have s3 := hB3.size
  have hs3 := HB3.out.size
  clear hg hle hB3 HC2 HD2
  go_wp2_with fail
  refine (cencode_any cb fb G0 N K b0 px n cx _ l _ f (by omega) (fun i hi => by have := HL.out i hi; omega) _ HC3.out HX3.out.rd).mono ?_
  intro e w4 hq
  obtain ⟨pm, cm, bm, cmm, rfl, hg, hB4⟩ := KP1.out _ _ _ hq
  have HM4 := Lib.hid hg; have HX4 := Lib.hid (HX3.out.same hB4); have HXL4 := Lib.hid (HXL3.out.same hB4); have HC4 := Lib.hid (HC3.out.same hB4); have HD4 := Lib.hid (HD3.out.same hB4); have HB4 := Lib.hid (HB3.out.trans (hB4.mono hs3))
  have s4 := hB4.size
  have hs4 := HB4.out.size
  clear hq hg hB4 HXL3 HC3 HD3
  go_wp2_with fail
  refine (rencode_any _ N K a n cap r l c f hK1 hKN (by omega) (by omega) (fun i hi => by have := HL.out i hi; omega) _ HD4.out (HR.out.same HB4.out)).mono ?_
  intro e w5 hq
  obtain ⟨pp, cp, bp, cpp, rfl, hg, hB5⟩ := KR1.out _ _ _ hq
  have HP5 := Lib.hid hg; have HM5 := Lib.hid (HM4.out.same hB5); have HX5 := Lib.hid (HX4.out.same hB5); have HXL5 := Lib.hid (HXL4.out.same hB5); have HC5 := Lib.hid (HC4.out.same hB5); have HD5 := Lib.hid (HD4.out.same hB5); have HB5 := Lib.hid (HB4.out.trans (hB5.mono hs4))
  have s5 := hB5.size
  have hs5 := HB5.out.size
  clear hq hg hB5 HXL4 HC4 HD4
  go_wp2_with fail
  refine (csymbol_any cb fb G0 N K b0 px n cx z _ l _ f (by omega) (fun i hi => by have := HL.out i hi; omega) _ HC5.out HX5.out.rd).mono ?_
  intro e w6 hq
  obtain ⟨px6, cx6, rfl, hg, hB6⟩ := KP2.out _ _ _ hq
  have HS6 := Lib.hid hg; have HP6 := Lib.hid (HP5.out.same hB6); have HM6 := Lib.hid (HM5.out.same hB6); have HX6 := Lib.hid (HX5.out.same hB6); have HXL6 := Lib.hid (HXL5.out.same hB6); have HD6 := Lib.hid (HD5.out.same hB6); have HB6 := Lib.hid (HB5.out.trans (hB6.mono hs5))
  have s6 := hB6.size
  have hs6 := HB6.out.size
  clear hq hg hB6 HP5 HXL5 HC5 HD5
  go_wp2_with fail
  refine (rsymbol_any _ N K a n cap z r l c f hK1 hKN (by omega) (by omega) (fun i hi => by have := HL.out i hi; omega) _ HD6.out (HR.out.same HB6.out)).mono ?_
  intro e w7 hq
  obtain ⟨py7, cy7, rfl, hg, hB7⟩ := KP2.out _ _ _ hq
  have HT7 := Lib.hid hg.sl; have HS7 := Lib.hid (HS6.out.below hB7); have HP7 := Lib.hid (HP6.out.same hB7); have HM7 := Lib.hid (HM6.out.same hB7); have HX7 := Lib.hid (HX6.out.same hB7); have HXL7 := Lib.hid (HXL6.out.same hB7); have HB7 := Lib.hid (HB6.out.trans (hB7.mono hs6))
  have s7 := hB7.size
  have hs7 := HB7.out.size
  have q1 : (E1 == E1) = true := by simp
  have q2 : (E2 == E2) = true := by simp
  clear hq hg hB7 HP6 HXL6 HD6
  go_wp2_with fail
  refine (sameRows_any pm pp h1 cm cp _ _ (fun _ => wi) _ (fun _ => wi) _ F F (by omega) (fun _ _ => by omega) _ HM7.out.rd HP7.out.rd (fun _ _ => ⟨rfl, rfl⟩)).mono ?_
  rintro e w8 ⟨rfl, q, hq⟩
  have hB8 := quiet_b hq
  have HT8 := Lib.hid (HT7.out.same hB8); have HS8 := Lib.hid (HS7.out.below hB8); have HM8 := Lib.hid (HM7.out.same hB8); have HX8 := Lib.hid (HX7.out.same hB8); have HXL8 := Lib.hid (HXL7.out.same hB8); have HB8 := Lib.hid (HB7.out.trans (hB8.mono hs7))
  have s8 := hB8.size
  have hs8 := HB8.out.size
  clear hq hB8
  go_wp2_with fail
  refine (same_any px6 py7 len cx6 cy7 FX (by omega) _ HS8.out.sl HT8.out).mono ?_
  rintro e w9 ⟨rfl, q, hq⟩
  have hB9 := quiet_b hq
  have HS9 := Lib.hid (HS8.out.below hB9); have HM9 := Lib.hid (HM8.out.same hB9); have HX9 := Lib.hid (HX8.out.same hB9); have HXL9 := Lib.hid (HXL8.out.same hB9); have HB9 := Lib.hid (HB8.out.trans (hB9.mono hs8))
  have s9 := hB9.size
  have hs9 := HB9.out.size
  clear hq hB9
  go_wp2_with fail
  refine (keptRows_any px a n cx cap _ bx r l c f (by omega) (fun i hi => by have := HL.out i hi; omega) _ HX9.out HXL9.out (HR.out.same HB9.out)).mono ?_
  rintro e w10 ⟨rfl, q, hq⟩
  have hB10 := quiet_b hq
  have HS10 := Lib.hid (HS9.out.below hB10); have HM10 := Lib.hid (HM9.out.same hB10); have HX10 := Lib.hid (HX9.out.same hB10); have HB10 := Lib.hid (HB9.out.trans (hB10.mono hs9))
  have s10 := hB10.size
  have hs10 := HB10.out.size
  clear hq hB10
  obtain ⟨w11, hw11⟩ : ∃ w11, w11 = w10.alloc (.cells #[.slice px6 len cx6] 35) := ⟨_, rfl⟩
  have hB11 : Below w10.heap.size w10 w11 := by rw [hw11]; exact (Below.refl _ _).alloc (Nat.le_refl _) _
  have hL11 : w11.heap[w10.heap.size]? = some (.cells #[.slice px6 len cx6] 35 (0, 0)) := by rw [hw11]; exact heap_alloc_new _ _
  have hz11 : w11.heap.size = w10.heap.size + 1 := by rw [hw11, World.size_alloc]
  obtain ⟨w12, hw12⟩ : ∃ w12, w12 = w11.alloc (.cells #[.slice px n cx, .slice pm h1 cm, .slice (some ⟨w10.heap.size, 0, none⟩) 1 1] 22) := ⟨_, rfl⟩
  have hB12 : Below w11.heap.size w11 w12 := by rw [hw12]; exact (Below.refl _ _).alloc (Nat.le_refl _) _
  have hL12 : w12.heap[w11.heap.size]? = some (.cells #[.slice px n cx, .slice pm h1 cm, .slice (some ⟨w10.heap.size, 0, none⟩) 1 1] 22 (0, 0)) := by rw [hw12]; exact heap_alloc_new _ _
  have hBB := hB11.trans (hB12.mono hB11.size)
  have hx12 := HX10.out.same hBB
  have hm12 := HM10.out.same hBB
  have hs12 := HS10.out.below hBB
  have hL11' : w12.heap[w10.heap.size]? = some (.cells #[.slice px6 len cx6] 35 (0, 0)) := (hB12.block _ (by omega)).trans hL11
  have hgx : Ar.Gx w12 w5.heap.size (some ⟨w10.heap.size, 0, none⟩) 1 1 (fun _ => px6) (fun _ => len) (fun _ => cx6) (fun _ => FX) := hs12.gx hL11' (by omega)
  have LX := HX3.out.lies2; have LM := HM4.out.lies2
  have hnwr : ∀ g, blk px6 = some g → w5.heap.size ≤ g ∧ g < w6.heap.size := fun g e => nw_blk HS6.out e
  have h12s := hB12.size
  have hap := (apart3 w2.heap.size w11.heap.size (tri px pm (some ⟨w10.heap.size, 0, none⟩)) (tri n h1 1) (tri cx cm 1) (tri (fun i => some ⟨bx i, 0, none⟩) (fun i => some ⟨bm i, 0, none⟩) (fun _ => px6)) (tri l (fun _ => wi) (fun _ => len)) (tri (fun i => l i + 12) cmm (fun _ => cx6)) (tri f F (fun _ => FX)) (tri w2.heap.size w3.heap.size w5.heap.size) (tri w3.heap.size w4.heap.size w6.heap.size) (tri w2.heap.size w3.heap.size w10.heap.size) (tri w3.heap.size w4.heap.size (w10.heap.size + 1)) w12 hL12
    (tri_all hx12.gx (hm12.mono s3).gx ⟨by
      rcases hgx.lst with h | ⟨G, vs, e1, e2, e3⟩
      · exact Or.inl h
      · exact Or.inr ⟨G, vs, e1, by omega, e3⟩, fun i hi => (hgx.own i hi).mono (by omega)⟩)
    (fun k i i' hk => tri_all (P := fun k => ∀ i i', i < tri n h1 1 k → i' < tri n h1 1 k → ∀ g, blk (tri (fun i => some ⟨bx i, 0, none⟩) (fun i => some ⟨bm i, 0, none⟩) (fun _ => px6) k i) = some g → blk (tri (fun i => some ⟨bx i, 0, none⟩) (fun i => some ⟨bm i, 0, none⟩) (fun _ => px6) k i') = some g → i = i') (fun i i' hi hi' g e1 e2 => hx12.inj2 hi hi' e1 e2) (fun i i' hi hi' g e1 e2 => hm12.inj2 hi hi' e1 e2) (fun i i' hi hi' g _ _ => by
      have h1 : i < 1 := hi
      have h2 : i' < 1 := hi'
      omega) k hk i i')
    (fun k i hk => tri_all (P := fun k => ∀ i, i < tri n h1 1 k → ∀ g, blk (tri (fun i => some ⟨bx i, 0, none⟩) (fun i => some ⟨bm i, 0, none⟩) (fun _ => px6) k i) = some g → tri w2.heap.size w3.heap.size w5.heap.size k ≤ g ∧ g < tri w3.heap.size w4.heap.size w6.heap.size k) (fun i hi g e => LX.1 i hi g e) (fun i hi g e => LM.1 i hi g e) (fun i hi g e => hnwr g e) k hk i)
    (fun k hk => tri_all (P := fun k => ∀ G, tri px pm (some ⟨w10.heap.size, 0, none⟩) k = some ⟨G, 0, none⟩ → tri w2.heap.size w3.heap.size w10.heap.size k ≤ G ∧ G < tri w3.heap.size w4.heap.size (w10.heap.size + 1) k) LX.2 LM.2 (fun G e => by
      have e : some (⟨w10.heap.size, 0, none⟩ : Addr) = some ⟨G, 0, none⟩ := e
      cases e; exact ⟨Nat.le_refl _, Nat.lt_succ_self _⟩) k hk)
    (tri_two (P := fun i j => tri w3.heap.size w4.heap.size w6.heap.size i ≤ tri w2.heap.size w3.heap.size w5.heap.size j ∨ tri w3.heap.size w4.heap.size w6.heap.size j ≤ tri w2.heap.size w3.heap.size w5.heap.size i) (fun _ _ h => h.symm) (Or.inl (Nat.le_refl _)) (Or.inl (by show w3.heap.size ≤ w5.heap.size; omega)) (Or.inl s5))
    (tri_two (P := fun i j => tri w3.heap.size w4.heap.size (w10.heap.size + 1) i ≤ tri w2.heap.size w3.heap.size w10.heap.size j ∨ tri w3.heap.size w4.heap.size (w10.heap.size + 1) j ≤ tri w2.heap.size w3.heap.size w10.heap.size i) (fun _ _ h => h.symm) (Or.inl (Nat.le_refl _)) (Or.inl (by show w3.heap.size ≤ w10.heap.size; omega)) (Or.inl (by show w4.heap.size ≤ w10.heap.size; omega)))
    (by omega) (by show n + h1 + 1 ≤ 3000; omega)
    (fun k i hk => tri_all (P := fun k => ∀ i, i < tri n h1 1 k → tri l (fun _ => wi) (fun _ => len) k i ≤ 1000000) (fun i hi => by have := HL.out i hi; show l i ≤ 1000000; omega) (fun i hi => by show wi ≤ 1000000; omega) (fun i hi => by show len ≤ 1000000; omega) k hk i))
  rw [hz11] at hap
  have HAP := Lib.hid hap
  have HW11 := Lib.hid hw11; have HW12 := Lib.hid hw12; have HZ11 := Lib.hid hz11
  have HBB := Lib.hid (HB10.out.trans (hBB.mono hs10))
  clear hw11 hB11 hL11 hz11 hw12 hB12 hL12 hBB hx12 hm12 hs12 hL11' hgx LX LM hnwr h12s hap
  go_wp2_with fail
  rw [← HW11.out, ← HW12.out]
  refine HAP.out.mono ?_
  rintro e w13 ⟨rfl, hB13⟩
  have HB13 := Lib.hid (HBB.out.trans (hB13.mono hs2)); clear hB13
  go_wp2_with fail
  refine (awake5_any _).mono ?_
  rintro e w14 ⟨rfl, hB⟩
  have HB14 := Lib.hid (HB13.out.trans (hB.mono HB13.out.size)); clear hB
  go_wp2
  go_ret
  exact ⟨rfl, HB14.out⟩
end Go.Proofs.Ytlkfconkhlkinaa
