import Derived.Deep.RegionLaw
import Derived.Lib.QuietBelow
import Derived.BigQuiet
import Derived.Laws.CopyOwn
import Derived.Laws.Tables
import Derived.Laws.BitsAllLaws
import Derived.RegionTactic
import Derived.BigRegion
import Derived.WalkKit
import Derived.WalkSpells
import Derived.Deep.DeepCutAuto
import Derived.Test.YthkcacnlinajgaaMg28
import Derived.Test.YthkcacnlinajgaaMg30
import Derived.Test.YthkcacnlinajgaaMg32
import Derived.Test.YthkcacnlinajgaaMg33
import Derived.Test.YthkcacnlinajgaaMg40
namespace Go.Proofs.Ythkcacnlinajgaa
open Go.RowKit Go.Shelf

/-- the points of the first K indexes, and no more. -/
def ptk (h : Nat → Int) (K i : Nat) : Nat := if i < K then pts h i else 0
theorem ptk_by (h : Nat → Int) (K : Nat) : Pf.By (ptk h K) := fun i => by
  unfold ptk; split
  · exact pts_by h i
  · omega
theorem ptk_up (h : Nat → Int) (K : Nat) : Pf.Up (ptk h K) K := fun i hi => by unfold ptk; rw [if_neg (by omega)]
theorem ptk_pts (h : Nat → Int) (K : Nat) : ∀ j, j < K → ptk h K j = pts h j := fun j hj => by unfold ptk; rw [if_pos hj]
theorem ptk_dst {h : Nat → Int} {m N K : Nat} (hr : InR h m N) (hd : DsI h m) (hN : N ≤ 255) (hK : K ≤ m) : Pf.Dst (ptk h K) K := fun i j hij hj => by
  rw [ptk_pts h K i (by omega), ptk_pts h K j hj]; exact pts_dst hr hd hN hK i j hij hj
/-- the first t rows. -/
def trk5 (h : Nat → Int) (K t i j : Nat) : Nat := if i < t then Pf.lw (pts h) K (i % 256) j else 0
theorem trk5_bm (h : Nat → Int) (K t : Nat) : Mt.Bm (trk5 h K t) := fun i j => by
  unfold trk5; split
  · exact Pf.lw_by (pts_by h) K (Nat.mod_lt _ (by omega)) j
  · omega
/-- what is told of indexes: an error, or the matrix. -/
def TurnR (h : Nat → Int) (m N K : Nat) (w : World) (e : Ending) (w' : World) : Prop :=
  (∃ E : Int, E ≠ 0 ∧ Chk h m N K E ∧ ErrL w E e w') ∨ (Chk h m N K 0 ∧ LstR w K K (trn h K) e w')

theorem own_other {w w' : World} {B B' s s' n k g c cap' : Nat} {e e' : TypeId} {v : Value} {a : Option Addr} {xs ys : List Value} (ho : w.ownsRow B e s v n xs) (h2 : w.ownsRow B' e' s' (.slice a k c) k ys) (ht : e ≠ e') (hc : a = some ⟨g, 0, none⟩ ∧ cap' = c ∧ w.grownBy w' (some g) ∨ w.heap.size ≤ g ∧ w.grownBy w' none) : w'.ownsRow B e s v n xs := by
  rcases hc with ⟨rfl, _, hg⟩ | ⟨_, hg⟩
  · exact ho.kept hg (own_ty ho h2 ht)
  · exact ho.kept hg (by cases v.ownBlock <;> simp)
/-- numbers, put into a list. -/
def inh (h : Nat → Int) (t : Nat) : List Value := (List.range t).map fun i => .int .i64 (h i)
theorem inh_s (h : Nat → Int) (t : Nat) : inh h (t + 1) = inh h t ++ [.int .i64 (h t)] := by
  unfold inh; rw [List.range_succ, List.map_append]; rfl
theorem inh_si {w : World} {B t ic : Nat} {h : Nat → Int} {ia : Option Addr} (ho : w.ownsRow B 3 1 (.slice ia t ic) t (inh h t)) : Si w ia t h := ⟨fun i hi => by
  obtain ⟨_, ⟨e, h0⟩ | ⟨g, cap', cur, e, hg, hh, hnc, hcm, hs, ht⟩⟩ := ho
  · omega
  · simp only [Value.slice.injEq, true_and] at e
    obtain ⟨rfl, rfl⟩ := e
    refine ⟨g, 0, rfl, ?_⟩
    rw [Nat.zero_add, cell_of_row w g i cur _ _ hh]
    have : (cur.toList.take (t * 1))[i]? = some (.int .i64 (h i)) := by rw [ht]; simp [inh, hi]
    rw [List.getElem?_take, if_pos (by omega), Array.getElem?_toList] at this
    exact this⟩
/-- are the first k as long as the first? -/
def evb (l : Nat → Nat) : Nat → Bool
  | 0 => true
  | k + 1 => evb l k && decide (l k = l 0)
theorem evb_iff {l : Nat → Nat} : ∀ k, evb l k = true ↔ ∀ i, i < k → l i = l 0
  | 0 => ⟨fun _ i hi => absurd hi (Nat.not_lt_zero i), fun _ => rfl⟩
  | k + 1 => by
    unfold evb
    rw [Bool.and_eq_true, evb_iff k]
    refine ⟨fun h i hi => ?_, fun h => ⟨fun i hi => h i (by omega), decide_eq_true (h k (by omega))⟩⟩
    by_cases e : i = k
    · rw [e]; exact of_decide_eq_true h.2
    · exact h.1 i (by omega)
def DecR (h : Nat → Int) (l : Nat → Nat) (f : Nat → Nat → Nat) (m N K : Nat) (w : World) (e : Ending) (w' : World) : Prop :=
  (∃ E : Int, E ≠ 0 ∧ DChk h l m N K E ∧ ErrL w E e w') ∨ (DChk h l m N K 0 ∧ LstR w K (l 0) (dcd h K f) e w')
theorem Try.infoInt2 : (Try.prog.info? 3).map (fun i => (i.zero, i.size, i.bytes)) = some (some (.int .i64 0), 1, 8) := by kernel_rfl

end Go.Proofs.Ythkcacnlinajgaa

namespace Go.Proofs.Ythkcacnlinajgaa
open Go.RowKit Go.Shelf

/-- what both answer: a list of rows, and an error. -/
def Ou (h wi : Nat) (F : Nat → Nat → Nat) (E : Int) (w : World) (e : Ending) (w' : World) : Prop := ∃ a cap b c, e = .returned (.tuple #[.slice a h cap, .int .i64 E]) ∧ Go_ w' w.heap.size a h cap b (fun _ => wi) c F ∧ Below w.heap.size w w'
theorem Lst.ou {w w' : World} {m wi : Nat} {F : Nat → Nat → Nat} {e : Ending} (h : Lst w m wi F e w') : Ou m wi F 0 w e w' := by
  obtain ⟨G, b, h1, h2, h3⟩ := h
  exact ⟨_, _, b, _, h1, h2.go, h3⟩
theorem LstR.ou {w w' : World} {m wi : Nat} {F : Nat → Nat → Nat} {e : Ending} (h : LstR w m wi F e w') : Ou m wi F 0 w e w' := by
  obtain ⟨G, sc, b, c, h1, h2, h3⟩ := h
  exact ⟨_, _, b, c, h1, h2.go, h3⟩
theorem ErrL.ou {w w' : World} {E : Int} {e : Ending} (h : ErrL w E e w') : Ou 0 0 (fun _ _ => 0) E w e w' := ⟨none, 0, fun _ => 0, fun _ => 0, h.1, go_none _ _ _ _ _, h.2⟩
/-- a row, and an error. -/
def RwE (len : Nat) (F : Nat → Nat) (E : Int) (w : World) (e : Ending) (w' : World) : Prop := ∃ a c, e = .returned (.tuple #[.slice a len c, .int .i64 E]) ∧ Nw w' w.heap.size a len c F ∧ Below w.heap.size w w'

theorem enc_both (n N K : Nat) (l : Nat → Nat) (f : Nat → Nat → Nat) (B : Nat) (hN : N ≤ 255) (hl : ∀ i, i < n → l i ≤ B) (hK : 1 ≤ K) : ∃ h wi F E, h ≤ 255 ∧ wi ≤ B ∧ (∀ w e w', EncSays n N K l f w e w' → Ou h wi F E w e w') ∧ (∀ w e w', EncR n N K l f w e w' → Ou h wi F E w e w') := by
  by_cases hs : IsS n K l
  · refine ⟨N, l 0, enc K f, 0, hN, hl 0 (by rw [hs.1]; exact hK), fun w e w' h => ?_, fun w e w' h => ?_⟩
    · rcases h with ⟨h, _⟩ | ⟨_, h⟩
      · exact absurd hs h
      · exact h.ou
    · rcases h with ⟨h, _⟩ | ⟨_, h⟩
      · exact absurd hs h
      · exact h.ou
  · refine ⟨0, 0, fun _ _ => 0, 2, by omega, Nat.zero_le _, fun w e w' h => ?_, fun w e w' h => ?_⟩
    · rcases h with ⟨_, h⟩ | ⟨h, _⟩
      · exact h.ou
      · exact absurd h hs
    · rcases h with ⟨_, h⟩ | ⟨h, _⟩
      · exact h.ou
      · exact absurd h hs
theorem sym_both (n N K : Nat) (x : Int) (l : Nat → Nat) (f : Nat → Nat → Nat) (B : Nat) (hB : B ≤ 1000000) (hl : ∀ i, i < n → l i ≤ B) (hK : 1 ≤ K) (hf : Mt.Bm f) (hu : ∀ i, i < n → Pf.Up (f i) (l i)) : ∃ len F E, len ≤ B ∧ (∀ w e w', SymSays n N K x l f w e w' → RwE len F E w e w') := by
  by_cases hs : IsS n K l ∧ 0 ≤ x ∧ x < N
  · have hl0 := hl 0 (by rw [hs.1.1]; exact hK)
    refine ⟨l 0, enc K f x.toNat, 0, hl0, fun w e w' h => ?_⟩
    rcases h with ⟨h, _⟩ | ⟨_, _, _, g, rfl, hg, hb, hB2⟩
    · exact absurd hs h
    · refine ⟨_, _, rfl, ⟨hb.sl (Nat.le_refl _) (by unfold maxLen; omega) (enc_bm hf _) (Pf.mv_up (fun p hp => ?_) _), hb.ow hg⟩, hB2⟩
      have hp' : p < n := by rw [hs.1.1]; exact hp
      have := hu p hp'
      rwa [hs.1.2 p hp'] at this
  · refine ⟨0, fun _ => 0, 2, Nat.zero_le _, fun w e w' h => ?_⟩
    rcases h with ⟨_, h1, h2⟩ | ⟨h1, h2, h3, _⟩
    · exact ⟨none, 0, h1, Nw.nil _ _ fun _ => rfl, h2⟩
    · exact absurd ⟨h1, h2, h3⟩ hs
theorem chk_has (h : Nat → Int) (m N K : Nat) : ∃ E, Chk h m N K E := by
  by_cases h1 : InR h m N
  · by_cases h2 : DsI h m
    · by_cases h3 : m < K
      · exact ⟨8, Or.inr (Or.inr (Or.inl ⟨h1, h2, h3, rfl⟩))⟩
      · exact ⟨0, Or.inr (Or.inr (Or.inr ⟨h1, h2, by omega, rfl⟩))⟩
    · exact ⟨9, Or.inr (Or.inl ⟨h1, h2, rfl⟩)⟩
  · exact ⟨2, Or.inl ⟨h1, rfl⟩⟩
theorem dchk_has (h : Nat → Int) (l : Nat → Nat) (m N K : Nat) : ∃ E, DChk h l m N K E := by
  by_cases h1 : ∀ i, i < m → l i = l 0
  · obtain ⟨E, hE⟩ := chk_has h m N K
    exact ⟨E, Or.inr ⟨h1, hE⟩⟩
  · exact ⟨2, Or.inl ⟨h1, rfl⟩⟩
theorem turn_both (h : Nat → Int) (m N K : Nat) (hK : K ≤ 255) : ∃ hh F E, hh ≤ 255 ∧ (∀ w e w', TurnSays h m N K w e w' → Ou hh hh F E w e w') ∧ (∀ w e w', TurnR h m N K w e w' → Ou hh hh F E w e w') := by
  obtain ⟨E, hE⟩ := chk_has h m N K
  by_cases hz : E = 0
  · subst hz
    refine ⟨K, trn h K, 0, hK, fun w e w' q => ?_, fun w e w' q => ?_⟩
    · rcases q with ⟨E2, h1, h2, _⟩ | ⟨_, G, b, h1, h2, h3⟩
      · exact absurd (h2.uniq hE) h1
      · exact ⟨_, _, b, _, h1, h2.go, h3⟩
    · rcases q with ⟨E2, h1, h2, _⟩ | ⟨_, h⟩
      · exact absurd (h2.uniq hE) h1
      · exact h.ou
  · refine ⟨0, fun _ _ => 0, E, by omega, fun w e w' q => ?_, fun w e w' q => ?_⟩
    · rcases q with ⟨E2, h1, h2, h3, h4⟩ | ⟨h1, _⟩
      · obtain rfl := h2.uniq hE
        exact ErrL.ou ⟨h3, h4⟩
      · exact absurd (hE.uniq h1) hz
    · rcases q with ⟨E2, h1, h2, h3⟩ | ⟨h1, _⟩
      · obtain rfl := h2.uniq hE
        exact h3.ou
      · exact absurd (hE.uniq h1) hz
theorem dec_both (h : Nat → Int) (l : Nat → Nat) (f : Nat → Nat → Nat) (m N K B : Nat) (hK : K ≤ 255) (hK1 : 1 ≤ K) (hl : ∀ i, i < m → l i ≤ B) : ∃ hh wi F E, hh ≤ 255 ∧ wi ≤ B ∧ (∀ w e w', DecSays h l f m N K w e w' → Ou hh wi F E w e w') ∧ (∀ w e w', DecR h l f m N K w e w' → Ou hh wi F E w e w') := by
  obtain ⟨E, hE⟩ := dchk_has h l m N K
  by_cases hz : E = 0
  · subst hz
    have hm := (dchk_ok hE).2.2.2
    refine ⟨K, l 0, dcd h K f, 0, hK, hl 0 (by omega), fun w e w' q => ?_, fun w e w' q => ?_⟩
    · rcases q with ⟨E2, h1, h2, _⟩ | ⟨_, h⟩
      · exact absurd (h2.uniq hE) h1
      · exact h.ou
    · rcases q with ⟨E2, h1, h2, _⟩ | ⟨_, h⟩
      · exact absurd (h2.uniq hE) h1
      · exact h.ou
  · refine ⟨0, 0, fun _ _ => 0, E, by omega, Nat.zero_le _, fun w e w' q => ?_, fun w e w' q => ?_⟩
    · rcases q with ⟨E2, h1, h2, h3⟩ | ⟨h1, _⟩
      · obtain rfl := h2.uniq hE
        exact h3.ou
      · exact absurd (hE.uniq h1) hz
    · rcases q with ⟨E2, h1, h2, h3⟩ | ⟨h1, _⟩
      · obtain rfl := h2.uniq hE
        exact h3.ou
      · exact absurd (hE.uniq h1) hz

/-- the k-th of three. -/
def tri {α : Type} (x0 x1 x2 : α) : Nat → α
  | 0 => x0 | 1 => x1 | _ => x2
theorem tri_all {P : Nat → Prop} (h0 : P 0) (h1 : P 1) (h2 : P 2) : ∀ k, k < 3 → P k := fun k hk => by
  rcases (show k = 0 ∨ k = 1 ∨ k = 2 by omega) with rfl | rfl | rfl <;> assumption
theorem tri_two {P : Nat → Nat → Prop} (hs : ∀ i j, P i j → P j i) (h01 : P 0 1) (h02 : P 0 2) (h12 : P 1 2) : ∀ i j, i < 3 → j < 3 → i ≠ j → P i j := fun i j hi hj hne => by
  rcases (show i = 0 ∨ i = 1 ∨ i = 2 by omega) with rfl | rfl | rfl <;> rcases (show j = 0 ∨ j = 1 ∨ j = 2 by omega) with rfl | rfl | rfl <;> first | (exact absurd rfl hne) | assumption | (exact hs _ _ (by assumption))
theorem Go_.gx {w : World} {B n cap : Nat} {a : Option Addr} {b l c : Nat → Nat} {f : Nat → Nat → Nat} (h : Go_ w B a n cap b l c f) : Ar.Gx w B a n cap (fun i => some ⟨b i, 0, none⟩) l c f := by
  rcases h with ⟨hb, ⟨rfl, rfl, rfl⟩ | ⟨G, rfl, h⟩⟩
  · exact ⟨Or.inl ⟨rfl, rfl, rfl⟩, fun i hi => absurd hi (Nat.not_lt_zero i)⟩
  · obtain ⟨vs, h1, h2, h3⟩ := h.blk
    refine ⟨Or.inr ⟨G, vs, rfl, h.lo.1, h1, by have := h.nc.1; omega, h.nc.1, h.nc.2, h3⟩, fun i hi => ?_⟩
    have hr := (h.row i hi).sl (h.lc i hi).1 (h.lc i hi).2 (h.bm i) (h.up i hi)
    exact nw_owns ⟨hr, (h.row i hi).ow (h.lo.2 i hi)⟩
/-- where a matrix of its own lies. -/
theorem Go_.lies2 {w : World} {B n cap : Nat} {a : Option Addr} {b l c : Nat → Nat} {f : Nat → Nat → Nat} (h : Go_ w B a n cap b l c f) : (∀ i, i < n → ∀ g, blk (some (⟨b i, 0, none⟩ : Addr)) = some g → B ≤ g ∧ g < w.heap.size) ∧ ∀ G, a = some ⟨G, 0, none⟩ → B ≤ G ∧ G < w.heap.size := by
  rcases h.2 with ⟨rfl, rfl, _⟩ | ⟨G, rfl, hG⟩
  · exact ⟨fun i hi => absurd hi (Nat.not_lt_zero i), fun _ e => (by cases e)⟩
  · refine ⟨fun i hi g e => ?_, fun G' e => ?_⟩
    · simp only [blk, Option.map_some, Option.some.injEq] at e
      subst e; exact ⟨hG.lo.2 i hi, hG.ltb hi⟩
    · cases e; exact ⟨hG.lo.1, hG.ltG⟩
theorem Go_.inj2 {w : World} {B n cap : Nat} {a : Option Addr} {b l c : Nat → Nat} {f : Nat → Nat → Nat} (h : Go_ w B a n cap b l c f) {i i' g : Nat} (hi : i < n) (hi' : i' < n) (e1 : blk (some (⟨b i, 0, none⟩ : Addr)) = some g) (e2 : blk (some (⟨b i', 0, none⟩ : Addr)) = some g) : i = i' := by
  obtain ⟨G, _, hG⟩ := h.pos (by omega)
  simp only [blk, Option.map_some, Option.some.injEq] at e1 e2
  exact hG.inj i i' hi hi' (e1.trans e2.symm)
/-- a list of one row. -/
theorem Nw.gx {w : World} {B len c : Nat} {a : Option Addr} {F : Nat → Nat} {G : Nat} (h : Nw w B a len c F) (hG : w.heap[G]? = some (.cells #[.slice a len c] 139 (0, 0))) (hB : B ≤ G) : Ar.Gx w B (some ⟨G, 0, none⟩) 1 1 (fun _ => a) (fun _ => len) (fun _ => c) (fun _ => F) :=
  ⟨Or.inr ⟨G, _, rfl, hB, hG, Nat.le_refl _, Nat.le_refl _, by unfold maxLen; omega, fun i hi => by
    obtain rfl : i = 0 := by omega
    rfl⟩, fun _ _ => nw_owns h⟩
end Go.Proofs.Ythkcacnlinajgaa

namespace Go.Proofs.Ythkcacnlinajgaa
open Go.RowKit Go.Shelf

/-- a slice of numbers, as it reads. -/
structure Hi (w : World) (a : Option Addr) (len cap : Nat) (h : Nat → Int) : Prop where
  capOk : len ≤ cap
  maxOk : cap ≤ maxLen
  nil : a = none → len = 0 ∧ cap = 0
  spot : ∀ ad, a = some ad → len ≠ 0 → ad.spot = none
  cell : ∀ ad, a = some ad → ∀ i, i < len → w.cell? ⟨ad.block, ad.off + i, none⟩ = some (.int .i64 (h i))
section
variable {w w' : World} {a : Option Addr} {len cap : Nat} {h : Nat → Int}
theorem Hi.same (s : Hi w a len cap h) (hB : Below w.heap.size w w') : Hi w' a len cap h := ⟨s.capOk, s.maxOk, s.nil, s.spot, fun ad ha i hi => by
  have hc := s.cell ad ha i hi
  rw [hB.cell (World.block_lt_of_cell? _ _ hc)]; exact hc⟩
theorem Hi.si (s : Hi w a len cap h) : Si w a len h := ⟨fun i hi => by
  cases a with
  | none => have := s.nil rfl; omega
  | some ad =>
    have hc := s.cell ad rfl i hi
    obtain ⟨b, off, spot⟩ := ad
    obtain rfl : spot = none := s.spot _ rfl (by omega)
    exact ⟨b, off, rfl, hc⟩⟩
theorem Hi.news (s : Hi w a len cap h) : ∀ ad, a = some ad → ∀ j u, (inh h len)[j]? = some u → w.cell? (ad.add j) = some u := fun ad ha j u hu => by
  have hj : j < len := by
    have := (List.getElem?_eq_some_iff.1 hu).1
    rwa [inh, List.length_map, List.length_range] at this
  have hs := s.spot ad ha (by omega)
  have hc := s.cell ad ha j hj
  obtain ⟨b, off, spot⟩ := ad
  simp only at hs; subst hs
  rw [Addr.add_lit, hc, ← hu]
  simp [inh, hj]
theorem hi_row {zs : List Int}
    (h : (a = none ∧ len = 0 ∧ cap = 0 ∧ zs = []) ∨
      ∃ x, a = some x ∧ len ≤ cap ∧ cap ≤ maxLen ∧ zs.length = cap ∧ (∀ i, i < zs.length → w.cell? (x.add i) = some (.int .i64 (zs.getD i 0))) ∧ ∀ n ∈ zs, (Lit.int .i64 n).wf = true) : Hi w a len cap (fun i => zs.getD i 0) := by
  rcases h with ⟨rfl, rfl, rfl, rfl⟩ | ⟨x, rfl, hl, hm, hz, hc, hw⟩
  · exact ⟨Nat.le_refl _, by unfold maxLen; omega, fun _ => ⟨rfl, rfl⟩, fun _ e => (by cases e), fun _ e => (by cases e)⟩
  · have hsp : ∀ i, i < zs.length → x.spot = none := fun i hi => by
      have h0 := hc 0 (by omega)
      rw [Addr.add_zero'] at h0
      simpa using World.cell?_spot h0
    refine ⟨hl, hm, fun e => (by cases e), fun ad e hne => ?_, fun ad e i hi => ?_⟩
    · cases e; exact hsp 0 (by omega)
    · cases e
      have hs := hsp 0 (by omega)
      have hci := hc i (by omega)
      obtain ⟨b, off, spot⟩ := x
      simp only at hs; subst hs
      rw [Addr.add_lit] at hci
      exact hci
end
theorem inh_len (h : Nat → Int) (n : Nat) : (inh h n).length = n := by simp [inh]
theorem inh_ones (h : Nat → Int) (n : Nat) : ∀ u ∈ inh h n, u.oneCell' = true := fun u hu => by
  obtain ⟨x, _, rfl⟩ := List.mem_map.1 hu
  rfl
/-- numbers, and so many marks. -/
def mkI (i : Nat) : Int := 8000024 + (i : Int)
def lentI (h : Nat → Int) (n m : Nat) : List Value := inh h n ++ inh mkI m
theorem lentI_s (h : Nat → Int) (n m : Nat) : lentI h n (m + 1) = lentI h n m ++ [.int .i64 (mkI m)] := by unfold lentI; rw [inh_s, List.append_assoc]
theorem lentI_lo {h : Nat → Int} {n m j : Nat} (hj : j < n) : (lentI h n m)[j]? = some (.int .i64 (h j)) := by
  unfold lentI
  rw [List.getElem?_append_left (by rw [inh_len]; exact hj)]
  simp [inh, hj]
theorem lentI_hi {h : Nat → Int} {n m j : Nat} (h1 : n ≤ j) (h2 : j < n + m) : (lentI h n m)[j]? = some (.int .i64 (mkI (j - n))) := by
  unfold lentI
  rw [List.getElem?_append_right (by rw [inh_len]; exact h1), inh_len]
  simp [inh, show j - n < m by omega]
theorem mark1_any (i : Int) (hi0 : 0 ≤ i) (hi : i ≤ 1000000000000) (w : World) :
    Calls Try.prog 25 #[.int .i64 1, .int .i64 i] w fun e w' => e = .returned (.int .i64 (8000024 + i)) ∧ w' = w :=
  (mark_any 1 i (by omega) (by omega) hi0 hi w).mono fun e w' ⟨h1, h2⟩ => ⟨by rw [h1]; congr 2, h2⟩

theorem ownsRow_wholeI {w : World} {B n g : Nat} {e : TypeId} {xs : List Value} (h : w.ownsRow B e 1 (.slice (some ⟨g, 0, none⟩) n n) n xs) : Block w g xs e := ownsRow_whole h

set_option maxHeartbeats 1000000 in
set_option maxRecDepth 100000 in
theorem lentInts_any (a : Option Addr) (len cap : Nat) (h : Nat → Int) (w : World) (hh : Hi w a len cap h) (hl : len ≤ 1000000) :
    Calls Try.prog 8 #[.slice a len cap] w fun e w' =>
      e = .returned (.slice (some ⟨w.heap.size, 0, none⟩) len (len + 12)) ∧ Block w' w.heap.size (lentI h len 12) 3 ∧ Below w.heap.size w w' := by
  obtain ⟨i0, hi, hz0, hz1, hz2⟩ := info_parts Try.infoInt2
  have H := Lib.hid hh; clear hh
  have HI := Lib.hid hi; have HZ0 := Lib.hid hz0; have HZ1 := Lib.hid hz1; have HZ2 := Lib.hid hz2
  clear hi hz0 hz1 hz2
  go_enter Try.func8, Try.ntmps8
  go_wp2_with (first
    | (at_make; refine wpList_make_own _ rfl _ _ _ rfl w.heap.size 3 i0 (.int .i64 0) 1 Try.underlying24 HI.out HZ0.out HZ1.out .i64 .i64 _ (len + 12) rfl rfl (by omega) (by rw [HZ2.out]; omega) (by unfold maxLen; omega) (Nat.le_refl _) ?_; intro w1 hown1 hgrow1; have HO1 := Lib.hid hown1; have HB1 := Lib.hid ((Below.refl w.heap.size w).grown hgrow1 (Nat.le_refl _) (by simp)); clear hown1 hgrow1)
    | (at_builtin; refine wpList_append_fits_any _ rfl _ _ _ rfl w.heap.size 3 i0 1 Try.underlying24 HI.out HZ1.out w.heap.size 0 (len + 12) [] rfl HO1.out a len cap (inh h len) rfl (by rw [inh_len, Nat.mul_one]) H.out.nil (H.out.same HB1.out).news (inh_ones h len) (by omega) ?_; intro w2 hown2 hgrow2; rw [Nat.zero_add, List.nil_append] at hown2; have HO2 := Lib.hid hown2; have HB2 := Lib.hid (HB1.out.grown hgrow2 HB1.out.size (by intro k hk; cases hk; exact Nat.le_refl _)); clear hown2 hgrow2))
  clear HO1 HB1
  go_loopw [3, 4] (fun o i wr => ∃ (k : Nat) (W : World), W = wr ∧ k ≤ 12 ∧ i = .int .i64 k ∧ o = .slice (some ⟨w.heap.size, 0, none⟩) (len + k) (len + 12) ∧ wr.ownsRow w.heap.size 3 1 (.slice (some ⟨w.heap.size, 0, none⟩) (len + k) (len + 12)) (len + k) (lentI h len k) ∧ Below w.heap.size w wr) (fun _ i _ => 12 - (intOf i).toNat)
  case atStart => exact ⟨0, _, rfl, by omega, rfl, by simp, by simpa [lentI, inh] using HO2.out, HB2.out⟩
  case round =>
    obtain ⟨k, wx, rfl, hk, rfl, rfl, hO, hB⟩ := hrel
    have HO := Lib.hid hO; have HB := Lib.hid hB; clear hO hB
    by_cases hlt : k < 12
    · have hge := HB.out.size
      go_wp2_with (first
        | (go_at_call 25; refine (mark1_any (k : Int) (by omega) (by omega) _).mono ?_; rintro e w' ⟨rfl, hw'⟩; rw [hw']; clear hw')
        | (at_builtin; refine wpList_append_fits _ rfl _ _ _ rfl w.heap.size 3 i0 1 Try.underlying24 HI.out HZ1.out w.heap.size (len + k) (len + 12) (lentI h len k) rfl (HO.out.alloc _) _ 1 1 [.int .i64 (8000024 + (k : Int))] rfl rfl (cell_single _ _ _) (one_single _ _) (by omega) ?_; intro w4 hown4 hgrow4; have hown4 : w4.ownsRow w.heap.size 3 1 _ _ (lentI h len (k + 1)) := (by rw [lentI_s]; exact hown4); have HO4 := Lib.hid hown4; have HB4 := Lib.hid ((HB.out.alloc hge _).grown hgrow4 (by simp; omega) (by intro k hk; cases hk; exact Nat.le_refl _)); clear hown4 hgrow4))
      go_roundw
      case rel => exact ⟨k + 1, _, rfl, by omega, by go_num, rfl, HO4.out, HB4.out⟩
      case measure => simp [intOf]; omega
    · obtain rfl : k = 12 := by omega
      have hle := H.out.capOk
      go_wp2
      go_ret
      exact ⟨rfl, ownsRow_wholeI HO.out, HB.out⟩

set_option maxHeartbeats 2000000 in
set_option maxRecDepth 100000 in
theorem keptInts_any (g : Nat) (a : Option Addr) (len cap : Nat) (h : Nat → Int) (w : World) (hh : Hi w a len cap h) (hg : Block w g (lentI h len 12) 3) (hl : len ≤ 1000000) :
    Calls Try.prog 17 #[.slice (some ⟨g, 0, none⟩) len (len + 12), .slice a len cap] w fun e w' => e = .returned (.bool true) ∧ ∃ q, w' = w.drewN q := by
  have H := Lib.hid hh; have HG := Lib.hid hg; clear hh hg
  have hne : ((len : Int) != (len : Int)) = false := by simp
  go_enter Try.func17, Try.ntmps17
  go_wp2_with fail
  go_loopw [6] (fun i wr => ∃ (k : Nat) (W : World), W = wr ∧ k ≤ len + 12 ∧ i = .int .i64 k ∧ ∃ q, wr = w.drewN q) (fun i _ => len + 12 - (intOf i).toNat)
  case atStart => exact ⟨0, _, rfl, by omega, rfl, 0, rfl⟩
  case round =>
    obtain ⟨k, wx, rfl, hk, rfl, q, hq⟩ := hrel
    have HQ := Lib.hid hq
    by_cases hlt : k < len
    · obtain ⟨b, off, e1, c1⟩ := (H.out.same (quiet_b hq)).si.cell k hlt
      have E1 := Lib.hid (show a = some ⟨b, off, none⟩ from e1)
      have c2 : wx.cell? ⟨g, k, none⟩ = some (.int .i64 (h k)) := by rw [hq]; exact HG.out.cell (lentI_lo hlt)
      subst e1
      clear hq
      generalize h k = v at c1 c2
      have i1 : (k : Int) < (len : Int) := by omega
      have i2 : (k : Int) < (len : Int) + 12 := by omega
      have i5 : decide (len ≤ k) = false := by simp; omega
      have g5 : (v == v) = true := by simp
      go_wp2_with fail
      go_quiet (fail)
      go_wp2
      go_roundw
      case rel => exact ⟨k + 1, _, rfl, by omega, by go_num, q + nq, by rw [HQ.out, World.drewN_drewN]⟩
      case measure => simp [intOf]; omega
    · by_cases hlt2 : k < len + 12
      · have hmk : mkI (k - len) = 8000024 + ((k : Int) - (len : Int)) := by unfold mkI; omega
        have c2 : wx.cell? ⟨g, k, none⟩ = some (.int .i64 (8000024 + ((k : Int) - (len : Int)))) := by
          rw [← hmk, hq]; exact HG.out.cell (lentI_hi (by omega) (by omega))
        clear hq hmk
        have i1 : ¬ (k : Int) < (len : Int) := by omega
        have i2 : (k : Int) < (len : Int) + 12 := by omega
        have i4 : decide (k < len) = false := by simp; omega
        have i5 : decide (len ≤ k) = true := by simp; omega
        have i6 : IntKind.i64.wrap ((k : Int) - (len : Int)) = (k : Int) - (len : Int) := IntWalk.i64_in _ (by omega)
        obtain ⟨d, hd⟩ : ∃ d : Nat, (k : Int) - (len : Int) = (d : Int) := ⟨k - len, by omega⟩
        rw [hd] at c2 i6
        have hd9 : d < 12 := by omega
        go_wp2_with fail
        go_quiet ((go_at_call 25; exact Calls.quiet_of_same (mark1_any (d : Int) (by omega) (by omega) _)))
        go_wp2
        go_roundw
        case rel => exact ⟨k + 1, _, rfl, by omega, by go_num, q + nq, by rw [HQ.out, World.drewN_drewN]⟩
        case measure => simp [intOf]; omega
      · clear hq
        obtain rfl : k = len + 12 := by omega
        go_wp2
        go_ret
        exact ⟨rfl, q, HQ.out⟩
end Go.Proofs.Ythkcacnlinajgaa

namespace Go.Proofs.Ythkcacnlinajgaa.Wg
open Go.RowKit Go.Shelf

/-- a closure that answers a number of each place. -/
structure AskN (w0 : World) (cf n : Nat) (caps : Array Value) (K : Nat → Int) : Prop where
  ent : ∀ (args : Array Value) (W : World), (callFunc cf args).run Try.prog W = .ok (.enter cf args) W
  call : ∀ W, Below w0.heap.size w0 W → ∀ j : Nat, j < n → Calls Try.prog cf (#[.int .i64 (j : Nat)] ++ caps) W fun e W' => e = .returned (.int .i64 (K j)) ∧ W' = W
theorem AskN.same {w0 W : World} {cf n : Nat} {caps : Array Value} {K : Nat → Int} (h : AskN w0 cf n caps K) (hB : Below w0.heap.size w0 W) : AskN W cf n caps K := ⟨h.ent, fun X hX j hj => h.call X (hB.trans (hX.mono hB.size)) j hj⟩
theorem AskN.less {w0 : World} {cf n m : Nat} {caps : Array Value} {K : Nat → Int} (h : AskN w0 cf n caps K) (hm : m ≤ n) : AskN w0 cf m caps K := ⟨h.ent, fun X hX j hj => h.call X hX j (by omega)⟩
set_option maxHeartbeats 1000000 in
theorem of1_n (a : Option Addr) (n cap lb k : Nat) (K : Nat → Int) (hk : k < n) (w : World) (hb : w.cell? ⟨lb, 0, none⟩ = some (.slice a n cap)) (hS : Si w a n K) :
    Calls Try.prog 78 #[.int .i64 (k : Nat), .pointer (some ⟨lb, 0, none⟩)] w fun e w' => e = .returned (.int .i64 (K k)) ∧ w' = w := by
  obtain ⟨b, o, ea, hc⟩ := hS.cell k hk
  have i1 : (k : Int) < (n : Int) := by omega
  subst ea
  clear hS
  go_enter Try.func78, Try.ntmps78
  go_wp2
  go_ret
  exact ⟨rfl, rfl⟩
set_option maxHeartbeats 1000000 in
theorem all1_n (x j : Int) (lb : Nat) (w : World) (hb : w.cell? ⟨lb, 0, none⟩ = some (.int .i64 x)) :
    Calls Try.prog 89 #[.int .i64 j, .pointer (some ⟨lb, 0, none⟩)] w fun e w' => e = .returned (.int .i64 x) ∧ w' = w := by
  go_enter Try.func89, Try.ntmps89
  go_wp2
  go_ret
  exact ⟨rfl, rfl⟩
/-- the numbers, one place further on. -/
def beh (x : Int) (K : Nat → Int) : Nat → Int
  | 0 => x
  | j + 1 => K j
set_option maxHeartbeats 1000000 in
theorem beh1_n (x : Int) (n cf lb cb j : Nat) (ca : Array Value) (K : Nat → Int) (hj : j < n + 1) (hn : n ≤ 140737488355328) (w : World) (hb : w.cell? ⟨lb, 0, none⟩ = some (.int .i64 x)) (hc : w.cell? ⟨cb, 0, none⟩ = some (.func (.func cf) #[] ca)) (hK : AskN w cf n ca K) :
    Calls Try.prog 90 #[.int .i64 (j : Nat), .pointer (some ⟨lb, 0, none⟩), .pointer (some ⟨cb, 0, none⟩)] w fun e w' => e = .returned (.int .i64 (beh x K j)) ∧ w' = w := by
  have HC := Lib.hid (fun j hj => hK.call w (Below.refl _ w) j hj)
  have hent := hK.ent
  clear hK
  go_enter Try.func90, Try.ntmps90
  cases j with
  | zero =>
    go_wp2
    go_ret
    exact ⟨rfl, rfl⟩
  | succ j =>
    have i1 : ((((j + 1 : Nat) : Int)) == (0 : Int)) = false := by simp; omega
    have i2 : wrap64 (((j + 1 : Nat) : Int) - 1) = (j : Int) := by unfold wrap64; omega
    have HC1 := Lib.hid (HC.out j (by omega))
    clear HC
    go_wp2_with fail
    refine HC1.out.mono ?_
    rintro e w' ⟨rfl, rfl⟩
    go_wp2
    go_ret
    exact ⟨rfl, rfl⟩
def ClSays (w : World) (n : Nat) (K : Nat → Int) (e : Ending) (w' : World) : Prop := ∃ cf caps, e = .returned (.func (.func cf) #[] caps) ∧ AskN w' cf n caps K ∧ Below w.heap.size w w'
set_option maxHeartbeats 1000000 in
theorem of_n (a : Option Addr) (n cap : Nat) (K : Nat → Int) (w : World) (hS : Si w a n K) :
    Calls Try.prog 44 #[.slice a n cap] w (ClSays w n K) := by
  have hmf : ∀ (fn : Fn) (first cap : Array Value) (w : World), (Instr.makeFunc fn first cap).run Try.prog w = .ok (.func fn first cap) w := fun _ _ _ _ => rfl
  have hB : Below w.heap.size w (w.alloc (.cells #[.slice a n cap] 24)) := (Below.refl _ w).alloc (Nat.le_refl _) _
  have hb : (w.alloc (.cells #[.slice a n cap] 24)).heap[w.heap.size]? = some (.cells #[.slice a n cap] 24 (0, 0)) := heap_alloc_new _ _
  have HA := Lib.hid (show AskN (w.alloc (.cells #[.slice a n cap] 24)) 78 n #[.pointer (some ⟨w.heap.size, 0, none⟩)] K from ⟨fun _ _ => by kernel_rfl, fun W hW j hj => of1_n a n cap w.heap.size j K hj W (by rw [cell_of_row W _ 0 _ _ _ ((hW.block _ (Array.getElem?_eq_some_iff.1 hb).1).trans hb)]; rfl) ⟨fun i hi => by
    obtain ⟨b, o, e, h1⟩ := hS.cell i hi
    exact ⟨b, o, e, by rw [hW.cell (World.block_lt_of_cell? _ _ ((hB.cell (World.block_lt_of_cell? _ _ h1)).trans h1)), hB.cell (World.block_lt_of_cell? _ _ h1)]; exact h1⟩⟩⟩)
  have HB := Lib.hid hB
  clear hB hb hS
  go_enter Try.func44, Try.ntmps44
  go_wp2_with fail
  go_ret
  exact ⟨_, _, rfl, HA.out, HB.out⟩
set_option maxHeartbeats 1000000 in
theorem all_n (x : Int) (n : Nat) (w : World) :
    Calls Try.prog 60 #[.int .i64 x] w (ClSays w n fun _ => x) := by
  have hmf : ∀ (fn : Fn) (first cap : Array Value) (w : World), (Instr.makeFunc fn first cap).run Try.prog w = .ok (.func fn first cap) w := fun _ _ _ _ => rfl
  have hB : Below w.heap.size w (w.alloc (.cells #[.int .i64 x] 3)) := (Below.refl _ w).alloc (Nat.le_refl _) _
  have hb : (w.alloc (.cells #[.int .i64 x] 3)).heap[w.heap.size]? = some (.cells #[.int .i64 x] 3 (0, 0)) := heap_alloc_new _ _
  have HA := Lib.hid (show AskN (w.alloc (.cells #[.int .i64 x] 3)) 89 n #[.pointer (some ⟨w.heap.size, 0, none⟩)] (fun _ => x) from ⟨fun _ _ => by kernel_rfl, fun W hW j hj => all1_n x (j : Nat) w.heap.size W (by rw [cell_of_row W _ 0 _ _ _ ((hW.block _ (Array.getElem?_eq_some_iff.1 hb).1).trans hb)]; rfl)⟩)
  have HB := Lib.hid hB
  clear hB hb
  go_enter Try.func60, Try.ntmps60
  go_wp2_with fail
  go_ret
  exact ⟨_, _, rfl, HA.out, HB.out⟩
set_option maxHeartbeats 1000000 in
theorem beh_n (x : Int) (n cf : Nat) (ca : Array Value) (K : Nat → Int) (hn : n ≤ 140737488355328) (w : World) (hK : AskN w cf n ca K) :
    Calls Try.prog 61 #[.func (.func cf) #[] ca, .int .i64 x] w (ClSays w (n + 1) (beh x K)) := by
  have hmf : ∀ (fn : Fn) (first cap : Array Value) (w : World), (Instr.makeFunc fn first cap).run Try.prog w = .ok (.func fn first cap) w := fun _ _ _ _ => rfl
  obtain ⟨w1, hw1⟩ : ∃ w1, w1 = w.alloc (.cells #[.func (.func cf) #[] ca] 96) := ⟨_, rfl⟩
  have hz1 : w1.heap.size = w.heap.size + 1 := by rw [hw1, World.size_alloc]
  have hB1 : Below w.heap.size w w1 := by rw [hw1]; exact (Below.refl _ w).alloc (Nat.le_refl _) _
  have hb1 : w1.heap[w.heap.size]? = some (.cells #[.func (.func cf) #[] ca] 96 (0, 0)) := by rw [hw1]; exact heap_alloc_new _ _
  have hB2 : Below w1.heap.size w1 (w1.alloc (.cells #[.int .i64 x] 3)) := (Below.refl _ w1).alloc (Nat.le_refl _) _
  have hb2 : (w1.alloc (.cells #[.int .i64 x] 3)).heap[w1.heap.size]? = some (.cells #[.int .i64 x] 3 (0, 0)) := heap_alloc_new _ _
  have hb3 := (hB2.block _ (Array.getElem?_eq_some_iff.1 hb1).1).trans hb1
  have hB : Below w.heap.size w (w1.alloc (.cells #[.int .i64 x] 3)) := hB1.trans (hB2.mono hB1.size)
  have HA := Lib.hid (show AskN (w1.alloc (.cells #[.int .i64 x] 3)) 90 (n + 1) #[.pointer (some ⟨w1.heap.size, 0, none⟩), .pointer (some ⟨w.heap.size, 0, none⟩)] (beh x K) from ⟨fun _ _ => by kernel_rfl, fun W hW j hj => beh1_n x n cf w1.heap.size w.heap.size j ca K hj hn W (by rw [cell_of_row W _ 0 _ _ _ ((hW.block _ (Array.getElem?_eq_some_iff.1 hb2).1).trans hb2)]; rfl) (by rw [cell_of_row W _ 0 _ _ _ ((hW.block _ (Array.getElem?_eq_some_iff.1 hb3).1).trans hb3)]; rfl) (hK.same (hB.trans (hW.mono hB.size)))⟩)
  have HB := Lib.hid hB
  rw [hz1, hw1] at HA
  rw [hw1] at HB
  clear hB hb1 hb2 hb3 hB1 hB2 hw1 hz1 hK
  go_enter Try.func61, Try.ntmps61
  go_wp2_with fail
  go_ret
  exact ⟨_, _, rfl, HA.out, HB.out⟩

set_option maxHeartbeats 1000000 in
theorem less_n (x y : Int) (w : World) :
    Calls Try.prog 88 #[.int .i64 x, .int .i64 y] w fun e w' => e = .returned (.bool (decide (x < y))) ∧ w' = w := by
  have hnan : ∀ (z : Int), Calls Try.prog 107 #[.int .i64 z] w fun e w' => e = .returned (.bool false) ∧ w' = w := fun z => by
    have i1 : (z != z) = false := by simp
    go_enter Try.func107, Try.ntmps107
    go_wp2
    go_ret
    exact ⟨rfl, rfl⟩
  go_enter Try.func88, Try.ntmps88
  go_wp2_with fail
  refine (hnan x).mono ?_
  rintro e w' ⟨rfl, rfl⟩
  go_wp2
  go_ret
  exact ⟨rfl, rfl⟩
set_option maxHeartbeats 1000000 in
theorem unl_n (x y : Int) (w : World) :
    Calls Try.prog 77 #[.int .i64 x, .int .i64 y] w fun e w' => e = .returned (.bool (x != y)) ∧ w' = w := by
  go_enter Try.func77, Try.ntmps77
  go_wp2
  go_ret
  exact ⟨rfl, rfl⟩
end Go.Proofs.Ythkcacnlinajgaa.Wg

namespace Go.Proofs.Ythkcacnlinajgaa.Wg
open Go.RowKit Go.Shelf

/-- what asks whether numbers stand so. -/
structure SoN (cs : Nat) (R : Int → Int → Bool) : Prop where
  ent : ∀ (args : Array Value) (W : World), (callFunc cs args).run Try.prog W = .ok (.enter cs args) W
  call : ∀ (x y : Int) (W : World), Calls Try.prog cs #[.int .i64 x, .int .i64 y] W fun e W' => e = .returned (.bool (R x y)) ∧ W' = W
theorem soLess : SoN 88 (fun x y => decide (x < y)) := ⟨fun _ _ => by kernel_rfl, less_n⟩
theorem soUnl : SoN 77 (fun x y => x != y) := ⟨fun _ _ => by kernel_rfl, unl_n⟩
/-- the first place. -/
def FsSays (n : Nat) (R : Int → Int → Bool) (K L : Nat → Int) (e : Ending) : Prop := ∃ p : Nat, e = .returned (.int .i64 (p : Nat)) ∧ p ≤ n ∧ (∀ j, j < p → R (K j) (L j) = false) ∧ (p < n → R (K p) (L p) = true)
set_option maxHeartbeats 2000000 in
set_option maxRecDepth 100000 in
theorem first_any (n cf cg cs : Nat) (ca cb : Array Value) (K L : Nat → Int) (R : Int → Int → Bool) (hn : n ≤ 140737488355328) (w : World) (hK : AskN w cf n ca K) (hL : AskN w cg n cb L) (hR : SoN cs R) :
    Calls Try.prog 76 #[.int .i64 (n : Nat), .func (.func cf) #[] ca, .func (.func cg) #[] cb, .func (.func cs) #[] #[]] w fun e w' => FsSays n R K L e ∧ w' = w := by
  have HK := Lib.hid hK; have HL := Lib.hid hL; have HR := Lib.hid hR
  have hent1 := hK.ent; have hent2 := hL.ent; have hent3 := hR.ent
  clear hK hL hR
  go_enter Try.func76, Try.ntmps76
  go_wp2_with fail
  go_loopw [11] (fun i wr => ∃ (k : Nat), k ≤ n ∧ i = .int .i64 (k : Nat) ∧ (∀ j, j < k → R (K j) (L j) = false) ∧ wr = w) (fun i _ => n - (intOf i).toNat)
  case atStart => exact ⟨0, by omega, rfl, fun j hj => absurd hj (Nat.not_lt_zero j), rfl⟩
  case round =>
    obtain ⟨k, hk, rfl, hall, hw⟩ := hrel
    subst hw
    have HALL := Lib.hid hall; clear hall
    by_cases hkn : k < n
    · have i1 : (k : Int) < (n : Int) := by omega
      have HC1 := Lib.hid (HK.out.call _ (Below.refl _ _) k hkn); have HC2 := Lib.hid (HL.out.call _ (Below.refl _ _) k hkn); have HC3 := Lib.hid (HR.out.call (K k) (L k))
      go_wp2_with fail
      refine HC1.out.mono ?_
      rintro e w2 ⟨rfl, rfl⟩
      go_wp2_with fail
      refine HC2.out.mono ?_
      rintro e w3 ⟨rfl, rfl⟩
      go_wp2_with fail
      refine (HC3.out _).mono ?_
      rintro e w4 ⟨rfl, rfl⟩
      cases hr : R (K k) (L k)
      · have HX := Lib.hid hr
        clear hr
        go_wp2
        go_roundw
        case rel => exact ⟨k + 1, by omega, by go_num, fun j hj => by
          by_cases e : j = k
          · rw [e]; exact HX.out
          · exact HALL.out j (by omega), by trivial⟩
        case measure => simp [intOf]; omega
      · have HX := Lib.hid hr
        clear hr
        go_wp2
        go_ret
        exact ⟨⟨k, rfl, hk, HALL.out, fun _ => HX.out⟩, rfl⟩
    · obtain rfl : k = n := by omega
      have i1 : ¬ (k : Int) < (k : Int) := by omega
      go_wp2
      go_ret
      exact ⟨⟨k, rfl, Nat.le_refl _, HALL.out, fun h => absurd h (Nat.lt_irrefl _)⟩, rfl⟩
/-- a Boolean that tells of something. -/
def BoSays (P : Prop) (e : Ending) : Prop := ∃ v : Bool, e = .returned (.bool v) ∧ (v = true ↔ P)
set_option maxHeartbeats 1000000 in
theorem atMost_any (n cf cg : Nat) (ca cb : Array Value) (K L : Nat → Int) (hn : n ≤ 140737488355328) (w : World) (hK : AskN w cf n ca K) (hL : AskN w cg n cb L) :
    Calls Try.prog 59 #[.int .i64 (n : Nat), .func (.func cf) #[] ca, .func (.func cg) #[] cb] w fun e w' => BoSays (∀ j, j < n → K j ≤ L j) e ∧ w' = w := by
  have HF := Lib.hid (first_any n cg cf 88 cb ca L K _ hn w hL hK soLess)
  clear hK hL
  go_enter Try.func59, Try.ntmps59
  go_wp2_with fail
  refine HF.out.mono ?_
  rintro e w1 ⟨⟨p, rfl, hp, h1, h2⟩, rfl⟩
  have H1 := Lib.hid h1; have H2 := Lib.hid h2
  clear h1 h2
  go_wp2
  go_ret
  refine ⟨⟨_, rfl, ?_⟩, rfl⟩
  rw [beq_iff_eq]
  constructor
  · intro h j hj
    have := H1.out j (by omega)
    simp at this
    exact this
  · intro h
    by_cases e : p < n
    · have h3 := H2.out e
      have h4 := h p e
      simp at h3
      omega
    · omega
/-- at the first place at which they are not the same, the one is the lesser one. -/
def Ahd (n : Nat) (K L : Nat → Int) : Prop := ∃ p, p < n ∧ (∀ j, j < p → K j = L j) ∧ K p < L p
set_option maxHeartbeats 2000000 in
theorem ahead_any (n cf cg : Nat) (ca cb : Array Value) (K L : Nat → Int) (hn : n ≤ 140737488355328) (w : World) (hK : AskN w cf n ca K) (hL : AskN w cg n cb L) :
    Calls Try.prog 43 #[.int .i64 (n : Nat), .func (.func cf) #[] ca, .func (.func cg) #[] cb] w fun e w' => BoSays (Ahd n K L) e ∧ w' = w := by
  have HF := Lib.hid (first_any n cf cg 77 ca cb K L _ hn w hK hL soUnl)
  have HK := Lib.hid hK; have HL := Lib.hid hL
  have hent1 := hK.ent; have hent2 := hL.ent
  clear hK hL
  go_enter Try.func43, Try.ntmps43
  go_wp2_with fail
  refine HF.out.mono ?_
  rintro e w1 ⟨⟨p, rfl, hp, h1, h2⟩, rfl⟩
  have H1 := Lib.hid (show ∀ j, j < p → K j = L j from fun j hj => by have := h1 j hj; simpa using this); have H2 := Lib.hid (show p < n → K p ≠ L p from fun h => by have := h2 h; simpa using this)
  clear h1 h2
  by_cases hpn : p < n
  · have i1 : (p : Int) < (n : Int) := by omega
    have HC1 := Lib.hid (HK.out.call _ (Below.refl _ _) p hpn); have HC2 := Lib.hid (HL.out.call _ (Below.refl _ _) p hpn)
    go_wp2_with fail
    refine HC1.out.mono ?_
    rintro e w2 ⟨rfl, rfl⟩
    go_wp2_with fail
    refine HC2.out.mono ?_
    rintro e w3 ⟨rfl, rfl⟩
    go_wp2
    go_ret
    refine ⟨⟨_, rfl, ?_⟩, rfl⟩
    rw [decide_eq_true_iff]
    constructor
    · intro h; exact ⟨p, hpn, H1.out, h⟩
    · rintro ⟨q, hq, h3, h4⟩
      have hne := H2.out hpn
      by_cases e1 : q < p
      · have := H1.out q e1; omega
      · by_cases e2 : p < q
        · exact absurd (h3 p e2) hne
        · obtain rfl : p = q := by omega
          exact h4
  · have i1 : ¬ (p : Int) < (n : Int) := by omega
    have HX := Lib.hid (show ¬ Ahd n K L from by
      rintro ⟨q, hq, h3, h4⟩
      have := H1.out q (by omega)
      omega)
    have i2 : decide ((p : Int) < (n : Int)) = false := by simp; omega
    go_wp2
    go_ret
    exact ⟨⟨false, rfl, fun h => (by cases h), fun h => absurd h HX.out⟩, rfl⟩
end Go.Proofs.Ythkcacnlinajgaa.Wg

namespace Go.Proofs.Ythkcacnlinajgaa.Wg
open Go.RowKit Go.Shelf
attribute [local go_sem] Oper.semAt_some

/-- numbers that are weights for n. -/
def RW (n : Int) (m : Nat) (W : Nat → Int) : Prop := (1 ≤ n ∧ n ≤ 255) ∧ (m : Int) = n + 1 ∧ (∀ i, i < m → 0 ≤ W i) ∧ ∀ i, i < m → W i ≤ beh 65536 W i
theorem RW.le {n : Int} {m : Nat} {W : Nat → Int} (h : RW n m W) : ∀ i, i < m → W i ≤ 65536
  | 0, h0 => h.2.2.2 0 h0
  | i + 1, h1 => Int.le_trans (h.2.2.2 (i + 1) h1) (h.le i (by omega))
theorem many_yes {n : Int} (h : 1 ≤ n ∧ n ≤ 255) (w : World) :
    Calls Try.prog 48 #[.int .i64 n] w fun e w' => e = .returned (.bool true) ∧ w' = w := by
  have g0 : decide (1 ≤ n) = true := by simp [h.1]
  have g1 : decide (n ≤ 255) = true := by simp [h.2]
  go_enter Try.func48, Try.ntmps48
  go_wp2
  go_ret
  exact ⟨rfl, rfl⟩
theorem many_no {n : Int} (h : ¬ (1 ≤ n ∧ n ≤ 255)) (w : World) :
    Calls Try.prog 48 #[.int .i64 n] w fun e w' => e = .returned (.bool false) ∧ w' = w := by
  go_enter Try.func48, Try.ntmps48
  by_cases h0 : 1 ≤ n
  · have g0 : decide (1 ≤ n) = true := by simp [h0]
    have g1 : decide (n ≤ 255) = false := by simp; omega
    go_wp2
    go_ret
    exact ⟨rfl, rfl⟩
  · have g0 : decide (1 ≤ n) = false := by simp; omega
    go_wp2
    go_ret
    exact ⟨rfl, rfl⟩
theorem BoSays.no {P : Prop} (h : ¬ P) : BoSays P (.returned (.bool false)) := ⟨false, rfl, fun e => (by cases e), fun e => absurd e h⟩
theorem BoSays.yes {P : Prop} (h : P) : BoSays P (.returned (.bool true)) := ⟨true, rfl, fun _ => h, fun _ => rfl⟩
set_option maxHeartbeats 4000000 in
set_option maxRecDepth 100000 in
theorem right_any (n : Int) (a : Option Addr) (m cap : Nat) (W : Nat → Int) (w : World) (hS : Si w a m W) :
    Calls Try.prog 35 #[.int .i64 n, .slice a m cap] w fun e w' => BoSays (RW n m W) e ∧ Below w.heap.size w w' := by
  have HS := Lib.hid hS; clear hS
  go_enter Try.func35, Try.ntmps35
  by_cases hn : 1 ≤ n ∧ n ≤ 255
  rotate_left
  · have HX := Lib.hid (show ¬ RW n m W from fun h => hn h.1)
    go_wp2_with fail
    refine (many_no hn _).mono ?_
    rintro e w1 ⟨rfl, rfl⟩
    clear hn
    go_wp2
    go_ret
    exact ⟨BoSays.no HX.out, Below.refl _ _⟩
  go_wp2_with fail
  refine (many_yes hn _).mono ?_
  rintro e w1 ⟨rfl, rfl⟩
  obtain ⟨hn1, hn2⟩ := hn
  by_cases hm : (m : Int) = n + 1
  rotate_left
  · have HX := Lib.hid (show ¬ RW n m W from fun h => hm h.2.1)
    have i1 : ((m : Int) == n + 1) = false := by simp; omega
    clear hm
    go_wp2
    go_ret
    exact ⟨BoSays.no HX.out, Below.refl _ _⟩
  have HM := Lib.hid hm
  have i1 : ((m : Int) == n + 1) = true := by simp; omega
  have hm2 : m ≤ 256 := by omega
  clear hm
  go_wp2_with fail
  refine (all_n 0 m _).mono ?_
  rintro e w2 ⟨cf, ca, rfl, hA, hB2⟩
  have HA := Lib.hid hA; have HB2 := Lib.hid hB2
  clear hA hB2
  go_wp2_with fail
  refine (of_n a m cap W _ (HS.out.same HB2.out)).mono ?_
  rintro e w3 ⟨cg, cb, rfl, hA, hB3⟩
  have HC := Lib.hid hA; have HA3 := Lib.hid (HA.out.same hB3); have HB3 := Lib.hid (HB2.out.trans (hB3.mono HB2.out.size))
  clear hA hB3 HA HB2
  go_wp2_with fail
  refine (atMost_any m cf cg ca cb (fun _ => 0) W (by omega) _ HA3.out HC.out).mono ?_
  rintro e w4 ⟨⟨v, rfl, hv⟩, rfl⟩
  have HV := Lib.hid hv
  clear hv HA3 HC
  cases v
  · have HX := Lib.hid (show ¬ RW n m W from fun h => absurd (HV.out.2 h.2.2.1) (by simp))
    go_wp2
    go_ret
    exact ⟨BoSays.no HX.out, HB3.out⟩
  have HV1 := Lib.hid (show ∀ i, i < m → 0 ≤ W i by first | exact HV.out.1 rfl | exact HV.out.1 trivial)
  clear HV
  go_wp2_with fail
  refine (of_n a m cap W _ (HS.out.same HB3.out)).mono ?_
  rintro e w5 ⟨ch, cc, rfl, hA, hB5⟩
  have HA5 := Lib.hid hA; have HB5 := Lib.hid (HB3.out.trans (hB5.mono HB3.out.size))
  clear hA hB5 HB3
  go_wp2_with fail
  refine (of_n a m cap W _ (HS.out.same HB5.out)).mono ?_
  rintro e w6 ⟨ci, cd, rfl, hA, hB6⟩
  have HC6 := Lib.hid hA; have HA6 := Lib.hid (HA5.out.same hB6); have HB6 := Lib.hid (HB5.out.trans (hB6.mono HB5.out.size))
  clear hA hB6 HA5 HB5
  go_wp2_with fail
  refine (beh_n 65536 m ci cd W (by omega) _ HC6.out).mono ?_
  rintro e w7 ⟨cj, ce, rfl, hA, hB7⟩
  have HC7 := Lib.hid (hA.less (m := m) (by omega)); have HA7 := Lib.hid (HA6.out.same hB7); have HB7 := Lib.hid (HB6.out.trans (hB7.mono HB6.out.size))
  clear hA hB7 HA6 HB6 HC6
  go_wp2_with fail
  refine (atMost_any m ch cj cc ce W (beh 65536 W) (by omega) _ HA7.out HC7.out).mono ?_
  rintro e w8 ⟨⟨v, rfl, hv⟩, rfl⟩
  have HV := Lib.hid hv
  clear hv HA7 HC7
  go_wp2
  go_ret
  exact ⟨⟨v, rfl, fun h => ⟨⟨hn1, hn2⟩, HM.out, HV1.out, HV.out.1 h⟩, fun h => HV.out.2 h.2.2.2⟩, HB7.out⟩

/-- whether there is a score. -/
def FitW (nv nk nm : Nat) (V K W : Nat → Int) : Prop := RW ((nm : Int) - 1) nm W ∧ nv = nk ∧ nv ≤ 8 ∧ (∀ j, j < nv → 0 ≤ V j) ∧ (∀ j, j < nv → V j ≤ 1048576) ∧ (∀ j, j < nv → 1 ≤ K j) ∧ ∀ j, j < nv → K j ≤ (nm : Int) - 1
set_option maxHeartbeats 4000000 in
set_option maxRecDepth 100000 in
theorem fit_any (va ka wa : Option Addr) (nv vc nk kc nm wc : Nat) (V K W : Nat → Int) (h1 : nv ≤ 140737488355328) (h2 : nk ≤ 140737488355328) (h3 : nm ≤ 140737488355328) (w : World) (hV : Si w va nv V) (hK : Si w ka nk K) (hW : Si w wa nm W) :
    Calls Try.prog 45 #[.slice va nv vc, .slice ka nk kc, .slice wa nm wc] w fun e w' => BoSays (FitW nv nk nm V K W) e ∧ Below w.heap.size w w' := by
  have HV := Lib.hid hV; have HK := Lib.hid hK; have HW := Lib.hid hW
  have HR := Lib.hid (fun w hW => right_any ((nm : Int) - 1) wa nm wc W w hW)
  clear hV hK hW
  go_enter Try.func45, Try.ntmps45
  go_wp2_with fail
  refine (HR.out _ HW.out).mono ?_
  rintro e w1 ⟨⟨v, rfl, hv⟩, hB1⟩
  have HX := Lib.hid hv; have HB1 := Lib.hid hB1
  clear hv hB1 HR HW
  cases v
  · have HY := Lib.hid (show ¬ FitW nv nk nm V K W from fun h => absurd (HX.out.2 h.1) (by simp))
    go_wp2
    go_ret
    exact ⟨BoSays.no HY.out, HB1.out⟩
  have HRW := Lib.hid (show RW ((nm : Int) - 1) nm W by first | exact HX.out.1 rfl | exact HX.out.1 trivial)
  clear HX
  by_cases e1 : nv = nk
  rotate_left
  · have HY := Lib.hid (show ¬ FitW nv nk nm V K W from fun h => e1 h.2.1)
    have i1 : ((nv : Int) == (nk : Int)) = false := by simp; omega
    clear e1
    go_wp2
    go_ret
    exact ⟨BoSays.no HY.out, HB1.out⟩
  subst e1
  have i1 : ((nv : Int) == (nv : Int)) = true := by simp
  by_cases e2 : nv ≤ 8
  rotate_left
  · have HY := Lib.hid (show ¬ FitW nv nv nm V K W from fun h => e2 h.2.2.1)
    have i2 : decide ((nv : Int) ≤ 8) = false := by simp; omega
    have i3 : ¬ (nv : Int) ≤ 8 := by omega
    clear e2
    go_wp2
    go_ret
    exact ⟨BoSays.no HY.out, HB1.out⟩
  have i2 : decide ((nv : Int) ≤ 8) = true := by simp; omega
  have i3 : (nv : Int) ≤ 8 := by omega
  go_wp2_with fail
  -- 0 at most worths
  refine (all_n 0 nv _).mono ?_
  rintro e w2 ⟨cf, ca, rfl, hA, hB2⟩
  have HA := Lib.hid hA; have HB2 := Lib.hid (HB1.out.trans (hB2.mono HB1.out.size))
  clear hA hB2 HB1
  go_wp2_with fail
  refine (of_n va nv vc V _ (HV.out.same HB2.out)).mono ?_
  rintro e w3 ⟨cg, cb, rfl, hA, hB3⟩
  have HC := Lib.hid hA; have HA3 := Lib.hid (HA.out.same hB3); have HB3 := Lib.hid (HB2.out.trans (hB3.mono HB2.out.size))
  clear hA hB3 HA HB2
  go_wp2_with fail
  refine (atMost_any nv cf cg ca cb (fun _ => 0) V h1 _ HA3.out HC.out).mono ?_
  rintro e w4 ⟨⟨v, rfl, hv⟩, rfl⟩
  have HX := Lib.hid hv
  clear hv HA3 HC
  cases v
  · have HY := Lib.hid (show ¬ FitW nv nv nm V K W from fun h => absurd (HX.out.2 h.2.2.2.1) (by simp))
    go_wp2
    go_ret
    exact ⟨BoSays.no HY.out, HB3.out⟩
  have HX1 := Lib.hid (show ∀ j, j < nv → 0 ≤ V j by first | exact HX.out.1 rfl | exact HX.out.1 trivial)
  clear HX
  go_wp2_with fail
  -- worths at most 2^20
  refine (of_n va nv vc V _ (HV.out.same HB3.out)).mono ?_
  rintro e w5 ⟨cf, ca, rfl, hA, hB2⟩
  have HA := Lib.hid hA; have HB2 := Lib.hid (HB3.out.trans (hB2.mono HB3.out.size))
  clear hA hB2 HB3
  go_wp2_with fail
  refine (all_n 1048576 nv _).mono ?_
  rintro e w6 ⟨cg, cb, rfl, hA, hB3⟩
  have HC := Lib.hid hA; have HA3 := Lib.hid (HA.out.same hB3); have HB3 := Lib.hid (HB2.out.trans (hB3.mono HB2.out.size))
  clear hA hB3 HA HB2
  go_wp2_with fail
  refine (atMost_any nv cf cg ca cb V (fun _ => 1048576) h1 _ HA3.out HC.out).mono ?_
  rintro e w7 ⟨⟨v, rfl, hv⟩, rfl⟩
  have HX := Lib.hid hv
  clear hv HA3 HC
  cases v
  · have HY := Lib.hid (show ¬ FitW nv nv nm V K W from fun h => absurd (HX.out.2 h.2.2.2.2.1) (by simp))
    go_wp2
    go_ret
    exact ⟨BoSays.no HY.out, HB3.out⟩
  have HX2 := Lib.hid (show ∀ j, j < nv → V j ≤ 1048576 by first | exact HX.out.1 rfl | exact HX.out.1 trivial)
  clear HX
  go_wp2_with fail
  -- 1 at most ks
  refine (all_n 1 nv _).mono ?_
  rintro e w8 ⟨cf, ca, rfl, hA, hB2⟩
  have HA := Lib.hid hA; have HB2 := Lib.hid (HB3.out.trans (hB2.mono HB3.out.size))
  clear hA hB2 HB3
  go_wp2_with fail
  refine (of_n ka nv kc K _ (HK.out.same HB2.out)).mono ?_
  rintro e w9 ⟨cg, cb, rfl, hA, hB3⟩
  have HC := Lib.hid hA; have HA3 := Lib.hid (HA.out.same hB3); have HB3 := Lib.hid (HB2.out.trans (hB3.mono HB2.out.size))
  clear hA hB3 HA HB2
  go_wp2_with fail
  refine (atMost_any nv cf cg ca cb (fun _ => 1) K h1 _ HA3.out HC.out).mono ?_
  rintro e w10 ⟨⟨v, rfl, hv⟩, rfl⟩
  have HX := Lib.hid hv
  clear hv HA3 HC
  cases v
  · have HY := Lib.hid (show ¬ FitW nv nv nm V K W from fun h => absurd (HX.out.2 h.2.2.2.2.2.1) (by simp))
    go_wp2
    go_ret
    exact ⟨BoSays.no HY.out, HB3.out⟩
  have HX3 := Lib.hid (show ∀ j, j < nv → 1 ≤ K j by first | exact HX.out.1 rfl | exact HX.out.1 trivial)
  clear HX
  go_wp2_with fail
  -- ks at most n
  refine (of_n ka nv kc K _ (HK.out.same HB3.out)).mono ?_
  rintro e w11 ⟨cf, ca, rfl, hA, hB2⟩
  have HA := Lib.hid hA; have HB2 := Lib.hid (HB3.out.trans (hB2.mono HB3.out.size))
  clear hA hB2 HB3
  go_wp2_with fail
  refine (all_n ((nm : Int) - 1) nv _).mono ?_
  rintro e w12 ⟨cg, cb, rfl, hA, hB3⟩
  have HC := Lib.hid hA; have HA3 := Lib.hid (HA.out.same hB3); have HB3 := Lib.hid (HB2.out.trans (hB3.mono HB2.out.size))
  clear hA hB3 HA HB2
  go_wp2_with fail
  refine (atMost_any nv cf cg ca cb K (fun _ => (nm : Int) - 1) h1 _ HA3.out HC.out).mono ?_
  rintro e w13 ⟨⟨v, rfl, hv⟩, rfl⟩
  have HX := Lib.hid hv
  clear hv HA3 HC
  go_wp2
  go_ret
  exact ⟨⟨v, rfl, fun h => ⟨HRW.out, rfl, e2, HX1.out, HX2.out, HX3.out, HX.out.1 h⟩, fun h => HX.out.2 h.2.2.2.2.2.2⟩, HB3.out⟩
end Go.Proofs.Ythkcacnlinajgaa.Wg

namespace Go.Proofs.Ythkcacnlinajgaa.Wg
open Go.RowKit Go.Shelf
attribute [local go_sem] Oper.semAt_some

/-- the sum of the first k worths by the weights of their thresholds. -/
def sc (V K W : Nat → Int) : Nat → Int
  | 0 => 0
  | k + 1 => sc V K W k + V k * W (K k).toNat
theorem prod_bd {v x : Int} (h0 : 0 ≤ v) (h1 : v ≤ 1048576) (h2 : 0 ≤ x) (h3 : x ≤ 65536) : 0 ≤ v * x ∧ v * x ≤ 68719476736 := by
  refine ⟨Int.mul_nonneg h0 h2, ?_⟩
  have : v * x ≤ 1048576 * 65536 := Int.mul_le_mul h1 h3 h2 (by omega)
  omega
theorem FitW.wk {nv nk nm : Nat} {V K W : Nat → Int} (h : FitW nv nk nm V K W) {k : Nat} (hk : k < nv) : ∃ kk : Nat, K k = (kk : Nat) ∧ 1 ≤ kk ∧ kk < nm ∧ 0 ≤ W kk ∧ W kk ≤ 65536 := by
  have h1 := h.2.2.2.2.2.1 k hk
  have h2 := h.2.2.2.2.2.2 k hk
  have h3 : (K k).toNat < nm := by omega
  exact ⟨(K k).toNat, by omega, by omega, h3, h.1.2.2.1 _ h3, h.1.le _ h3⟩
theorem FitW.sc_bd {nv nk nm : Nat} {V K W : Nat → Int} (h : FitW nv nk nm V K W) : ∀ k, k ≤ nv → 0 ≤ sc V K W k ∧ sc V K W k ≤ k * 68719476736
  | 0, _ => by unfold sc; omega
  | k + 1, hk => by
    have h1 := h.sc_bd k (by omega)
    obtain ⟨kk, e, _, _, h4, h5⟩ := h.wk (k := k) (by omega)
    have h2 := prod_bd (h.2.2.2.1 k (by omega)) (h.2.2.2.2.1 k (by omega)) h4 h5
    have e2 : sc V K W (k + 1) = sc V K W k + V k * W kk := by show sc V K W k + V k * W (K k).toNat = _; rw [e, Int.toNat_natCast]
    omega
/-- what a score is told as. -/
def ScSays (nv nk nm : Nat) (V K W : Nat → Int) (e : Ending) : Prop := (FitW nv nk nm V K W ∧ e = .returned (.tuple #[.int .i64 (sc V K W nk), .int .i64 0])) ∨ (¬ FitW nv nk nm V K W ∧ e = .returned (.tuple #[.int .i64 0, .int .i64 2]))
set_option maxHeartbeats 4000000 in
set_option maxRecDepth 100000 in
theorem score_any (va ka wa : Option Addr) (nv vc nk kc nm wc : Nat) (V K W : Nat → Int) (h1 : nv ≤ 140737488355328) (h2 : nk ≤ 140737488355328) (h3 : nm ≤ 140737488355328) (w : World) (hV : Si w va nv V) (hK : Si w ka nk K) (hW : Si w wa nm W) :
    Calls Try.prog 22 #[.slice va nv vc, .slice ka nk kc, .slice wa nm wc] w fun e w' => ScSays nv nk nm V K W e ∧ Below w.heap.size w w' := by
  have HV := Lib.hid hV; have HK := Lib.hid hK; have HW := Lib.hid hW
  have HF := Lib.hid (fit_any va ka wa nv vc nk kc nm wc V K W h1 h2 h3 w hV hK hW)
  clear hV hK hW
  go_enter Try.func22, Try.ntmps22
  go_wp2_with fail
  refine HF.out.mono ?_
  rintro e w1 ⟨⟨v, rfl, hv⟩, hB1⟩
  have HX := Lib.hid hv; have HB1 := Lib.hid hB1
  clear hv hB1 HF
  cases v
  · have HY := Lib.hid (show ¬ FitW nv nk nm V K W from fun h => absurd (HX.out.2 h) (by simp))
    go_wp2
    go_ret2
    exact ⟨Or.inr ⟨HY.out, rfl⟩, HB1.out⟩
  have HFW := Lib.hid (show FitW nv nk nm V K W by first | exact HX.out.1 rfl | exact HX.out.1 trivial)
  clear HX
  have hnk := HFW.out.2.1
  subst hnk
  have hn8 := HFW.out.2.2.1
  go_wp2_with fail
  go_loopw [8, 18] (fun s i wr => ∃ (k : Nat), k ≤ nv ∧ i = .int .i64 (k : Nat) ∧ s = .int .i64 (sc V K W k) ∧ Below w1.heap.size w1 wr) (fun _ i _ => nv - (intOf i).toNat)
  case atStart => exact ⟨0, by omega, rfl, rfl, Below.refl _ _⟩
  case round =>
    obtain ⟨k, hk, rfl, rfl, hB⟩ := hrel
    have HB := Lib.hid hB; clear hB
    by_cases hkn : k < nv
    · have i1 : (k : Int) < (nv : Int) := by omega
      obtain ⟨kk, hkk, k1, k2, x0, x1⟩ := HFW.out.wk hkn
      have v0 := HFW.out.2.2.2.1 k hkn
      have v1 := HFW.out.2.2.2.2.1 k hkn
      obtain ⟨s0, s1⟩ := HFW.out.sc_bd k hk
      have HSC := Lib.hid (show sc V K W (k + 1) = sc V K W k + V k * W kk by show sc V K W k + V k * W (K k).toNat = _; rw [hkk, Int.toNat_natCast])
      obtain ⟨b1, o1, ea1, c1⟩ := ((HV.out.same HB1.out).same HB.out).cell k hkn
      obtain ⟨b2, o2, ea2, c2⟩ := ((HK.out.same HB1.out).same HB.out).cell k hkn
      obtain ⟨b3, o3, ea3, c3⟩ := ((HW.out.same HB1.out).same HB.out).cell kk k2
      have EA := Lib.hid (And.intro ea1 (And.intro ea2 ea3))
      rw [hkk] at c2
      clear hkk
      generalize hs : sc V K W k = s at *
      generalize hv : V k = v at *
      generalize hx : W kk = x at *
      have hp := prod_bd v0 v1 x0 x1
      obtain ⟨p, hpe⟩ : ∃ p, v * x = p := ⟨_, rfl⟩
      rw [hpe] at hp HSC
      obtain ⟨p0, p1⟩ := hp
      subst ea1 ea2 ea3
      have i2 : (kk : Int) < (nm : Int) := by omega
      have d1 : ∀ q, (wr.drewN q).cell? ⟨b1, o1 + k, none⟩ = some (.int .i64 v) := fun q => c1
      have d3 : ∀ q, (wr.drewN q).cell? ⟨b3, o3 + kk, none⟩ = some (.int .i64 x) := fun q => c3
      clear hs hv hx v0 v1 x0 x1
      go_wp2_with fail
      go_quiet (fail)
      go_wp2
      go_roundw
      case rel => exact ⟨k + 1, by omega, by go_num, by rw [HSC.out], below_dr HB.out _⟩
      case measure => simp [intOf]; omega
    · obtain rfl : k = nv := by omega
      have i1 : ¬ (k : Int) < (k : Int) := by omega
      go_wp2
      go_ret2
      exact ⟨Or.inl ⟨HFW.out, rfl⟩, HB1.out.trans (HB.out.mono HB1.out.size)⟩

/-- whether thresholds are better. -/
def Btr (n : Nat) (V K O W : Nat → Int) : Prop := sc V O W n < sc V K W n ∨ (sc V K W n = sc V O W n ∧ Ahd n K O)
def BtSays (nv nk no nm : Nat) (V K O W : Nat → Int) (e : Ending) : Prop := (¬ (FitW nv nk nm V K W ∧ FitW nv no nm V O W) ∧ e = .returned (.tuple #[.bool false, .int .i64 2])) ∨ ((FitW nv nk nm V K W ∧ FitW nv no nm V O W) ∧ ∃ v : Bool, e = .returned (.tuple #[.bool v, .int .i64 0]) ∧ (v = true ↔ Btr nv V K O W))
set_option maxHeartbeats 4000000 in
set_option maxRecDepth 100000 in
theorem better_any (va ka oa wa : Option Addr) (nv vc nk kc no oc nm wc : Nat) (V K O W : Nat → Int) (h1 : nv ≤ 140737488355328) (h2 : nk ≤ 140737488355328) (h4 : no ≤ 140737488355328) (h3 : nm ≤ 140737488355328) (w : World) (hV : Si w va nv V) (hK : Si w ka nk K) (hO : Si w oa no O) (hW : Si w wa nm W) :
    Calls Try.prog 20 #[.slice va nv vc, .slice ka nk kc, .slice oa no oc, .slice wa nm wc] w fun e w' => BtSays nv nk no nm V K O W e ∧ Below w.heap.size w w' := by
  have HV := Lib.hid hV; have HK := Lib.hid hK; have HO := Lib.hid hO; have HW := Lib.hid hW
  have HF := Lib.hid (score_any va ka wa nv vc nk kc nm wc V K W h1 h2 h3 w hV hK hW)
  clear hV hK hW hO
  go_enter Try.func20, Try.ntmps20
  go_wp2_with fail
  refine HF.out.mono ?_
  rintro e w1 ⟨hs, hB1⟩
  have HB1 := Lib.hid hB1
  clear hB1 HF
  rcases hs with ⟨hf, rfl⟩ | ⟨hf, rfl⟩
  rotate_left
  · have HY := Lib.hid (show ¬ (FitW nv nk nm V K W ∧ FitW nv no nm V O W) from fun h => hf h.1)
    clear hf
    go_wp2
    go_ret2
    exact ⟨Or.inl ⟨HY.out, rfl⟩, HB1.out⟩
  have HF1 := Lib.hid hf
  clear hf
  generalize hs1 : sc V K W nk = s1
  have HS1 := Lib.hid hs1
  clear hs1
  go_wp2_with fail
  refine (score_any va oa wa nv vc no oc nm wc V O W h1 h4 h3 _ (HV.out.same HB1.out) (HO.out.same HB1.out) (HW.out.same HB1.out)).mono ?_
  rintro e w2 ⟨hs, hB2⟩
  have HB2 := Lib.hid (HB1.out.trans (hB2.mono HB1.out.size))
  clear hB2 HB1
  rcases hs with ⟨hf, rfl⟩ | ⟨hf, rfl⟩
  rotate_left
  · have HY := Lib.hid (show ¬ (FitW nv nk nm V K W ∧ FitW nv no nm V O W) from fun h => hf h.2)
    clear hf
    go_wp2
    go_ret2
    exact ⟨Or.inl ⟨HY.out, rfl⟩, HB2.out⟩
  have HF2 := Lib.hid hf
  clear hf
  generalize hs2 : sc V O W no = s2
  have HS2 := Lib.hid hs2
  clear hs2
  have hnk := HF1.out.2.1
  have hno := HF2.out.2.1
  subst hnk hno
  by_cases hne : s1 = s2
  rotate_left
  · have i1 : (s1 != s2) = true := by simp [hne]
    have HNE := Lib.hid hne
    clear hne
    go_wp2
    go_ret2
    refine ⟨Or.inr ⟨⟨HF1.out, HF2.out⟩, _, rfl, ?_⟩, HB2.out⟩
    unfold Btr
    rw [HS1.out, HS2.out, decide_eq_true_iff]
    constructor
    · intro h; exact Or.inl h
    · rintro (h | ⟨h, _⟩)
      · exact h
      · exact absurd h HNE.out
  have i1 : (s1 != s2) = false := by simp [hne]
  have HNE := Lib.hid hne
  clear hne
  go_wp2_with fail
  refine (of_n ka nv kc K _ (HK.out.same HB2.out)).mono ?_
  rintro e w3 ⟨cf, ca, rfl, hA, hB3⟩
  have HA := Lib.hid hA; have HB3 := Lib.hid (HB2.out.trans (hB3.mono HB2.out.size))
  clear hA hB3 HB2
  go_wp2_with fail
  refine (of_n oa nv oc O _ (HO.out.same HB3.out)).mono ?_
  rintro e w4 ⟨cg, cb, rfl, hA, hB4⟩
  have HC := Lib.hid hA; have HA4 := Lib.hid (HA.out.same hB4); have HB4 := Lib.hid (HB3.out.trans (hB4.mono HB3.out.size))
  clear hA hB4 HB3 HA
  go_wp2_with fail
  refine (ahead_any nv cf cg ca cb K O h1 _ HA4.out HC.out).mono ?_
  rintro e w5 ⟨⟨v, rfl, hv⟩, rfl⟩
  have HX := Lib.hid hv
  clear hv HA4 HC
  go_wp2
  go_ret2
  refine ⟨Or.inr ⟨⟨HF1.out, HF2.out⟩, _, rfl, ?_⟩, HB4.out⟩
  unfold Btr
  rw [HS1.out, HS2.out]
  constructor
  · intro h; exact Or.inr ⟨HNE.out, HX.out.1 h⟩
  · rintro (h | ⟨_, h⟩)
    · have := HNE.out; omega
    · exact HX.out.2 h
end Go.Proofs.Ythkcacnlinajgaa.Wg

namespace Go.Proofs.Ythkcacnlinajgaa.Wg
open Go.RowKit Go.Shelf
attribute [local go_sem] Oper.semAt_some

def Ok1 (W : Nat → Int) (j : Nat) : Prop := 0 ≤ W j ∧ W j ≤ 65536 ∧ (0 < j → W j ≤ W (j - 1))
theorem rw_of {n : Int} {m : Nat} {W : Nat → Int} (h1 : 1 ≤ n ∧ n ≤ 255) (h2 : (m : Int) = n + 1) (h : ∀ j, j < m → Ok1 W j) : RW n m W :=
  ⟨h1, h2, fun i hi => (h i hi).1, fun i hi => by
    cases i with
    | zero => exact (h 0 hi).2.1
    | succ i => exact (h (i + 1) hi).2.2 (by omega)⟩
theorem RW.ok1 {n : Int} {m : Nat} {W : Nat → Int} (h : RW n m W) {j : Nat} (hj : j < m) : Ok1 W j := ⟨h.2.2.1 j hj, h.le j hj, fun h0 => by
  obtain ⟨i, rfl⟩ : ∃ i, j = i + 1 := ⟨j - 1, by omega⟩
  exact h.2.2.2 (i + 1) hj⟩
set_option maxHeartbeats 4000000 in
set_option maxRecDepth 100000 in
theorem rright_any (n : Int) (a : Option Addr) (m cap : Nat) (W : Nat → Int) (w : World) (hS : Si w a m W) :
    Calls Try.prog 38 #[.int .i64 n, .slice a m cap] w fun e w' => BoSays (RW n m W) e ∧ Below w.heap.size w w' := by
  have HS := Lib.hid hS; clear hS
  go_enter Try.func38, Try.ntmps38
  by_cases h1 : n < 1
  · have g1 : decide (n < 1) = true := by simp; omega
    have HX := Lib.hid (show ¬ RW n m W from fun h => by have := h.1; omega)
    go_wp2
    go_ret
    exact ⟨BoSays.no HX.out, Below.refl _ _⟩
  have g1 : decide (n < 1) = false := by simp; omega
  by_cases h2 : 255 < n
  · have g2 : decide (255 < n) = true := by simp; omega
    have HX := Lib.hid (show ¬ RW n m W from fun h => by have := h.1; omega)
    go_wp2
    go_ret
    exact ⟨BoSays.no HX.out, Below.refl _ _⟩
  have g2 : decide (255 < n) = false := by simp; omega
  by_cases hm : (m : Int) = n + 1
  rotate_left
  · have HX := Lib.hid (show ¬ RW n m W from fun h => hm h.2.1)
    have i1 : ((m : Int) != n + 1) = true := by simp; omega
    clear hm
    go_wp2
    go_ret
    exact ⟨BoSays.no HX.out, Below.refl _ _⟩
  have HM := Lib.hid hm
  have i1 : ((m : Int) != n + 1) = false := by simp; omega
  have HN := Lib.hid (show 1 ≤ n ∧ n ≤ 255 by omega)
  have hm2 : m ≤ 256 := by omega
  clear hm
  go_wp2_with fail
  clear h1 h2 g1 g2 i1
  go_loopw [5] (fun i wr => ∃ (k : Nat), k ≤ m ∧ i = .int .i64 (k : Nat) ∧ (∀ j, j < k → Ok1 W j) ∧ Below w.heap.size w wr) (fun i _ => m - (intOf i).toNat)
  case atStart => exact ⟨0, by omega, rfl, fun j hj => absurd hj (Nat.not_lt_zero j), Below.refl _ _⟩
  case round =>
    obtain ⟨k, hk, rfl, hall, hB⟩ := hrel
    have HALL := Lib.hid hall; have HB := Lib.hid hB
    clear hall hB
    by_cases hkm : k < m
    · have i1 : (k : Int) < (m : Int) := by omega
      obtain ⟨b, o, ea, c1⟩ := (HS.out.same HB.out).cell k hkm
      obtain ⟨x, hx⟩ : ∃ x, x = W k := ⟨_, rfl⟩
      rw [← hx] at c1
      have HXX := Lib.hid hx
      clear hx
      have EA := Lib.hid ea
      subst ea
      have d1 : ∀ q, (wr.drewN q).cell? ⟨b, o + k, none⟩ = some (.int .i64 x) := fun q => c1
      by_cases hx0 : x < 0
      · have q1 : decide (x < 0) = true := by simp [hx0]
        have HX := Lib.hid (show ¬ RW n m W from fun h => by have := (h.ok1 hkm).1; rw [← HXX.out] at this; omega)
        clear hx0
        go_wp2_with fail
        go_quiet (fail)
        go_wp2
        go_ret
        exact ⟨BoSays.no HX.out, below_dr HB.out _⟩
      have q1 : decide (x < 0) = false := by simp; omega
      by_cases hx1 : 65536 < x
      · have q2 : decide (65536 < x) = true := by simp [hx1]
        have HX := Lib.hid (show ¬ RW n m W from fun h => by have := (h.ok1 hkm).2.1; rw [← HXX.out] at this; omega)
        clear hx0 hx1
        go_wp2_with fail
        go_quiet (fail)
        go_wp2
        go_ret
        exact ⟨BoSays.no HX.out, below_dr HB.out _⟩
      have q2 : decide (65536 < x) = false := by simp; omega
      by_cases hk0 : 0 < k
      rotate_left
      · have q3 : decide ((0 : Int) < (k : Int)) = false := by simp; omega
        have HO := Lib.hid (show Ok1 W k from ⟨by rw [← HXX.out]; omega, by rw [← HXX.out]; omega, fun h => absurd h hk0⟩)
        have i3 : ¬ (0 : Int) < (k : Int) := by omega
        clear hx0 hx1
        go_wp2_with fail
        go_quiet (fail)
        go_wp2
        go_roundw
        case rel => exact ⟨k + 1, by omega, by go_num, fun j hj => by
          by_cases e : j = k
          · rw [e]; exact HO.out
          · exact HALL.out j (by omega), below_dr HB.out _⟩
        case measure => simp [intOf]; omega
      obtain ⟨p, hp⟩ : ∃ p : Nat, p = k - 1 := ⟨_, rfl⟩
      have i3 : (k : Int) - 1 = (p : Int) := by omega
      have i4 : (p : Int) < (m : Int) := by omega
      have q3 : decide ((0 : Int) < (k : Int)) = true := by simp; omega
      obtain ⟨b2, o2, ea2, c2⟩ := (HS.out.same HB.out).cell p (by omega)
      cases ea2
      obtain ⟨y, hy⟩ : ∃ y, y = W p := ⟨_, rfl⟩
      rw [← hy] at c2
      have HYY := Lib.hid hy
      have HP := Lib.hid hp
      clear hy hp
      have d2 : ∀ q, (wr.drewN q).cell? ⟨b, o + p, none⟩ = some (.int .i64 y) := fun q => c2
      by_cases hxy : y < x
      · have q4 : decide (y < x) = true := by simp [hxy]
        have HX := Lib.hid (show ¬ RW n m W from fun h => by have := (h.ok1 hkm).2.2 hk0; rw [← HXX.out, ← HP.out, ← HYY.out] at this; omega)
        clear hx0 hx1 hxy
        go_wp2_with fail
        go_quiet (fail)
        go_wp2
        go_ret
        exact ⟨BoSays.no HX.out, below_dr HB.out _⟩
      · have q4 : decide (y < x) = false := by simp; omega
        have HO := Lib.hid (show Ok1 W k from ⟨by rw [← HXX.out]; omega, by rw [← HXX.out]; omega, fun _ => by rw [← HXX.out, ← HP.out, ← HYY.out]; omega⟩)
        clear hx0 hx1 hxy
        go_wp2_with fail
        go_quiet (fail)
        go_wp2
        go_roundw
        case rel => exact ⟨k + 1, by omega, by go_num, fun j hj => by
          by_cases e : j = k
          · rw [e]; exact HO.out
          · exact HALL.out j (by omega), below_dr HB.out _⟩
        case measure => simp [intOf]; omega
    · obtain rfl : k = m := by omega
      have i1 : ¬ (k : Int) < (k : Int) := by omega
      go_wp2
      go_ret
      exact ⟨BoSays.yes (rw_of HN.out HM.out HALL.out), HB.out⟩
end Go.Proofs.Ythkcacnlinajgaa.Wg

namespace Go.Proofs.Ythkcacnlinajgaa.Wg
open Go.RowKit Go.Shelf
attribute [local go_sem] Oper.semAt_some

def Ok2 (nm : Nat) (V K : Nat → Int) (j : Nat) : Prop := 0 ≤ V j ∧ V j ≤ 1048576 ∧ 1 ≤ K j ∧ K j ≤ (nm : Int) - 1
theorem FitW.ok2 {nv nk nm : Nat} {V K W : Nat → Int} (h : FitW nv nk nm V K W) {j : Nat} (hj : j < nv) : Ok2 nm V K j := ⟨h.2.2.2.1 j hj, h.2.2.2.2.1 j hj, h.2.2.2.2.2.1 j hj, h.2.2.2.2.2.2 j hj⟩
theorem fitW_of {nv nm : Nat} {V K W : Nat → Int} (h1 : RW ((nm : Int) - 1) nm W) (h2 : nv ≤ 8) (h : ∀ j, j < nv → Ok2 nm V K j) : FitW nv nv nm V K W :=
  ⟨h1, rfl, h2, fun j hj => (h j hj).1, fun j hj => (h j hj).2.1, fun j hj => (h j hj).2.2.1, fun j hj => (h j hj).2.2.2⟩
theorem sc_bd2 {nm : Nat} {V K W : Nat → Int} (hW : RW ((nm : Int) - 1) nm W) : ∀ k, (∀ j, j < k → Ok2 nm V K j) → 0 ≤ sc V K W k ∧ sc V K W k ≤ k * 68719476736
  | 0, _ => by unfold sc; omega
  | k + 1, h => by
    have h1 := sc_bd2 hW k (fun j hj => h j (by omega))
    obtain ⟨h2, h3, h4, h5⟩ := h k (by omega)
    have h6 : (K k).toNat < nm := by omega
    have := prod_bd h2 h3 (hW.2.2.1 _ h6) (hW.le _ h6)
    have e2 : sc V K W (k + 1) = sc V K W k + V k * W (K k).toNat := rfl
    omega
set_option maxHeartbeats 4000000 in
set_option maxRecDepth 100000 in
theorem rscore_any (va ka wa : Option Addr) (nv vc nk kc nm wc : Nat) (V K W : Nat → Int) (h1 : nv ≤ 140737488355328) (h2 : nk ≤ 140737488355328) (h3 : nm ≤ 140737488355328) (w : World) (hV : Si w va nv V) (hK : Si w ka nk K) (hW : Si w wa nm W) :
    Calls Try.prog 33 #[.slice va nv vc, .slice ka nk kc, .slice wa nm wc] w fun e w' => ScSays nv nk nm V K W e ∧ Below w.heap.size w w' := by
  have HV := Lib.hid hV; have HK := Lib.hid hK; have HW := Lib.hid hW
  have HR := Lib.hid (rright_any ((nm : Int) - 1) wa nm wc W w hW)
  clear hV hK hW
  go_enter Try.func33, Try.ntmps33
  go_wp2_with fail
  refine HR.out.mono ?_
  rintro e w1 ⟨⟨v, rfl, hv⟩, hB1⟩
  have HX := Lib.hid hv; have HB1 := Lib.hid hB1
  clear hv hB1 HR
  cases v
  · have HY := Lib.hid (show ¬ FitW nv nk nm V K W from fun h => absurd (HX.out.2 h.1) (by simp))
    go_wp2
    go_ret2
    exact ⟨Or.inr ⟨HY.out, rfl⟩, HB1.out⟩
  have HRW := Lib.hid (show RW ((nm : Int) - 1) nm W by first | exact HX.out.1 rfl | exact HX.out.1 trivial)
  clear HX
  by_cases e1 : nv = nk
  rotate_left
  · have HY := Lib.hid (show ¬ FitW nv nk nm V K W from fun h => e1 h.2.1)
    have i1 : ((nk : Int) != (nv : Int)) = true := by simp; omega
    clear e1
    go_wp2
    go_ret2
    exact ⟨Or.inr ⟨HY.out, rfl⟩, HB1.out⟩
  subst e1
  have i1 : ((nv : Int) != (nv : Int)) = false := by simp
  by_cases e2 : nv ≤ 8
  rotate_left
  · have HY := Lib.hid (show ¬ FitW nv nv nm V K W from fun h => e2 h.2.2.1)
    have i2 : decide ((8 : Int) < (nv : Int)) = true := by simp; omega
    have i3 : (8 : Int) < (nv : Int) := by omega
    clear e2
    go_wp2
    go_ret2
    exact ⟨Or.inr ⟨HY.out, rfl⟩, HB1.out⟩
  have i2 : decide ((8 : Int) < (nv : Int)) = false := by simp; omega
  have i3 : ¬ (8 : Int) < (nv : Int) := by omega
  have hm1 : 2 ≤ nm ∧ nm ≤ 256 := by have := HRW.out.1; omega
  have HM1 := Lib.hid hm1
  obtain ⟨T, hT⟩ : ∃ T : Nat, T = nm - 1 := ⟨_, rfl⟩
  have j1 : (nm : Int) - 1 = (T : Int) := by omega
  have HJ1 := Lib.hid j1; have HT := Lib.hid hT
  clear hm1 hT
  go_wp2_with fail
  clear i1 i2 i3
  go_loopw [9, 10] (fun s i wr => ∃ (k : Nat), k ≤ nv ∧ i = .int .i64 (k : Nat) ∧ s = .int .i64 (sc V K W k) ∧ (∀ j, j < k → Ok2 nm V K j) ∧ Below w1.heap.size w1 wr) (fun _ i _ => nv - (intOf i).toNat)
  case atStart => exact ⟨0, by omega, rfl, rfl, fun j hj => absurd hj (Nat.not_lt_zero j), Below.refl _ _⟩
  case round =>
    obtain ⟨k, hk, rfl, rfl, hall, hB⟩ := hrel
    have HALL := Lib.hid hall; have HB := Lib.hid hB
    clear hall hB
    by_cases hkn : k < nv
    · have i1 : (k : Int) < (nv : Int) := by omega
      obtain ⟨s0, s1⟩ := sc_bd2 HRW.out k HALL.out
      obtain ⟨b1, o1, ea1, c1⟩ := ((HV.out.same HB1.out).same HB.out).cell k hkn
      obtain ⟨b2, o2, ea2, c2⟩ := ((HK.out.same HB1.out).same HB.out).cell k hkn
      obtain ⟨v, hv⟩ : ∃ v, v = V k := ⟨_, rfl⟩
      obtain ⟨x, hx⟩ : ∃ x, x = K k := ⟨_, rfl⟩
      obtain ⟨s, hs⟩ : ∃ s, s = sc V K W k := ⟨_, rfl⟩
      rw [← hv] at c1
      rw [← hx] at c2
      rw [← hs] at s0 s1 ⊢
      have HVV := Lib.hid hv; have HXX := Lib.hid hx; have HSS := Lib.hid hs
      have EA1 := Lib.hid ea1; have EA2 := Lib.hid ea2
      subst ea1 ea2
      have d1 : ∀ q, (wr.drewN q).cell? ⟨b1, o1 + k, none⟩ = some (.int .i64 v) := fun q => c1
      have d2 : ∀ q, (wr.drewN q).cell? ⟨b2, o2 + k, none⟩ = some (.int .i64 x) := fun q => c2
      clear hv hx hs
      have hbad : (¬ (0 ≤ v ∧ v ≤ 1048576 ∧ 1 ≤ x ∧ x ≤ (T : Int))) → ¬ FitW nv nv nm V K W := fun q h => by
        have h6 := h.ok2 hkn
        unfold Ok2 at h6
        rw [← HVV.out, ← HXX.out, HJ1.out] at h6
        exact q h6
      have HBAD := Lib.hid hbad
      clear hbad
      by_cases hv0 : v < 0
      · have q1 : decide (v < 0) = true := by simp [hv0]
        have HX := Lib.hid (HBAD.out (by omega))
        clear hv0
        go_wp2
        go_ret2
        exact ⟨Or.inr ⟨HX.out, rfl⟩, HB1.out.trans (HB.out.mono HB1.out.size)⟩
      have q1 : decide (v < 0) = false := by simp; omega
      by_cases hv1 : 1048576 < v
      · have q2 : decide (1048576 < v) = true := by simp [hv1]
        have HX := Lib.hid (HBAD.out (by omega))
        clear hv0 hv1
        go_wp2
        go_ret2
        exact ⟨Or.inr ⟨HX.out, rfl⟩, HB1.out.trans (HB.out.mono HB1.out.size)⟩
      have q2 : decide (1048576 < v) = false := by simp; omega
      by_cases hx0 : x < 1
      · have q3 : decide (x < 1) = true := by simp; omega
        have HX := Lib.hid (HBAD.out (by omega))
        clear hv0 hv1 hx0
        go_wp2
        go_ret2
        exact ⟨Or.inr ⟨HX.out, rfl⟩, HB1.out.trans (HB.out.mono HB1.out.size)⟩
      have q3 : decide (x < 1) = false := by simp; omega
      by_cases hx1 : (T : Int) < x
      · have q4 : decide ((T : Int) < x) = true := by simp; omega
        have HX := Lib.hid (HBAD.out (by omega))
        clear hv0 hv1 hx0 hx1
        go_wp2
        go_ret2
        exact ⟨Or.inr ⟨HX.out, rfl⟩, HB1.out.trans (HB.out.mono HB1.out.size)⟩
      have q4 : decide ((T : Int) < x) = false := by simp; omega
      obtain ⟨kk, hkk⟩ : ∃ kk : Nat, x = (kk : Nat) := ⟨x.toNat, by omega⟩
      have hkm : kk < nm := by have := HT.out; have := HM1.out; omega
      have HOK := Lib.hid (show Ok2 nm V K k from by
        unfold Ok2
        rw [← HVV.out, ← HXX.out, HJ1.out]; omega)
      have HSC := Lib.hid (show sc V K W (k + 1) = s + v * W kk by show sc V K W k + V k * W (K k).toNat = _; rw [← HXX.out, ← HVV.out, ← HSS.out, hkk, Int.toNat_natCast])
      have hp := prod_bd (v := v) (by omega) (by omega) (HRW.out.2.2.1 _ hkm) (HRW.out.le _ hkm)
      obtain ⟨b3, o3, ea3, c3⟩ := ((HW.out.same HB1.out).same HB.out).cell kk hkm
      obtain ⟨y, hy⟩ : ∃ y, y = W kk := ⟨_, rfl⟩
      rw [← hy] at c3 hp HSC
      obtain ⟨p, hpe⟩ : ∃ p, v * y = p := ⟨_, rfl⟩
      rw [hpe] at hp HSC
      obtain ⟨p0, p1⟩ := hp
      have EA3 := Lib.hid ea3
      subst ea3
      have d3 : ∀ q, (wr.drewN q).cell? ⟨b3, o3 + kk, none⟩ = some (.int .i64 y) := fun q => c3
      have i2 : (kk : Int) < (nm : Int) := by omega
      clear hy
      subst hkk
      clear hv0 hv1 hx0 hx1
      go_wp2_with fail
      go_quiet (fail)
      go_wp2
      go_roundw
      case rel => exact ⟨k + 1, by omega, by go_num, by rw [HSC.out], fun j hj => by
        by_cases e : j = k
        · rw [e]; exact HOK.out
        · exact HALL.out j (by omega), below_dr HB.out _⟩
      case measure => simp [intOf]; omega
    · obtain rfl : k = nv := by omega
      have i1 : ¬ (k : Int) < (k : Int) := by omega
      go_wp2
      go_ret2
      exact ⟨Or.inl ⟨fitW_of HRW.out e2 HALL.out, rfl⟩, HB1.out.trans (HB.out.mono HB1.out.size)⟩
end Go.Proofs.Ythkcacnlinajgaa.Wg

namespace Go.Proofs.Ythkcacnlinajgaa.Wg
open Go.RowKit Go.Shelf
attribute [local go_sem] Oper.semAt_some

def SmI (n m : Nat) (K L : Nat → Int) : Prop := n = m ∧ ∀ j, j < n → K j = L j
set_option maxHeartbeats 2000000 in
/-- lists of numbers that are the same, or not. -/
theorem sameInts_any (a b : Option Addr) (n c m d : Nat) (K L : Nat → Int) (hn : n ≤ 140737488355328) (hm : m ≤ 140737488355328) (w : World) (hK : Si w a n K) (hL : Si w b m L) :
    Calls Try.prog 14 #[.slice a n c, .slice b m d] w fun e w' => BoSays (SmI n m K L) e ∧ Below w.heap.size w w' := by
  have HK := Lib.hid hK; have HL := Lib.hid hL
  clear hK hL
  go_enter Try.func14, Try.ntmps14
  by_cases hnm : n = m
  rotate_left
  · have i1 : ((n : Int) != (m : Int)) = true := by simp; omega
    have HX := Lib.hid (show ¬ SmI n m K L from fun h => hnm h.1)
    clear hnm
    go_wp2
    go_ret
    exact ⟨BoSays.no HX.out, Below.refl _ _⟩
  subst hnm
  have i1 : ((n : Int) != (n : Int)) = false := by simp
  go_wp2_with fail
  clear i1
  go_loopw [5] (fun i wr => ∃ (k : Nat), k ≤ n ∧ i = .int .i64 (k : Nat) ∧ (∀ j, j < k → K j = L j) ∧ Below w.heap.size w wr) (fun i _ => n - (intOf i).toNat)
  case atStart => exact ⟨0, by omega, rfl, fun j hj => absurd hj (Nat.not_lt_zero j), Below.refl _ _⟩
  case round =>
    obtain ⟨k, hk, rfl, hall, hB⟩ := hrel
    have HALL := Lib.hid hall; have HB := Lib.hid hB
    clear hall hB
    by_cases hkn : k < n
    · have i1 : (k : Int) < (n : Int) := by omega
      obtain ⟨b1, o1, ea1, c1⟩ := (HK.out.same HB.out).cell k hkn
      obtain ⟨b2, o2, ea2, c2⟩ := (HL.out.same HB.out).cell k hkn
      obtain ⟨x, hx⟩ : ∃ x, x = K k := ⟨_, rfl⟩
      obtain ⟨y, hy⟩ : ∃ y, y = L k := ⟨_, rfl⟩
      rw [← hx] at c1
      rw [← hy] at c2
      have HXX := Lib.hid hx; have HYY := Lib.hid hy
      have EA1 := Lib.hid ea1; have EA2 := Lib.hid ea2
      subst ea1 ea2
      have d1 : ∀ q, (wr.drewN q).cell? ⟨b1, o1 + k, none⟩ = some (.int .i64 x) := fun q => c1
      have d2 : ∀ q, (wr.drewN q).cell? ⟨b2, o2 + k, none⟩ = some (.int .i64 y) := fun q => c2
      clear hx hy
      by_cases hxy : x = y
      · have q1 : (x != y) = false := by simp [hxy]
        have HOK := Lib.hid (show K k = L k by rw [← HXX.out, ← HYY.out, hxy])
        clear hxy
        go_wp2_with fail
        go_quiet (fail)
        go_wp2
        go_roundw
        case rel => exact ⟨k + 1, by omega, by go_num, fun j hj => by
          by_cases e : j = k
          · rw [e]; exact HOK.out
          · exact HALL.out j (by omega), below_dr HB.out _⟩
        case measure => simp [intOf]; omega
      · have q1 : (x != y) = true := by simp [hxy]
        have HX := Lib.hid (show ¬ SmI n n K L from fun h => hxy (by rw [HXX.out, HYY.out]; exact h.2 k hkn))
        clear hxy
        go_wp2_with fail
        go_quiet (fail)
        go_wp2
        go_ret
        exact ⟨BoSays.no HX.out, below_dr HB.out _⟩
    · obtain rfl : k = n := by omega
      have i1 : ¬ (k : Int) < (k : Int) := by omega
      go_wp2
      go_ret
      exact ⟨BoSays.yes ⟨rfl, HALL.out⟩, HB.out⟩
end Go.Proofs.Ythkcacnlinajgaa.Wg

namespace Go.Proofs.Ythkcacnlinajgaa.Wg
open Go.RowKit Go.Shelf
attribute [local go_sem] Oper.semAt_some

theorem hmkI (N : Nat) (hN : N ≤ 1000000000) : ∀ W : World, (Instr.makeSlice 24 (.int .i64 (N : Nat)) (.int .i64 (N : Nat))).run Try.prog W = .ok (.slice (some ⟨W.heap.size, 0, none⟩) N N) (W.alloc (.cells (madeCells #[.int .i64 0] N) 3)) := fun W => by
  obtain ⟨i0, hi, hz0, hz1, hz2⟩ := info_parts Try.infoInt2
  have := run_make (P := Try.prog) W 24 3 i0 (.int .i64 0) Try.underlying24 hi hz0 .i64 .i64 (N : Int) (N : Int) (by omega) (Int.le_refl _) (by rw [hz2]; omega) (by omega)
  have e : (Value.int .i64 0).cells = #[.int .i64 0] := rfl
  rw [hz1, e, Int.toNat_natCast, Nat.mul_one] at this; exact this
/-- a block of c numbers, the first k of which are 65536. -/
def Rp (w : World) (g c k : Nat) : Prop := ∃ vs : Array Value, w.heap[g]? = some (.cells vs 3 (0, 0)) ∧ vs.size = c ∧ ∀ i, i < k → vs[i]? = some (.int .i64 65536)
section
variable {w w' : World} {g c k : Nat}
theorem Rp.lt (h : Rp w g c k) : g < w.heap.size := by
  obtain ⟨vs, h1, _⟩ := h
  exact (Array.getElem?_eq_some_iff.1 h1).1
theorem Rp.same (h : Rp w g c k) (hB : Below w.heap.size w w') : Rp w' g c k := by
  obtain ⟨vs, h1, h2⟩ := h
  exact ⟨vs, (hB.block g (Array.getElem?_eq_some_iff.1 h1).1).trans h1, h2⟩
theorem Rp.cell (h : Rp w g c k) {i : Nat} (hi : i < k) : w.cell? ⟨g, i, none⟩ = some (.int .i64 65536) := by
  obtain ⟨vs, h1, h2, h3⟩ := h
  rw [cell_of_row w g i vs _ _ h1]; exact h3 i hi
end
theorem rp_made (W : World) (N : Nat) : Rp (W.alloc (.cells (madeCells #[.int .i64 0] N) 3)) W.heap.size N 0 :=
  ⟨_, heap_alloc_new W _, size_madeCells _ _, fun i hi => absurd hi (Nat.not_lt_zero i)⟩
theorem Try.sizeIntOne : (Try.prog.info? 3).map (·.size) = some 1 := by kernel_rfl
theorem run_copy_rp (w : World) (ty : TypeId) (g c k m dLen dCap sLen sCap : Nat) (ad : Addr) (hm : m = Nat.min sLen dLen) (h : Rp w g c k) (hs : ∀ j, j < m → w.cell? (ad.add j) = some (.int .i64 65536)) (hfit : k + m ≤ c) :
    ∃ w', (Builtin.copy_ #[24, 24] ty #[.slice (some ⟨g, k, none⟩) dLen dCap, .slice (some ad) sLen sCap]).run Try.prog w = .ok (.int .i64 (m : Nat)) w' ∧ Rp w' g c (k + m) ∧ w.grownBy w' (some g) := by
  obtain ⟨vs, h1, h2, h3⟩ := h
  have hl : (List.replicate m (Value.int .i64 65536)).length = m := List.length_replicate
  have hrun := run_copy_row (P := Try.prog) w 24 24 ty 3 g k dLen dCap ad sLen sCap vs 3 (List.replicate m (Value.int .i64 65536)) Try.underlying24 Try.sizeIntOne h1 (by rw [hl]; exact hm) (fun j v hj => by
    have hjm := (List.getElem?_eq_some_iff.1 hj).1
    rw [hl] at hjm
    rw [List.getElem?_replicate, if_pos hjm] at hj
    rw [← hj]; exact hs j hjm) (by rw [hl, h2]; exact hfit) (fun v hv => by rw [List.eq_of_mem_replicate hv]; rfl)
  rw [hl] at hrun
  refine ⟨_, hrun, ⟨_, setRow_heap w g _ _ _ _ h1, ?_, fun i hi => ?_⟩, ⟨rfl, rfl, rfl, by simp [World.setRow], fun j _ hne => setRow_other w g j _ (fun e => hne (by rw [e]))⟩⟩
  · simp; omega
  · rw [List.getElem?_toArray]
    simp only [List.append_assoc]
    by_cases e : i < k
    · rw [List.getElem?_append_left (by simp; omega), List.getElem?_take, if_pos e, Array.getElem?_toList]
      exact h3 i e
    · rw [List.getElem?_append_right (by simp; omega)]
      have e1 : (List.take k vs.toList).length = k := by simp; omega
      rw [e1, List.getElem?_append_left (by rw [hl]; omega), List.getElem?_replicate, if_pos (by omega)]

theorem mask32 (c : Nat) (h : c < 4294967296) : bits .and .u64 (c : Int) 4294967295 = (c : Int) := by
  have := u64_and_nat c 4294967295 (by omega) (by omega)
  rw [show ((4294967295 : Nat) : Int) = 4294967295 from rfl] at this
  rw [this, show (4294967295 : Nat) = 2 ^ 32 - 1 from rfl, Nat.and_two_pow_sub_one_eq_mod]
  congr 1; omega
set_option maxHeartbeats 1000000 in
theorem mul64_one (c : Nat) (hc : c ≤ 1000) (w : World) :
    Calls Try.prog 106 #[.int .u64 1, .int .u64 (c : Nat)] w fun e w' => e = .returned (.tuple #[.int .u64 0, .int .u64 (c : Nat)]) ∧ w' = w := by
  have m0 : bits .and .u64 0 4294967295 = 0 := mask32 0 (by omega)
  have m1 : bits .and .u64 1 4294967295 = 1 := mask32 1 (by omega)
  have m2 := mask32 c (by omega)
  have m3 : (c : Int) / 4294967296 = 0 := by omega
  go_enter Try.func106, Try.ntmps106
  go_wp2
  go_ret2
  exact ⟨rfl, rfl⟩
set_option maxHeartbeats 1000000 in
theorem mul_one_ (c : Nat) (hc : c ≤ 1000) (w : World) :
    Calls Try.prog 82 #[.int .u64 1, .int .u64 (c : Nat)] w fun e w' => e = .returned (.tuple #[.int .u64 0, .int .u64 (c : Nat)]) ∧ w' = w := by
  go_enter Try.func82, Try.ntmps82
  go_wp2_with fail
  refine (mul64_one c hc _).mono ?_
  rintro e w1 ⟨rfl, rfl⟩
  go_wp2
  go_ret2
  exact ⟨rfl, rfl⟩
/-- a row of 65536 alone, in a block of its own. -/
def RpSays (w : World) (c : Nat) (e : Ending) (w' : World) : Prop := ∃ g, w.heap.size ≤ g ∧ e = .returned (.slice (some ⟨g, 0, none⟩) c c) ∧ Rp w' g c c ∧ Below w.heap.size w w'
set_option maxHeartbeats 4000000 in
set_option maxRecDepth 100000 in
theorem repeat_any (x c : Nat) (hc : c ≤ 1000) (h1 : 1 ≤ c) (w : World) (hx : Rp w x 1 1) :
    Calls Try.prog 49 #[.slice (some ⟨x, 0, none⟩) 1 1, .int .i64 (c : Nat)] w (RpSays w c) := by
  have hmk := hmkI c (by omega)
  have HX := Lib.hid hx; clear hx
  have hb1 : Below w.heap.size w (w.alloc (.cells (madeCells #[.int .i64 0] c) 3)) := (Below.refl _ w).alloc (Nat.le_refl _) _
  obtain ⟨w2, hrun, hr2, hg2⟩ := run_copy_rp (w.alloc (.cells (madeCells #[.int .i64 0] c) 3)) 3 w.heap.size c 0 1 c c 1 1 ⟨x, 0, none⟩ (show 1 = min 1 c by omega) (rp_made w c) (fun j hj => by
    obtain rfl : j = 0 := by omega
    rw [Addr.add_lit]; exact (HX.out.same hb1).cell (by omega)) (by omega)
  have HR2 := Lib.hid hr2; have HB2 := Lib.hid (hb1.grown hg2 hb1.size (fun g e => by cases e; exact Nat.le_refl _))
  clear hb1 hr2 hg2
  have i1 : ¬ (c : Int) < 0 := by omega
  have i3 : ¬ (9223372036854775807 : Int) < (c : Int) := by omega
  go_enter Try.func49, Try.ntmps49
  go_wp2_with fail
  refine (mul_one_ c hc _).mono ?_
  rintro e w1 ⟨rfl, rfl⟩
  go_wp2_with fail
  clear hrun hmk
  obtain ⟨g, hg⟩ : ∃ g, g = w1.heap.size := ⟨_, rfl⟩
  rw [← hg] at HR2 ⊢
  have HG := Lib.hid hg
  clear hg i1 i3
  go_loopw [8] (fun n wr => ∃ k : Nat, 1 ≤ k ∧ k ≤ c ∧ n = .int .i64 (k : Nat) ∧ Rp wr g c k ∧ Below w1.heap.size w1 wr) (fun n _ => c - (intOf n).toNat)
  case atStart => exact ⟨1, by omega, by omega, rfl, HR2.out, HB2.out⟩
  case round =>
    obtain ⟨k, hk1, hk, rfl, hr, hB⟩ := hrel
    have HR := Lib.hid hr; have HB := Lib.hid hB
    clear hr hB
    by_cases hkc : k < c
    · have i1 : (k : Int) < (c : Int) := by omega
      have i2 : ¬ c = k := by omega
      have i3 : (k : Int) ≤ (c : Int) := by omega
      obtain ⟨m, hm⟩ : ∃ m, m = min k (c - k) := ⟨_, rfl⟩
      have hm1 : 1 ≤ m := by omega
      have hmk2 : k + m ≤ c := by omega
      obtain ⟨w3, hw3⟩ : ∃ w3, w3 = wr.drew := ⟨_, rfl⟩
      have hr3 : Rp w3 g c k := by rw [hw3]; exact HR.out
      obtain ⟨w4, hrun, hr4, hg4⟩ := run_copy_rp w3 3 g c k m (c - k) (c - k) k c ⟨g, 0, none⟩ hm hr3 (fun j hj => by rw [Addr.add_lit, Nat.zero_add]; exact hr3.cell (by omega)) hmk2
      have HR4 := Lib.hid hr4
      have hb3 : Below w1.heap.size w1 w3 := by rw [hw3]; exact HB.out.drew
      have HB4 := Lib.hid (hb3.grown hg4 hb3.size (fun j e => by cases e; rw [HG.out]; exact Nat.le_refl _))
      have HW3 := Lib.hid hw3
      have HM := Lib.hid hm
      clear hr3 hr4 hg4 hb3 hw3 hm
      go_wp2_with fail
      rw [HW3.out] at hrun
      go_region
      go_wp2
      go_roundw
      case rel => exact ⟨k + m, by omega, by omega, by go_num, HR4.out, HB4.out⟩
      case measure => simp [intOf]; omega
    · obtain rfl : k = c := by omega
      have i1 : ¬ (k : Int) < (k : Int) := by omega
      go_wp2
      go_ret
      exact ⟨g, by rw [HG.out]; exact Nat.le_refl _, rfl, HR.out, HB.out⟩
end Go.Proofs.Ythkcacnlinajgaa.Wg

namespace Go.Proofs.Ythkcacnlinajgaa.Wg
open Go.RowKit Go.Shelf
attribute [local go_sem] Oper.semAt_some

theorem own_slice {w : World} {B s n : Nat} {e : TypeId} {v : Value} {xs : List Value} (h : w.ownsRow B e s v n xs) : ∃ a c, v = .slice a n c := by
  rcases h.2 with ⟨q, h0⟩ | ⟨g, c1, cur, q, _⟩
  · exact ⟨none, 0, by rw [q, h0]⟩
  · exact ⟨_, c1, q⟩
theorem own_below {w w' : World} {B s n : Nat} {e : TypeId} {v : Value} {xs : List Value} (h : w.ownsRow B e s v n xs) (hB : Below w.heap.size w w') : w'.ownsRow B e s v n xs :=
  h.kept (⟨hB.os, hB.tape, hB.output, hB.size, fun k hk _ => hB.block k hk⟩ : w.grownBy w' none) (by cases v.ownBlock <;> simp)
theorem hi_own {w : World} {B n c : Nat} {a : Option Addr} {h : Nat → Int} (ho : w.ownsRow B 3 1 (.slice a n c) n (inh h n)) : Hi w a n c h := by
  obtain ⟨hlen, ⟨e, h0⟩ | ⟨g, cap', cur, e, hg, hh, hnc, hcm, hs, ht⟩⟩ := id ho
  · simp only [Value.slice.injEq] at e
    obtain ⟨rfl, _, rfl⟩ := e
    exact ⟨by omega, by unfold maxLen; omega, fun _ => ⟨by omega, rfl⟩, fun _ e => (by cases e), fun _ e => (by cases e)⟩
  · simp only [Value.slice.injEq, true_and] at e
    obtain ⟨rfl, rfl⟩ := e
    refine ⟨hnc, hcm, fun e => (by cases e), fun ad e _ => (by cases e; rfl), fun ad e i hi => ?_⟩
    cases e
    obtain ⟨b, o, e2, hc⟩ := (inh_si ho).cell i hi
    cases e2
    exact hc
/-- what the even weights are told as. -/
def EvSays (n : Int) (w : World) (e : Ending) (w' : World) : Prop := (¬ (1 ≤ n ∧ n ≤ 255) ∧ e = .returned (.tuple #[.slice none 0 0, .int .i64 2]) ∧ Below w.heap.size w w') ∨ ∃ (N : Nat) (a : Option Addr) (c : Nat), n = N ∧ (1 ≤ N ∧ N ≤ 255) ∧ e = .returned (.tuple #[.slice a (N + 1) c, .int .i64 0]) ∧ Hi w' a (N + 1) c (fun _ => 65536) ∧ Below w.heap.size w w'
set_option maxHeartbeats 4000000 in
set_option maxRecDepth 100000 in
theorem even_any (n : Int) (w : World) :
    Calls Try.prog 24 #[.int .i64 n] w (EvSays n w) := by
  go_enter Try.func24, Try.ntmps24
  by_cases hn : 1 ≤ n ∧ n ≤ 255
  rotate_left
  · have HN := Lib.hid hn
    go_wp2_with fail
    refine (many_no hn _).mono ?_
    rintro e w1 ⟨rfl, rfl⟩
    clear hn
    go_wp2
    go_ret2
    exact Or.inl ⟨HN.out, rfl, Below.refl _ _⟩
  go_wp2_with fail
  refine (many_yes hn _).mono ?_
  rintro e w1 ⟨rfl, rfl⟩
  obtain ⟨N, rfl⟩ : ∃ N : Nat, n = N := ⟨n.toNat, by omega⟩
  have HN := Lib.hid (show 1 ≤ N ∧ N ≤ 255 by omega)
  have hb1 : Below w1.heap.size w1 (w1.alloc (.cells #[.int .i64 65536] 3)) := (Below.refl _ w1).alloc (Nat.le_refl _) _
  have HB1 := Lib.hid hb1
  have HRP := Lib.hid (show Rp (w1.alloc (.cells #[.int .i64 65536] 3)) w1.heap.size 1 1 from ⟨_, heap_alloc_new _ _, rfl, fun i hi => by
    obtain rfl : i = 0 := by omega
    rfl⟩)
  obtain ⟨T, hT⟩ : ∃ T : Nat, T = N + 1 := ⟨_, rfl⟩
  have HRE := Lib.hid (repeat_any w1.heap.size T (by omega) (by omega) _ HRP.out)
  have i1 : (N : Int) + 1 = (T : Int) := by omega
  have i2 : T ≤ 256 := by omega
  have HT := Lib.hid hT
  clear hn hb1 hT
  go_wp2_with fail
  refine HRE.out.mono ?_
  rintro e w2 ⟨g, hg, rfl, hr, hB2⟩
  have HR := Lib.hid hr; have HB2 := Lib.hid (HB1.out.trans (hB2.mono HB1.out.size))
  clear hr hB2 HRE hg i1
  go_wp2
  go_ret2
  have e1 := HT.out
  subst e1
  refine Or.inr ⟨N, _, _, rfl, HN.out, rfl, ⟨Nat.le_refl _, by have := HN.out; unfold maxLen; omega, fun e => (by cases e), fun ad e _ => (by cases e; rfl), fun ad e i hi => ?_⟩, HB2.out⟩
  cases e
  rw [Nat.zero_add]; exact HR.out.cell hi

end Go.Proofs.Ythkcacnlinajgaa.Wg

namespace Go.Proofs.Ythkcacnlinajgaa.Wg
open Go.RowKit Go.Shelf
attribute [local go_sem] Oper.semAt_some

theorem threeB (w : World) (a b c : Obj) : (((w.alloc a).alloc b).alloc c).heap[w.heap.size]? = some a ∧ (((w.alloc a).alloc b).alloc c).heap[w.heap.size + 1]? = some b ∧ (((w.alloc a).alloc b).alloc c).heap[w.heap.size + 1 + 1]? = some c ∧ Below w.heap.size w (((w.alloc a).alloc b).alloc c) := by
  have b1 : ∀ (v : World) (o : Obj), Below v.heap.size v (v.alloc o) := fun v o => (Below.refl _ v).alloc (Nat.le_refl _) o
  have z : ∀ (v : World) (o : Obj), (v.alloc o).heap.size = v.heap.size + 1 := fun v o => World.size_alloc _ _
  have n : ∀ (v : World) (o : Obj), (v.alloc o).heap[v.heap.size]? = some o := fun v o => heap_alloc_new v o
  refine ⟨?_, ?_, ?_, ?_⟩
  · rw [(b1 ((w.alloc a).alloc b) c).block _ (by rw [z, z]; omega), (b1 (w.alloc a) b).block _ (by rw [z]; omega)]; exact n _ _
  · rw [(b1 ((w.alloc a).alloc b) c).block _ (by rw [z, z]; omega)]
    have := n (w.alloc a) b; rwa [z] at this
  · have := n ((w.alloc a).alloc b) c; rwa [z, z] at this
  · exact ((b1 _ _).trans ((b1 _ _).mono (by rw [z]; omega))).trans ((b1 _ _).mono (by rw [z, z]; omega))
theorem fourB (w : World) (a b c d : Obj) : ((((w.alloc a).alloc b).alloc c).alloc d).heap[w.heap.size]? = some a ∧ ((((w.alloc a).alloc b).alloc c).alloc d).heap[w.heap.size + 1]? = some b ∧ ((((w.alloc a).alloc b).alloc c).alloc d).heap[w.heap.size + 1 + 1]? = some c ∧ ((((w.alloc a).alloc b).alloc c).alloc d).heap[w.heap.size + 1 + 1 + 1]? = some d ∧ Below w.heap.size w ((((w.alloc a).alloc b).alloc c).alloc d) := by
  have b1 : ∀ (v : World) (o : Obj), Below v.heap.size v (v.alloc o) := fun v o => (Below.refl _ v).alloc (Nat.le_refl _) o
  have z : ∀ (v : World) (o : Obj), (v.alloc o).heap.size = v.heap.size + 1 := fun v o => World.size_alloc _ _
  have n : ∀ (v : World) (o : Obj), (v.alloc o).heap[v.heap.size]? = some o := fun v o => heap_alloc_new v o
  obtain ⟨h1, h2, h3, h4⟩ := threeB w a b c
  have hb := b1 (((w.alloc a).alloc b).alloc c) d
  refine ⟨(hb.block _ (by rw [z, z, z]; omega)).trans h1, (hb.block _ (by rw [z, z, z]; omega)).trans h2, (hb.block _ (by rw [z, z, z]; omega)).trans h3, ?_, h4.trans (hb.mono (by rw [z, z, z]; omega))⟩
  have := n (((w.alloc a).alloc b).alloc c) d; rwa [z, z, z] at this
theorem twoB (w : World) (a b : Obj) : ((w.alloc a).alloc b).heap[w.heap.size]? = some a ∧ ((w.alloc a).alloc b).heap[w.heap.size + 1]? = some b ∧ Below w.heap.size w ((w.alloc a).alloc b) := by
  have b1 : ∀ (v : World) (o : Obj), Below v.heap.size v (v.alloc o) := fun v o => (Below.refl _ v).alloc (Nat.le_refl _) o
  have z : ∀ (v : World) (o : Obj), (v.alloc o).heap.size = v.heap.size + 1 := fun v o => World.size_alloc _ _
  have n : ∀ (v : World) (o : Obj), (v.alloc o).heap[v.heap.size]? = some o := fun v o => heap_alloc_new v o
  refine ⟨?_, ?_, ?_⟩
  · rw [(b1 (w.alloc a) b).block _ (by rw [z]; omega)]; exact n _ _
  · have := n (w.alloc a) b; rwa [z] at this
  · exact (b1 _ _).trans ((b1 _ _).mono (by rw [z]; omega))
theorem hi_lit2 (w : World) (x : Nat) (vs : List Int) (n : Nat) (hn : n ≤ vs.length) (hl : vs.length ≤ 1000) (hx : w.heap[x]? = some (.cells (vs.map (Value.int .i64)).toArray 3 (0, 0))) : Hi w (some ⟨x, 0, none⟩) n vs.length (fun i => vs.getD i 0) := by
  refine ⟨hn, by unfold maxLen; omega, fun e => (by cases e), fun ad e _ => (by cases e; rfl), fun ad e i hi => ?_⟩
  cases e
  show World.cell? _ ⟨_, 0 + i, none⟩ = _
  rw [Nat.zero_add, cell_of_row _ _ i _ _ _ hx]
  simp [show i < vs.length by omega]
theorem hi_nine {w : World} {x : Nat} (hx : w.heap[x]? = some (.cells (madeCells #[.int .i64 0] 9) 3 (0, 0))) : Hi w (some ⟨x, 0, none⟩) 9 9 (fun _ => 0) := by
  refine ⟨Nat.le_refl _, by unfold maxLen; omega, fun e => (by cases e), fun ad e _ => (by cases e; rfl), fun ad e i hi => ?_⟩
  cases e
  show World.cell? _ ⟨_, 0 + i, none⟩ = _
  rw [Nat.zero_add, cell_of_row _ _ i _ _ _ hx]
  simp [madeCells, hi, show i % 1 = 0 by omega]
theorem hi_none {w : World} : Hi w none 0 0 (fun _ => 0) := ⟨Nat.le_refl _, Nat.zero_le _, fun _ => ⟨rfl, rfl⟩, fun _ e => (by cases e), fun _ e => (by cases e)⟩
theorem aw_fit : FitW 2 2 3 (fun i => [3, 5].getD i 0) (fun i => [1, 2].getD i 0) (fun i => [4, 4, 2].getD i 0) :=
  ⟨⟨by decide, by decide, by decide, fun i hi => by
    rcases i with _ | _ | _ | i
    · decide
    · decide
    · decide
    · omega⟩, rfl, by decide, by decide, by decide, by decide, by decide⟩
theorem aw_sc : sc (fun i => [3, 5].getD i 0) (fun i => [1, 2].getD i 0) (fun i => [4, 4, 2].getD i 0) 2 = 22 := by decide +kernel
end Go.Proofs.Ythkcacnlinajgaa.Wg

namespace Go.Proofs.Ythkcacnlinajgaa.Wg
open Go.RowKit Go.Shelf
attribute [local go_sem] Oper.semAt_some

theorem ahd_asymm {n : Nat} {K L : Nat → Int} : Ahd n K L → Ahd n L K → False := by
  rintro ⟨p, h1, h2, h3⟩ ⟨q, h4, h5, h6⟩
  by_cases e1 : p < q
  · have := h5 p e1; omega
  · by_cases e2 : q < p
    · have := h2 q e2; omega
    · obtain rfl : p = q := by omega
      omega
theorem Ahd.up {n : Nat} {K L : Nat → Int} : Ahd n K L → Ahd (n + 1) K L := by
  rintro ⟨p, h1, h2⟩
  exact ⟨p, by omega, h2⟩
theorem ahd_total (K L : Nat → Int) : ∀ n, (∀ j, j < n → K j = L j) ∨ Ahd n K L ∨ Ahd n L K
  | 0 => Or.inl fun j hj => absurd hj (Nat.not_lt_zero j)
  | n + 1 => by
    rcases ahd_total K L n with h | h | h
    · by_cases e1 : K n < L n
      · exact Or.inr (Or.inl ⟨n, by omega, h, e1⟩)
      · by_cases e2 : L n < K n
        · exact Or.inr (Or.inr ⟨n, by omega, fun j hj => (h j hj).symm, e2⟩)
        · refine Or.inl fun j hj => ?_
          by_cases e : j = n
          · rw [e]; omega
          · exact h j (by omega)
    · exact Or.inr (Or.inl h.up)
    · exact Or.inr (Or.inr h.up)
theorem ahd_trans {n : Nat} {K L M : Nat → Int} : Ahd n K L → Ahd n L M → Ahd n K M := by
  rintro ⟨p, h1, h2, h3⟩ ⟨q, h4, h5, h6⟩
  by_cases e1 : p < q
  · exact ⟨p, h1, fun j hj => (h2 j hj).trans (h5 j (by omega)), by have := h5 p e1; omega⟩
  · by_cases e2 : q < p
    · exact ⟨q, h4, fun j hj => (h2 j (by omega)).trans (h5 j hj), by have := h2 q e2; omega⟩
    · obtain rfl : p = q := by omega
      exact ⟨p, h1, fun j hj => (h2 j hj).trans (h5 j hj), by omega⟩
theorem sc_congr {V K L W : Nat → Int} : ∀ n, (∀ j, j < n → K j = L j) → sc V K W n = sc V L W n
  | 0, _ => rfl
  | n + 1, h => by
    show sc V K W n + V n * W (K n).toNat = sc V L W n + V n * W (L n).toNat
    rw [sc_congr n (fun j hj => h j (by omega)), h n (by omega)]
theorem btr_asymm {n : Nat} {V K O W : Nat → Int} : Btr n V K O W → Btr n V O K W → False := by
  rintro (h1 | ⟨h1, h2⟩) (h3 | ⟨h3, h4⟩)
  · omega
  · omega
  · omega
  · exact ahd_asymm h2 h4
theorem btr_total {n : Nat} {V K O W : Nat → Int} (h : ¬ ∀ j, j < n → K j = O j) : Btr n V K O W ∨ Btr n V O K W := by
  by_cases e1 : sc V O W n < sc V K W n
  · exact Or.inl (Or.inl e1)
  · by_cases e2 : sc V K W n < sc V O W n
    · exact Or.inr (Or.inl e2)
    · have e3 : sc V K W n = sc V O W n := by omega
      rcases ahd_total K O n with h1 | h1 | h1
      · exact absurd h1 h
      · exact Or.inl (Or.inr ⟨e3, h1⟩)
      · exact Or.inr (Or.inr ⟨e3.symm, h1⟩)
theorem btr_irr {n : Nat} {V K O W : Nat → Int} (h : ∀ j, j < n → K j = O j) : ¬ Btr n V K O W := by
  rintro (h1 | ⟨_, p, h1, h2, h3⟩)
  · have := sc_congr (V := V) (W := W) n h; omega
  · have := h p h1; omega
theorem btr_trans {n : Nat} {V K O M W : Nat → Int} : Btr n V K O W → Btr n V O M W → Btr n V K M W := by
  rintro (h1 | ⟨h1, h2⟩) (h3 | ⟨h3, h4⟩)
  · exact Or.inl (by omega)
  · exact Or.inl (by omega)
  · exact Or.inl (by omega)
  · exact Or.inr ⟨by omega, ahd_trans h2 h4⟩

end Go.Proofs.Ythkcacnlinajgaa.Wg

namespace Go.Proofs.Ythkcacnlinajgaa.Ai
open Go.RowKit Go.Shelf

/-- so many coefficients, as values. -/
def rowv (f : Nat → Int) (n : Nat) : List Value := (List.range n).map fun i => Value.int .i64 (f i)
theorem rowv_succ (f : Nat → Int) (n : Nat) : rowv f (n + 1) = rowv f n ++ [.int .i64 (f n)] := by unfold rowv; rw [List.range_succ, List.map_append]; rfl
theorem rowv_len (f : Nat → Int) (n : Nat) : (rowv f n).length = n := by simp [rowv]
theorem rowv_get {f : Nat → Int} {n i : Nat} (h : i < n) : (rowv f n)[i]? = some (.int .i64 (f i)) := by simp [rowv, h]
theorem rowv_take {f : Nat → Int} {n m : Nat} : (rowv f (n + m)).take n = rowv f n := by
  unfold rowv
  rw [← List.map_take, List.take_range, Nat.min_eq_left (Nat.le_add_right n m)]
theorem rowv_congr {f g : Nat → Int} {n : Nat} (h : ∀ i, i < n → f i = g i) : rowv f n = rowv g n := by
  unfold rowv
  exact List.map_congr_left fun i hi => by rw [h i (List.mem_range.1 hi)]
theorem rowv_set (f : Nat → Int) (n j : Nat) (v : Int) : (rowv f n).set j (.int .i64 (v)) = rowv (fun i => if i = j then v else f i) n := by
  apply List.ext_getElem?
  intro i
  rw [List.getElem?_set]
  by_cases hi : i < n
  · rw [rowv_get hi, rowv_get hi, rowv_len]
    by_cases e : j = i
    · subst e; rw [if_pos rfl, if_pos hi]; simp
    · rw [if_neg e]
      show _ = some (Value.int .i64 (if i = j then v else f i))
      rw [if_neg (fun h => e h.symm)]
  · rw [List.getElem?_eq_none (by rw [rowv_len]; omega), List.getElem?_eq_none (by rw [rowv_len]; omega), rowv_len]
    by_cases e : j = i
    · subst e; rw [if_pos rfl, if_neg hi]
    · rw [if_neg e]
theorem rowv_ones (f : Nat → Int) (n : Nat) : ∀ u ∈ rowv f n, u.oneCell' = true := by
  intro u hu
  obtain ⟨i, _, rfl⟩ := List.mem_map.1 hu
  rfl

end Go.Proofs.Ythkcacnlinajgaa.Ai

namespace Go.Proofs.Ythkcacnlinajgaa.Ai
open Go.RowKit Go.Shelf

/-- the mark. -/
def mkN (k i : Nat) : Int := 1000003 * ((k : Int) + 7) + (i : Int)
theorem markN_any (k i : Nat) (x y : Int) (hx : x = (k : Int)) (hy : y = (i : Int)) (hk : k ≤ 1000000) (hi : i ≤ 1000000000000) (w : World) :
    Calls Try.prog 25 #[.int .i64 x, .int .i64 y] w fun e w' => e = .returned (.int .i64 (mkN k i)) ∧ w' = w := by
  subst hx hy
  exact mark_any k i (by omega) (by omega) (by omega) (by omega) w

/-- the block that a slice lies in. -/
def blk (a : Option Addr) : Option Nat := a.map Addr.block
theorem own_blk (a : Option Addr) (l c : Nat) : (Value.slice a l c).ownBlock = blk a := by cases a <;> rfl

/-- a list of slices of bytes, each of a row of its own: of ll elements each, of which the first l read as h. -/
structure Bag (w : World) (B L n : Nat) (a : Nat → Option Addr) (ll l c : Nat → Nat) (h : Nat → Nat → Int) : Prop where
  lst : ∀ k, k < n → w.cell? ⟨L, k, none⟩ = some (.slice (a k) (ll k) (c k))
  own : ∀ k, k < n → w.ownsRow B 3 1 (.slice (a k) (l k) (c k)) (l k) (rowv (h k) (l k))
/-- no two lie in one block. -/
def Sep (a : Nat → Option Addr) (n : Nat) : Prop := ∀ i j, i < n → j < n → i ≠ j → blk (a i) = none ∨ blk (a i) ≠ blk (a j)
/-- none lies in this block. -/
def Not (a : Nat → Option Addr) (n L : Nat) : Prop := ∀ k, k < n → blk (a k) ≠ some L

section
variable {w w' : World} {B L n : Nat} {a : Nat → Option Addr} {ll l c : Nat → Nat} {h : Nat → Nat → Int}
theorem Bag.grown {row : Option Nat} (hb : Bag w B L n a ll l c h) (hg : w.grownBy w' row) (hL : some L ≠ row) (hr : ∀ k, k < n → blk (a k) = none ∨ blk (a k) ≠ row) : Bag w' B L n a ll l c h :=
  ⟨fun k hk => hg.cell (hb.lst k hk) hL, fun k hk => (hb.own k hk).kept hg (by rw [own_blk]; exact hr k hk)⟩
theorem Bag.grown0 (hb : Bag w B L n a ll l c h) (hg : w.grownBy w' none) : Bag w' B L n a ll l c h :=
  hb.grown hg (by simp) fun k _ => by cases blk (a k) <;> simp
theorem Bag.below (hb : Bag w B L n a ll l c h) (hB : Below w.heap.size w w') : Bag w' B L n a ll l c h := hb.grown0 (grownBelow hB none)
theorem Bag.lt (hb : Bag w B L n a ll l c h) {k g : Nat} (hk : k < n) (e : blk (a k) = some g) : B ≤ g ∧ g < w.heap.size := (hb.own k hk).lt g (by rw [own_blk]; exact e)
theorem Bag.far (hb : Bag w B L n a ll l c h) {g : Nat} (hg : w.heap.size ≤ g) : ∀ k, k < n → blk (a k) = none ∨ blk (a k) ≠ some g := fun k hk => by
  right; intro e
  have := (hb.lt hk e).2
  omega
theorem Bag.ltL (hb : Bag w B L n a ll l c h) (hn : 0 < n) : L < w.heap.size := World.block_lt_of_cell? _ _ (hb.lst 0 hn)
theorem Bag.at_ (hb : Bag w B L n a ll l c h) {k i : Nat} (hk : k < n) (hi : i < l k) : ∃ g, a k = some ⟨g, 0, none⟩ ∧ w.cell? ⟨g, i, none⟩ = some (.int .i64 (h k i)) ∧ w.frozen? ⟨g, i, none⟩ = false := by
  obtain ⟨g, cap, hv, _, _⟩ := (hb.own k hk).form (by omega)
  simp only [Value.slice.injEq, true_and] at hv
  have o := hb.own k hk
  rw [hv.1] at o
  exact ⟨g, hv.1, by rw [o.cellAt i (by omega), rowv_get hi], o.frozenAt i⟩
theorem Bag.congr {h' : Nat → Nat → Int} (hb : Bag w B L n a ll l c h) (he : ∀ k i, k < n → i < l k → h k i = h' k i) : Bag w B L n a ll l c h' :=
  ⟨hb.lst, fun k hk => by rw [← rowv_congr fun i hi => he k i hk hi]; exact hb.own k hk⟩
theorem Bag.set (hb : Bag w B L n a ll l c h) {k i g : Nat} (hk : k < n) (e : a k = some ⟨g, 0, none⟩) (hs : Sep a n) (hL : Not a n L) (v : Int) :
    Bag (w.setCell ⟨g, i, none⟩ (.int .i64 (v))) B L n a ll l c (fun j x => if j = k ∧ x = i then v else h j x) := by
  have hg := grownSet w g i (.int .i64 (v))
  refine ⟨fun j hj => hg.cell (hb.lst j hj) (fun h => hL k hk (by rw [e]; exact h.symm)), fun j hj => ?_⟩
  by_cases hjk : j = k
  · subst hjk
    have o := hb.own j hj
    rw [e] at o ⊢
    have := (o.stored i (.int .i64 (v))).1
    rw [rowv_set] at this
    rw [rowv_congr (g := fun x => if x = i then v else h j x) fun x _ => by simp]
    exact this
  · rw [rowv_congr (g := h j) fun x _ => by simp [hjk]]
    refine (hb.own j hj).kept hg ?_
    rw [own_blk]
    rcases hs j k hj hk hjk with h | h
    · exact Or.inl h
    · right; rw [e] at h; exact h
/-- behind an append onto one of them. -/
theorem Bag.app (hb : Bag w B L n a ll l c h) {k g x cap' : Nat} {ys : List Value} (hk : k < n) (hs : Sep a n) (hL : Not a n L)
    (hown : w'.ownsRow B 3 1 (.slice (some ⟨g, 0, none⟩) (l k + x) cap') (l k + x) ys) (hys : ys.take (l k) = rowv (h k) (l k)) (e : a k = some ⟨g, 0, none⟩) (ec : cap' = c k) (hg : w.grownBy w' (some g)) : Bag w' B L n a ll l c h := by
  refine ⟨fun j hj => hg.cell (hb.lst j hj) (fun h => hL k hk (by rw [e]; exact h.symm)), fun j hj => ?_⟩
  by_cases hjk : j = k
  · subst hjk
    have := own_short hown
    rw [hys, ec, ← e] at this
    exact this
  · refine (hb.own j hj).kept hg ?_
    rw [own_blk]
    rcases hs j k hj hk hjk with h | h
    · exact Or.inl h
    · right; rw [e] at h; exact h
end

/-- below B all is as it was; and of what was there nothing has turned but the rows. -/
structure Bel (B n : Nat) (a : Nat → Option Addr) (w wr : World) : Prop where
  be : Below B w wr
  kp : ∀ g, g < w.heap.size → (∀ k, k < n → blk (a k) ≠ some g) → wr.heap[g]? = w.heap[g]?
section
variable {B n : Nat} {a : Nat → Option Addr} {w wr w' : World}
theorem Bel.refl (B n : Nat) (a : Nat → Option Addr) (w : World) : Bel B n a w w := ⟨Below.refl _ _, fun _ _ _ => rfl⟩
theorem Bel.size (h : Bel B n a w wr) : w.heap.size ≤ wr.heap.size := h.be.size
theorem Bel.grown0 (h : Bel B n a w wr) (hg : wr.grownBy w' none) (hB : B ≤ w.heap.size) : Bel B n a w w' :=
  ⟨h.be.grown hg (Nat.le_trans hB h.size) (fun x hx => by cases hx), fun g hl hn => (hg.block g (Nat.lt_of_lt_of_le hl h.size) (by simp)).trans (h.kp g hl hn)⟩
theorem Bel.drewN (h : Bel B n a w wr) (hB : B ≤ w.heap.size) (q : Nat) : Bel B n a w (wr.drewN q) := h.grown0 (grownBelow (below_drewN (Below.refl _ _) q) none) hB
theorem Bel.grownRow {g k : Nat} (h : Bel B n a w wr) (hg : wr.grownBy w' (some g)) (hB : B ≤ w.heap.size) (hk : k < n) (e : blk (a k) = some g) (hb : B ≤ g) : Bel B n a w w' :=
  ⟨h.be.grown hg (Nat.le_trans hB h.size) (fun x hx => by cases hx; exact hb), fun x hl hn => (hg.block x (Nat.lt_of_lt_of_le hl h.size) (fun hh => hn k hk (by rw [e, ← hh]))).trans (h.kp x hl hn)⟩
theorem Bel.grownNew {g : Nat} (h : Bel B n a w wr) (hg : wr.grownBy w' (some g)) (hB : B ≤ w.heap.size) (hb : w.heap.size ≤ g) : Bel B n a w w' :=
  ⟨h.be.grown hg (Nat.le_trans hB h.size) (fun x hx => by cases hx; exact Nat.le_trans hB hb), fun x hl hn => (hg.block x (Nat.lt_of_lt_of_le hl h.size) (fun hh => by cases hh; omega)).trans (h.kp x hl hn)⟩
end

/-- a block of so many slices of bytes. -/
def Gb (w : World) (G n : Nat) : Prop := ∃ vs : Array Value, w.heap[G]? = some (.cells vs 24 (0, 0)) ∧ vs.size = n
theorem Gb.grown {w w' : World} {G n : Nat} {row : Option Nat} (h : Gb w G n) (hg : w.grownBy w' row) (hr : some G ≠ row) : Gb w' G n := by
  obtain ⟨vs, h1, h2⟩ := h
  exact ⟨vs, (hg.block G (Array.getElem?_eq_some_iff.1 h1).1 hr).trans h1, h2⟩
theorem Gb.lt {w : World} {G n : Nat} (h : Gb w G n) : G < w.heap.size := by
  obtain ⟨vs, h1, h2⟩ := h
  exact (Array.getElem?_eq_some_iff.1 h1).1
theorem Gb.cell {w : World} {G n k : Nat} (h : Gb w G n) (hk : k < n) : ∃ v, w.cell? ⟨G, k, none⟩ = some v := by
  obtain ⟨vs, h1, h2⟩ := h
  rw [cell_of_row w G k vs _ _ h1]
  exact ⟨vs[k]'(by omega), by simp [h2, hk]⟩
theorem Gb.free {w : World} {G n : Nat} (h : Gb w G n) (k : Nat) : w.frozen? ⟨G, k, none⟩ = false := by
  obtain ⟨vs, h1, h2⟩ := h
  exact frozen_of_row w G k vs _ h1
theorem Gb.set {w : World} {G n k : Nat} (h : Gb w G n) (v : Value) : Gb (w.setCell ⟨G, k, none⟩ v) G n := by
  obtain ⟨vs, h1, h2⟩ := h
  exact ⟨vs.setIfInBounds k v, heap_setCell_same w G k vs _ _ h1, by simpa using h2⟩
theorem Gb.cellSet {w : World} {G n k : Nat} (h : Gb w G n) (hk : k < n) (v : Value) : (w.setCell ⟨G, k, none⟩ v).cell? ⟨G, k, none⟩ = some v := by
  obtain ⟨vs, h1, h2⟩ := h
  rw [cell_of_row _ G k _ _ _ (heap_setCell_same w G k vs _ _ h1)]
  simp [h2, hk]
theorem Gb.cellOther {w : World} {G n k j : Nat} (h : Gb w G n) (hj : j ≠ k) (v : Value) : (w.setCell ⟨G, k, none⟩ v).cell? ⟨G, j, none⟩ = w.cell? ⟨G, j, none⟩ := by
  obtain ⟨vs, h1, h2⟩ := h
  rw [cell_of_row _ G j _ _ _ (heap_setCell_same w G k vs _ _ h1), cell_of_row _ G j _ _ _ h1, Array.getElem?_setIfInBounds, if_neg (fun e => hj e.symm)]
/-- one slice more is put into the second list. -/
theorem Bag.put {w : World} {B G n k : Nat} {a : Nat → Option Addr} {ll l c : Nat → Nat} {h : Nat → Nat → Int} (hb : Bag w B G k a ll l c h) (hg : Gb w G n) (hk : k < n) (ho : Not a k G) {x : Option Addr} {cx : Nat}
    (hx : blk x ≠ some G) (hown : w.ownsRow B 3 1 (.slice x (l k) cx) (l k) (rowv (h k) (l k))) :
    Bag (w.setCell ⟨G, k, none⟩ (.slice x (ll k) cx)) B G (k + 1) (fun j => if j = k then x else a j) ll l (fun j => if j = k then cx else c j) h := by
  have hgr := grownSet w G k (.slice x (ll k) cx)
  refine ⟨fun j hj => ?_, fun j hj => ?_⟩
  · by_cases e : j = k
    · subst e; simp only [if_pos]; exact hg.cellSet hk _
    · simp only [if_neg e]; rw [hg.cellOther e]; exact hb.lst j (by omega)
  · by_cases e : j = k
    · subst e; simp only [if_pos]
      exact hown.kept hgr (by rw [own_blk]; exact Or.inr hx)
    · simp only [if_neg e]
      exact (hb.own j (by omega)).kept hgr (by rw [own_blk]; exact Or.inr (ho j (by omega)))

/-- slices that are grown one by one: before the one k; that one has i more; wq: the world before it. -/
structure St4 (wq wr : World) (B L G n k i : Nat) (a : Nat → Option Addr) (l c : Nat → Nat) (hf : Nat → Option Addr) (df : Nat → Nat) (gA : Option Addr) (gC : Nat) : Prop where
  own : wr.ownsRow B 3 1 (.slice gA (l k + i) gC) (l k + i) (rowv (mkN k) (l k + i))
  org : gA = a k ∧ gC = c k ∨ ∃ x, gA = some ⟨x, 0, none⟩ ∧ wq.heap.size ≤ x
  bl : Bag wr B L n a l l c mkN
  bg : Bag wr B G k hf (fun j => l j + 64) (fun j => l j + 64) df mkN
  gb : Gb wr G n
  sz : wq.heap.size ≤ wr.heap.size
/-- what stands fast meanwhile. -/
structure Fix4 (w wq : World) (B L G n k : Nat) (a : Nat → Option Addr) (hf : Nat → Option Addr) : Prop where
  hk : k < n
  sep : Sep a n
  noL : Not a n L
  noG : Not a n G
  nhG : Not hf k G
  sh : ∀ j i, j < k → i < n → j ≠ i → blk (hf j) ≠ none → blk (hf j) ≠ blk (a i)
  fa : ∀ j g, j < n → blk (a j) = some g → g < wq.heap.size
  fh : ∀ j g, j < k → blk (hf j) = some g → g < wq.heap.size
  lL : L < wq.heap.size
  lG : G < wq.heap.size
  bL : B ≤ L
  bG : B ≤ G
  ne : L ≠ G
  bw : B ≤ w.heap.size
  ws : w.heap.size ≤ wq.heap.size
  wG : w.heap.size ≤ G
theorem St4.step {w wq wi w6 : World} {B L G n k i g cap' : Nat} {a : Nat → Option Addr} {l c : Nat → Nat} {hf : Nat → Option Addr} {df : Nat → Nat} {gA : Option Addr} {gC : Nat} {o : Obj}
    (h : St4 wq wi B L G n k i a l c hf df gA gC) (f : Fix4 w wq B L G n k a hf) (hB : Bel B n a w wi)
    (hown : w6.ownsRow B 3 1 (.slice (some ⟨g, 0, none⟩) (l k + i + 1) cap') (l k + i + 1) (rowv (mkN k) (l k + i) ++ [.int .i64 (mkN k (l k + i))]))
    (hc : gA = some ⟨g, 0, none⟩ ∧ cap' = gC ∧ (wi.alloc o).grownBy w6 (some g) ∨ (wi.alloc o).heap.size ≤ g ∧ (wi.alloc o).grownBy w6 none) :
    St4 wq w6 B L G n k (i + 1) a l c hf df (some ⟨g, 0, none⟩) cap' ∧ Bel B n a w w6 := by
  rw [← rowv_succ] at hown
  have hgB := (hown.lt g rfl).1
  have bl := h.bl.grown0 (grown_alloc wi o)
  have bg := h.bg.grown0 (grown_alloc wi o)
  have gb := h.gb.grown (grown_alloc wi o) (by simp)
  have hsz := h.sz
  have hws := f.ws
  have hBa := hB.grown0 (grown_alloc wi o) f.bw
  have hsa : wi.heap.size ≤ (wi.alloc o).heap.size := by simp
  rcases hc with ⟨e, ec, hg⟩ | ⟨hge, hg⟩
  · have hs6 : wq.heap.size ≤ w6.heap.size := Nat.le_trans (Nat.le_trans hsz hsa) hg.size
    rcases h.org with ⟨ea, eca⟩ | ⟨x, ex, hx⟩
    · have ea' : a k = some ⟨g, 0, none⟩ := by rw [← ea, e]
      have hbk : blk (a k) = some g := by rw [ea']; rfl
      have hBw6 := hBa.grownRow hg f.bw f.hk hbk hgB
      refine ⟨⟨hown, Or.inl ⟨ea'.symm, by rw [ec, eca]⟩, bl.app (x := i + 1) f.hk f.sep f.noL hown (show (rowv (mkN k) (l k + (i + 1))).take (l k) = _ from rowv_take) ea' (by rw [ec, eca]) hg, bg.grown hg (fun hh => f.noG k f.hk (by rw [hbk, ← hh])) (fun j hj => ?_), gb.grown hg (fun hh => f.noG k f.hk (by rw [hbk, ← hh])), hs6⟩, hBw6⟩
      by_cases hn : blk (hf j) = none
      · exact Or.inl hn
      · right; rw [← hbk]; exact f.sh j k hj f.hk (by omega) hn
    · rw [ex] at e
      cases e
      have hBw6 := hBa.grownNew hg f.bw (Nat.le_trans hws hx)
      refine ⟨⟨hown, Or.inr ⟨g, rfl, hx⟩, bl.grown hg (fun hh => by cases hh; have := f.lL; omega) (fun j hj => Or.inr (fun hh => by have := f.fa j g hj hh; omega)), bg.grown hg (fun hh => by cases hh; have := f.lG; omega) (fun j hj => Or.inr (fun hh => by have := f.fh j g hj hh; omega)), gb.grown hg (fun hh => by cases hh; have := f.lG; omega), hs6⟩, hBw6⟩
  · refine ⟨⟨hown, Or.inr ⟨g, rfl, by omega⟩, bl.grown0 hg, bg.grown0 hg, gb.grown hg (by simp), Nat.le_trans (Nat.le_trans hsz hsa) hg.size⟩, hBa.grown0 hg f.bw⟩
/-- .. and is put into the second list. -/
theorem St4.out {w wq wr : World} {B L G n k : Nat} {a : Nat → Option Addr} {l c : Nat → Nat} {hf : Nat → Option Addr} {df : Nat → Nat} {gA : Option Addr} {gC : Nat}
    (h : St4 wq wr B L G n k 64 a l c hf df gA gC) (f : Fix4 w wq B L G n k a hf) (hB : Bel B n a w wr) :
    ∃ hf' df', Bag (wr.setCell ⟨G, k, none⟩ (.slice gA (l k + 64) gC)) B L n a l l c mkN ∧ Bag (wr.setCell ⟨G, k, none⟩ (.slice gA (l k + 64) gC)) B G (k + 1) hf' (fun j => l j + 64) (fun j => l j + 64) df' mkN ∧
      Gb (wr.setCell ⟨G, k, none⟩ (.slice gA (l k + 64) gC)) G n ∧ Not hf' (k + 1) G ∧ (∀ j i, j < k + 1 → i < n → j ≠ i → blk (hf' j) ≠ none → blk (hf' j) ≠ blk (a i)) ∧ Bel B n a w (wr.setCell ⟨G, k, none⟩ (.slice gA (l k + 64) gC)) := by
  have hgA : blk gA ≠ some G := by
    rcases h.org with ⟨e, _⟩ | ⟨x, e, hx⟩
    · rw [e]; exact f.noG k f.hk
    · rw [e]; intro hh; have hh : some x = some G := hh; cases hh; have := f.lG; omega
  refine ⟨fun j => if j = k then gA else hf j, fun j => if j = k then gC else df j, ?_, h.bg.put h.gb f.hk f.nhG hgA h.own, h.gb.set _, ?_, ?_, hB.grownNew (grownSet _ _ _ _) f.bw f.wG⟩
  · exact h.bl.grown (grownSet _ _ _ _) (fun hh => by cases hh; exact f.ne rfl) (fun j hj => Or.inr (f.noG j hj))
  · intro j hj
    by_cases e : j = k
    · subst e; simp only [if_pos]; exact hgA
    · simp only [if_neg e]; exact f.nhG j (by omega)
  · intro j i hj hi hji hn
    by_cases e : j = k
    · subst e
      simp only [if_pos] at hn ⊢
      rcases h.org with ⟨e, _⟩ | ⟨x, e, hx⟩
      · rw [e] at hn ⊢
        rcases f.sep j i f.hk hi hji with h1 | h1
        · exact absurd h1 hn
        · exact h1
      · rw [e]
        intro hh
        have := f.fa i x hi hh.symm
        omega
    · simp only [if_neg e] at hn ⊢
      exact f.sh j i (by omega) hi hji hn
/-- slices that are grown by many at once: before the one k. -/
structure Fin5 (w wr : World) (B L G n k : Nat) (a : Nat → Option Addr) (l c : Nat → Nat) (hf : Nat → Option Addr) (df : Nat → Nat) : Prop where
  bl : Bag wr B L n a l l c mkN
  bg : Bag wr B G k hf (fun j => l j + 64) l df mkN
  gb : Gb wr G n
  ng : Not hf k G
  sh : ∀ j i, j < k → i < n → j ≠ i → blk (hf j) ≠ none → blk (hf j) ≠ blk (a i)
  be : Bel B n a w wr
section
variable {w wq wi w6 : World} {B L G n k : Nat} {a : Nat → Option Addr} {l c : Nat → Nat} {hf : Nat → Option Addr} {df : Nat → Nat}
theorem Fin5.grown0 (h : Fin5 w wi B L G n k a l c hf df) (hg : wi.grownBy w6 none) (hB : B ≤ w.heap.size) : Fin5 w w6 B L G n k a l c hf df :=
  ⟨h.bl.grown0 hg, h.bg.grown0 hg, h.gb.grown hg (by simp), h.ng, h.sh, h.be.grown0 hg hB⟩
theorem Fin5.setM (h : Fin5 w wi B L G n k a l c hf df) (f : Fix4 w wq B L G n k a hf) {M : Nat} (hM : wq.heap.size ≤ M) (i : Nat) (u : Value) : Fin5 w (wi.setCell ⟨M, i, none⟩ u) B L G n k a l c hf df := by
  have hg := grownSet wi M i u
  have lL := f.lL
  have lG := f.lG
  have hws := f.ws
  exact ⟨h.bl.grown hg (fun hh => by cases hh; omega) (fun j hj => Or.inr fun hh => by have := f.fa j M hj hh; omega), h.bg.grown hg (fun hh => by cases hh; omega) (fun j hj => Or.inr fun hh => by have := f.fh j M hj hh; omega),
    h.gb.grown hg (fun hh => by cases hh; omega), h.ng, h.sh, h.be.grownNew hg f.bw (by omega)⟩
theorem Fin5.app {g cap' : Nat} {news : List Value} (h : Fin5 w wi B L G n k a l c hf df) (f : Fix4 w wq B L G n k a hf) (hsz : wq.heap.size ≤ wi.heap.size)
    (hown : w6.ownsRow B 3 1 (.slice (some ⟨g, 0, none⟩) (l k + 64) cap') (l k + 64) (rowv (mkN k) (l k) ++ news))
    (hc : a k = some ⟨g, 0, none⟩ ∧ cap' = c k ∧ wi.grownBy w6 (some g) ∨ wi.heap.size ≤ g ∧ wi.grownBy w6 none) :
    Gb w6 G n ∧ ∃ hf' df', Fin5 w (w6.setCell ⟨G, k, none⟩ (.slice (some ⟨g, 0, none⟩) (l k + 64) cap')) B L G n (k + 1) a l c hf' df' := by
  have lL := f.lL
  have lG := f.lG
  have bL := f.bL
  have hgB := (hown.lt g rfl).1
  have htk : (rowv (mkN k) (l k) ++ news).take (l k) = rowv (mkN k) (l k) := by
    rw [List.take_append_of_le_length (by rw [rowv_len]; omega), List.take_of_length_le (by rw [rowv_len]; omega)]
  have hsh := own_short hown
  rw [htk] at hsh
  have key : Bag w6 B L n a l l c mkN ∧ Bag w6 B G k hf (fun j => l j + 64) l df mkN ∧ Gb w6 G n ∧ Bel B n a w w6 ∧ g ≠ G ∧ ∀ i, i < n → k ≠ i → some g ≠ blk (a i) := by
    rcases hc with ⟨e, ec, hg⟩ | ⟨hge, hg⟩
    · have hbk : blk (a k) = some g := by rw [e]; rfl
      have hgG : g ≠ G := fun hh => f.noG k f.hk (by rw [hbk, hh])
      refine ⟨h.bl.app f.hk f.sep f.noL hown htk e ec hg, h.bg.grown hg (fun hh => hgG (by cases hh; rfl)) (fun j hj => ?_), h.gb.grown hg (fun hh => hgG (by cases hh; rfl)), h.be.grownRow hg f.bw f.hk hbk hgB, hgG, fun i hi hki hh => ?_⟩
      · by_cases hn : blk (hf j) = none
        · exact Or.inl hn
        · right; rw [← hbk]; exact f.sh j k hj f.hk (by omega) hn
      · rcases f.sep k i f.hk hi hki with h1 | h1
        · rw [hbk] at h1; cases h1
        · exact h1 (by rw [hbk, hh])
    · exact ⟨h.bl.grown0 hg, h.bg.grown0 hg, h.gb.grown hg (by simp), h.be.grown0 hg f.bw, by omega, fun i hi _ hh => by have := f.fa i g hi hh.symm; omega⟩
  obtain ⟨bl, bg, gb, be, hgG, hgi⟩ := key
  refine ⟨gb, fun j => if j = k then some ⟨g, 0, none⟩ else hf j, fun j => if j = k then cap' else df j, ?_, bg.put gb f.hk f.nhG (fun hh => hgG (by cases hh; rfl)) hsh, gb.set _, ?_, ?_, be.grownNew (grownSet _ _ _ _) f.bw f.wG⟩
  · exact bl.grown (grownSet _ _ _ _) (fun hh => by cases hh; exact f.ne rfl) (fun j hj => Or.inr (f.noG j hj))
  · intro j hj
    by_cases e : j = k
    · subst e; simp only [if_pos]; exact fun hh => hgG (by cases hh; rfl)
    · simp only [if_neg e]; exact f.nhG j (by omega)
  · intro j i hj hi hji hn
    by_cases e : j = k
    · subst e
      simp only [if_pos]
      exact hgi i hi hji
    · simp only [if_neg e] at hn ⊢
      exact f.sh j i (by omega) hi hji hn
end
end Go.Proofs.Ythkcacnlinajgaa.Ai

namespace Go.Proofs.Ythkcacnlinajgaa.Ai
open Go.RowKit Go.Shelf

set_option maxHeartbeats 4000000 in
set_option maxRecDepth 100000 in
theorem flatInts_any (B L n cap : Nat) (a : Nat → Option Addr) (l c : Nat → Nat) (h : Nat → Nat → Int) (w : World) (hb : Bag w B L n a l l c h) (hs : Sep a n) (hno : Not a n L) (hBL : B ≤ L) (hLw : L < w.heap.size) (_hc : n ≤ cap) (hn : n ≤ 3000) (hl : ∀ k, l k ≤ 1000000) :
    Calls Try.prog 64 #[.slice (some ⟨L, 0, none⟩) n cap] w fun e w' => e = .returned (.bool true) ∧ Bel B n a w w' := by
  have hBw : B ≤ w.heap.size := by omega
  have HBG := Lib.hid hb; have HS := Lib.hid hs; have HNO := Lib.hid hno; have HL := Lib.hid hl
  obtain ⟨i0, hi, hz0, hz1, hz2⟩ := info_parts Try.infoInt2
  have HI := Lib.hid hi; have HZ0 := Lib.hid hz0; have HZ1 := Lib.hid hz1; have HZ2 := Lib.hid hz2
  obtain ⟨i1, hi', hz0', hz1', hz2'⟩ := info_parts (P := Try.prog) (e := 24) (z := .slice none 0 0) (size := 1) (bytes := 24) (by kernel_rfl)
  have HI' := Lib.hid hi'; have HZ0' := Lib.hid hz0'; have HZ1' := Lib.hid hz1'; have HZ2' := Lib.hid hz2'
  clear hi hz0 hz1 hz2 hi' hz0' hz1' hz2' hb hs hno hl
  go_enter Try.func64, Try.ntmps64
  go_wp2_with fail
  go_loopw [3] (fun k wr => ∃ k' : Nat, k' ≤ n ∧ k = .int .i64 (k' : Nat) ∧ Bag wr B L n a l l c (fun j i => if j < k' then mkN j i else h j i) ∧ Bel B n a w wr) (fun k _ => n - (intOf k).toNat)
  case atStart => exact ⟨0, by omega, rfl, HBG.out.congr fun k i _ _ => by rw [if_neg (by omega)], Bel.refl _ _ _ _⟩
  case round =>
    obtain ⟨k, hk, rfl, hb, hB⟩ := hrel
    obtain ⟨wo, rfl⟩ : ∃ wo : World, wo = wr := ⟨_, rfl⟩
    have HB1 := Lib.hid hB; have HG1 := Lib.hid hb
    have hsz := hB.size
    clear hb hB
    by_cases hkn : k < n
    · have j1 : (k : Int) < (n : Int) := by omega
      go_wp2_with fail
      go_loopw [4] (fun i wr => ∃ i' : Nat, i' ≤ l k ∧ i = .int .i64 (i' : Nat) ∧ Bag wr B L n a l l c (fun j x => if j < k ∨ j = k ∧ x < i' then mkN j x else h j x) ∧ Bel B n a w wr) (fun i _ => l k - (intOf i).toNat)
      case atStart => exact ⟨0, by omega, rfl, HG1.out.congr fun j i _ _ => by
        by_cases e : j < k
        · rw [if_pos e, if_pos (Or.inl e)]
        · rw [if_neg e, if_neg (by omega)], HB1.out⟩
      case round =>
        obtain ⟨i, hi, rfl, hb, hB⟩ := hrel
        obtain ⟨wi, rfl⟩ : ∃ wi : World, wi = wr := ⟨_, rfl⟩
        have hlk := HL.out k
        by_cases hil : i < l k
        · obtain ⟨g, e, c2, fr⟩ := hb.at_ hkn hil
          have cl := hb.lst k hkn
          rw [e] at cl
          have i1 : (i : Int) < (l k : Int) := by omega
          have hset := hb.set hkn e HS.out HNO.out (i := i) (mkN k i)
          have hgB := (hb.lt hkn (show blk (a k) = some g by rw [e]; rfl)).1
          have HST := Lib.hid hset; have HB2 := Lib.hid hB; have E := Lib.hid e
          clear hset hb hB e
          generalize hv : (if k < k ∨ k = k ∧ i < i then mkN k i else h k i) = v0 at c2
          clear hv
          go_wp2_with fail
          refine Rb.wp_region_quiet_tail 9 (by kernel_rfl) (by kernel_rfl) ?_
          simp only [List.take_succ_cons, List.take_zero, List.drop_succ_cons, List.drop_zero]
          repeat (go_big_quiet_step ((go_at_call 25; exact Calls.quiet_of_same (markN_any k i _ _ rfl rfl (by omega) (by omega) _))))
          refine wpQuiet_nil ?_
          rintro _ ⟨kk, rfl⟩
          go_wp2
          go_roundw
          case rel =>
            refine ⟨i + 1, by omega, by go_num, ?_, (HB2.out.drewN hBw kk).grownRow (grownSet _ _ _ _) hBw hkn (show blk (a k) = some g by rw [E.out]; rfl) hgB⟩
            have := (HST.out.grown0 (w' := (wi.setCell ⟨g, i, none⟩ (.int .i64 (mkN k i))).drewN kk) (grownBelow (below_drewN (Below.refl _ _) kk) none)).congr (h' := fun j x => if j < k ∨ j = k ∧ x < i + 1 then mkN j x else h j x) fun j x _ _ => by
              by_cases e1 : j = k ∧ x = i
              · rw [if_pos e1, if_pos (by omega), e1.1, e1.2]
              · rw [if_neg e1]
                by_cases e2 : j < k ∨ j = k ∧ x < i
                · rw [if_pos e2, if_pos (by omega)]
                · rw [if_neg e2, if_neg (by omega)]
            exact this
          case measure => simp [intOf]; omega
        · obtain rfl : i = l k := by omega
          have cl := hb.lst k hkn
          have i1 : ¬ (l k : Int) < (l k : Int) := by omega
          have HG2 := Lib.hid (hb.congr (h' := fun j x => if j < k + 1 then mkN j x else h j x) fun j x _ hx => by
            by_cases e2 : j < k ∨ j = k ∧ x < l k
            · rw [if_pos e2, if_pos (by omega)]
            · rw [if_neg e2, if_neg (fun e => e2 (by rcases Nat.lt_or_ge j k with h | h; exact Or.inl h; obtain rfl : j = k := (by omega); exact Or.inr ⟨rfl, hx⟩))])
          have HB2 := Lib.hid hB
          clear hb hB
          go_wp2
          go_roundw
          case rel => exact ⟨k + 1, by omega, by go_num, HG2.out, HB2.out⟩
          case measure => simp [intOf]; omega
    · obtain rfl : n = k := by omega
      have HG2 := Lib.hid (HG1.out.congr (h' := mkN) fun j i hj _ => by rw [if_pos hj])
      clear HG1 HBG
      have j1 : ¬ (n : Int) < (n : Int) := by omega
      have hltG := fun j g (hj : j < n) (e : blk (a j) = some g) => (HG2.out.lt hj e).2
      have HLT := Lib.hid hltG; clear hltG
      have hLo : L < wo.heap.size := Nat.lt_of_lt_of_le hLw hsz
      go_wp2_with (at_make; refine wpList_make_full _ rfl _ _ _ rfl B 24 i1 (.slice none 0 0) 1 Try.underlying44 HI'.out HZ0'.out HZ1'.out .i64 .i64 _ _ n rfl rfl rfl rfl (by rw [HZ2'.out]; omega) (by unfold maxLen; omega) (by omega) ?_; intro w3 hown hgrow)
      obtain ⟨G, hG⟩ : ∃ G, G = wo.heap.size := ⟨_, rfl⟩
      rw [← hG] at hown HLT hLo ⊢
      have hgb : Gb w3 G n := by
        rcases hown.2 with ⟨h, _⟩ | ⟨g', cap', cur, h, _, hg, _, _, hs, _⟩
        · cases h
        · simp only [Value.slice.injEq, Option.some.injEq, Addr.mk.injEq, and_true, true_and] at h
          obtain ⟨rfl, rfl⟩ := h
          exact ⟨cur, hg, by simpa using hs⟩
      have HG3 := Lib.hid (HG2.out.grown0 hgrow); have HB3 := Lib.hid (HB1.out.grown0 hgrow hBw); have HGB := Lib.hid hgb
      have hnoG : Not a n G := fun j hj e => by have := HLT.out j G hj e; omega
      have HNG := Lib.hid hnoG
      have hBG : B ≤ G := by omega
      have hwG : w.heap.size ≤ G := by rw [hG]; exact hsz
      have hsG := hgb.lt
      clear hG hown hgrow hgb hnoG HG2
      go_loopw [6] (fun kv wr => ∃ (k' : Nat) (hf : Nat → Option Addr) (df : Nat → Nat), k' ≤ n ∧ kv = .int .i64 (k' : Nat) ∧ Bag wr B L n a l l c mkN ∧ Bag wr B G k' hf (fun j => l j + 64) (fun j => l j + 64) df mkN ∧ Gb wr G n ∧ Not hf k' G ∧ (∀ j i, j < k' → i < n → j ≠ i → blk (hf j) ≠ none → blk (hf j) ≠ blk (a i)) ∧ Bel B n a w wr) (fun kv _ => n - (intOf kv).toNat)
      case atStart => exact ⟨0, fun _ => none, fun _ => 0, by omega, rfl, HG3.out, ⟨fun k hk => by omega, fun k hk => by omega⟩, HGB.out, fun k hk => by omega, fun j i hj => by omega, HB3.out⟩
      case round =>
        obtain ⟨k, hf, df, hk, rfl, hb, hb2, gb, hng, hsh, hB⟩ := hrel
        obtain ⟨wq, rfl⟩ : ∃ wq : World, wq = wr := ⟨_, rfl⟩
        have HBL := Lib.hid hb; have HBGk := Lib.hid hb2; have HGBk := Lib.hid gb; have HB4 := Lib.hid hB; have HNH := Lib.hid hng; have HSH := Lib.hid hsh
        have hs4 := hB.size
        clear hb hb2 gb hng hsh hB
        by_cases hkn : k < n
        · have j2 : (k : Int) < (n : Int) := by omega
          have cl := HBL.out.lst k hkn
          have fx : Fix4 w wq B L G n k a hf := ⟨hkn, HS.out, HNO.out, HNG.out, HNH.out, HSH.out, fun j g hj e => (HBL.out.lt hj e).2, fun j g hj e => (HBGk.out.lt hj e).2, by omega, HGBk.out.lt, hBL, hBG, by omega, hBw, hs4, hwG⟩
          have FX := Lib.hid fx; clear fx
          have hlk := HL.out k
          go_wp2_with fail
          go_loopw [7, 8] (fun gv i wr => ∃ (i' : Nat) (gA : Option Addr) (gC : Nat), i' ≤ 64 ∧ i = .int .i64 (i' : Nat) ∧ gv = .slice gA (l k + i') gC ∧ St4 wq wr B L G n k i' a l c hf df gA gC ∧ Bel B n a w wr) (fun _ i _ => 64 - (intOf i).toNat)
          case atStart => exact ⟨0, a k, c k, by omega, rfl, rfl, ⟨HBL.out.own k hkn, Or.inl ⟨rfl, rfl⟩, HBL.out, HBGk.out, HGBk.out, Nat.le_refl _⟩, HB4.out⟩
          case round =>
            obtain ⟨i, gA, gC, hi, rfl, rfl, hst, hB⟩ := hrel
            obtain ⟨wi, rfl⟩ : ∃ wi : World, wi = wr := ⟨_, rfl⟩
            have cli := hst.bl.lst k hkn
            have ST := Lib.hid hst; have HBi := Lib.hid hB
            have hsi := hst.sz
            by_cases hi64 : i < 64
            · have i2 : (i : Int) < 64 := by omega
              clear hst hB
              go_wp2_with fail
              refine (markN_any k (l k + i) _ _ rfl (by omega) (by omega) (by omega) _).mono ?_
              rintro e w' ⟨rfl, rfl⟩
              go_wp2_with (at_builtin; refine wpList_append_bag _ rfl _ _ 24 rfl B 3 i0 (.int .i64 0) 8 Try.underlying24 HI.out HZ0.out HZ1.out HZ2.out rfl gA (l k + i) gC (rowv (mkN k) (l k + i)) rfl (ST.out.own.alloc _) _ 1 1 [.int .i64 (mkN k (l k + i))] rfl rfl (cell_new1 _ _ _) (one_single _ _) (by decide) (by unfold maxLen; omega) (by omega) (by simp; omega) ?_; intro g cap' w6 hown6 hc6 hlt6; have HOWN6 := Lib.hid hown6; have HC6 := Lib.hid hc6; clear hown6 hc6 hlt6)
              have hstep := ST.out.step FX.out HBi.out HOWN6.out HC6.out
              have HSTEP := Lib.hid hstep; clear hstep HOWN6 HC6
              go_wp2
              go_roundw
              case rel => exact ⟨i + 1, _, cap', by omega, by go_num, rfl, HSTEP.out.1, HSTEP.out.2⟩
              case measure => simp [intOf]; omega
            · obtain rfl : i = 64 := by omega
              obtain ⟨v0, cg⟩ := hst.gb.cell hkn
              have fg := hst.gb.free k
              have HOUT := Lib.hid (hst.out FX.out hB)
              clear hst hB
              go_wp2
              go_roundw
              case rel =>
                obtain ⟨hf', df', h1, h2, h3, h4, h5, h6⟩ := HOUT.out
                exact ⟨k + 1, hf', df', by omega, by go_num, h1, h2, h3, h4, h5, h6⟩
              case measure => simp [intOf]; omega
        · obtain rfl : n = k := by omega
          have j2 : ¬ (n : Int) < (n : Int) := by omega
          go_wp2_with fail
          go_loopw [9] (fun kv wr => ∃ k' : Nat, k' ≤ n ∧ kv = .int .i64 (k' : Nat) ∧ ∃ q, wr = wq.drewN q) (fun kv _ => n - (intOf kv).toNat)
          case atStart => exact ⟨0, by omega, rfl, 0, rfl⟩
          case round =>
            obtain ⟨k, hk, rfl, q, rfl⟩ := hrel
            by_cases hkn : k < n
            · have j3 : (k : Int) < (n : Int) := by omega
              have clg : wq.cell? ⟨G, k, none⟩ = some (.slice (hf k) (l k + 64) (df k)) := HBGk.out.lst k hkn
              have hlk := HL.out k
              have CLG := Lib.hid clg; clear clg
              go_wp2_with fail
              go_loopw [10] (fun i wr => ∃ i' : Nat, i' ≤ l k + 64 ∧ i = .int .i64 (i' : Nat) ∧ ∃ q, wr = wq.drewN q) (fun i _ => l k + 64 - (intOf i).toNat)
              case atStart => exact ⟨0, by omega, rfl, q, rfl⟩
              case round =>
                obtain ⟨i, hi, rfl, q2, hq⟩ := hrel
                have hD := below_drewN (Below.refl wq.heap.size wq) q2
                rw [← hq] at hD
                have HBLr := Lib.hid (HBL.out.below hD); have HBGr := Lib.hid (HBGk.out.below hD); have HQ := Lib.hid hq
                have clg : wr.cell? ⟨G, k, none⟩ = some (.slice (hf k) (l k + 64) (df k)) := HBGr.out.lst k hkn
                clear hD hq
                by_cases hil : i < l k + 64
                · obtain ⟨g2, e2, c2, _⟩ := HBGr.out.at_ hkn (i := i) hil
                  rw [e2] at clg
                  have i3 : (i : Int) < ((l k + 64 : Nat) : Int) := by omega
                  have i4 : (i : Int) < (l k : Int) + 64 := by omega
                  have hmk : ∀ wx, Calls Try.prog 25 #[.int .i64 (k : Nat), .int .i64 (i : Nat)] wx fun e w' => e = .returned (.int .i64 (mkN k i)) ∧ w' = wx := fun wx => markN_any k i _ _ rfl rfl (by omega) (by omega) wx
                  have HMK := Lib.hid hmk; clear hmk
                  have gmk : ((mkN k i) == (mkN k i)) = true := by simp
                  by_cases hl1 : i < l k
                  · obtain ⟨g1, e1, c1, _⟩ := HBLr.out.at_ hkn hl1
                    have cl := HBLr.out.lst k hkn
                    rw [e1] at cl
                    have i5 : (i : Int) < (l k : Int) := by omega
                    have d1 : decide ((i : Int) < (l k : Int)) = true := by simp; omega
                    have d2 : decide (i < l k) = true := by simp; omega
                    clear e1 e2
                    go_wp2_with fail
                    go_quiet ((go_at_call 25; exact Calls.quiet_of_same (HMK.out _)))
                    go_wp2
                    go_roundw
                    case rel => exact ⟨i + 1, by omega, by go_num, q2 + nq, by rw [HQ.out, World.drewN_drewN]⟩
                    case measure => simp [intOf]; omega
                  · have cl := HBLr.out.lst k hkn
                    have d1 : decide ((i : Int) < (l k : Int)) = false := by simp; omega
                    have d2 : decide (i < l k) = false := by simp; omega
                    clear e2
                    go_wp2_with fail
                    go_quiet ((go_at_call 25; exact Calls.quiet_of_same (HMK.out _)))
                    go_wp2
                    go_roundw
                    case rel => exact ⟨i + 1, by omega, by go_num, q2 + nq, by rw [HQ.out, World.drewN_drewN]⟩
                    case measure => simp [intOf]; omega
                · obtain rfl : i = l k + 64 := by omega
                  have i3 : ¬ ((l k + 64 : Nat) : Int) < ((l k + 64 : Nat) : Int) := by omega
                  go_wp2
                  go_roundw
                  case rel => exact ⟨k + 1, by omega, by go_num, q2, HQ.out⟩
                  case measure => simp [intOf]; omega
            · obtain rfl : n = k := by omega
              have j3 : ¬ (n : Int) < (n : Int) := by omega
              go_wp2_with fail
              have hD := below_drewN (Below.refl wq.heap.size wq) q
              obtain ⟨wp, hwp⟩ : ∃ wp, wp = wq.drewN q := ⟨_, rfl⟩
              rw [← hwp] at hD ⊢
              have HBLp := Lib.hid (HBL.out.below hD)
              have hF0 : Fin5 w wp B L G n 0 a l c (fun _ => none) (fun _ => 0) := ⟨HBLp.out, ⟨fun k hk => by omega, fun k hk => by omega⟩, HGBk.out.grown (grownBelow hD none) (by simp), fun k hk => by omega, fun j i hj => by omega, HB4.out.grown0 (grownBelow hD none) hBw⟩
              have HF0 := Lib.hid hF0
              clear hwp hD hF0 HBGk HGBk HNH HSH HBL HB4 HBLp
              go_loopw [11] (fun kv wr => ∃ (k' : Nat) (hf : Nat → Option Addr) (df : Nat → Nat), k' ≤ n ∧ kv = .int .i64 (k' : Nat) ∧ Fin5 w wr B L G n k' a l c hf df) (fun kv _ => n - (intOf kv).toNat)
              case atStart => exact ⟨0, _, _, by omega, rfl, HF0.out⟩
              case round =>
                obtain ⟨k, hf, df, hk, rfl, hF⟩ := hrel
                obtain ⟨wq, rfl⟩ : ∃ wq : World, wq = wr := ⟨_, rfl⟩
                have HF := Lib.hid hF
                have hs5 := hF.be.size
                clear hF
                by_cases hkn : k < n
                · have j4 : (k : Int) < (n : Int) := by omega
                  have hlk := HL.out k
                  have fx : Fix4 w wq B L G n k a hf := ⟨hkn, HS.out, HNO.out, HNG.out, HF.out.ng, HF.out.sh, fun j g hj e => (HF.out.bl.lt hj e).2, fun j g hj e => (HF.out.bg.lt hj e).2, by omega, HF.out.gb.lt, hBL, hBG, by omega, hBw, hs5, hwG⟩
                  have FX := Lib.hid fx; clear fx
                  go_wp2_with (at_make; refine wpList_make_full _ rfl _ _ _ rfl B 3 i0 (.int .i64 0) 1 Try.underlying24 HI.out HZ0.out HZ1.out .i64 .i64 _ _ 64 rfl rfl rfl rfl (by rw [HZ2.out]; omega) (by unfold maxLen; omega) (by omega) ?_; intro w7 hown7 hgrow7; have HOWN7 := Lib.hid hown7; have HGROW7 := Lib.hid hgrow7; clear hown7 hgrow7)
                  have hm0 : w7.ownsRow B 3 1 (.slice (some ⟨wq.heap.size, 0, none⟩) 64 64) 64 (rowv (fun _ => 0) 64) := by
                    have := HOWN7.out
                    rwa [show (madeCells (Value.int .i64 0).cells (64 * 1)).toList = rowv (fun _ => 0) 64 by rw [show (Value.int .i64 0).cells = #[Value.int .i64 0] from rfl, toList_madeCells_one]; rfl] at this
                  obtain ⟨M, hM⟩ : ∃ M, M = wq.heap.size := ⟨_, rfl⟩
                  rw [← hM] at hm0 ⊢
                  have HF7 := Lib.hid (HF.out.grown0 HGROW7.out hBw); have HM0 := Lib.hid hm0
                  have hs7 := HGROW7.out.size
                  have HMM := Lib.hid hM
                  clear hm0 HOWN7 HGROW7 hM
                  go_loopw [13] (fun iv wr => ∃ (i' : Nat) (hM : Nat → Int), i' ≤ 64 ∧ iv = .int .i64 (i' : Nat) ∧ wr.ownsRow B 3 1 (.slice (some ⟨M, 0, none⟩) 64 64) 64 (rowv hM 64) ∧ Fin5 w wr B L G n k a l c hf df ∧ wq.heap.size ≤ wr.heap.size) (fun iv _ => 64 - (intOf iv).toNat)
                  case atStart => exact ⟨0, _, by omega, rfl, HM0.out, HF7.out, hs7⟩
                  case round =>
                    obtain ⟨i, hM, hi, rfl, ho, hF, hs8⟩ := hrel
                    obtain ⟨wi, rfl⟩ : ∃ wi : World, wi = wr := ⟨_, rfl⟩
                    have HO := Lib.hid ho; have HFi := Lib.hid hF
                    by_cases hi64 : i < 64
                    · have i6 : (i : Int) < 64 := by omega
                      have c1 := ho.cellAt i (by omega)
                      rw [rowv_get hi64] at c1
                      have c2 := ho.frozenAt i
                      have hst := (ho.stored i (.int .i64 (mkN (n + k) i))).1
                      rw [rowv_set] at hst
                      have HST := Lib.hid hst
                      clear ho hF hst
                      go_wp2_with fail
                      refine (markN_any (n + k) i _ _ (by omega) rfl (by omega) (by omega) _).mono ?_
                      rintro e w' ⟨rfl, rfl⟩
                      go_wp2
                      go_roundw
                      case rel => exact ⟨i + 1, _, by omega, by go_num, HST.out, HFi.out.setM FX.out (by rw [HMM.out]; exact Nat.le_refl _) i _, by rw [World.size_setCell]; exact hs8⟩
                      case measure => simp [intOf]; omega
                    · obtain rfl : i = 64 := by omega
                      have cl := HFi.out.bl.lst k hkn
                      have hsB := HFi.out.be.size
                      clear ho hF
                      go_wp2_with (at_builtin; refine wpList_append_bag _ rfl _ _ 24 rfl B 3 i0 (.int .i64 0) 8 Try.underlying24 HI.out HZ0.out HZ1.out HZ2.out rfl (a k) (l k) (c k) (rowv (mkN k) (l k)) rfl (HFi.out.bl.own k hkn) ⟨M, 0, none⟩ 64 64 (rowv hM 64) rfl (rowv_len _ _) (HO.out.cells rfl) (rowv_ones _ _) (by decide) (by unfold maxLen; omega) (by omega) (by omega) ?_; intro g cap' w6 hown6 hc6 hlt6; have hap := HFi.out.app FX.out hs8 hown6 hc6; have HAP := Lib.hid hap; obtain ⟨v0, cg⟩ := hap.1.cell hkn; have fg := hap.1.free k; clear hap hown6 hc6 hlt6)
                      go_roundw
                      case rel =>
                        obtain ⟨_, hf', df', h6⟩ := HAP.out
                        exact ⟨k + 1, hf', df', by omega, by go_num, h6⟩
                      case measure => simp [intOf]; omega
                · obtain rfl : n = k := by omega
                  have j4 : ¬ (n : Int) < (n : Int) := by omega
                  go_wp2_with fail
                  go_loopw [14] (fun kv wr => ∃ k' : Nat, k' ≤ n ∧ kv = .int .i64 (k' : Nat) ∧ ∃ q, wr = wq.drewN q) (fun kv _ => n - (intOf kv).toNat)
                  case atStart => exact ⟨0, by omega, rfl, 0, rfl⟩
                  case round =>
                    obtain ⟨k, hk, rfl, q, rfl⟩ := hrel
                    by_cases hkn : k < n
                    · have j3 : (k : Int) < (n : Int) := by omega
                      have hlk := HL.out k
                      have cl0 := HF.out.bl.lst k hkn
                      go_wp2_with fail
                      go_loopw [15] (fun i wr => ∃ i' : Nat, i' ≤ l k ∧ i = .int .i64 (i' : Nat) ∧ ∃ q, wr = wq.drewN q) (fun i _ => l k - (intOf i).toNat)
                      case atStart => exact ⟨0, by omega, rfl, q, rfl⟩
                      case round =>
                        obtain ⟨i, hi, rfl, q2, hq⟩ := hrel
                        have hD := below_drewN (Below.refl wq.heap.size wq) q2
                        rw [← hq] at hD
                        have HBLr := Lib.hid (HF.out.bl.below hD); have HBGr := Lib.hid (HF.out.bg.below hD); have HQ := Lib.hid hq
                        have clg : wr.cell? ⟨G, k, none⟩ = some (.slice (hf k) (l k + 64) (df k)) := HBGr.out.lst k hkn
                        have cl := HBLr.out.lst k hkn
                        clear hD hq
                        by_cases hil : i < l k
                        · obtain ⟨g2, e2, c2, _⟩ := HBGr.out.at_ hkn (i := i) hil
                          rw [e2] at clg
                          obtain ⟨g1, e1, c1, _⟩ := HBLr.out.at_ hkn hil
                          rw [e1] at cl
                          have i3 : (i : Int) < ((l k + 64 : Nat) : Int) := by omega
                          have i4 : (i : Int) < (l k : Int) + 64 := by omega
                          have i5 : (i : Int) < (l k : Int) := by omega
                          have hmk : ∀ wx, Calls Try.prog 25 #[.int .i64 (k : Nat), .int .i64 (i : Nat)] wx fun e w' => e = .returned (.int .i64 (mkN k i)) ∧ w' = wx := fun wx => markN_any k i _ _ rfl rfl (by omega) (by omega) wx
                          have HMK := Lib.hid hmk; clear hmk
                          have gmk : ((mkN k i) == (mkN k i)) = true := by simp
                          clear e1 e2
                          go_wp2_with fail
                          go_quiet ((go_at_call 25; exact Calls.quiet_of_same (HMK.out _)))
                          go_wp2
                          go_roundw
                          case rel => exact ⟨i + 1, by omega, by go_num, q2 + nq, by rw [HQ.out, World.drewN_drewN]⟩
                          case measure => simp [intOf]; omega
                        · obtain rfl : i = l k := by omega
                          have i3 : ¬ (l k : Int) < (l k : Int) := by omega
                          go_wp2
                          go_roundw
                          case rel => exact ⟨k + 1, by omega, by go_num, q2, HQ.out⟩
                          case measure => simp [intOf]; omega
                    · obtain rfl : n = k := by omega
                      have j3 : ¬ (n : Int) < (n : Int) := by omega
                      go_wp2
                      go_ret
                      exact ⟨rfl, HF.out.be.drewN hBw q⟩
end Go.Proofs.Ythkcacnlinajgaa.Ai

namespace Go.Proofs.Ythkcacnlinajgaa.Ai
open Go.RowKit Go.Shelf

/-- a bag that holds lists of bytes alone. -/
def Bx (w : World) (b : Nat) (v : Value) : Prop :=
  w.heap[b]? = some (.cells #[.slice none 0 0, .slice none 0 0, v, .slice none 0 0, .slice none 0 0, .slice none 0 0, .slice none 0 0, .slice none 0 0, .slice none 0 0, .slice none 0 0, .slice none 0 0, .slice none 0 0, .slice none 0 0] 89 (0, 0))
theorem Bx.cell {w : World} {b : Nat} {v : Value} (h : Bx w b v) : w.cell? ⟨b, 2, none⟩ = some v := by rw [cell_of_row w b 2 _ _ _ h]; rfl
theorem Bx.other {w : World} {b i : Nat} {v : Value} (h : Bx w b v) (hi : i < 13) (h5 : i ≠ 2) : w.cell? ⟨b, i, none⟩ = some (.slice none 0 0) := by
  rw [cell_of_row w b i _ _ _ h]
  rcases i with _ | _ | _ | _ | _ | _ | _ | _ | _ | _ | _ | _ | _ | _ <;> first | rfl | omega
theorem Bx.free {w : World} {b : Nat} {v : Value} (h : Bx w b v) (i : Nat) : w.frozen? ⟨b, i, none⟩ = false := frozen_of_row w b i _ _ h
theorem Bx.lt {w : World} {b : Nat} {v : Value} (h : Bx w b v) : b < w.heap.size := (Array.getElem?_eq_some_iff.1 h).1
theorem Bx.grown {w w' : World} {b : Nat} {v : Value} {row : Option Nat} (h : Bx w b v) (hg : w.grownBy w' row) (hr : some b ≠ row) : Bx w' b v := (hg.block b h.lt hr).trans h
theorem Bx.set {w : World} {b : Nat} {v : Value} (h : Bx w b v) (u : Value) : Bx (w.setCell ⟨b, 2, none⟩ u) b u := heap_setCell_same w b 2 _ _ u h

set_option maxHeartbeats 4000000 in
set_option maxRecDepth 100000 in
theorem put_any (B b n cap : Nat) (pa a : Option Addr) (l c : Nat) (xs : List Value) (w : World) (hx : Bx w b (.slice pa n cap)) (ho : w.ownsRow B 24 1 (.slice pa n cap) n xs) (hb : blk pa ≠ some b) (hn : n ≤ 3000) (hB : B ≤ b) :
    Calls Try.prog 39 #[.pointer (some ⟨b, 0, none⟩), .slice a l c] w fun e w' => e = .returned (.tuple #[]) ∧
      ∃ pa' cap', Bx w' b (.slice pa' (n + 1) cap') ∧ w'.ownsRow B 24 1 (.slice pa' (n + 1) cap') (n + 1) (xs ++ [.slice a l c]) ∧ blk pa' ≠ some b ∧ Below B w w' := by
  have HX := Lib.hid hx; have HO := Lib.hid ho; have HB := Lib.hid hb
  obtain ⟨i1, hi', hz0', hz1', hz2'⟩ := info_parts (P := Try.prog) (e := 24) (z := .slice none 0 0) (size := 1) (bytes := 24) (by kernel_rfl)
  have HI' := Lib.hid hi'; have HZ0' := Lib.hid hz0'; have HZ1' := Lib.hid hz1'; have HZ2' := Lib.hid hz2'
  have c5 := hx.cell
  have hlt := hx.lt
  clear hi' hz0' hz1' hz2' ho hb hx
  go_enter Try.func39, Try.ntmps39
  go_wp2_with (at_builtin; refine wpList_append_bag _ rfl _ _ 44 rfl B 24 i1 (.slice none 0 0) 24 Try.underlying44 HI'.out HZ0'.out HZ1'.out HZ2'.out rfl pa n cap xs rfl (HO.out.alloc _) _ 1 1 [.slice a l c] rfl rfl (cell_new1 _ _ _) (by intro u hu; rcases List.mem_singleton.1 hu with rfl; rfl) (by decide) (by unfold maxLen; omega) (by omega) (by simp; omega) ?_; intro g cap' w6 hown6 hc6 hlt6; have hbx : Bx w6 b (.slice pa n cap) ∧ b ≠ g ∧ Below B w w6 := (by
    have hx1 := HX.out.grown (grown_alloc w (.cells #[.slice a l c] 24)) (by simp)
    have hB1 := (Below.refl B w).alloc (by omega) (.cells #[.slice a l c] 24)
    have hgB := (hown6.lt g rfl).1
    rcases hc6 with ⟨e, _, hg⟩ | ⟨hge, hg⟩
    · have hne : b ≠ g := fun hh => HB.out (by rw [e, hh]; rfl)
      exact ⟨hx1.grown hg (fun hh => hne (by cases hh; rfl)), hne, hB1.grown hg (by simp; omega) (fun x hx => by cases hx; exact hgB)⟩
    · rw [World.size_alloc] at hge
      exact ⟨hx1.grown hg (by simp), by omega, hB1.grown hg (by simp; omega) (fun x hx => by cases hx)⟩); have HBX := Lib.hid hbx; have HOWN6 := Lib.hid hown6; have c6 := hbx.1.cell; have f6 := hbx.1.free 2; clear hbx hown6 hc6 hlt6)
  go_end0
  exact ⟨rfl, _, cap', HBX.out.1.set _, HOWN6.out.kept (grownSet _ _ _ _) (Or.inr (fun hh => HBX.out.2.1 (by cases hh; rfl))), fun hh => HBX.out.2.1 (by cases hh; rfl), HBX.out.2.2.setCell (p := ⟨b, 2, none⟩) hB _⟩

set_option maxHeartbeats 4000000 in
set_option maxRecDepth 100000 in
theorem apart_any (B b L n cap : Nat) (a : Nat → Option Addr) (l c : Nat → Nat) (h : Nat → Nat → Int) (w : World) (hx : Bx w b (.slice (some ⟨L, 0, none⟩) n cap)) (hb : Bag w B L n a l l c h) (hs : Sep a n) (hno : Not a n L) (hnb : Not a n b) (hBL : B ≤ L) (hLw : L < w.heap.size) (hc : n ≤ cap) (hn : n ≤ 3000) (hl : ∀ k, l k ≤ 1000000) :
    Calls Try.prog 40 #[.pointer (some ⟨b, 0, none⟩)] w fun e w' => e = .returned (.bool true) ∧ Below B w w' := by
  have hBw : B ≤ w.heap.size := by omega
  have HX := Lib.hid hx; have HBG := Lib.hid hb; have HS := Lib.hid hs; have HNO := Lib.hid hno; have HNB := Lib.hid hnb; have HL := Lib.hid hl
  have HB := Lib.hid (Below.refl B w)
  have HSZ := Lib.hid hLw
  clear hb hs hno hnb hl hLw
  have c0 := hx.other (i := 0) (by omega) (by omega)
  clear hx
  go_enter Try.func40, Try.ntmps40
  go_wp2_with fail
  refine (flat0_limbs _).mono ?_
  rintro e w1 ⟨rfl, hB⟩
  have HX1 := Lib.hid (HX.out.grown (grownBelow hB none) (by simp))
  have HB1 := Lib.hid (HB.out.trans (hB.mono hBw))
  have HBG1 := Lib.hid (HBG.out.below hB); have HSZ1 := Lib.hid (Nat.lt_of_lt_of_le HSZ.out hB.size)
  clear hB
  have c1 := HX1.out.other (i := 1) (by omega) (by omega)
  go_wp2_with fail
  refine (flat0_words _).mono ?_
  rintro e w2 ⟨rfl, hB⟩
  have HX2 := Lib.hid (HX1.out.grown (grownBelow hB none) (by simp))
  have HB2 := Lib.hid (HB1.out.trans (hB.mono (Nat.le_trans hBw HB1.out.size)))
  have HBG2 := Lib.hid (HBG1.out.below hB); have HSZ2 := Lib.hid (Nat.lt_of_lt_of_le HSZ1.out hB.size)
  clear hB
  have c2 := HX2.out.cell
  go_wp2_with fail
  refine (flatInts_any B L n cap a l c h _ HBG2.out HS.out HNO.out hBL HSZ2.out hc hn HL.out).mono ?_
  rintro e w3 ⟨rfl, hB⟩
  have HX3 := Lib.hid (show Bx w3 b (.slice (some ⟨L, 0, none⟩) n cap) from (hB.kp b HX2.out.lt HNB.out).trans HX2.out)
  have HB3 := Lib.hid (HB2.out.trans hB.be)
  clear hB
  have c3 := HX3.out.other (i := 3) (by omega) (by omega)
  go_wp2_with fail
  refine (flat0_longs _).mono ?_
  rintro e w4 ⟨rfl, hB⟩
  have HX4 := Lib.hid (HX3.out.grown (grownBelow hB none) (by simp))
  have HB4 := Lib.hid (HB3.out.trans (hB.mono (Nat.le_trans hBw HB3.out.size)))
  clear hB
  have c4 := HX4.out.other (i := 4) (by omega) (by omega)
  go_wp2_with fail
  refine (flat0_texts _).mono ?_
  rintro e w5 ⟨rfl, hB⟩
  have HX5 := Lib.hid (HX4.out.grown (grownBelow hB none) (by simp))
  have HB5 := Lib.hid (HB4.out.trans (hB.mono (Nat.le_trans hBw HB4.out.size)))
  clear hB
  have c5 := HX5.out.other (i := 5) (by omega) (by omega)
  go_wp2_with fail
  refine (flat0_bytes _).mono ?_
  rintro e w6 ⟨rfl, hB⟩
  have HX6 := Lib.hid (HX5.out.grown (grownBelow hB none) (by simp))
  have HB6 := Lib.hid (HB5.out.trans (hB.mono (Nat.le_trans hBw HB5.out.size)))
  clear hB
  have c6 := HX6.out.other (i := 6) (by omega) (by omega)
  go_wp2_with fail
  refine (flat0_truths _).mono ?_
  rintro e w7 ⟨rfl, hB⟩
  have HX7 := Lib.hid (HX6.out.grown (grownBelow hB none) (by simp))
  have HB7 := Lib.hid (HB6.out.trans (hB.mono (Nat.le_trans hBw HB6.out.size)))
  clear hB
  have c7 := HX7.out.other (i := 7) (by omega) (by omega)
  go_wp2_with fail
  refine (flat0_layers _).mono ?_
  rintro e w8 ⟨rfl, hB⟩
  have HX8 := Lib.hid (HX7.out.grown (grownBelow hB none) (by simp))
  have HB8 := Lib.hid (HB7.out.trans (hB.mono (Nat.le_trans hBw HB7.out.size)))
  clear hB
  have c8 := HX8.out.other (i := 8) (by omega) (by omega)
  go_wp2_with fail
  refine (flat0_table _).mono ?_
  rintro e w9 ⟨rfl, hB⟩
  have HX9 := Lib.hid (HX8.out.grown (grownBelow hB none) (by simp))
  have HB9 := Lib.hid (HB8.out.trans (hB.mono (Nat.le_trans hBw HB8.out.size)))
  clear hB
  have c9 := HX9.out.other (i := 9) (by omega) (by omega)
  go_wp2_with fail
  refine (flat0_heads _).mono ?_
  rintro e w10 ⟨rfl, hB⟩
  have HX10 := Lib.hid (HX9.out.grown (grownBelow hB none) (by simp))
  have HB10 := Lib.hid (HB9.out.trans (hB.mono (Nat.le_trans hBw HB9.out.size)))
  clear hB
  have c10 := HX10.out.other (i := 10) (by omega) (by omega)
  go_wp2_with fail
  refine (flat0_counts _).mono ?_
  rintro e w11 ⟨rfl, hB⟩
  have HX11 := Lib.hid (HX10.out.grown (grownBelow hB none) (by simp))
  have HB11 := Lib.hid (HB10.out.trans (hB.mono (Nat.le_trans hBw HB10.out.size)))
  clear hB
  have c11 := HX11.out.other (i := 11) (by omega) (by omega)
  go_wp2_with fail
  refine (flat0_notes _).mono ?_
  rintro e w12 ⟨rfl, hB⟩
  have HX12 := Lib.hid (HX11.out.grown (grownBelow hB none) (by simp))
  have HB12 := Lib.hid (HB11.out.trans (hB.mono (Nat.le_trans hBw HB11.out.size)))
  clear hB
  have c12 := HX12.out.other (i := 12) (by omega) (by omega)
  go_wp2_with fail
  refine (flat0_fates _).mono ?_
  rintro e w13 ⟨rfl, hB⟩
  have HX13 := Lib.hid (HX12.out.grown (grownBelow hB none) (by simp))
  have HB13 := Lib.hid (HB12.out.trans (hB.mono (Nat.le_trans hBw HB12.out.size)))
  clear hB
  go_wp2
  go_ret
  exact ⟨rfl, HB13.out⟩

set_option maxHeartbeats 4000000 in
set_option maxRecDepth 100000 in
/-- lists that lie apart. -/
theorem apartInts_any (B A n cap : Nat) (a : Nat → Option Addr) (l c : Nat → Nat) (h : Nat → Nat → Int) (w : World) (hb : Bag w B A n a l l c h) (hs : Sep a n) (_hA : A < w.heap.size) (hB' : B ≤ w.heap.size) (_hc : n ≤ cap) (hn : n ≤ 3000) (hn0 : 0 < n) (hl : ∀ k, l k ≤ 1000000) :
    Calls Try.prog 18 #[.slice (some ⟨A, 0, none⟩) n cap] w fun e w' => e = .returned (.bool true) ∧ Below B w w' := by
  have HBG := Lib.hid hb; have HS := Lib.hid hs; have HL := Lib.hid hl
  clear hb hs hl
  go_enter Try.func18, Try.ntmps18
  go_wp2_with fail
  obtain ⟨b, hbw⟩ : ∃ b, b = w.heap.size := ⟨_, rfl⟩
  have hx0 : Bx (w.alloc (.cells #[.slice none 0 0, .slice none 0 0, .slice none 0 0, .slice none 0 0, .slice none 0 0, .slice none 0 0, .slice none 0 0, .slice none 0 0, .slice none 0 0, .slice none 0 0, .slice none 0 0, .slice none 0 0, .slice none 0 0] 89)) w.heap.size (.slice none 0 0) := heap_alloc_new _ _
  rw [← hbw] at hx0 ⊢
  have HX0 := Lib.hid hx0; have HBW := Lib.hid hbw; clear hx0 hbw
  go_loopw [4] (fun kv wr => ∃ (k : Nat) (pa : Option Addr) (pc : Nat), k ≤ n ∧ kv = .int .i64 (k : Nat) ∧ Bx wr b (.slice pa k pc) ∧ wr.ownsRow b 24 1 (.slice pa k pc) k ((List.range k).map fun j => Value.slice (a j) (l j) (c j)) ∧ blk pa ≠ some b ∧ Below b w wr) (fun kv _ => n - (intOf kv).toNat)
  case atStart => exact ⟨0, none, 0, by omega, rfl, HX0.out, World.ownsRow_nil _ _ _ _, by simp [blk], by rw [HBW.out]; exact (Below.refl _ _).alloc (Nat.le_refl _) _⟩
  case round =>
    obtain ⟨k, pa, pc, hk, rfl, hx, ho, hp, hB⟩ := hrel
    obtain ⟨wo, rfl⟩ : ∃ wo : World, wo = wr := ⟨_, rfl⟩
    have HX := Lib.hid hx; have HO := Lib.hid ho; have HP := Lib.hid hp; have HB1 := Lib.hid hB
    have hBg : Bag wo B A n a l l c h := HBG.out.below (by rw [← HBW.out]; exact hB)
    have HG := Lib.hid hBg
    have hsz := hB.size
    clear hx ho hp hB hBg
    by_cases hkn : k < n
    · have i1 : (k : Int) < (n : Int) := by omega
      have cl := HG.out.lst k hkn
      go_wp2_with fail
      refine (put_any b b k pc pa (a k) (l k) (c k) _ _ HX.out HO.out HP.out (by omega) (Nat.le_refl _)).mono ?_
      rintro e w1 ⟨rfl, pa', pc', hx, ho, hp, hB⟩
      have HX2 := Lib.hid hx; have HO2 := Lib.hid ho; have HP2 := Lib.hid hp; have HB2 := Lib.hid (HB1.out.trans hB)
      clear hx ho hp hB
      go_wp2
      go_roundw
      case rel => exact ⟨k + 1, pa', pc', by omega, by go_num, HX2.out, by rw [List.range_succ, List.map_append]; exact HO2.out, HP2.out, HB2.out⟩
      case measure => simp [intOf]; omega
    · obtain rfl : n = k := by omega
      have i1 : ¬ (n : Int) < (n : Int) := by omega
      obtain ⟨P, pc2, hpv, hPb, hPlt⟩ := HO.out.form hn0
      simp only [Value.slice.injEq, true_and] at hpv
      obtain ⟨rfl, rfl⟩ := hpv
      have hpc : n ≤ pc := by
        rcases HO.out.2 with ⟨h, _⟩ | ⟨g', cap', cur, h, _, hg, hnc, _, hs, _⟩
        · cases h
        · simp only [Value.slice.injEq, true_and] at h
          omega
      have hlt : ∀ j g, j < n → blk (a j) = some g → g < b := fun j g hj e => by rw [HBW.out]; exact (HBG.out.lt hj e).2
      have hbag : Bag wo B P n a l l c h := ⟨fun j hj => by
        rw [HO.out.cellAt j (by omega)]
        simp [hj], HG.out.own⟩
      go_wp2_with fail
      refine (apart_any B b P n pc a l c h _ HX.out hbag HS.out (fun j hj e => by have := hlt j P hj e; omega) (fun j hj e => by have := hlt j b hj e; omega) (by have := HBW.out; omega) hPlt hpc hn HL.out).mono ?_
      rintro e w2 ⟨rfl, hB⟩
      have HB3 := Lib.hid ((HB1.out.mono (show B ≤ b by rw [HBW.out]; exact hB')).trans hB)
      go_wp2
      go_ret
      exact ⟨rfl, HB3.out⟩
end Go.Proofs.Ythkcacnlinajgaa.Ai

namespace Go.Proofs.Ythkcacnlinajgaa.Wg
open Go.RowKit Go.Shelf
attribute [local go_sem] Oper.semAt_some

theorem blk_si {g n : Nat} {h : Nat → Int} (W : World) (q : Block W g (lentI h n 12) 3) : Si W (some ⟨g, 0, none⟩) n h := ⟨fun i hh => ⟨g, 0, rfl, by rw [Nat.zero_add]; exact q.cell (lentI_lo hh)⟩⟩
theorem ScSays.form {nv nk nm : Nat} {V K W : Nat → Int} {e : Ending} (h : ScSays nv nk nm V K W e) : ∃ s E : Int, e = .returned (.tuple #[.int .i64 s, .int .i64 E]) := by
  rcases h with ⟨_, h⟩ | ⟨_, h⟩
  · exact ⟨_, _, h⟩
  · exact ⟨_, _, h⟩
theorem ScSays.same {nv nk nm : Nat} {V K W : Nat → Int} {e e' : Ending} (h : ScSays nv nk nm V K W e) (h' : ScSays nv nk nm V K W e') : e' = e := by
  rcases h with ⟨h1, rfl⟩ | ⟨h1, rfl⟩ <;> rcases h' with ⟨h2, rfl⟩ | ⟨h2, rfl⟩
  · rfl
  · exact absurd h1 h2
  · exact absurd h2 h1
  · rfl
theorem bool_same {P : Prop} {v v' : Bool} (h : v = true ↔ P) (h' : v' = true ↔ P) : v' = v := by
  cases v <;> cases v'
  · rfl
  · exact absurd (h.2 (h'.1 rfl)) (by simp)
  · exact absurd (h'.2 (h.1 rfl)) (by simp)
  · rfl
theorem BoSays.same {P : Prop} {e e' : Ending} (h : BoSays P e) (h' : BoSays P e') : e' = e := by
  obtain ⟨v, rfl, hv⟩ := h
  obtain ⟨v', rfl, hv'⟩ := h'
  rw [bool_same hv hv']
theorem BtSays.form {nv nk no nm : Nat} {V K O W : Nat → Int} {e : Ending} (h : BtSays nv nk no nm V K O W e) : ∃ (v : Bool) (E : Int), e = .returned (.tuple #[.bool v, .int .i64 E]) := by
  rcases h with ⟨_, h⟩ | ⟨_, v, h, _⟩
  · exact ⟨_, _, h⟩
  · exact ⟨_, _, h⟩
theorem BtSays.same {nv nk no nm : Nat} {V K O W : Nat → Int} {e e' : Ending} (h : BtSays nv nk no nm V K O W e) (h' : BtSays nv nk no nm V K O W e') : e' = e := by
  rcases h with ⟨h1, rfl⟩ | ⟨h1, v, rfl, hv⟩ <;> rcases h' with ⟨h2, rfl⟩ | ⟨h2, v', rfl, hv'⟩
  · rfl
  · exact absurd h2 h1
  · exact absurd h1 h2
  · rw [bool_same hv hv']
/-- both of them, as one. -/
def Ev2 (w : World) (n : Nat) (E : Int) (e : Ending) (w' : World) : Prop := ∃ a c, e = .returned (.tuple #[.slice a n c, .int .i64 E]) ∧ Si w' a n (fun _ => 65536) ∧ Below w.heap.size w w'
theorem even_both (n : Int) : ∃ (m : Nat) (E : Int), m ≤ 256 ∧ ∀ w e w', EvSays n w e w' → Ev2 w m E e w' := by
  by_cases h : 1 ≤ n ∧ n ≤ 255
  · refine ⟨n.toNat + 1, 0, by omega, fun w e w' q => ?_⟩
    rcases q with ⟨q, _⟩ | ⟨N, a, c, rfl, h1, h2, h3, h4⟩
    · exact absurd h q
    · exact ⟨a, c, by rw [Int.toNat_natCast]; exact h2, by rw [Int.toNat_natCast]; exact h3.si, h4⟩
  · refine ⟨0, 2, by omega, fun w e w' q => ?_⟩
    rcases q with ⟨_, q, hB⟩ | ⟨N, a, c, rfl, h1, _⟩
    · exact ⟨none, 0, q, ⟨fun i hi => absurd hi (Nat.not_lt_zero i)⟩, hB⟩
    · exact absurd ⟨by omega, by omega⟩ h
/-- what is lent, and what has not changed. -/
def St (w0 W : World) (ga gb gc gd nv nk no nm : Nat) (V K O Wt : Nat → Int) : Prop := Below w0.heap.size w0 W ∧ Block W ga (lentI V nv 12) 3 ∧ Block W gb (lentI K nk 12) 3 ∧ Block W gc (lentI O no 12) 3 ∧ Block W gd (lentI Wt nm 12) 3
theorem St.same {w0 W W' : World} {ga gb gc gd nv nk no nm : Nat} {V K O Wt : Nat → Int} (h : St w0 W ga gb gc gd nv nk no nm V K O Wt) (hB : Below W.heap.size W W') : St w0 W' ga gb gc gd nv nk no nm V K O Wt :=
  ⟨h.1.trans (hB.mono h.1.size), h.2.1.same hB, h.2.2.1.same hB, h.2.2.2.1.same hB, h.2.2.2.2.same hB⟩

end Go.Proofs.Ythkcacnlinajgaa.Wg
