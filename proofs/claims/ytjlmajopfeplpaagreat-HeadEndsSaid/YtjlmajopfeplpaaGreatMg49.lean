import Derived.Deep.RegionLaw
import Derived.Lib.QuietBelow
import Derived.BigQuiet
import Derived.Test.YtjlmajopfeplpaaGreatMg28
import Derived.Test.YtjlmajopfeplpaaGreatMg30
import Derived.Test.YtjlmajopfeplpaaGreatMg32
import Derived.Test.YtjlmajopfeplpaaGreatMg33
import Derived.Test.YtjlmajopfeplpaaGreatMg45
namespace Go.Proofs.YtjlmajopfeplpaaGreat
open Go.RowKit Go.Shelf

/-- the points of the first K indexes, and no more. -/
def ptk (h : Nat → Int) (K i : Nat) : Nat := if i < K then pts h i else 0
theorem ptk_by (h : Nat → Int) (K : Nat) : Pf.By (ptk h K) := fun i => by
  unfold ptk; split
  · exact pts_by h i
  · omega
theorem ptk_up (h : Nat → Int) (K : Nat) : Pf.Up (ptk h K) K := fun i hi => by unfold ptk; rw [if_neg (by omega)]
theorem ptk_pts (h : Nat → Int) (K : Nat) : ∀ j, j < K → ptk h K j = pts h j := fun j hj => by unfold ptk; rw [if_pos hj]
theorem ptk_dst {h : Nat → Int} {m N K : Nat} (hr : InR h m N) (hd : DsI h m) (hN : N ≤ 255) (hK : K ≤ m) : Pf.Dst (ptk h K) K := fun i j hij hj => by
  rw [ptk_pts h K i (by omega), ptk_pts h K j hj]; exact pts_dst hr hd hN hK i j hij hj
/-- the first t rows. -/
def trk5 (h : Nat → Int) (K t i j : Nat) : Nat := if i < t then Pf.lw (pts h) K (i % 256) j else 0
theorem trk5_bm (h : Nat → Int) (K t : Nat) : Mt.Bm (trk5 h K t) := fun i j => by
  unfold trk5; split
  · exact Pf.lw_by (pts_by h) K (Nat.mod_lt _ (by omega)) j
  · omega
/-- what is told of indexes: an error, or the matrix. -/
def TurnR (h : Nat → Int) (m N K : Nat) (w : World) (e : Ending) (w' : World) : Prop :=
  (∃ E : Int, E ≠ 0 ∧ Chk h m N K E ∧ ErrL w E e w') ∨ (Chk h m N K 0 ∧ LstR w K K (trn h K) e w')

theorem own_other {w w' : World} {B B' s s' n k g c cap' : Nat} {e e' : TypeId} {v : Value} {a : Option Addr} {xs ys : List Value} (ho : w.ownsRow B e s v n xs) (h2 : w.ownsRow B' e' s' (.slice a k c) k ys) (ht : e ≠ e') (hc : a = some ⟨g, 0, none⟩ ∧ cap' = c ∧ w.grownBy w' (some g) ∨ w.heap.size ≤ g ∧ w.grownBy w' none) : w'.ownsRow B e s v n xs := by
  rcases hc with ⟨rfl, _, hg⟩ | ⟨_, hg⟩
  · exact ho.kept hg (own_ty ho h2 ht)
  · exact ho.kept hg (by cases v.ownBlock <;> simp)
/-- numbers, put into a list. -/
def inh (h : Nat → Int) (t : Nat) : List Value := (List.range t).map fun i => .int .i64 (h i)
theorem inh_s (h : Nat → Int) (t : Nat) : inh h (t + 1) = inh h t ++ [.int .i64 (h t)] := by
  unfold inh; rw [List.range_succ, List.map_append]; rfl
theorem inh_si {w : World} {B t ic : Nat} {h : Nat → Int} {ia : Option Addr} (ho : w.ownsRow B 3 1 (.slice ia t ic) t (inh h t)) : Si w ia t h := ⟨fun i hi => by
  obtain ⟨_, ⟨e, h0⟩ | ⟨g, cap', cur, e, hg, hh, hnc, hcm, hs, ht⟩⟩ := ho
  · omega
  · simp only [Value.slice.injEq, true_and] at e
    obtain ⟨rfl, rfl⟩ := e
    refine ⟨g, 0, rfl, ?_⟩
    rw [Nat.zero_add, cell_of_row w g i cur _ _ hh]
    have : (cur.toList.take (t * 1))[i]? = some (.int .i64 (h i)) := by rw [ht]; simp [inh, hi]
    rw [List.getElem?_take, if_pos (by omega), Array.getElem?_toList] at this
    exact this⟩
/-- are the first k as long as the first? -/
def evb (l : Nat → Nat) : Nat → Bool
  | 0 => true
  | k + 1 => evb l k && decide (l k = l 0)
theorem evb_iff {l : Nat → Nat} : ∀ k, evb l k = true ↔ ∀ i, i < k → l i = l 0
  | 0 => ⟨fun _ i hi => absurd hi (Nat.not_lt_zero i), fun _ => rfl⟩
  | k + 1 => by
    unfold evb
    rw [Bool.and_eq_true, evb_iff k]
    refine ⟨fun h i hi => ?_, fun h => ⟨fun i hi => h i (by omega), decide_eq_true (h k (by omega))⟩⟩
    by_cases e : i = k
    · rw [e]; exact of_decide_eq_true h.2
    · exact h.1 i (by omega)
def DecR (h : Nat → Int) (l : Nat → Nat) (f : Nat → Nat → Nat) (m N K : Nat) (w : World) (e : Ending) (w' : World) : Prop :=
  (∃ E : Int, E ≠ 0 ∧ DChk h l m N K E ∧ ErrL w E e w') ∨ (DChk h l m N K 0 ∧ LstR w K (l 0) (dcd h K f) e w')
theorem Tryz.infoInt2 : (Tryz.prog.info? 3).map (fun i => (i.zero, i.size, i.bytes)) = some (some (.int .i64 0), 1, 8) := by kernel_rfl

end Go.Proofs.YtjlmajopfeplpaaGreat

namespace Go.Proofs.YtjlmajopfeplpaaGreat
open Go.RowKit Go.Shelf

/-- what both answer: a list of rows, and an error. -/
def Ou (h wi : Nat) (F : Nat → Nat → Nat) (E : Int) (w : World) (e : Ending) (w' : World) : Prop := ∃ a cap b c, e = .returned (.tuple #[.slice a h cap, .int .i64 E]) ∧ Go_ w' w.heap.size a h cap b (fun _ => wi) c F ∧ Below w.heap.size w w'
theorem Lst.ou {w w' : World} {m wi : Nat} {F : Nat → Nat → Nat} {e : Ending} (h : Lst w m wi F e w') : Ou m wi F 0 w e w' := by
  obtain ⟨G, b, h1, h2, h3⟩ := h
  exact ⟨_, _, b, _, h1, h2.go, h3⟩
theorem LstR.ou {w w' : World} {m wi : Nat} {F : Nat → Nat → Nat} {e : Ending} (h : LstR w m wi F e w') : Ou m wi F 0 w e w' := by
  obtain ⟨G, sc, b, c, h1, h2, h3⟩ := h
  exact ⟨_, _, b, c, h1, h2.go, h3⟩
theorem ErrL.ou {w w' : World} {E : Int} {e : Ending} (h : ErrL w E e w') : Ou 0 0 (fun _ _ => 0) E w e w' := ⟨none, 0, fun _ => 0, fun _ => 0, h.1, go_none _ _ _ _ _, h.2⟩
/-- a row, and an error. -/
def RwE (len : Nat) (F : Nat → Nat) (E : Int) (w : World) (e : Ending) (w' : World) : Prop := ∃ a c, e = .returned (.tuple #[.slice a len c, .int .i64 E]) ∧ Nw w' w.heap.size a len c F ∧ Below w.heap.size w w'

theorem enc_both (n N K : Nat) (l : Nat → Nat) (f : Nat → Nat → Nat) (B : Nat) (hN : N ≤ 255) (hl : ∀ i, i < n → l i ≤ B) (hK : 1 ≤ K) : ∃ h wi F E, h ≤ 255 ∧ wi ≤ B ∧ (∀ w e w', EncSays n N K l f w e w' → Ou h wi F E w e w') ∧ (∀ w e w', EncR n N K l f w e w' → Ou h wi F E w e w') := by
  by_cases hs : IsS n K l
  · refine ⟨N, l 0, enc K f, 0, hN, hl 0 (by rw [hs.1]; exact hK), fun w e w' h => ?_, fun w e w' h => ?_⟩
    · rcases h with ⟨h, _⟩ | ⟨_, h⟩
      · exact absurd hs h
      · exact h.ou
    · rcases h with ⟨h, _⟩ | ⟨_, h⟩
      · exact absurd hs h
      · exact h.ou
  · refine ⟨0, 0, fun _ _ => 0, 2, by omega, Nat.zero_le _, fun w e w' h => ?_, fun w e w' h => ?_⟩
    · rcases h with ⟨_, h⟩ | ⟨h, _⟩
      · exact h.ou
      · exact absurd h hs
    · rcases h with ⟨_, h⟩ | ⟨h, _⟩
      · exact h.ou
      · exact absurd h hs
theorem sym_both (n N K : Nat) (x : Int) (l : Nat → Nat) (f : Nat → Nat → Nat) (B : Nat) (hB : B ≤ 1000000) (hl : ∀ i, i < n → l i ≤ B) (hK : 1 ≤ K) (hf : Mt.Bm f) (hu : ∀ i, i < n → Pf.Up (f i) (l i)) : ∃ len F E, len ≤ B ∧ (∀ w e w', SymSays n N K x l f w e w' → RwE len F E w e w') := by
  by_cases hs : IsS n K l ∧ 0 ≤ x ∧ x < N
  · have hl0 := hl 0 (by rw [hs.1.1]; exact hK)
    refine ⟨l 0, enc K f x.toNat, 0, hl0, fun w e w' h => ?_⟩
    rcases h with ⟨h, _⟩ | ⟨_, _, _, g, rfl, hg, hb, hB2⟩
    · exact absurd hs h
    · refine ⟨_, _, rfl, ⟨hb.sl (Nat.le_refl _) (by unfold maxLen; omega) (enc_bm hf _) (Pf.mv_up (fun p hp => ?_) _), hb.ow hg⟩, hB2⟩
      have hp' : p < n := by rw [hs.1.1]; exact hp
      have := hu p hp'
      rwa [hs.1.2 p hp'] at this
  · refine ⟨0, fun _ => 0, 2, Nat.zero_le _, fun w e w' h => ?_⟩
    rcases h with ⟨_, h1, h2⟩ | ⟨h1, h2, h3, _⟩
    · exact ⟨none, 0, h1, Nw.nil _ _ fun _ => rfl, h2⟩
    · exact absurd ⟨h1, h2, h3⟩ hs
theorem chk_has (h : Nat → Int) (m N K : Nat) : ∃ E, Chk h m N K E := by
  by_cases h1 : InR h m N
  · by_cases h2 : DsI h m
    · by_cases h3 : m < K
      · exact ⟨8, Or.inr (Or.inr (Or.inl ⟨h1, h2, h3, rfl⟩))⟩
      · exact ⟨0, Or.inr (Or.inr (Or.inr ⟨h1, h2, by omega, rfl⟩))⟩
    · exact ⟨9, Or.inr (Or.inl ⟨h1, h2, rfl⟩)⟩
  · exact ⟨2, Or.inl ⟨h1, rfl⟩⟩
theorem dchk_has (h : Nat → Int) (l : Nat → Nat) (m N K : Nat) : ∃ E, DChk h l m N K E := by
  by_cases h1 : ∀ i, i < m → l i = l 0
  · obtain ⟨E, hE⟩ := chk_has h m N K
    exact ⟨E, Or.inr ⟨h1, hE⟩⟩
  · exact ⟨2, Or.inl ⟨h1, rfl⟩⟩
theorem turn_both (h : Nat → Int) (m N K : Nat) (hK : K ≤ 255) : ∃ hh F E, hh ≤ 255 ∧ (∀ w e w', TurnSays h m N K w e w' → Ou hh hh F E w e w') ∧ (∀ w e w', TurnR h m N K w e w' → Ou hh hh F E w e w') := by
  obtain ⟨E, hE⟩ := chk_has h m N K
  by_cases hz : E = 0
  · subst hz
    refine ⟨K, trn h K, 0, hK, fun w e w' q => ?_, fun w e w' q => ?_⟩
    · rcases q with ⟨E2, h1, h2, _⟩ | ⟨_, G, b, h1, h2, h3⟩
      · exact absurd (h2.uniq hE) h1
      · exact ⟨_, _, b, _, h1, h2.go, h3⟩
    · rcases q with ⟨E2, h1, h2, _⟩ | ⟨_, h⟩
      · exact absurd (h2.uniq hE) h1
      · exact h.ou
  · refine ⟨0, fun _ _ => 0, E, by omega, fun w e w' q => ?_, fun w e w' q => ?_⟩
    · rcases q with ⟨E2, h1, h2, h3, h4⟩ | ⟨h1, _⟩
      · obtain rfl := h2.uniq hE
        exact ErrL.ou ⟨h3, h4⟩
      · exact absurd (hE.uniq h1) hz
    · rcases q with ⟨E2, h1, h2, h3⟩ | ⟨h1, _⟩
      · obtain rfl := h2.uniq hE
        exact h3.ou
      · exact absurd (hE.uniq h1) hz
theorem dec_both (h : Nat → Int) (l : Nat → Nat) (f : Nat → Nat → Nat) (m N K B : Nat) (hK : K ≤ 255) (hK1 : 1 ≤ K) (hl : ∀ i, i < m → l i ≤ B) : ∃ hh wi F E, hh ≤ 255 ∧ wi ≤ B ∧ (∀ w e w', DecSays h l f m N K w e w' → Ou hh wi F E w e w') ∧ (∀ w e w', DecR h l f m N K w e w' → Ou hh wi F E w e w') := by
  obtain ⟨E, hE⟩ := dchk_has h l m N K
  by_cases hz : E = 0
  · subst hz
    have hm := (dchk_ok hE).2.2.2
    refine ⟨K, l 0, dcd h K f, 0, hK, hl 0 (by omega), fun w e w' q => ?_, fun w e w' q => ?_⟩
    · rcases q with ⟨E2, h1, h2, _⟩ | ⟨_, h⟩
      · exact absurd (h2.uniq hE) h1
      · exact h.ou
    · rcases q with ⟨E2, h1, h2, _⟩ | ⟨_, h⟩
      · exact absurd (h2.uniq hE) h1
      · exact h.ou
  · refine ⟨0, 0, fun _ _ => 0, E, by omega, Nat.zero_le _, fun w e w' q => ?_, fun w e w' q => ?_⟩
    · rcases q with ⟨E2, h1, h2, h3⟩ | ⟨h1, _⟩
      · obtain rfl := h2.uniq hE
        exact h3.ou
      · exact absurd (hE.uniq h1) hz
    · rcases q with ⟨E2, h1, h2, h3⟩ | ⟨h1, _⟩
      · obtain rfl := h2.uniq hE
        exact h3.ou
      · exact absurd (hE.uniq h1) hz

/-- the k-th of three. -/
def tri {α : Type} (x0 x1 x2 : α) : Nat → α
  | 0 => x0 | 1 => x1 | _ => x2
theorem tri_all {P : Nat → Prop} (h0 : P 0) (h1 : P 1) (h2 : P 2) : ∀ k, k < 3 → P k := fun k hk => by
  rcases (show k = 0 ∨ k = 1 ∨ k = 2 by omega) with rfl | rfl | rfl <;> assumption
theorem tri_two {P : Nat → Nat → Prop} (hs : ∀ i j, P i j → P j i) (h01 : P 0 1) (h02 : P 0 2) (h12 : P 1 2) : ∀ i j, i < 3 → j < 3 → i ≠ j → P i j := fun i j hi hj hne => by
  rcases (show i = 0 ∨ i = 1 ∨ i = 2 by omega) with rfl | rfl | rfl <;> rcases (show j = 0 ∨ j = 1 ∨ j = 2 by omega) with rfl | rfl | rfl <;> first | (exact absurd rfl hne) | assumption | (exact hs _ _ (by assumption))
theorem Go_.gx {w : World} {B n cap : Nat} {a : Option Addr} {b l c : Nat → Nat} {f : Nat → Nat → Nat} (h : Go_ w B a n cap b l c f) : Ar.Gx w B a n cap (fun i => some ⟨b i, 0, none⟩) l c f := by
  rcases h with ⟨hb, ⟨rfl, rfl, rfl⟩ | ⟨G, rfl, h⟩⟩
  · exact ⟨Or.inl ⟨rfl, rfl, rfl⟩, fun i hi => absurd hi (Nat.not_lt_zero i)⟩
  · obtain ⟨vs, h1, h2, h3⟩ := h.blk
    refine ⟨Or.inr ⟨G, vs, rfl, h.lo.1, h1, by have := h.nc.1; omega, h.nc.1, h.nc.2, h3⟩, fun i hi => ?_⟩
    have hr := (h.row i hi).sl (h.lc i hi).1 (h.lc i hi).2 (h.bm i) (h.up i hi)
    exact nw_owns ⟨hr, (h.row i hi).ow (h.lo.2 i hi)⟩
/-- where a matrix of its own lies. -/
theorem Go_.lies2 {w : World} {B n cap : Nat} {a : Option Addr} {b l c : Nat → Nat} {f : Nat → Nat → Nat} (h : Go_ w B a n cap b l c f) : (∀ i, i < n → ∀ g, blk (some (⟨b i, 0, none⟩ : Addr)) = some g → B ≤ g ∧ g < w.heap.size) ∧ ∀ G, a = some ⟨G, 0, none⟩ → B ≤ G ∧ G < w.heap.size := by
  rcases h.2 with ⟨rfl, rfl, _⟩ | ⟨G, rfl, hG⟩
  · exact ⟨fun i hi => absurd hi (Nat.not_lt_zero i), fun _ e => (by cases e)⟩
  · refine ⟨fun i hi g e => ?_, fun G' e => ?_⟩
    · simp only [blk, Option.map_some, Option.some.injEq] at e
      subst e; exact ⟨hG.lo.2 i hi, hG.ltb hi⟩
    · cases e; exact ⟨hG.lo.1, hG.ltG⟩
theorem Go_.inj2 {w : World} {B n cap : Nat} {a : Option Addr} {b l c : Nat → Nat} {f : Nat → Nat → Nat} (h : Go_ w B a n cap b l c f) {i i' g : Nat} (hi : i < n) (hi' : i' < n) (e1 : blk (some (⟨b i, 0, none⟩ : Addr)) = some g) (e2 : blk (some (⟨b i', 0, none⟩ : Addr)) = some g) : i = i' := by
  obtain ⟨G, _, hG⟩ := h.pos (by omega)
  simp only [blk, Option.map_some, Option.some.injEq] at e1 e2
  exact hG.inj i i' hi hi' (e1.trans e2.symm)
/-- a list of one row. -/
theorem Nw.gx {w : World} {B len c : Nat} {a : Option Addr} {F : Nat → Nat} {G : Nat} (h : Nw w B a len c F) (hG : w.heap[G]? = some (.cells #[.slice a len c] 28 (0, 0))) (hB : B ≤ G) : Ar.Gx w B (some ⟨G, 0, none⟩) 1 1 (fun _ => a) (fun _ => len) (fun _ => c) (fun _ => F) :=
  ⟨Or.inr ⟨G, _, rfl, hB, hG, Nat.le_refl _, Nat.le_refl _, by unfold maxLen; omega, fun i hi => by
    obtain rfl : i = 0 := by omega
    rfl⟩, fun _ _ => nw_owns h⟩
end Go.Proofs.YtjlmajopfeplpaaGreat

namespace Go.Proofs.YtjlmajopfeplpaaGreat
open Go.RowKit Go.Shelf

/-- a slice of numbers, as it reads. -/
structure Hi (w : World) (a : Option Addr) (len cap : Nat) (h : Nat → Int) : Prop where
  capOk : len ≤ cap
  maxOk : cap ≤ maxLen
  nil : a = none → len = 0 ∧ cap = 0
  spot : ∀ ad, a = some ad → len ≠ 0 → ad.spot = none
  cell : ∀ ad, a = some ad → ∀ i, i < len → w.cell? ⟨ad.block, ad.off + i, none⟩ = some (.int .i64 (h i))
section
variable {w w' : World} {a : Option Addr} {len cap : Nat} {h : Nat → Int}
theorem Hi.same (s : Hi w a len cap h) (hB : Below w.heap.size w w') : Hi w' a len cap h := ⟨s.capOk, s.maxOk, s.nil, s.spot, fun ad ha i hi => by
  have hc := s.cell ad ha i hi
  rw [hB.cell (World.block_lt_of_cell? _ _ hc)]; exact hc⟩
theorem Hi.si (s : Hi w a len cap h) : Si w a len h := ⟨fun i hi => by
  cases a with
  | none => have := s.nil rfl; omega
  | some ad =>
    have hc := s.cell ad rfl i hi
    obtain ⟨b, off, spot⟩ := ad
    obtain rfl : spot = none := s.spot _ rfl (by omega)
    exact ⟨b, off, rfl, hc⟩⟩
theorem Hi.news (s : Hi w a len cap h) : ∀ ad, a = some ad → ∀ j u, (inh h len)[j]? = some u → w.cell? (ad.add j) = some u := fun ad ha j u hu => by
  have hj : j < len := by
    have := (List.getElem?_eq_some_iff.1 hu).1
    rwa [inh, List.length_map, List.length_range] at this
  have hs := s.spot ad ha (by omega)
  have hc := s.cell ad ha j hj
  obtain ⟨b, off, spot⟩ := ad
  simp only at hs; subst hs
  rw [Addr.add_lit, hc, ← hu]
  simp [inh, hj]
theorem hi_row {zs : List Int}
    (h : (a = none ∧ len = 0 ∧ cap = 0 ∧ zs = []) ∨
      ∃ x, a = some x ∧ len ≤ cap ∧ cap ≤ maxLen ∧ zs.length = cap ∧ (∀ i, i < zs.length → w.cell? (x.add i) = some (.int .i64 (zs.getD i 0))) ∧ ∀ n ∈ zs, (Lit.int .i64 n).wf = true) : Hi w a len cap (fun i => zs.getD i 0) := by
  rcases h with ⟨rfl, rfl, rfl, rfl⟩ | ⟨x, rfl, hl, hm, hz, hc, hw⟩
  · exact ⟨Nat.le_refl _, by unfold maxLen; omega, fun _ => ⟨rfl, rfl⟩, fun _ e => (by cases e), fun _ e => (by cases e)⟩
  · have hsp : ∀ i, i < zs.length → x.spot = none := fun i hi => by
      have h0 := hc 0 (by omega)
      rw [Addr.add_zero'] at h0
      simpa using World.cell?_spot h0
    refine ⟨hl, hm, fun e => (by cases e), fun ad e hne => ?_, fun ad e i hi => ?_⟩
    · cases e; exact hsp 0 (by omega)
    · cases e
      have hs := hsp 0 (by omega)
      have hci := hc i (by omega)
      obtain ⟨b, off, spot⟩ := x
      simp only at hs; subst hs
      rw [Addr.add_lit] at hci
      exact hci
end
theorem inh_len (h : Nat → Int) (n : Nat) : (inh h n).length = n := by simp [inh]
theorem inh_ones (h : Nat → Int) (n : Nat) : ∀ u ∈ inh h n, u.oneCell' = true := fun u hu => by
  obtain ⟨x, _, rfl⟩ := List.mem_map.1 hu
  rfl
/-- numbers, and so many marks. -/
def mkI (i : Nat) : Int := 8000024 + (i : Int)
def lentI (h : Nat → Int) (n m : Nat) : List Value := inh h n ++ inh mkI m
theorem lentI_s (h : Nat → Int) (n m : Nat) : lentI h n (m + 1) = lentI h n m ++ [.int .i64 (mkI m)] := by unfold lentI; rw [inh_s, List.append_assoc]
theorem lentI_lo {h : Nat → Int} {n m j : Nat} (hj : j < n) : (lentI h n m)[j]? = some (.int .i64 (h j)) := by
  unfold lentI
  rw [List.getElem?_append_left (by rw [inh_len]; exact hj)]
  simp [inh, hj]
theorem lentI_hi {h : Nat → Int} {n m j : Nat} (h1 : n ≤ j) (h2 : j < n + m) : (lentI h n m)[j]? = some (.int .i64 (mkI (j - n))) := by
  unfold lentI
  rw [List.getElem?_append_right (by rw [inh_len]; exact h1), inh_len]
  simp [inh, show j - n < m by omega]
theorem mark1_any (i : Int) (hi0 : 0 ≤ i) (hi : i ≤ 1000000000000) (w : World) :
    Calls Tryz.prog 54 #[.int .i64 1, .int .i64 i] w fun e w' => e = .returned (.int .i64 (8000024 + i)) ∧ w' = w :=
  (mark_any 1 i (by omega) (by omega) hi0 hi w).mono fun e w' ⟨h1, h2⟩ => ⟨by rw [h1]; congr 2, h2⟩

theorem ownsRow_wholeI {w : World} {B n g : Nat} {e : TypeId} {xs : List Value} (h : w.ownsRow B e 1 (.slice (some ⟨g, 0, none⟩) n n) n xs) : Block w g xs e := ownsRow_whole h

end Go.Proofs.YtjlmajopfeplpaaGreat

namespace Go.Proofs.YtjlmajopfeplpaaGreat.Wg
open Go.RowKit Go.Shelf

/-- a closure that answers a number of each place. -/
structure AskN (w0 : World) (cf n : Nat) (caps : Array Value) (K : Nat → Int) : Prop where
  ent : ∀ (args : Array Value) (W : World), (callFunc cf args).run Tryz.prog W = .ok (.enter cf args) W
  call : ∀ W, Below w0.heap.size w0 W → ∀ j : Nat, j < n → Calls Tryz.prog cf (#[.int .i64 (j : Nat)] ++ caps) W fun e W' => e = .returned (.int .i64 (K j)) ∧ W' = W
theorem AskN.same {w0 W : World} {cf n : Nat} {caps : Array Value} {K : Nat → Int} (h : AskN w0 cf n caps K) (hB : Below w0.heap.size w0 W) : AskN W cf n caps K := ⟨h.ent, fun X hX j hj => h.call X (hB.trans (hX.mono hB.size)) j hj⟩
theorem AskN.less {w0 : World} {cf n m : Nat} {caps : Array Value} {K : Nat → Int} (h : AskN w0 cf n caps K) (hm : m ≤ n) : AskN w0 cf m caps K := ⟨h.ent, fun X hX j hj => h.call X hX j (by omega)⟩
/-- the numbers, one place further on. -/
def beh (x : Int) (K : Nat → Int) : Nat → Int
  | 0 => x
  | j + 1 => K j
def ClSays (w : World) (n : Nat) (K : Nat → Int) (e : Ending) (w' : World) : Prop := ∃ cf caps, e = .returned (.func (.func cf) #[] caps) ∧ AskN w' cf n caps K ∧ Below w.heap.size w w'
end Go.Proofs.YtjlmajopfeplpaaGreat.Wg

namespace Go.Proofs.YtjlmajopfeplpaaGreat.Wg
open Go.RowKit Go.Shelf

/-- what asks whether numbers stand so. -/
structure SoN (cs : Nat) (R : Int → Int → Bool) : Prop where
  ent : ∀ (args : Array Value) (W : World), (callFunc cs args).run Tryz.prog W = .ok (.enter cs args) W
  call : ∀ (x y : Int) (W : World), Calls Tryz.prog cs #[.int .i64 x, .int .i64 y] W fun e W' => e = .returned (.bool (R x y)) ∧ W' = W
/-- the first place. -/
def FsSays (n : Nat) (R : Int → Int → Bool) (K L : Nat → Int) (e : Ending) : Prop := ∃ p : Nat, e = .returned (.int .i64 (p : Nat)) ∧ p ≤ n ∧ (∀ j, j < p → R (K j) (L j) = false) ∧ (p < n → R (K p) (L p) = true)
/-- a Boolean that tells of something. -/
def BoSays (P : Prop) (e : Ending) : Prop := ∃ v : Bool, e = .returned (.bool v) ∧ (v = true ↔ P)
/-- at the first place at which they are not the same, the one is the lesser one. -/
def Ahd (n : Nat) (K L : Nat → Int) : Prop := ∃ p, p < n ∧ (∀ j, j < p → K j = L j) ∧ K p < L p
end Go.Proofs.YtjlmajopfeplpaaGreat.Wg

namespace Go.Proofs.YtjlmajopfeplpaaGreat.Wg
open Go.RowKit Go.Shelf
attribute [local go_sem] Oper.semAt_some

/-- numbers that are weights for n. -/
def RW (n : Int) (m : Nat) (W : Nat → Int) : Prop := (1 ≤ n ∧ n ≤ 255) ∧ (m : Int) = n + 1 ∧ (∀ i, i < m → 0 ≤ W i) ∧ ∀ i, i < m → W i ≤ beh 65536 W i
theorem RW.le {n : Int} {m : Nat} {W : Nat → Int} (h : RW n m W) : ∀ i, i < m → W i ≤ 65536
  | 0, h0 => h.2.2.2 0 h0
  | i + 1, h1 => Int.le_trans (h.2.2.2 (i + 1) h1) (h.le i (by omega))
theorem BoSays.no {P : Prop} (h : ¬ P) : BoSays P (.returned (.bool false)) := ⟨false, rfl, fun e => (by cases e), fun e => absurd e h⟩
theorem BoSays.yes {P : Prop} (h : P) : BoSays P (.returned (.bool true)) := ⟨true, rfl, fun _ => h, fun _ => rfl⟩
/-- whether there is a score. -/
def FitW (nv nk nm : Nat) (V K W : Nat → Int) : Prop := RW ((nm : Int) - 1) nm W ∧ nv = nk ∧ nv ≤ 8 ∧ (∀ j, j < nv → 0 ≤ V j) ∧ (∀ j, j < nv → V j ≤ 1048576) ∧ (∀ j, j < nv → 1 ≤ K j) ∧ ∀ j, j < nv → K j ≤ (nm : Int) - 1
end Go.Proofs.YtjlmajopfeplpaaGreat.Wg
