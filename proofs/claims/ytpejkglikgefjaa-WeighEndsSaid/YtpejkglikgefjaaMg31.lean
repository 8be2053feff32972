import Derived.Deep.RegionLaw
import Derived.Lib.QuietBelow
import Derived.BigQuiet
import Derived.Laws.CopyOwn
import Derived.Laws.Tables
import Derived.Laws.BitsAllLaws
import Derived.RegionTactic
import Derived.BigRegion
import Derived.WalkKit
import Derived.WalkSpells
import Derived.Test.YtpejkglikgefjaaMg21
import Derived.Test.YtpejkglikgefjaaMg23
import Derived.Test.YtpejkglikgefjaaMg25
import Derived.Test.YtpejkglikgefjaaMg26
import Derived.Test.YtpejkglikgefjaaMg30
namespace Go.Proofs.Ytpejkglikgefjaa
open Go.RowKit Go.Shelf

/-- the points of the first K indexes, and no more. -/
def ptk (h : Nat → Int) (K i : Nat) : Nat := if i < K then pts h i else 0
theorem ptk_by (h : Nat → Int) (K : Nat) : Pf.By (ptk h K) := fun i => by
  unfold ptk; split
  · exact pts_by h i
  · omega
theorem ptk_up (h : Nat → Int) (K : Nat) : Pf.Up (ptk h K) K := fun i hi => by unfold ptk; rw [if_neg (by omega)]
theorem ptk_pts (h : Nat → Int) (K : Nat) : ∀ j, j < K → ptk h K j = pts h j := fun j hj => by unfold ptk; rw [if_pos hj]
theorem ptk_dst {h : Nat → Int} {m N K : Nat} (hr : InR h m N) (hd : DsI h m) (hN : N ≤ 255) (hK : K ≤ m) : Pf.Dst (ptk h K) K := fun i j hij hj => by
  rw [ptk_pts h K i (by omega), ptk_pts h K j hj]; exact pts_dst hr hd hN hK i j hij hj
/-- the first t rows. -/
def trk5 (h : Nat → Int) (K t i j : Nat) : Nat := if i < t then Pf.lw (pts h) K (i % 256) j else 0
theorem trk5_bm (h : Nat → Int) (K t : Nat) : Mt.Bm (trk5 h K t) := fun i j => by
  unfold trk5; split
  · exact Pf.lw_by (pts_by h) K (Nat.mod_lt _ (by omega)) j
  · omega
theorem own_other {w w' : World} {B B' s s' n k g c cap' : Nat} {e e' : TypeId} {v : Value} {a : Option Addr} {xs ys : List Value} (ho : w.ownsRow B e s v n xs) (h2 : w.ownsRow B' e' s' (.slice a k c) k ys) (ht : e ≠ e') (hc : a = some ⟨g, 0, none⟩ ∧ cap' = c ∧ w.grownBy w' (some g) ∨ w.heap.size ≤ g ∧ w.grownBy w' none) : w'.ownsRow B e s v n xs := by
  rcases hc with ⟨rfl, _, hg⟩ | ⟨_, hg⟩
  · exact ho.kept hg (own_ty ho h2 ht)
  · exact ho.kept hg (by cases v.ownBlock <;> simp)
/-- numbers, put into a list. -/
def inh (h : Nat → Int) (t : Nat) : List Value := (List.range t).map fun i => .int .i64 (h i)
theorem inh_s (h : Nat → Int) (t : Nat) : inh h (t + 1) = inh h t ++ [.int .i64 (h t)] := by
  unfold inh; rw [List.range_succ, List.map_append]; rfl
theorem inh_si {w : World} {B t ic : Nat} {h : Nat → Int} {ia : Option Addr} (ho : w.ownsRow B 3 1 (.slice ia t ic) t (inh h t)) : Si w ia t h := ⟨fun i hi => by
  obtain ⟨_, ⟨e, h0⟩ | ⟨g, cap', cur, e, hg, hh, hnc, hcm, hs, ht⟩⟩ := ho
  · omega
  · simp only [Value.slice.injEq, true_and] at e
    obtain ⟨rfl, rfl⟩ := e
    refine ⟨g, 0, rfl, ?_⟩
    rw [Nat.zero_add, cell_of_row w g i cur _ _ hh]
    have : (cur.toList.take (t * 1))[i]? = some (.int .i64 (h i)) := by rw [ht]; simp [inh, hi]
    rw [List.getElem?_take, if_pos (by omega), Array.getElem?_toList] at this
    exact this⟩
/-- are the first k as long as the first? -/
def evb (l : Nat → Nat) : Nat → Bool
  | 0 => true
  | k + 1 => evb l k && decide (l k = l 0)
theorem evb_iff {l : Nat → Nat} : ∀ k, evb l k = true ↔ ∀ i, i < k → l i = l 0
  | 0 => ⟨fun _ i hi => absurd hi (Nat.not_lt_zero i), fun _ => rfl⟩
  | k + 1 => by
    unfold evb
    rw [Bool.and_eq_true, evb_iff k]
    refine ⟨fun h i hi => ?_, fun h => ⟨fun i hi => h i (by omega), decide_eq_true (h k (by omega))⟩⟩
    by_cases e : i = k
    · rw [e]; exact of_decide_eq_true h.2
    · exact h.1 i (by omega)
theorem Try.infoInt2 : (Try.prog.info? 3).map (fun i => (i.zero, i.size, i.bytes)) = some (some (.int .i64 0), 1, 8) := by kernel_rfl

end Go.Proofs.Ytpejkglikgefjaa

namespace Go.Proofs.Ytpejkglikgefjaa
open Go.RowKit Go.Shelf

/-- a row, and an error. -/
def RwE (len : Nat) (F : Nat → Nat) (E : Int) (w : World) (e : Ending) (w' : World) : Prop := ∃ a c, e = .returned (.tuple #[.slice a len c, .int .i64 E]) ∧ Nw w' w.heap.size a len c F ∧ Below w.heap.size w w'

theorem sym_both (n N K : Nat) (x : Int) (l : Nat → Nat) (f : Nat → Nat → Nat) (B : Nat) (hB : B ≤ 1000000) (hl : ∀ i, i < n → l i ≤ B) (hK : 1 ≤ K) (hf : Mt.Bm f) (hu : ∀ i, i < n → Pf.Up (f i) (l i)) : ∃ len F E, len ≤ B ∧ (∀ w e w', SymSays n N K x l f w e w' → RwE len F E w e w') := by
  by_cases hs : IsS n K l ∧ 0 ≤ x ∧ x < N
  · have hl0 := hl 0 (by rw [hs.1.1]; exact hK)
    refine ⟨l 0, enc K f x.toNat, 0, hl0, fun w e w' h => ?_⟩
    rcases h with ⟨h, _⟩ | ⟨_, _, _, g, rfl, hg, hb, hB2⟩
    · exact absurd hs h
    · refine ⟨_, _, rfl, ⟨hb.sl (Nat.le_refl _) (by unfold maxLen; omega) (enc_bm hf _) (Pf.mv_up (fun p hp => ?_) _), hb.ow hg⟩, hB2⟩
      have hp' : p < n := by rw [hs.1.1]; exact hp
      have := hu p hp'
      rwa [hs.1.2 p hp'] at this
  · refine ⟨0, fun _ => 0, 2, Nat.zero_le _, fun w e w' h => ?_⟩
    rcases h with ⟨_, h1, h2⟩ | ⟨h1, h2, h3, _⟩
    · exact ⟨none, 0, h1, Nw.nil _ _ fun _ => rfl, h2⟩
    · exact absurd ⟨h1, h2, h3⟩ hs
theorem chk_has (h : Nat → Int) (m N K : Nat) : ∃ E, Chk h m N K E := by
  by_cases h1 : InR h m N
  · by_cases h2 : DsI h m
    · by_cases h3 : m < K
      · exact ⟨8, Or.inr (Or.inr (Or.inl ⟨h1, h2, h3, rfl⟩))⟩
      · exact ⟨0, Or.inr (Or.inr (Or.inr ⟨h1, h2, by omega, rfl⟩))⟩
    · exact ⟨9, Or.inr (Or.inl ⟨h1, h2, rfl⟩)⟩
  · exact ⟨2, Or.inl ⟨h1, rfl⟩⟩
theorem dchk_has (h : Nat → Int) (l : Nat → Nat) (m N K : Nat) : ∃ E, DChk h l m N K E := by
  by_cases h1 : ∀ i, i < m → l i = l 0
  · obtain ⟨E, hE⟩ := chk_has h m N K
    exact ⟨E, Or.inr ⟨h1, hE⟩⟩
  · exact ⟨2, Or.inl ⟨h1, rfl⟩⟩
/-- the k-th of three. -/
def tri {α : Type} (x0 x1 x2 : α) : Nat → α
  | 0 => x0 | 1 => x1 | _ => x2
theorem tri_all {P : Nat → Prop} (h0 : P 0) (h1 : P 1) (h2 : P 2) : ∀ k, k < 3 → P k := fun k hk => by
  rcases (show k = 0 ∨ k = 1 ∨ k = 2 by omega) with rfl | rfl | rfl <;> assumption
theorem tri_two {P : Nat → Nat → Prop} (hs : ∀ i j, P i j → P j i) (h01 : P 0 1) (h02 : P 0 2) (h12 : P 1 2) : ∀ i j, i < 3 → j < 3 → i ≠ j → P i j := fun i j hi hj hne => by
  rcases (show i = 0 ∨ i = 1 ∨ i = 2 by omega) with rfl | rfl | rfl <;> rcases (show j = 0 ∨ j = 1 ∨ j = 2 by omega) with rfl | rfl | rfl <;> first | (exact absurd rfl hne) | assumption | (exact hs _ _ (by assumption))
end Go.Proofs.Ytpejkglikgefjaa

namespace Go.Proofs.Ytpejkglikgefjaa
open Go.RowKit Go.Shelf

/-- a slice of numbers, as it reads. -/
structure Hi (w : World) (a : Option Addr) (len cap : Nat) (h : Nat → Int) : Prop where
  capOk : len ≤ cap
  maxOk : cap ≤ maxLen
  nil : a = none → len = 0 ∧ cap = 0
  spot : ∀ ad, a = some ad → len ≠ 0 → ad.spot = none
  cell : ∀ ad, a = some ad → ∀ i, i < len → w.cell? ⟨ad.block, ad.off + i, none⟩ = some (.int .i64 (h i))
section
variable {w w' : World} {a : Option Addr} {len cap : Nat} {h : Nat → Int}
theorem Hi.same (s : Hi w a len cap h) (hB : Below w.heap.size w w') : Hi w' a len cap h := ⟨s.capOk, s.maxOk, s.nil, s.spot, fun ad ha i hi => by
  have hc := s.cell ad ha i hi
  rw [hB.cell (World.block_lt_of_cell? _ _ hc)]; exact hc⟩
theorem Hi.si (s : Hi w a len cap h) : Si w a len h := ⟨fun i hi => by
  cases a with
  | none => have := s.nil rfl; omega
  | some ad =>
    have hc := s.cell ad rfl i hi
    obtain ⟨b, off, spot⟩ := ad
    obtain rfl : spot = none := s.spot _ rfl (by omega)
    exact ⟨b, off, rfl, hc⟩⟩
theorem Hi.news (s : Hi w a len cap h) : ∀ ad, a = some ad → ∀ j u, (inh h len)[j]? = some u → w.cell? (ad.add j) = some u := fun ad ha j u hu => by
  have hj : j < len := by
    have := (List.getElem?_eq_some_iff.1 hu).1
    rwa [inh, List.length_map, List.length_range] at this
  have hs := s.spot ad ha (by omega)
  have hc := s.cell ad ha j hj
  obtain ⟨b, off, spot⟩ := ad
  simp only at hs; subst hs
  rw [Addr.add_lit, hc, ← hu]
  simp [inh, hj]
theorem hi_row {zs : List Int}
    (h : (a = none ∧ len = 0 ∧ cap = 0 ∧ zs = []) ∨
      ∃ x, a = some x ∧ len ≤ cap ∧ cap ≤ maxLen ∧ zs.length = cap ∧ (∀ i, i < zs.length → w.cell? (x.add i) = some (.int .i64 (zs.getD i 0))) ∧ ∀ n ∈ zs, (Lit.int .i64 n).wf = true) : Hi w a len cap (fun i => zs.getD i 0) := by
  rcases h with ⟨rfl, rfl, rfl, rfl⟩ | ⟨x, rfl, hl, hm, hz, hc, hw⟩
  · exact ⟨Nat.le_refl _, by unfold maxLen; omega, fun _ => ⟨rfl, rfl⟩, fun _ e => (by cases e), fun _ e => (by cases e)⟩
  · have hsp : ∀ i, i < zs.length → x.spot = none := fun i hi => by
      have h0 := hc 0 (by omega)
      rw [Addr.add_zero'] at h0
      simpa using World.cell?_spot h0
    refine ⟨hl, hm, fun e => (by cases e), fun ad e hne => ?_, fun ad e i hi => ?_⟩
    · cases e; exact hsp 0 (by omega)
    · cases e
      have hs := hsp 0 (by omega)
      have hci := hc i (by omega)
      obtain ⟨b, off, spot⟩ := x
      simp only at hs; subst hs
      rw [Addr.add_lit] at hci
      exact hci
end
theorem inh_len (h : Nat → Int) (n : Nat) : (inh h n).length = n := by simp [inh]
theorem inh_ones (h : Nat → Int) (n : Nat) : ∀ u ∈ inh h n, u.oneCell' = true := fun u hu => by
  obtain ⟨x, _, rfl⟩ := List.mem_map.1 hu
  rfl
/-- numbers, and so many marks. -/
def mkI (i : Nat) : Int := 8000024 + (i : Int)
def lentI (h : Nat → Int) (n m : Nat) : List Value := inh h n ++ inh mkI m
theorem lentI_s (h : Nat → Int) (n m : Nat) : lentI h n (m + 1) = lentI h n m ++ [.int .i64 (mkI m)] := by unfold lentI; rw [inh_s, List.append_assoc]
theorem lentI_lo {h : Nat → Int} {n m j : Nat} (hj : j < n) : (lentI h n m)[j]? = some (.int .i64 (h j)) := by
  unfold lentI
  rw [List.getElem?_append_left (by rw [inh_len]; exact hj)]
  simp [inh, hj]
theorem lentI_hi {h : Nat → Int} {n m j : Nat} (h1 : n ≤ j) (h2 : j < n + m) : (lentI h n m)[j]? = some (.int .i64 (mkI (j - n))) := by
  unfold lentI
  rw [List.getElem?_append_right (by rw [inh_len]; exact h1), inh_len]
  simp [inh, show j - n < m by omega]
theorem mark1_any (i : Int) (hi0 : 0 ≤ i) (hi : i ≤ 1000000000000) (w : World) :
    Calls Try.prog 20 #[.int .i64 1, .int .i64 i] w fun e w' => e = .returned (.int .i64 (8000024 + i)) ∧ w' = w :=
  (mark_any 1 i (by omega) (by omega) hi0 hi w).mono fun e w' ⟨h1, h2⟩ => ⟨by rw [h1]; congr 2, h2⟩

theorem ownsRow_wholeI {w : World} {B n g : Nat} {e : TypeId} {xs : List Value} (h : w.ownsRow B e 1 (.slice (some ⟨g, 0, none⟩) n n) n xs) : Block w g xs e := ownsRow_whole h

set_option maxHeartbeats 1000000 in
set_option maxRecDepth 100000 in
theorem lentInts_any (a : Option Addr) (len cap : Nat) (h : Nat → Int) (w : World) (hh : Hi w a len cap h) (hl : len ≤ 1000000) :
    Calls Try.prog 8 #[.slice a len cap] w fun e w' =>
      e = .returned (.slice (some ⟨w.heap.size, 0, none⟩) len (len + 12)) ∧ Block w' w.heap.size (lentI h len 12) 3 ∧ Below w.heap.size w w' := by
  obtain ⟨i0, hi, hz0, hz1, hz2⟩ := info_parts Try.infoInt2
  have H := Lib.hid hh; clear hh
  have HI := Lib.hid hi; have HZ0 := Lib.hid hz0; have HZ1 := Lib.hid hz1; have HZ2 := Lib.hid hz2
  clear hi hz0 hz1 hz2
  go_enter Try.func8, Try.ntmps8
  go_wp2_with (first
    | (at_make; refine wpList_make_own _ rfl _ _ _ rfl w.heap.size 3 i0 (.int .i64 0) 1 Try.underlying22 HI.out HZ0.out HZ1.out .i64 .i64 _ (len + 12) rfl rfl (by omega) (by rw [HZ2.out]; omega) (by unfold maxLen; omega) (Nat.le_refl _) ?_; intro w1 hown1 hgrow1; have HO1 := Lib.hid hown1; have HB1 := Lib.hid ((Below.refl w.heap.size w).grown hgrow1 (Nat.le_refl _) (by simp)); clear hown1 hgrow1)
    | (at_builtin; refine wpList_append_fits_any _ rfl _ _ _ rfl w.heap.size 3 i0 1 Try.underlying22 HI.out HZ1.out w.heap.size 0 (len + 12) [] rfl HO1.out a len cap (inh h len) rfl (by rw [inh_len, Nat.mul_one]) H.out.nil (H.out.same HB1.out).news (inh_ones h len) (by omega) ?_; intro w2 hown2 hgrow2; rw [Nat.zero_add, List.nil_append] at hown2; have HO2 := Lib.hid hown2; have HB2 := Lib.hid (HB1.out.grown hgrow2 HB1.out.size (by intro k hk; cases hk; exact Nat.le_refl _)); clear hown2 hgrow2))
  clear HO1 HB1
  go_loopw [3, 4] (fun o i wr => ∃ (k : Nat) (W : World), W = wr ∧ k ≤ 12 ∧ i = .int .i64 k ∧ o = .slice (some ⟨w.heap.size, 0, none⟩) (len + k) (len + 12) ∧ wr.ownsRow w.heap.size 3 1 (.slice (some ⟨w.heap.size, 0, none⟩) (len + k) (len + 12)) (len + k) (lentI h len k) ∧ Below w.heap.size w wr) (fun _ i _ => 12 - (intOf i).toNat)
  case atStart => exact ⟨0, _, rfl, by omega, rfl, by simp, by simpa [lentI, inh] using HO2.out, HB2.out⟩
  case round =>
    obtain ⟨k, wx, rfl, hk, rfl, rfl, hO, hB⟩ := hrel
    have HO := Lib.hid hO; have HB := Lib.hid hB; clear hO hB
    by_cases hlt : k < 12
    · have hge := HB.out.size
      go_wp2_with (first
        | (go_at_call 20; refine (mark1_any (k : Int) (by omega) (by omega) _).mono ?_; rintro e w' ⟨rfl, hw'⟩; rw [hw']; clear hw')
        | (at_builtin; refine wpList_append_fits _ rfl _ _ _ rfl w.heap.size 3 i0 1 Try.underlying22 HI.out HZ1.out w.heap.size (len + k) (len + 12) (lentI h len k) rfl (HO.out.alloc _) _ 1 1 [.int .i64 (8000024 + (k : Int))] rfl rfl (cell_single _ _ _) (one_single _ _) (by omega) ?_; intro w4 hown4 hgrow4; have hown4 : w4.ownsRow w.heap.size 3 1 _ _ (lentI h len (k + 1)) := (by rw [lentI_s]; exact hown4); have HO4 := Lib.hid hown4; have HB4 := Lib.hid ((HB.out.alloc hge _).grown hgrow4 (by simp; omega) (by intro k hk; cases hk; exact Nat.le_refl _)); clear hown4 hgrow4))
      go_roundw
      case rel => exact ⟨k + 1, _, rfl, by omega, by go_num, rfl, HO4.out, HB4.out⟩
      case measure => simp [intOf]; omega
    · obtain rfl : k = 12 := by omega
      have hle := H.out.capOk
      go_wp2
      go_ret
      exact ⟨rfl, ownsRow_wholeI HO.out, HB.out⟩

set_option maxHeartbeats 2000000 in
set_option maxRecDepth 100000 in
theorem keptInts_any (g : Nat) (a : Option Addr) (len cap : Nat) (h : Nat → Int) (w : World) (hh : Hi w a len cap h) (hg : Block w g (lentI h len 12) 3) (hl : len ≤ 1000000) :
    Calls Try.prog 18 #[.slice (some ⟨g, 0, none⟩) len (len + 12), .slice a len cap] w fun e w' => e = .returned (.bool true) ∧ ∃ q, w' = w.drewN q := by
  have H := Lib.hid hh; have HG := Lib.hid hg; clear hh hg
  have hne : ((len : Int) != (len : Int)) = false := by simp
  go_enter Try.func18, Try.ntmps18
  go_wp2_with fail
  go_loopw [6] (fun i wr => ∃ (k : Nat) (W : World), W = wr ∧ k ≤ len + 12 ∧ i = .int .i64 k ∧ ∃ q, wr = w.drewN q) (fun i _ => len + 12 - (intOf i).toNat)
  case atStart => exact ⟨0, _, rfl, by omega, rfl, 0, rfl⟩
  case round =>
    obtain ⟨k, wx, rfl, hk, rfl, q, hq⟩ := hrel
    have HQ := Lib.hid hq
    by_cases hlt : k < len
    · obtain ⟨b, off, e1, c1⟩ := (H.out.same (quiet_b hq)).si.cell k hlt
      have E1 := Lib.hid (show a = some ⟨b, off, none⟩ from e1)
      have c2 : wx.cell? ⟨g, k, none⟩ = some (.int .i64 (h k)) := by rw [hq]; exact HG.out.cell (lentI_lo hlt)
      subst e1
      clear hq
      generalize h k = v at c1 c2
      have i1 : (k : Int) < (len : Int) := by omega
      have i2 : (k : Int) < (len : Int) + 12 := by omega
      have i5 : decide (len ≤ k) = false := by simp; omega
      have g5 : (v == v) = true := by simp
      go_wp2_with fail
      go_quiet (fail)
      go_wp2
      go_roundw
      case rel => exact ⟨k + 1, _, rfl, by omega, by go_num, q + nq, by rw [HQ.out, World.drewN_drewN]⟩
      case measure => simp [intOf]; omega
    · by_cases hlt2 : k < len + 12
      · have hmk : mkI (k - len) = 8000024 + ((k : Int) - (len : Int)) := by unfold mkI; omega
        have c2 : wx.cell? ⟨g, k, none⟩ = some (.int .i64 (8000024 + ((k : Int) - (len : Int)))) := by
          rw [← hmk, hq]; exact HG.out.cell (lentI_hi (by omega) (by omega))
        clear hq hmk
        have i1 : ¬ (k : Int) < (len : Int) := by omega
        have i2 : (k : Int) < (len : Int) + 12 := by omega
        have i4 : decide (k < len) = false := by simp; omega
        have i5 : decide (len ≤ k) = true := by simp; omega
        have i6 : IntKind.i64.wrap ((k : Int) - (len : Int)) = (k : Int) - (len : Int) := IntWalk.i64_in _ (by omega)
        obtain ⟨d, hd⟩ : ∃ d : Nat, (k : Int) - (len : Int) = (d : Int) := ⟨k - len, by omega⟩
        rw [hd] at c2 i6
        have hd9 : d < 12 := by omega
        go_wp2_with fail
        go_quiet ((go_at_call 20; exact Calls.quiet_of_same (mark1_any (d : Int) (by omega) (by omega) _)))
        go_wp2
        go_roundw
        case rel => exact ⟨k + 1, _, rfl, by omega, by go_num, q + nq, by rw [HQ.out, World.drewN_drewN]⟩
        case measure => simp [intOf]; omega
      · clear hq
        obtain rfl : k = len + 12 := by omega
        go_wp2
        go_ret
        exact ⟨rfl, q, HQ.out⟩
end Go.Proofs.Ytpejkglikgefjaa

namespace Go.Proofs.Ytpejkglikgefjaa.Wg
open Go.RowKit Go.Shelf

/-- a closure that answers a number of each place. -/
structure AskN (w0 : World) (cf n : Nat) (caps : Array Value) (K : Nat → Int) : Prop where
  ent : ∀ (args : Array Value) (W : World), (callFunc cf args).run Try.prog W = .ok (.enter cf args) W
  call : ∀ W, Below w0.heap.size w0 W → ∀ j : Nat, j < n → Calls Try.prog cf (#[.int .i64 (j : Nat)] ++ caps) W fun e W' => e = .returned (.int .i64 (K j)) ∧ W' = W
theorem AskN.same {w0 W : World} {cf n : Nat} {caps : Array Value} {K : Nat → Int} (h : AskN w0 cf n caps K) (hB : Below w0.heap.size w0 W) : AskN W cf n caps K := ⟨h.ent, fun X hX j hj => h.call X (hB.trans (hX.mono hB.size)) j hj⟩
theorem AskN.less {w0 : World} {cf n m : Nat} {caps : Array Value} {K : Nat → Int} (h : AskN w0 cf n caps K) (hm : m ≤ n) : AskN w0 cf m caps K := ⟨h.ent, fun X hX j hj => h.call X hX j (by omega)⟩
set_option maxHeartbeats 1000000 in
theorem of1_n (a : Option Addr) (n cap lb k : Nat) (K : Nat → Int) (hk : k < n) (w : World) (hb : w.cell? ⟨lb, 0, none⟩ = some (.slice a n cap)) (hS : Si w a n K) :
    Calls Try.prog 31 #[.int .i64 (k : Nat), .pointer (some ⟨lb, 0, none⟩)] w fun e w' => e = .returned (.int .i64 (K k)) ∧ w' = w := by
  obtain ⟨b, o, ea, hc⟩ := hS.cell k hk
  have i1 : (k : Int) < (n : Int) := by omega
  subst ea
  clear hS
  go_enter Try.func31, Try.ntmps31
  go_wp2
  go_ret
  exact ⟨rfl, rfl⟩
set_option maxHeartbeats 1000000 in
theorem all1_n (x j : Int) (lb : Nat) (w : World) (hb : w.cell? ⟨lb, 0, none⟩ = some (.int .i64 x)) :
    Calls Try.prog 34 #[.int .i64 j, .pointer (some ⟨lb, 0, none⟩)] w fun e w' => e = .returned (.int .i64 x) ∧ w' = w := by
  go_enter Try.func34, Try.ntmps34
  go_wp2
  go_ret
  exact ⟨rfl, rfl⟩
/-- the numbers, one place further on. -/
def beh (x : Int) (K : Nat → Int) : Nat → Int
  | 0 => x
  | j + 1 => K j
set_option maxHeartbeats 1000000 in
theorem beh1_n (x : Int) (n cf lb cb j : Nat) (ca : Array Value) (K : Nat → Int) (hj : j < n + 1) (hn : n ≤ 140737488355328) (w : World) (hb : w.cell? ⟨lb, 0, none⟩ = some (.int .i64 x)) (hc : w.cell? ⟨cb, 0, none⟩ = some (.func (.func cf) #[] ca)) (hK : AskN w cf n ca K) :
    Calls Try.prog 35 #[.int .i64 (j : Nat), .pointer (some ⟨lb, 0, none⟩), .pointer (some ⟨cb, 0, none⟩)] w fun e w' => e = .returned (.int .i64 (beh x K j)) ∧ w' = w := by
  have HC := Lib.hid (fun j hj => hK.call w (Below.refl _ w) j hj)
  have hent := hK.ent
  clear hK
  go_enter Try.func35, Try.ntmps35
  cases j with
  | zero =>
    go_wp2
    go_ret
    exact ⟨rfl, rfl⟩
  | succ j =>
    have i1 : ((((j + 1 : Nat) : Int)) == (0 : Int)) = false := by simp; omega
    have i2 : wrap64 (((j + 1 : Nat) : Int) - 1) = (j : Int) := by unfold wrap64; omega
    have HC1 := Lib.hid (HC.out j (by omega))
    clear HC
    go_wp2_with fail
    refine HC1.out.mono ?_
    rintro e w' ⟨rfl, rfl⟩
    go_wp2
    go_ret
    exact ⟨rfl, rfl⟩
def ClSays (w : World) (n : Nat) (K : Nat → Int) (e : Ending) (w' : World) : Prop := ∃ cf caps, e = .returned (.func (.func cf) #[] caps) ∧ AskN w' cf n caps K ∧ Below w.heap.size w w'
set_option maxHeartbeats 1000000 in
theorem of_n (a : Option Addr) (n cap : Nat) (K : Nat → Int) (w : World) (hS : Si w a n K) :
    Calls Try.prog 23 #[.slice a n cap] w (ClSays w n K) := by
  have hmf : ∀ (fn : Fn) (first cap : Array Value) (w : World), (Instr.makeFunc fn first cap).run Try.prog w = .ok (.func fn first cap) w := fun _ _ _ _ => rfl
  have hB : Below w.heap.size w (w.alloc (.cells #[.slice a n cap] 22)) := (Below.refl _ w).alloc (Nat.le_refl _) _
  have hb : (w.alloc (.cells #[.slice a n cap] 22)).heap[w.heap.size]? = some (.cells #[.slice a n cap] 22 (0, 0)) := heap_alloc_new _ _
  have HA := Lib.hid (show AskN (w.alloc (.cells #[.slice a n cap] 22)) 31 n #[.pointer (some ⟨w.heap.size, 0, none⟩)] K from ⟨fun _ _ => by kernel_rfl, fun W hW j hj => of1_n a n cap w.heap.size j K hj W (by rw [cell_of_row W _ 0 _ _ _ ((hW.block _ (Array.getElem?_eq_some_iff.1 hb).1).trans hb)]; rfl) ⟨fun i hi => by
    obtain ⟨b, o, e, h1⟩ := hS.cell i hi
    exact ⟨b, o, e, by rw [hW.cell (World.block_lt_of_cell? _ _ ((hB.cell (World.block_lt_of_cell? _ _ h1)).trans h1)), hB.cell (World.block_lt_of_cell? _ _ h1)]; exact h1⟩⟩⟩)
  have HB := Lib.hid hB
  clear hB hb hS
  go_enter Try.func23, Try.ntmps23
  go_wp2_with fail
  go_ret
  exact ⟨_, _, rfl, HA.out, HB.out⟩
set_option maxHeartbeats 1000000 in
theorem all_n (x : Int) (n : Nat) (w : World) :
    Calls Try.prog 27 #[.int .i64 x] w (ClSays w n fun _ => x) := by
  have hmf : ∀ (fn : Fn) (first cap : Array Value) (w : World), (Instr.makeFunc fn first cap).run Try.prog w = .ok (.func fn first cap) w := fun _ _ _ _ => rfl
  have hB : Below w.heap.size w (w.alloc (.cells #[.int .i64 x] 3)) := (Below.refl _ w).alloc (Nat.le_refl _) _
  have hb : (w.alloc (.cells #[.int .i64 x] 3)).heap[w.heap.size]? = some (.cells #[.int .i64 x] 3 (0, 0)) := heap_alloc_new _ _
  have HA := Lib.hid (show AskN (w.alloc (.cells #[.int .i64 x] 3)) 34 n #[.pointer (some ⟨w.heap.size, 0, none⟩)] (fun _ => x) from ⟨fun _ _ => by kernel_rfl, fun W hW j hj => all1_n x (j : Nat) w.heap.size W (by rw [cell_of_row W _ 0 _ _ _ ((hW.block _ (Array.getElem?_eq_some_iff.1 hb).1).trans hb)]; rfl)⟩)
  have HB := Lib.hid hB
  clear hB hb
  go_enter Try.func27, Try.ntmps27
  go_wp2_with fail
  go_ret
  exact ⟨_, _, rfl, HA.out, HB.out⟩
set_option maxHeartbeats 1000000 in
theorem beh_n (x : Int) (n cf : Nat) (ca : Array Value) (K : Nat → Int) (hn : n ≤ 140737488355328) (w : World) (hK : AskN w cf n ca K) :
    Calls Try.prog 28 #[.func (.func cf) #[] ca, .int .i64 x] w (ClSays w (n + 1) (beh x K)) := by
  have hmf : ∀ (fn : Fn) (first cap : Array Value) (w : World), (Instr.makeFunc fn first cap).run Try.prog w = .ok (.func fn first cap) w := fun _ _ _ _ => rfl
  obtain ⟨w1, hw1⟩ : ∃ w1, w1 = w.alloc (.cells #[.func (.func cf) #[] ca] 41) := ⟨_, rfl⟩
  have hz1 : w1.heap.size = w.heap.size + 1 := by rw [hw1, World.size_alloc]
  have hB1 : Below w.heap.size w w1 := by rw [hw1]; exact (Below.refl _ w).alloc (Nat.le_refl _) _
  have hb1 : w1.heap[w.heap.size]? = some (.cells #[.func (.func cf) #[] ca] 41 (0, 0)) := by rw [hw1]; exact heap_alloc_new _ _
  have hB2 : Below w1.heap.size w1 (w1.alloc (.cells #[.int .i64 x] 3)) := (Below.refl _ w1).alloc (Nat.le_refl _) _
  have hb2 : (w1.alloc (.cells #[.int .i64 x] 3)).heap[w1.heap.size]? = some (.cells #[.int .i64 x] 3 (0, 0)) := heap_alloc_new _ _
  have hb3 := (hB2.block _ (Array.getElem?_eq_some_iff.1 hb1).1).trans hb1
  have hB : Below w.heap.size w (w1.alloc (.cells #[.int .i64 x] 3)) := hB1.trans (hB2.mono hB1.size)
  have HA := Lib.hid (show AskN (w1.alloc (.cells #[.int .i64 x] 3)) 35 (n + 1) #[.pointer (some ⟨w1.heap.size, 0, none⟩), .pointer (some ⟨w.heap.size, 0, none⟩)] (beh x K) from ⟨fun _ _ => by kernel_rfl, fun W hW j hj => beh1_n x n cf w1.heap.size w.heap.size j ca K hj hn W (by rw [cell_of_row W _ 0 _ _ _ ((hW.block _ (Array.getElem?_eq_some_iff.1 hb2).1).trans hb2)]; rfl) (by rw [cell_of_row W _ 0 _ _ _ ((hW.block _ (Array.getElem?_eq_some_iff.1 hb3).1).trans hb3)]; rfl) (hK.same (hB.trans (hW.mono hB.size)))⟩)
  have HB := Lib.hid hB
  rw [hz1, hw1] at HA
  rw [hw1] at HB
  clear hB hb1 hb2 hb3 hB1 hB2 hw1 hz1 hK
  go_enter Try.func28, Try.ntmps28
  go_wp2_with fail
  go_ret
  exact ⟨_, _, rfl, HA.out, HB.out⟩

set_option maxHeartbeats 1000000 in
theorem less_n (x y : Int) (w : World) :
    Calls Try.prog 33 #[.int .i64 x, .int .i64 y] w fun e w' => e = .returned (.bool (decide (x < y))) ∧ w' = w := by
  have hnan : ∀ (z : Int), Calls Try.prog 38 #[.int .i64 z] w fun e w' => e = .returned (.bool false) ∧ w' = w := fun z => by
    have i1 : (z != z) = false := by simp
    go_enter Try.func38, Try.ntmps38
    go_wp2
    go_ret
    exact ⟨rfl, rfl⟩
  go_enter Try.func33, Try.ntmps33
  go_wp2_with fail
  refine (hnan x).mono ?_
  rintro e w' ⟨rfl, rfl⟩
  go_wp2
  go_ret
  exact ⟨rfl, rfl⟩
set_option maxHeartbeats 1000000 in
theorem unl_n (x y : Int) (w : World) :
    Calls Try.prog 30 #[.int .i64 x, .int .i64 y] w fun e w' => e = .returned (.bool (x != y)) ∧ w' = w := by
  go_enter Try.func30, Try.ntmps30
  go_wp2
  go_ret
  exact ⟨rfl, rfl⟩
end Go.Proofs.Ytpejkglikgefjaa.Wg

namespace Go.Proofs.Ytpejkglikgefjaa.Wg
open Go.RowKit Go.Shelf

/-- what asks whether numbers stand so. -/
structure SoN (cs : Nat) (R : Int → Int → Bool) : Prop where
  ent : ∀ (args : Array Value) (W : World), (callFunc cs args).run Try.prog W = .ok (.enter cs args) W
  call : ∀ (x y : Int) (W : World), Calls Try.prog cs #[.int .i64 x, .int .i64 y] W fun e W' => e = .returned (.bool (R x y)) ∧ W' = W
theorem soLess : SoN 33 (fun x y => decide (x < y)) := ⟨fun _ _ => by kernel_rfl, less_n⟩
theorem soUnl : SoN 30 (fun x y => x != y) := ⟨fun _ _ => by kernel_rfl, unl_n⟩
/-- the first place. -/
def FsSays (n : Nat) (R : Int → Int → Bool) (K L : Nat → Int) (e : Ending) : Prop := ∃ p : Nat, e = .returned (.int .i64 (p : Nat)) ∧ p ≤ n ∧ (∀ j, j < p → R (K j) (L j) = false) ∧ (p < n → R (K p) (L p) = true)
set_option maxHeartbeats 2000000 in
set_option maxRecDepth 100000 in
theorem first_any (n cf cg cs : Nat) (ca cb : Array Value) (K L : Nat → Int) (R : Int → Int → Bool) (hn : n ≤ 140737488355328) (w : World) (hK : AskN w cf n ca K) (hL : AskN w cg n cb L) (hR : SoN cs R) :
    Calls Try.prog 29 #[.int .i64 (n : Nat), .func (.func cf) #[] ca, .func (.func cg) #[] cb, .func (.func cs) #[] #[]] w fun e w' => FsSays n R K L e ∧ w' = w := by
  have HK := Lib.hid hK; have HL := Lib.hid hL; have HR := Lib.hid hR
  have hent1 := hK.ent; have hent2 := hL.ent; have hent3 := hR.ent
  clear hK hL hR
  go_enter Try.func29, Try.ntmps29
  go_wp2_with fail
  go_loopw [11] (fun i wr => ∃ (k : Nat), k ≤ n ∧ i = .int .i64 (k : Nat) ∧ (∀ j, j < k → R (K j) (L j) = false) ∧ wr = w) (fun i _ => n - (intOf i).toNat)
  case atStart => exact ⟨0, by omega, rfl, fun j hj => absurd hj (Nat.not_lt_zero j), rfl⟩
  case round =>
    obtain ⟨k, hk, rfl, hall, hw⟩ := hrel
    subst hw
    have HALL := Lib.hid hall; clear hall
    by_cases hkn : k < n
    · have i1 : (k : Int) < (n : Int) := by omega
      have HC1 := Lib.hid (HK.out.call _ (Below.refl _ _) k hkn); have HC2 := Lib.hid (HL.out.call _ (Below.refl _ _) k hkn); have HC3 := Lib.hid (HR.out.call (K k) (L k))
      go_wp2_with fail
      refine HC1.out.mono ?_
      rintro e w2 ⟨rfl, rfl⟩
      go_wp2_with fail
      refine HC2.out.mono ?_
      rintro e w3 ⟨rfl, rfl⟩
      go_wp2_with fail
      refine (HC3.out _).mono ?_
      rintro e w4 ⟨rfl, rfl⟩
      cases hr : R (K k) (L k)
      · have HX := Lib.hid hr
        clear hr
        go_wp2
        go_roundw
        case rel => exact ⟨k + 1, by omega, by go_num, fun j hj => by
          by_cases e : j = k
          · rw [e]; exact HX.out
          · exact HALL.out j (by omega), by trivial⟩
        case measure => simp [intOf]; omega
      · have HX := Lib.hid hr
        clear hr
        go_wp2
        go_ret
        exact ⟨⟨k, rfl, hk, HALL.out, fun _ => HX.out⟩, rfl⟩
    · obtain rfl : k = n := by omega
      have i1 : ¬ (k : Int) < (k : Int) := by omega
      go_wp2
      go_ret
      exact ⟨⟨k, rfl, Nat.le_refl _, HALL.out, fun h => absurd h (Nat.lt_irrefl _)⟩, rfl⟩
/-- a Boolean that tells of something. -/
def BoSays (P : Prop) (e : Ending) : Prop := ∃ v : Bool, e = .returned (.bool v) ∧ (v = true ↔ P)
set_option maxHeartbeats 1000000 in
theorem atMost_any (n cf cg : Nat) (ca cb : Array Value) (K L : Nat → Int) (hn : n ≤ 140737488355328) (w : World) (hK : AskN w cf n ca K) (hL : AskN w cg n cb L) :
    Calls Try.prog 26 #[.int .i64 (n : Nat), .func (.func cf) #[] ca, .func (.func cg) #[] cb] w fun e w' => BoSays (∀ j, j < n → K j ≤ L j) e ∧ w' = w := by
  have HF := Lib.hid (first_any n cg cf 33 cb ca L K _ hn w hL hK soLess)
  clear hK hL
  go_enter Try.func26, Try.ntmps26
  go_wp2_with fail
  refine HF.out.mono ?_
  rintro e w1 ⟨⟨p, rfl, hp, h1, h2⟩, rfl⟩
  have H1 := Lib.hid h1; have H2 := Lib.hid h2
  clear h1 h2
  go_wp2
  go_ret
  refine ⟨⟨_, rfl, ?_⟩, rfl⟩
  rw [beq_iff_eq]
  constructor
  · intro h j hj
    have := H1.out j (by omega)
    simp at this
    exact this
  · intro h
    by_cases e : p < n
    · have h3 := H2.out e
      have h4 := h p e
      simp at h3
      omega
    · omega
/-- at the first place at which they are not the same, the one is the lesser one. -/
def Ahd (n : Nat) (K L : Nat → Int) : Prop := ∃ p, p < n ∧ (∀ j, j < p → K j = L j) ∧ K p < L p
set_option maxHeartbeats 2000000 in
theorem ahead_any (n cf cg : Nat) (ca cb : Array Value) (K L : Nat → Int) (hn : n ≤ 140737488355328) (w : World) (hK : AskN w cf n ca K) (hL : AskN w cg n cb L) :
    Calls Try.prog 22 #[.int .i64 (n : Nat), .func (.func cf) #[] ca, .func (.func cg) #[] cb] w fun e w' => BoSays (Ahd n K L) e ∧ w' = w := by
  have HF := Lib.hid (first_any n cf cg 30 ca cb K L _ hn w hK hL soUnl)
  have HK := Lib.hid hK; have HL := Lib.hid hL
  have hent1 := hK.ent; have hent2 := hL.ent
  clear hK hL
  go_enter Try.func22, Try.ntmps22
  go_wp2_with fail
  refine HF.out.mono ?_
  rintro e w1 ⟨⟨p, rfl, hp, h1, h2⟩, rfl⟩
  have H1 := Lib.hid (show ∀ j, j < p → K j = L j from fun j hj => by have := h1 j hj; simpa using this); have H2 := Lib.hid (show p < n → K p ≠ L p from fun h => by have := h2 h; simpa using this)
  clear h1 h2
  by_cases hpn : p < n
  · have i1 : (p : Int) < (n : Int) := by omega
    have HC1 := Lib.hid (HK.out.call _ (Below.refl _ _) p hpn); have HC2 := Lib.hid (HL.out.call _ (Below.refl _ _) p hpn)
    go_wp2_with fail
    refine HC1.out.mono ?_
    rintro e w2 ⟨rfl, rfl⟩
    go_wp2_with fail
    refine HC2.out.mono ?_
    rintro e w3 ⟨rfl, rfl⟩
    go_wp2
    go_ret
    refine ⟨⟨_, rfl, ?_⟩, rfl⟩
    rw [decide_eq_true_iff]
    constructor
    · intro h; exact ⟨p, hpn, H1.out, h⟩
    · rintro ⟨q, hq, h3, h4⟩
      have hne := H2.out hpn
      by_cases e1 : q < p
      · have := H1.out q e1; omega
      · by_cases e2 : p < q
        · exact absurd (h3 p e2) hne
        · obtain rfl : p = q := by omega
          exact h4
  · have i1 : ¬ (p : Int) < (n : Int) := by omega
    have HX := Lib.hid (show ¬ Ahd n K L from by
      rintro ⟨q, hq, h3, h4⟩
      have := H1.out q (by omega)
      omega)
    have i2 : decide ((p : Int) < (n : Int)) = false := by simp; omega
    go_wp2
    go_ret
    exact ⟨⟨false, rfl, fun h => (by cases h), fun h => absurd h HX.out⟩, rfl⟩
end Go.Proofs.Ytpejkglikgefjaa.Wg

namespace Go.Proofs.Ytpejkglikgefjaa.Wg
open Go.RowKit Go.Shelf
attribute [local go_sem] Oper.semAt_some

/-- numbers that are weights for n. -/
def RW (n : Int) (m : Nat) (W : Nat → Int) : Prop := (1 ≤ n ∧ n ≤ 255) ∧ (m : Int) = n + 1 ∧ (∀ i, i < m → 0 ≤ W i) ∧ ∀ i, i < m → W i ≤ beh 65536 W i
theorem RW.le {n : Int} {m : Nat} {W : Nat → Int} (h : RW n m W) : ∀ i, i < m → W i ≤ 65536
  | 0, h0 => h.2.2.2 0 h0
  | i + 1, h1 => Int.le_trans (h.2.2.2 (i + 1) h1) (h.le i (by omega))
theorem many_yes {n : Int} (h : 1 ≤ n ∧ n ≤ 255) (w : World) :
    Calls Try.prog 24 #[.int .i64 n] w fun e w' => e = .returned (.bool true) ∧ w' = w := by
  have g0 : decide (1 ≤ n) = true := by simp [h.1]
  have g1 : decide (n ≤ 255) = true := by simp [h.2]
  go_enter Try.func24, Try.ntmps24
  go_wp2
  go_ret
  exact ⟨rfl, rfl⟩
theorem many_no {n : Int} (h : ¬ (1 ≤ n ∧ n ≤ 255)) (w : World) :
    Calls Try.prog 24 #[.int .i64 n] w fun e w' => e = .returned (.bool false) ∧ w' = w := by
  go_enter Try.func24, Try.ntmps24
  by_cases h0 : 1 ≤ n
  · have g0 : decide (1 ≤ n) = true := by simp [h0]
    have g1 : decide (n ≤ 255) = false := by simp; omega
    go_wp2
    go_ret
    exact ⟨rfl, rfl⟩
  · have g0 : decide (1 ≤ n) = false := by simp; omega
    go_wp2
    go_ret
    exact ⟨rfl, rfl⟩
theorem BoSays.no {P : Prop} (h : ¬ P) : BoSays P (.returned (.bool false)) := ⟨false, rfl, fun e => (by cases e), fun e => absurd e h⟩
theorem BoSays.yes {P : Prop} (h : P) : BoSays P (.returned (.bool true)) := ⟨true, rfl, fun _ => h, fun _ => rfl⟩
set_option maxHeartbeats 4000000 in
set_option maxRecDepth 100000 in
theorem right_any (n : Int) (a : Option Addr) (m cap : Nat) (W : Nat → Int) (w : World) (hS : Si w a m W) :
    Calls Try.prog 16 #[.int .i64 n, .slice a m cap] w fun e w' => BoSays (RW n m W) e ∧ Below w.heap.size w w' := by
  have HS := Lib.hid hS; clear hS
  go_enter Try.func16, Try.ntmps16
  by_cases hn : 1 ≤ n ∧ n ≤ 255
  rotate_left
  · have HX := Lib.hid (show ¬ RW n m W from fun h => hn h.1)
    go_wp2_with fail
    refine (many_no hn _).mono ?_
    rintro e w1 ⟨rfl, rfl⟩
    clear hn
    go_wp2
    go_ret
    exact ⟨BoSays.no HX.out, Below.refl _ _⟩
  go_wp2_with fail
  refine (many_yes hn _).mono ?_
  rintro e w1 ⟨rfl, rfl⟩
  obtain ⟨hn1, hn2⟩ := hn
  by_cases hm : (m : Int) = n + 1
  rotate_left
  · have HX := Lib.hid (show ¬ RW n m W from fun h => hm h.2.1)
    have i1 : ((m : Int) == n + 1) = false := by simp; omega
    clear hm
    go_wp2
    go_ret
    exact ⟨BoSays.no HX.out, Below.refl _ _⟩
  have HM := Lib.hid hm
  have i1 : ((m : Int) == n + 1) = true := by simp; omega
  have hm2 : m ≤ 256 := by omega
  clear hm
  go_wp2_with fail
  refine (all_n 0 m _).mono ?_
  rintro e w2 ⟨cf, ca, rfl, hA, hB2⟩
  have HA := Lib.hid hA; have HB2 := Lib.hid hB2
  clear hA hB2
  go_wp2_with fail
  refine (of_n a m cap W _ (HS.out.same HB2.out)).mono ?_
  rintro e w3 ⟨cg, cb, rfl, hA, hB3⟩
  have HC := Lib.hid hA; have HA3 := Lib.hid (HA.out.same hB3); have HB3 := Lib.hid (HB2.out.trans (hB3.mono HB2.out.size))
  clear hA hB3 HA HB2
  go_wp2_with fail
  refine (atMost_any m cf cg ca cb (fun _ => 0) W (by omega) _ HA3.out HC.out).mono ?_
  rintro e w4 ⟨⟨v, rfl, hv⟩, rfl⟩
  have HV := Lib.hid hv
  clear hv HA3 HC
  cases v
  · have HX := Lib.hid (show ¬ RW n m W from fun h => absurd (HV.out.2 h.2.2.1) (by simp))
    go_wp2
    go_ret
    exact ⟨BoSays.no HX.out, HB3.out⟩
  have HV1 := Lib.hid (show ∀ i, i < m → 0 ≤ W i by first | exact HV.out.1 rfl | exact HV.out.1 trivial)
  clear HV
  go_wp2_with fail
  refine (of_n a m cap W _ (HS.out.same HB3.out)).mono ?_
  rintro e w5 ⟨ch, cc, rfl, hA, hB5⟩
  have HA5 := Lib.hid hA; have HB5 := Lib.hid (HB3.out.trans (hB5.mono HB3.out.size))
  clear hA hB5 HB3
  go_wp2_with fail
  refine (of_n a m cap W _ (HS.out.same HB5.out)).mono ?_
  rintro e w6 ⟨ci, cd, rfl, hA, hB6⟩
  have HC6 := Lib.hid hA; have HA6 := Lib.hid (HA5.out.same hB6); have HB6 := Lib.hid (HB5.out.trans (hB6.mono HB5.out.size))
  clear hA hB6 HA5 HB5
  go_wp2_with fail
  refine (beh_n 65536 m ci cd W (by omega) _ HC6.out).mono ?_
  rintro e w7 ⟨cj, ce, rfl, hA, hB7⟩
  have HC7 := Lib.hid (hA.less (m := m) (by omega)); have HA7 := Lib.hid (HA6.out.same hB7); have HB7 := Lib.hid (HB6.out.trans (hB7.mono HB6.out.size))
  clear hA hB7 HA6 HB6 HC6
  go_wp2_with fail
  refine (atMost_any m ch cj cc ce W (beh 65536 W) (by omega) _ HA7.out HC7.out).mono ?_
  rintro e w8 ⟨⟨v, rfl, hv⟩, rfl⟩
  have HV := Lib.hid hv
  clear hv HA7 HC7
  go_wp2
  go_ret
  exact ⟨⟨v, rfl, fun h => ⟨⟨hn1, hn2⟩, HM.out, HV1.out, HV.out.1 h⟩, fun h => HV.out.2 h.2.2.2⟩, HB7.out⟩

/-- whether there is a score. -/
def FitW (nv nk nm : Nat) (V K W : Nat → Int) : Prop := RW ((nm : Int) - 1) nm W ∧ nv = nk ∧ nv ≤ 8 ∧ (∀ j, j < nv → 0 ≤ V j) ∧ (∀ j, j < nv → V j ≤ 1048576) ∧ (∀ j, j < nv → 1 ≤ K j) ∧ ∀ j, j < nv → K j ≤ (nm : Int) - 1
set_option maxHeartbeats 4000000 in
set_option maxRecDepth 100000 in
theorem fit_any (va ka wa : Option Addr) (nv vc nk kc nm wc : Nat) (V K W : Nat → Int) (h1 : nv ≤ 140737488355328) (h2 : nk ≤ 140737488355328) (h3 : nm ≤ 140737488355328) (w : World) (hV : Si w va nv V) (hK : Si w ka nk K) (hW : Si w wa nm W) :
    Calls Try.prog 21 #[.slice va nv vc, .slice ka nk kc, .slice wa nm wc] w fun e w' => BoSays (FitW nv nk nm V K W) e ∧ Below w.heap.size w w' := by
  have HV := Lib.hid hV; have HK := Lib.hid hK; have HW := Lib.hid hW
  have HR := Lib.hid (fun w hW => right_any ((nm : Int) - 1) wa nm wc W w hW)
  clear hV hK hW
  go_enter Try.func21, Try.ntmps21
  go_wp2_with fail
  refine (HR.out _ HW.out).mono ?_
  rintro e w1 ⟨⟨v, rfl, hv⟩, hB1⟩
  have HX := Lib.hid hv; have HB1 := Lib.hid hB1
  clear hv hB1 HR HW
  cases v
  · have HY := Lib.hid (show ¬ FitW nv nk nm V K W from fun h => absurd (HX.out.2 h.1) (by simp))
    go_wp2
    go_ret
    exact ⟨BoSays.no HY.out, HB1.out⟩
  have HRW := Lib.hid (show RW ((nm : Int) - 1) nm W by first | exact HX.out.1 rfl | exact HX.out.1 trivial)
  clear HX
  by_cases e1 : nv = nk
  rotate_left
  · have HY := Lib.hid (show ¬ FitW nv nk nm V K W from fun h => e1 h.2.1)
    have i1 : ((nv : Int) == (nk : Int)) = false := by simp; omega
    clear e1
    go_wp2
    go_ret
    exact ⟨BoSays.no HY.out, HB1.out⟩
  subst e1
  have i1 : ((nv : Int) == (nv : Int)) = true := by simp
  by_cases e2 : nv ≤ 8
  rotate_left
  · have HY := Lib.hid (show ¬ FitW nv nv nm V K W from fun h => e2 h.2.2.1)
    have i2 : decide ((nv : Int) ≤ 8) = false := by simp; omega
    have i3 : ¬ (nv : Int) ≤ 8 := by omega
    clear e2
    go_wp2
    go_ret
    exact ⟨BoSays.no HY.out, HB1.out⟩
  have i2 : decide ((nv : Int) ≤ 8) = true := by simp; omega
  have i3 : (nv : Int) ≤ 8 := by omega
  go_wp2_with fail
  -- 0 at most worths
  refine (all_n 0 nv _).mono ?_
  rintro e w2 ⟨cf, ca, rfl, hA, hB2⟩
  have HA := Lib.hid hA; have HB2 := Lib.hid (HB1.out.trans (hB2.mono HB1.out.size))
  clear hA hB2 HB1
  go_wp2_with fail
  refine (of_n va nv vc V _ (HV.out.same HB2.out)).mono ?_
  rintro e w3 ⟨cg, cb, rfl, hA, hB3⟩
  have HC := Lib.hid hA; have HA3 := Lib.hid (HA.out.same hB3); have HB3 := Lib.hid (HB2.out.trans (hB3.mono HB2.out.size))
  clear hA hB3 HA HB2
  go_wp2_with fail
  refine (atMost_any nv cf cg ca cb (fun _ => 0) V h1 _ HA3.out HC.out).mono ?_
  rintro e w4 ⟨⟨v, rfl, hv⟩, rfl⟩
  have HX := Lib.hid hv
  clear hv HA3 HC
  cases v
  · have HY := Lib.hid (show ¬ FitW nv nv nm V K W from fun h => absurd (HX.out.2 h.2.2.2.1) (by simp))
    go_wp2
    go_ret
    exact ⟨BoSays.no HY.out, HB3.out⟩
  have HX1 := Lib.hid (show ∀ j, j < nv → 0 ≤ V j by first | exact HX.out.1 rfl | exact HX.out.1 trivial)
  clear HX
  go_wp2_with fail
  -- worths at most 2^20
  refine (of_n va nv vc V _ (HV.out.same HB3.out)).mono ?_
  rintro e w5 ⟨cf, ca, rfl, hA, hB2⟩
  have HA := Lib.hid hA; have HB2 := Lib.hid (HB3.out.trans (hB2.mono HB3.out.size))
  clear hA hB2 HB3
  go_wp2_with fail
  refine (all_n 1048576 nv _).mono ?_
  rintro e w6 ⟨cg, cb, rfl, hA, hB3⟩
  have HC := Lib.hid hA; have HA3 := Lib.hid (HA.out.same hB3); have HB3 := Lib.hid (HB2.out.trans (hB3.mono HB2.out.size))
  clear hA hB3 HA HB2
  go_wp2_with fail
  refine (atMost_any nv cf cg ca cb V (fun _ => 1048576) h1 _ HA3.out HC.out).mono ?_
  rintro e w7 ⟨⟨v, rfl, hv⟩, rfl⟩
  have HX := Lib.hid hv
  clear hv HA3 HC
  cases v
  · have HY := Lib.hid (show ¬ FitW nv nv nm V K W from fun h => absurd (HX.out.2 h.2.2.2.2.1) (by simp))
    go_wp2
    go_ret
    exact ⟨BoSays.no HY.out, HB3.out⟩
  have HX2 := Lib.hid (show ∀ j, j < nv → V j ≤ 1048576 by first | exact HX.out.1 rfl | exact HX.out.1 trivial)
  clear HX
  go_wp2_with fail
  -- 1 at most ks
  refine (all_n 1 nv _).mono ?_
  rintro e w8 ⟨cf, ca, rfl, hA, hB2⟩
  have HA := Lib.hid hA; have HB2 := Lib.hid (HB3.out.trans (hB2.mono HB3.out.size))
  clear hA hB2 HB3
  go_wp2_with fail
  refine (of_n ka nv kc K _ (HK.out.same HB2.out)).mono ?_
  rintro e w9 ⟨cg, cb, rfl, hA, hB3⟩
  have HC := Lib.hid hA; have HA3 := Lib.hid (HA.out.same hB3); have HB3 := Lib.hid (HB2.out.trans (hB3.mono HB2.out.size))
  clear hA hB3 HA HB2
  go_wp2_with fail
  refine (atMost_any nv cf cg ca cb (fun _ => 1) K h1 _ HA3.out HC.out).mono ?_
  rintro e w10 ⟨⟨v, rfl, hv⟩, rfl⟩
  have HX := Lib.hid hv
  clear hv HA3 HC
  cases v
  · have HY := Lib.hid (show ¬ FitW nv nv nm V K W from fun h => absurd (HX.out.2 h.2.2.2.2.2.1) (by simp))
    go_wp2
    go_ret
    exact ⟨BoSays.no HY.out, HB3.out⟩
  have HX3 := Lib.hid (show ∀ j, j < nv → 1 ≤ K j by first | exact HX.out.1 rfl | exact HX.out.1 trivial)
  clear HX
  go_wp2_with fail
  -- ks at most n
  refine (of_n ka nv kc K _ (HK.out.same HB3.out)).mono ?_
  rintro e w11 ⟨cf, ca, rfl, hA, hB2⟩
  have HA := Lib.hid hA; have HB2 := Lib.hid (HB3.out.trans (hB2.mono HB3.out.size))
  clear hA hB2 HB3
  go_wp2_with fail
  refine (all_n ((nm : Int) - 1) nv _).mono ?_
  rintro e w12 ⟨cg, cb, rfl, hA, hB3⟩
  have HC := Lib.hid hA; have HA3 := Lib.hid (HA.out.same hB3); have HB3 := Lib.hid (HB2.out.trans (hB3.mono HB2.out.size))
  clear hA hB3 HA HB2
  go_wp2_with fail
  refine (atMost_any nv cf cg ca cb K (fun _ => (nm : Int) - 1) h1 _ HA3.out HC.out).mono ?_
  rintro e w13 ⟨⟨v, rfl, hv⟩, rfl⟩
  have HX := Lib.hid hv
  clear hv HA3 HC
  go_wp2
  go_ret
  exact ⟨⟨v, rfl, fun h => ⟨HRW.out, rfl, e2, HX1.out, HX2.out, HX3.out, HX.out.1 h⟩, fun h => HX.out.2 h.2.2.2.2.2.2⟩, HB3.out⟩
end Go.Proofs.Ytpejkglikgefjaa.Wg

namespace Go.Proofs.Ytpejkglikgefjaa.Wg
open Go.RowKit Go.Shelf
attribute [local go_sem] Oper.semAt_some

/-- the sum of the first k worths by the weights of their thresholds. -/
def sc (V K W : Nat → Int) : Nat → Int
  | 0 => 0
  | k + 1 => sc V K W k + V k * W (K k).toNat
theorem prod_bd {v x : Int} (h0 : 0 ≤ v) (h1 : v ≤ 1048576) (h2 : 0 ≤ x) (h3 : x ≤ 65536) : 0 ≤ v * x ∧ v * x ≤ 68719476736 := by
  refine ⟨Int.mul_nonneg h0 h2, ?_⟩
  have : v * x ≤ 1048576 * 65536 := Int.mul_le_mul h1 h3 h2 (by omega)
  omega
theorem FitW.wk {nv nk nm : Nat} {V K W : Nat → Int} (h : FitW nv nk nm V K W) {k : Nat} (hk : k < nv) : ∃ kk : Nat, K k = (kk : Nat) ∧ 1 ≤ kk ∧ kk < nm ∧ 0 ≤ W kk ∧ W kk ≤ 65536 := by
  have h1 := h.2.2.2.2.2.1 k hk
  have h2 := h.2.2.2.2.2.2 k hk
  have h3 : (K k).toNat < nm := by omega
  exact ⟨(K k).toNat, by omega, by omega, h3, h.1.2.2.1 _ h3, h.1.le _ h3⟩
theorem FitW.sc_bd {nv nk nm : Nat} {V K W : Nat → Int} (h : FitW nv nk nm V K W) : ∀ k, k ≤ nv → 0 ≤ sc V K W k ∧ sc V K W k ≤ k * 68719476736
  | 0, _ => by unfold sc; omega
  | k + 1, hk => by
    have h1 := h.sc_bd k (by omega)
    obtain ⟨kk, e, _, _, h4, h5⟩ := h.wk (k := k) (by omega)
    have h2 := prod_bd (h.2.2.2.1 k (by omega)) (h.2.2.2.2.1 k (by omega)) h4 h5
    have e2 : sc V K W (k + 1) = sc V K W k + V k * W kk := by show sc V K W k + V k * W (K k).toNat = _; rw [e, Int.toNat_natCast]
    omega
/-- what a score is told as. -/
def ScSays (nv nk nm : Nat) (V K W : Nat → Int) (e : Ending) : Prop := (FitW nv nk nm V K W ∧ e = .returned (.tuple #[.int .i64 (sc V K W nk), .int .i64 0])) ∨ (¬ FitW nv nk nm V K W ∧ e = .returned (.tuple #[.int .i64 0, .int .i64 2]))
set_option maxHeartbeats 4000000 in
set_option maxRecDepth 100000 in
theorem score_any (va ka wa : Option Addr) (nv vc nk kc nm wc : Nat) (V K W : Nat → Int) (h1 : nv ≤ 140737488355328) (h2 : nk ≤ 140737488355328) (h3 : nm ≤ 140737488355328) (w : World) (hV : Si w va nv V) (hK : Si w ka nk K) (hW : Si w wa nm W) :
    Calls Try.prog 9 #[.slice va nv vc, .slice ka nk kc, .slice wa nm wc] w fun e w' => ScSays nv nk nm V K W e ∧ Below w.heap.size w w' := by
  have HV := Lib.hid hV; have HK := Lib.hid hK; have HW := Lib.hid hW
  have HF := Lib.hid (fit_any va ka wa nv vc nk kc nm wc V K W h1 h2 h3 w hV hK hW)
  clear hV hK hW
  go_enter Try.func9, Try.ntmps9
  go_wp2_with fail
  refine HF.out.mono ?_
  rintro e w1 ⟨⟨v, rfl, hv⟩, hB1⟩
  have HX := Lib.hid hv; have HB1 := Lib.hid hB1
  clear hv hB1 HF
  cases v
  · have HY := Lib.hid (show ¬ FitW nv nk nm V K W from fun h => absurd (HX.out.2 h) (by simp))
    go_wp2
    go_ret2
    exact ⟨Or.inr ⟨HY.out, rfl⟩, HB1.out⟩
  have HFW := Lib.hid (show FitW nv nk nm V K W by first | exact HX.out.1 rfl | exact HX.out.1 trivial)
  clear HX
  have hnk := HFW.out.2.1
  subst hnk
  have hn8 := HFW.out.2.2.1
  go_wp2_with fail
  go_loopw [8, 18] (fun s i wr => ∃ (k : Nat), k ≤ nv ∧ i = .int .i64 (k : Nat) ∧ s = .int .i64 (sc V K W k) ∧ Below w1.heap.size w1 wr) (fun _ i _ => nv - (intOf i).toNat)
  case atStart => exact ⟨0, by omega, rfl, rfl, Below.refl _ _⟩
  case round =>
    obtain ⟨k, hk, rfl, rfl, hB⟩ := hrel
    have HB := Lib.hid hB; clear hB
    by_cases hkn : k < nv
    · have i1 : (k : Int) < (nv : Int) := by omega
      obtain ⟨kk, hkk, k1, k2, x0, x1⟩ := HFW.out.wk hkn
      have v0 := HFW.out.2.2.2.1 k hkn
      have v1 := HFW.out.2.2.2.2.1 k hkn
      obtain ⟨s0, s1⟩ := HFW.out.sc_bd k hk
      have HSC := Lib.hid (show sc V K W (k + 1) = sc V K W k + V k * W kk by show sc V K W k + V k * W (K k).toNat = _; rw [hkk, Int.toNat_natCast])
      obtain ⟨b1, o1, ea1, c1⟩ := ((HV.out.same HB1.out).same HB.out).cell k hkn
      obtain ⟨b2, o2, ea2, c2⟩ := ((HK.out.same HB1.out).same HB.out).cell k hkn
      obtain ⟨b3, o3, ea3, c3⟩ := ((HW.out.same HB1.out).same HB.out).cell kk k2
      have EA := Lib.hid (And.intro ea1 (And.intro ea2 ea3))
      rw [hkk] at c2
      clear hkk
      generalize hs : sc V K W k = s at *
      generalize hv : V k = v at *
      generalize hx : W kk = x at *
      have hp := prod_bd v0 v1 x0 x1
      obtain ⟨p, hpe⟩ : ∃ p, v * x = p := ⟨_, rfl⟩
      rw [hpe] at hp HSC
      obtain ⟨p0, p1⟩ := hp
      subst ea1 ea2 ea3
      have i2 : (kk : Int) < (nm : Int) := by omega
      have d1 : ∀ q, (wr.drewN q).cell? ⟨b1, o1 + k, none⟩ = some (.int .i64 v) := fun q => c1
      have d3 : ∀ q, (wr.drewN q).cell? ⟨b3, o3 + kk, none⟩ = some (.int .i64 x) := fun q => c3
      clear hs hv hx v0 v1 x0 x1
      go_wp2_with fail
      go_quiet (fail)
      go_wp2
      go_roundw
      case rel => exact ⟨k + 1, by omega, by go_num, by rw [HSC.out], below_dr HB.out _⟩
      case measure => simp [intOf]; omega
    · obtain rfl : k = nv := by omega
      have i1 : ¬ (k : Int) < (k : Int) := by omega
      go_wp2
      go_ret2
      exact ⟨Or.inl ⟨HFW.out, rfl⟩, HB1.out.trans (HB.out.mono HB1.out.size)⟩

/-- whether thresholds are better. -/
def Btr (n : Nat) (V K O W : Nat → Int) : Prop := sc V O W n < sc V K W n ∨ (sc V K W n = sc V O W n ∧ Ahd n K O)
def BtSays (nv nk no nm : Nat) (V K O W : Nat → Int) (e : Ending) : Prop := (¬ (FitW nv nk nm V K W ∧ FitW nv no nm V O W) ∧ e = .returned (.tuple #[.bool false, .int .i64 2])) ∨ ((FitW nv nk nm V K W ∧ FitW nv no nm V O W) ∧ ∃ v : Bool, e = .returned (.tuple #[.bool v, .int .i64 0]) ∧ (v = true ↔ Btr nv V K O W))
set_option maxHeartbeats 4000000 in
set_option maxRecDepth 100000 in
theorem better_any (va ka oa wa : Option Addr) (nv vc nk kc no oc nm wc : Nat) (V K O W : Nat → Int) (h1 : nv ≤ 140737488355328) (h2 : nk ≤ 140737488355328) (h4 : no ≤ 140737488355328) (h3 : nm ≤ 140737488355328) (w : World) (hV : Si w va nv V) (hK : Si w ka nk K) (hO : Si w oa no O) (hW : Si w wa nm W) :
    Calls Try.prog 11 #[.slice va nv vc, .slice ka nk kc, .slice oa no oc, .slice wa nm wc] w fun e w' => BtSays nv nk no nm V K O W e ∧ Below w.heap.size w w' := by
  have HV := Lib.hid hV; have HK := Lib.hid hK; have HO := Lib.hid hO; have HW := Lib.hid hW
  have HF := Lib.hid (score_any va ka wa nv vc nk kc nm wc V K W h1 h2 h3 w hV hK hW)
  clear hV hK hW hO
  go_enter Try.func11, Try.ntmps11
  go_wp2_with fail
  refine HF.out.mono ?_
  rintro e w1 ⟨hs, hB1⟩
  have HB1 := Lib.hid hB1
  clear hB1 HF
  rcases hs with ⟨hf, rfl⟩ | ⟨hf, rfl⟩
  rotate_left
  · have HY := Lib.hid (show ¬ (FitW nv nk nm V K W ∧ FitW nv no nm V O W) from fun h => hf h.1)
    clear hf
    go_wp2
    go_ret2
    exact ⟨Or.inl ⟨HY.out, rfl⟩, HB1.out⟩
  have HF1 := Lib.hid hf
  clear hf
  generalize hs1 : sc V K W nk = s1
  have HS1 := Lib.hid hs1
  clear hs1
  go_wp2_with fail
  refine (score_any va oa wa nv vc no oc nm wc V O W h1 h4 h3 _ (HV.out.same HB1.out) (HO.out.same HB1.out) (HW.out.same HB1.out)).mono ?_
  rintro e w2 ⟨hs, hB2⟩
  have HB2 := Lib.hid (HB1.out.trans (hB2.mono HB1.out.size))
  clear hB2 HB1
  rcases hs with ⟨hf, rfl⟩ | ⟨hf, rfl⟩
  rotate_left
  · have HY := Lib.hid (show ¬ (FitW nv nk nm V K W ∧ FitW nv no nm V O W) from fun h => hf h.2)
    clear hf
    go_wp2
    go_ret2
    exact ⟨Or.inl ⟨HY.out, rfl⟩, HB2.out⟩
  have HF2 := Lib.hid hf
  clear hf
  generalize hs2 : sc V O W no = s2
  have HS2 := Lib.hid hs2
  clear hs2
  have hnk := HF1.out.2.1
  have hno := HF2.out.2.1
  subst hnk hno
  by_cases hne : s1 = s2
  rotate_left
  · have i1 : (s1 != s2) = true := by simp [hne]
    have HNE := Lib.hid hne
    clear hne
    go_wp2
    go_ret2
    refine ⟨Or.inr ⟨⟨HF1.out, HF2.out⟩, _, rfl, ?_⟩, HB2.out⟩
    unfold Btr
    rw [HS1.out, HS2.out, decide_eq_true_iff]
    constructor
    · intro h; exact Or.inl h
    · rintro (h | ⟨h, _⟩)
      · exact h
      · exact absurd h HNE.out
  have i1 : (s1 != s2) = false := by simp [hne]
  have HNE := Lib.hid hne
  clear hne
  go_wp2_with fail
  refine (of_n ka nv kc K _ (HK.out.same HB2.out)).mono ?_
  rintro e w3 ⟨cf, ca, rfl, hA, hB3⟩
  have HA := Lib.hid hA; have HB3 := Lib.hid (HB2.out.trans (hB3.mono HB2.out.size))
  clear hA hB3 HB2
  go_wp2_with fail
  refine (of_n oa nv oc O _ (HO.out.same HB3.out)).mono ?_
  rintro e w4 ⟨cg, cb, rfl, hA, hB4⟩
  have HC := Lib.hid hA; have HA4 := Lib.hid (HA.out.same hB4); have HB4 := Lib.hid (HB3.out.trans (hB4.mono HB3.out.size))
  clear hA hB4 HB3 HA
  go_wp2_with fail
  refine (ahead_any nv cf cg ca cb K O h1 _ HA4.out HC.out).mono ?_
  rintro e w5 ⟨⟨v, rfl, hv⟩, rfl⟩
  have HX := Lib.hid hv
  clear hv HA4 HC
  go_wp2
  go_ret2
  refine ⟨Or.inr ⟨⟨HF1.out, HF2.out⟩, _, rfl, ?_⟩, HB4.out⟩
  unfold Btr
  rw [HS1.out, HS2.out]
  constructor
  · intro h; exact Or.inr ⟨HNE.out, HX.out.1 h⟩
  · rintro (h | ⟨_, h⟩)
    · have := HNE.out; omega
    · exact HX.out.2 h
end Go.Proofs.Ytpejkglikgefjaa.Wg

namespace Go.Proofs.Ytpejkglikgefjaa.Wg
open Go.RowKit Go.Shelf
attribute [local go_sem] Oper.semAt_some

def Ok1 (W : Nat → Int) (j : Nat) : Prop := 0 ≤ W j ∧ W j ≤ 65536 ∧ (0 < j → W j ≤ W (j - 1))
theorem rw_of {n : Int} {m : Nat} {W : Nat → Int} (h1 : 1 ≤ n ∧ n ≤ 255) (h2 : (m : Int) = n + 1) (h : ∀ j, j < m → Ok1 W j) : RW n m W :=
  ⟨h1, h2, fun i hi => (h i hi).1, fun i hi => by
    cases i with
    | zero => exact (h 0 hi).2.1
    | succ i => exact (h (i + 1) hi).2.2 (by omega)⟩
theorem RW.ok1 {n : Int} {m : Nat} {W : Nat → Int} (h : RW n m W) {j : Nat} (hj : j < m) : Ok1 W j := ⟨h.2.2.1 j hj, h.le j hj, fun h0 => by
  obtain ⟨i, rfl⟩ : ∃ i, j = i + 1 := ⟨j - 1, by omega⟩
  exact h.2.2.2 (i + 1) hj⟩
set_option maxHeartbeats 4000000 in
set_option maxRecDepth 100000 in
theorem rright_any (n : Int) (a : Option Addr) (m cap : Nat) (W : Nat → Int) (w : World) (hS : Si w a m W) :
    Calls Try.prog 17 #[.int .i64 n, .slice a m cap] w fun e w' => BoSays (RW n m W) e ∧ Below w.heap.size w w' := by
  have HS := Lib.hid hS; clear hS
  go_enter Try.func17, Try.ntmps17
  by_cases h1 : n < 1
  · have g1 : decide (n < 1) = true := by simp; omega
    have HX := Lib.hid (show ¬ RW n m W from fun h => by have := h.1; omega)
    go_wp2
    go_ret
    exact ⟨BoSays.no HX.out, Below.refl _ _⟩
  have g1 : decide (n < 1) = false := by simp; omega
  by_cases h2 : 255 < n
  · have g2 : decide (255 < n) = true := by simp; omega
    have HX := Lib.hid (show ¬ RW n m W from fun h => by have := h.1; omega)
    go_wp2
    go_ret
    exact ⟨BoSays.no HX.out, Below.refl _ _⟩
  have g2 : decide (255 < n) = false := by simp; omega
  by_cases hm : (m : Int) = n + 1
  rotate_left
  · have HX := Lib.hid (show ¬ RW n m W from fun h => hm h.2.1)
    have i1 : ((m : Int) != n + 1) = true := by simp; omega
    clear hm
    go_wp2
    go_ret
    exact ⟨BoSays.no HX.out, Below.refl _ _⟩
  have HM := Lib.hid hm
  have i1 : ((m : Int) != n + 1) = false := by simp; omega
  have HN := Lib.hid (show 1 ≤ n ∧ n ≤ 255 by omega)
  have hm2 : m ≤ 256 := by omega
  clear hm
  go_wp2_with fail
  clear h1 h2 g1 g2 i1
  go_loopw [5] (fun i wr => ∃ (k : Nat), k ≤ m ∧ i = .int .i64 (k : Nat) ∧ (∀ j, j < k → Ok1 W j) ∧ Below w.heap.size w wr) (fun i _ => m - (intOf i).toNat)
  case atStart => exact ⟨0, by omega, rfl, fun j hj => absurd hj (Nat.not_lt_zero j), Below.refl _ _⟩
  case round =>
    obtain ⟨k, hk, rfl, hall, hB⟩ := hrel
    have HALL := Lib.hid hall; have HB := Lib.hid hB
    clear hall hB
    by_cases hkm : k < m
    · have i1 : (k : Int) < (m : Int) := by omega
      obtain ⟨b, o, ea, c1⟩ := (HS.out.same HB.out).cell k hkm
      obtain ⟨x, hx⟩ : ∃ x, x = W k := ⟨_, rfl⟩
      rw [← hx] at c1
      have HXX := Lib.hid hx
      clear hx
      have EA := Lib.hid ea
      subst ea
      have d1 : ∀ q, (wr.drewN q).cell? ⟨b, o + k, none⟩ = some (.int .i64 x) := fun q => c1
      by_cases hx0 : x < 0
      · have q1 : decide (x < 0) = true := by simp [hx0]
        have HX := Lib.hid (show ¬ RW n m W from fun h => by have := (h.ok1 hkm).1; rw [← HXX.out] at this; omega)
        clear hx0
        go_wp2_with fail
        go_quiet (fail)
        go_wp2
        go_ret
        exact ⟨BoSays.no HX.out, below_dr HB.out _⟩
      have q1 : decide (x < 0) = false := by simp; omega
      by_cases hx1 : 65536 < x
      · have q2 : decide (65536 < x) = true := by simp [hx1]
        have HX := Lib.hid (show ¬ RW n m W from fun h => by have := (h.ok1 hkm).2.1; rw [← HXX.out] at this; omega)
        clear hx0 hx1
        go_wp2_with fail
        go_quiet (fail)
        go_wp2
        go_ret
        exact ⟨BoSays.no HX.out, below_dr HB.out _⟩
      have q2 : decide (65536 < x) = false := by simp; omega
      by_cases hk0 : 0 < k
      rotate_left
      · have q3 : decide ((0 : Int) < (k : Int)) = false := by simp; omega
        have HO := Lib.hid (show Ok1 W k from ⟨by rw [← HXX.out]; omega, by rw [← HXX.out]; omega, fun h => absurd h hk0⟩)
        have i3 : ¬ (0 : Int) < (k : Int) := by omega
        clear hx0 hx1
        go_wp2_with fail
        go_quiet (fail)
        go_wp2
        go_roundw
        case rel => exact ⟨k + 1, by omega, by go_num, fun j hj => by
          by_cases e : j = k
          · rw [e]; exact HO.out
          · exact HALL.out j (by omega), below_dr HB.out _⟩
        case measure => simp [intOf]; omega
      obtain ⟨p, hp⟩ : ∃ p : Nat, p = k - 1 := ⟨_, rfl⟩
      have i3 : (k : Int) - 1 = (p : Int) := by omega
      have i4 : (p : Int) < (m : Int) := by omega
      have q3 : decide ((0 : Int) < (k : Int)) = true := by simp; omega
      obtain ⟨b2, o2, ea2, c2⟩ := (HS.out.same HB.out).cell p (by omega)
      cases ea2
      obtain ⟨y, hy⟩ : ∃ y, y = W p := ⟨_, rfl⟩
      rw [← hy] at c2
      have HYY := Lib.hid hy
      have HP := Lib.hid hp
      clear hy hp
      have d2 : ∀ q, (wr.drewN q).cell? ⟨b, o + p, none⟩ = some (.int .i64 y) := fun q => c2
      by_cases hxy : y < x
      · have q4 : decide (y < x) = true := by simp [hxy]
        have HX := Lib.hid (show ¬ RW n m W from fun h => by have := (h.ok1 hkm).2.2 hk0; rw [← HXX.out, ← HP.out, ← HYY.out] at this; omega)
        clear hx0 hx1 hxy
        go_wp2_with fail
        go_quiet (fail)
        go_wp2
        go_ret
        exact ⟨BoSays.no HX.out, below_dr HB.out _⟩
      · have q4 : decide (y < x) = false := by simp; omega
        have HO := Lib.hid (show Ok1 W k from ⟨by rw [← HXX.out]; omega, by rw [← HXX.out]; omega, fun _ => by rw [← HXX.out, ← HP.out, ← HYY.out]; omega⟩)
        clear hx0 hx1 hxy
        go_wp2_with fail
        go_quiet (fail)
        go_wp2
        go_roundw
        case rel => exact ⟨k + 1, by omega, by go_num, fun j hj => by
          by_cases e : j = k
          · rw [e]; exact HO.out
          · exact HALL.out j (by omega), below_dr HB.out _⟩
        case measure => simp [intOf]; omega
    · obtain rfl : k = m := by omega
      have i1 : ¬ (k : Int) < (k : Int) := by omega
      go_wp2
      go_ret
      exact ⟨BoSays.yes (rw_of HN.out HM.out HALL.out), HB.out⟩
end Go.Proofs.Ytpejkglikgefjaa.Wg

namespace Go.Proofs.Ytpejkglikgefjaa.Wg
open Go.RowKit Go.Shelf
attribute [local go_sem] Oper.semAt_some

def Ok2 (nm : Nat) (V K : Nat → Int) (j : Nat) : Prop := 0 ≤ V j ∧ V j ≤ 1048576 ∧ 1 ≤ K j ∧ K j ≤ (nm : Int) - 1
theorem FitW.ok2 {nv nk nm : Nat} {V K W : Nat → Int} (h : FitW nv nk nm V K W) {j : Nat} (hj : j < nv) : Ok2 nm V K j := ⟨h.2.2.2.1 j hj, h.2.2.2.2.1 j hj, h.2.2.2.2.2.1 j hj, h.2.2.2.2.2.2 j hj⟩
theorem fitW_of {nv nm : Nat} {V K W : Nat → Int} (h1 : RW ((nm : Int) - 1) nm W) (h2 : nv ≤ 8) (h : ∀ j, j < nv → Ok2 nm V K j) : FitW nv nv nm V K W :=
  ⟨h1, rfl, h2, fun j hj => (h j hj).1, fun j hj => (h j hj).2.1, fun j hj => (h j hj).2.2.1, fun j hj => (h j hj).2.2.2⟩
theorem sc_bd2 {nm : Nat} {V K W : Nat → Int} (hW : RW ((nm : Int) - 1) nm W) : ∀ k, (∀ j, j < k → Ok2 nm V K j) → 0 ≤ sc V K W k ∧ sc V K W k ≤ k * 68719476736
  | 0, _ => by unfold sc; omega
  | k + 1, h => by
    have h1 := sc_bd2 hW k (fun j hj => h j (by omega))
    obtain ⟨h2, h3, h4, h5⟩ := h k (by omega)
    have h6 : (K k).toNat < nm := by omega
    have := prod_bd h2 h3 (hW.2.2.1 _ h6) (hW.le _ h6)
    have e2 : sc V K W (k + 1) = sc V K W k + V k * W (K k).toNat := rfl
    omega
set_option maxHeartbeats 4000000 in
set_option maxRecDepth 100000 in
theorem rscore_any (va ka wa : Option Addr) (nv vc nk kc nm wc : Nat) (V K W : Nat → Int) (h1 : nv ≤ 140737488355328) (h2 : nk ≤ 140737488355328) (h3 : nm ≤ 140737488355328) (w : World) (hV : Si w va nv V) (hK : Si w ka nk K) (hW : Si w wa nm W) :
    Calls Try.prog 10 #[.slice va nv vc, .slice ka nk kc, .slice wa nm wc] w fun e w' => ScSays nv nk nm V K W e ∧ Below w.heap.size w w' := by
  have HV := Lib.hid hV; have HK := Lib.hid hK; have HW := Lib.hid hW
  have HR := Lib.hid (rright_any ((nm : Int) - 1) wa nm wc W w hW)
  clear hV hK hW
  go_enter Try.func10, Try.ntmps10
  go_wp2_with fail
  refine HR.out.mono ?_
  rintro e w1 ⟨⟨v, rfl, hv⟩, hB1⟩
  have HX := Lib.hid hv; have HB1 := Lib.hid hB1
  clear hv hB1 HR
  cases v
  · have HY := Lib.hid (show ¬ FitW nv nk nm V K W from fun h => absurd (HX.out.2 h.1) (by simp))
    go_wp2
    go_ret2
    exact ⟨Or.inr ⟨HY.out, rfl⟩, HB1.out⟩
  have HRW := Lib.hid (show RW ((nm : Int) - 1) nm W by first | exact HX.out.1 rfl | exact HX.out.1 trivial)
  clear HX
  by_cases e1 : nv = nk
  rotate_left
  · have HY := Lib.hid (show ¬ FitW nv nk nm V K W from fun h => e1 h.2.1)
    have i1 : ((nk : Int) != (nv : Int)) = true := by simp; omega
    clear e1
    go_wp2
    go_ret2
    exact ⟨Or.inr ⟨HY.out, rfl⟩, HB1.out⟩
  subst e1
  have i1 : ((nv : Int) != (nv : Int)) = false := by simp
  by_cases e2 : nv ≤ 8
  rotate_left
  · have HY := Lib.hid (show ¬ FitW nv nv nm V K W from fun h => e2 h.2.2.1)
    have i2 : decide ((8 : Int) < (nv : Int)) = true := by simp; omega
    have i3 : (8 : Int) < (nv : Int) := by omega
    clear e2
    go_wp2
    go_ret2
    exact ⟨Or.inr ⟨HY.out, rfl⟩, HB1.out⟩
  have i2 : decide ((8 : Int) < (nv : Int)) = false := by simp; omega
  have i3 : ¬ (8 : Int) < (nv : Int) := by omega
  have hm1 : 2 ≤ nm ∧ nm ≤ 256 := by have := HRW.out.1; omega
  have HM1 := Lib.hid hm1
  obtain ⟨T, hT⟩ : ∃ T : Nat, T = nm - 1 := ⟨_, rfl⟩
  have j1 : (nm : Int) - 1 = (T : Int) := by omega
  have HJ1 := Lib.hid j1; have HT := Lib.hid hT
  clear hm1 hT
  go_wp2_with fail
  clear i1 i2 i3
  go_loopw [9, 10] (fun s i wr => ∃ (k : Nat), k ≤ nv ∧ i = .int .i64 (k : Nat) ∧ s = .int .i64 (sc V K W k) ∧ (∀ j, j < k → Ok2 nm V K j) ∧ Below w1.heap.size w1 wr) (fun _ i _ => nv - (intOf i).toNat)
  case atStart => exact ⟨0, by omega, rfl, rfl, fun j hj => absurd hj (Nat.not_lt_zero j), Below.refl _ _⟩
  case round =>
    obtain ⟨k, hk, rfl, rfl, hall, hB⟩ := hrel
    have HALL := Lib.hid hall; have HB := Lib.hid hB
    clear hall hB
    by_cases hkn : k < nv
    · have i1 : (k : Int) < (nv : Int) := by omega
      obtain ⟨s0, s1⟩ := sc_bd2 HRW.out k HALL.out
      obtain ⟨b1, o1, ea1, c1⟩ := ((HV.out.same HB1.out).same HB.out).cell k hkn
      obtain ⟨b2, o2, ea2, c2⟩ := ((HK.out.same HB1.out).same HB.out).cell k hkn
      obtain ⟨v, hv⟩ : ∃ v, v = V k := ⟨_, rfl⟩
      obtain ⟨x, hx⟩ : ∃ x, x = K k := ⟨_, rfl⟩
      obtain ⟨s, hs⟩ : ∃ s, s = sc V K W k := ⟨_, rfl⟩
      rw [← hv] at c1
      rw [← hx] at c2
      rw [← hs] at s0 s1 ⊢
      have HVV := Lib.hid hv; have HXX := Lib.hid hx; have HSS := Lib.hid hs
      have EA1 := Lib.hid ea1; have EA2 := Lib.hid ea2
      subst ea1 ea2
      have d1 : ∀ q, (wr.drewN q).cell? ⟨b1, o1 + k, none⟩ = some (.int .i64 v) := fun q => c1
      have d2 : ∀ q, (wr.drewN q).cell? ⟨b2, o2 + k, none⟩ = some (.int .i64 x) := fun q => c2
      clear hv hx hs
      have hbad : (¬ (0 ≤ v ∧ v ≤ 1048576 ∧ 1 ≤ x ∧ x ≤ (T : Int))) → ¬ FitW nv nv nm V K W := fun q h => by
        have h6 := h.ok2 hkn
        unfold Ok2 at h6
        rw [← HVV.out, ← HXX.out, HJ1.out] at h6
        exact q h6
      have HBAD := Lib.hid hbad
      clear hbad
      by_cases hv0 : v < 0
      · have q1 : decide (v < 0) = true := by simp [hv0]
        have HX := Lib.hid (HBAD.out (by omega))
        clear hv0
        go_wp2
        go_ret2
        exact ⟨Or.inr ⟨HX.out, rfl⟩, HB1.out.trans (HB.out.mono HB1.out.size)⟩
      have q1 : decide (v < 0) = false := by simp; omega
      by_cases hv1 : 1048576 < v
      · have q2 : decide (1048576 < v) = true := by simp [hv1]
        have HX := Lib.hid (HBAD.out (by omega))
        clear hv0 hv1
        go_wp2
        go_ret2
        exact ⟨Or.inr ⟨HX.out, rfl⟩, HB1.out.trans (HB.out.mono HB1.out.size)⟩
      have q2 : decide (1048576 < v) = false := by simp; omega
      by_cases hx0 : x < 1
      · have q3 : decide (x < 1) = true := by simp; omega
        have HX := Lib.hid (HBAD.out (by omega))
        clear hv0 hv1 hx0
        go_wp2
        go_ret2
        exact ⟨Or.inr ⟨HX.out, rfl⟩, HB1.out.trans (HB.out.mono HB1.out.size)⟩
      have q3 : decide (x < 1) = false := by simp; omega
      by_cases hx1 : (T : Int) < x
      · have q4 : decide ((T : Int) < x) = true := by simp; omega
        have HX := Lib.hid (HBAD.out (by omega))
        clear hv0 hv1 hx0 hx1
        go_wp2
        go_ret2
        exact ⟨Or.inr ⟨HX.out, rfl⟩, HB1.out.trans (HB.out.mono HB1.out.size)⟩
      have q4 : decide ((T : Int) < x) = false := by simp; omega
      obtain ⟨kk, hkk⟩ : ∃ kk : Nat, x = (kk : Nat) := ⟨x.toNat, by omega⟩
      have hkm : kk < nm := by have := HT.out; have := HM1.out; omega
      have HOK := Lib.hid (show Ok2 nm V K k from by
        unfold Ok2
        rw [← HVV.out, ← HXX.out, HJ1.out]; omega)
      have HSC := Lib.hid (show sc V K W (k + 1) = s + v * W kk by show sc V K W k + V k * W (K k).toNat = _; rw [← HXX.out, ← HVV.out, ← HSS.out, hkk, Int.toNat_natCast])
      have hp := prod_bd (v := v) (by omega) (by omega) (HRW.out.2.2.1 _ hkm) (HRW.out.le _ hkm)
      obtain ⟨b3, o3, ea3, c3⟩ := ((HW.out.same HB1.out).same HB.out).cell kk hkm
      obtain ⟨y, hy⟩ : ∃ y, y = W kk := ⟨_, rfl⟩
      rw [← hy] at c3 hp HSC
      obtain ⟨p, hpe⟩ : ∃ p, v * y = p := ⟨_, rfl⟩
      rw [hpe] at hp HSC
      obtain ⟨p0, p1⟩ := hp
      have EA3 := Lib.hid ea3
      subst ea3
      have d3 : ∀ q, (wr.drewN q).cell? ⟨b3, o3 + kk, none⟩ = some (.int .i64 y) := fun q => c3
      have i2 : (kk : Int) < (nm : Int) := by omega
      clear hy
      subst hkk
      clear hv0 hv1 hx0 hx1
      go_wp2_with fail
      go_quiet (fail)
      go_wp2
      go_roundw
      case rel => exact ⟨k + 1, by omega, by go_num, by rw [HSC.out], fun j hj => by
        by_cases e : j = k
        · rw [e]; exact HOK.out
        · exact HALL.out j (by omega), below_dr HB.out _⟩
      case measure => simp [intOf]; omega
    · obtain rfl : k = nv := by omega
      have i1 : ¬ (k : Int) < (k : Int) := by omega
      go_wp2
      go_ret2
      exact ⟨Or.inl ⟨fitW_of HRW.out e2 HALL.out, rfl⟩, HB1.out.trans (HB.out.mono HB1.out.size)⟩
end Go.Proofs.Ytpejkglikgefjaa.Wg

namespace Go.Proofs.Ytpejkglikgefjaa.Wg
open Go.RowKit Go.Shelf
attribute [local go_sem] Oper.semAt_some

set_option maxHeartbeats 4000000 in
set_option maxRecDepth 100000 in
theorem rbetter_any (va ka oa wa : Option Addr) (nv vc nk kc no oc nm wc : Nat) (V K O W : Nat → Int) (h1 : nv ≤ 140737488355328) (h2 : nk ≤ 140737488355328) (h4 : no ≤ 140737488355328) (h3 : nm ≤ 140737488355328) (w : World) (hV : Si w va nv V) (hK : Si w ka nk K) (hO : Si w oa no O) (hW : Si w wa nm W) :
    Calls Try.prog 12 #[.slice va nv vc, .slice ka nk kc, .slice oa no oc, .slice wa nm wc] w fun e w' => BtSays nv nk no nm V K O W e ∧ Below w.heap.size w w' := by
  have HV := Lib.hid hV; have HK := Lib.hid hK; have HO := Lib.hid hO; have HW := Lib.hid hW
  have HF := Lib.hid (rscore_any va ka wa nv vc nk kc nm wc V K W h1 h2 h3 w hV hK hW)
  clear hV hK hW hO
  go_enter Try.func12, Try.ntmps12
  go_wp2_with fail
  refine HF.out.mono ?_
  rintro e w1 ⟨hs, hB1⟩
  have HB1 := Lib.hid hB1
  clear hB1 HF
  rcases hs with ⟨hf, rfl⟩ | ⟨hf, rfl⟩
  rotate_left
  · have HY := Lib.hid (show ¬ (FitW nv nk nm V K W ∧ FitW nv no nm V O W) from fun h => hf h.1)
    clear hf
    go_wp2
    go_ret2
    exact ⟨Or.inl ⟨HY.out, rfl⟩, HB1.out⟩
  have HF1 := Lib.hid hf
  clear hf
  generalize hs1 : sc V K W nk = s1
  have HS1 := Lib.hid hs1
  clear hs1
  go_wp2_with fail
  refine (rscore_any va oa wa nv vc no oc nm wc V O W h1 h4 h3 _ (HV.out.same HB1.out) (HO.out.same HB1.out) (HW.out.same HB1.out)).mono ?_
  rintro e w2 ⟨hs, hB2⟩
  have HB2 := Lib.hid (HB1.out.trans (hB2.mono HB1.out.size))
  clear hB2 HB1
  rcases hs with ⟨hf, rfl⟩ | ⟨hf, rfl⟩
  rotate_left
  · have HY := Lib.hid (show ¬ (FitW nv nk nm V K W ∧ FitW nv no nm V O W) from fun h => hf h.2)
    clear hf
    go_wp2
    go_ret2
    exact ⟨Or.inl ⟨HY.out, rfl⟩, HB2.out⟩
  have HF2 := Lib.hid hf
  clear hf
  generalize hs2 : sc V O W no = s2
  have HS2 := Lib.hid hs2
  clear hs2
  have hnk := HF1.out.2.1
  have hno := HF2.out.2.1
  subst hnk hno
  by_cases hne : s1 = s2
  rotate_left
  · have i1 : (s1 != s2) = true := by simp [hne]
    have HNE := Lib.hid hne
    clear hne
    go_wp2
    go_ret2
    refine ⟨Or.inr ⟨⟨HF1.out, HF2.out⟩, _, rfl, ?_⟩, HB2.out⟩
    unfold Btr
    rw [HS1.out, HS2.out, decide_eq_true_iff]
    constructor
    · intro h; exact Or.inl h
    · rintro (h | ⟨h, _⟩)
      · exact h
      · exact absurd h HNE.out
  have i1 : (s1 != s2) = false := by simp [hne]
  have HNE := Lib.hid hne
  clear hne
  have HBT := Lib.hid (show Btr nv V K O W ↔ Ahd nv K O from by
    unfold Btr
    rw [HS1.out, HS2.out]
    constructor
    · rintro (h | ⟨_, h⟩)
      · have := HNE.out; omega
      · exact h
    · intro h; exact Or.inr ⟨HNE.out, h⟩)
  go_wp2_with fail
  clear i1
  go_loopw [14] (fun i wr => ∃ (k : Nat), k ≤ nv ∧ i = .int .i64 (k : Nat) ∧ (∀ j, j < k → K j = O j) ∧ Below w.heap.size w wr) (fun i _ => nv - (intOf i).toNat)
  case atStart => exact ⟨0, by omega, rfl, fun j hj => absurd hj (Nat.not_lt_zero j), HB2.out⟩
  case round =>
    obtain ⟨k, hk, rfl, hall, hB⟩ := hrel
    have HALL := Lib.hid hall; have HB := Lib.hid hB
    clear hall hB
    by_cases hkn : k < nv
    · have i1 : (k : Int) < (nv : Int) := by omega
      obtain ⟨b1, o1, ea1, c1⟩ := (HK.out.same HB.out).cell k hkn
      obtain ⟨b2, o2, ea2, c2⟩ := (HO.out.same HB.out).cell k hkn
      obtain ⟨x, hx⟩ : ∃ x, x = K k := ⟨_, rfl⟩
      obtain ⟨y, hy⟩ : ∃ y, y = O k := ⟨_, rfl⟩
      rw [← hx] at c1
      rw [← hy] at c2
      have HXX := Lib.hid hx; have HYY := Lib.hid hy
      have EA1 := Lib.hid ea1; have EA2 := Lib.hid ea2
      subst ea1 ea2
      have d1 : ∀ q, (wr.drewN q).cell? ⟨b1, o1 + k, none⟩ = some (.int .i64 x) := fun q => c1
      have d2 : ∀ q, (wr.drewN q).cell? ⟨b2, o2 + k, none⟩ = some (.int .i64 y) := fun q => c2
      clear hx hy
      by_cases hxy : x = y
      · have q1 : (x != y) = false := by simp [hxy]
        have HOK := Lib.hid (show K k = O k by rw [← HXX.out, ← HYY.out, hxy])
        clear hxy
        go_wp2_with fail
        go_quiet (fail)
        go_wp2
        go_roundw
        case rel => exact ⟨k + 1, by omega, by go_num, fun j hj => by
          by_cases e : j = k
          · rw [e]; exact HOK.out
          · exact HALL.out j (by omega), below_dr HB.out _⟩
        case measure => simp [intOf]; omega
      · have q1 : (x != y) = true := by simp [hxy]
        have HNX := Lib.hid hxy
        clear hxy
        go_wp2_with fail
        go_quiet (fail)
        have d3 := fun q => d1 (nq + q)
        have d4 := fun q => d2 (nq + q)
        have HB3 := Lib.hid (below_dr HB.out nq)
        obtain ⟨w3, hw3⟩ : ∃ w3, w3 = wr.drewN nq := ⟨_, rfl⟩
        have e3 : ∀ q, (w3.drewN q).cell? ⟨b1, o1 + k, none⟩ = some (.int .i64 x) := fun q => by rw [hw3]; exact c1
        have e4 : ∀ q, (w3.drewN q).cell? ⟨b2, o2 + k, none⟩ = some (.int .i64 y) := fun q => by rw [hw3]; exact c2
        have e5 : w3.cell? ⟨b1, o1 + k, none⟩ = some (.int .i64 x) := by rw [hw3]; exact c1
        have e6 : w3.cell? ⟨b2, o2 + k, none⟩ = some (.int .i64 y) := by rw [hw3]; exact c2
        rw [← hw3] at HB3 ⊢
        clear c1 c2 d1 d2 d3 d4 hw3
        go_wp2_with fail
        go_quiet (fail)
        go_wp2
        go_ret2
        refine ⟨Or.inr ⟨⟨HF1.out, HF2.out⟩, _, rfl, ?_⟩, below_dr HB3.out _⟩
        rw [decide_eq_true_iff, HBT.out]
        constructor
        · intro h; exact ⟨k, hkn, HALL.out, by rw [← HXX.out, ← HYY.out]; exact h⟩
        · rintro ⟨q, hq, h5, h6⟩
          by_cases e1 : q < k
          · have := HALL.out q e1; omega
          · by_cases e2 : k < q
            · have := h5 k e2; rw [← HXX.out, ← HYY.out] at this; exact absurd this HNX.out
            · obtain rfl : k = q := by omega
              rw [← HXX.out, ← HYY.out] at h6; exact h6
    · obtain rfl : k = nv := by omega
      have i1 : ¬ (k : Int) < (k : Int) := by omega
      go_wp2
      go_ret2
      refine ⟨Or.inr ⟨⟨HF1.out, HF2.out⟩, false, rfl, fun h => (by cases h), fun h => ?_⟩, HB.out⟩
      obtain ⟨q, hq, h5, h6⟩ := HBT.out.1 h
      have := HALL.out q hq
      omega

def SmI (n m : Nat) (K L : Nat → Int) : Prop := n = m ∧ ∀ j, j < n → K j = L j
set_option maxHeartbeats 2000000 in
/-- lists of numbers that are the same, or not. -/
theorem sameInts_any (a b : Option Addr) (n c m d : Nat) (K L : Nat → Int) (hn : n ≤ 140737488355328) (hm : m ≤ 140737488355328) (w : World) (hK : Si w a n K) (hL : Si w b m L) :
    Calls Try.prog 15 #[.slice a n c, .slice b m d] w fun e w' => BoSays (SmI n m K L) e ∧ Below w.heap.size w w' := by
  have HK := Lib.hid hK; have HL := Lib.hid hL
  clear hK hL
  go_enter Try.func15, Try.ntmps15
  by_cases hnm : n = m
  rotate_left
  · have i1 : ((n : Int) != (m : Int)) = true := by simp; omega
    have HX := Lib.hid (show ¬ SmI n m K L from fun h => hnm h.1)
    clear hnm
    go_wp2
    go_ret
    exact ⟨BoSays.no HX.out, Below.refl _ _⟩
  subst hnm
  have i1 : ((n : Int) != (n : Int)) = false := by simp
  go_wp2_with fail
  clear i1
  go_loopw [5] (fun i wr => ∃ (k : Nat), k ≤ n ∧ i = .int .i64 (k : Nat) ∧ (∀ j, j < k → K j = L j) ∧ Below w.heap.size w wr) (fun i _ => n - (intOf i).toNat)
  case atStart => exact ⟨0, by omega, rfl, fun j hj => absurd hj (Nat.not_lt_zero j), Below.refl _ _⟩
  case round =>
    obtain ⟨k, hk, rfl, hall, hB⟩ := hrel
    have HALL := Lib.hid hall; have HB := Lib.hid hB
    clear hall hB
    by_cases hkn : k < n
    · have i1 : (k : Int) < (n : Int) := by omega
      obtain ⟨b1, o1, ea1, c1⟩ := (HK.out.same HB.out).cell k hkn
      obtain ⟨b2, o2, ea2, c2⟩ := (HL.out.same HB.out).cell k hkn
      obtain ⟨x, hx⟩ : ∃ x, x = K k := ⟨_, rfl⟩
      obtain ⟨y, hy⟩ : ∃ y, y = L k := ⟨_, rfl⟩
      rw [← hx] at c1
      rw [← hy] at c2
      have HXX := Lib.hid hx; have HYY := Lib.hid hy
      have EA1 := Lib.hid ea1; have EA2 := Lib.hid ea2
      subst ea1 ea2
      have d1 : ∀ q, (wr.drewN q).cell? ⟨b1, o1 + k, none⟩ = some (.int .i64 x) := fun q => c1
      have d2 : ∀ q, (wr.drewN q).cell? ⟨b2, o2 + k, none⟩ = some (.int .i64 y) := fun q => c2
      clear hx hy
      by_cases hxy : x = y
      · have q1 : (x != y) = false := by simp [hxy]
        have HOK := Lib.hid (show K k = L k by rw [← HXX.out, ← HYY.out, hxy])
        clear hxy
        go_wp2_with fail
        go_quiet (fail)
        go_wp2
        go_roundw
        case rel => exact ⟨k + 1, by omega, by go_num, fun j hj => by
          by_cases e : j = k
          · rw [e]; exact HOK.out
          · exact HALL.out j (by omega), below_dr HB.out _⟩
        case measure => simp [intOf]; omega
      · have q1 : (x != y) = true := by simp [hxy]
        have HX := Lib.hid (show ¬ SmI n n K L from fun h => hxy (by rw [HXX.out, HYY.out]; exact h.2 k hkn))
        clear hxy
        go_wp2_with fail
        go_quiet (fail)
        go_wp2
        go_ret
        exact ⟨BoSays.no HX.out, below_dr HB.out _⟩
    · obtain rfl : k = n := by omega
      have i1 : ¬ (k : Int) < (k : Int) := by omega
      go_wp2
      go_ret
      exact ⟨BoSays.yes ⟨rfl, HALL.out⟩, HB.out⟩
end Go.Proofs.Ytpejkglikgefjaa.Wg

namespace Go.Proofs.Ytpejkglikgefjaa.Wg
open Go.RowKit Go.Shelf
attribute [local go_sem] Oper.semAt_some

theorem hmkI (N : Nat) (hN : N ≤ 1000000000) : ∀ W : World, (Instr.makeSlice 22 (.int .i64 (N : Nat)) (.int .i64 (N : Nat))).run Try.prog W = .ok (.slice (some ⟨W.heap.size, 0, none⟩) N N) (W.alloc (.cells (madeCells #[.int .i64 0] N) 3)) := fun W => by
  obtain ⟨i0, hi, hz0, hz1, hz2⟩ := info_parts Try.infoInt2
  have := run_make (P := Try.prog) W 22 3 i0 (.int .i64 0) Try.underlying22 hi hz0 .i64 .i64 (N : Int) (N : Int) (by omega) (Int.le_refl _) (by rw [hz2]; omega) (by omega)
  have e : (Value.int .i64 0).cells = #[.int .i64 0] := rfl
  rw [hz1, e, Int.toNat_natCast, Nat.mul_one] at this; exact this
/-- a block of c numbers, the first k of which are 65536. -/
def Rp (w : World) (g c k : Nat) : Prop := ∃ vs : Array Value, w.heap[g]? = some (.cells vs 3 (0, 0)) ∧ vs.size = c ∧ ∀ i, i < k → vs[i]? = some (.int .i64 65536)
section
variable {w w' : World} {g c k : Nat}
theorem Rp.lt (h : Rp w g c k) : g < w.heap.size := by
  obtain ⟨vs, h1, _⟩ := h
  exact (Array.getElem?_eq_some_iff.1 h1).1
theorem Rp.same (h : Rp w g c k) (hB : Below w.heap.size w w') : Rp w' g c k := by
  obtain ⟨vs, h1, h2⟩ := h
  exact ⟨vs, (hB.block g (Array.getElem?_eq_some_iff.1 h1).1).trans h1, h2⟩
theorem Rp.cell (h : Rp w g c k) {i : Nat} (hi : i < k) : w.cell? ⟨g, i, none⟩ = some (.int .i64 65536) := by
  obtain ⟨vs, h1, h2, h3⟩ := h
  rw [cell_of_row w g i vs _ _ h1]; exact h3 i hi
end
theorem rp_made (W : World) (N : Nat) : Rp (W.alloc (.cells (madeCells #[.int .i64 0] N) 3)) W.heap.size N 0 :=
  ⟨_, heap_alloc_new W _, size_madeCells _ _, fun i hi => absurd hi (Nat.not_lt_zero i)⟩
theorem Try.sizeIntOne : (Try.prog.info? 3).map (·.size) = some 1 := by kernel_rfl
theorem run_copy_rp (w : World) (ty : TypeId) (g c k m dLen dCap sLen sCap : Nat) (ad : Addr) (hm : m = Nat.min sLen dLen) (h : Rp w g c k) (hs : ∀ j, j < m → w.cell? (ad.add j) = some (.int .i64 65536)) (hfit : k + m ≤ c) :
    ∃ w', (Builtin.copy_ #[22, 22] ty #[.slice (some ⟨g, k, none⟩) dLen dCap, .slice (some ad) sLen sCap]).run Try.prog w = .ok (.int .i64 (m : Nat)) w' ∧ Rp w' g c (k + m) ∧ w.grownBy w' (some g) := by
  obtain ⟨vs, h1, h2, h3⟩ := h
  have hl : (List.replicate m (Value.int .i64 65536)).length = m := List.length_replicate
  have hrun := run_copy_row (P := Try.prog) w 22 22 ty 3 g k dLen dCap ad sLen sCap vs 3 (List.replicate m (Value.int .i64 65536)) Try.underlying22 Try.sizeIntOne h1 (by rw [hl]; exact hm) (fun j v hj => by
    have hjm := (List.getElem?_eq_some_iff.1 hj).1
    rw [hl] at hjm
    rw [List.getElem?_replicate, if_pos hjm] at hj
    rw [← hj]; exact hs j hjm) (by rw [hl, h2]; exact hfit) (fun v hv => by rw [List.eq_of_mem_replicate hv]; rfl)
  rw [hl] at hrun
  refine ⟨_, hrun, ⟨_, setRow_heap w g _ _ _ _ h1, ?_, fun i hi => ?_⟩, ⟨rfl, rfl, rfl, by simp [World.setRow], fun j _ hne => setRow_other w g j _ (fun e => hne (by rw [e]))⟩⟩
  · simp; omega
  · rw [List.getElem?_toArray]
    simp only [List.append_assoc]
    by_cases e : i < k
    · rw [List.getElem?_append_left (by simp; omega), List.getElem?_take, if_pos e, Array.getElem?_toList]
      exact h3 i e
    · rw [List.getElem?_append_right (by simp; omega)]
      have e1 : (List.take k vs.toList).length = k := by simp; omega
      rw [e1, List.getElem?_append_left (by rw [hl]; omega), List.getElem?_replicate, if_pos (by omega)]

theorem mask32 (c : Nat) (h : c < 4294967296) : bits .and .u64 (c : Int) 4294967295 = (c : Int) := by
  have := u64_and_nat c 4294967295 (by omega) (by omega)
  rw [show ((4294967295 : Nat) : Int) = 4294967295 from rfl] at this
  rw [this, show (4294967295 : Nat) = 2 ^ 32 - 1 from rfl, Nat.and_two_pow_sub_one_eq_mod]
  congr 1; omega
set_option maxHeartbeats 1000000 in
theorem mul64_one (c : Nat) (hc : c ≤ 1000) (w : World) :
    Calls Try.prog 37 #[.int .u64 1, .int .u64 (c : Nat)] w fun e w' => e = .returned (.tuple #[.int .u64 0, .int .u64 (c : Nat)]) ∧ w' = w := by
  have m0 : bits .and .u64 0 4294967295 = 0 := mask32 0 (by omega)
  have m1 : bits .and .u64 1 4294967295 = 1 := mask32 1 (by omega)
  have m2 := mask32 c (by omega)
  have m3 : (c : Int) / 4294967296 = 0 := by omega
  go_enter Try.func37, Try.ntmps37
  go_wp2
  go_ret2
  exact ⟨rfl, rfl⟩
set_option maxHeartbeats 1000000 in
theorem mul_one_ (c : Nat) (hc : c ≤ 1000) (w : World) :
    Calls Try.prog 32 #[.int .u64 1, .int .u64 (c : Nat)] w fun e w' => e = .returned (.tuple #[.int .u64 0, .int .u64 (c : Nat)]) ∧ w' = w := by
  go_enter Try.func32, Try.ntmps32
  go_wp2_with fail
  refine (mul64_one c hc _).mono ?_
  rintro e w1 ⟨rfl, rfl⟩
  go_wp2
  go_ret2
  exact ⟨rfl, rfl⟩
/-- a row of 65536 alone, in a block of its own. -/
def RpSays (w : World) (c : Nat) (e : Ending) (w' : World) : Prop := ∃ g, w.heap.size ≤ g ∧ e = .returned (.slice (some ⟨g, 0, none⟩) c c) ∧ Rp w' g c c ∧ Below w.heap.size w w'
set_option maxHeartbeats 4000000 in
set_option maxRecDepth 100000 in
theorem repeat_any (x c : Nat) (hc : c ≤ 1000) (h1 : 1 ≤ c) (w : World) (hx : Rp w x 1 1) :
    Calls Try.prog 25 #[.slice (some ⟨x, 0, none⟩) 1 1, .int .i64 (c : Nat)] w (RpSays w c) := by
  have hmk := hmkI c (by omega)
  have HX := Lib.hid hx; clear hx
  have hb1 : Below w.heap.size w (w.alloc (.cells (madeCells #[.int .i64 0] c) 3)) := (Below.refl _ w).alloc (Nat.le_refl _) _
  obtain ⟨w2, hrun, hr2, hg2⟩ := run_copy_rp (w.alloc (.cells (madeCells #[.int .i64 0] c) 3)) 3 w.heap.size c 0 1 c c 1 1 ⟨x, 0, none⟩ (show 1 = min 1 c by omega) (rp_made w c) (fun j hj => by
    obtain rfl : j = 0 := by omega
    rw [Addr.add_lit]; exact (HX.out.same hb1).cell (by omega)) (by omega)
  have HR2 := Lib.hid hr2; have HB2 := Lib.hid (hb1.grown hg2 hb1.size (fun g e => by cases e; exact Nat.le_refl _))
  clear hb1 hr2 hg2
  have i1 : ¬ (c : Int) < 0 := by omega
  have i3 : ¬ (9223372036854775807 : Int) < (c : Int) := by omega
  go_enter Try.func25, Try.ntmps25
  go_wp2_with fail
  refine (mul_one_ c hc _).mono ?_
  rintro e w1 ⟨rfl, rfl⟩
  go_wp2_with fail
  clear hrun hmk
  obtain ⟨g, hg⟩ : ∃ g, g = w1.heap.size := ⟨_, rfl⟩
  rw [← hg] at HR2 ⊢
  have HG := Lib.hid hg
  clear hg i1 i3
  go_loopw [8] (fun n wr => ∃ k : Nat, 1 ≤ k ∧ k ≤ c ∧ n = .int .i64 (k : Nat) ∧ Rp wr g c k ∧ Below w1.heap.size w1 wr) (fun n _ => c - (intOf n).toNat)
  case atStart => exact ⟨1, by omega, by omega, rfl, HR2.out, HB2.out⟩
  case round =>
    obtain ⟨k, hk1, hk, rfl, hr, hB⟩ := hrel
    have HR := Lib.hid hr; have HB := Lib.hid hB
    clear hr hB
    by_cases hkc : k < c
    · have i1 : (k : Int) < (c : Int) := by omega
      have i2 : ¬ c = k := by omega
      have i3 : (k : Int) ≤ (c : Int) := by omega
      obtain ⟨m, hm⟩ : ∃ m, m = min k (c - k) := ⟨_, rfl⟩
      have hm1 : 1 ≤ m := by omega
      have hmk2 : k + m ≤ c := by omega
      obtain ⟨w3, hw3⟩ : ∃ w3, w3 = wr.drew := ⟨_, rfl⟩
      have hr3 : Rp w3 g c k := by rw [hw3]; exact HR.out
      obtain ⟨w4, hrun, hr4, hg4⟩ := run_copy_rp w3 3 g c k m (c - k) (c - k) k c ⟨g, 0, none⟩ hm hr3 (fun j hj => by rw [Addr.add_lit, Nat.zero_add]; exact hr3.cell (by omega)) hmk2
      have HR4 := Lib.hid hr4
      have hb3 : Below w1.heap.size w1 w3 := by rw [hw3]; exact HB.out.drew
      have HB4 := Lib.hid (hb3.grown hg4 hb3.size (fun j e => by cases e; rw [HG.out]; exact Nat.le_refl _))
      have HW3 := Lib.hid hw3
      have HM := Lib.hid hm
      clear hr3 hr4 hg4 hb3 hw3 hm
      go_wp2_with fail
      rw [HW3.out] at hrun
      go_region
      go_wp2
      go_roundw
      case rel => exact ⟨k + m, by omega, by omega, by go_num, HR4.out, HB4.out⟩
      case measure => simp [intOf]; omega
    · obtain rfl : k = c := by omega
      have i1 : ¬ (k : Int) < (k : Int) := by omega
      go_wp2
      go_ret
      exact ⟨g, by rw [HG.out]; exact Nat.le_refl _, rfl, HR.out, HB.out⟩
end Go.Proofs.Ytpejkglikgefjaa.Wg

namespace Go.Proofs.Ytpejkglikgefjaa.Wg
open Go.RowKit Go.Shelf
attribute [local go_sem] Oper.semAt_some

theorem own_slice {w : World} {B s n : Nat} {e : TypeId} {v : Value} {xs : List Value} (h : w.ownsRow B e s v n xs) : ∃ a c, v = .slice a n c := by
  rcases h.2 with ⟨q, h0⟩ | ⟨g, c1, cur, q, _⟩
  · exact ⟨none, 0, by rw [q, h0]⟩
  · exact ⟨_, c1, q⟩
theorem own_below {w w' : World} {B s n : Nat} {e : TypeId} {v : Value} {xs : List Value} (h : w.ownsRow B e s v n xs) (hB : Below w.heap.size w w') : w'.ownsRow B e s v n xs :=
  h.kept (⟨hB.os, hB.tape, hB.output, hB.size, fun k hk _ => hB.block k hk⟩ : w.grownBy w' none) (by cases v.ownBlock <;> simp)
theorem hi_own {w : World} {B n c : Nat} {a : Option Addr} {h : Nat → Int} (ho : w.ownsRow B 3 1 (.slice a n c) n (inh h n)) : Hi w a n c h := by
  obtain ⟨hlen, ⟨e, h0⟩ | ⟨g, cap', cur, e, hg, hh, hnc, hcm, hs, ht⟩⟩ := id ho
  · simp only [Value.slice.injEq] at e
    obtain ⟨rfl, _, rfl⟩ := e
    exact ⟨by omega, by unfold maxLen; omega, fun _ => ⟨by omega, rfl⟩, fun _ e => (by cases e), fun _ e => (by cases e)⟩
  · simp only [Value.slice.injEq, true_and] at e
    obtain ⟨rfl, rfl⟩ := e
    refine ⟨hnc, hcm, fun e => (by cases e), fun ad e _ => (by cases e; rfl), fun ad e i hi => ?_⟩
    cases e
    obtain ⟨b, o, e2, hc⟩ := (inh_si ho).cell i hi
    cases e2
    exact hc
/-- what the even weights are told as. -/
def EvSays (n : Int) (w : World) (e : Ending) (w' : World) : Prop := (¬ (1 ≤ n ∧ n ≤ 255) ∧ e = .returned (.tuple #[.slice none 0 0, .int .i64 2]) ∧ Below w.heap.size w w') ∨ ∃ (N : Nat) (a : Option Addr) (c : Nat), n = N ∧ (1 ≤ N ∧ N ≤ 255) ∧ e = .returned (.tuple #[.slice a (N + 1) c, .int .i64 0]) ∧ Hi w' a (N + 1) c (fun _ => 65536) ∧ Below w.heap.size w w'
set_option maxHeartbeats 4000000 in
set_option maxRecDepth 100000 in
theorem even_any (n : Int) (w : World) :
    Calls Try.prog 13 #[.int .i64 n] w (EvSays n w) := by
  go_enter Try.func13, Try.ntmps13
  by_cases hn : 1 ≤ n ∧ n ≤ 255
  rotate_left
  · have HN := Lib.hid hn
    go_wp2_with fail
    refine (many_no hn _).mono ?_
    rintro e w1 ⟨rfl, rfl⟩
    clear hn
    go_wp2
    go_ret2
    exact Or.inl ⟨HN.out, rfl, Below.refl _ _⟩
  go_wp2_with fail
  refine (many_yes hn _).mono ?_
  rintro e w1 ⟨rfl, rfl⟩
  obtain ⟨N, rfl⟩ : ∃ N : Nat, n = N := ⟨n.toNat, by omega⟩
  have HN := Lib.hid (show 1 ≤ N ∧ N ≤ 255 by omega)
  have hb1 : Below w1.heap.size w1 (w1.alloc (.cells #[.int .i64 65536] 3)) := (Below.refl _ w1).alloc (Nat.le_refl _) _
  have HB1 := Lib.hid hb1
  have HRP := Lib.hid (show Rp (w1.alloc (.cells #[.int .i64 65536] 3)) w1.heap.size 1 1 from ⟨_, heap_alloc_new _ _, rfl, fun i hi => by
    obtain rfl : i = 0 := by omega
    rfl⟩)
  obtain ⟨T, hT⟩ : ∃ T : Nat, T = N + 1 := ⟨_, rfl⟩
  have HRE := Lib.hid (repeat_any w1.heap.size T (by omega) (by omega) _ HRP.out)
  have i1 : (N : Int) + 1 = (T : Int) := by omega
  have i2 : T ≤ 256 := by omega
  have HT := Lib.hid hT
  clear hn hb1 hT
  go_wp2_with fail
  refine HRE.out.mono ?_
  rintro e w2 ⟨g, hg, rfl, hr, hB2⟩
  have HR := Lib.hid hr; have HB2 := Lib.hid (HB1.out.trans (hB2.mono HB1.out.size))
  clear hr hB2 HRE hg i1
  go_wp2
  go_ret2
  have e1 := HT.out
  subst e1
  refine Or.inr ⟨N, _, _, rfl, HN.out, rfl, ⟨Nat.le_refl _, by have := HN.out; unfold maxLen; omega, fun e => (by cases e), fun ad e _ => (by cases e; rfl), fun ad e i hi => ?_⟩, HB2.out⟩
  cases e
  rw [Nat.zero_add]; exact HR.out.cell hi

set_option maxHeartbeats 4000000 in
set_option maxRecDepth 100000 in
theorem reven_any (n : Int) (w : World) :
    Calls Try.prog 14 #[.int .i64 n] w (EvSays n w) := by
  obtain ⟨i3, hi, hz0, hz1, hz2⟩ := info_parts Try.infoInt2
  have HI := Lib.hid hi; have HZ0 := Lib.hid hz0; have HZ1 := Lib.hid hz1; have HZ2 := Lib.hid hz2
  clear hi hz0 hz1 hz2
  go_enter Try.func14, Try.ntmps14
  by_cases h1 : n < 1
  · have g1 : decide (n < 1) = true := by simp; omega
    have HN := Lib.hid (show ¬ (1 ≤ n ∧ n ≤ 255) by omega)
    go_wp2
    go_ret2
    exact Or.inl ⟨HN.out, rfl, Below.refl _ _⟩
  have g1 : decide (n < 1) = false := by simp; omega
  by_cases h2 : 255 < n
  · have g2 : decide (255 < n) = true := by simp; omega
    have HN := Lib.hid (show ¬ (1 ≤ n ∧ n ≤ 255) by omega)
    go_wp2
    go_ret2
    exact Or.inl ⟨HN.out, rfl, Below.refl _ _⟩
  have g2 : decide (255 < n) = false := by simp; omega
  obtain ⟨N, rfl⟩ : ∃ N : Nat, n = N := ⟨n.toNat, by omega⟩
  have HN := Lib.hid (show 1 ≤ N ∧ N ≤ 255 by omega)
  go_wp2_with fail
  clear h1 h2 g1 g2
  go_loopw [4, 5] (fun o i wr => ∃ (k : Nat) (a : Option Addr) (c : Nat), k ≤ N + 1 ∧ i = .int .i64 (k : Nat) ∧ o = .slice a k c ∧ wr.ownsRow w.heap.size 3 1 (.slice a k c) k (inh (fun _ => 65536) k) ∧ Below w.heap.size w wr) (fun _ i _ => N + 1 - (intOf i).toNat)
  case atStart => exact ⟨0, none, 0, by omega, rfl, rfl, World.ownsRow_nil _ _ _ _, Below.refl _ _⟩
  case round =>
    obtain ⟨k, a, c, hk, rfl, rfl, hO, hB⟩ := hrel
    have HO := Lib.hid hO; have HB := Lib.hid hB
    clear hO hB
    have HNN := HN.out
    by_cases hkn : k ≤ N
    · have i1 : (k : Int) ≤ (N : Int) := by omega
      have hal : Below wr.heap.size wr (wr.alloc (.cells #[.int .i64 65536] 3)) := (Below.refl _ wr).alloc (Nat.le_refl _) _
      have HOX := Lib.hid (own_below HO.out hal)
      have HBX := Lib.hid (HB.out.trans (hal.mono HB.out.size))
      have hbase : w.heap.size ≤ (wr.alloc (.cells #[.int .i64 65536] 3)).heap.size := HBX.out.size
      have i5 : k ≤ 256 := by omega
      clear hal HNN
      go_wp2_with (at_builtin; refine wpList_append_own _ rfl _ _ 22 rfl w.heap.size 3 i3 (.int .i64 0) 1 8 Try.underlying22 HI.out HZ0.out HZ1.out HZ2.out rfl (by decide) _ k (inh (fun _ => 65536) k) rfl HOX.out ⟨wr.heap.size, 0, none⟩ 1 1 [.int .i64 65536] rfl rfl (cell_single _ _ _) (one_single _ _) (by have := HN.out; unfold maxLen; omega) (by have := HN.out; omega) hbase ?_; intro v9 w9 hown9 hgrow9 _; have hown9 : w9.ownsRow w.heap.size 3 1 v9 (k + 1) (inh (fun _ => 65536) (k + 1)) := (by rw [inh_s]; exact hown9); have HB9 := Lib.hid (HBX.out.grown hgrow9 hbase (fun j e => (HOX.out.lt j e).1)); obtain ⟨a9, c9, rfl⟩ := own_slice hown9; have HO9 := Lib.hid hown9; clear hown9 hgrow9)
      go_roundw
      case rel => exact ⟨k + 1, a9, c9, by omega, by go_num, rfl, HO9.out, HB9.out⟩
      case measure => simp [intOf]; omega
    · obtain rfl : k = N + 1 := by omega
      have i1 : ¬ ((N + 1 : Nat) : Int) ≤ (N : Int) := by omega
      clear HNN
      go_wp2
      go_ret2
      exact Or.inr ⟨N, a, c, rfl, HN.out, rfl, hi_own HO.out, HB.out⟩
end Go.Proofs.Ytpejkglikgefjaa.Wg

namespace Go.Proofs.Ytpejkglikgefjaa.Wg
open Go.RowKit Go.Shelf
attribute [local go_sem] Oper.semAt_some

theorem threeB (w : World) (a b c : Obj) : (((w.alloc a).alloc b).alloc c).heap[w.heap.size]? = some a ∧ (((w.alloc a).alloc b).alloc c).heap[w.heap.size + 1]? = some b ∧ (((w.alloc a).alloc b).alloc c).heap[w.heap.size + 1 + 1]? = some c ∧ Below w.heap.size w (((w.alloc a).alloc b).alloc c) := by
  have b1 : ∀ (v : World) (o : Obj), Below v.heap.size v (v.alloc o) := fun v o => (Below.refl _ v).alloc (Nat.le_refl _) o
  have z : ∀ (v : World) (o : Obj), (v.alloc o).heap.size = v.heap.size + 1 := fun v o => World.size_alloc _ _
  have n : ∀ (v : World) (o : Obj), (v.alloc o).heap[v.heap.size]? = some o := fun v o => heap_alloc_new v o
  refine ⟨?_, ?_, ?_, ?_⟩
  · rw [(b1 ((w.alloc a).alloc b) c).block _ (by rw [z, z]; omega), (b1 (w.alloc a) b).block _ (by rw [z]; omega)]; exact n _ _
  · rw [(b1 ((w.alloc a).alloc b) c).block _ (by rw [z, z]; omega)]
    have := n (w.alloc a) b; rwa [z] at this
  · have := n ((w.alloc a).alloc b) c; rwa [z, z] at this
  · exact ((b1 _ _).trans ((b1 _ _).mono (by rw [z]; omega))).trans ((b1 _ _).mono (by rw [z, z]; omega))
theorem fourB (w : World) (a b c d : Obj) : ((((w.alloc a).alloc b).alloc c).alloc d).heap[w.heap.size]? = some a ∧ ((((w.alloc a).alloc b).alloc c).alloc d).heap[w.heap.size + 1]? = some b ∧ ((((w.alloc a).alloc b).alloc c).alloc d).heap[w.heap.size + 1 + 1]? = some c ∧ ((((w.alloc a).alloc b).alloc c).alloc d).heap[w.heap.size + 1 + 1 + 1]? = some d ∧ Below w.heap.size w ((((w.alloc a).alloc b).alloc c).alloc d) := by
  have b1 : ∀ (v : World) (o : Obj), Below v.heap.size v (v.alloc o) := fun v o => (Below.refl _ v).alloc (Nat.le_refl _) o
  have z : ∀ (v : World) (o : Obj), (v.alloc o).heap.size = v.heap.size + 1 := fun v o => World.size_alloc _ _
  have n : ∀ (v : World) (o : Obj), (v.alloc o).heap[v.heap.size]? = some o := fun v o => heap_alloc_new v o
  obtain ⟨h1, h2, h3, h4⟩ := threeB w a b c
  have hb := b1 (((w.alloc a).alloc b).alloc c) d
  refine ⟨(hb.block _ (by rw [z, z, z]; omega)).trans h1, (hb.block _ (by rw [z, z, z]; omega)).trans h2, (hb.block _ (by rw [z, z, z]; omega)).trans h3, ?_, h4.trans (hb.mono (by rw [z, z, z]; omega))⟩
  have := n (((w.alloc a).alloc b).alloc c) d; rwa [z, z, z] at this
theorem twoB (w : World) (a b : Obj) : ((w.alloc a).alloc b).heap[w.heap.size]? = some a ∧ ((w.alloc a).alloc b).heap[w.heap.size + 1]? = some b ∧ Below w.heap.size w ((w.alloc a).alloc b) := by
  have b1 : ∀ (v : World) (o : Obj), Below v.heap.size v (v.alloc o) := fun v o => (Below.refl _ v).alloc (Nat.le_refl _) o
  have z : ∀ (v : World) (o : Obj), (v.alloc o).heap.size = v.heap.size + 1 := fun v o => World.size_alloc _ _
  have n : ∀ (v : World) (o : Obj), (v.alloc o).heap[v.heap.size]? = some o := fun v o => heap_alloc_new v o
  refine ⟨?_, ?_, ?_⟩
  · rw [(b1 (w.alloc a) b).block _ (by rw [z]; omega)]; exact n _ _
  · have := n (w.alloc a) b; rwa [z] at this
  · exact (b1 _ _).trans ((b1 _ _).mono (by rw [z]; omega))
theorem hi_lit2 (w : World) (x : Nat) (vs : List Int) (n : Nat) (hn : n ≤ vs.length) (hl : vs.length ≤ 1000) (hx : w.heap[x]? = some (.cells (vs.map (Value.int .i64)).toArray 3 (0, 0))) : Hi w (some ⟨x, 0, none⟩) n vs.length (fun i => vs.getD i 0) := by
  refine ⟨hn, by unfold maxLen; omega, fun e => (by cases e), fun ad e _ => (by cases e; rfl), fun ad e i hi => ?_⟩
  cases e
  show World.cell? _ ⟨_, 0 + i, none⟩ = _
  rw [Nat.zero_add, cell_of_row _ _ i _ _ _ hx]
  simp [show i < vs.length by omega]
theorem hi_nine {w : World} {x : Nat} (hx : w.heap[x]? = some (.cells (madeCells #[.int .i64 0] 9) 3 (0, 0))) : Hi w (some ⟨x, 0, none⟩) 9 9 (fun _ => 0) := by
  refine ⟨Nat.le_refl _, by unfold maxLen; omega, fun e => (by cases e), fun ad e _ => (by cases e; rfl), fun ad e i hi => ?_⟩
  cases e
  show World.cell? _ ⟨_, 0 + i, none⟩ = _
  rw [Nat.zero_add, cell_of_row _ _ i _ _ _ hx]
  simp [madeCells, hi, show i % 1 = 0 by omega]
theorem hi_none {w : World} : Hi w none 0 0 (fun _ => 0) := ⟨Nat.le_refl _, Nat.zero_le _, fun _ => ⟨rfl, rfl⟩, fun _ e => (by cases e), fun _ e => (by cases e)⟩
theorem aw_fit : FitW 2 2 3 (fun i => [3, 5].getD i 0) (fun i => [1, 2].getD i 0) (fun i => [4, 4, 2].getD i 0) :=
  ⟨⟨by decide, by decide, by decide, fun i hi => by
    rcases i with _ | _ | _ | i
    · decide
    · decide
    · decide
    · omega⟩, rfl, by decide, by decide, by decide, by decide, by decide⟩
theorem aw_sc : sc (fun i => [3, 5].getD i 0) (fun i => [1, 2].getD i 0) (fun i => [4, 4, 2].getD i 0) 2 = 22 := by decide +kernel
set_option maxHeartbeats 2000000 in
set_option maxRecDepth 100000 in
theorem awake12_any (w : World) :
    Calls Try.prog 7 #[] w fun e w' => e = .returned (.bool true) ∧ Below w.heap.size w w' := by
  obtain ⟨h1, h2, h3, hB⟩ := threeB w (.cells #[.int .i64 3, .int .i64 5] 3) (.cells #[.int .i64 1, .int .i64 2] 3) (.cells #[.int .i64 4, .int .i64 4, .int .i64 2] 3)
  have hV := (hi_lit2 _ w.heap.size [3, 5] 2 (by decide) (by decide) h1).si
  have hK := (hi_lit2 _ (w.heap.size + 1) [1, 2] 2 (by decide) (by decide) h2).si
  have hW := (hi_lit2 _ (w.heap.size + 1 + 1) [4, 4, 2] 3 (by decide) (by decide) h3).si
  have HS := Lib.hid (score_any _ _ _ 2 2 2 2 3 3 _ _ _ (by decide) (by decide) (by decide) _ hV hK hW)
  have HB := Lib.hid hB
  clear h1 h2 h3 hB hV hK hW
  go_enter Try.func7, Try.ntmps7
  go_wp2_with fail
  refine HS.out.mono ?_
  rintro e w1 ⟨hs, hB1⟩
  have HB1 := Lib.hid (HB.out.trans (hB1.mono HB.out.size))
  clear hB1 HS
  rcases hs with ⟨_, rfl⟩ | ⟨hno, _⟩
  · rw [aw_sc]
    go_wp2
    go_ret
    exact ⟨rfl, HB1.out⟩
  · exact absurd aw_fit hno
end Go.Proofs.Ytpejkglikgefjaa.Wg

namespace Go.Proofs.Ytpejkglikgefjaa.Wg
open Go.RowKit Go.Shelf
attribute [local go_sem] Oper.semAt_some

theorem blk_si {g n : Nat} {h : Nat → Int} (W : World) (q : Block W g (lentI h n 12) 3) : Si W (some ⟨g, 0, none⟩) n h := ⟨fun i hh => ⟨g, 0, rfl, by rw [Nat.zero_add]; exact q.cell (lentI_lo hh)⟩⟩
theorem ScSays.form {nv nk nm : Nat} {V K W : Nat → Int} {e : Ending} (h : ScSays nv nk nm V K W e) : ∃ s E : Int, e = .returned (.tuple #[.int .i64 s, .int .i64 E]) := by
  rcases h with ⟨_, h⟩ | ⟨_, h⟩
  · exact ⟨_, _, h⟩
  · exact ⟨_, _, h⟩
theorem ScSays.same {nv nk nm : Nat} {V K W : Nat → Int} {e e' : Ending} (h : ScSays nv nk nm V K W e) (h' : ScSays nv nk nm V K W e') : e' = e := by
  rcases h with ⟨h1, rfl⟩ | ⟨h1, rfl⟩ <;> rcases h' with ⟨h2, rfl⟩ | ⟨h2, rfl⟩
  · rfl
  · exact absurd h1 h2
  · exact absurd h2 h1
  · rfl
theorem bool_same {P : Prop} {v v' : Bool} (h : v = true ↔ P) (h' : v' = true ↔ P) : v' = v := by
  cases v <;> cases v'
  · rfl
  · exact absurd (h.2 (h'.1 rfl)) (by simp)
  · exact absurd (h'.2 (h.1 rfl)) (by simp)
  · rfl
theorem BoSays.same {P : Prop} {e e' : Ending} (h : BoSays P e) (h' : BoSays P e') : e' = e := by
  obtain ⟨v, rfl, hv⟩ := h
  obtain ⟨v', rfl, hv'⟩ := h'
  rw [bool_same hv hv']
theorem BtSays.form {nv nk no nm : Nat} {V K O W : Nat → Int} {e : Ending} (h : BtSays nv nk no nm V K O W e) : ∃ (v : Bool) (E : Int), e = .returned (.tuple #[.bool v, .int .i64 E]) := by
  rcases h with ⟨_, h⟩ | ⟨_, v, h, _⟩
  · exact ⟨_, _, h⟩
  · exact ⟨_, _, h⟩
theorem BtSays.same {nv nk no nm : Nat} {V K O W : Nat → Int} {e e' : Ending} (h : BtSays nv nk no nm V K O W e) (h' : BtSays nv nk no nm V K O W e') : e' = e := by
  rcases h with ⟨h1, rfl⟩ | ⟨h1, v, rfl, hv⟩ <;> rcases h' with ⟨h2, rfl⟩ | ⟨h2, v', rfl, hv'⟩
  · rfl
  · exact absurd h2 h1
  · exact absurd h1 h2
  · rw [bool_same hv hv']
/-- both of them, as one. -/
def Ev2 (w : World) (n : Nat) (E : Int) (e : Ending) (w' : World) : Prop := ∃ a c, e = .returned (.tuple #[.slice a n c, .int .i64 E]) ∧ Si w' a n (fun _ => 65536) ∧ Below w.heap.size w w'
theorem even_both (n : Int) : ∃ (m : Nat) (E : Int), m ≤ 256 ∧ ∀ w e w', EvSays n w e w' → Ev2 w m E e w' := by
  by_cases h : 1 ≤ n ∧ n ≤ 255
  · refine ⟨n.toNat + 1, 0, by omega, fun w e w' q => ?_⟩
    rcases q with ⟨q, _⟩ | ⟨N, a, c, rfl, h1, h2, h3, h4⟩
    · exact absurd h q
    · exact ⟨a, c, by rw [Int.toNat_natCast]; exact h2, by rw [Int.toNat_natCast]; exact h3.si, h4⟩
  · refine ⟨0, 2, by omega, fun w e w' q => ?_⟩
    rcases q with ⟨_, q, hB⟩ | ⟨N, a, c, rfl, h1, _⟩
    · exact ⟨none, 0, q, ⟨fun i hi => absurd hi (Nat.not_lt_zero i)⟩, hB⟩
    · exact absurd ⟨by omega, by omega⟩ h
/-- what is lent, and what has not changed. -/
def St (w0 W : World) (ga gb gc gd nv nk no nm : Nat) (V K O Wt : Nat → Int) : Prop := Below w0.heap.size w0 W ∧ Block W ga (lentI V nv 12) 3 ∧ Block W gb (lentI K nk 12) 3 ∧ Block W gc (lentI O no 12) 3 ∧ Block W gd (lentI Wt nm 12) 3
theorem St.same {w0 W W' : World} {ga gb gc gd nv nk no nm : Nat} {V K O Wt : Nat → Int} (h : St w0 W ga gb gc gd nv nk no nm V K O Wt) (hB : Below W.heap.size W W') : St w0 W' ga gb gc gd nv nk no nm V K O Wt :=
  ⟨h.1.trans (hB.mono h.1.size), h.2.1.same hB, h.2.2.1.same hB, h.2.2.2.1.same hB, h.2.2.2.2.same hB⟩

set_option maxHeartbeats 8000000 in
set_option maxRecDepth 100000 in
theorem weighDoes_any (n : Int) (va ka oa wa : Option Addr) (nv vc nk kc no oc nm wc : Nat) (V K O Wt : Nat → Int) (h1 : nv ≤ 140737488355328) (h2 : nk ≤ 140737488355328) (h3 : no ≤ 140737488355328) (h4 : nm ≤ 140737488355328) (w : World) (hV : Hi w va nv vc V) (hK : Hi w ka nk kc K) (hO : Hi w oa no oc O) (hW : Hi w wa nm wc Wt) :
    Calls Try.prog 3 #[.int .i64 n, .slice va nv vc, .slice ka nk kc, .slice oa no oc, .slice wa nm wc] w fun e w' => e = .returned (.bool true) ∧ Below w.heap.size w w' := by
  have HV := Lib.hid hV; have HK := Lib.hid hK; have HO := Lib.hid hO; have HW := Lib.hid hW
  clear hV hK hO hW
  go_enter Try.func3, Try.ntmps3
  by_cases hbig : 2000 < nv + nk + no + nm
  · have i1 : (2000 : Int) < (nv : Int) + (nk : Int) + (no : Int) + (nm : Int) := by omega
    go_wp2_with fail
    refine (awake12_any _).mono ?_
    rintro e w1 ⟨rfl, hL⟩
    have HL := Lib.hid hL
    clear hL
    go_wp2
    go_ret
    exact ⟨rfl, HL.out⟩
  have i1 : ¬ (2000 : Int) < (nv : Int) + (nk : Int) + (no : Int) + (nm : Int) := by omega
  go_wp2_with fail
  refine (lentInts_any va nv vc V _ HV.out (by omega)).mono ?_
  rintro e w1 ⟨rfl, hG, hL⟩
  have HGA := Lib.hid hG; have HL1 := Lib.hid hL
  clear hG hL i1
  generalize w.heap.size = ga at HGA ⊢
  go_wp2_with fail
  refine (lentInts_any ka nk kc K _ (HK.out.same HL1.out) (by omega)).mono ?_
  rintro e w2 ⟨rfl, hG, hL⟩
  have HGB := Lib.hid hG; have HGA2 := Lib.hid (HGA.out.same hL); have HL2 := Lib.hid (HL1.out.trans (hL.mono HL1.out.size))
  clear hG hL HGA HL1
  generalize w1.heap.size = gb at HGB ⊢
  go_wp2_with fail
  refine (lentInts_any oa no oc O _ (HO.out.same HL2.out) (by omega)).mono ?_
  rintro e w3 ⟨rfl, hG, hL⟩
  have HGC := Lib.hid hG; have HGA3 := Lib.hid (HGA2.out.same hL); have HGB3 := Lib.hid (HGB.out.same hL); have HL3 := Lib.hid (HL2.out.trans (hL.mono HL2.out.size))
  clear hG hL HGA2 HGB HL2
  generalize w2.heap.size = gc at HGC ⊢
  go_wp2_with fail
  refine (lentInts_any wa nm wc Wt _ (HW.out.same HL3.out) (by omega)).mono ?_
  rintro e w4 ⟨rfl, hG, hL⟩
  have HS4 := Lib.hid (show St w w4 ga gb gc w3.heap.size nv nk no nm V K O Wt from ⟨HL3.out.trans (hL.mono HL3.out.size), HGA3.out.same hL, HGB3.out.same hL, HGC.out.same hL, hG⟩)
  clear hG hL HGA3 HGB3 HGC HL3
  generalize w3.heap.size = gd at HS4 ⊢
  go_wp2_with fail
  refine (score_any _ _ _ nv _ nk _ nm _ V K Wt h1 h2 h4 _ (blk_si _ HS4.out.2.1) (blk_si _ HS4.out.2.2.1) (blk_si _ HS4.out.2.2.2.2)).mono ?_
  rintro e w5 ⟨hs, hL⟩
  have HSC := Lib.hid hs; have HS5 := Lib.hid (HS4.out.same hL)
  obtain ⟨s, E1, rfl⟩ := hs.form
  clear hs hL HS4
  go_wp2_with fail
  refine (rscore_any va ka wa nv vc nk kc nm wc V K Wt h1 h2 h4 _ (HV.out.same HS5.out.1).si (HK.out.same HS5.out.1).si (HW.out.same HS5.out.1).si).mono ?_
  rintro e w6 ⟨hs, hL⟩
  obtain rfl := HSC.out.same hs
  have HS6 := Lib.hid (HS5.out.same hL)
  clear hs hL HS5 HSC
  go_wp2_with fail
  refine (better_any _ _ _ _ nv _ nk _ no _ nm _ V K O Wt h1 h2 h3 h4 _ (blk_si _ HS6.out.2.1) (blk_si _ HS6.out.2.2.1) (blk_si _ HS6.out.2.2.2.1) (blk_si _ HS6.out.2.2.2.2)).mono ?_
  rintro e w7 ⟨hs, hL⟩
  have HBT := Lib.hid hs; have HS7 := Lib.hid (HS6.out.same hL)
  obtain ⟨x, E2, rfl⟩ := hs.form
  clear hs hL HS6
  go_wp2_with fail
  refine (rbetter_any va ka oa wa nv vc nk kc no oc nm wc V K O Wt h1 h2 h3 h4 _ (HV.out.same HS7.out.1).si (HK.out.same HS7.out.1).si (HO.out.same HS7.out.1).si (HW.out.same HS7.out.1).si).mono ?_
  rintro e w8 ⟨hs, hL⟩
  obtain rfl := HBT.out.same hs
  have HS8 := Lib.hid (HS7.out.same hL)
  clear hs hL HS7 HBT
  obtain ⟨m, E3, hm, hev⟩ := even_both n
  have HEV := Lib.hid hev
  clear hev
  go_wp2_with fail
  refine (even_any n _).mono ?_
  intro e w9 hq
  obtain ⟨ua, uc, rfl, hu, hL⟩ := HEV.out _ _ _ hq
  have HU := Lib.hid hu; have HS9 := Lib.hid (HS8.out.same hL)
  clear hq hu hL HS8
  go_wp2_with fail
  refine (reven_any n _).mono ?_
  intro e w10 hq
  obtain ⟨xa, xc, rfl, hu, hL⟩ := HEV.out _ _ _ hq
  have HX := Lib.hid hu; have HU10 := Lib.hid (HU.out.same hL); have HS10 := Lib.hid (HS9.out.same hL)
  clear hq hu hL HS9 HU HEV
  have q1 : (s == s) = true := by simp
  have q2 : (E1 == E1) = true := by simp
  have q3 : (x == x) = true := by simp
  have q4 : (E2 == E2) = true := by simp
  have q5 : (E3 == E3) = true := by simp
  go_wp2_with fail
  refine (sameInts_any ua xa m uc m xc (fun _ => 65536) (fun _ => 65536) (by omega) (by omega) _ HU10.out HX.out).mono ?_
  rintro e w11 ⟨⟨v, rfl, hv⟩, hL⟩
  obtain rfl : v = true := hv.2 ⟨rfl, fun _ _ => rfl⟩
  have HS11 := Lib.hid (HS10.out.same hL)
  clear hv hL HS10 HU10 HX
  go_wp2_with fail
  refine (right_any n _ nm _ Wt _ (blk_si _ HS11.out.2.2.2.2)).mono ?_
  rintro e w12 ⟨hs, hL⟩
  have HRI := Lib.hid hs; have HS12 := Lib.hid (HS11.out.same hL)
  obtain ⟨v, rfl, _⟩ := hs
  clear hL HS11
  go_wp2_with fail
  refine (rright_any n wa nm wc Wt _ (HW.out.same HS12.out.1).si).mono ?_
  rintro e w13 ⟨hs, hL⟩
  obtain rfl := HRI.out.same hs
  have HS13 := Lib.hid (HS12.out.same hL)
  have q6 : (v == v) = true := by simp
  clear hs hL HS12 HRI
  go_wp2_with fail
  refine (keptInts_any ga va nv vc V _ (HV.out.same HS13.out.1) HS13.out.2.1 (by omega)).mono ?_
  rintro e w14 ⟨rfl, d, hd⟩
  have HS14 := Lib.hid (HS13.out.same (quiet_b hd))
  clear hd HS13 q1 q2 q3 q4 q5 q6
  go_wp2_with fail
  refine (keptInts_any gb ka nk kc K _ (HK.out.same HS14.out.1) HS14.out.2.2.1 (by omega)).mono ?_
  rintro e w15 ⟨rfl, d, hd⟩
  have HS15 := Lib.hid (HS14.out.same (quiet_b hd))
  clear hd HS14
  go_wp2_with fail
  refine (keptInts_any gc oa no oc O _ (HO.out.same HS15.out.1) HS15.out.2.2.2.1 (by omega)).mono ?_
  rintro e w16 ⟨rfl, d, hd⟩
  have HS16 := Lib.hid (HS15.out.same (quiet_b hd))
  clear hd HS15
  go_wp2_with fail
  refine (keptInts_any gd wa nm wc Wt _ (HW.out.same HS16.out.1) HS16.out.2.2.2.2 (by omega)).mono ?_
  rintro e w17 ⟨rfl, d, hd⟩
  have HS17 := Lib.hid (HS16.out.same (quiet_b hd))
  clear hd HS16
  go_wp2_with fail
  refine (awake12_any _).mono ?_
  rintro e w18 ⟨rfl, hL⟩
  have HS18 := Lib.hid (HS17.out.same hL)
  clear hL HS17
  go_wp2
  go_ret
  exact ⟨rfl, HS18.out.1⟩
end Go.Proofs.Ytpejkglikgefjaa.Wg
