import Derived.Test.YtdempjkkahjekaaVA
import Derived.Deep.DeepCutAuto
namespace Go.Proofs.Ytdempjkkahjekaa
open Go.RowKit Go.Shelf

/-- a slice of numbers, as it reads. -/
structure Si (w : World) (a : Option Addr) (len : Nat) (h : Nat → Int) : Prop where
  cell : ∀ i, i < len → ∃ b off, a = some ⟨b, off, none⟩ ∧ w.cell? ⟨b, off + i, none⟩ = some (.int .i64 (h i))
theorem Si.same {w w' : World} {a : Option Addr} {len : Nat} {h : Nat → Int} (s : Si w a len h) (hB : Below w.heap.size w w') : Si w' a len h := ⟨fun i hi => by
  obtain ⟨b, off, e, hc⟩ := s.cell i hi
  exact ⟨b, off, e, by rw [hB.cell (World.block_lt_of_cell? _ _ hc)]; exact hc⟩⟩
theorem own_set {w : World} {B n g i : Nat} {e : TypeId} {v u : Value} {xs : List Value} (h : w.ownsRow B e 1 v n xs) (hg : g < B) : (w.setCell ⟨g, i, none⟩ u).ownsRow B e 1 v n xs := by
  have hl := h.lt
  refine h.kept (grownSet w g i u) ?_
  cases h2 : v.ownBlock with
  | none => exact Or.inl rfl
  | some k => exact Or.inr (fun hh => by have := (hl k h2).1; cases hh; omega)
/-- what was taken, with one more. -/
def onR (R : Nat → Nat) (t r i : Nat) : Nat := if i = t then r else R i
theorem onR_lo {R : Nat → Nat} {t r i : Nat} (h : i < t) : onR R t r i = R i := if_neg (by omega)
theorem onR_t (R : Nat → Nat) (t r : Nat) : onR R t r t = r := if_pos rfl
theorem isP_on (R : Nat → Nat) (t r i : Nat) : Pf.isP (onR R t r) i (t + 1) = (Pf.isP R i t || decide (r = i)) := by
  show (Pf.isP (onR R t r) i t || decide (onR R t r t = i)) = _
  rw [onR_t, Pf.isP_congr t (fun j hj => onR_lo hj)]
/-- the values at the points. -/
def vfn (f P : Nat → Nat) (l n i : Nat) : Nat := if i < n then Pf.ev f (P i) l else 0
theorem vfn_by {f P : Nat → Nat} (hf : Pf.By f) (hP : Pf.By P) (l n : Nat) : Pf.By (vfn f P l n) := fun i => by
  unfold vfn; split
  · exact Pf.ev_lt hf (hP i) l
  · omega
theorem vfn_up (f P : Nat → Nat) (l n : Nat) : Pf.Up (vfn f P l n) n := fun i hi => by unfold vfn; rw [if_neg (by omega)]
/-- a polynomial of as many coefficients as there are points at most, from its values. -/
theorem vfn_val {f P : Nat → Nat} {l n x : Nat} (hf : Pf.By f) (hu : Pf.Up f l) (hP : Pf.By P) (hd : Pf.Dst P n) (hl : l ≤ n) (hx : x < 256) : dotN (Pf.lw P n x) (vfn f P l n) n = Pf.ev f x l := by
  rw [← Pf.ev_up x hu hl]
  exact (Pf.lagrange hP hd hf (hu.mono hl) (vfn_by hf hP l n) (fun i hi => by unfold vfn; rw [if_pos hi, Pf.ev_up (P i) hu hl]) hx).symm

set_option maxHeartbeats 8000000 in
set_option maxRecDepth 100000 in
theorem any_in (a0 a1 a5 : Option Addr) (l n m cp0 cp1 cp5 x : Nat) (f P : Nat → Nat) (h : Nat → Int) (kk nn : Int) (hx : x < 256) (hl : l ≤ n) (hn : n ≤ 24) (hm : m ≤ 24) (w : World) (hS : Sl w a0 l cp0 f) (hP : Sl w a1 n cp1 P) (hT : Si w a5 m h) :
    Calls Try.prog 5 #[.slice a0 l cp0, .slice a1 n cp1, .int .u8 (x : Nat), .int .i64 kk, .int .i64 nn, .slice a5 m cp5] w fun e w' => e = .returned (.bool true) ∧ Below w.heap.size w w' := by
  obtain ⟨i0, hi, hz0, hz1, hz2⟩ := info_parts Try.infoU8
  have HI := Lib.hid hi; have HZ0 := Lib.hid hz0; have HZ1 := Lib.hid hz1; have HZ2 := Lib.hid hz2
  obtain ⟨i1, hi', hz0', hz1', hz2'⟩ := info_parts Try.infoRow
  have HI' := Lib.hid hi'; have HZ0' := Lib.hid hz0'; have HZ1' := Lib.hid hz1'; have HZ2' := Lib.hid hz2'
  have HS := Lib.hid hS; have HP := Lib.hid hP; have HT := Lib.hid hT; clear hS hP hT hi hz0 hz1 hz2 hi' hz0' hz1' hz2'
  have j1 : ¬ 24 < (n : Int) := by omega
  have j2 : ¬ (n : Int) < (l : Int) := by omega
  have j3 : ¬ 24 < (m : Int) := by omega
  have q2 : decide (n < l) = false := by simp; omega
  have hl24 : l ≤ 24 := by omega
  go_enter Try.func5, Try.ntmps5
  go_wp2_with fail
  refine (awake4_any _).mono ?_
  rintro e w1 ⟨rfl, hB1⟩
  have HB1 := Lib.hid hB1; clear hB1
  go_wp2_with fail
  have HLN := Lib.hid hl
  clear j1 j2 j3 hl
  go_loopw [13, 14] (fun o i wr => ∃ (k : Nat) (va : Option Addr) (vc : Nat), k ≤ n ∧ i = .int .i64 k ∧ o = .slice va k vc ∧ Rq wr w1.heap.size va k vc (fun i => Pf.ev f (P i) l) ∧ Below w1.heap.size w1 wr) (fun _ i _ => n - (intOf i).toNat)
  case atStart => exact ⟨0, none, 0, by omega, rfl, rfl, Or.inl ⟨rfl, rfl, rfl⟩, Below.refl _ _⟩
  case round =>
    obtain ⟨k, va, vc, hk, rfl, rfl, hR, hB⟩ := hrel
    have HR := Lib.hid hR; have HB := Lib.hid hB
    have hsz := hB.size
    have HBw := Lib.hid (HB1.out.trans (hB.mono HB1.out.size))
    clear hR hB
    by_cases hlt : k < n
    · obtain ⟨b2, o2, e2, c2⟩ := (HP.out.same HBw.out).at_ hlt
      subst e2
      have i2 : (k : Int) < (n : Int) := by omega
      have d1 := HP.out.bytes k
      have HPV := Lib.hid (pv_any a0 l cp0 f (P k) d1 (by omega) wr (HS.out.same HBw.out))
      generalize hvk : Pf.ev f (P k) l = vk at *
      have HVK := Lib.hid hvk; clear hvk
      go_wp2_with fail
      refine HPV.out.mono ?_
      rintro e w3 ⟨rfl, hB3⟩
      have HR3 := Lib.hid (HR.out.same hB3); have HB3 := Lib.hid (HB.out.trans (hB3.mono hsz))
      have hs3 := HB3.out.size
      clear hB3
      have HRO := Lib.hid (HR3.out.same ((Below.refl _ w3).alloc (Nat.le_refl _) (.cells #[.int .u8 (vk : Nat)] 5))).owns
      have hbb : w1.heap.size ≤ (w3.alloc (.cells #[.int .u8 (vk : Nat)] 5)).heap.size := by rw [World.size_alloc]; omega
      go_wp2_with (at_builtin; refine wpList_append_bag _ rfl _ _ 22 rfl w1.heap.size 5 i0 (.int .u8 0) 1 Try.underlying22 HI.out HZ0.out HZ1.out HZ2.out rfl va k vc _ rfl HRO.out _ 1 1 [.int .u8 (vk : Nat)] rfl rfl (cell_new1 _ _ _) (one_single _ _) (by decide) (by unfold maxLen; omega) (by omega) hbb ?_; intro g6 c6 w6 hown6 hc6 hlt6; have HOWN6 := Lib.hid hown6; have HC6 := Lib.hid hc6; clear hown6 hc6 hlt6)
      have ho := HOWN6.out
      rw [show [Value.int .u8 ((vk : Nat) : Int)] = [Value.int .u8 (((fun i => Pf.ev f (P i) l) k : Nat) : Int)] by rw [← HVK.out], ← rowv_succ] at ho
      have hr6 := Rq.of_owns ho
      have hb6 := ((Below.refl w1.heap.size w3).alloc hs3 (.cells #[.int .u8 (vk : Nat)] 5)).trans (bag_below HC6.out (hr6.lt g6 rfl).1 hbb)
      have HR7 := Lib.hid hr6; have HB7 := Lib.hid (HB3.out.trans hb6)
      clear ho hr6 hb6 HOWN6 HC6
      go_wp2
      go_roundw
      case rel => exact ⟨k + 1, _, c6, by omega, by go_num, rfl, HR7.out, HB7.out⟩
      case measure => simp [intOf]; omega
    · obtain rfl : k = n := by omega
      obtain ⟨wo, rfl⟩ : ∃ wo : World, wo = wr := ⟨_, rfl⟩
      have HVS := Lib.hid ((HR.out.congr (h' := vfn f P l k) (fun i hi => by unfold vfn; rw [if_pos hi])).nw (vfn_by HS.out.bytes HP.out.bytes l k) (vfn_up f P l k)).sl
      clear hlt HR HB
      go_wp2_with fail
      refine (pValue_any a1 va k cp1 k vc x P (vfn f P l k) hx (by omega) (by omega) _ (HP.out.same HBw.out) HVS.out).mono ?_
      rintro e w2 hv
      have key : ∃ (v : Nat) (E : Int), e = .returned (.tuple #[.int .u8 (v : Nat), .int .i64 E]) ∧ (E = 9 ∨ E = 0 ∧ v = Pf.ev f x l) := by
        rcases hv.1 with ⟨h, _⟩ | ⟨_, _, rfl⟩ | ⟨_, hd, rfl⟩
        · exact absurd rfl h
        · exact ⟨0, 9, rfl, Or.inl rfl⟩
        · exact ⟨_, 0, rfl, Or.inr ⟨rfl, vfn_val HS.out.bytes HS.out.up HP.out.bytes hd HLN.out hx⟩⟩
      have HB2 := Lib.hid (HBw.out.trans (hv.2.mono HBw.out.size))
      obtain ⟨v, E, rfl, hE⟩ := key
      have HE := Lib.hid hE
      clear hv hE HVS
      go_upto_region 11 with fail
      go_cut [82] from 66 to 82 (fun s wx => s = .bool false ∧ Below w.heap.size w wx)
      case first =>
        rcases HE.out with rfl | ⟨rfl, hv⟩
        · go_wp2
          go_meet
          exact ⟨rfl, HB2.out⟩
        · have HV := Lib.hid hv; clear hv HE
          have HPV := Lib.hid (pv_any a0 l cp0 f x hx (by omega) w2 (HS.out.same HB2.out))
          rw [← HV.out] at HPV
          clear HV
          have g5 : (((v : Nat) : Int) != ((v : Nat) : Int)) = false := by simp
          go_wp2_with fail
          refine HPV.out.mono ?_
          rintro e w3 ⟨rfl, hB3⟩
          have HB3 := Lib.hid (HB2.out.trans (hB3.mono HB2.out.size)); clear hB3
          go_wp2
          go_meet
          exact ⟨rfl, HB3.out⟩
      case rest =>
        obtain ⟨rfl, hcut⟩ := hcut
        have HB4 := Lib.hid hcut; clear hcut HB2 HE HBw
        go_wp2_with fail
        refine (pick_any kk 12 (by omega) (by omega) _).mono ?_
        rintro e w4 ⟨⟨r1, hr1, rfl⟩, hw4⟩
        rw [hw4]; clear hw4
        go_upto_region 14 with fail
        obtain ⟨K, hK⟩ : ∃ K : Nat, 1 + (r1 : Int) = (K : Int) := ⟨1 + r1, by omega⟩
        rw [hK]
        have hK1 : 1 ≤ K := by omega
        have hK2 : K ≤ 12 := by omega
        clear hK hr1
        go_wp2_with fail
        refine (pick_any nn 40 (by omega) (by omega) _).mono ?_
        rintro e w5 ⟨⟨r2, hr2, rfl⟩, hw5⟩
        rw [hw5]; clear hw5
        go_upto_region 15 with fail
        obtain ⟨N, hN⟩ : ∃ N : Nat, (K : Int) + (r2 : Int) = (N : Int) := ⟨K + r2, by omega⟩
        rw [hN]
        have hN1 : K ≤ N := by omega
        have hN2 : N ≤ 52 := by omega
        clear hN hr2
        have hmk := hmkI N (by omega)
        go_wp2_with fail
        refine (pTable_yes K N hK1 hN1 (by omega) _).mono ?_
        rintro e w6 ⟨G, b, rfl, hG, hB6⟩
        have HB6 := Lib.hid (HB4.out.trans (hB6.mono HB4.out.size))
        have hs6 := HB6.out.size
        have HGL := Lib.hid (And.intro hG.ltG (fun i (hi : i < N) => hG.ltb hi))
        have hal : Below w6.heap.size w6 (w6.alloc (.cells (madeCells #[.int .i64 0] N) 3)) := (Below.refl _ w6).alloc (Nat.le_refl _) _
        have HG0 := Lib.hid (hG.same hal)
        have HBI := Lib.hid (bi_made w6 N)
        clear hG hB6 HB4
        go_wp2_with fail
        obtain ⟨w7, hw7⟩ : ∃ w7, w7 = w6.alloc (.cells (madeCells #[.int .i64 0] N) 3) := ⟨_, rfl⟩
        have hBa : Below w.heap.size w w7 := by rw [hw7]; exact HB6.out.trans (hal.mono HB6.out.size)
        have hs7 : w7.heap.size = w6.heap.size + 1 := by rw [hw7, World.size_alloc]
        rw [← hw7] at HG0 HBI ⊢
        have HBA := Lib.hid hBa
        have HW7 := Lib.hid hw7
        clear hw7 hal hBa HB6 hmk
        go_loopw [21, 23] (fun o i wr => ∃ (q t : Nat) (sa : Option Addr) (sc : Nat) (R : Nat → Nat), q ≤ m ∧ t ≤ K ∧ i = .int .i64 q ∧ o = .slice sa t sc ∧ wr.ownsRow w7.heap.size 22 1 (.slice sa t sc) t (rowl b K R t) ∧
          Bi wr w6.heap.size N (fun r => if Pf.isP R r t then 1 else 0) ∧ (∀ j, j < t → R j < N) ∧ Pf.Dst R t ∧ Below w6.heap.size w7 wr) (fun _ i _ => m - (intOf i).toNat)
        case atStart => exact ⟨0, 0, none, 0, fun _ => 0, by omega, by omega, rfl, rfl, World.ownsRow_nil _ _ _ _, HBI.out.congr (fun _ _ => rfl), fun j h => by omega, fun i j _ h => by omega, Below.refl _ _⟩
        case round =>
          obtain ⟨q, t, sa, sc, R, hq, ht, rfl, rfl, hO, hBi, hRN, hRd, hB⟩ := hrel
          have HO := Lib.hid hO; have HBi := Lib.hid hBi; have HRN := Lib.hid hRN; have HRd := Lib.hid hRd; have HB := Lib.hid hB
          have hsz := hB.size
          clear hO hBi hRN hRd hB
          by_cases hgo : q < m ∧ t < K
          · obtain ⟨hq1, ht1⟩ := hgo
            have hbw := HBA.out.trans (HB.out.mono hs6)
            obtain ⟨b5, o5, e5, c5⟩ := ((HT.out.same hbw).cell q hq1)
            have HGr := Lib.hid (HG0.out.kept (HB.out.block G HGL.out.1) (fun i hi => HB.out.block _ (HGL.out.2 i hi)))
            subst e5
            have j4 : (q : Int) < (m : Int) := by omega
            have j5 : (t : Int) < (K : Int) := by omega
            clear hbw
            generalize h q = hq0 at *
            go_wp2_with fail
            refine (pick_any hq0 N (by omega) (by omega) _).mono ?_
            rintro e w8 ⟨⟨r, hr, rfl⟩, hw8⟩
            rw [hw8]; clear hw8 c5
            have j6 : (r : Int) < (N : Int) := by omega
            have hc := HBi.out.cell hr
            have hf := HBi.out.free r
            cases hp : Pf.isP R r t
            · rw [hp] at hc
              have hc : wr.cell? ⟨w6.heap.size, r, none⟩ = some (.int .i64 0) := hc
              have hcG := HGr.out.cell hr
              have HPN := Lib.hid (Pf.isP_no t hp)
              have hal8 : Below wr.heap.size wr (wr.alloc (.cells #[.slice (some ⟨b r, 0, none⟩) K K] 22)) := (Below.refl _ wr).alloc (Nat.le_refl _) _
              have HAL := Lib.hid hal8
              have HOW := Lib.hid (own_below HO.out hal8)
              have hbb : w7.heap.size ≤ (wr.alloc (.cells #[.slice (some ⟨b r, 0, none⟩) K K] 22)).heap.size := by rw [World.size_alloc]; omega
              clear hp hal8
              go_wp2_with (at_builtin; refine wpList_append_bag _ rfl _ _ 33 rfl w7.heap.size 22 i1 (.slice none 0 0) 24 Try.underlying33 HI'.out HZ0'.out HZ1'.out HZ2'.out rfl sa t sc _ rfl HOW.out _ 1 1 [.slice (some ⟨b r, 0, none⟩) K K] rfl rfl (cell_new1 _ _ _) (by intro u hu; rcases List.mem_singleton.1 hu with rfl; rfl) (by decide) (by unfold maxLen; omega) (by omega) hbb ?_; intro g9 c9 w9 hown9 hc9 hlt9; have hb9 := bag_below (B := w6.heap.size + 1) hc9 (by have := (hown9.lt g9 rfl).1; omega) (by rw [World.size_alloc]; omega); have hbi9 : Bi w9 w6.heap.size N (fun r => if Pf.isP R r t then 1 else 0) := HBi.out.kept ((hb9.block _ (by omega)).trans (HAL.out.block _ HBi.out.lt)); have c8 := hbi9.cell hr; have f8 := hbi9.free r; have HBI9 := Lib.hid hbi9; have HB9 := Lib.hid hb9; have HOWN9 := Lib.hid hown9; clear hb9 hbi9 hown9 hc9 hlt9)
              have ho := HOWN9.out
              rw [show rowl b K R t ++ [Value.slice (some ⟨b r, 0, none⟩) K K] = rowl b K (onR R t r) (t + 1) by rw [rowl_succ, onR_t, rowl_congr b K (fun i hi => onR_lo hi)]] at ho
              have ho2 := own_set (g := w6.heap.size) (i := r) (u := .int .i64 1) ho (by omega)
              have hbi2 := (HBI9.out.set hr 1).congr (h' := fun i => if Pf.isP (onR R t r) i (t + 1) then 1 else 0) (fun i _ => by
                rw [isP_on]
                by_cases e : i = r
                · subst e; simp
                · have : ¬ r = i := fun h => e h.symm
                  simp [e, this])
              have hb2 := (HB.out.trans ((Below.refl w6.heap.size wr).alloc (by omega) (.cells #[.slice (some ⟨b r, 0, none⟩) K K] 22))).trans (HB9.out.mono (by omega))
              have HO2 := Lib.hid ho2; have HBI2 := Lib.hid hbi2; have HB2 := Lib.hid (hb2.setCell (p := ⟨w6.heap.size, r, none⟩) (Nat.le_refl _) (.int .i64 1))
              clear ho ho2 hbi2 hb2 c8 f8
              go_wp2
              go_roundw
              case rel => exact ⟨q + 1, t + 1, _, c9, onR R t r, by omega, by omega, by go_num, rfl, HO2.out, HBI2.out, fun j hj => by
                unfold onR; split
                · exact hr
                · exact HRN.out j (by omega), fun i j hij hj => by
                by_cases e : j = t
                · subst e; rw [onR_t, onR_lo hij]; exact HPN.out i hij
                · rw [onR_lo (show i < t by omega), onR_lo (show j < t by omega)]; exact HRd.out i j hij (by omega), HB2.out⟩
              case measure => simp [intOf]; omega
            · rw [hp] at hc
              have hc : wr.cell? ⟨w6.heap.size, r, none⟩ = some (.int .i64 1) := hc
              have HPY := Lib.hid hp
              have hbi2 := (HBi.out.set hr 1).congr (h' := fun i => if Pf.isP R i t then 1 else 0) (fun i _ => by
                by_cases e : i = r
                · subst e; simp [hp]
                · simp [e])
              have HO2 := Lib.hid (own_set (g := w6.heap.size) (i := r) (u := .int .i64 1) HO.out (by omega)); have HBI2 := Lib.hid hbi2; have HB2 := Lib.hid (HB.out.setCell (p := ⟨w6.heap.size, r, none⟩) (Nat.le_refl _) (.int .i64 1))
              clear hp hbi2
              go_wp2
              go_roundw
              case rel => exact ⟨q + 1, t, sa, sc, R, by omega, by omega, by go_num, rfl, HO2.out, HBI2.out, HRN.out, HRd.out, HB2.out⟩
              case measure => simp [intOf]; omega
          · have HGr := Lib.hid (HG0.out.kept (HB.out.block G HGL.out.1) (fun i hi => HB.out.block _ (HGL.out.2 i hi)))
            have HRd' := Lib.hid (rowl_rd HO.out HGr.out HRN.out)
            have HBW := Lib.hid (HBA.out.trans (HB.out.mono hs6))
            have hinv : Calls Try.prog 23 #[.slice sa t sc] wr fun e w' => ∃ (a : Option Addr) (c cap : Nat) (E : Int), e = .returned (.tuple #[.slice a c cap, .int .i64 E]) ∧ Below wr.heap.size wr w' ∧ (t < K → 0 < t → E = 2) ∧ (t = K → E = 0) := by
              by_cases h0 : t = 0
              · subst h0
                refine (inverse_yes sa 0 sc _ (fun _ => K) _ _ wr HRd'.out ⟨fun i hi => by omega, by omega, by show 0 ≤ 255; omega⟩ rfl).mono ?_
                rintro e w' (⟨h, _⟩ | ⟨_, G2, b2, rfl, _, hB2⟩)
                · exact absurd h (Nat.not_lt_zero _)
                · exact ⟨_, _, _, 0, rfl, hB2, fun _ h => by omega, fun _ => rfl⟩
              · have hw : wd t (fun _ => K) = K := if_neg h0
                by_cases h1 : t < K
                · refine (inverse_no sa t sc _ (fun _ => K) _ _ (by omega) wr HRd'.out (fun hh => by have := hh.2; omega)).mono ?_
                  rintro e w' ⟨rfl, hB2⟩
                  exact ⟨_, _, _, 2, rfl, hB2, fun _ _ => rfl, fun h => by omega⟩
                · obtain rfl : t = K := by omega
                  refine (inverse_yes sa t sc _ (fun _ => t) _ _ wr HRd'.out ⟨fun i hi => rfl, by omega, by rw [hw]; omega⟩ hw).mono ?_
                  rintro e w' (⟨h, _⟩ | ⟨_, G2, b2, rfl, _, hB2⟩)
                  · have := Pf.tbl_rk (R := R) (K := t) (fun i hi => by have := HRN.out i hi; omega) HRd.out (by omega)
                    omega
                  · exact ⟨_, _, _, 0, rfl, hB2, fun h => by omega, fun _ => rfl⟩
            have HINV := Lib.hid hinv; clear hinv
            have hex : ¬ (q : Int) < (m : Int) ∨ ((q : Int) < (m : Int) ∧ ¬ (t : Int) < (K : Int)) := by omega
            clear hgo
            rcases hex with j4 | ⟨j4, j5⟩
            all_goals
              go_wp2_with fail
              refine HINV.out.mono ?_
              rintro e wz ⟨za, zc, zp, E, rfl, hBz, hE1, hE2⟩
              have HBZ := Lib.hid (HBW.out.trans (hBz.mono HBW.out.size)); have HE1 := Lib.hid hE1; have HE2 := Lib.hid hE2
              clear hBz hE1 hE2
              by_cases h1 : t < K
              · have k1 : (t : Int) < (K : Int) := by omega
                by_cases h2 : t = 0
                · have k2 : ¬ (0 : Int) < (t : Int) := by omega
                  have k3 : ((t : Int) == 0) = true := by simp [h2]
                  clear h2
                  go_wp2
                  all_goals
                    go_ret
                    exact ⟨rfl, HBZ.out⟩
                · have k2 : (0 : Int) < (t : Int) := by omega
                  obtain rfl := HE1.out h1 (by omega)
                  go_wp2
                  all_goals
                    go_ret
                    exact ⟨rfl, HBZ.out⟩
              · obtain rfl : t = K := by omega
                obtain rfl := HE2.out rfl
                have k1 : ¬ (t : Int) < (t : Int) := by omega
                have k2 : ((t : Int) == (t : Int)) = true := by simp
                go_wp2
                all_goals
                  go_ret
                  exact ⟨rfl, HBZ.out⟩

set_option maxHeartbeats 4000000 in
set_option maxRecDepth 100000 in
theorem lagrAny_any (a0 a1 a5 : Option Addr) (l n m cp0 cp1 cp5 x : Nat) (f P : Nat → Nat) (h : Nat → Int) (kk nn : Int) (hx : x < 256) (w : World) (hS : Sl w a0 l cp0 f) (hP : Sl w a1 n cp1 P) (hT : Si w a5 m h) (hl : l ≤ 140737488355328) (hn : n ≤ 140737488355328) (hm : m ≤ 140737488355328) :
    Calls Try.prog 5 #[.slice a0 l cp0, .slice a1 n cp1, .int .u8 (x : Nat), .int .i64 kk, .int .i64 nn, .slice a5 m cp5] w fun e w' => e = .returned (.bool true) ∧ Below w.heap.size w w' := by
  by_cases c0 : 24 < n
  · have i1 : 24 < (n : Int) := by omega
    clear hS hP hT
    go_enter Try.func5, Try.ntmps5
    go_wp2_with fail
    refine (awake4_any _).mono ?_
    rintro e w1 ⟨rfl, hB1⟩
    have HB1 := Lib.hid hB1; clear hB1
    go_wp2
    go_ret
    exact ⟨rfl, HB1.out⟩
  by_cases c1 : n < l
  · have i1 : ¬ 24 < (n : Int) := by omega
    have i2 : (n : Int) < (l : Int) := by omega
    clear hS hP hT
    go_enter Try.func5, Try.ntmps5
    go_wp2_with fail
    refine (awake4_any _).mono ?_
    rintro e w1 ⟨rfl, hB1⟩
    have HB1 := Lib.hid hB1; clear hB1
    go_wp2
    go_ret
    exact ⟨rfl, HB1.out⟩
  by_cases c2 : 24 < m
  · have i1 : ¬ 24 < (n : Int) := by omega
    have i2 : ¬ (n : Int) < (l : Int) := by omega
    have i3 : 24 < (m : Int) := by omega
    clear hS hP hT
    go_enter Try.func5, Try.ntmps5
    go_wp2_with fail
    refine (awake4_any _).mono ?_
    rintro e w1 ⟨rfl, hB1⟩
    have HB1 := Lib.hid hB1; clear hB1
    go_wp2
    go_ret
    exact ⟨rfl, HB1.out⟩
  exact any_in a0 a1 a5 l n m cp0 cp1 cp5 x f P h kk nn hx (by omega) (by omega) (by omega) w hS hP hT
/-- a slice of numbers that came in. -/
theorem si_row {w : World} {a : Option Addr} {len cap : Nat} {zs : List Int}
    (h : (a = none ∧ len = 0 ∧ cap = 0 ∧ zs = []) ∨
      ∃ x, a = some x ∧ len ≤ cap ∧ cap ≤ maxLen ∧ zs.length = cap ∧ (∀ i, i < zs.length → w.cell? (x.add i) = some (.int .i64 (zs.getD i 0))) ∧ ∀ n ∈ zs, (Lit.int .i64 n).wf = true) : Si w a len (fun i => zs.getD i 0) := ⟨fun i hi => by
  rcases h with ⟨_, h, _⟩ | ⟨x, rfl, hl, hm, hz, hc, hw⟩
  · omega
  · have h0 := hc 0 (by omega)
    rw [Addr.add_zero'] at h0
    have hs : x.spot = none := by simpa using World.cell?_spot h0
    have hci := hc i (by omega)
    obtain ⟨b, off, spot⟩ := x
    simp only at hs; subst hs
    rw [Addr.add_lit] at hci
    exact ⟨b, off, rfl, hci⟩⟩
end Go.Proofs.Ytdempjkkahjekaa
