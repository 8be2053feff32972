import Derived.Lib.QuietBelow
import Derived.Test.YtjlmajopfeplpaaMg20
import Derived.Test.YtjlmajopfeplpaaMg23
namespace Go.Proofs.Ytjlmajopfeplpaa.Nt
open Go.RowKit Go.Shelf
attribute [local go_sem] Oper.semAt_some

theorem nt_congr {f g : Nat → Nat} {M : Nat} (h : ∀ i, i < 9 + 3 * M → f i = g i) (hm : g 8 = M) : EN (nt f) (nt g) := by
  have e9 : f 8 = g 8 := h 8 (by omega)
  refine ⟨?_, ?_, ?_, e9, fun i hi => ?_⟩
  · show ((vn (fun j => f (1 + j)) 2 : Nat) : Int) = (vn (fun j => g (1 + j)) 2 : Nat)
    rw [vn_congr 2 fun j hj => h (1 + j) (by omega)]
  · show ((vn (fun j => f (3 + j)) 4 : Nat) : Int) = (vn (fun j => g (3 + j)) 4 : Nat)
    rw [vn_congr 4 fun j hj => h (3 + j) (by omega)]
  · show ((f 7 : Nat) : Int) = (g 7 : Nat)
    rw [h 7 (by omega)]
  · have hi : i < f 8 := hi
    constructor
    · show ((f (9 + 3 * i) : Nat) : Int) = (g (9 + 3 * i) : Nat)
      rw [h (9 + 3 * i) (by omega)]
    · show ((vn (fun j => f (10 + 3 * i + j)) 2 : Nat) : Int) = (vn (fun j => g (10 + 3 * i + j)) 2 : Nat)
      rw [vn_congr 2 fun j hj => h (10 + 3 * i + j) (by omega)]
/-- what is put is a datagram. -/
theorem put_good {h : Mn} (hr : RN h) :
    EN (nt (Crc.sealed (pl h) (9 + 3 * h.m))) h ∧ Crc.sealed (pl h) (9 + 3 * h.m) 8 = h.m ∧ GoodP (9 + 3 * h.m) (Crc.sealed (pl h) (9 + 3 * h.m)) ∧ perr (9 + 3 * h.m + 4) (Crc.sealed (pl h) (9 + 3 * h.m)) = 0 := by
  have hm := rn_few hr
  have hp8 : pl h 8 = h.m := by
    show h.m % 256 = _; omega
  have hlo : ∀ i, i < 9 + 3 * h.m → Crc.sealed (pl h) (9 + 3 * h.m) i = pl h i := fun i hi => Crc.sealed_lo hi
  have h8 : Crc.sealed (pl h) (9 + 3 * h.m) 8 = h.m := by rw [hlo 8 (by omega), hp8]
  have he : EN (nt (Crc.sealed (pl h) (9 + 3 * h.m))) h := (nt_congr (M := h.m) (fun i hi => hlo i (by omega)) hp8).trans (nt_pl hr)
  have hg : GoodP (9 + 3 * h.m) (Crc.sealed (pl h) (9 + 3 * h.m)) := ⟨by rw [h8], rn_congr he.symm hr⟩
  refine ⟨he, h8, hg, ?_⟩
  unfold perr
  rw [if_neg (by omega), Nat.add_sub_cancel]
  have hok : okB (Crc.sealed (pl h) (9 + 3 * h.m)) (9 + 3 * h.m) = true := sealed_ok _
  rw [hok, if_neg (by decide), if_neg (by omega), if_neg (by rw [hlo 0 (by omega)]; exact fun q => q rfl), if_pos hg]
theorem ParSays.put {w w' : World} {h : Mn} (hr : RN h) {e : Ending} (hp : ParSays w (9 + 3 * h.m + 4) (Crc.sealed (pl h) (9 + 3 * h.m)) e w') :
    ∃ a c, e = .returned (.tuple #[nV h a c, .int .i64 0]) ∧ w'.ownsRow w.heap.size 41 2 (.slice a h.m c) h.m (tdl h.C h.T h.m) := by
  obtain ⟨he, h8, hg, hpe⟩ := put_good hr
  rcases hp with ⟨h0, _⟩ | ⟨_, a, c, he2, ho⟩
  · exact absurd hpe h0
  · rw [nV_eq he] at he2
    rw [h8, tdl_congr h.m (fun i hi => he.2.2.2.2 i (by rw [he.2.2.2.1]; exact hi))] at ho
    exact ⟨a, c, he2, ho⟩
/-- the chapter's example. -/
def n0 : Mn := ⟨1, 2, 3, 2, fun i => if i = 0 then 2 else 3, fun i => if i = 0 then 1 else 5⟩
theorem n0_right : RN n0 := by
  unfold RN CtsOk CtOk n0
  refine ⟨by decide, by decide, by decide, fun i hi => ?_⟩
  have hi : i < 2 := hi
  rcases (show i = 0 ∨ i = 1 by omega) with rfl | rfl
  · exact ⟨by show (1 : Int) ≤ 2; decide, by show (2 : Int) ≤ 3; decide, by show (1 : Int) ≤ 1; decide, by show (1 : Int) ≤ 65535; decide, fun q => absurd q (by omega)⟩
  · exact ⟨by show (1 : Int) ≤ 3; decide, by show (3 : Int) ≤ 3; decide, by show (1 : Int) ≤ 5; decide, by show (5 : Int) ≤ 65535; decide, fun _ => by show (2 : Int) < 3; decide⟩
def lit15 : List Nat := [2, 0, 1, 0, 0, 0, 2, 3, 2, 2, 0, 1, 3, 0, 5]
theorem n0_bytes : sub (Crc.sealed (pl n0) 15) 0 15 = fun i => lit15.getD i 0 := funext fun i => by
  by_cases hi : i < 15
  · unfold sub
    rw [if_pos hi, Nat.zero_add, Crc.sealed_lo hi]
    revert hi
    revert i
    decide
  · unfold sub
    rw [if_neg hi, List.getD_eq_getElem?_getD, List.getElem?_eq_none (by show 15 ≤ i; omega)]
    rfl
set_option maxHeartbeats 4000000 in
set_option maxRecDepth 100000 in
theorem awake15_any (w : World) :
    Calls Try.prog 8 #[] w fun e w' => e = .returned (.bool true) ∧ Below w.heap.size w w' := by
  obtain ⟨w1, hw1⟩ : ∃ w1, w1 = w.alloc (.cells #[.int .i64 2, .int .i64 1, .int .i64 3, .int .i64 5] 41) := ⟨_, rfl⟩
  obtain ⟨w2, hw2⟩ : ∃ w2, w2 = w1.alloc (.cells #[.int .i64 1, .int .i64 2, .int .i64 3, .slice (some ⟨w.heap.size, 0, none⟩) 2 2] 24) := ⟨_, rfl⟩
  have hz1 : w1.heap.size = w.heap.size + 1 := by rw [hw1, World.size_alloc]
  have hb1 : Below w.heap.size w w1 := by rw [hw1]; exact (Below.refl _ w).alloc (Nat.le_refl _) _
  have hb2 : Below w1.heap.size w1 w2 := by rw [hw2]; exact (Below.refl _ w1).alloc (Nat.le_refl _) _
  have hr1 : w1.heap[w.heap.size]? = some (.cells #[.int .i64 2, .int .i64 1, .int .i64 3, .int .i64 5] 41 (0, 0)) := by rw [hw1]; exact heap_alloc_new _ _
  have hr2 := (hb2.block _ (by omega : w.heap.size < w1.heap.size)).trans hr1
  have HT2 := Lib.hid (show Tb w2 (some ⟨w.heap.size, 0, none⟩) n0.m n0.C n0.T from ⟨fun i hi => ⟨w.heap.size, 0, rfl, by
    have hi : i < 2 := hi
    rcases (show i = 0 ∨ i = 1 by omega) with rfl | rfl
    · exact ⟨by rw [cell_of_row _ _ _ _ _ _ hr2]; rfl, by rw [cell_of_row _ _ _ _ _ _ hr2]; rfl⟩
    · exact ⟨by rw [cell_of_row _ _ _ _ _ _ hr2]; rfl, by rw [cell_of_row _ _ _ _ _ _ hr2]; rfl⟩⟩⟩)
  have HX2 := Lib.hid (show NAt w2 (w.heap.size + 1) n0 (some ⟨w.heap.size, 0, none⟩) 2 by rw [hw2, ← hz1]; exact heap_alloc_new _ _)
  have HB2 := Lib.hid (hb1.trans (hb2.mono hb1.size))
  have HW := Lib.hid (show w2 = (w.alloc (.cells #[.int .i64 2, .int .i64 1, .int .i64 3, .int .i64 5] 41)).alloc (.cells #[.int .i64 1, .int .i64 2, .int .i64 3, .slice (some ⟨w.heap.size, 0, none⟩) 2 2] 24) by rw [hw2, hw1])
  clear hw1 hw2 hz1 hb1 hb2 hr1 hr2
  go_enter Try.func8, Try.ntmps8
  go_upto_region 2 with fail
  rw [← HW.out]
  obtain ⟨wg, hwg⟩ : ∃ wg, wg = w.heap.size := ⟨_, rfl⟩
  rw [← hwg] at HT2 HX2 ⊢
  clear HW hwg
  obtain ⟨c0, c1, c2, c3⟩ := HX2.out.c
  have HP := Lib.hid (pput_any n0 (some ⟨wg, 0, none⟩) 2 (by decide) w2 HT2.out)
  unfold nV at HP
  go_wp2_with fail
  clear c0 c1 c2 c3
  refine HP.out.mono ?_
  rintro e w3 ⟨hput, hB3⟩
  have HX3 := Lib.hid (HX2.out.same hB3)
  have HT3 := Lib.hid (HT2.out.same hB3)
  have HB3 := Lib.hid (HB2.out.trans (hB3.mono HB2.out.size))
  rcases hput with ⟨hq1, g, C, he, hg, hC, hbl⟩ | ⟨hno, _⟩
  rotate_left
  · exact absurd n0_right hno
  have HSL := Lib.hid (show Sl w3 (some ⟨g, 0, none⟩) 19 19 (Crc.sealed (pl n0) 15) from hbl.sl2 (Nat.le_refl _) (by unfold maxLen; decide) (sealed_bytes (pl_by _) _) (sealed_upto _ _))
  obtain rfl : e = .returned (.tuple #[.slice (some ⟨g, 0, none⟩) 19 19, .int .i64 0]) := he
  clear hq1 hg hC hbl hB3 HP HX2 HT2 HB2
  go_wp2_with fail
  refine (pparse_any (some ⟨g, 0, none⟩) 19 19 _ (by decide) w3 HSL.out).mono ?_
  rintro e w4 ⟨hpar, hB4⟩
  obtain ⟨a, c, rfl, ho⟩ := ParSays.put n0_right hpar
  have HX4 := Lib.hid (HX3.out.same hB4)
  have HT4 := Lib.hid (HT3.out.same hB4)
  have HS4 := Lib.hid (HSL.out.same hB4)
  have HB4 := Lib.hid (HB3.out.trans (hB4.mono HB3.out.size))
  have HO := Lib.hid (tdl_tb ho).1
  clear hpar hB4 ho HX3 HT3 HSL HB3
  unfold nV
  go_upto_region 4 with fail
  obtain ⟨w5, hw5⟩ : ∃ w5, w5 = w4.alloc (.cells #[.int .i64 n0.S, .int .i64 n0.Q, .int .i64 n0.N, .slice a n0.m c] 24) := ⟨_, rfl⟩
  rw [← hw5]
  have hb5 : Below w4.heap.size w4 w5 := by rw [hw5]; exact (Below.refl _ w4).alloc (Nat.le_refl _) _
  have HY5 := Lib.hid (show NAt w5 w4.heap.size n0 a c by rw [hw5]; exact heap_alloc_new _ _)
  have HX5 := Lib.hid (HX4.out.same hb5)
  have HT5 := Lib.hid (HT4.out.same hb5)
  have HS5 := Lib.hid (HS4.out.same hb5)
  have HO5 := Lib.hid (HO.out.same hb5)
  have HB5 := Lib.hid (HB4.out.trans (hb5.mono HB4.out.size))
  generalize w4.heap.size = w4s at *
  clear hw5 hb5 HX4 HT4 HS4 HO HB4
  go_wp2_with fail
  obtain ⟨wA, hwA⟩ : ∃ wA, wA = w5.alloc (.cells #[.int .u8 2, .int .u8 0, .int .u8 1, .int .u8 0, .int .u8 0, .int .u8 0, .int .u8 2, .int .u8 3, .int .u8 2, .int .u8 2, .int .u8 0, .int .u8 1, .int .u8 3, .int .u8 0, .int .u8 5] 5) := ⟨_, rfl⟩
  have HLA := Lib.hid (show Sl wA (some ⟨w5.heap.size, 0, none⟩) 15 15 (fun i => lit15.getD i 0) by rw [hwA]; exact sl_lit w5 lit15 (by decide) (by decide))
  have hbA : Below w5.heap.size w5 wA := by rw [hwA]; exact (Below.refl _ w5).alloc (Nat.le_refl _) _
  have HSA := Lib.hid (show Sl wA (some ⟨g, 0, none⟩) 15 19 (fun i => lit15.getD i 0) by rw [← n0_bytes]; exact sl_lo (HS5.out.same hbA) (by decide))
  have HSM := Lib.hid (same_any (some ⟨g, 0, none⟩) (some ⟨w5.heap.size, 0, none⟩) 15 19 15 _ (by decide) wA HSA.out HLA.out)
  rw [← hwA]
  have HBA := Lib.hid hbA
  clear hwA hbA HSA HLA
  refine HSM.out.mono ?_
  rintro e w6 ⟨rfl, q6, hq6⟩
  have hb6 : Below w5.heap.size w5 w6 := HBA.out.trans ((show Below wA.heap.size wA w6 by rw [hq6]; exact below_dr (Below.refl _ _) q6).mono HBA.out.size)
  have HY6 := Lib.hid (HY5.out.same hb6)
  have HX6 := Lib.hid (HX5.out.same hb6)
  have HT6 := Lib.hid (HT5.out.same hb6)
  have HO6 := Lib.hid (HO5.out.same hb6)
  have HB6 := Lib.hid (HB5.out.trans (hb6.mono HB5.out.size))
  clear hb6 hq6 HSM HBA HY5 HX5 HT5 HO5 HB5 HS5
  obtain ⟨c0, c1, c2, c3⟩ := HX6.out.c
  obtain ⟨d0, d1, d2, d3⟩ := HY6.out.c
  have HSH := Lib.hid (sameNote_any n0 n0 a (some ⟨wg, 0, none⟩) c 2 (by decide) (by decide) w6 HO6.out HT6.out)
  unfold nV at HSH
  go_wp2_with fail
  clear c0 c1 c2 c3 d0 d1 d2 d3
  refine HSH.out.mono ?_
  rintro e w7 ⟨⟨v, rfl, hv⟩, hB7⟩
  obtain rfl : v = true := hv.2 (EN.refl _)
  have HB7 := Lib.hid (HB6.out.trans (hB7.mono HB6.out.size))
  clear hv hB7 HSH HY6 HX6 HT6 HO6 HB6
  go_wp2
  go_ret
  exact ⟨rfl, HB7.out⟩
end Go.Proofs.Ytjlmajopfeplpaa.Nt

namespace Go.Proofs.Ytjlmajopfeplpaa.Nt
open Go.RowKit Go.Shelf
attribute [local go_sem] Oper.semAt_some

/-- what Parse tells, as a report. -/
noncomputable def pH (n : Nat) (f : Nat → Nat) : Mn := if perr n f = 0 then nt f else nz
theorem pH_m (n : Nat) {f : Nat → Nat} (hb : Pf.By f) : (pH n f).m < 256 := by
  unfold pH; split
  · exact hb 8
  · decide
theorem ParSays.out {w w' : World} {n : Nat} {f : Nat → Nat} {e : Ending} (h : ParSays w n f e w') :
    ∃ a c, e = .returned (.tuple #[nV (pH n f) a c, .int .i64 (perr n f)]) ∧ Tb w' a (pH n f).m (pH n f).C (pH n f).T := by
  rcases h with ⟨h0, he⟩ | ⟨h0, a, c, he, ho⟩
  · refine ⟨none, 0, ?_, ?_⟩
    · unfold pH; rw [if_neg h0, he]; rfl
    · unfold pH; rw [if_neg h0]; exact ⟨fun i hi => absurd hi (Nat.not_lt_zero i)⟩
  · refine ⟨a, c, ?_, ?_⟩
    · unfold pH; rw [if_pos h0, he, h0]
    · unfold pH; rw [if_pos h0]; exact (tdl_tb ho).1
set_option maxHeartbeats 4000000 in
set_option maxRecDepth 100000 in
theorem parses_any (a : Option Addr) (n c : Nat) (f : Nat → Nat) (hn : n ≤ 100000) (w : World) (hS : Sl w a n c f) :
    Calls Try.prog 20 #[.slice a n c] w fun e w' => e = .returned (.bool true) ∧ Below w.heap.size w w' := by
  obtain ⟨H, hH⟩ : ∃ H, H = pH n f := ⟨_, rfl⟩
  obtain ⟨er, her⟩ : ∃ er, er = perr n f := ⟨_, rfl⟩
  have HHM := Lib.hid (show H.m < 256 by rw [hH]; exact pH_m n hS.bytes)
  have HPP := Lib.hid (fun g W (hW : Sl W (some ⟨g, 0, none⟩) n (n + 12) f) => (pparse_any (some ⟨g, 0, none⟩) n (n + 12) f (by omega) W hW).mono (R' := fun e w' => (∃ a c, e = .returned (.tuple #[nV H a c, .int .i64 er]) ∧ Tb w' a H.m H.C H.T) ∧ Below W.heap.size W w') (fun e w' ⟨h, hB⟩ => ⟨by rw [hH, her]; exact h.out, hB⟩))
  have HRP := Lib.hid (fun W (hW : Sl W a n c f) => (rparse_any a n c f (by omega) W hW).mono (R' := fun e w' => (∃ a c, e = .returned (.tuple #[nV H a c, .int .i64 er]) ∧ Tb w' a H.m H.C H.T) ∧ Below W.heap.size W w') (fun e w' ⟨h, hB⟩ => ⟨by rw [hH, her]; exact h.out, hB⟩))
  have HS := Lib.hid hS; have HN := Lib.hid hn
  clear hH her hS hn
  have hee : (er == er) = true := by simp
  go_enter Try.func20, Try.ntmps20
  go_wp2_with fail
  refine (lentS_any a n c f w HS.out (by have := HN.out; omega)).mono ?_
  rintro e w1 ⟨rfl, hbk, hB1⟩
  obtain ⟨I, hI⟩ : ∃ I, I = w.heap.size := ⟨_, rfl⟩
  rw [← hI] at hbk ⊢
  have HBK1 := Lib.hid hbk; have HB1 := Lib.hid hB1
  have HSI := Lib.hid ((hbk.nw (Nat.zero_le _) HS.out.bytes HS.out.up (by have := HN.out; omega)).sl)
  clear hI hbk hB1
  go_wp2_with fail
  refine (HPP.out I w1 HSI.out).mono ?_
  rintro e w2 ⟨⟨ha, hc, rfl, hT⟩, hB2⟩
  have HT2 := Lib.hid hT
  have HBK2 := Lib.hid (hB2.block _ (Array.getElem?_eq_some_iff.1 HBK1.out).1 |>.trans HBK1.out)
  have HB2 := Lib.hid (HB1.out.trans (hB2.mono HB1.out.size))
  clear hT hB2 HPP
  unfold nV
  go_upto_region 3 with fail
  obtain ⟨w3, hw3⟩ : ∃ w3, w3 = w2.alloc (.cells #[.int .i64 H.S, .int .i64 H.Q, .int .i64 H.N, .slice ha H.m hc] 24) := ⟨_, rfl⟩
  rw [← hw3]
  have hb3 : Below w2.heap.size w2 w3 := by rw [hw3]; exact (Below.refl _ w2).alloc (Nat.le_refl _) _
  have HX3 := Lib.hid (show NAt w3 w2.heap.size H ha hc by rw [hw3]; exact heap_alloc_new _ _)
  have HT3 := Lib.hid (HT2.out.same hb3)
  have HBK3 := Lib.hid (hb3.block _ (Array.getElem?_eq_some_iff.1 HBK2.out).1 |>.trans HBK2.out)
  have HB3 := Lib.hid (HB2.out.trans (hb3.mono HB2.out.size))
  generalize w2.heap.size = w2s at *
  clear hw3 hb3 HT2 HBK2 HB2
  go_wp2_with fail
  refine (HRP.out w3 (HS.out.same HB3.out)).mono ?_
  rintro e w4 ⟨⟨ka, kc, rfl, hT⟩, hB4⟩
  have HU4 := Lib.hid hT
  have HX4 := Lib.hid (HX3.out.same hB4)
  have HT4 := Lib.hid (HT3.out.same hB4)
  have HBK4 := Lib.hid (hB4.block _ (Array.getElem?_eq_some_iff.1 HBK3.out).1 |>.trans HBK3.out)
  have HB4 := Lib.hid (HB3.out.trans (hB4.mono HB3.out.size))
  clear hT hB4 HX3 HT3 HBK3 HB3 HRP
  unfold nV
  go_upto_region 4 with fail
  obtain ⟨w5, hw5⟩ : ∃ w5, w5 = w4.alloc (.cells #[.int .i64 H.S, .int .i64 H.Q, .int .i64 H.N, .slice ka H.m kc] 24) := ⟨_, rfl⟩
  rw [← hw5]
  have hb5 : Below w4.heap.size w4 w5 := by rw [hw5]; exact (Below.refl _ w4).alloc (Nat.le_refl _) _
  have HY5 := Lib.hid (show NAt w5 w4.heap.size H ka kc by rw [hw5]; exact heap_alloc_new _ _)
  have HX5 := Lib.hid (HX4.out.same hb5)
  have HT5 := Lib.hid (HT4.out.same hb5)
  have HU5 := Lib.hid (HU4.out.same hb5)
  have HBK5 := Lib.hid (hb5.block _ (Array.getElem?_eq_some_iff.1 HBK4.out).1 |>.trans HBK4.out)
  have HB5 := Lib.hid (HB4.out.trans (hb5.mono HB4.out.size))
  generalize w4.heap.size = w4s at *
  clear hw5 hb5 HX4 HT4 HU4 HBK4 HB4
  obtain ⟨c0, c1, c2, c3⟩ := HX5.out.c
  obtain ⟨d0, d1, d2, d3⟩ := HY5.out.c
  have HSH := Lib.hid (sameNote_any H H ha ka hc kc (by have := HHM.out; omega) (by have := HHM.out; omega) w5 HT5.out HU5.out)
  unfold nV at HSH
  go_wp2_with fail
  clear c0 c1 c2 c3 d0 d1 d2 d3
  refine HSH.out.mono ?_
  rintro e w6 ⟨⟨v, rfl, hv⟩, hB6⟩
  obtain rfl : v = true := hv.2 (EN.refl H)
  have HBK6 := Lib.hid (hB6.block _ (Array.getElem?_eq_some_iff.1 HBK5.out).1 |>.trans HBK5.out)
  have HB6 := Lib.hid (HB5.out.trans (hB6.mono HB5.out.size))
  clear hv hB6 HSH HX5 HY5 HT5 HU5 HBK5 HB5
  go_wp2_with fail
  refine (keptS_any I a n c f w6 (HS.out.same HB6.out) HBK6.out (by have := HN.out; omega)).mono ?_
  rintro e w8 ⟨rfl, q8, hq8⟩
  have HB8 := Lib.hid (HB6.out.trans ((show Below w6.heap.size w6 w8 by rw [hq8]; exact below_dr (Below.refl _ _) q8).mono HB6.out.size))
  clear hq8 HBK6 HB6
  go_wp2
  go_ret
  exact ⟨rfl, HB8.out⟩
set_option maxHeartbeats 2000000 in
theorem noteParses_any (a : Option Addr) (n c : Nat) (f : Nat → Nat) (w : World) (hS : Sl w a n c f) :
    Calls Try.prog 4 #[.slice a n c] w fun e w' => e = .returned (.bool true) ∧ Below w.heap.size w w' := by
  have HS := Lib.hid hS
  clear hS
  go_enter Try.func4, Try.ntmps4
  by_cases hbig : n ≤ 5000
  rotate_left
  · have j1 : (5000 : Int) < (n : Int) := by omega
    go_wp2_with fail
    refine (awake15_any w).mono ?_
    rintro e w1 ⟨rfl, hB1⟩
    have HB1 := Lib.hid hB1
    clear hB1
    go_wp2
    go_ret
    exact ⟨rfl, HB1.out⟩
  have j1 : ¬ (5000 : Int) < (n : Int) := by omega
  have HN := Lib.hid hbig
  clear hbig
  go_wp2_with fail
  clear j1
  refine (parses_any a n c f (by have := HN.out; omega) w HS.out).mono ?_
  rintro e w1 ⟨rfl, hB1⟩
  have HB1 := Lib.hid hB1
  clear hB1
  go_wp2_with fail
  refine (rseal_any a n c f (by have := HN.out; omega) w1 (HS.out.same HB1.out)).mono ?_
  rintro e w2 ⟨sa, sc, rfl, hN2, hB2⟩
  have HSL2 := Lib.hid hN2.sl; have HB2 := Lib.hid (HB1.out.trans (hB2.mono HB1.out.size))
  clear hN2 hB2 HB1
  go_wp2_with fail
  refine (parses_any sa (n + 4) sc _ (by have := HN.out; omega) w2 HSL2.out).mono ?_
  rintro e w3 ⟨rfl, hB3⟩
  have HB3 := Lib.hid (HB2.out.trans (hB3.mono HB2.out.size))
  clear hB3 HSL2 HB2
  go_wp2_with fail
  refine (awake15_any w3).mono ?_
  rintro e w4 ⟨rfl, hB4⟩
  have HB4 := Lib.hid (HB3.out.trans (hB4.mono HB3.out.size))
  clear hB4 HB3
  go_wp2
  go_ret
  exact ⟨rfl, HB4.out⟩
end Go.Proofs.Ytjlmajopfeplpaa.Nt

namespace Go.Proofs.Ytjlmajopfeplpaa.Nt
open Go.RowKit Go.Shelf
attribute [local go_sem] Oper.semAt_some

/-- both answers of Put, as far as bytes go. -/
theorem put_out (h : Mn) : ∃ (L : Nat) (er : Int) (F : Nat → Nat), L ≤ 800 ∧ (∀ w e w', PutGoes w h e w' → ∃ a c, e = .returned (.tuple #[.slice a L c, .int .i64 er]) ∧ Sl w' a L c F) ∧ (∀ w e w', PutSays w h e w' → ∃ a c, e = .returned (.tuple #[.slice a L c, .int .i64 er]) ∧ Sl w' a L c F) := by
  by_cases hr : RN h
  · have hm := rn_few hr
    refine ⟨9 + 3 * h.m + 4, 0, Crc.sealed (pl h) (9 + 3 * h.m), by omega, fun w e w' q => ?_, fun w e w' q => ?_⟩
    · rcases q with ⟨_, g, C, he, _, hC, hbl⟩ | ⟨hno, _⟩
      · exact ⟨_, _, he, hbl.sl2 (Nat.le_refl _) (by unfold maxLen; omega) (sealed_bytes (pl_by _) _) (sealed_upto _ _)⟩
      · exact absurd hr hno
    · rcases q with ⟨_, a, c, he, hN⟩ | ⟨hno, _⟩
      · exact ⟨a, c, he, hN.sl⟩
      · exact absurd hr hno
  · refine ⟨0, 2, fun _ => 0, by omega, fun w e w' q => ?_, fun w e w' q => ?_⟩
    · rcases q with ⟨h1, _⟩ | ⟨_, he⟩
      · exact absurd h1 hr
      · exact ⟨none, 0, he, Sl.none_ w' none 0 (Nat.zero_le _) (fun _ => rfl)⟩
    · rcases q with ⟨h1, _⟩ | ⟨_, he⟩
      · exact absurd h1 hr
      · exact ⟨none, 0, he, Sl.none_ w' none 0 (Nat.zero_le _) (fun _ => rfl)⟩
theorem bool_of (P : Prop) : ∃ v : Bool, v = true ↔ P := by
  by_cases h : P
  · exact ⟨true, fun _ => h, fun _ => rfl⟩
  · exact ⟨false, (fun e => by cases e), fun q => absurd q h⟩
theorem BoSays.is {P : Prop} {v : Bool} (hv : v = true ↔ P) {e : Ending} (h : BoSays P e) : e = .returned (.bool v) := by
  obtain ⟨u, he, hu⟩ := h
  rw [he]
  have : u = true ↔ v = true := hu.trans hv.symm
  cases u <;> cases v <;> simp_all
set_option maxHeartbeats 8000000 in
set_option maxRecDepth 100000 in
theorem notePuts_any (h : Mn) (a : Option Addr) (c : Nat) (came : Int) (hm : h.m ≤ 8796093022208) (hnil : a = none → h.m = 0 ∧ c = 0) (hc : h.m ≤ c) (w : World) (hT : Tb w a h.m h.C h.T) :
    Calls Try.prog 3 #[nV h a c, .int .i64 came] w fun e w' => e = .returned (.bool true) ∧ Below w.heap.size w w' := by
  obtain ⟨w0, hw0⟩ : ∃ w0, w0 = w.alloc (.cells #[.int .i64 h.S, .int .i64 h.Q, .int .i64 h.N, .slice a h.m c] 24) := ⟨_, rfl⟩
  have HX0 := Lib.hid (show NAt w0 w.heap.size h a c by rw [hw0]; exact heap_alloc_new _ _)
  have HB0 := Lib.hid (show Below w.heap.size w w0 by rw [hw0]; exact (Below.refl _ w).alloc (Nat.le_refl _) _)
  have HT := Lib.hid hT; have HW0 := Lib.hid hw0; have HNIL := Lib.hid hnil; have HCC := Lib.hid hc
  clear hT hw0 hnil hc
  obtain ⟨wg, hwg⟩ : ∃ wg, wg = w.heap.size := ⟨_, rfl⟩
  go_enter Try.func3, Try.ntmps3
  unfold nV
  go_upto_region 1 with fail
  rw [← HW0.out, ← hwg]
  rw [← hwg] at HX0
  clear HW0 hwg
  obtain ⟨c0, c1, c2, c3⟩ := HX0.out.c
  by_cases hbig : h.m ≤ 5000
  rotate_left
  · have j1 : (5000 : Int) < (h.m : Int) := by omega
    go_wp2_with fail
    clear c0 c1 c2 c3
    refine (awake15_any w0).mono ?_
    rintro e w1 ⟨rfl, hB1⟩
    have HB1 := Lib.hid (HB0.out.trans (hB1.mono HB0.out.size))
    clear hB1
    go_wp2
    go_ret
    exact ⟨rfl, HB1.out⟩
  have j1 : ¬ (5000 : Int) < (h.m : Int) := by omega
  have HM := Lib.hid hbig
  have HLN := Lib.hid (lentNote_any h a c HNIL.out (by omega) w0 (HT.out.same HB0.out))
  unfold nV at HLN
  clear hbig hm
  go_wp2_with fail
  clear c0 c1 c2 c3 j1
  refine HLN.out.mono ?_
  rintro e w1 ⟨x, hx, rfl, hG, hB1⟩
  have HG1 := Lib.hid hG; have HX1 := Lib.hid (HX0.out.same hB1); have HB1 := Lib.hid (HB0.out.trans (hB1.mono HB0.out.size))
  clear hx hG hB1 HLN HX0 HB0
  unfold nV
  go_upto_region 4 with fail
  obtain ⟨w2, hw2⟩ : ∃ w2, w2 = w1.alloc (.cells #[.int .i64 h.S, .int .i64 h.Q, .int .i64 h.N, .slice (some ⟨x, 0, none⟩) h.m (h.m + 12)] 24) := ⟨_, rfl⟩
  rw [← hw2]
  have hb2 : Below w1.heap.size w1 w2 := by rw [hw2]; exact (Below.refl _ w1).alloc (Nat.le_refl _) _
  have HY2 := Lib.hid (show NAt w2 w1.heap.size h (some ⟨x, 0, none⟩) (h.m + 12) by rw [hw2]; exact heap_alloc_new _ _)
  have HX2 := Lib.hid (HX1.out.same hb2); have HG2 := Lib.hid (HG1.out.same hb2); have HB2 := Lib.hid (HB1.out.trans (hb2.mono HB1.out.size))
  generalize w1.heap.size = q at *
  clear hw2 hb2 HX1 HG1 HB1
  obtain ⟨L, er, F, hL, hpp, hrp⟩ := put_out h
  have HL := Lib.hid hL
  obtain ⟨d0, d1, d2, d3⟩ := HY2.out.c
  have HPP := Lib.hid ((pput_any h (some ⟨x, 0, none⟩) (h.m + 12) (by have := HM.out; omega) w2 (Tb.orig HG2.out)).mono (R' := fun e w' => (∃ a c, e = .returned (.tuple #[.slice a L c, .int .i64 er]) ∧ Sl w' a L c F) ∧ Below w2.heap.size w2 w') (fun e w' ⟨h, hB⟩ => ⟨hpp _ _ _ h, hB⟩))
  unfold nV at HPP
  go_wp2_with fail
  clear d0 d1 d2 d3
  refine HPP.out.mono ?_
  rintro e w3 ⟨⟨pa, pc, rfl, hS3⟩, hB3⟩
  have HS3 := Lib.hid hS3
  have HX3 := Lib.hid (HX2.out.same hB3); have HY3 := Lib.hid (HY2.out.same hB3); have HG3 := Lib.hid (HG2.out.same hB3); have HB3 := Lib.hid (HB2.out.trans (hB3.mono HB2.out.size))
  clear hS3 hB3 HX2 HY2 HG2 HB2 HPP hpp
  obtain ⟨c0, c1, c2, c3⟩ := HX3.out.c
  have HRP := Lib.hid ((rput_any h a c (by have := HM.out; omega) w3 (HT.out.same HB3.out)).mono (R' := fun e w' => (∃ a c, e = .returned (.tuple #[.slice a L c, .int .i64 er]) ∧ Sl w' a L c F) ∧ Below w3.heap.size w3 w') (fun e w' ⟨h, hB⟩ => ⟨hrp _ _ _ h, hB⟩))
  unfold nV at HRP
  go_wp2_with fail
  clear c0 c1 c2 c3
  refine HRP.out.mono ?_
  rintro e w4 ⟨⟨ra, rc, rfl, hS4⟩, hB4⟩
  have HR4 := Lib.hid hS4; have HS4 := Lib.hid (HS3.out.same hB4)
  have HX4 := Lib.hid (HX3.out.same hB4); have HY4 := Lib.hid (HY3.out.same hB4); have HG4 := Lib.hid (HG3.out.same hB4); have HB4 := Lib.hid (HB3.out.trans (hB4.mono HB3.out.size))
  clear hS4 hB4 HX3 HY3 HG3 HB3 HS3 HRP hrp hL
  have HT4 := Lib.hid (HT.out.same HB4.out)
  obtain ⟨xr, hxr⟩ := bool_of (RN h)
  obtain ⟨su, hsu⟩ : ∃ su, su = sumN h := ⟨_, rfl⟩
  obtain ⟨cu, hcu⟩ : ∃ cu, cu = cntN h came := ⟨_, rfl⟩
  have HC1 := Lib.hid (fun W (hW : Below w4.heap.size w4 W) => (same_any pa ra L pc rc F (by have := HL.out; omega) W (HS4.out.same hW) (HR4.out.same hW)).mono (R' := fun e w' => e = .returned (.bool true) ∧ Below W.heap.size W w') (fun e w' ⟨h1, q, h2⟩ => ⟨h1, by rw [h2]; exact below_dr (Below.refl _ _) q⟩))
  have HC2 := Lib.hid (fun W (hW : Below w4.heap.size w4 W) => (pright_any h (some ⟨x, 0, none⟩) (h.m + 12) (by have := HM.out; omega) W (Tb.orig (HG4.out.same hW))).mono (R' := fun e w' => e = .returned (.bool xr) ∧ Below W.heap.size W w') (fun e w' ⟨h1, h2⟩ => ⟨h1.is hxr, h2⟩))
  have HC3 := Lib.hid (fun W (hW : Below w4.heap.size w4 W) => (rright_any h a c (by have := HM.out; omega) W (HT4.out.same hW)).mono (R' := fun e w' => e = .returned (.bool xr) ∧ Below W.heap.size W w') (fun e w' ⟨h1, h2⟩ => ⟨h1.is hxr, h2⟩))
  have HC4 := Lib.hid (fun W (hW : Below w4.heap.size w4 W) => (psum_any h (some ⟨x, 0, none⟩) (h.m + 12) (by have := HM.out; omega) W (Tb.orig (HG4.out.same hW))).mono (R' := fun e w' => e = .returned (.int .i64 su) ∧ Below W.heap.size W w') (fun e w' ⟨h1, h2⟩ => ⟨by rw [hsu]; exact h1, h2⟩))
  have HC5 := Lib.hid (fun W (hW : Below w4.heap.size w4 W) => (rsum_any h a c (by have := HM.out; omega) W (HT4.out.same hW)).mono (R' := fun e w' => e = .returned (.int .i64 su) ∧ Below W.heap.size W w') (fun e w' ⟨h1, h2⟩ => ⟨by rw [hsu]; exact h1, h2⟩))
  have HC6 := Lib.hid (fun W (hW : Below w4.heap.size w4 W) => (pcount_any h (some ⟨x, 0, none⟩) (h.m + 12) came (by have := HM.out; omega) W (Tb.orig (HG4.out.same hW))).mono (R' := fun e w' => e = .returned (.int .i64 cu) ∧ Below W.heap.size W w') (fun e w' ⟨h1, h2⟩ => ⟨by rw [hcu]; exact h1, h2⟩))
  have HC7 := Lib.hid (fun W (hW : Below w4.heap.size w4 W) => (rcount_any h a c came (by have := HM.out; omega) W (HT4.out.same hW)).mono (R' := fun e w' => e = .returned (.int .i64 cu) ∧ Below W.heap.size W w') (fun e w' ⟨h1, h2⟩ => ⟨by rw [hcu]; exact h1, h2⟩))
  have HKN := Lib.hid (fun W hT hG => keptNote_any h x a c HCC.out (by have := HM.out; omega) W hT hG)
  unfold nV at HC2 HC3 HC4 HC5 HC6 HC7 HKN
  clear hxr hsu hcu
  obtain ⟨c0, c1, c2, c3⟩ := HX4.out.c
  obtain ⟨d0, d1, d2, d3⟩ := HY4.out.c
  have yc0 := fun d os => cell_regrown c0 d os
  have yc1 := fun d os => cell_regrown c1 d os
  have yc2 := fun d os => cell_regrown c2 d os
  have yc3 := fun d os => cell_regrown c3 d os
  have yd0 := fun d os => cell_regrown d0 d os
  have yd1 := fun d os => cell_regrown d1 d os
  have yd2 := fun d os => cell_regrown d2 d os
  have yd3 := fun d os => cell_regrown d3 d os
  have ge : (er == er) = true := by simp
  have gr : (xr == xr) = true := by cases xr <;> rfl
  have gs : (su == su) = true := by simp
  have gc : (cu == cu) = true := by simp
  go_upto_region 6 with fail
  refine wp_region_quiet_below (by kernel_rfl) (by kernel_rfl) ?_
  repeat (go_big_quiet_step ((first | (go_at_call 12; exact Calls.regrown_of (HC1.out _ (below_regrown _ _ _))) | (go_at_call 13; exact Calls.regrown_of (HC2.out _ (below_regrown _ _ _))) | (go_at_call 14; exact Calls.regrown_of (HC3.out _ (below_regrown _ _ _))) | (go_at_call 15; exact Calls.regrown_of (HC4.out _ (below_regrown _ _ _))) | (go_at_call 16; exact Calls.regrown_of (HC5.out _ (below_regrown _ _ _))) | (go_at_call 17; exact Calls.regrown_of (HC6.out _ (below_regrown _ _ _))) | (go_at_call 18; exact Calls.regrown_of (HC7.out _ (below_regrown _ _ _))))))
  refine wpQuiet_nil ?_
  rintro w5 ⟨pq, hW5⟩
  have hB5 : Below w4.heap.size w4 w5 := by rw [hW5]; exact below_regrown _ _ _
  have HX5 := Lib.hid (HX4.out.same hB5); have HY5 := Lib.hid (HY4.out.same hB5); have HG5 := Lib.hid (HG4.out.same hB5); have HT5 := Lib.hid (HT4.out.same hB5); have HB5 := Lib.hid (HB4.out.trans (hB5.mono HB4.out.size))
  clear hW5 hB5 yc0 yc1 yc2 yc3 yd0 yd1 yd2 yd3 c0 c1 c2 c3 d0 d1 d2 d3 ge gr gs gc HC1 HC2 HC3 HC4 HC5 HC6 HC7 HX4 HY4 HG4 HT4 HB4
  obtain ⟨c0, c1, c2, c3⟩ := HX5.out.c
  obtain ⟨d0, d1, d2, d3⟩ := HY5.out.c
  go_wp2_with fail
  clear c0 c1 c2 c3 d0 d1 d2 d3
  refine (HKN.out w5 HT5.out HG5.out).mono ?_
  rintro e w6 ⟨rfl, hB6⟩
  have HB6 := Lib.hid (HB5.out.trans (hB6.mono HB5.out.size))
  clear hB6 HKN HX5 HY5 HG5 HT5 HB5
  go_wp2_with fail
  refine (awake15_any w6).mono ?_
  rintro e w7 ⟨rfl, hB7⟩
  have HB7 := Lib.hid (HB6.out.trans (hB7.mono HB6.out.size))
  clear hB7 HB6
  go_wp2
  go_ret
  exact ⟨rfl, HB7.out⟩
end Go.Proofs.Ytjlmajopfeplpaa.Nt

namespace Go.Proofs.Ytjlmajopfeplpaa.Nt
open Go.RowKit Go.Shelf
attribute [local go_sem] Oper.semAt_some

/-- times of those that are so many, added. -/
def esm (C T : Nat → Int) (x : Int) : Nat → Int
  | 0 => 0
  | i + 1 => esm C T x i + (if C i = x then T i else 0)
/-- times of those up to so many, added. -/
def psm (C T : Nat → Int) (x : Int) : Nat → Int
  | 0 => 0
  | i + 1 => psm C T x i + (if C i ≤ x then T i else 0)
theorem cnt_esm {N : Int} {m : Nat} {C T : Nat → Int} (h : CtsOk N m C T) (x : Int) : ∀ k, k ≤ m → cntT C T x k = esm C T x k
  | 0, _ => rfl
  | k + 1, hk => by
    have ih := cnt_esm h x k (by omega)
    unfold cntT esm
    by_cases h0 : cntT C T x k = 0
    · rw [if_pos h0, ← ih, h0]; omega
    · rw [if_neg h0, ← ih]
      have hc : C k ≠ x := fun e => h0 (cntT_none k fun i hi e2 => by
        have := cts_up h (i := i) k hi (by omega)
        omega)
      rw [if_neg hc]; omega
theorem psm_next {C T : Nat → Int} (x : Int) : ∀ m, psm C T x m + esm C T (x + 1) m = psm C T (x + 1) m
  | 0 => rfl
  | m + 1 => by
    have ih := psm_next (C := C) (T := T) x m
    unfold psm esm
    rw [← ih]
    by_cases h1 : C m ≤ x
    · rw [if_pos h1, if_neg (by omega), if_pos (by omega)]; omega
    · by_cases h2 : C m = x + 1
      · rw [if_neg h1, if_pos h2, if_pos (by omega)]; omega
      · rw [if_neg h1, if_neg h2, if_neg (by omega)]; omega
theorem psm_none {C T : Nat → Int} {x : Int} : ∀ m, (∀ i, i < m → x < C i) → psm C T x m = 0
  | 0, _ => rfl
  | m + 1, h => by
    have := h m (by omega)
    unfold psm; rw [psm_none m fun i hi => h i (by omega), if_neg (by omega)]; rfl
theorem psm_all {C T : Nat → Int} {x : Int} : ∀ m, (∀ i, i < m → C i ≤ x) → psm C T x m = sumT T m
  | 0, _ => rfl
  | m + 1, h => by unfold psm sumT; rw [psm_all m fun i hi => h i (by omega), if_pos (h m (by omega))]
theorem psm_le {N : Int} {m : Nat} {C T : Nat → Int} (h : CtsOk N m C T) (x : Int) : ∀ k, k ≤ m → 0 ≤ psm C T x k ∧ psm C T x k ≤ 65535 * (k : Int)
  | 0, _ => by simp [psm]
  | k + 1, hk => by
    have ih := psm_le h x k (by omega)
    have h2 := h k (by omega)
    unfold CtOk at h2
    unfold psm
    split <;> omega
theorem cnt_out {h : Mn} (hr : RN h) {x : Int} (hx : x < 1 ∨ h.N < x) : cntN h x = 0 := by
  rw [cntN_yes hr]
  exact cntT_none _ fun i hi e => by
    have h2 := hr.2.2.2 i hi
    unfold CtOk at h2
    omega
theorem sum_less {h : Mn} (hr : RN h) {k : Nat} (hk : h.m = k + 1) : sumN ⟨h.S, h.Q, h.N, k, h.C, h.T⟩ + h.T k = sumN h := by
  rw [sumN_yes hr, sumN_yes (h := ⟨h.S, h.Q, h.N, k, h.C, h.T⟩) ⟨hr.1, hr.2.1, hr.2.2.1, fun i hi => hr.2.2.2 i (Nat.lt_trans hi (show k < h.m by omega))⟩, hk]
  rfl

set_option maxHeartbeats 8000000 in
set_option maxRecDepth 100000 in
theorem noteSums_any (h : Mn) (a : Option Addr) (c : Nat) (came : Int) (hm : h.m ≤ 8796093022208) (hnil : a = none → h.m = 0 ∧ c = 0) (w : World) (hT : Tb w a h.m h.C h.T) :
    Calls Try.prog 7 #[nV h a c, .int .i64 came] w fun e w' => e = .returned (.bool true) ∧ Below w.heap.size w w' := by
  obtain ⟨w0, hw0⟩ : ∃ w0, w0 = w.alloc (.cells #[.int .i64 h.S, .int .i64 h.Q, .int .i64 h.N, .slice a h.m c] 24) := ⟨_, rfl⟩
  have HX0 := Lib.hid (show NAt w0 w.heap.size h a c by rw [hw0]; exact heap_alloc_new _ _)
  have HB0 := Lib.hid (show Below w.heap.size w w0 by rw [hw0]; exact (Below.refl _ w).alloc (Nat.le_refl _) _)
  have HT := Lib.hid hT; have HW0 := Lib.hid hw0; have HNIL := Lib.hid hnil
  have HRI := Lib.hid (fun W hT => pright_any h a c (by omega) W hT)
  have HSU := Lib.hid (fun W hT => psum_any h a c (by omega) W hT)
  have HCO := Lib.hid (fun x W hT => pcount_any h a c x (by omega) W hT)
  unfold nV at HRI HSU HCO ⊢
  clear hT hw0 hnil
  obtain ⟨wg, hwg⟩ : ∃ wg, wg = w.heap.size := ⟨_, rfl⟩
  go_enter Try.func7, Try.ntmps7
  go_upto_region 1 with fail
  rw [← HW0.out, ← hwg]
  rw [← hwg] at HX0
  clear HW0 hwg
  have HM := Lib.hid hm
  go_wp2_with fail
  refine (awake15_any w0).mono ?_
  rintro e w1 ⟨rfl, hB1⟩
  have HX1 := Lib.hid (HX0.out.same hB1)
  have HB1 := Lib.hid (HB0.out.trans (hB1.mono HB0.out.size))
  clear hB1 HX0 HB0
  obtain ⟨c0, c1, c2, c3⟩ := HX1.out.c
  by_cases hbig : h.m ≤ 5000
  rotate_left
  · have j1 : (5000 : Int) < (h.m : Int) := by omega
    go_wp2
    go_ret
    exact ⟨rfl, HB1.out⟩
  have j1 : ¬ (5000 : Int) < (h.m : Int) := by omega
  have HBIG := Lib.hid hbig
  clear hbig hm
  go_wp2_with fail
  clear c0 c1 c2 c3 j1
  refine (HRI.out w1 (HT.out.same HB1.out)).mono ?_
  rintro e w2 ⟨⟨v, rfl, hv⟩, hB2⟩
  have HX2 := Lib.hid (HX1.out.same hB2)
  have HB2 := Lib.hid (HB1.out.trans (hB2.mono HB1.out.size))
  have HVV := Lib.hid hv
  clear hv hB2 HX1 HB1
  obtain ⟨c0, c1, c2, c3⟩ := HX2.out.c
  cases v
  · have HNO := Lib.hid (show ¬ RN h from fun q => absurd (HVV.out.2 q) (by simp))
    go_wp2_with fail
    clear c0 c1 c2 c3
    refine (HSU.out w2 (HT.out.same HB2.out)).mono ?_
    rintro e w3 ⟨rfl, hB3⟩
    rw [sumN_no HNO.out]
    have HX3 := Lib.hid (HX2.out.same hB3)
    have HB3 := Lib.hid (HB2.out.trans (hB3.mono HB2.out.size))
    clear hB3
    obtain ⟨c0, c1, c2, c3⟩ := HX3.out.c
    go_wp2_with fail
    clear c0 c1 c2 c3
    refine (HCO.out came w3 (HT.out.same HB3.out)).mono ?_
    rintro e w4 ⟨rfl, hB4⟩
    rw [cntN_no HNO.out]
    have HB4 := Lib.hid (HB3.out.trans (hB4.mono HB3.out.size))
    clear hB4
    go_wp2
    go_ret
    exact ⟨rfl, HB4.out⟩
  have HR := Lib.hid (show RN h by first | exact HVV.out.1 rfl | exact HVV.out.1 trivial)
  clear HVV c0 c1 c2 c3
  obtain ⟨N, hN⟩ : ∃ N : Nat, (N : Int) = h.N := ⟨h.N.toNat, by have := HR.out.2.2.1.1; omega⟩
  have HN := Lib.hid hN
  have HN5 := Lib.hid (show N ≤ 255 by have := HR.out.2.2.1.2; omega)
  have HM5 := Lib.hid (rn_few HR.out)
  clear hN
  have HP := Lib.hid (fun j => psm_le HR.out.2.2.2 j h.m (Nat.le_refl _))
  have HNX := Lib.hid (show ∀ j : Nat, psm h.C h.T (j : Nat) h.m + cntN h ((j : Int) + 1) = psm h.C h.T ((j + 1 : Nat) : Int) h.m from fun j => by
    rw [cntN_yes HR.out, cnt_esm HR.out.2.2.2 _ _ (Nat.le_refl _), psm_next]; rfl)
  have HC0 := Lib.hid (show ∀ x, 0 ≤ cntN h x ∧ cntN h x ≤ 65535 from fun x => by
    rw [cntN_yes HR.out]
    by_cases hex : ∃ i, i < h.m ∧ h.C i = x
    · obtain ⟨i, hi, e⟩ := hex
      have h2 := HR.out.2.2.2 i hi
      unfold CtOk at h2
      rw [← e, cntT_at HR.out.2.2.2 _ hi (Nat.le_refl _)]
      omega
    · rw [cntT_none _ fun i hi e => hex ⟨i, hi, e⟩]; omega)
  go_wp2_with fail
  go_loopw [5, 6] (fun s i wr => ∃ (j : Nat) (W : World), W = wr ∧ j ≤ N ∧ i = .int .i64 ((j : Int) + 1) ∧ s = .int .i64 (psm h.C h.T (j : Nat) h.m) ∧ Below w2.heap.size w2 wr) (fun _ i _ => N + 1 - (intOf i).toNat)
  case atStart => exact ⟨0, _, rfl, by omega, rfl, by rw [psm_none h.m fun i hi => (show ((0 : Nat) : Int) < h.C i by have := (HR.out.2.2.2 i hi).1; omega)], Below.refl _ _⟩
  case round =>
    obtain ⟨j, wx, rfl, hj, rfl, rfl, hB⟩ := hrel
    have HBX := Lib.hid hB
    clear hB
    have HX3 := Lib.hid (HX2.out.same HBX.out)
    obtain ⟨c0, c1, c2, c3⟩ := HX3.out.c
    rw [← HN.out] at c2
    by_cases hlt : j < N
    · have i1 : (j : Int) + 1 ≤ (N : Int) := by omega
      have hp := HP.out (j : Nat)
      have hm5 := HM5.out
      have hc5 := HC0.out ((j : Int) + 1)
      have hnx := HNX.out j
      have HLT := Lib.hid hlt
      have HCX := Lib.hid (HCO.out ((j : Int) + 1) wx (HT.out.same (HB2.out.trans (HBX.out.mono HB2.out.size))))
      rw [← HN.out] at HCX
      obtain ⟨s, hs⟩ : ∃ s, s = psm h.C h.T (j : Nat) h.m := ⟨_, rfl⟩
      rw [← hs] at hp hnx ⊢
      obtain ⟨cn, hcn⟩ : ∃ cn, cn = cntN h ((j : Int) + 1) := ⟨_, rfl⟩
      rw [← hcn] at hc5 hnx HCX
      have HSN := Lib.hid hnx
      have hs3 : 0 ≤ s ∧ s ≤ 65535 * 255 := by omega
      obtain ⟨hs3, hs4⟩ := hs3
      obtain ⟨hc6, hc7⟩ := hc5
      obtain ⟨j1, hj1⟩ : ∃ j1 : Int, j1 = (j : Int) + 1 := ⟨_, rfl⟩
      rw [← hj1] at i1 HCX ⊢
      have HJ1 := Lib.hid hj1
      have hjb : 0 ≤ j1 ∧ j1 ≤ 255 := by have := HN5.out; omega
      obtain ⟨hj2, hj3⟩ := hjb
      clear hp hnx hs hcn hm5 hlt hj hj1
      go_wp2_with fail
      clear c0 c1 c2 c3
      refine HCX.out.mono ?_
      rintro e w3 ⟨rfl, hB3⟩
      have HB3 := Lib.hid (HBX.out.trans (hB3.mono HBX.out.size))
      clear hB3 HCX
      go_wp2
      go_roundw
      case rel => exact ⟨j + 1, _, rfl, by have := HLT.out; omega, by rw [HJ1.out]; go_num, by rw [← HSN.out], HB3.out⟩
      case measure => have := HJ1.out; have := HLT.out; simp [intOf]; omega
    · obtain hjN : j = N := by omega
      have i1 : ¬ ((j : Int) + 1 ≤ (N : Int)) := by omega
      obtain ⟨s, hs⟩ : ∃ s, s = sumN h := ⟨_, rfl⟩
      have HS := Lib.hid hs
      rw [show psm h.C h.T (j : Nat) h.m = s by rw [hs, sumN_yes HR.out]; exact psm_all h.m fun i hi => by have := (HR.out.2.2.2 i hi).2.1; have := HN.out; omega]
      obtain ⟨j1, hj1⟩ : ∃ j1 : Int, j1 = (j : Int) + 1 := ⟨_, rfl⟩
      rw [← hj1] at i1 ⊢
      clear hs hjN hj hlt hj1
      go_wp2_with fail
      clear c0 c1 c2 c3 i1
      have HBS := Lib.hid (HB2.out.trans (HBX.out.mono HB2.out.size))
      have HT3 := Lib.hid (HT.out.same HBS.out)
      go_loopw [7] (fun i wr => ∃ (k : Nat) (W : World), W = wr ∧ k ≤ h.m ∧ i = .int .i64 (k : Nat) ∧ Below wx.heap.size wx wr) (fun i _ => h.m - (intOf i).toNat)
      case atStart => exact ⟨0, _, rfl, by omega, rfl, Below.refl _ _⟩
      case round =>
        obtain ⟨k, wy, rfl, hk, rfl, hB⟩ := hrel
        have HBY := Lib.hid hB
        clear hB
        have HX4 := Lib.hid (HX3.out.same HBY.out)
        have HT4 := Lib.hid (HT3.out.same HBY.out)
        obtain ⟨c0, c1, c2, c3⟩ := HX4.out.c
        by_cases hlt : k < h.m
        · have i1 : (k : Int) < (h.m : Int) := by omega
          obtain ⟨b, o, ea, d0, d1⟩ := HT4.out.cell k hlt
          subst ea
          have HCY := Lib.hid (show ∀ W, Below wy.heap.size wy W → Calls Try.prog 17 #[.agg #[.int .i64 h.S, .int .i64 h.Q, .int .i64 h.N, .slice (some ⟨b, o, none⟩) h.m c], .int .i64 (h.C k)] W fun e w' => e = .returned (.int .i64 (h.T k)) ∧ Below W.heap.size W w' from fun W hW => by
            have hh := HCO.out (h.C k) W (HT4.out.same hW)
            rw [cntN_yes HR.out, cntT_at HR.out.2.2.2 _ hlt (Nat.le_refl _)] at hh
            exact hh)
          have HLT := Lib.hid hlt
          generalize h.C k = x at *
          generalize h.T k = y at *
          have yc0 := fun d os => cell_regrown c0 d os
          have yc1 := fun d os => cell_regrown c1 d os
          have yc2 := fun d os => cell_regrown c2 d os
          have yc3 := fun d os => cell_regrown c3 d os
          have yd0 := fun d os => cell_regrown d0 d os
          have yd1 := fun d os => cell_regrown d1 d os
          have gy : (y != y) = false := by simp
          clear hlt
          go_upto_region 15 with fail
          refine wp_region_quiet_below (by kernel_rfl) (by kernel_rfl) ?_
          repeat (go_big_quiet_step ((go_at_call 17; exact Calls.regrown_of (HCY.out _ (below_regrown _ _ _)))))
          refine wpQuiet_nil ?_
          rintro w5 ⟨pq, hW5⟩
          have hB5 : Below wy.heap.size wy w5 := by rw [hW5]; exact below_regrown _ _ _
          have HB5 := Lib.hid (HBY.out.trans (hB5.mono HBY.out.size))
          clear hW5 hB5 yc0 yc1 yc2 yc3 yd0 yd1 c0 c1 c2 c3 d0 d1 gy HCY
          have hlt := HLT.out
          have hbg := HBIG.out
          go_wp2
          go_roundw
          case rel => exact ⟨k + 1, _, rfl, by omega, by go_num, HB5.out⟩
          case measure => simp [intOf]; omega
        · obtain hkm : k = h.m := by omega
          have i1 : ¬ (k : Int) < (h.m : Int) := by omega
          clear hkm hk hlt
          have HB4 := Lib.hid (HBS.out.trans (HBY.out.mono HBS.out.size))
          go_upto_region 17 with fail
          clear i1
          go_cut [80] from 61 to 80 (fun v wz => v = .bool false ∧ NAt wz wg h a c ∧ Below w.heap.size w wz)
          case first =>
            go_wp2_with fail
            clear c0 c1 c2 c3
            refine (HSU.out wy HT4.out).mono ?_
            rintro e w5 ⟨rfl, hB5⟩
            rw [← HS.out]
            have HX5 := Lib.hid (HX4.out.same hB5)
            have HT5 := Lib.hid (HT4.out.same hB5)
            have HB5 := Lib.hid (HB4.out.trans (hB5.mono HB4.out.size))
            clear hB5
            have gs : (s != s) = false := by simp
            obtain ⟨c0, c1, c2, c3⟩ := HX5.out.c
            rw [← HN.out] at c2
            by_cases e1 : came < 1
            · have HZ := Lib.hid (cnt_out HR.out (x := came) (Or.inl e1))
              have HCZ := Lib.hid (HCO.out came w5 HT5.out)
              rw [← HN.out] at HCZ
              go_wp2_with fail
              clear c0 c1 c2 c3 gs
              refine HCZ.out.mono ?_
              rintro e w6 ⟨rfl, hB6⟩
              rw [HZ.out]
              have HX6 := Lib.hid (HX5.out.same hB6)
              have HB6 := Lib.hid (HB5.out.trans (hB6.mono HB5.out.size))
              clear hB6
              go_wp2
              go_meet
              exact ⟨rfl, HX6.out, HB6.out⟩
            by_cases e2 : (N : Int) < came
            · have HZ := Lib.hid (cnt_out HR.out (x := came) (Or.inr (by rw [← HN.out]; exact e2)))
              have HCZ := Lib.hid (HCO.out came w5 HT5.out)
              rw [← HN.out] at HCZ
              go_wp2_with fail
              clear c0 c1 c2 c3 gs
              refine HCZ.out.mono ?_
              rintro e w6 ⟨rfl, hB6⟩
              rw [HZ.out]
              have HX6 := Lib.hid (HX5.out.same hB6)
              have HB6 := Lib.hid (HB5.out.trans (hB6.mono HB5.out.size))
              clear hB6
              go_wp2
              go_meet
              exact ⟨rfl, HX6.out, HB6.out⟩
            · go_wp2
              go_meet
              exact ⟨rfl, HX5.out, HB5.out⟩
          case rest =>
            obtain ⟨rfl, hxz, hbz⟩ := hcut
            have HXZ := Lib.hid hxz; have HBZ := Lib.hid hbz
            have HTZ := Lib.hid (HT.out.same hbz)
            clear hxz hbz c0 c1 c2 c3 HX4 HT4 HB4 HBY HBX HBS HT3 HX3
            obtain ⟨c0, c1, c2, c3⟩ := HXZ.out.c
            by_cases h0 : h.m = 0
            · have g1 : ((h.m : Int) == 0) = true := by simp [h0]
              have HS0 := Lib.hid (show s = 0 by rw [HS.out, sumN_yes HR.out, h0]; rfl)
              have g2 : (s == 0) = true := by simp [HS0.out]
              clear h0
              go_wp2
              go_ret
              exact ⟨rfl, HBZ.out⟩
            have g1 : ((h.m : Int) == 0) = false := by simp [h0]
            obtain ⟨k, hk⟩ : ∃ k, h.m = k + 1 := ⟨h.m - 1, by omega⟩
            have HK := Lib.hid hk
            have HCP := Lib.hid (copyNote_any h a c (by have := HBIG.out; omega) wc HTZ.out HNIL.out)
            unfold nV at HCP
            clear h0 hk
            go_wp2_with fail
            clear c0 c1 c2 c3 g1
            refine HCP.out.mono ?_
            rintro e w6 ⟨a', c', rfl, ho, hB6⟩
            have HO6 := Lib.hid ho; have HB6 := Lib.hid (HBZ.out.trans (hB6.mono HBZ.out.size))
            have HCAP := Lib.hid (hdl_cap ho)
            clear ho hB6 HCP
            go_upto_region 22 with fail
            obtain ⟨w7, hw7⟩ : ∃ w7, w7 = w6.alloc (.cells #[.int .i64 h.S, .int .i64 h.Q, .int .i64 h.N, .slice a' h.m c'] 24) := ⟨_, rfl⟩
            rw [← hw7]
            have hb7 : Below w6.heap.size w6 w7 := by rw [hw7]; exact (Below.refl _ w6).alloc (Nat.le_refl _) _
            have HY7 := Lib.hid (show NAt w7 w6.heap.size h a' c' by rw [hw7]; exact heap_alloc_new _ _)
            have HO7 := Lib.hid (own_be HO6.out hb7)
            have HB7 := Lib.hid (HB6.out.trans (hb7.mono HB6.out.size))
            have HT7 := Lib.hid (tdl_tb HO7.out).1
            have HLO := Lib.hid (show w.heap.size ≤ w6.heap.size from HB6.out.size)
            obtain ⟨gl, hgl⟩ : ∃ gl, gl = w6.heap.size := ⟨_, rfl⟩
            rw [← hgl] at HY7 HLO ⊢
            have HGLT := Lib.hid (show gl < w7.heap.size from HY7.out.lt)
            clear hw7 hb7 HO6 HB6 hgl
            obtain ⟨b, o, ea, d0, d1⟩ := HT7.out.cell k (by have := HK.out; omega)
            subst ea
            obtain ⟨y, hy⟩ : ∃ y, y = h.T k := ⟨_, rfl⟩
            obtain ⟨x, hx⟩ : ∃ x, x = h.C k := ⟨_, rfl⟩
            rw [← hy] at d1
            rw [← hx] at d0
            have HYY := Lib.hid hy
            have k1 : (h.m : Int) - 1 = (k : Int) := by have := HK.out; omega
            have k2 : (k : Int) < (h.m : Int) := by omega
            have k3 : k ≤ c' := by have := HCAP.out; have := HK.out; omega
            obtain ⟨e0, e1, e2, e3⟩ := HY7.out.c
            clear hx hy
            go_upto_region 23 with fail
            obtain ⟨w8, hw8⟩ : ∃ w8, w8 = w7.alloc (.cells #[.int .i64 x, .int .i64 y] 41) := ⟨_, rfl⟩
            rw [← hw8]
            have hb8 : Below w7.heap.size w7 w8 := by rw [hw8]; exact (Below.refl _ w7).alloc (Nat.le_refl _) _
            have HZ8 := Lib.hid (show ZAt w8 w7.heap.size x y by rw [hw8]; exact heap_alloc_new _ _)
            have HY8 := Lib.hid (HY7.out.same hb8)
            have HT8 := Lib.hid (HT7.out.same hb8)
            have HB8 := Lib.hid (HB7.out.trans (hb8.mono HB7.out.size))
            have HNE := Lib.hid (show w7.heap.size ≠ gl by have := HGLT.out; omega)
            have HOB := Lib.hid (show b ≠ gl from fun e => by
              rcases HO7.out.2 with ⟨q, _⟩ | ⟨g9, cap9, cur9, q, _, hgb, _⟩
              · cases q
              · cases q
                rw [e] at hgb
                have h9 := hgb.symm.trans HY7.out
                simp only [Option.some.injEq, Obj.cells.injEq] at h9
                exact absurd h9.2.1 (by decide))
            generalize w7.heap.size = gz at *
            clear hw8 hb8 d0 d1 e0 e1 e2 e3 HY7 HT7 HB7 HO7
            obtain ⟨e0, e1, e2, e3⟩ := HY8.out.c
            have f3 := HY8.out.free 3
            go_upto_region 24 with fail
            obtain ⟨w9, hw9⟩ : ∃ w9, w9 = w8.setCell ⟨gl, 3, none⟩ (.slice (some ⟨b, o, none⟩) k c') := ⟨_, rfl⟩
            rw [← hw9]
            have HY9 := Lib.hid (show NAt w9 gl ⟨h.S, h.Q, h.N, k, h.C, h.T⟩ (some ⟨b, o, none⟩) c' by rw [hw9]; exact HY8.out.s3 _ _ _ _ _)
            have HZ9 := Lib.hid (show ZAt w9 gz x y by rw [hw9]; exact (heap_setCell_other w8 ⟨gl, 3, none⟩ gz _ (by first | exact HNE.out | exact fun e => HNE.out e.symm)).trans HZ8.out)
            have HT9 := Lib.hid (show Tb w9 (some ⟨b, o, none⟩) k h.C h.T by rw [hw9]; exact (tb_other HT8.out fun b' o' e => heap_setCell_other w8 ⟨gl, 3, none⟩ b' _ (by cases e; first | exact HOB.out | exact fun e => HOB.out e.symm)).less (by have := HK.out; omega))
            have HB9 := Lib.hid (show Below w.heap.size w w9 by rw [hw9]; exact HB8.out.setCell (by have := HLO.out; show w.heap.size ≤ gl; omega) _)
            clear hw9 e0 e1 e2 e3 f3 k1 k2 k3 HY8 HZ8 HT8 HB8 HNE HOB
            have hsl := sum_less HR.out HK.out
            obtain ⟨sl, hsl0⟩ : ∃ sl, sl = sumN ⟨h.S, h.Q, h.N, k, h.C, h.T⟩ := ⟨_, rfl⟩
            have HCL := Lib.hid (show ∀ W, Below w9.heap.size w9 W → Calls Try.prog 15 #[.agg #[.int .i64 h.S, .int .i64 h.Q, .int .i64 h.N, .slice (some ⟨b, o, none⟩) k c']] W fun e w' => e = .returned (.int .i64 sl) ∧ Below W.heap.size W w' from fun W hW => by
              have hh := psum_any ⟨h.S, h.Q, h.N, k, h.C, h.T⟩ (some ⟨b, o, none⟩) c' (by have := HK.out; have := HM5.out; show k ≤ _; omega) W (HT9.out.same hW)
              unfold nV at hh
              rw [← hsl0] at hh
              exact hh)
            rw [← hsl0, ← HYY.out, ← HS.out] at hsl
            have hb := HP.out (N : Int)
            rw [psm_all h.m (fun i hi => by have := (HR.out.2.2.2 i hi).2.1; have := HN.out; omega), ← sumN_yes HR.out, ← HS.out] at hb
            obtain ⟨hb1, hb2⟩ := hb
            have hb3 : s ≤ 16711425 := by have := HM5.out; omega
            have g5 : (sl + y == s) = true := by rw [hsl]; simp
            have hb4 : -9223372036854775808 ≤ sl + y := by omega
            have hb5 : sl + y ≤ 9223372036854775807 := by omega
            obtain ⟨e0, e1, e2, e3⟩ : w9.cell? ⟨gl, 0, none⟩ = some (.int .i64 h.S) ∧ w9.cell? ⟨gl, 1, none⟩ = some (.int .i64 h.Q) ∧ w9.cell? ⟨gl, 2, none⟩ = some (.int .i64 h.N) ∧ w9.cell? ⟨gl, 3, none⟩ = some (.slice (some ⟨b, o, none⟩) k c') := HY9.out.c
            have z1 := HZ9.out.c.2
            have ye0 := fun d os => cell_regrown e0 d os
            have ye1 := fun d os => cell_regrown e1 d os
            have ye2 := fun d os => cell_regrown e2 d os
            have ye3 := fun d os => cell_regrown e3 d os
            have yz1 := fun d os => cell_regrown z1 d os
            clear hsl0 HY9 HZ9 HT9 HT
            refine wp_region_quiet_below (by kernel_rfl) (by kernel_rfl) ?_
            repeat (go_big_quiet_step ((go_at_call 15; exact Calls.regrown_of (HCL.out _ (below_regrown _ _ _)))))
            refine wpQuiet_nil ?_
            rintro w10 ⟨pq, hW10⟩
            have hB10 : Below w9.heap.size w9 w10 := by rw [hW10]; exact below_regrown _ _ _
            have HB10 := Lib.hid (HB9.out.trans (hB10.mono HB9.out.size))
            clear hW10 hB10 ye0 ye1 ye2 ye3 yz1 e0 e1 e2 e3 z1
            go_wp2
            go_ret
            exact ⟨rfl, HB10.out⟩
end Go.Proofs.Ytjlmajopfeplpaa.Nt
