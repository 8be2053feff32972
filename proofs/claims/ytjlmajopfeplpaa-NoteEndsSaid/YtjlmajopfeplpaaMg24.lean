import Derived.Lib.QuietBelow
import Derived.BigFrame
import Derived.Test.YtjlmajopfeplpaaMg20
import Derived.Test.YtjlmajopfeplpaaMg23
namespace Go.Proofs.Ytjlmajopfeplpaa.Nt
open Go.RowKit Go.Shelf
attribute [local go_sem] Oper.semAt_some

theorem nt_congr {f g : Nat → Nat} {M : Nat} (h : ∀ i, i < 9 + 3 * M → f i = g i) (hm : g 8 = M) : EN (nt f) (nt g) := by
  have e9 : f 8 = g 8 := h 8 (by omega)
  refine ⟨?_, ?_, ?_, e9, fun i hi => ?_⟩
  · show ((vn (fun j => f (1 + j)) 2 : Nat) : Int) = (vn (fun j => g (1 + j)) 2 : Nat)
    rw [vn_congr 2 fun j hj => h (1 + j) (by omega)]
  · show ((vn (fun j => f (3 + j)) 4 : Nat) : Int) = (vn (fun j => g (3 + j)) 4 : Nat)
    rw [vn_congr 4 fun j hj => h (3 + j) (by omega)]
  · show ((f 7 : Nat) : Int) = (g 7 : Nat)
    rw [h 7 (by omega)]
  · have hi : i < f 8 := hi
    constructor
    · show ((f (9 + 3 * i) : Nat) : Int) = (g (9 + 3 * i) : Nat)
      rw [h (9 + 3 * i) (by omega)]
    · show ((vn (fun j => f (10 + 3 * i + j)) 2 : Nat) : Int) = (vn (fun j => g (10 + 3 * i + j)) 2 : Nat)
      rw [vn_congr 2 fun j hj => h (10 + 3 * i + j) (by omega)]
/-- what is put is a datagram. -/
theorem put_good {h : Mn} (hr : RN h) :
    EN (nt (Crc.sealed (pl h) (9 + 3 * h.m))) h ∧ Crc.sealed (pl h) (9 + 3 * h.m) 8 = h.m ∧ GoodP (9 + 3 * h.m) (Crc.sealed (pl h) (9 + 3 * h.m)) ∧ perr (9 + 3 * h.m + 4) (Crc.sealed (pl h) (9 + 3 * h.m)) = 0 := by
  have hm := rn_few hr
  have hp8 : pl h 8 = h.m := by
    show h.m % 256 = _; omega
  have hlo : ∀ i, i < 9 + 3 * h.m → Crc.sealed (pl h) (9 + 3 * h.m) i = pl h i := fun i hi => Crc.sealed_lo hi
  have h8 : Crc.sealed (pl h) (9 + 3 * h.m) 8 = h.m := by rw [hlo 8 (by omega), hp8]
  have he : EN (nt (Crc.sealed (pl h) (9 + 3 * h.m))) h := (nt_congr (M := h.m) (fun i hi => hlo i (by omega)) hp8).trans (nt_pl hr)
  have hg : GoodP (9 + 3 * h.m) (Crc.sealed (pl h) (9 + 3 * h.m)) := ⟨by rw [h8], rn_congr he.symm hr⟩
  refine ⟨he, h8, hg, ?_⟩
  unfold perr
  rw [if_neg (by omega), Nat.add_sub_cancel]
  have hok : okB (Crc.sealed (pl h) (9 + 3 * h.m)) (9 + 3 * h.m) = true := sealed_ok _
  rw [hok, if_neg (by decide), if_neg (by omega), if_neg (by rw [hlo 0 (by omega)]; exact fun q => q rfl), if_pos hg]
theorem ParSays.put {w w' : World} {h : Mn} (hr : RN h) {e : Ending} (hp : ParSays w (9 + 3 * h.m + 4) (Crc.sealed (pl h) (9 + 3 * h.m)) e w') :
    ∃ a c, e = .returned (.tuple #[nV h a c, .int .i64 0]) ∧ w'.ownsRow w.heap.size 41 2 (.slice a h.m c) h.m (tdl h.C h.T h.m) := by
  obtain ⟨he, h8, hg, hpe⟩ := put_good hr
  rcases hp with ⟨h0, _⟩ | ⟨_, a, c, he2, ho⟩
  · exact absurd hpe h0
  · rw [nV_eq he] at he2
    rw [h8, tdl_congr h.m (fun i hi => he.2.2.2.2 i (by rw [he.2.2.2.1]; exact hi))] at ho
    exact ⟨a, c, he2, ho⟩
/-- the chapter's example. -/
def n0 : Mn := ⟨1, 2, 3, 2, fun i => if i = 0 then 2 else 3, fun i => if i = 0 then 1 else 5⟩
theorem n0_right : RN n0 := by
  unfold RN CtsOk CtOk n0
  refine ⟨by decide, by decide, by decide, fun i hi => ?_⟩
  have hi : i < 2 := hi
  rcases (show i = 0 ∨ i = 1 by omega) with rfl | rfl
  · exact ⟨by show (1 : Int) ≤ 2; decide, by show (2 : Int) ≤ 3; decide, by show (1 : Int) ≤ 1; decide, by show (1 : Int) ≤ 65535; decide, fun q => absurd q (by omega)⟩
  · exact ⟨by show (1 : Int) ≤ 3; decide, by show (3 : Int) ≤ 3; decide, by show (1 : Int) ≤ 5; decide, by show (5 : Int) ≤ 65535; decide, fun _ => by show (2 : Int) < 3; decide⟩
def lit15 : List Nat := [2, 0, 1, 0, 0, 0, 2, 3, 2, 2, 0, 1, 3, 0, 5]
theorem n0_bytes : sub (Crc.sealed (pl n0) 15) 0 15 = fun i => lit15.getD i 0 := funext fun i => by
  by_cases hi : i < 15
  · unfold sub
    rw [if_pos hi, Nat.zero_add, Crc.sealed_lo hi]
    revert hi
    revert i
    decide
  · unfold sub
    rw [if_neg hi, List.getD_eq_getElem?_getD, List.getElem?_eq_none (by show 15 ≤ i; omega)]
    rfl
set_option maxHeartbeats 4000000 in
set_option maxRecDepth 100000 in
theorem awake15_any (w : World) :
    Calls Try.prog 8 #[] w fun e w' => e = .returned (.bool true) ∧ Below w.heap.size w w' := by
  obtain ⟨w1, hw1⟩ : ∃ w1, w1 = w.alloc (.cells #[.int .i64 2, .int .i64 1, .int .i64 3, .int .i64 5] 41) := ⟨_, rfl⟩
  obtain ⟨w2, hw2⟩ : ∃ w2, w2 = w1.alloc (.cells #[.int .i64 1, .int .i64 2, .int .i64 3, .slice (some ⟨w.heap.size, 0, none⟩) 2 2] 24) := ⟨_, rfl⟩
  have hz1 : w1.heap.size = w.heap.size + 1 := by rw [hw1, World.size_alloc]
  have hb1 : Below w.heap.size w w1 := by rw [hw1]; exact (Below.refl _ w).alloc (Nat.le_refl _) _
  have hb2 : Below w1.heap.size w1 w2 := by rw [hw2]; exact (Below.refl _ w1).alloc (Nat.le_refl _) _
  have hr1 : w1.heap[w.heap.size]? = some (.cells #[.int .i64 2, .int .i64 1, .int .i64 3, .int .i64 5] 41 (0, 0)) := by rw [hw1]; exact heap_alloc_new _ _
  have hr2 := (hb2.block _ (by omega : w.heap.size < w1.heap.size)).trans hr1
  have HT2 := Lib.hid (show Tb w2 (some ⟨w.heap.size, 0, none⟩) n0.m n0.C n0.T from ⟨fun i hi => ⟨w.heap.size, 0, rfl, by
    have hi : i < 2 := hi
    rcases (show i = 0 ∨ i = 1 by omega) with rfl | rfl
    · exact ⟨by rw [cell_of_row _ _ _ _ _ _ hr2]; rfl, by rw [cell_of_row _ _ _ _ _ _ hr2]; rfl⟩
    · exact ⟨by rw [cell_of_row _ _ _ _ _ _ hr2]; rfl, by rw [cell_of_row _ _ _ _ _ _ hr2]; rfl⟩⟩⟩)
  have HX2 := Lib.hid (show NAt w2 (w.heap.size + 1) n0 (some ⟨w.heap.size, 0, none⟩) 2 by rw [hw2, ← hz1]; exact heap_alloc_new _ _)
  have HB2 := Lib.hid (hb1.trans (hb2.mono hb1.size))
  have HW := Lib.hid (show w2 = (w.alloc (.cells #[.int .i64 2, .int .i64 1, .int .i64 3, .int .i64 5] 41)).alloc (.cells #[.int .i64 1, .int .i64 2, .int .i64 3, .slice (some ⟨w.heap.size, 0, none⟩) 2 2] 24) by rw [hw2, hw1])
  clear hw1 hw2 hz1 hb1 hb2 hr1 hr2
  go_enter Try.func8, Try.ntmps8
  go_upto_region 2 with fail
  rw [← HW.out]
  obtain ⟨wg, hwg⟩ : ∃ wg, wg = w.heap.size := ⟨_, rfl⟩
  rw [← hwg] at HT2 HX2 ⊢
  clear HW hwg
  obtain ⟨c0, c1, c2, c3⟩ := HX2.out.c
  have HP := Lib.hid (pput_any n0 (some ⟨wg, 0, none⟩) 2 (by decide) w2 HT2.out)
  unfold nV at HP
  go_wp2_with fail
  clear c0 c1 c2 c3
  refine HP.out.mono ?_
  rintro e w3 ⟨hput, hB3⟩
  have HX3 := Lib.hid (HX2.out.same hB3)
  have HT3 := Lib.hid (HT2.out.same hB3)
  have HB3 := Lib.hid (HB2.out.trans (hB3.mono HB2.out.size))
  rcases hput with ⟨hq1, g, C, he, hg, hC, hbl⟩ | ⟨hno, _⟩
  rotate_left
  · exact absurd n0_right hno
  have HSL := Lib.hid (show Sl w3 (some ⟨g, 0, none⟩) 19 19 (Crc.sealed (pl n0) 15) from hbl.sl2 (Nat.le_refl _) (by unfold maxLen; decide) (sealed_bytes (pl_by _) _) (sealed_upto _ _))
  obtain rfl : e = .returned (.tuple #[.slice (some ⟨g, 0, none⟩) 19 19, .int .i64 0]) := he
  clear hq1 hg hC hbl hB3 HP HX2 HT2 HB2
  go_wp2_with fail
  refine (pparse_any (some ⟨g, 0, none⟩) 19 19 _ (by decide) w3 HSL.out).mono ?_
  rintro e w4 ⟨hpar, hB4⟩
  obtain ⟨a, c, rfl, ho⟩ := ParSays.put n0_right hpar
  have HX4 := Lib.hid (HX3.out.same hB4)
  have HT4 := Lib.hid (HT3.out.same hB4)
  have HS4 := Lib.hid (HSL.out.same hB4)
  have HB4 := Lib.hid (HB3.out.trans (hB4.mono HB3.out.size))
  have HO := Lib.hid (tdl_tb ho).1
  clear hpar hB4 ho HX3 HT3 HSL HB3
  unfold nV
  go_upto_region 4 with fail
  obtain ⟨w5, hw5⟩ : ∃ w5, w5 = w4.alloc (.cells #[.int .i64 n0.S, .int .i64 n0.Q, .int .i64 n0.N, .slice a n0.m c] 24) := ⟨_, rfl⟩
  rw [← hw5]
  have hb5 : Below w4.heap.size w4 w5 := by rw [hw5]; exact (Below.refl _ w4).alloc (Nat.le_refl _) _
  have HY5 := Lib.hid (show NAt w5 w4.heap.size n0 a c by rw [hw5]; exact heap_alloc_new _ _)
  have HX5 := Lib.hid (HX4.out.same hb5)
  have HT5 := Lib.hid (HT4.out.same hb5)
  have HS5 := Lib.hid (HS4.out.same hb5)
  have HO5 := Lib.hid (HO.out.same hb5)
  have HB5 := Lib.hid (HB4.out.trans (hb5.mono HB4.out.size))
  generalize w4.heap.size = w4s at *
  clear hw5 hb5 HX4 HT4 HS4 HO HB4
  go_wp2_with fail
  obtain ⟨wA, hwA⟩ : ∃ wA, wA = w5.alloc (.cells #[.int .u8 2, .int .u8 0, .int .u8 1, .int .u8 0, .int .u8 0, .int .u8 0, .int .u8 2, .int .u8 3, .int .u8 2, .int .u8 2, .int .u8 0, .int .u8 1, .int .u8 3, .int .u8 0, .int .u8 5] 5) := ⟨_, rfl⟩
  have HLA := Lib.hid (show Sl wA (some ⟨w5.heap.size, 0, none⟩) 15 15 (fun i => lit15.getD i 0) by rw [hwA]; exact sl_lit w5 lit15 (by decide) (by decide))
  have hbA : Below w5.heap.size w5 wA := by rw [hwA]; exact (Below.refl _ w5).alloc (Nat.le_refl _) _
  have HSA := Lib.hid (show Sl wA (some ⟨g, 0, none⟩) 15 19 (fun i => lit15.getD i 0) by rw [← n0_bytes]; exact sl_lo (HS5.out.same hbA) (by decide))
  have HSM := Lib.hid (same_any (some ⟨g, 0, none⟩) (some ⟨w5.heap.size, 0, none⟩) 15 19 15 _ (by decide) wA HSA.out HLA.out)
  rw [← hwA]
  have HBA := Lib.hid hbA
  clear hwA hbA HSA HLA
  refine HSM.out.mono ?_
  rintro e w6 ⟨rfl, q6, hq6⟩
  have hb6 : Below w5.heap.size w5 w6 := HBA.out.trans ((show Below wA.heap.size wA w6 by rw [hq6]; exact below_dr (Below.refl _ _) q6).mono HBA.out.size)
  have HY6 := Lib.hid (HY5.out.same hb6)
  have HX6 := Lib.hid (HX5.out.same hb6)
  have HT6 := Lib.hid (HT5.out.same hb6)
  have HO6 := Lib.hid (HO5.out.same hb6)
  have HB6 := Lib.hid (HB5.out.trans (hb6.mono HB5.out.size))
  clear hb6 hq6 HSM HBA HY5 HX5 HT5 HO5 HB5 HS5
  obtain ⟨c0, c1, c2, c3⟩ := HX6.out.c
  obtain ⟨d0, d1, d2, d3⟩ := HY6.out.c
  have HSH := Lib.hid (sameNote_any n0 n0 a (some ⟨wg, 0, none⟩) c 2 (by decide) (by decide) w6 HO6.out HT6.out)
  unfold nV at HSH
  go_wp2_with fail
  clear c0 c1 c2 c3 d0 d1 d2 d3
  refine HSH.out.mono ?_
  rintro e w7 ⟨⟨v, rfl, hv⟩, hB7⟩
  obtain rfl : v = true := hv.2 (EN.refl _)
  have HB7 := Lib.hid (HB6.out.trans (hB7.mono HB6.out.size))
  clear hv hB7 HSH HY6 HX6 HT6 HO6 HB6
  go_wp2
  go_ret
  exact ⟨rfl, HB7.out⟩
end Go.Proofs.Ytjlmajopfeplpaa.Nt

namespace Go.Proofs.Ytjlmajopfeplpaa.Nt
open Go.RowKit Go.Shelf
attribute [local go_sem] Oper.semAt_some

/-- what Parse tells, as a report. -/
noncomputable def pH (n : Nat) (f : Nat → Nat) : Mn := if perr n f = 0 then nt f else nz
theorem pH_m (n : Nat) {f : Nat → Nat} (hb : Pf.By f) : (pH n f).m < 256 := by
  unfold pH; split
  · exact hb 8
  · decide
theorem ParSays.out {w w' : World} {n : Nat} {f : Nat → Nat} {e : Ending} (h : ParSays w n f e w') :
    ∃ a c, e = .returned (.tuple #[nV (pH n f) a c, .int .i64 (perr n f)]) ∧ Tb w' a (pH n f).m (pH n f).C (pH n f).T := by
  rcases h with ⟨h0, he⟩ | ⟨h0, a, c, he, ho⟩
  · refine ⟨none, 0, ?_, ?_⟩
    · unfold pH; rw [if_neg h0, he]; rfl
    · unfold pH; rw [if_neg h0]; exact ⟨fun i hi => absurd hi (Nat.not_lt_zero i)⟩
  · refine ⟨a, c, ?_, ?_⟩
    · unfold pH; rw [if_pos h0, he, h0]
    · unfold pH; rw [if_pos h0]; exact (tdl_tb ho).1
set_option maxHeartbeats 4000000 in
set_option maxRecDepth 100000 in
theorem parses_any (a : Option Addr) (n c : Nat) (f : Nat → Nat) (hn : n ≤ 100000) (w : World) (hS : Sl w a n c f) :
    Calls Try.prog 20 #[.slice a n c] w fun e w' => e = .returned (.bool true) ∧ Below w.heap.size w w' := by
  obtain ⟨H, hH⟩ : ∃ H, H = pH n f := ⟨_, rfl⟩
  obtain ⟨er, her⟩ : ∃ er, er = perr n f := ⟨_, rfl⟩
  have HHM := Lib.hid (show H.m < 256 by rw [hH]; exact pH_m n hS.bytes)
  have HPP := Lib.hid (fun g W (hW : Sl W (some ⟨g, 0, none⟩) n (n + 12) f) => (pparse_any (some ⟨g, 0, none⟩) n (n + 12) f (by omega) W hW).mono (R' := fun e w' => (∃ a c, e = .returned (.tuple #[nV H a c, .int .i64 er]) ∧ Tb w' a H.m H.C H.T) ∧ Below W.heap.size W w') (fun e w' ⟨h, hB⟩ => ⟨by rw [hH, her]; exact h.out, hB⟩))
  have HRP := Lib.hid (fun W (hW : Sl W a n c f) => (rparse_any a n c f (by omega) W hW).mono (R' := fun e w' => (∃ a c, e = .returned (.tuple #[nV H a c, .int .i64 er]) ∧ Tb w' a H.m H.C H.T) ∧ Below W.heap.size W w') (fun e w' ⟨h, hB⟩ => ⟨by rw [hH, her]; exact h.out, hB⟩))
  have HS := Lib.hid hS; have HN := Lib.hid hn
  clear hH her hS hn
  have hee : (er == er) = true := by simp
  go_enter Try.func20, Try.ntmps20
  go_wp2_with fail
  refine (lentS_any a n c f w HS.out (by have := HN.out; omega)).mono ?_
  rintro e w1 ⟨rfl, hbk, hB1⟩
  obtain ⟨I, hI⟩ : ∃ I, I = w.heap.size := ⟨_, rfl⟩
  rw [← hI] at hbk ⊢
  have HBK1 := Lib.hid hbk; have HB1 := Lib.hid hB1
  have HSI := Lib.hid ((hbk.nw (Nat.zero_le _) HS.out.bytes HS.out.up (by have := HN.out; omega)).sl)
  clear hI hbk hB1
  go_wp2_with fail
  refine (HPP.out I w1 HSI.out).mono ?_
  rintro e w2 ⟨⟨ha, hc, rfl, hT⟩, hB2⟩
  have HT2 := Lib.hid hT
  have HBK2 := Lib.hid (hB2.block _ (Array.getElem?_eq_some_iff.1 HBK1.out).1 |>.trans HBK1.out)
  have HB2 := Lib.hid (HB1.out.trans (hB2.mono HB1.out.size))
  clear hT hB2 HPP
  unfold nV
  go_upto_region 3 with fail
  obtain ⟨w3, hw3⟩ : ∃ w3, w3 = w2.alloc (.cells #[.int .i64 H.S, .int .i64 H.Q, .int .i64 H.N, .slice ha H.m hc] 24) := ⟨_, rfl⟩
  rw [← hw3]
  have hb3 : Below w2.heap.size w2 w3 := by rw [hw3]; exact (Below.refl _ w2).alloc (Nat.le_refl _) _
  have HX3 := Lib.hid (show NAt w3 w2.heap.size H ha hc by rw [hw3]; exact heap_alloc_new _ _)
  have HT3 := Lib.hid (HT2.out.same hb3)
  have HBK3 := Lib.hid (hb3.block _ (Array.getElem?_eq_some_iff.1 HBK2.out).1 |>.trans HBK2.out)
  have HB3 := Lib.hid (HB2.out.trans (hb3.mono HB2.out.size))
  generalize w2.heap.size = w2s at *
  clear hw3 hb3 HT2 HBK2 HB2
  go_wp2_with fail
  refine (HRP.out w3 (HS.out.same HB3.out)).mono ?_
  rintro e w4 ⟨⟨ka, kc, rfl, hT⟩, hB4⟩
  have HU4 := Lib.hid hT
  have HX4 := Lib.hid (HX3.out.same hB4)
  have HT4 := Lib.hid (HT3.out.same hB4)
  have HBK4 := Lib.hid (hB4.block _ (Array.getElem?_eq_some_iff.1 HBK3.out).1 |>.trans HBK3.out)
  have HB4 := Lib.hid (HB3.out.trans (hB4.mono HB3.out.size))
  clear hT hB4 HX3 HT3 HBK3 HB3 HRP
  unfold nV
  go_upto_region 4 with fail
  obtain ⟨w5, hw5⟩ : ∃ w5, w5 = w4.alloc (.cells #[.int .i64 H.S, .int .i64 H.Q, .int .i64 H.N, .slice ka H.m kc] 24) := ⟨_, rfl⟩
  rw [← hw5]
  have hb5 : Below w4.heap.size w4 w5 := by rw [hw5]; exact (Below.refl _ w4).alloc (Nat.le_refl _) _
  have HY5 := Lib.hid (show NAt w5 w4.heap.size H ka kc by rw [hw5]; exact heap_alloc_new _ _)
  have HX5 := Lib.hid (HX4.out.same hb5)
  have HT5 := Lib.hid (HT4.out.same hb5)
  have HU5 := Lib.hid (HU4.out.same hb5)
  have HBK5 := Lib.hid (hb5.block _ (Array.getElem?_eq_some_iff.1 HBK4.out).1 |>.trans HBK4.out)
  have HB5 := Lib.hid (HB4.out.trans (hb5.mono HB4.out.size))
  generalize w4.heap.size = w4s at *
  clear hw5 hb5 HX4 HT4 HU4 HBK4 HB4
  obtain ⟨c0, c1, c2, c3⟩ := HX5.out.c
  obtain ⟨d0, d1, d2, d3⟩ := HY5.out.c
  have HSH := Lib.hid (sameNote_any H H ha ka hc kc (by have := HHM.out; omega) (by have := HHM.out; omega) w5 HT5.out HU5.out)
  unfold nV at HSH
  go_wp2_with fail
  clear c0 c1 c2 c3 d0 d1 d2 d3
  refine HSH.out.mono ?_
  rintro e w6 ⟨⟨v, rfl, hv⟩, hB6⟩
  obtain rfl : v = true := hv.2 (EN.refl H)
  have HBK6 := Lib.hid (hB6.block _ (Array.getElem?_eq_some_iff.1 HBK5.out).1 |>.trans HBK5.out)
  have HB6 := Lib.hid (HB5.out.trans (hB6.mono HB5.out.size))
  clear hv hB6 HSH HX5 HY5 HT5 HU5 HBK5 HB5
  go_wp2_with fail
  refine (keptS_any I a n c f w6 (HS.out.same HB6.out) HBK6.out (by have := HN.out; omega)).mono ?_
  rintro e w8 ⟨rfl, q8, hq8⟩
  have HB8 := Lib.hid (HB6.out.trans ((show Below w6.heap.size w6 w8 by rw [hq8]; exact below_dr (Below.refl _ _) q8).mono HB6.out.size))
  clear hq8 HBK6 HB6
  go_wp2
  go_ret
  exact ⟨rfl, HB8.out⟩
set_option maxHeartbeats 2000000 in
theorem noteParses_any (a : Option Addr) (n c : Nat) (f : Nat → Nat) (w : World) (hS : Sl w a n c f) :
    Calls Try.prog 4 #[.slice a n c] w fun e w' => e = .returned (.bool true) ∧ Below w.heap.size w w' := by
  have HS := Lib.hid hS
  clear hS
  go_enter Try.func4, Try.ntmps4
  by_cases hbig : n ≤ 5000
  rotate_left
  · have j1 : (5000 : Int) < (n : Int) := by omega
    go_wp2_with fail
    refine (awake15_any w).mono ?_
    rintro e w1 ⟨rfl, hB1⟩
    have HB1 := Lib.hid hB1
    clear hB1
    go_wp2
    go_ret
    exact ⟨rfl, HB1.out⟩
  have j1 : ¬ (5000 : Int) < (n : Int) := by omega
  have HN := Lib.hid hbig
  clear hbig
  go_wp2_with fail
  clear j1
  refine (parses_any a n c f (by have := HN.out; omega) w HS.out).mono ?_
  rintro e w1 ⟨rfl, hB1⟩
  have HB1 := Lib.hid hB1
  clear hB1
  go_wp2_with fail
  refine (rseal_any a n c f (by have := HN.out; omega) w1 (HS.out.same HB1.out)).mono ?_
  rintro e w2 ⟨sa, sc, rfl, hN2, hB2⟩
  have HSL2 := Lib.hid hN2.sl; have HB2 := Lib.hid (HB1.out.trans (hB2.mono HB1.out.size))
  clear hN2 hB2 HB1
  go_wp2_with fail
  refine (parses_any sa (n + 4) sc _ (by have := HN.out; omega) w2 HSL2.out).mono ?_
  rintro e w3 ⟨rfl, hB3⟩
  have HB3 := Lib.hid (HB2.out.trans (hB3.mono HB2.out.size))
  clear hB3 HSL2 HB2
  go_wp2_with fail
  refine (awake15_any w3).mono ?_
  rintro e w4 ⟨rfl, hB4⟩
  have HB4 := Lib.hid (HB3.out.trans (hB4.mono HB3.out.size))
  clear hB4 HB3
  go_wp2
  go_ret
  exact ⟨rfl, HB4.out⟩
end Go.Proofs.Ytjlmajopfeplpaa.Nt

namespace Go.Proofs.Ytjlmajopfeplpaa.Nt
open Go.RowKit Go.Shelf
attribute [local go_sem] Oper.semAt_some

/-- both answers of Put, as far as bytes go. -/
theorem put_out (h : Mn) : ∃ (L : Nat) (er : Int) (F : Nat → Nat), L ≤ 800 ∧ (∀ w e w', PutGoes w h e w' → ∃ a c, e = .returned (.tuple #[.slice a L c, .int .i64 er]) ∧ Sl w' a L c F) ∧ (∀ w e w', PutSays w h e w' → ∃ a c, e = .returned (.tuple #[.slice a L c, .int .i64 er]) ∧ Sl w' a L c F) := by
  by_cases hr : RN h
  · have hm := rn_few hr
    refine ⟨9 + 3 * h.m + 4, 0, Crc.sealed (pl h) (9 + 3 * h.m), by omega, fun w e w' q => ?_, fun w e w' q => ?_⟩
    · rcases q with ⟨_, g, C, he, _, hC, hbl⟩ | ⟨hno, _⟩
      · exact ⟨_, _, he, hbl.sl2 (Nat.le_refl _) (by unfold maxLen; omega) (sealed_bytes (pl_by _) _) (sealed_upto _ _)⟩
      · exact absurd hr hno
    · rcases q with ⟨_, a, c, he, hN⟩ | ⟨hno, _⟩
      · exact ⟨a, c, he, hN.sl⟩
      · exact absurd hr hno
  · refine ⟨0, 2, fun _ => 0, by omega, fun w e w' q => ?_, fun w e w' q => ?_⟩
    · rcases q with ⟨h1, _⟩ | ⟨_, he⟩
      · exact absurd h1 hr
      · exact ⟨none, 0, he, Sl.none_ w' none 0 (Nat.zero_le _) (fun _ => rfl)⟩
    · rcases q with ⟨h1, _⟩ | ⟨_, he⟩
      · exact absurd h1 hr
      · exact ⟨none, 0, he, Sl.none_ w' none 0 (Nat.zero_le _) (fun _ => rfl)⟩
theorem bool_of (P : Prop) : ∃ v : Bool, v = true ↔ P := by
  by_cases h : P
  · exact ⟨true, fun _ => h, fun _ => rfl⟩
  · exact ⟨false, (fun e => by cases e), fun q => absurd q h⟩
theorem BoSays.is {P : Prop} {v : Bool} (hv : v = true ↔ P) {e : Ending} (h : BoSays P e) : e = .returned (.bool v) := by
  obtain ⟨u, he, hu⟩ := h
  rw [he]
  have : u = true ↔ v = true := hu.trans hv.symm
  cases u <;> cases v <;> simp_all
set_option maxHeartbeats 8000000 in
set_option maxRecDepth 100000 in
theorem notePuts_any (h : Mn) (a : Option Addr) (c : Nat) (came : Int) (hm : h.m ≤ 8796093022208) (hnil : a = none → h.m = 0 ∧ c = 0) (hc : h.m ≤ c) (w : World) (hT : Tb w a h.m h.C h.T) :
    Calls Try.prog 3 #[nV h a c, .int .i64 came] w fun e w' => e = .returned (.bool true) ∧ Below w.heap.size w w' := by
  obtain ⟨w0, hw0⟩ : ∃ w0, w0 = w.alloc (.cells #[.int .i64 h.S, .int .i64 h.Q, .int .i64 h.N, .slice a h.m c] 24) := ⟨_, rfl⟩
  have HX0 := Lib.hid (show NAt w0 w.heap.size h a c by rw [hw0]; exact heap_alloc_new _ _)
  have HB0 := Lib.hid (show Below w.heap.size w w0 by rw [hw0]; exact (Below.refl _ w).alloc (Nat.le_refl _) _)
  have HT := Lib.hid hT; have HW0 := Lib.hid hw0; have HNIL := Lib.hid hnil; have HCC := Lib.hid hc
  clear hT hw0 hnil hc
  obtain ⟨wg, hwg⟩ : ∃ wg, wg = w.heap.size := ⟨_, rfl⟩
  go_enter Try.func3, Try.ntmps3
  unfold nV
  go_upto_region 1 with fail
  rw [← HW0.out, ← hwg]
  rw [← hwg] at HX0
  clear HW0 hwg
  obtain ⟨c0, c1, c2, c3⟩ := HX0.out.c
  by_cases hbig : h.m ≤ 5000
  rotate_left
  · have j1 : (5000 : Int) < (h.m : Int) := by omega
    go_wp2_with fail
    clear c0 c1 c2 c3
    refine (awake15_any w0).mono ?_
    rintro e w1 ⟨rfl, hB1⟩
    have HB1 := Lib.hid (HB0.out.trans (hB1.mono HB0.out.size))
    clear hB1
    go_wp2
    go_ret
    exact ⟨rfl, HB1.out⟩
  have j1 : ¬ (5000 : Int) < (h.m : Int) := by omega
  have HM := Lib.hid hbig
  have HLN := Lib.hid (lentNote_any h a c HNIL.out (by omega) w0 (HT.out.same HB0.out))
  unfold nV at HLN
  clear hbig hm
  go_wp2_with fail
  clear c0 c1 c2 c3 j1
  refine HLN.out.mono ?_
  rintro e w1 ⟨x, hx, rfl, hG, hB1⟩
  have HG1 := Lib.hid hG; have HX1 := Lib.hid (HX0.out.same hB1); have HB1 := Lib.hid (HB0.out.trans (hB1.mono HB0.out.size))
  clear hx hG hB1 HLN HX0 HB0
  unfold nV
  go_upto_region 4 with fail
  obtain ⟨w2, hw2⟩ : ∃ w2, w2 = w1.alloc (.cells #[.int .i64 h.S, .int .i64 h.Q, .int .i64 h.N, .slice (some ⟨x, 0, none⟩) h.m (h.m + 12)] 24) := ⟨_, rfl⟩
  rw [← hw2]
  have hb2 : Below w1.heap.size w1 w2 := by rw [hw2]; exact (Below.refl _ w1).alloc (Nat.le_refl _) _
  have HY2 := Lib.hid (show NAt w2 w1.heap.size h (some ⟨x, 0, none⟩) (h.m + 12) by rw [hw2]; exact heap_alloc_new _ _)
  have HX2 := Lib.hid (HX1.out.same hb2); have HG2 := Lib.hid (HG1.out.same hb2); have HB2 := Lib.hid (HB1.out.trans (hb2.mono HB1.out.size))
  generalize w1.heap.size = q at *
  clear hw2 hb2 HX1 HG1 HB1
  obtain ⟨L, er, F, hL, hpp, hrp⟩ := put_out h
  have HL := Lib.hid hL
  obtain ⟨d0, d1, d2, d3⟩ := HY2.out.c
  have HPP := Lib.hid ((pput_any h (some ⟨x, 0, none⟩) (h.m + 12) (by have := HM.out; omega) w2 (Tb.orig HG2.out)).mono (R' := fun e w' => (∃ a c, e = .returned (.tuple #[.slice a L c, .int .i64 er]) ∧ Sl w' a L c F) ∧ Below w2.heap.size w2 w') (fun e w' ⟨h, hB⟩ => ⟨hpp _ _ _ h, hB⟩))
  unfold nV at HPP
  go_wp2_with fail
  clear d0 d1 d2 d3
  refine HPP.out.mono ?_
  rintro e w3 ⟨⟨pa, pc, rfl, hS3⟩, hB3⟩
  have HS3 := Lib.hid hS3
  have HX3 := Lib.hid (HX2.out.same hB3); have HY3 := Lib.hid (HY2.out.same hB3); have HG3 := Lib.hid (HG2.out.same hB3); have HB3 := Lib.hid (HB2.out.trans (hB3.mono HB2.out.size))
  clear hS3 hB3 HX2 HY2 HG2 HB2 HPP hpp
  obtain ⟨c0, c1, c2, c3⟩ := HX3.out.c
  have HRP := Lib.hid ((rput_any h a c (by have := HM.out; omega) w3 (HT.out.same HB3.out)).mono (R' := fun e w' => (∃ a c, e = .returned (.tuple #[.slice a L c, .int .i64 er]) ∧ Sl w' a L c F) ∧ Below w3.heap.size w3 w') (fun e w' ⟨h, hB⟩ => ⟨hrp _ _ _ h, hB⟩))
  unfold nV at HRP
  go_wp2_with fail
  clear c0 c1 c2 c3
  refine HRP.out.mono ?_
  rintro e w4 ⟨⟨ra, rc, rfl, hS4⟩, hB4⟩
  have HR4 := Lib.hid hS4; have HS4 := Lib.hid (HS3.out.same hB4)
  have HX4 := Lib.hid (HX3.out.same hB4); have HY4 := Lib.hid (HY3.out.same hB4); have HG4 := Lib.hid (HG3.out.same hB4); have HB4 := Lib.hid (HB3.out.trans (hB4.mono HB3.out.size))
  clear hS4 hB4 HX3 HY3 HG3 HB3 HS3 HRP hrp hL
  have HT4 := Lib.hid (HT.out.same HB4.out)
  obtain ⟨xr, hxr⟩ := bool_of (RN h)
  obtain ⟨su, hsu⟩ : ∃ su, su = sumN h := ⟨_, rfl⟩
  obtain ⟨cu, hcu⟩ : ∃ cu, cu = cntN h came := ⟨_, rfl⟩
  have HC1 := Lib.hid (fun W (hW : Below w4.heap.size w4 W) => (same_any pa ra L pc rc F (by have := HL.out; omega) W (HS4.out.same hW) (HR4.out.same hW)).mono (R' := fun e w' => e = .returned (.bool true) ∧ Below W.heap.size W w') (fun e w' ⟨h1, q, h2⟩ => ⟨h1, by rw [h2]; exact below_dr (Below.refl _ _) q⟩))
  have HC2 := Lib.hid (fun W (hW : Below w4.heap.size w4 W) => (pright_any h (some ⟨x, 0, none⟩) (h.m + 12) (by have := HM.out; omega) W (Tb.orig (HG4.out.same hW))).mono (R' := fun e w' => e = .returned (.bool xr) ∧ Below W.heap.size W w') (fun e w' ⟨h1, h2⟩ => ⟨h1.is hxr, h2⟩))
  have HC3 := Lib.hid (fun W (hW : Below w4.heap.size w4 W) => (rright_any h a c (by have := HM.out; omega) W (HT4.out.same hW)).mono (R' := fun e w' => e = .returned (.bool xr) ∧ Below W.heap.size W w') (fun e w' ⟨h1, h2⟩ => ⟨h1.is hxr, h2⟩))
  have HC4 := Lib.hid (fun W (hW : Below w4.heap.size w4 W) => (psum_any h (some ⟨x, 0, none⟩) (h.m + 12) (by have := HM.out; omega) W (Tb.orig (HG4.out.same hW))).mono (R' := fun e w' => e = .returned (.int .i64 su) ∧ Below W.heap.size W w') (fun e w' ⟨h1, h2⟩ => ⟨by rw [hsu]; exact h1, h2⟩))
  have HC5 := Lib.hid (fun W (hW : Below w4.heap.size w4 W) => (rsum_any h a c (by have := HM.out; omega) W (HT4.out.same hW)).mono (R' := fun e w' => e = .returned (.int .i64 su) ∧ Below W.heap.size W w') (fun e w' ⟨h1, h2⟩ => ⟨by rw [hsu]; exact h1, h2⟩))
  have HC6 := Lib.hid (fun W (hW : Below w4.heap.size w4 W) => (pcount_any h (some ⟨x, 0, none⟩) (h.m + 12) came (by have := HM.out; omega) W (Tb.orig (HG4.out.same hW))).mono (R' := fun e w' => e = .returned (.int .i64 cu) ∧ Below W.heap.size W w') (fun e w' ⟨h1, h2⟩ => ⟨by rw [hcu]; exact h1, h2⟩))
  have HC7 := Lib.hid (fun W (hW : Below w4.heap.size w4 W) => (rcount_any h a c came (by have := HM.out; omega) W (HT4.out.same hW)).mono (R' := fun e w' => e = .returned (.int .i64 cu) ∧ Below W.heap.size W w') (fun e w' ⟨h1, h2⟩ => ⟨by rw [hcu]; exact h1, h2⟩))
  have HKN := Lib.hid (fun W hT hG => keptNote_any h x a c HCC.out (by have := HM.out; omega) W hT hG)
  unfold nV at HC2 HC3 HC4 HC5 HC6 HC7 HKN
  clear hxr hsu hcu
  obtain ⟨c0, c1, c2, c3⟩ := HX4.out.c
  obtain ⟨d0, d1, d2, d3⟩ := HY4.out.c
  have yc0 := fun d os => cell_regrown c0 d os
  have yc1 := fun d os => cell_regrown c1 d os
  have yc2 := fun d os => cell_regrown c2 d os
  have yc3 := fun d os => cell_regrown c3 d os
  have yd0 := fun d os => cell_regrown d0 d os
  have yd1 := fun d os => cell_regrown d1 d os
  have yd2 := fun d os => cell_regrown d2 d os
  have yd3 := fun d os => cell_regrown d3 d os
  have ge : (er == er) = true := by simp
  have gr : (xr == xr) = true := by cases xr <;> rfl
  have gs : (su == su) = true := by simp
  have gc : (cu == cu) = true := by simp
  go_upto_region 6 with fail
  refine wp_region_quiet_below (by kernel_rfl) (by kernel_rfl) ?_
  repeat (go_big_quiet_step ((first | (go_at_call 12; exact Calls.regrown_of (HC1.out _ (below_regrown _ _ _))) | (go_at_call 13; exact Calls.regrown_of (HC2.out _ (below_regrown _ _ _))) | (go_at_call 14; exact Calls.regrown_of (HC3.out _ (below_regrown _ _ _))) | (go_at_call 15; exact Calls.regrown_of (HC4.out _ (below_regrown _ _ _))) | (go_at_call 16; exact Calls.regrown_of (HC5.out _ (below_regrown _ _ _))) | (go_at_call 17; exact Calls.regrown_of (HC6.out _ (below_regrown _ _ _))) | (go_at_call 18; exact Calls.regrown_of (HC7.out _ (below_regrown _ _ _))))))
  refine wpQuiet_nil ?_
  rintro w5 ⟨pq, hW5⟩
  have hB5 : Below w4.heap.size w4 w5 := by rw [hW5]; exact below_regrown _ _ _
  have HX5 := Lib.hid (HX4.out.same hB5); have HY5 := Lib.hid (HY4.out.same hB5); have HG5 := Lib.hid (HG4.out.same hB5); have HT5 := Lib.hid (HT4.out.same hB5); have HB5 := Lib.hid (HB4.out.trans (hB5.mono HB4.out.size))
  clear hW5 hB5 yc0 yc1 yc2 yc3 yd0 yd1 yd2 yd3 c0 c1 c2 c3 d0 d1 d2 d3 ge gr gs gc HC1 HC2 HC3 HC4 HC5 HC6 HC7 HX4 HY4 HG4 HT4 HB4
  obtain ⟨c0, c1, c2, c3⟩ := HX5.out.c
  obtain ⟨d0, d1, d2, d3⟩ := HY5.out.c
  go_wp2_with fail
  clear c0 c1 c2 c3 d0 d1 d2 d3
  refine (HKN.out w5 HT5.out HG5.out).mono ?_
  rintro e w6 ⟨rfl, hB6⟩
  have HB6 := Lib.hid (HB5.out.trans (hB6.mono HB5.out.size))
  clear hB6 HKN HX5 HY5 HG5 HT5 HB5
  go_wp2_with fail
  refine (awake15_any w6).mono ?_
  rintro e w7 ⟨rfl, hB7⟩
  have HB7 := Lib.hid (HB6.out.trans (hB7.mono HB6.out.size))
  clear hB7 HB6
  go_wp2
  go_ret
  exact ⟨rfl, HB7.out⟩
end Go.Proofs.Ytjlmajopfeplpaa.Nt

namespace Go.Proofs.Ytjlmajopfeplpaa.Nt
open Go.RowKit Go.Shelf
attribute [local go_sem] Oper.semAt_some

/-- times of those that are so many, added. -/
def esm (C T : Nat → Int) (x : Int) : Nat → Int
  | 0 => 0
  | i + 1 => esm C T x i + (if C i = x then T i else 0)
/-- times of those up to so many, added. -/
def psm (C T : Nat → Int) (x : Int) : Nat → Int
  | 0 => 0
  | i + 1 => psm C T x i + (if C i ≤ x then T i else 0)
theorem cnt_esm {N : Int} {m : Nat} {C T : Nat → Int} (h : CtsOk N m C T) (x : Int) : ∀ k, k ≤ m → cntT C T x k = esm C T x k
  | 0, _ => rfl
  | k + 1, hk => by
    have ih := cnt_esm h x k (by omega)
    unfold cntT esm
    by_cases h0 : cntT C T x k = 0
    · rw [if_pos h0, ← ih, h0]; omega
    · rw [if_neg h0, ← ih]
      have hc : C k ≠ x := fun e => h0 (cntT_none k fun i hi e2 => by
        have := cts_up h (i := i) k hi (by omega)
        omega)
      rw [if_neg hc]; omega
theorem psm_next {C T : Nat → Int} (x : Int) : ∀ m, psm C T x m + esm C T (x + 1) m = psm C T (x + 1) m
  | 0 => rfl
  | m + 1 => by
    have ih := psm_next (C := C) (T := T) x m
    unfold psm esm
    rw [← ih]
    by_cases h1 : C m ≤ x
    · rw [if_pos h1, if_neg (by omega), if_pos (by omega)]; omega
    · by_cases h2 : C m = x + 1
      · rw [if_neg h1, if_pos h2, if_pos (by omega)]; omega
      · rw [if_neg h1, if_neg h2, if_neg (by omega)]; omega
theorem psm_none {C T : Nat → Int} {x : Int} : ∀ m, (∀ i, i < m → x < C i) → psm C T x m = 0
  | 0, _ => rfl
  | m + 1, h => by
    have := h m (by omega)
    unfold psm; rw [psm_none m fun i hi => h i (by omega), if_neg (by omega)]; rfl
theorem psm_all {C T : Nat → Int} {x : Int} : ∀ m, (∀ i, i < m → C i ≤ x) → psm C T x m = sumT T m
  | 0, _ => rfl
  | m + 1, h => by unfold psm sumT; rw [psm_all m fun i hi => h i (by omega), if_pos (h m (by omega))]
theorem psm_le {N : Int} {m : Nat} {C T : Nat → Int} (h : CtsOk N m C T) (x : Int) : ∀ k, k ≤ m → 0 ≤ psm C T x k ∧ psm C T x k ≤ 65535 * (k : Int)
  | 0, _ => by simp [psm]
  | k + 1, hk => by
    have ih := psm_le h x k (by omega)
    have h2 := h k (by omega)
    unfold CtOk at h2
    unfold psm
    split <;> omega
theorem cnt_out {h : Mn} (hr : RN h) {x : Int} (hx : x < 1 ∨ h.N < x) : cntN h x = 0 := by
  rw [cntN_yes hr]
  exact cntT_none _ fun i hi e => by
    have h2 := hr.2.2.2 i hi
    unfold CtOk at h2
    omega
theorem sum_less {h : Mn} (hr : RN h) {k : Nat} (hk : h.m = k + 1) : sumN ⟨h.S, h.Q, h.N, k, h.C, h.T⟩ + h.T k = sumN h := by
  rw [sumN_yes hr, sumN_yes (h := ⟨h.S, h.Q, h.N, k, h.C, h.T⟩) ⟨hr.1, hr.2.1, hr.2.2.1, fun i hi => hr.2.2.2 i (Nat.lt_trans hi (show k < h.m by omega))⟩, hk]
  rfl

set_option maxHeartbeats 8000000 in
set_option maxRecDepth 100000 in
theorem noteSums_any (h : Mn) (a : Option Addr) (c : Nat) (came : Int) (hm : h.m ≤ 8796093022208) (hnil : a = none → h.m = 0 ∧ c = 0) (w : World) (hT : Tb w a h.m h.C h.T) :
    Calls Try.prog 7 #[nV h a c, .int .i64 came] w fun e w' => e = .returned (.bool true) ∧ Below w.heap.size w w' := by
  obtain ⟨w0, hw0⟩ : ∃ w0, w0 = w.alloc (.cells #[.int .i64 h.S, .int .i64 h.Q, .int .i64 h.N, .slice a h.m c] 24) := ⟨_, rfl⟩
  have HX0 := Lib.hid (show NAt w0 w.heap.size h a c by rw [hw0]; exact heap_alloc_new _ _)
  have HB0 := Lib.hid (show Below w.heap.size w w0 by rw [hw0]; exact (Below.refl _ w).alloc (Nat.le_refl _) _)
  have HT := Lib.hid hT; have HW0 := Lib.hid hw0; have HNIL := Lib.hid hnil
  have HRI := Lib.hid (fun W hT => pright_any h a c (by omega) W hT)
  have HSU := Lib.hid (fun W hT => psum_any h a c (by omega) W hT)
  have HCO := Lib.hid (fun x W hT => pcount_any h a c x (by omega) W hT)
  unfold nV at HRI HSU HCO ⊢
  clear hT hw0 hnil
  obtain ⟨wg, hwg⟩ : ∃ wg, wg = w.heap.size := ⟨_, rfl⟩
  go_enter Try.func7, Try.ntmps7
  go_upto_region 1 with fail
  rw [← HW0.out, ← hwg]
  rw [← hwg] at HX0
  clear HW0 hwg
  have HM := Lib.hid hm
  go_wp2_with fail
  refine (awake15_any w0).mono ?_
  rintro e w1 ⟨rfl, hB1⟩
  have HX1 := Lib.hid (HX0.out.same hB1)
  have HB1 := Lib.hid (HB0.out.trans (hB1.mono HB0.out.size))
  clear hB1 HX0 HB0
  obtain ⟨c0, c1, c2, c3⟩ := HX1.out.c
  by_cases hbig : h.m ≤ 5000
  rotate_left
  · have j1 : (5000 : Int) < (h.m : Int) := by omega
    go_wp2
    go_ret
    exact ⟨rfl, HB1.out⟩
  have j1 : ¬ (5000 : Int) < (h.m : Int) := by omega
  have HBIG := Lib.hid hbig
  clear hbig hm
  go_wp2_with fail
  clear c0 c1 c2 c3 j1
  refine (HRI.out w1 (HT.out.same HB1.out)).mono ?_
  rintro e w2 ⟨⟨v, rfl, hv⟩, hB2⟩
  have HX2 := Lib.hid (HX1.out.same hB2)
  have HB2 := Lib.hid (HB1.out.trans (hB2.mono HB1.out.size))
  have HVV := Lib.hid hv
  clear hv hB2 HX1 HB1
  obtain ⟨c0, c1, c2, c3⟩ := HX2.out.c
  cases v
  · have HNO := Lib.hid (show ¬ RN h from fun q => absurd (HVV.out.2 q) (by simp))
    go_wp2_with fail
    clear c0 c1 c2 c3
    refine (HSU.out w2 (HT.out.same HB2.out)).mono ?_
    rintro e w3 ⟨rfl, hB3⟩
    rw [sumN_no HNO.out]
    have HX3 := Lib.hid (HX2.out.same hB3)
    have HB3 := Lib.hid (HB2.out.trans (hB3.mono HB2.out.size))
    clear hB3
    obtain ⟨c0, c1, c2, c3⟩ := HX3.out.c
    go_wp2_with fail
    clear c0 c1 c2 c3
    refine (HCO.out came w3 (HT.out.same HB3.out)).mono ?_
    rintro e w4 ⟨rfl, hB4⟩
    rw [cntN_no HNO.out]
    have HB4 := Lib.hid (HB3.out.trans (hB4.mono HB3.out.size))
    clear hB4
    go_wp2
    go_ret
    exact ⟨rfl, HB4.out⟩
  have HR := Lib.hid (show RN h by first | exact HVV.out.1 rfl | exact HVV.out.1 trivial)
  clear HVV c0 c1 c2 c3
  obtain ⟨N, hN⟩ : ∃ N : Nat, (N : Int) = h.N := ⟨h.N.toNat, by have := HR.out.2.2.1.1; omega⟩
  have HN := Lib.hid hN
  have HN5 := Lib.hid (show N ≤ 255 by have := HR.out.2.2.1.2; omega)
  have HM5 := Lib.hid (rn_few HR.out)
  clear hN
  have HP := Lib.hid (fun j => psm_le HR.out.2.2.2 j h.m (Nat.le_refl _))
  have HNX := Lib.hid (show ∀ j : Nat, psm h.C h.T (j : Nat) h.m + cntN h ((j : Int) + 1) = psm h.C h.T ((j + 1 : Nat) : Int) h.m from fun j => by
    rw [cntN_yes HR.out, cnt_esm HR.out.2.2.2 _ _ (Nat.le_refl _), psm_next]; rfl)
  have HC0 := Lib.hid (show ∀ x, 0 ≤ cntN h x ∧ cntN h x ≤ 65535 from fun x => by
    rw [cntN_yes HR.out]
    by_cases hex : ∃ i, i < h.m ∧ h.C i = x
    · obtain ⟨i, hi, e⟩ := hex
      have h2 := HR.out.2.2.2 i hi
      unfold CtOk at h2
      rw [← e, cntT_at HR.out.2.2.2 _ hi (Nat.le_refl _)]
      omega
    · rw [cntT_none _ fun i hi e => hex ⟨i, hi, e⟩]; omega)
  go_wp2_with fail
  go_loopw [5, 6] (fun s i wr => ∃ (j : Nat) (W : World), W = wr ∧ j ≤ N ∧ i = .int .i64 ((j : Int) + 1) ∧ s = .int .i64 (psm h.C h.T (j : Nat) h.m) ∧ Below w2.heap.size w2 wr) (fun _ i _ => N + 1 - (intOf i).toNat)
  case atStart => exact ⟨0, _, rfl, by omega, rfl, by rw [psm_none h.m fun i hi => (show ((0 : Nat) : Int) < h.C i by have := (HR.out.2.2.2 i hi).1; omega)], Below.refl _ _⟩
  case round =>
    obtain ⟨j, wx, rfl, hj, rfl, rfl, hB⟩ := hrel
    have HBX := Lib.hid hB
    clear hB
    have HX3 := Lib.hid (HX2.out.same HBX.out)
    obtain ⟨c0, c1, c2, c3⟩ := HX3.out.c
    rw [← HN.out] at c2
    by_cases hlt : j < N
    · have i1 : (j : Int) + 1 ≤ (N : Int) := by omega
      have hp := HP.out (j : Nat)
      have hm5 := HM5.out
      have hc5 := HC0.out ((j : Int) + 1)
      have hnx := HNX.out j
      have HLT := Lib.hid hlt
      have HCX := Lib.hid (HCO.out ((j : Int) + 1) wx (HT.out.same (HB2.out.trans (HBX.out.mono HB2.out.size))))
      rw [← HN.out] at HCX
      obtain ⟨s, hs⟩ : ∃ s, s = psm h.C h.T (j : Nat) h.m := ⟨_, rfl⟩
      rw [← hs] at hp hnx ⊢
      obtain ⟨cn, hcn⟩ : ∃ cn, cn = cntN h ((j : Int) + 1) := ⟨_, rfl⟩
      rw [← hcn] at hc5 hnx HCX
      have HSN := Lib.hid hnx
      have hs3 : 0 ≤ s ∧ s ≤ 65535 * 255 := by omega
      obtain ⟨hs3, hs4⟩ := hs3
      obtain ⟨hc6, hc7⟩ := hc5
      obtain ⟨j1, hj1⟩ : ∃ j1 : Int, j1 = (j : Int) + 1 := ⟨_, rfl⟩
      rw [← hj1] at i1 HCX ⊢
      have HJ1 := Lib.hid hj1
      have hjb : 0 ≤ j1 ∧ j1 ≤ 255 := by have := HN5.out; omega
      obtain ⟨hj2, hj3⟩ := hjb
      clear hp hnx hs hcn hm5 hlt hj hj1
      go_wp2_with fail
      clear c0 c1 c2 c3
      refine HCX.out.mono ?_
      rintro e w3 ⟨rfl, hB3⟩
      have HB3 := Lib.hid (HBX.out.trans (hB3.mono HBX.out.size))
      clear hB3 HCX
      go_wp2
      go_roundw
      case rel => exact ⟨j + 1, _, rfl, by have := HLT.out; omega, by rw [HJ1.out]; go_num, by rw [← HSN.out], HB3.out⟩
      case measure => have := HJ1.out; have := HLT.out; simp [intOf]; omega
    · obtain hjN : j = N := by omega
      have i1 : ¬ ((j : Int) + 1 ≤ (N : Int)) := by omega
      obtain ⟨s, hs⟩ : ∃ s, s = sumN h := ⟨_, rfl⟩
      have HS := Lib.hid hs
      rw [show psm h.C h.T (j : Nat) h.m = s by rw [hs, sumN_yes HR.out]; exact psm_all h.m fun i hi => by have := (HR.out.2.2.2 i hi).2.1; have := HN.out; omega]
      obtain ⟨j1, hj1⟩ : ∃ j1 : Int, j1 = (j : Int) + 1 := ⟨_, rfl⟩
      rw [← hj1] at i1 ⊢
      clear hs hjN hj hlt hj1
      go_wp2_with fail
      clear c0 c1 c2 c3 i1
      have HBS := Lib.hid (HB2.out.trans (HBX.out.mono HB2.out.size))
      have HT3 := Lib.hid (HT.out.same HBS.out)
      go_loopw [7] (fun i wr => ∃ (k : Nat) (W : World), W = wr ∧ k ≤ h.m ∧ i = .int .i64 (k : Nat) ∧ Below wx.heap.size wx wr) (fun i _ => h.m - (intOf i).toNat)
      case atStart => exact ⟨0, _, rfl, by omega, rfl, Below.refl _ _⟩
      case round =>
        obtain ⟨k, wy, rfl, hk, rfl, hB⟩ := hrel
        have HBY := Lib.hid hB
        clear hB
        have HX4 := Lib.hid (HX3.out.same HBY.out)
        have HT4 := Lib.hid (HT3.out.same HBY.out)
        obtain ⟨c0, c1, c2, c3⟩ := HX4.out.c
        by_cases hlt : k < h.m
        · have i1 : (k : Int) < (h.m : Int) := by omega
          obtain ⟨b, o, ea, d0, d1⟩ := HT4.out.cell k hlt
          subst ea
          have HCY := Lib.hid (show ∀ W, Below wy.heap.size wy W → Calls Try.prog 17 #[.agg #[.int .i64 h.S, .int .i64 h.Q, .int .i64 h.N, .slice (some ⟨b, o, none⟩) h.m c], .int .i64 (h.C k)] W fun e w' => e = .returned (.int .i64 (h.T k)) ∧ Below W.heap.size W w' from fun W hW => by
            have hh := HCO.out (h.C k) W (HT4.out.same hW)
            rw [cntN_yes HR.out, cntT_at HR.out.2.2.2 _ hlt (Nat.le_refl _)] at hh
            exact hh)
          have HLT := Lib.hid hlt
          generalize h.C k = x at *
          generalize h.T k = y at *
          have yc0 := fun d os => cell_regrown c0 d os
          have yc1 := fun d os => cell_regrown c1 d os
          have yc2 := fun d os => cell_regrown c2 d os
          have yc3 := fun d os => cell_regrown c3 d os
          have yd0 := fun d os => cell_regrown d0 d os
          have yd1 := fun d os => cell_regrown d1 d os
          have gy : (y != y) = false := by simp
          clear hlt
          go_upto_region 15 with fail
          refine wp_region_quiet_below (by kernel_rfl) (by kernel_rfl) ?_
          repeat (go_big_quiet_step ((go_at_call 17; exact Calls.regrown_of (HCY.out _ (below_regrown _ _ _)))))
          refine wpQuiet_nil ?_
          rintro w5 ⟨pq, hW5⟩
          have hB5 : Below wy.heap.size wy w5 := by rw [hW5]; exact below_regrown _ _ _
          have HB5 := Lib.hid (HBY.out.trans (hB5.mono HBY.out.size))
          clear hW5 hB5 yc0 yc1 yc2 yc3 yd0 yd1 c0 c1 c2 c3 d0 d1 gy HCY
          have hlt := HLT.out
          have hbg := HBIG.out
          go_wp2
          go_roundw
          case rel => exact ⟨k + 1, _, rfl, by omega, by go_num, HB5.out⟩
          case measure => simp [intOf]; omega
        · obtain hkm : k = h.m := by omega
          have i1 : ¬ (k : Int) < (h.m : Int) := by omega
          clear hkm hk hlt
          have HB4 := Lib.hid (HBS.out.trans (HBY.out.mono HBS.out.size))
          go_upto_region 17 with fail
          clear i1
          go_cut [80] from 61 to 80 (fun v wz => v = .bool false ∧ NAt wz wg h a c ∧ Below w.heap.size w wz)
          case first =>
            go_wp2_with fail
            clear c0 c1 c2 c3
            refine (HSU.out wy HT4.out).mono ?_
            rintro e w5 ⟨rfl, hB5⟩
            rw [← HS.out]
            have HX5 := Lib.hid (HX4.out.same hB5)
            have HT5 := Lib.hid (HT4.out.same hB5)
            have HB5 := Lib.hid (HB4.out.trans (hB5.mono HB4.out.size))
            clear hB5
            have gs : (s != s) = false := by simp
            obtain ⟨c0, c1, c2, c3⟩ := HX5.out.c
            rw [← HN.out] at c2
            by_cases e1 : came < 1
            · have HZ := Lib.hid (cnt_out HR.out (x := came) (Or.inl e1))
              have HCZ := Lib.hid (HCO.out came w5 HT5.out)
              rw [← HN.out] at HCZ
              go_wp2_with fail
              clear c0 c1 c2 c3 gs
              refine HCZ.out.mono ?_
              rintro e w6 ⟨rfl, hB6⟩
              rw [HZ.out]
              have HX6 := Lib.hid (HX5.out.same hB6)
              have HB6 := Lib.hid (HB5.out.trans (hB6.mono HB5.out.size))
              clear hB6
              go_wp2
              go_meet
              exact ⟨rfl, HX6.out, HB6.out⟩
            by_cases e2 : (N : Int) < came
            · have HZ := Lib.hid (cnt_out HR.out (x := came) (Or.inr (by rw [← HN.out]; exact e2)))
              have HCZ := Lib.hid (HCO.out came w5 HT5.out)
              rw [← HN.out] at HCZ
              go_wp2_with fail
              clear c0 c1 c2 c3 gs
              refine HCZ.out.mono ?_
              rintro e w6 ⟨rfl, hB6⟩
              rw [HZ.out]
              have HX6 := Lib.hid (HX5.out.same hB6)
              have HB6 := Lib.hid (HB5.out.trans (hB6.mono HB5.out.size))
              clear hB6
              go_wp2
              go_meet
              exact ⟨rfl, HX6.out, HB6.out⟩
            · go_wp2
              go_meet
              exact ⟨rfl, HX5.out, HB5.out⟩
          case rest =>
            obtain ⟨rfl, hxz, hbz⟩ := hcut
            have HXZ := Lib.hid hxz; have HBZ := Lib.hid hbz
            have HTZ := Lib.hid (HT.out.same hbz)
            clear hxz hbz c0 c1 c2 c3 HX4 HT4 HB4 HBY HBX HBS HT3 HX3
            obtain ⟨c0, c1, c2, c3⟩ := HXZ.out.c
            by_cases h0 : h.m = 0
            · have g1 : ((h.m : Int) == 0) = true := by simp [h0]
              have HS0 := Lib.hid (show s = 0 by rw [HS.out, sumN_yes HR.out, h0]; rfl)
              have g2 : (s == 0) = true := by simp [HS0.out]
              clear h0
              go_wp2
              go_ret
              exact ⟨rfl, HBZ.out⟩
            have g1 : ((h.m : Int) == 0) = false := by simp [h0]
            obtain ⟨k, hk⟩ : ∃ k, h.m = k + 1 := ⟨h.m - 1, by omega⟩
            have HK := Lib.hid hk
            have HCP := Lib.hid (copyNote_any h a c (by have := HBIG.out; omega) wc HTZ.out HNIL.out)
            unfold nV at HCP
            clear h0 hk
            go_wp2_with fail
            clear c0 c1 c2 c3 g1
            refine HCP.out.mono ?_
            rintro e w6 ⟨a', c', rfl, ho, hB6⟩
            have HO6 := Lib.hid ho; have HB6 := Lib.hid (HBZ.out.trans (hB6.mono HBZ.out.size))
            have HCAP := Lib.hid (hdl_cap ho)
            clear ho hB6 HCP
            go_upto_region 22 with fail
            obtain ⟨w7, hw7⟩ : ∃ w7, w7 = w6.alloc (.cells #[.int .i64 h.S, .int .i64 h.Q, .int .i64 h.N, .slice a' h.m c'] 24) := ⟨_, rfl⟩
            rw [← hw7]
            have hb7 : Below w6.heap.size w6 w7 := by rw [hw7]; exact (Below.refl _ w6).alloc (Nat.le_refl _) _
            have HY7 := Lib.hid (show NAt w7 w6.heap.size h a' c' by rw [hw7]; exact heap_alloc_new _ _)
            have HO7 := Lib.hid (own_be HO6.out hb7)
            have HB7 := Lib.hid (HB6.out.trans (hb7.mono HB6.out.size))
            have HT7 := Lib.hid (tdl_tb HO7.out).1
            have HLO := Lib.hid (show w.heap.size ≤ w6.heap.size from HB6.out.size)
            obtain ⟨gl, hgl⟩ : ∃ gl, gl = w6.heap.size := ⟨_, rfl⟩
            rw [← hgl] at HY7 HLO ⊢
            have HGLT := Lib.hid (show gl < w7.heap.size from HY7.out.lt)
            clear hw7 hb7 HO6 HB6 hgl
            obtain ⟨b, o, ea, d0, d1⟩ := HT7.out.cell k (by have := HK.out; omega)
            subst ea
            obtain ⟨y, hy⟩ : ∃ y, y = h.T k := ⟨_, rfl⟩
            obtain ⟨x, hx⟩ : ∃ x, x = h.C k := ⟨_, rfl⟩
            rw [← hy] at d1
            rw [← hx] at d0
            have HYY := Lib.hid hy
            have k1 : (h.m : Int) - 1 = (k : Int) := by have := HK.out; omega
            have k2 : (k : Int) < (h.m : Int) := by omega
            have k3 : k ≤ c' := by have := HCAP.out; have := HK.out; omega
            obtain ⟨e0, e1, e2, e3⟩ := HY7.out.c
            clear hx hy
            go_upto_region 23 with fail
            obtain ⟨w8, hw8⟩ : ∃ w8, w8 = w7.alloc (.cells #[.int .i64 x, .int .i64 y] 41) := ⟨_, rfl⟩
            rw [← hw8]
            have hb8 : Below w7.heap.size w7 w8 := by rw [hw8]; exact (Below.refl _ w7).alloc (Nat.le_refl _) _
            have HZ8 := Lib.hid (show ZAt w8 w7.heap.size x y by rw [hw8]; exact heap_alloc_new _ _)
            have HY8 := Lib.hid (HY7.out.same hb8)
            have HT8 := Lib.hid (HT7.out.same hb8)
            have HB8 := Lib.hid (HB7.out.trans (hb8.mono HB7.out.size))
            have HNE := Lib.hid (show w7.heap.size ≠ gl by have := HGLT.out; omega)
            have HOB := Lib.hid (show b ≠ gl from fun e => by
              rcases HO7.out.2 with ⟨q, _⟩ | ⟨g9, cap9, cur9, q, _, hgb, _⟩
              · cases q
              · cases q
                rw [e] at hgb
                have h9 := hgb.symm.trans HY7.out
                simp only [Option.some.injEq, Obj.cells.injEq] at h9
                exact absurd h9.2.1 (by decide))
            generalize w7.heap.size = gz at *
            clear hw8 hb8 d0 d1 e0 e1 e2 e3 HY7 HT7 HB7 HO7
            obtain ⟨e0, e1, e2, e3⟩ := HY8.out.c
            have f3 := HY8.out.free 3
            go_upto_region 24 with fail
            obtain ⟨w9, hw9⟩ : ∃ w9, w9 = w8.setCell ⟨gl, 3, none⟩ (.slice (some ⟨b, o, none⟩) k c') := ⟨_, rfl⟩
            rw [← hw9]
            have HY9 := Lib.hid (show NAt w9 gl ⟨h.S, h.Q, h.N, k, h.C, h.T⟩ (some ⟨b, o, none⟩) c' by rw [hw9]; exact HY8.out.s3 _ _ _ _ _)
            have HZ9 := Lib.hid (show ZAt w9 gz x y by rw [hw9]; exact (heap_setCell_other w8 ⟨gl, 3, none⟩ gz _ (by first | exact HNE.out | exact fun e => HNE.out e.symm)).trans HZ8.out)
            have HT9 := Lib.hid (show Tb w9 (some ⟨b, o, none⟩) k h.C h.T by rw [hw9]; exact (tb_other HT8.out fun b' o' e => heap_setCell_other w8 ⟨gl, 3, none⟩ b' _ (by cases e; first | exact HOB.out | exact fun e => HOB.out e.symm)).less (by have := HK.out; omega))
            have HB9 := Lib.hid (show Below w.heap.size w w9 by rw [hw9]; exact HB8.out.setCell (by have := HLO.out; show w.heap.size ≤ gl; omega) _)
            clear hw9 e0 e1 e2 e3 f3 k1 k2 k3 HY8 HZ8 HT8 HB8 HNE HOB
            have hsl := sum_less HR.out HK.out
            obtain ⟨sl, hsl0⟩ : ∃ sl, sl = sumN ⟨h.S, h.Q, h.N, k, h.C, h.T⟩ := ⟨_, rfl⟩
            have HCL := Lib.hid (show ∀ W, Below w9.heap.size w9 W → Calls Try.prog 15 #[.agg #[.int .i64 h.S, .int .i64 h.Q, .int .i64 h.N, .slice (some ⟨b, o, none⟩) k c']] W fun e w' => e = .returned (.int .i64 sl) ∧ Below W.heap.size W w' from fun W hW => by
              have hh := psum_any ⟨h.S, h.Q, h.N, k, h.C, h.T⟩ (some ⟨b, o, none⟩) c' (by have := HK.out; have := HM5.out; show k ≤ _; omega) W (HT9.out.same hW)
              unfold nV at hh
              rw [← hsl0] at hh
              exact hh)
            rw [← hsl0, ← HYY.out, ← HS.out] at hsl
            have hb := HP.out (N : Int)
            rw [psm_all h.m (fun i hi => by have := (HR.out.2.2.2 i hi).2.1; have := HN.out; omega), ← sumN_yes HR.out, ← HS.out] at hb
            obtain ⟨hb1, hb2⟩ := hb
            have hb3 : s ≤ 16711425 := by have := HM5.out; omega
            have g5 : (sl + y == s) = true := by rw [hsl]; simp
            have hb4 : -9223372036854775808 ≤ sl + y := by omega
            have hb5 : sl + y ≤ 9223372036854775807 := by omega
            obtain ⟨e0, e1, e2, e3⟩ : w9.cell? ⟨gl, 0, none⟩ = some (.int .i64 h.S) ∧ w9.cell? ⟨gl, 1, none⟩ = some (.int .i64 h.Q) ∧ w9.cell? ⟨gl, 2, none⟩ = some (.int .i64 h.N) ∧ w9.cell? ⟨gl, 3, none⟩ = some (.slice (some ⟨b, o, none⟩) k c') := HY9.out.c
            have z1 := HZ9.out.c.2
            have ye0 := fun d os => cell_regrown e0 d os
            have ye1 := fun d os => cell_regrown e1 d os
            have ye2 := fun d os => cell_regrown e2 d os
            have ye3 := fun d os => cell_regrown e3 d os
            have yz1 := fun d os => cell_regrown z1 d os
            clear hsl0 HY9 HZ9 HT9 HT
            refine wp_region_quiet_below (by kernel_rfl) (by kernel_rfl) ?_
            repeat (go_big_quiet_step ((go_at_call 15; exact Calls.regrown_of (HCL.out _ (below_regrown _ _ _)))))
            refine wpQuiet_nil ?_
            rintro w10 ⟨pq, hW10⟩
            have hB10 : Below w9.heap.size w9 w10 := by rw [hW10]; exact below_regrown _ _ _
            have HB10 := Lib.hid (HB9.out.trans (hB10.mono HB9.out.size))
            clear hW10 hB10 ye0 ye1 ye2 ye3 yz1 e0 e1 e2 e3 z1
            go_wp2
            go_ret
            exact ⟨rfl, HB10.out⟩
end Go.Proofs.Ytjlmajopfeplpaa.Nt

namespace Go.Proofs.Ytjlmajopfeplpaa.Nt
open Go.RowKit Go.Shelf
attribute [local go_sem] Oper.semAt_some

/-- counts' numbers in a block. -/
def Ri (W : World) (B r c : Nat) : Prop := B ≤ r ∧ ∃ us : Array Value, W.heap[r]? = some (.cells us 41 (0, 0)) ∧ ∀ j, j < 2 * c → ∃ z, us[j]? = some (.int .i64 z)
/-- a list of seven reports: numbers, counts of their own. -/
def Ls (W : World) (B g : Nat) : Prop := B ≤ g ∧ ∃ vs : Array Value, W.heap[g]? = some (.cells vs 24 (0, 0)) ∧
  (∀ k j, k < 7 → j < 3 → ∃ z, vs[k * 4 + j]? = some (.int .i64 z)) ∧ ∀ k, k < 7 → ∃ r c, vs[k * 4 + 3]? = some (.slice (some ⟨r, 0, none⟩) (2) c) ∧ 2 ≤ c ∧ Ri W B r (2)
section
variable {W W' : World} {B g r c : Nat}
theorem Ri.kept (h : Ri W B r c) (hk : W'.heap[r]? = W.heap[r]?) : Ri W' B r c := by
  obtain ⟨h0, us, h1, h2⟩ := h
  exact ⟨h0, us, hk.trans h1, h2⟩
theorem Ri.lt (h : Ri W B r c) : r < W.heap.size := by
  obtain ⟨h0, us, h1, h2⟩ := h
  exact (Array.getElem?_eq_some_iff.1 h1).1
theorem Ri.set (h : Ri W B r c) {q i : Nat} {z : Int} : Ri (W.setCell ⟨q, i, none⟩ (.int .i64 z)) B r c := by
  obtain ⟨h0, us, h1, h2⟩ := h
  by_cases e : r = q
  · subst e
    refine ⟨h0, us.setIfInBounds i (.int .i64 z), heap_setCell_same W r i _ _ _ h1, fun j hj => ?_⟩
    obtain ⟨y, hy⟩ := h2 j hj
    by_cases e2 : j = i
    · subst e2
      exact ⟨z, by rw [Array.getElem?_setIfInBounds_self_of_lt ((Array.getElem?_eq_some_iff.1 hy).1)]⟩
    · exact ⟨y, by rw [Array.getElem?_setIfInBounds_ne (by omega)]; exact hy⟩
  · exact ⟨h0, us, (heap_setCell_other _ _ _ _ e).trans h1, h2⟩
theorem Ri.ne (h : Ri W B r c) {vs : Array Value} {q : Nat} (hq : W.heap[q]? = some (.cells vs 24 (0, 0))) : r ≠ q := fun e => by
  obtain ⟨h0, us, h1, h2⟩ := h
  rw [e, hq] at h1
  simp at h1
theorem Ri.cell (h : Ri W B r c) {j : Nat} (hj : j < 2 * c) : ∃ z, W.cell? ⟨r, j, none⟩ = some (.int .i64 z) := by
  obtain ⟨h0, us, h1, h2⟩ := h
  obtain ⟨z, hz⟩ := h2 j hj
  exact ⟨z, by rw [cell_of_row W r j _ _ _ h1]; exact hz⟩
theorem Ri.free (h : Ri W B r c) (j : Nat) : W.frozen? ⟨r, j, none⟩ = false := by
  obtain ⟨h0, us, h1, h2⟩ := h
  exact frozen_of_row W r j _ _ h1
open Classical in
theorem Ri.tb (h : Ri W B r c) : ∃ K L, Tb W (some ⟨r, 0, none⟩) c K L := by
  have hz : ∀ j, ∃ z, j < 2 * c → W.cell? ⟨r, j, none⟩ = some (.int .i64 z) := fun j => by
    by_cases hj : j < 2 * c
    · obtain ⟨z, q⟩ := h.cell hj
      exact ⟨z, fun _ => q⟩
    · exact ⟨0, fun q => absurd q hj⟩
  refine ⟨fun i => Classical.choose (hz (i * 2)), fun i => Classical.choose (hz (i * 2 + 1)), ⟨fun i hi => ⟨r, 0, rfl, ?_, ?_⟩⟩⟩
  · rw [Nat.zero_add]; exact Classical.choose_spec (hz (i * 2)) (by omega)
  · rw [Nat.zero_add]; exact Classical.choose_spec (hz (i * 2 + 1)) (by omega)
theorem Ls.lt (h : Ls W B g) : g < W.heap.size := by
  obtain ⟨h0, vs, h1, _⟩ := h
  exact (Array.getElem?_eq_some_iff.1 h1).1
theorem Ls.same (h : Ls W B g) (hB : Below W.heap.size W W') : Ls W' B g := by
  obtain ⟨h0, vs, h1, h2, h3⟩ := h
  refine ⟨h0, vs, (hB.block g (Array.getElem?_eq_some_iff.1 h1).1).trans h1, h2, fun k hk => ?_⟩
  obtain ⟨r, c, q1, q2, q3⟩ := h3 k hk
  exact ⟨r, c, q1, q2, q3.kept (hB.block r q3.lt)⟩
theorem Ls.free (h : Ls W B g) (i : Nat) : W.frozen? ⟨g, i, none⟩ = false := by
  obtain ⟨h0, vs, h1, _⟩ := h
  exact frozen_of_row W g i _ _ h1
theorem Ls.num (h : Ls W B g) {k j : Nat} (hk : k < 7) (hj : j < 3) : ∃ z, W.cell? ⟨g, k * 4 + j, none⟩ = some (.int .i64 z) := by
  obtain ⟨h0, vs, h1, h2, h3⟩ := h
  obtain ⟨z, hz⟩ := h2 k j hk hj
  exact ⟨z, by rw [cell_of_row W g _ _ _ _ h1]; exact hz⟩
theorem Ls.row (h : Ls W B g) {k : Nat} (hk : k < 7) : ∃ r c, W.cell? ⟨g, k * 4 + 3, none⟩ = some (.slice (some ⟨r, 0, none⟩) (2) c) ∧ 2 ≤ c ∧ Ri W B r (2) := by
  obtain ⟨h0, vs, h1, h2, h3⟩ := h
  obtain ⟨r, c, q1, q2, q3⟩ := h3 k hk
  exact ⟨r, c, by rw [cell_of_row W g _ _ _ _ h1]; exact q1, q2, q3⟩
/-- a number of a report is stored. -/
theorem Ls.setN (h : Ls W B g) {k j : Nat} (hk : k < 7) (hj : j < 3) (z : Int) : Ls (W.setCell ⟨g, k * 4 + j, none⟩ (.int .i64 z)) B g := by
  obtain ⟨h0, vs, h1, h2, h3⟩ := h
  refine ⟨h0, vs.setIfInBounds (k * 4 + j) (.int .i64 z), heap_setCell_same W g _ _ _ _ h1, fun k' j' hk' hj' => ?_, fun k' hk' => ?_⟩
  · obtain ⟨y, hy⟩ := h2 k' j' hk' hj'
    by_cases e : k' * 4 + j' = k * 4 + j
    · rw [e] at hy ⊢
      exact ⟨z, by rw [Array.getElem?_setIfInBounds_self_of_lt ((Array.getElem?_eq_some_iff.1 hy).1)]⟩
    · exact ⟨y, by rw [Array.getElem?_setIfInBounds_ne (by omega)]; exact hy⟩
  · obtain ⟨r, c, q1, q2, q3⟩ := h3 k' hk'
    exact ⟨r, c, by rw [Array.getElem?_setIfInBounds_ne (by omega)]; exact q1, q2, q3.set⟩
/-- a number of a count is stored. -/
theorem Ls.setR (h : Ls W B g) {q i : Nat} (hq : q ≠ g) (z : Int) : Ls (W.setCell ⟨q, i, none⟩ (.int .i64 z)) B g := by
  obtain ⟨h0, vs, h1, h2, h3⟩ := h
  refine ⟨h0, vs, (heap_setCell_other _ _ _ _ (Ne.symm hq)).trans h1, h2, fun k' hk' => ?_⟩
  obtain ⟨r, c, q1, q2, q3⟩ := h3 k' hk'
  exact ⟨r, c, q1, q2, q3.set⟩
/-- a report of the list, as it is read. -/
theorem Ls.note (h : Ls W B g) {k : Nat} (hk : k < 7) : ∃ (x : Mn) (r c : Nat), x.m = 2 ∧ x.m ≤ c ∧ Tb W (some ⟨r, 0, none⟩) x.m x.C x.T ∧
    W.cell? ⟨g, k * 4, none⟩ = some (.int .i64 x.S) ∧ W.cell? ⟨g, k * 4 + 1, none⟩ = some (.int .i64 x.Q) ∧ W.cell? ⟨g, k * 4 + 2, none⟩ = some (.int .i64 x.N) ∧ W.cell? ⟨g, k * 4 + 3, none⟩ = some (.slice (some ⟨r, 0, none⟩) x.m c) := by
  obtain ⟨r, c, q1, q2, q3⟩ := h.row hk
  obtain ⟨C, T, hT⟩ := q3.tb
  obtain ⟨z0, h0⟩ := h.num hk (j := 0) (by decide)
  obtain ⟨z1, h1⟩ := h.num hk (j := 1) (by decide)
  obtain ⟨z2, h2⟩ := h.num hk (j := 2) (by decide)
  exact ⟨⟨z0, z1, z2, 2, C, T⟩, r, c, rfl, q2, hT, h0, h1, h2, q1⟩
end
/-- as many reports in a list of one's own, as far as k: each the same but for its counts. -/
def ndl (x : Mn) (R C : Nat → Nat) : Nat → List Value
  | 0 => []
  | k + 1 => ndl x R C k ++ [.int .i64 x.S, .int .i64 x.Q, .int .i64 x.N, .slice (some ⟨R k, 0, none⟩) x.m (C k)]
theorem ndl_len (x : Mn) (R C : Nat → Nat) : ∀ k, (ndl x R C k).length = k * 4
  | 0 => rfl
  | k + 1 => by unfold ndl; rw [List.length_append, ndl_len x R C k]; simp; omega
theorem ndl_congr (x : Mn) {R C R' C' : Nat → Nat} : ∀ k, (∀ i, i < k → R i = R' i ∧ C i = C' i) → ndl x R C k = ndl x R' C' k
  | 0, _ => rfl
  | k + 1, h => by unfold ndl; rw [ndl_congr x k (fun i hi => h i (by omega)), (h k (by omega)).1, (h k (by omega)).2]
theorem ndl_at (x : Mn) (R C : Nat → Nat) : ∀ k i, i < k → (∀ j, j < 3 → ∃ z, (ndl x R C k)[i * 4 + j]? = some (.int .i64 z)) ∧ (ndl x R C k)[i * 4 + 3]? = some (.slice (some ⟨R i, 0, none⟩) x.m (C i))
  | 0, i, h => absurd h (Nat.not_lt_zero i)
  | k + 1, i, h => by
    unfold ndl
    have hl := ndl_len x R C k
    by_cases e : i = k
    · subst e
      constructor
      · intro j hj
        rw [List.getElem?_append_right (by omega), hl, Nat.add_sub_cancel_left]
        rcases (show j = 0 ∨ j = 1 ∨ j = 2 by omega) with rfl | rfl | rfl <;> exact ⟨_, rfl⟩
      · rw [List.getElem?_append_right (by omega), hl, Nat.add_sub_cancel_left]; rfl
    · obtain ⟨h1, h2⟩ := ndl_at x R C k i (by omega)
      constructor
      · intro j hj
        rw [List.getElem?_append_left (by omega)]; exact h1 j hj
      · rw [List.getElem?_append_left (by omega)]; exact h2
end Go.Proofs.Ytjlmajopfeplpaa.Nt

namespace Go.Proofs.Ytjlmajopfeplpaa.Nt
open Go.RowKit Go.Shelf
attribute [local go_sem] Oper.semAt_some

/-- the ends. -/
def endL : List Int := [(-9223372036854775808), (-1), 0, 1, 2, 3, 4, 255, 256, 65535, 65536, 2147483647, 2147483648, 9223372036854775807]
theorem end_cell {W : World} {g : Nat} (h : W.heap[g]? = some (.cells (endL.map (Value.int .i64)).toArray 3 (0, 0))) {i : Nat} (hi : i < 14) : ∃ z, W.cell? ⟨g, i, none⟩ = some (.int .i64 z) := by
  refine ⟨endL[i]'(by show i < 14; exact hi), ?_⟩
  rw [cell_of_row W g i _ _ _ h, List.getElem?_toArray, List.getElem?_map, List.getElem?_eq_getElem (show i < endL.length from hi)]
  rfl
/-- the good one. -/
def gN : Mn := ⟨300, 70000, 4, 2, fun i => if i = 0 then 1 else 3, fun i => if i = 0 then 9 else 256⟩
/-- what stands at the begin. -/
structure St0 (w W : World) (ge gr g2 : Nat) : Prop where
  be : Below w.heap.size w W
  ends : W.heap[ge]? = some (.cells (endL.map (Value.int .i64)).toArray 3 (0, 0))
  good : NAt W g2 gN (some ⟨gr, 0, none⟩) 2
  rows : Tb W (some ⟨gr, 0, none⟩) 2 gN.C gN.T
theorem St0.same {w W W' : World} {ge gr g2 : Nat} (s : St0 w W ge gr g2) (hB : Below W.heap.size W W') : St0 w W' ge gr g2 :=
  ⟨s.be.trans (hB.mono s.be.size), (hB.block ge (Array.getElem?_eq_some_iff.1 s.ends).1).trans s.ends, s.good.same hB, s.rows.same hB⟩
theorem Try.infoNoteE : (Try.prog.info? 24).map (fun i => (i.zero, i.size, i.bytes)) = some (some (.agg #[.int .i64 0, .int .i64 0, .int .i64 0, .slice none 0 0]), 4, 48) := by kernel_rfl
theorem cell_new4 (w : World) (a b c d : Value) (t : TypeId) : ∀ j x, [a, b, c, d][j]? = some x → (w.alloc (.cells #[a, b, c, d] t)).cell? ((⟨w.heap.size, 0, none⟩ : Addr).add j) = some x := by
  intro j x hx
  have hj : j < 4 := by
    have := (List.getElem?_eq_some_iff.1 hx).1
    simpa using this
  rw [Addr.add_lit, World.cell?_alloc_new, ← hx]
  rcases (show j = 0 ∨ j = 1 ∨ j = 2 ∨ j = 3 by omega) with rfl | rfl | rfl | rfl <;> rfl
theorem ones4 (a b c : Int) (f : Option Addr) (m n : Nat) : ∀ u ∈ [Value.int .i64 a, .int .i64 b, .int .i64 c, .slice f m n], u.oneCell' = true := by
  intro u hu
  simp only [List.mem_cons, List.not_mem_nil, or_false] at hu
  rcases hu with rfl | rfl | rfl | rfl <;> rfl
theorem own_ne_ri {w : World} {B B' s n r c : Nat} {v : Value} {xs : List Value} (h : w.ownsRow B 24 s v n xs) (hr : Ri w B' r c) : some r ≠ v.ownBlock := fun e => by
  obtain ⟨h1, ⟨h2, _⟩ | ⟨g, cap, cur, q1, q2, q3, _⟩⟩ := h
  · rw [h2] at e; cases e
  · rw [q1] at e
    have e2 : r = g := Option.some.inj e
    exact hr.ne q3 e2
/-- bytes are appended to a row of one's own, under a guard. -/
theorem wpList_app_g {w : World} {ops : Array Oper} {rest : List Oper} {o : Oper} {act : Act} {Q : Exit → Act → World → Prop} (hgd : Region.wanted o (yielded ops act.tmps) = true) (s x : Operand)
    (ho : o.op = .call { callee := .builtin .append, args := #[s, x], argTypes := #[27, 27] })
    (B : Nat) (a : Option Addr) (n cap : Nat) (F : Nat → Nat) (hs : act.eval s = .slice a n cap) (hown : w.ownsRow B 5 1 (.slice a n cap) n (bl F n)) (ad : Addr) (m c : Nat) (g : Nat → Nat) (hx : act.eval x = .slice (some ad) m c) (hS : Sl w (some ad) m c g) (hF : ∀ j, j < m → g j = F (n + j)) (hm0 : 0 < m) (hm : n + m ≤ 100000000) (hbase : B ≤ w.heap.size)
    (h : ∀ q cap' w', w'.ownsRow B 5 1 (.slice (some ⟨q, 0, none⟩) (n + m) cap') (n + m) (bl F (n + m)) → Below B w w' → wpList Try.prog ops Q rest (act.put o.dst (.slice (some ⟨q, 0, none⟩) (n + m) cap')) w') : wpList Try.prog ops Q (o :: rest) act w := by
  obtain ⟨i0, hi, hz0, hz1, hz2⟩ := info_parts Try.infoU8
  refine BigFrame.wpList_want hgd fun _ hK => ?_
  obtain ⟨q, cap', w', hr, h2, h3, h4⟩ := run_append_bag (P := Try.prog) w 27 o.type B 5 i0 (.int .u8 0) 1 Try.underlying27 hi hz0 hz1 hz2 rfl a n cap _ hown ad m c (bl g m) (by rw [bl_len]) (hS.reads _ rfl) (bl_ones g m) hm0 (by unfold maxLen; omega) (by omega) hbase
  unfold Oper.wp execOp
  simp only [ho, resolve, invoke, builtin, Sem.run_bind, Sem.run_pure, Result.andThen_ok, List.map_toArray, List.map_cons, List.map_nil, hs, hx, hr]
  rw [bl_app hF] at h2
  refine hK _ _ (h q cap' w' h2 ?_)
  rcases h3 with ⟨e, _, h3⟩ | ⟨_, h3⟩
  · subst e
    exact (Below.refl B w).grown h3 hbase (fun r e => by cases e; exact (hown.lt q rfl).1)
  · exact (Below.refl B w).grown h3 hbase (fun r e => by cases e)
theorem gN_right : RN gN := by
  refine ⟨by decide, by decide, by decide, fun i hi => ?_⟩
  have h2 : i < 2 := hi
  rcases (show i = 0 ∨ i = 1 by omega) with rfl | rfl
  · exact ⟨by decide, by decide, by decide, by decide, fun h => absurd h (by decide)⟩
  · exact ⟨by decide, by decide, by decide, by decide, fun _ => by decide⟩
/-- the list of seven. -/
theorem ls_of {w : World} {B lc : Nat} {la : Option Addr} {R C : Nat → Nat} (h : w.ownsRow B 24 4 (.slice la 7 lc) 7 (ndl gN R C 7)) (hR : ∀ j, j < 7 → 2 ≤ C j ∧ Ri w B (R j) 2) : ∃ g, la = some ⟨g, 0, none⟩ ∧ 7 ≤ lc ∧ Ls w B g := by
  obtain ⟨h1, ⟨_, h2⟩ | ⟨g, cap, cur, q1, q2, q3, q4, q5, q6, q7⟩⟩ := h
  · omega
  · simp only [Value.slice.injEq, true_and] at q1
    obtain ⟨rfl, rfl⟩ := q1
    have hat : ∀ j, j < 28 → cur[j]? = (ndl gN R C 7)[j]? := fun j hj => by
      have ht : (cur.toList.take (7 * 4))[j]? = (ndl gN R C 7)[j]? := by rw [q7]
      rw [List.getElem?_take_of_lt (by omega), Array.getElem?_toList] at ht
      exact ht
    refine ⟨g, rfl, q4, q2, cur, q3, fun k j hk hj => ?_, fun k hk => ?_⟩
    · obtain ⟨z, hz⟩ := (ndl_at gN R C 7 k hk).1 j hj
      exact ⟨z, by rw [hat _ (by omega)]; exact hz⟩
    · exact ⟨R k, C k, by rw [hat _ (by omega)]; exact (ndl_at gN R C 7 k hk).2, (hR k hk).1, (hR k hk).2⟩
/-- counts of one's own, some of them. -/
theorem own_row {w : World} {B B' n c : Nat} {a : Option Addr} {K L : Nat → Int} (h : w.ownsRow B 41 2 (.slice a n c) n (tdl K L n)) (hn : 0 < n) (hB : B' ≤ B) : ∃ r, a = some ⟨r, 0, none⟩ ∧ n ≤ c ∧ Ri w B' r n := by
  obtain ⟨h1, ⟨_, h2⟩ | ⟨g, cap, cur, q1, q2, q3, q4, q5, q6, q7⟩⟩ := h
  · omega
  · simp only [Value.slice.injEq, true_and] at q1
    obtain ⟨rfl, rfl⟩ := q1
    refine ⟨g, rfl, q4, Nat.le_trans hB q2, cur, q3, fun j hj => ?_⟩
    have ht : (cur.toList.take (n * 2))[j]? = (tdl K L n)[j]? := by rw [q7]
    rw [List.getElem?_take_of_lt (by omega), Array.getElem?_toList] at ht
    obtain ⟨t1, t2⟩ := tdl_at K L n (j / 2) (by omega)
    rcases (show j = j / 2 * 2 ∨ j = j / 2 * 2 + 1 by omega) with e | e
    · exact ⟨_, by rw [ht, e, t1]⟩
    · exact ⟨_, by rw [ht, e, t2]⟩
/-- the counts of the widest report. -/
def aC (i : Nat) : Int := (i : Int) + 1
def aT (i : Nat) : Int := ((i : Int) + 1) * 257
theorem own_ne_nt {w : World} {B s n gg c : Nat} {v : Value} {xs : List Value} {x : Mn} {a : Option Addr} (h : w.ownsRow B 41 s v n xs) (hr : NAt w gg x a c) : some gg ≠ v.ownBlock := fun e => by
  obtain ⟨h1, ⟨h2, _⟩ | ⟨g, cap, cur, q1, q2, q3, _⟩⟩ := h
  · rw [h2] at e; cases e
  · rw [q1] at e
    have e2 : gg = g := Option.some.inj e
    subst e2
    have h9 := q3.symm.trans hr
    simp only [Option.some.injEq, Obj.cells.injEq] at h9
    exact absurd h9.2.1 (by decide)
theorem own_set {w : World} {B s n gg c : Nat} {v : Value} {xs : List Value} {x : Mn} {a : Option Addr} (h : w.ownsRow B 41 s v n xs) (hr : NAt w gg x a c) (u : Value) : (w.setCell ⟨gg, 3, none⟩ u).ownsRow B 41 s v n xs := by
  obtain ⟨h1, h2⟩ := h
  refine ⟨h1, ?_⟩
  rcases h2 with h2 | ⟨g, cap, cur, q1, q2, q3, q4⟩
  · exact Or.inl h2
  · refine Or.inr ⟨g, cap, cur, q1, q2, (heap_setCell_other w ⟨gg, 3, none⟩ g u (fun e => ?_)).trans q3, q4⟩
    have e2 : g = gg := e
    subst e2
    have h9 := q3.symm.trans hr
    simp only [Option.some.injEq, Obj.cells.injEq] at h9
    exact absurd h9.2.1 (by decide)
set_option maxHeartbeats 8000000 in
set_option maxRecDepth 100000 in
theorem noteEnds_any (w : World) :
    Calls Try.prog 5 #[] w fun e w' => e = .returned (.bool true) ∧ Below w.heap.size w w' := by
  go_enter Try.func5, Try.ntmps5
  go_upto_region 2 with fail
  obtain ⟨w1, hw1⟩ : ∃ w1, w1 = w.alloc (.cells #[.int .i64 (-9223372036854775808), .int .i64 (-1), .int .i64 0, .int .i64 1, .int .i64 2, .int .i64 3, .int .i64 4, .int .i64 255, .int .i64 256, .int .i64 65535, .int .i64 65536, .int .i64 2147483647, .int .i64 2147483648, .int .i64 9223372036854775807] 3) := ⟨_, rfl⟩
  rw [← hw1]
  have hb1 : Below w.heap.size w w1 := by rw [hw1]; exact (Below.refl _ w).alloc (Nat.le_refl _) _
  have h1 : w1.heap[w.heap.size]? = some (.cells (endL.map (Value.int .i64)).toArray 3 (0, 0)) := by rw [hw1]; exact heap_alloc_new _ _
  have H1 := Lib.hid h1; have HB1 := Lib.hid hb1
  obtain ⟨ge, hge⟩ : ∃ ge, ge = w.heap.size := ⟨_, rfl⟩
  rw [← hge] at H1 ⊢
  clear hw1 h1 hb1 hge
  go_upto_region 3 with fail
  obtain ⟨w2, hw2⟩ : ∃ w2, w2 = w1.alloc (.cells #[.int .i64 1, .int .i64 9, .int .i64 3, .int .i64 256] 41) := ⟨_, rfl⟩
  have hb2 : Below w1.heap.size w1 w2 := by rw [hw2]; exact (Below.refl _ w1).alloc (Nat.le_refl _) _
  have h2 : w2.heap[w1.heap.size]? = some (.cells #[.int .i64 1, .int .i64 9, .int .i64 3, .int .i64 256] 41 (0, 0)) := by rw [hw2]; exact heap_alloc_new _ _
  rw [← hw2]
  have hz2 : w2.heap.size = w1.heap.size + 1 := by rw [hw2, World.size_alloc]
  obtain ⟨wr0, hwr⟩ : ∃ wr0, wr0 = w1.heap.size := ⟨_, rfl⟩
  rw [← hwr] at h2 hz2 ⊢
  have HZ2 := Lib.hid hz2
  clear hw2 hwr hz2
  obtain ⟨w4, hw4⟩ : ∃ w4, w4 = w2.alloc (.cells #[.int .i64 300, .int .i64 70000, .int .i64 4, .slice (some ⟨wr0, 0, none⟩) 2 2] 24) := ⟨_, rfl⟩
  have hb4 : Below w2.heap.size w2 w4 := by rw [hw4]; exact (Below.refl _ w2).alloc (Nat.le_refl _) _
  have h3 : w4.heap[w2.heap.size]? = some (.cells #[.int .i64 300, .int .i64 70000, .int .i64 4, .slice (some ⟨wr0, 0, none⟩) 2 2] 24 (0, 0)) := by rw [hw4]; exact heap_alloc_new _ _
  rw [← hw4]
  obtain ⟨g2, hg2⟩ : ∃ g2, g2 = wr0 + 1 := ⟨_, rfl⟩
  rw [← hg2]
  have HG2 := Lib.hid (show g2 = w2.heap.size by rw [HZ2.out]; exact hg2)
  rw [← HG2.out] at h3
  have HST := Lib.hid (show St0 w w4 ge wr0 g2 from ⟨HB1.out.trans ((hb2.trans (hb4.mono hb2.size)).mono HB1.out.size), (hb2.trans (hb4.mono hb2.size)).block ge (Array.getElem?_eq_some_iff.1 H1.out).1 |>.trans H1.out, h3, ⟨fun i hi => ⟨wr0, 0, rfl, by
    have hr := (hb4.block wr0 (Array.getElem?_eq_some_iff.1 h2).1).trans h2
    rcases (show i = 0 ∨ i = 1 by omega) with rfl | rfl
    · exact ⟨by rw [cell_of_row _ _ _ _ _ _ hr]; rfl, by rw [cell_of_row _ _ _ _ _ _ hr]; rfl⟩
    · exact ⟨by rw [cell_of_row _ _ _ _ _ _ hr]; rfl, by rw [cell_of_row _ _ _ _ _ _ hr]; rfl⟩⟩⟩⟩)
  clear hw4 hb2 hb4 h2 h3 hg2 H1 HB1 HZ2 HG2
  go_wp2_with fail
  go_loopw [3] (fun i wr => ∃ (n : Nat) (W : World), W = wr ∧ n ≤ 14 ∧ i = .int .i64 (n : Nat) ∧ Below w4.heap.size w4 wr) (fun i _ => 14 - (intOf i).toNat)
  case atStart => exact ⟨0, _, rfl, by omega, rfl, Below.refl _ _⟩
  case round =>
    obtain ⟨n, wx, rfl, hn, rfl, hBx⟩ := hrel
    have HBX := Lib.hid hBx
    clear hBx
    by_cases hlt : n < 14
    · have i1 : (n : Int) < 14 := by omega
      have HLT := Lib.hid hlt
      clear hlt
      obtain ⟨j0, hi, hz0, hz1, hz2⟩ := info_parts Try.infoNoteE
      have HI := Lib.hid hi; have HZ0 := Lib.hid hz0; have HZ1 := Lib.hid hz1; have HZ2 := Lib.hid hz2
      clear hi hz0 hz1 hz2
      go_wp2_with fail
      go_loopw [4, 5] (fun v i wr => ∃ (k : Nat) (la : Option Addr) (lc : Nat) (R C : Nat → Nat) (W : World), W = wr ∧ k ≤ 7 ∧ i = .int .i64 (k : Nat) ∧ v = .slice la k lc ∧ wr.ownsRow w4.heap.size 24 4 (.slice la k lc) k (ndl gN R C k) ∧ (∀ j, j < k → 2 ≤ C j ∧ Ri wr w4.heap.size (R j) 2) ∧ Below w4.heap.size w4 wr) (fun _ i _ => 7 - (intOf i).toNat)
      case atStart => exact ⟨0, none, 0, fun _ => 0, fun _ => 0, _, rfl, by omega, rfl, rfl, World.ownsRow_nil _ _ _ _, fun j hj => absurd hj (Nat.not_lt_zero j), HBX.out⟩
      case round =>
        obtain ⟨k, la, lc, R, C, wy, rfl, hk, rfl, rfl, hO, hR, hBy⟩ := hrel
        have HO := Lib.hid hO; have HR := Lib.hid hR; have HBY := Lib.hid hBy
        have HSY := Lib.hid (HST.out.same hBy)
        clear hO hR hBy
        by_cases hk9 : k < 7
        · have i2 : (k : Int) < 7 := by omega
          have HK9 := Lib.hid hk9
          have HCH := Lib.hid (copyNote_any gN (some ⟨wr0, 0, none⟩) 2 (by decide) wy HSY.out.rows (fun e => by cases e))
          unfold nV at HCH
          obtain ⟨c0, c1, c2, c3⟩ := HSY.out.good.c
          go_wp2_with fail
          clear c0 c1 c2 c3
          refine HCH.out.mono ?_
          rintro e wz ⟨a', c', rfl, ho, hBz⟩
          have HOZ := Lib.hid (own_be HO.out hBz)
          have HSZ := Lib.hid (HSY.out.same hBz)
          have HBZ := Lib.hid (HBY.out.trans (hBz.mono HBY.out.size))
          have HRZ := Lib.hid (fun j (hj : j < k) => (⟨(HR.out j hj).1, (HR.out j hj).2.kept (hBz.block _ (HR.out j hj).2.lt)⟩ : 2 ≤ C j ∧ Ri wz w4.heap.size (R j) 2))
          have HNW := Lib.hid (own_row ho (by decide) (show w4.heap.size ≤ wy.heap.size from HBY.out.size))
          obtain ⟨r', rfl, hr1, hr2⟩ := HNW.out
          have HR1 := Lib.hid hr1; have HR2 := Lib.hid hr2
          clear ho hBz HCH HNW HO HR HBY HSY hr1 hr2
          have hba : Below wz.heap.size wz (wz.alloc (.cells #[.int .i64 gN.S, .int .i64 gN.Q, .int .i64 gN.N, .slice (some ⟨r', 0, none⟩) gN.m c'] 24)) := (Below.refl _ wz).alloc (Nat.le_refl _) _
          have HOA := Lib.hid (own_be HOZ.out hba)
          have HBA := Lib.hid hba
          have HWA := Lib.hid (show w4.heap.size ≤ (wz.alloc (.cells #[.int .i64 gN.S, .int .i64 gN.Q, .int .i64 gN.N, .slice (some ⟨r', 0, none⟩) gN.m c'] 24)).heap.size from Nat.le_trans HBZ.out.size hba.size)
          clear hba
          have hk9 := HK9.out
          go_wp2_with (at_builtin; refine wpList_append_own _ rfl _ _ 42 rfl w4.heap.size 24 j0 (.agg #[.int .i64 0, .int .i64 0, .int .i64 0, .slice none 0 0]) 4 48 Try.underlying42 HI.out HZ0.out HZ1.out HZ2.out rfl (by decide) (.slice la k lc) k _ rfl HOA.out ⟨wz.heap.size, 0, none⟩ 1 1 [.int .i64 gN.S, .int .i64 gN.Q, .int .i64 gN.N, .slice (some ⟨r', 0, none⟩) gN.m c'] rfl rfl (cell_new4 wz _ _ _ _ _) (ones4 _ _ _ _ _ _) (by unfold maxLen; omega) (by omega) HWA.out ?_; intro v' wq hown hg _; obtain ⟨l2, lc2, rfl⟩ := own_sl hown; have HOQ := Lib.hid hown; have HGQ := Lib.hid hg; clear hown hg)
          have HRQ := Lib.hid (show ∀ j, j < k + 1 → 2 ≤ (if j = k then c' else C j) ∧ Ri wq w4.heap.size (if j = k then r' else R j) 2 from fun j hj => by
            by_cases e : j = k
            · rw [if_pos e, if_pos e]
              have hr := HR2.out.kept (HBA.out.block _ HR2.out.lt)
              exact ⟨HR1.out, hr.kept (HGQ.out.block _ hr.lt (own_ne_ri HOA.out hr))⟩
            · rw [if_neg e, if_neg e]
              have h0 := HRZ.out j (by omega)
              have hr := h0.2.kept (HBA.out.block _ h0.2.lt)
              exact ⟨h0.1, hr.kept (HGQ.out.block _ hr.lt (own_ne_ri HOA.out hr))⟩)
          have HOR := Lib.hid (show wq.ownsRow w4.heap.size 24 4 (.slice l2 (k + 1) lc2) (k + 1) (ndl gN (fun j => if j = k then r' else R j) (fun j => if j = k then c' else C j) (k + 1)) by
            have e : ndl gN (fun j => if j = k then r' else R j) (fun j => if j = k then c' else C j) (k + 1) = ndl gN R C k ++ [Value.int .i64 gN.S, .int .i64 gN.Q, .int .i64 gN.N, .slice (some ⟨r', 0, none⟩) gN.m c'] := by
              show ndl _ _ _ k ++ [_, _, _, _] = _
              rw [ndl_congr gN (R' := R) (C' := C) k (fun i hi => ⟨if_neg (by omega), if_neg (by omega)⟩)]
              simp
            rw [e]; exact HOQ.out)
          have HBQ := Lib.hid (HBZ.out.trans ((HBA.out.mono HBZ.out.size).trans ((Below.refl w4.heap.size _).grown HGQ.out HWA.out (fun r e => (HOA.out.lt r e).1))))
          clear HOQ HGQ HOA HBA HWA HOZ HBZ HRZ HR1 HR2 HSZ
          go_wp2
          go_roundw
          case rel => exact ⟨k + 1, l2, lc2, _, _, _, rfl, by omega, by go_num, rfl, HOR.out, HRQ.out, HBQ.out⟩
          case measure => simp [intOf]; omega
        · obtain rfl : k = 7 := by omega
          have i2 : ¬ ((7 : Nat) : Int) < 7 := by omega
          obtain ⟨g, rfl, HLC, hls⟩ := ls_of HO.out HR.out
          have HLS := Lib.hid hls
          have hlc := HLC
          clear HO HR hls HBX
          have i1 : (n : Int) < 14 := by have := HLT.out; omega
          go_upto_region 11 with fail
          obtain ⟨z, hz⟩ := end_cell HSY.out.ends HLT.out
          obtain ⟨zz, hc⟩ := HLS.out.num (k := 0) (j := 0) (by decide) (by decide)
          have ff := HLS.out.free 0
          replace hc : wy.cell? ⟨g, 0, none⟩ = some (.int .i64 zz) := hc
          have i1 : (n : Int) < 14 := by have := HLT.out; omega
          go_upto_region 12 with fail
          obtain ⟨wy', hwy⟩ : ∃ W, W = wy.setCell ⟨g, 0, none⟩ (.int .i64 z) := ⟨_, rfl⟩
          rw [← hwy]
          have HLS' := Lib.hid (show Ls wy' w4.heap.size g by rw [hwy]; exact HLS.out.setN (k := 0) (j := 0) (by decide) (by decide) z)
          have HBY' := Lib.hid (show Below w4.heap.size w4 wy' by rw [hwy]; exact HBY.out.setCell (show w4.heap.size ≤ g from HLS.out.1) _)
          clear hwy hz hc ff HLS HBY HSY
          obtain ⟨wy, ewy⟩ : ∃ W, W = wy' := ⟨_, rfl⟩
          rw [← ewy] at HLS' HBY' ⊢
          clear ewy wy'
          have HLS := HLS'; have HBY := HBY'
          have HSY := Lib.hid (HST.out.same HBY.out)
          clear HLS' HBY'
          obtain ⟨z, hz⟩ := end_cell HSY.out.ends HLT.out
          obtain ⟨zz, hc⟩ := HLS.out.num (k := 1) (j := 1) (by decide) (by decide)
          have ff := HLS.out.free 5
          replace hc : wy.cell? ⟨g, 5, none⟩ = some (.int .i64 zz) := hc
          have i1 : (n : Int) < 14 := by have := HLT.out; omega
          go_upto_region 13 with fail
          obtain ⟨wy', hwy⟩ : ∃ W, W = wy.setCell ⟨g, 5, none⟩ (.int .i64 z) := ⟨_, rfl⟩
          rw [← hwy]
          have HLS' := Lib.hid (show Ls wy' w4.heap.size g by rw [hwy]; exact HLS.out.setN (k := 1) (j := 1) (by decide) (by decide) z)
          have HBY' := Lib.hid (show Below w4.heap.size w4 wy' by rw [hwy]; exact HBY.out.setCell (show w4.heap.size ≤ g from HLS.out.1) _)
          clear hwy hz hc ff HLS HBY HSY
          obtain ⟨wy, ewy⟩ : ∃ W, W = wy' := ⟨_, rfl⟩
          rw [← ewy] at HLS' HBY' ⊢
          clear ewy wy'
          have HLS := HLS'; have HBY := HBY'
          have HSY := Lib.hid (HST.out.same HBY.out)
          clear HLS' HBY'
          obtain ⟨z, hz⟩ := end_cell HSY.out.ends HLT.out
          obtain ⟨zz, hc⟩ := HLS.out.num (k := 2) (j := 2) (by decide) (by decide)
          have ff := HLS.out.free 10
          replace hc : wy.cell? ⟨g, 10, none⟩ = some (.int .i64 zz) := hc
          have i1 : (n : Int) < 14 := by have := HLT.out; omega
          go_upto_region 14 with fail
          obtain ⟨wy', hwy⟩ : ∃ W, W = wy.setCell ⟨g, 10, none⟩ (.int .i64 z) := ⟨_, rfl⟩
          rw [← hwy]
          have HLS' := Lib.hid (show Ls wy' w4.heap.size g by rw [hwy]; exact HLS.out.setN (k := 2) (j := 2) (by decide) (by decide) z)
          have HBY' := Lib.hid (show Below w4.heap.size w4 wy' by rw [hwy]; exact HBY.out.setCell (show w4.heap.size ≤ g from HLS.out.1) _)
          clear hwy hz hc ff HLS HBY HSY
          obtain ⟨wy, ewy⟩ : ∃ W, W = wy' := ⟨_, rfl⟩
          rw [← ewy] at HLS' HBY' ⊢
          clear ewy wy'
          have HLS := HLS'; have HBY := HBY'
          have HSY := Lib.hid (HST.out.same HBY.out)
          clear HLS' HBY'
          obtain ⟨z, hz⟩ := end_cell HSY.out.ends HLT.out
          obtain ⟨r, c, hrw, hrc, hri⟩ := HLS.out.row (k := 3) (by decide)
          replace hrw : wy.cell? ⟨g, 15, none⟩ = some (.slice (some ⟨r, 0, none⟩) 2 c) := hrw
          replace hrc : 2 ≤ c := hrc
          have HRI := Lib.hid hri
          have HNG := Lib.hid (show r ≠ g from by
            obtain ⟨_, vs, hv, _⟩ := HLS.out
            exact hri.ne hv)
          obtain ⟨zz, hc⟩ := hri.cell (j := 0) (by decide)
          have ff := hri.free 0
          have i1 : (n : Int) < 14 := by have := HLT.out; omega
          clear hri
          go_upto_region 14 with fail
          refine Rb.wp_region_quiet_tail 10 (by kernel_rfl) (by kernel_rfl) ?_
          simp only [List.take_succ_cons, List.take_zero, List.drop_succ_cons, List.drop_zero]
          repeat (go_big_quiet_step (fail))
          refine wpQuiet_nil ?_
          rintro _ ⟨kk, rfl⟩
          go_upto_region 15 with fail
          obtain ⟨wy', hwy⟩ : ∃ W, W = (wy.drewN kk).setCell ⟨r, 0, none⟩ (.int .i64 z) := ⟨_, rfl⟩
          rw [← hwy]
          have hdr : Below wy.heap.size wy (wy.drewN kk) := below_dr (Below.refl _ _) kk
          have HLS' := Lib.hid (show Ls wy' w4.heap.size g by rw [hwy]; exact (HLS.out.same hdr).setR HNG.out z)
          have HBY' := Lib.hid (show Below w4.heap.size w4 wy' by rw [hwy]; exact (HBY.out.trans (hdr.mono HBY.out.size)).setCell (show w4.heap.size ≤ r from HRI.out.1) _)
          clear hwy hz hc ff hrw hrc HRI HNG hdr HLS HBY HSY
          obtain ⟨wy, ewy⟩ : ∃ W, W = wy' := ⟨_, rfl⟩
          rw [← ewy] at HLS' HBY' ⊢
          clear ewy wy'
          have HLS := HLS'; have HBY := HBY'
          have HSY := Lib.hid (HST.out.same HBY.out)
          clear HLS' HBY'
          obtain ⟨z, hz⟩ := end_cell HSY.out.ends HLT.out
          obtain ⟨r, c, hrw, hrc, hri⟩ := HLS.out.row (k := 4) (by decide)
          replace hrw : wy.cell? ⟨g, 19, none⟩ = some (.slice (some ⟨r, 0, none⟩) 2 c) := hrw
          replace hrc : 2 ≤ c := hrc
          have HRI := Lib.hid hri
          have HNG := Lib.hid (show r ≠ g from by
            obtain ⟨_, vs, hv, _⟩ := HLS.out
            exact hri.ne hv)
          obtain ⟨zz, hc⟩ := hri.cell (j := 2) (by decide)
          have ff := hri.free 2
          have i1 : (n : Int) < 14 := by have := HLT.out; omega
          clear hri
          go_upto_region 15 with fail
          refine Rb.wp_region_quiet_tail 10 (by kernel_rfl) (by kernel_rfl) ?_
          simp only [List.take_succ_cons, List.take_zero, List.drop_succ_cons, List.drop_zero]
          repeat (go_big_quiet_step (fail))
          refine wpQuiet_nil ?_
          rintro _ ⟨kk, rfl⟩
          go_upto_region 16 with fail
          obtain ⟨wy', hwy⟩ : ∃ W, W = (wy.drewN kk).setCell ⟨r, 2, none⟩ (.int .i64 z) := ⟨_, rfl⟩
          rw [← hwy]
          have hdr : Below wy.heap.size wy (wy.drewN kk) := below_dr (Below.refl _ _) kk
          have HLS' := Lib.hid (show Ls wy' w4.heap.size g by rw [hwy]; exact (HLS.out.same hdr).setR HNG.out z)
          have HBY' := Lib.hid (show Below w4.heap.size w4 wy' by rw [hwy]; exact (HBY.out.trans (hdr.mono HBY.out.size)).setCell (show w4.heap.size ≤ r from HRI.out.1) _)
          clear hwy hz hc ff hrw hrc HRI HNG hdr HLS HBY HSY
          obtain ⟨wy, ewy⟩ : ∃ W, W = wy' := ⟨_, rfl⟩
          rw [← ewy] at HLS' HBY' ⊢
          clear ewy wy'
          have HLS := HLS'; have HBY := HBY'
          have HSY := Lib.hid (HST.out.same HBY.out)
          clear HLS' HBY'
          obtain ⟨z, hz⟩ := end_cell HSY.out.ends HLT.out
          obtain ⟨r, c, hrw, hrc, hri⟩ := HLS.out.row (k := 5) (by decide)
          replace hrw : wy.cell? ⟨g, 23, none⟩ = some (.slice (some ⟨r, 0, none⟩) 2 c) := hrw
          replace hrc : 2 ≤ c := hrc
          have HRI := Lib.hid hri
          have HNG := Lib.hid (show r ≠ g from by
            obtain ⟨_, vs, hv, _⟩ := HLS.out
            exact hri.ne hv)
          obtain ⟨zz, hc⟩ := hri.cell (j := 1) (by decide)
          have ff := hri.free 1
          have i1 : (n : Int) < 14 := by have := HLT.out; omega
          clear hri
          go_upto_region 16 with fail
          refine Rb.wp_region_quiet_tail 10 (by kernel_rfl) (by kernel_rfl) ?_
          simp only [List.take_succ_cons, List.take_zero, List.drop_succ_cons, List.drop_zero]
          repeat (go_big_quiet_step (fail))
          refine wpQuiet_nil ?_
          rintro _ ⟨kk, rfl⟩
          go_upto_region 17 with fail
          obtain ⟨wy', hwy⟩ : ∃ W, W = (wy.drewN kk).setCell ⟨r, 1, none⟩ (.int .i64 z) := ⟨_, rfl⟩
          rw [← hwy]
          have hdr : Below wy.heap.size wy (wy.drewN kk) := below_dr (Below.refl _ _) kk
          have HLS' := Lib.hid (show Ls wy' w4.heap.size g by rw [hwy]; exact (HLS.out.same hdr).setR HNG.out z)
          have HBY' := Lib.hid (show Below w4.heap.size w4 wy' by rw [hwy]; exact (HBY.out.trans (hdr.mono HBY.out.size)).setCell (show w4.heap.size ≤ r from HRI.out.1) _)
          clear hwy hz hc ff hrw hrc HRI HNG hdr HLS HBY HSY
          obtain ⟨wy, ewy⟩ : ∃ W, W = wy' := ⟨_, rfl⟩
          rw [← ewy] at HLS' HBY' ⊢
          clear ewy wy'
          have HLS := HLS'; have HBY := HBY'
          have HSY := Lib.hid (HST.out.same HBY.out)
          clear HLS' HBY'
          obtain ⟨z, hz⟩ := end_cell HSY.out.ends HLT.out
          obtain ⟨r, c, hrw, hrc, hri⟩ := HLS.out.row (k := 6) (by decide)
          replace hrw : wy.cell? ⟨g, 27, none⟩ = some (.slice (some ⟨r, 0, none⟩) 2 c) := hrw
          replace hrc : 2 ≤ c := hrc
          have HRI := Lib.hid hri
          have HNG := Lib.hid (show r ≠ g from by
            obtain ⟨_, vs, hv, _⟩ := HLS.out
            exact hri.ne hv)
          obtain ⟨zz, hc⟩ := hri.cell (j := 3) (by decide)
          have ff := hri.free 3
          have i1 : (n : Int) < 14 := by have := HLT.out; omega
          clear hri
          go_upto_region 17 with fail
          refine Rb.wp_region_quiet_tail 10 (by kernel_rfl) (by kernel_rfl) ?_
          simp only [List.take_succ_cons, List.take_zero, List.drop_succ_cons, List.drop_zero]
          repeat (go_big_quiet_step (fail))
          refine wpQuiet_nil ?_
          rintro _ ⟨kk, rfl⟩
          go_upto_region 18 with fail
          obtain ⟨wy', hwy⟩ : ∃ W, W = (wy.drewN kk).setCell ⟨r, 3, none⟩ (.int .i64 z) := ⟨_, rfl⟩
          rw [← hwy]
          have hdr : Below wy.heap.size wy (wy.drewN kk) := below_dr (Below.refl _ _) kk
          have HLS' := Lib.hid (show Ls wy' w4.heap.size g by rw [hwy]; exact (HLS.out.same hdr).setR HNG.out z)
          have HBY' := Lib.hid (show Below w4.heap.size w4 wy' by rw [hwy]; exact (HBY.out.trans (hdr.mono HBY.out.size)).setCell (show w4.heap.size ≤ r from HRI.out.1) _)
          clear hwy hz hc ff hrw hrc HRI HNG hdr HLS HBY HSY
          obtain ⟨wy, ewy⟩ : ∃ W, W = wy' := ⟨_, rfl⟩
          rw [← ewy] at HLS' HBY' ⊢
          clear ewy wy'
          have HLS := HLS'; have HBY := HBY'
          have HSY := Lib.hid (HST.out.same HBY.out)
          clear HLS' HBY'
          go_wp2_with fail
          go_loopw [6] (fun i wr => ∃ (k : Nat) (W : World), W = wr ∧ k ≤ 7 ∧ i = .int .i64 (k : Nat) ∧ Below wy.heap.size wy wr) (fun i _ => 7 - (intOf i).toNat)
          case atStart => exact ⟨0, _, rfl, by omega, rfl, Below.refl _ _⟩
          case round =>
            obtain ⟨k, wv, rfl, hk, rfl, hBv⟩ := hrel
            have HBV := Lib.hid hBv
            clear hBv
            by_cases hk9 : k < 7
            · have i2 : (k : Int) < 7 := by omega
              have HK9 := Lib.hid hk9
              have HLV := Lib.hid (HLS.out.same HBV.out)
              have HSV := Lib.hid (HSY.out.same HBV.out)
              obtain ⟨x, rx, cx, hxm, hxc, hxT, e0, e1, e2, e3⟩ := HLV.out.note hk9
              have HXM := Lib.hid hxm
              have HXT := Lib.hid hxT; have HXC := Lib.hid hxc
              have hlt9 := HLT.out
              obtain ⟨n7, hn7⟩ : ∃ n7 : Nat, ((n : Int) + (k : Int)).tmod 7 = (n7 : Int) := ⟨(n + k) % 7, rfl⟩
              have h7 : n7 ≤ 6 := by
                have h := Int.tmod_lt_of_pos ((n : Int) + (k : Int)) (show (0 : Int) < 7 by decide)
                omega
              obtain ⟨z, hz⟩ := end_cell HSV.out.ends (show n7 < 14 by omega)
              have HP1 := Lib.hid (fun W (hW : Below wv.heap.size wv W) => notePuts_any x (some ⟨rx, 0, none⟩) cx z (by have := HXM.out; omega) (fun e => by cases e) HXC.out W (HXT.out.same hW))
              unfold nV at HP1
              clear hxm hxc hxT
              have ye0 := fun d os => cell_regrown e0 d os
              have ye1 := fun d os => cell_regrown e1 d os
              have ye2 := fun d os => cell_regrown e2 d os
              have ye3 := fun d os => cell_regrown e3 d os
              have yz := fun d os => cell_regrown hz d os
              go_upto_region 21 with fail
              refine wp_region_quiet_below (by kernel_rfl) (by kernel_rfl) ?_
              repeat (go_big_quiet_step ((go_at_call 3; exact Calls.regrown_of (HP1.out _ (below_regrown _ _ _)))))
              refine wpQuiet_nil ?_
              rintro W1 ⟨pq, hW1⟩
              have hB1 : Below wv.heap.size wv W1 := by rw [hW1]; exact below_regrown _ _ _
              have HB1 := Lib.hid (HBV.out.trans (hB1.mono HBV.out.size))
              clear hW1 hB1 HP1 HSV HLV HXT HXC HXM hn7 h7 ye0 e0 ye1 e1 ye2 e2 ye3 e3 hz yz
              have hk9 := HK9.out
              go_wp2
              go_roundw
              case rel => exact ⟨k + 1, _, rfl, by omega, by go_num, HB1.out⟩
              case measure => simp [intOf]; omega
            · obtain rfl : k = 7 := by omega
              have i2 : ¬ ((7 : Nat) : Int) < 7 := by omega
              have HBW := Lib.hid (HBY.out.trans (HBV.out.mono HBY.out.size))
              clear HBV
              have hlt14 := HLT.out
              go_wp2
              go_roundw
              case rel => exact ⟨n + 1, _, rfl, by omega, by go_num, HBW.out⟩
              case measure => simp [intOf]; omega
    · obtain rfl : n = 14 := by omega
      have i1 : ¬ ((14 : Nat) : Int) < 14 := by omega
      go_upto_region 23 with fail
      have HSX := Lib.hid (HST.out.same HBX.out)
      clear HST HBX
      have HRP := Lib.hid (rput_any gN (some ⟨wr0, 0, none⟩) 2 (by decide) wx HSX.out.rows)
      unfold nV at HRP
      obtain ⟨c0, c1, c2, c3⟩ := HSX.out.good.c
      go_wp2_with fail
      clear c0 c1 c2 c3
      refine HRP.out.mono ?_
      rintro e wb ⟨hput, hBb⟩
      have HSB := Lib.hid (HSX.out.same hBb)
      clear hBb HRP HSX
      rcases hput with ⟨hq1, pa, pc, he, hN⟩ | ⟨hno, _⟩
      rotate_left
      · exact absurd gN_right hno
      obtain rfl : e = .returned (.tuple #[.slice pa 19 pc, .int .i64 0]) := he
      obtain ⟨F, hF⟩ : ∃ F, F = Crc.sealed (pl gN) 15 := ⟨_, rfl⟩
      have HSP := Lib.hid (show Sl wb pa 19 pc F by rw [hF]; exact hN.sl)
      have HPC := Lib.hid (show 19 ≤ pc from HSP.out.capOk)
      have HPM := Lib.hid (show pc ≤ maxLen from HSP.out.maxOk)
      clear hq1 hN hF
      have hsl : ∀ W, (Instr.slice 27 (.slice pa 19 pc) none (some (.int .i64 15)) none).run Try.prog W = .ok (.slice pa 15 pc) W := fun W => slice_h pa 19 pc 15 (by have := HPC.out; omega) W
      go_upto_region 25 with fail
      clear hsl
      go_wp2_with fail
      go_loopw [10] (fun i wr => ∃ (n : Nat) (W : World), W = wr ∧ n ≤ 16 ∧ i = .int .i64 (n : Nat) ∧ Below wb.heap.size wb wr) (fun i _ => 16 - (intOf i).toNat)
      case atStart => exact ⟨0, _, rfl, by omega, rfl, Below.refl _ _⟩
      case round =>
        obtain ⟨n, wx, rfl, hn, rfl, hBx⟩ := hrel
        have HBX := Lib.hid hBx
        clear hBx
        by_cases hlt : n ≤ 15
        · have i1 : (n : Int) ≤ 15 := by omega
          have HLT := Lib.hid hlt
          have hsl := slice_h pa 15 pc n (by have := HPC.out; omega)
          go_wp2_with fail
          clear hsl
          refine (noteParses_any pa n pc _ wx (sl_cutH (HSP.out.same HBX.out) (show n ≤ 19 by omega))).mono ?_
          rintro e wy ⟨rfl, hBy⟩
          have HBY := Lib.hid (HBX.out.trans (hBy.mono HBX.out.size))
          clear hBy HBX
          go_wp2_with fail
          go_loopw [11] (fun i wr => ∃ (k : Nat) (W : World), W = wr ∧ k ≤ 8 ∧ i = .int .i64 (k : Nat) ∧ Below wb.heap.size wb wr) (fun i _ => 8 - (intOf i).toNat)
          case atStart => exact ⟨0, _, rfl, by omega, rfl, HBY.out⟩
          case round =>
            obtain ⟨k, wv, rfl, hk, rfl, hBv⟩ := hrel
            have HBV := Lib.hid hBv
            clear hBv
            by_cases hgo : k < 8 ∧ n < 15
            · have d1 : decide ((k : Int) < 8) = true := by simp; omega
              have d2 : (n : Int) < 15 := by omega
              have d3 : (k : Int) < 8 := by omega
              have HGO := Lib.hid hgo
              have HAL := Lib.hid (show Below wv.heap.size wv (wv.alloc (.cells #[] 5)) from (Below.refl _ _).alloc (Nat.le_refl _) _)
              have HSC := Lib.hid (show Sl (wv.alloc (.cells #[] 5)) pa 15 pc (sub F 0 15) from (sl_cutH (HSP.out.same HBV.out) (by decide)).same HAL.out)
              go_upto_region 34 with (at_builtin; refine wpList_app rfl _ _ rfl wv.heap.size 0 15 pc (sub F 0 15) (sub F 0 15) (.slice (some ⟨wv.heap.size, 0, none⟩) 0 0) rfl (World.ownsRow_made wv #[] 0 (Nat.le_refl _) (by unfold maxLen; omega) rfl) pa rfl HSC.out (fun j hj => by rw [Nat.zero_add]) (by omega) HAL.out.size ?_; intro ta tc w8 hown8 hg8; rw [Nat.zero_add] at hown8; have HO8 := Lib.hid hown8; have HG8 := Lib.hid hg8; clear hown8 hg8)
              have hFb : Pf.By (sub F 0 15) := sub_by HSP.out.bytes 0 15
              obtain ⟨ta', tc', hv', hN8⟩ := owns_new HO8.out hFb (sub_up F 0 15)
              simp only [Value.slice.injEq, true_and] at hv'
              obtain ⟨rfl, rfl⟩ := hv'
              have hB8 : Below wb.heap.size wb w8 := HBV.out.trans ((HAL.out.trans ((Below.refl wv.heap.size _).grown HG8.out HAL.out.size (fun r e => by cases e; exact Nat.le_refl _))).mono HBV.out.size)
              rcases hN8.cond with ⟨_, h0, _⟩ | ⟨q, rfl, hq, hbl⟩
              · omega
              have htc : 15 ≤ tc ∧ tc ≤ maxLen := ⟨hN8.sl.capOk, hN8.sl.maxOk⟩
              have hb9 : Below w8.heap.size w8 (w8.alloc (.cells #[.int .u8 0, .int .u8 1, .int .u8 2, .int .u8 3, .int .u8 4, .int .u8 5, .int .u8 128, .int .u8 255] 5)) := (Below.refl _ _).alloc (Nat.le_refl _) _
              have hl9 := sl_lit w8 [0, 1, 2, 3, 4, 5, 128, 255] (by decide) (by decide)
              obtain ⟨v, hv⟩ : ∃ v, v = [0, 1, 2, 3, 4, 5, 128, 255].getD k 0 := ⟨_, rfl⟩
              have hvb : v < 256 := by rw [hv]; exact hl9.bytes k
              have cl : (w8.alloc (.cells #[.int .u8 0, .int .u8 1, .int .u8 2, .int .u8 3, .int .u8 4, .int .u8 5, .int .u8 128, .int .u8 255] 5)).cell? ⟨w8.heap.size, k, none⟩ = some (.int .u8 (v : Nat)) := by
                have h := hl9.cell _ rfl k (by show k < 8; omega)
                rw [hv]
                simpa using h
              have hb9' : Bl (w8.alloc (.cells #[.int .u8 0, .int .u8 1, .int .u8 2, .int .u8 3, .int .u8 4, .int .u8 5, .int .u8 128, .int .u8 255] 5)) q 15 tc (sub F 0 15) := hbl.kept (hb9.block q hbl.lt)
              have HBL := Lib.hid hb9'
              have cq := hb9'.cell (i := n) (by omega)
              have fq := hb9'.free n
              have HB8 := Lib.hid hB8; have HB9 := Lib.hid hb9; have HTC := Lib.hid htc; have HVB := Lib.hid hvb; have HFB := Lib.hid hFb
              have HQB := Lib.hid (show wb.heap.size ≤ q from Nat.le_trans HBV.out.size hq)
              clear hv hl9 hb9' hb9 hB8 hN8 hbl htc hvb hFb HO8 HG8 HSC HAL hq
              go_upto_region 35 with fail
              obtain ⟨wA, hwA⟩ : ∃ W, W = (w8.alloc (.cells #[.int .u8 0, .int .u8 1, .int .u8 2, .int .u8 3, .int .u8 4, .int .u8 5, .int .u8 128, .int .u8 255] 5)).setCell ⟨q, n, none⟩ (.int .u8 (v : Nat)) := ⟨_, rfl⟩
              rw [← hwA]
              have HBA := Lib.hid (show Below wb.heap.size wb wA by rw [hwA]; exact (HB8.out.trans (HB9.out.mono HB8.out.size)).setCell (show wb.heap.size ≤ q from HQB.out) _)
              have HSA := Lib.hid (show ∃ G, Sl wA (some ⟨q, 0, none⟩) 15 tc G from ⟨fun j => if j = n then v else sub F 0 15 j, by
                rw [hwA]
                refine (HBL.out.set (show n < 15 by have := HGO.out.2; omega) v).sl HTC.out.1 HTC.out.2 (fun j => ?_) (fun j hj => ?_)
                · show (if _ then _ else _) < 256
                  split
                  · exact HVB.out
                  · exact HFB.out j
                · show (if _ then _ else _) = 0
                  rw [if_neg (by have := HGO.out.2; omega)]
                  exact sub_up F 0 15 j hj⟩)
              obtain ⟨G, hsG⟩ := HSA.out
              have HSG := Lib.hid hsG
              clear hwA hsG HSA HBL cl cq fq HB8 HB9
              go_wp2_with fail
              refine (noteParses_any (some ⟨q, 0, none⟩) 15 tc G wA HSG.out).mono ?_
              rintro e wC ⟨rfl, hBC⟩
              have HBC := Lib.hid (HBA.out.trans (hBC.mono HBA.out.size))
              clear hBC HBA HSG
              have hk8 := HGO.out.1
              go_wp2
              go_roundw
              case rel => exact ⟨k + 1, _, rfl, by omega, by go_num, HBC.out⟩
              case measure => simp [intOf]; omega
            · by_cases hk8 : k < 8
              · have d3 : (k : Int) < 8 := by omega
                have d2 : ¬ (n : Int) < 15 := by omega
                have hlt := HLT.out
                clear hgo
                go_wp2
                go_roundw
                case rel => exact ⟨n + 1, _, rfl, by omega, by go_num, HBV.out⟩
                case measure => simp [intOf]; omega
              · have d3 : ¬ (k : Int) < 8 := by omega
                have hlt := HLT.out
                clear hgo
                go_wp2
                go_roundw
                case rel => exact ⟨n + 1, _, rfl, by omega, by go_num, HBV.out⟩
                case measure => simp [intOf]; omega
        · obtain rfl : n = 16 := by omega
          have i1 : ¬ ((16 : Nat) : Int) ≤ 15 := by omega
          go_upto_region 37 with fail
          go_upto_region 38 with fail
          obtain ⟨w5, hw5⟩ : ∃ W, W = wx.alloc (.cells #[.int .i64 0, .int .i64 1, .int .i64 255, .slice none 0 0] 24) := ⟨_, rfl⟩
          rw [← hw5]
          have hb5 : Below wx.heap.size wx w5 := by rw [hw5]; exact (Below.refl _ _).alloc (Nat.le_refl _) _
          have HE5 := Lib.hid (show NAt w5 wx.heap.size ⟨0, 1, 255, 0, aC, aT⟩ none 0 by rw [hw5]; exact heap_alloc_new _ _)
          have HB5 := Lib.hid (HBX.out.trans (hb5.mono HBX.out.size))
          have HGE := Lib.hid (show wb.heap.size ≤ wx.heap.size from HBX.out.size)
          obtain ⟨gA, hgA⟩ : ∃ g, g = wx.heap.size := ⟨_, rfl⟩
          rw [← hgA] at HE5 HGE ⊢
          clear hw5 hb5 hgA HBX
          obtain ⟨j0, hi, hz0, hz1, hz2⟩ := info_parts Try.infoCt
          have HI := Lib.hid hi; have HZ0 := Lib.hid hz0; have HZ1 := Lib.hid hz1; have HZ2 := Lib.hid hz2
          clear hi hz0 hz1 hz2
          go_wp2_with fail
          go_loopw [14] (fun i wr => ∃ (j : Nat) (la : Option Addr) (lc : Nat) (W : World), W = wr ∧ j ≤ 255 ∧ i = .int .i64 ((j : Int) + 1) ∧ NAt wr gA ⟨0, 1, 255, j, aC, aT⟩ la lc ∧ wr.ownsRow wb.heap.size 41 2 (.slice la j lc) j (tdl aC aT j) ∧ Below wb.heap.size wb wr) (fun i _ => 257 - (intOf i).toNat)
          case atStart => exact ⟨0, none, 0, _, rfl, by omega, rfl, HE5.out, World.ownsRow_nil _ _ _ _, HB5.out⟩
          case round =>
            obtain ⟨j, la, lc, wv, rfl, hj, rfl, hE, hO, hBv⟩ := hrel
            have HEV := Lib.hid hE; have HO := Lib.hid hO; have HBV := Lib.hid hBv
            clear hE hO hBv
            obtain ⟨c0, c1, c2, c3⟩ : wv.cell? ⟨gA, 0, none⟩ = some (.int .i64 0) ∧ wv.cell? ⟨gA, 1, none⟩ = some (.int .i64 1) ∧ wv.cell? ⟨gA, 2, none⟩ = some (.int .i64 255) ∧ wv.cell? ⟨gA, 3, none⟩ = some (.slice la j lc) := HEV.out.c
            obtain ⟨j1, hj1⟩ : ∃ j1 : Int, j1 = (j : Int) + 1 := ⟨_, rfl⟩
            rw [← hj1]
            have HJ1 := Lib.hid hj1
            by_cases hlt : j < 255
            · have i2 : j1 ≤ 255 := by omega
              have i3 : 1 ≤ j1 := by omega
              have HLT := Lib.hid hlt
              have hba : Below wv.heap.size wv (wv.alloc (.cells #[.int .i64 j1, .int .i64 (j1 * 257)] 41)) := (Below.refl _ wv).alloc (Nat.le_refl _) _
              have HOA := Lib.hid (own_be HO.out hba)
              have HEA := Lib.hid (HEV.out.same hba)
              have HBA := Lib.hid hba
              have HWA := Lib.hid (show wb.heap.size ≤ (wv.alloc (.cells #[.int .i64 j1, .int .i64 (j1 * 257)] 41)).heap.size from Nat.le_trans HBV.out.size hba.size)
              clear hba hj1
              go_upto_region 40 with (at_builtin; refine wpList_append_own _ rfl _ _ 22 rfl wb.heap.size 41 j0 (.agg #[.int .i64 0, .int .i64 0]) 2 16 Try.underlying22 HI.out HZ0.out HZ1.out HZ2.out rfl (by decide) (.slice la j lc) j _ rfl HOA.out ⟨wv.heap.size, 0, none⟩ 1 1 [.int .i64 j1, .int .i64 (j1 * 257)] rfl rfl (cell_new2 wv _ _ _) (int_ones _ _) (by unfold maxLen; omega) (by omega) HWA.out ?_; intro v' wq hown hg _; obtain ⟨l2, lc2, rfl⟩ := own_sl hown; have HOQ := Lib.hid hown; have HGQ := Lib.hid hg; clear hown hg; have HEQ := Lib.hid (show NAt wq gA ⟨0, 1, 255, j, aC, aT⟩ la lc from (HGQ.out.block gA HEA.out.lt (own_ne_nt HOA.out HEA.out)).trans HEA.out); have q3 : wq.cell? ⟨gA, 3, none⟩ = some (.slice la j lc) := HEQ.out.c.2.2.2; have ff := HEQ.out.free 3)
              have HBQ := Lib.hid (HBV.out.trans ((HBA.out.mono HBV.out.size).trans ((Below.refl wb.heap.size _).grown HGQ.out HWA.out (fun r e => (HOA.out.lt r e).1))))
              obtain ⟨wy, hwy⟩ : ∃ W, W = wq.setCell ⟨gA, 3, none⟩ (.slice l2 (j + 1) lc2) := ⟨_, rfl⟩
              rw [← hwy]
              have HEY := Lib.hid (show NAt wy gA ⟨0, 1, 255, j + 1, aC, aT⟩ l2 lc2 by rw [hwy]; exact HEQ.out.s3 l2 (j + 1) lc2 aC aT)
              have HOY := Lib.hid (show wy.ownsRow wb.heap.size 41 2 (.slice l2 (j + 1) lc2) (j + 1) (tdl aC aT (j + 1)) by
                have e : tdl aC aT (j + 1) = tdl aC aT j ++ [Value.int .i64 j1, .int .i64 (j1 * 257)] := by rw [HJ1.out]; rfl
                rw [hwy, e]; exact own_set HOQ.out HEQ.out _)
              have HBY := Lib.hid (show Below wb.heap.size wb wy by rw [hwy]; exact HBQ.out.setCell (show wb.heap.size ≤ gA from HGE.out) _)
              clear hwy c0 c1 c2 c3 q3 ff HEV HO HBV HOA HEA HBA HWA HOQ HGQ HEQ HBQ
              go_wp2
              go_roundw
              case rel => exact ⟨j + 1, l2, lc2, _, rfl, by have := HLT.out; omega, by rw [HJ1.out]; go_num, HEY.out, HOY.out, HBY.out⟩
              case measure => have := HJ1.out; have := HLT.out; simp [intOf]; omega
            · obtain rfl : j = 255 := by omega
              have i2 : ¬ j1 ≤ 255 := by omega
              obtain ⟨r9, rfl, hc9, _⟩ := own_row HO.out (by decide) (Nat.le_refl _)
              have HC9 := Lib.hid hc9
              have HTV := Lib.hid (tdl_tb HO.out).1
              have HRQ := Lib.hid (rput_any ⟨0, 1, 255, 255, aC, aT⟩ (some ⟨r9, 0, none⟩) lc (by show (255 : Nat) ≤ _; omega) wv HTV.out)
              unfold nV at HRQ
              clear hc9 hlt hj hj1
              go_wp2_with fail
              clear c0 c1 c2 c3 i2
              refine HRQ.out.mono ?_
              rintro e wC ⟨hput, hBC⟩
              obtain ⟨qa, qn, qc, qz, G, he, hS, hn⟩ : ∃ qa qn qc, ∃ (z : Int) (G : Nat → Nat), e = .returned (.tuple #[.slice qa qn qc, .int .i64 z]) ∧ Sl wC qa qn qc G ∧ qn ≤ 100000 := by
                rcases hput with ⟨_, a5, c5, he, hN⟩ | ⟨_, he⟩
                · exact ⟨a5, _, c5, _, _, he, hN.sl, by show 9 + 3 * 255 + 4 ≤ 100000; omega⟩
                · exact ⟨none, 0, 0, _, _, he, Sl.none_ _ none 0 (Nat.zero_le _) (fun _ => rfl), by omega⟩
              subst he
              have HSG := Lib.hid hS; have HQN := Lib.hid hn
              have HTC := Lib.hid (HTV.out.same hBC); have HEC := Lib.hid (HEV.out.same hBC); have HBC := Lib.hid (HBV.out.trans (hBC.mono HBV.out.size))
              clear hput hBC hS hn HRQ HTV HEV HBV HO HE5 HB5
              have HPU := Lib.hid (notePuts_any ⟨0, 1, 255, 255, aC, aT⟩ (some ⟨r9, 0, none⟩) lc 255 (by show (255 : Nat) ≤ _; omega) (fun e => by cases e) HC9.out wC HTC.out)
              unfold nV at HPU
              obtain ⟨c0, c1, c2, c3⟩ : wC.cell? ⟨gA, 0, none⟩ = some (.int .i64 0) ∧ wC.cell? ⟨gA, 1, none⟩ = some (.int .i64 1) ∧ wC.cell? ⟨gA, 2, none⟩ = some (.int .i64 255) ∧ wC.cell? ⟨gA, 3, none⟩ = some (.slice (some ⟨r9, 0, none⟩) 255 lc) := HEC.out.c
              go_wp2_with fail
              clear c0 c1 c2 c3
              refine HPU.out.mono ?_
              rintro e wD ⟨rfl, hBD⟩
              have HSD := Lib.hid (HSG.out.same hBD); have HBD := Lib.hid (HBC.out.trans (hBD.mono HBC.out.size))
              clear hBD HPU HSG HBC HTC HEC
              go_wp2_with fail
              refine (parses_any qa qn qc G HQN.out wD HSD.out).mono ?_
              rintro e wE ⟨rfl, hBE⟩
              have HBE := Lib.hid (HBD.out.trans (hBE.mono HBD.out.size))
              clear hBE HSD HBD
              have HPV := Lib.hid (notePuts_any ⟨0, 1, 1, 0, fun _ => 0, fun _ => 0⟩ none 0 1 (by show (0 : Nat) ≤ _; omega) (fun _ => ⟨rfl, rfl⟩) (Nat.le_refl _) wE ⟨fun i hi => absurd hi (Nat.not_lt_zero i)⟩)
              unfold nV at HPV
              go_wp2_with fail
              refine HPV.out.mono ?_
              rintro e wy ⟨rfl, hBy⟩
              have HBY := Lib.hid (HBE.out.trans (hBy.mono HBE.out.size))
              clear hBy HPV HBE
              obtain ⟨F15, hF15⟩ : ∃ F15, F15 = sub F 0 15 := ⟨_, rfl⟩
              obtain ⟨F16, hF16⟩ : ∃ F16, F16 = fun i => if i = 15 then 1 else F15 i := ⟨_, rfl⟩
              have HFB := Lib.hid (show Pf.By F16 by
                rw [hF16, hF15]; intro i
                show (if _ then _ else _) < 256
                split
                · omega
                · exact sub_by HSP.out.bytes 0 15 i)
              have HFU := Lib.hid (show Pf.Up F16 16 by
                rw [hF16, hF15]; intro i hi
                show (if _ then _ else _) = 0
                rw [if_neg (by omega)]
                exact sub_up F 0 15 i (by omega))
              have HFE := Lib.hid (show ∀ j, j < 15 → F15 j = F16 (0 + j) from fun j hj => by
                rw [hF16, Nat.zero_add]
                show _ = if _ then _ else _
                rw [if_neg (by omega)])
              have HF1 := Lib.hid (show ∀ j, j < 1 → (fun i => [1].getD i 0) j = F16 (15 + j) from fun j hj => by
                obtain rfl : j = 0 := by omega
                rw [hF16]; rfl)
              have HA1 := Lib.hid (show Below wy.heap.size wy (wy.alloc (.cells #[] 5)) from (Below.refl _ _).alloc (Nat.le_refl _) _)
              have HSC := Lib.hid (show Sl (wy.alloc (.cells #[] 5)) pa 15 pc F15 from by rw [hF15]; exact (sl_cutH (HSP.out.same HBY.out) (by decide)).same HA1.out)
              obtain ⟨qp, rfl⟩ : ∃ qp, pa = some qp := by
                cases pa with
                | none => exact absurd (HSP.out.nil rfl).1 (by decide)
                | some qp => exact ⟨qp, rfl⟩
              have HPS := Lib.hid (HSP.out.same HBY.out)
              clear hF15 hF16 HSP
              go_wp2_with (first
                | (show wpList _ _ _ (⟨some 191, _, _, _, _, _⟩ :: _) _ _; refine wpList_app_g rfl _ _ rfl wy.heap.size (some ⟨wy.heap.size, 0, none⟩) 0 0 F16 rfl (World.ownsRow_made wy #[] 0 (Nat.le_refl _) (by unfold maxLen; omega) rfl) qp 15 pc F15 rfl HSC.out HFE.out (by omega) (by omega) HA1.out.size ?_; intro q1 k1 w7 hown7 hB7; rw [Nat.zero_add] at hown7; have HO7 := Lib.hid hown7; have HB7 := Lib.hid hB7; have HA2 := Lib.hid (show Below w7.heap.size w7 (w7.alloc (.cells #[.int .u8 1] 5)) from (Below.refl _ _).alloc (Nat.le_refl _) _); have HO7' := Lib.hid (own_be HO7.out HA2.out); have HSZ7 := Lib.hid (show wy.heap.size ≤ (w7.alloc (.cells #[.int .u8 1] 5)).heap.size from Nat.le_trans (Nat.le_trans HA1.out.size HB7.out.size) HA2.out.size); have HS0 := Lib.hid (sl_lit w7 [1] (by decide) (by decide)); clear hown7 hB7)
                | (show wpList _ _ _ (⟨some 193, _, _, _, _, _⟩ :: _) _ _; refine wpList_app_g rfl _ _ rfl wy.heap.size (some ⟨q1, 0, none⟩) 15 k1 F16 rfl HO7'.out ⟨w7.heap.size, 0, none⟩ 1 1 (fun i => [1].getD i 0) rfl HS0.out HF1.out (by omega) (by omega) HSZ7.out ?_; intro q2 k2 w8 hown8 hB8; have HO8 := Lib.hid hown8; have HB8 := Lib.hid hB8; clear hown8 hB8))
              obtain ⟨a8, c8, hv8, hN8⟩ := owns_new HO8.out HFB.out HFU.out
              simp only [Value.slice.injEq, true_and] at hv8
              obtain ⟨rfl, rfl⟩ := hv8
              have HS8 := Lib.hid hN8.sl
              have hB8w : Below wy.heap.size wy w8 := (((HA1.out.trans (HB7.out)).trans (HA2.out.mono (Nat.le_trans HA1.out.size HB7.out.size))).trans HB8.out)
              have HBW8 := Lib.hid (HBY.out.trans (hB8w.mono HBY.out.size))
              have HPS8 := Lib.hid (HPS.out.same hB8w)
              clear hN8 hB8w HO8 HB8 HS0 HSZ7 HO7' HA2 HB7 HO7 HSC HA1 HPS HBY
              refine (noteParses_any (some ⟨q2, 0, none⟩) 16 k2 F16 w8 HS8.out).mono ?_
              rintro e w9 ⟨rfl, hB9⟩
              have HPS9 := Lib.hid (HPS8.out.same hB9)
              have HBW9 := Lib.hid (HBW8.out.trans (hB9.mono HBW8.out.size))
              clear hB9 HPS8 HBW8 HS8
              go_wp2_with fail
              refine (parses_any (some qp) 19 pc F (by decide) w9 HPS9.out).mono ?_
              rintro e wA ⟨rfl, hBA⟩
              have HBWA := Lib.hid (HBW9.out.trans (hBA.mono HBW9.out.size))
              clear hBA HPS9 HBW9
              go_wp2_with fail
              refine (awake15_any wA).mono ?_
              rintro e wB ⟨rfl, hBB⟩
              have HBWB := Lib.hid (HSB.out.be.trans ((HBWA.out.trans (hBB.mono HBWA.out.size)).mono HSB.out.be.size))
              clear hBB HBWA
              go_wp2
              go_ret
              exact ⟨rfl, HBWB.out⟩
end Go.Proofs.Ytjlmajopfeplpaa.Nt
