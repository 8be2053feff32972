import Derived.Test.YtgflpfopiofjeaaGA
namespace Go.Proofs.Ytgflpfopiofjeaa
open Go.RowKit Go.Shelf

/-- what stands within so many rows and columns, else 0. -/
def cl (h w : Nat) (M : Nat → Nat → Nat) (i j : Nat) : Nat := if i < h ∧ j < w then M i j else 0
theorem cl_bm {M : Nat → Nat → Nat} (hM : Mt.Bm M) (h w : Nat) : Mt.Bm (cl h w M) := fun i j => by
  unfold cl; split
  · exact hM i j
  · omega
theorem cl_in {M : Nat → Nat → Nat} {h w i j : Nat} (hi : i < h) (hj : j < w) : cl h w M i j = M i j := if_pos ⟨hi, hj⟩
theorem cl_up (h w : Nat) (M : Nat → Nat → Nat) (i : Nat) : Pf.Up (cl h w M i) w := fun j hj => if_neg (by omega)
theorem unit_cl {n i j : Nat} (hi : i < n) : cutf Mt.dl n 0 n i j = cl n n Mt.dl i j := by
  unfold cutf sub cl
  rw [if_pos hi, Nat.zero_add]
  by_cases h : j < n
  · rw [if_pos h, if_pos ⟨hi, h⟩]
  · rw [if_neg h, if_neg (by omega)]
theorem Unit_yes (n : Nat) (hn : n ≤ 255) (w : World) : Calls Try.prog 17 #[.int .i64 (n : Nat)] w (MakesE w n n (cl n n Mt.dl)) :=
  (unit_yes n hn w).mono fun _ _ ⟨G, b, h1, h2, h3⟩ => ⟨G, b, h1, h2.congr (cl_bm Mt.dl_lt n n) fun _ _ hi => unit_cl hi, h3⟩

/-- what a call answers that hands out a row of bytes, and no error. -/
def GivesE (w : World) (n : Nat) (f : Nat → Nat) (e : Ending) (w' : World) : Prop :=
  ∃ g, e = .returned (.tuple #[.slice (some ⟨g, 0, none⟩) n n, .int .i64 0]) ∧ w.heap.size ≤ g ∧ Bl w' g n n f ∧ Below w.heap.size w w'
/-- what a call answers that refuses. -/
def Refuses (w : World) (k : Int) (e : Ending) (w' : World) : Prop := e = .returned (.tuple #[.slice none 0 0, .int .i64 k]) ∧ Below w.heap.size w w'

set_option maxHeartbeats 1000000 in
theorem apply_no (a va : Option Addr) (n cap m vc : Nat) (r : Nat → Option Addr) (l c : Nat → Nat) (f : Nat → Nat → Nat) (hn : n ≤ 1000000000000) (w : World) (hR : Rd w a n cap r l c f) (hM : ¬ (IsM n l ∧ wd n l = m)) :
    Calls Try.prog 15 #[.slice a n cap, .slice va m vc] w (Refuses w 2) := by
  have HR := Lib.hid hR; have HM := Lib.hid hM; clear hR hM
  go_enter Try.func15, Try.ntmps15
  go_wp2_with fail
  refine (fits_no a n cap m r l c f hn _ HR.out HM.out).mono ?_
  rintro e w1 ⟨rfl, q, rfl⟩
  go_wp2
  go_ret2
  exact ⟨rfl, below_dr (Below.refl _ _) _⟩
set_option maxHeartbeats 1000000 in
theorem apply_yes (a va : Option Addr) (n cap m vc : Nat) (r : Nat → Option Addr) (l c : Nat → Nat) (f : Nat → Nat → Nat) (g : Nat → Nat) (w : World) (hR : Rd w a n cap r l c f) (hV : Sl w va m vc g) (hM : IsM n l) (hm : wd n l = m) :
    Calls Try.prog 15 #[.slice a n cap, .slice va m vc] w (GivesE w n (dots f g m n)) := by
  have HR := Lib.hid hR; have HM := Lib.hid hM; have HW := Lib.hid hm; have HV := Lib.hid hV
  have hn := hM.2.1
  have hml : m ≤ 255 := by rw [← hm]; exact hM.2.2
  clear hR hM hm hV
  go_enter Try.func15, Try.ntmps15
  go_wp2_with fail
  refine (fits_yes a n cap m r l c f _ HR.out HM.out HW.out).mono ?_
  rintro e w1 ⟨rfl, q, hq⟩
  have HB1 := Lib.hid (show Below w.heap.size w w1 by rw [hq]; exact below_dr (Below.refl _ _) q); clear hq
  go_wp2_with fail
  refine (new_any _).mono ?_
  rintro e w2 ⟨rfl, hF, hB⟩
  have HF := Lib.hid hF; have HB2 := Lib.hid (HB1.out.trans (hB.mono HB1.out.size)); clear hF hB
  have hW : Wr (w2.alloc (.cells #[.pointer (some ⟨w1.heap.size, 0, none⟩), .slice a n cap] 50)) w2.heap.size w1.heap.size a n cap := heap_alloc_new _ _
  have hB3 : Below w2.heap.size w2 (w2.alloc (.cells #[.pointer (some ⟨w1.heap.size, 0, none⟩), .slice a n cap] 50)) := (Below.refl _ _).alloc (Nat.le_refl _) _
  have HWr := Lib.hid hW; have HF3 := Lib.hid (HF.out.same hB3); have HB3 := Lib.hid (HB2.out.trans (hB3.mono HB2.out.size))
  clear hW hB3
  go_wp2_with fail
  refine (dots_any w2.heap.size w1.heap.size a va n cap m vc r l c f g (by omega) (by omega) _ HWr.out HF3.out (HR.out.same HB3.out) (fun i hi => by rw [HM.out.1 i hi, ← HW.out]; unfold wd; rw [if_neg (by omega)]) (HV.out.same HB3.out)).mono ?_
  rintro e w4 ⟨rfl, hb, hB⟩
  have HBl := Lib.hid hb; have HB4 := Lib.hid (HB3.out.trans (hB.mono HB3.out.size)); clear hb hB
  have hsz := HB2.out.size
  go_wp2
  go_ret2
  exact ⟨w2.heap.size + 1, rfl, by simpa using HB3.out.size, by simpa using HBl.out, HB4.out⟩

set_option maxHeartbeats 1000000 in
theorem rank_no (a : Option Addr) (n cap : Nat) (r : Nat → Option Addr) (l c : Nat → Nat) (f : Nat → Nat → Nat) (hn : n ≤ 1000000000000) (w : World) (hR : Rd w a n cap r l c f) (hM : ¬ IsM n l) :
    Calls Try.prog 25 #[.slice a n cap] w fun e w' => e = .returned (.int .i64 0) ∧ Below w.heap.size w w' := by
  have HR := Lib.hid hR; have HM := Lib.hid hM; clear hR hM
  go_enter Try.func25, Try.ntmps25
  go_wp2_with fail
  refine (right_no a n cap r l c f hn _ HR.out HM.out).mono ?_
  rintro e w1 ⟨rfl, q, rfl⟩
  go_wp2
  go_ret
  exact ⟨rfl, below_dr (Below.refl _ _) _⟩
set_option maxHeartbeats 1000000 in
theorem rank_yes (a : Option Addr) (n cap : Nat) (r : Nat → Option Addr) (l c : Nat → Nat) (f : Nat → Nat → Nat) (w : World) (hR : Rd w a n cap r l c f) (hM : IsM n l) :
    Calls Try.prog 25 #[.slice a n cap] w fun e w' => e = .returned (.int .i64 (Mt.rk n (wd n l) f : Nat)) ∧ Below w.heap.size w w' := by
  have HR := Lib.hid hR; have HM := Lib.hid hM
  have hn := hM.2.1; have hwl := hM.2.2
  have HWL := Lib.hid (show ∀ i, i < n → l i = wd n l from fun i hi => by rw [hM.1 i hi]; unfold wd; rw [if_neg (by omega)])
  clear hR hM
  have hsz := fun (w : World) hR => sizes_yes a n cap r l c f (by omega) w hR HM.out.1
  generalize wd n l = wl at *
  go_enter Try.func25, Try.ntmps25
  go_wp2_with fail
  refine (right_yes a n cap r l c f _ HR.out HM.out).mono ?_
  rintro e w1 ⟨rfl, q, hq⟩
  have HB1 := Lib.hid (show Below w.heap.size w w1 by rw [hq]; exact below_dr (Below.refl _ _) q); clear hq
  go_wp2_with fail
  refine (hsz _ (HR.out.same HB1.out)).mono ?_
  rintro e w2 ⟨rfl, q, hq⟩
  have HB2 := Lib.hid (show Below w.heap.size w w2 by rw [hq]; exact below_dr HB1.out q); clear hq hsz
  go_wp2_with fail
  refine (new_any _).mono ?_
  rintro e w3 ⟨rfl, hF, hB⟩
  have HF := Lib.hid hF; have HB3 := Lib.hid (HB2.out.trans (hB.mono HB2.out.size)); clear hF hB
  go_wp2_with fail
  refine (cut_any a n cap r l c f 0 wl (by omega) (Nat.zero_le _) (by omega) _ (HR.out.same HB3.out) (fun i hi => Nat.le_of_eq (HWL.out i hi).symm)).mono ?_
  rintro e w4 ⟨G, b, rfl, hG, hB⟩
  have hG' : Gr w4 w3.heap.size G n n b (fun _ => wl) (fun _ => wl) f := Gr.congr (show Gr w4 w3.heap.size G n n b (fun _ => wl) (fun _ => wl) (cutf f n 0 wl) from hG) HR.out.bm fun i j hi => by
    unfold cutf sub
    rw [if_pos hi, Nat.zero_add]
    by_cases h : j < wl
    · rw [if_pos h]
    · rw [if_neg h]; exact (HR.out.up hi (by rw [HWL.out i hi]; omega)).symm
  have HG := Lib.hid hG'; have HF4 := Lib.hid (HF.out.same hB); have HB4 := Lib.hid (HB3.out.trans (hB.mono HB3.out.size))
  have hfl := HF.out.lt
  clear hG hG' hB
  have hW : Wr (w4.alloc (.cells #[.pointer (some ⟨w2.heap.size, 0, none⟩), .slice (some ⟨G, 0, none⟩) n n] 50)) w4.heap.size w2.heap.size (some ⟨G, 0, none⟩) n n := heap_alloc_new _ _
  have hB5 : Below w4.heap.size w4 (w4.alloc (.cells #[.pointer (some ⟨w2.heap.size, 0, none⟩), .slice (some ⟨G, 0, none⟩) n n] 50)) := (Below.refl _ _).alloc (Nat.le_refl _) _
  have hJ : Job (w4.alloc (.cells #[.pointer (some ⟨w2.heap.size, 0, none⟩), .slice (some ⟨G, 0, none⟩) n n] 50)) w3.heap.size w4.heap.size w2.heap.size G n wl b f :=
    ⟨hW, HF4.out.same hB5, HG.out.same hB5, by have := HG.out.lo.1; omega, fun i hi => by have := HG.out.lo.2 i hi; omega⟩
  have HJ := Lib.hid hJ; have HB5 := Lib.hid (HB4.out.trans (hB5.mono HB4.out.size)); have hs5 := hB5.size
  clear hW hB5 hJ
  go_wp2_with fail
  refine (reduce_any w3.heap.size w4.heap.size w2.heap.size G n wl wl b f _ HJ.out (Nat.le_refl _) (Nat.le_trans (Nat.le_of_lt (Nat.lt_of_le_of_lt HG.out.lo.1 HG.out.ltG)) hs5) (by omega) (by omega)).mono ?_
  rintro e w6 ⟨rfl, _, hB⟩
  have HB6 := Lib.hid (HB5.out.trans (hB.mono HB3.out.size)); clear hB
  go_wp2
  go_ret
  exact ⟨rfl, HB6.out⟩
end Go.Proofs.Ytgflpfopiofjeaa
