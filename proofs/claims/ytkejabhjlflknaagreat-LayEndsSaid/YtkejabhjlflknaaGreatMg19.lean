import Derived.Test.YtkejabhjlflknaaGreatMg17
import Derived.Test.YtkejabhjlflknaaGreatMg18
namespace Go.Proofs.YtkejabhjlflknaaGreat
open Go.RowKit Go.Shelf

/-- a matrix, by its rows' lengths. -/
def IsM (n : Nat) (l : Nat → Nat) : Prop := (∀ i, i < n → l i = l 0) ∧ n ≤ 255 ∧ wd n l ≤ 255

set_option maxHeartbeats 1000000 in
theorem right_yes (a : Option Addr) (n cap : Nat) (r : Nat → Option Addr) (l c : Nat → Nat) (f : Nat → Nat → Nat) (w : World) (hR : Rd w a n cap r l c f) (hM : IsM n l) :
    Calls Tryz.prog 143 #[.slice a n cap] w fun e w' => e = .returned (.bool true) ∧ ∃ q, w' = w.drewN q := by
  obtain ⟨m1, m2, m3⟩ := hM
  have HR := Lib.hid hR; have HE := Lib.hid m1; clear hR m1
  have i1 : decide ((n : Int) ≤ 255) = true := by simp; omega
  have i2 : decide ((wd n l : Int) ≤ 255) = true := by simp; omega
  go_enter Tryz.func143, Tryz.ntmps143
  go_wp2_with fail
  refine (sizes_yes a n cap r l c f (by omega) _ HR.out HE.out).mono ?_
  rintro e w1 ⟨rfl, q1, rfl⟩
  go_wp2
  go_ret
  exact ⟨rfl, q1, rfl⟩
set_option maxHeartbeats 1000000 in
theorem right_no (a : Option Addr) (n cap : Nat) (r : Nat → Option Addr) (l c : Nat → Nat) (f : Nat → Nat → Nat) (hn : n ≤ 1000000000000) (w : World) (hR : Rd w a n cap r l c f) (hM : ¬ IsM n l) :
    Calls Tryz.prog 143 #[.slice a n cap] w fun e w' => e = .returned (.bool false) ∧ ∃ q, w' = w.drewN q := by
  have HR := Lib.hid hR; clear hR
  by_cases he : ∀ i, i < n → l i = l 0
  · have HE := Lib.hid he
    by_cases h1 : n ≤ 255
    · have h2 : ¬ wd n l ≤ 255 := fun h => hM ⟨he, h1, h⟩
      have i1 : decide ((n : Int) ≤ 255) = true := by simp; omega
      have i2 : decide ((wd n l : Int) ≤ 255) = false := by simp; omega
      clear he hM
      go_enter Tryz.func143, Tryz.ntmps143
      go_wp2_with fail
      refine (sizes_yes a n cap r l c f (by omega) _ HR.out HE.out).mono ?_
      rintro e w1 ⟨rfl, q1, rfl⟩
      go_wp2
      go_ret
      exact ⟨rfl, q1, rfl⟩
    · have i1 : decide ((n : Int) ≤ 255) = false := by simp; omega
      clear he hM
      go_enter Tryz.func143, Tryz.ntmps143
      go_wp2_with fail
      refine (sizes_yes a n cap r l c f (by omega) _ HR.out HE.out).mono ?_
      rintro e w1 ⟨rfl, q1, rfl⟩
      go_wp2
      go_ret
      exact ⟨rfl, q1, rfl⟩
  · have HE := Lib.hid he; clear he hM
    go_enter Tryz.func143, Tryz.ntmps143
    go_wp2_with fail
    refine (sizes_no a n cap r l c f (by omega) _ HR.out HE.out).mono ?_
    rintro e w1 ⟨rfl, rfl⟩
    go_wp2
    go_ret
    exact ⟨rfl, 0, rfl⟩

set_option maxHeartbeats 1000000 in
theorem fits_yes (a : Option Addr) (n cap m : Nat) (r : Nat → Option Addr) (l c : Nat → Nat) (f : Nat → Nat → Nat) (w : World) (hR : Rd w a n cap r l c f) (hM : IsM n l) (hm : wd n l = m) :
    Calls Tryz.prog 132 #[.slice a n cap, .int .i64 (m : Nat)] w fun e w' => e = .returned (.bool true) ∧ ∃ q, w' = w.drewN q := by
  have HR := Lib.hid hR; have HM := Lib.hid hM
  have hn := hM.2.1
  have i1 := eq_yes hm
  clear hR hM hm
  go_enter Tryz.func132, Tryz.ntmps132
  go_wp2_with fail
  refine (sizes_yes a n cap r l c f (by omega) _ HR.out HM.out.1).mono ?_
  rintro e w1 ⟨rfl, q1, rfl⟩
  go_wp2_with fail
  refine (right_yes a n cap r l c f _ (HR.out.drewN q1) HM.out).mono ?_
  rintro e w1 ⟨rfl, q2, rfl⟩
  go_wp2
  go_ret
  exact ⟨rfl, _, rfl⟩
set_option maxHeartbeats 1000000 in
theorem fits_no (a : Option Addr) (n cap m : Nat) (r : Nat → Option Addr) (l c : Nat → Nat) (f : Nat → Nat → Nat) (hn : n ≤ 1000000000000) (w : World) (hR : Rd w a n cap r l c f) (hM : ¬ (IsM n l ∧ wd n l = m)) :
    Calls Tryz.prog 132 #[.slice a n cap, .int .i64 (m : Nat)] w fun e w' => e = .returned (.bool false) ∧ ∃ q, w' = w.drewN q := by
  have HR := Lib.hid hR; clear hR
  by_cases h : IsM n l
  · have i1 := eq_no (fun hm : wd n l = m => hM ⟨h, hm⟩)
    have HM := Lib.hid h
    clear hM h
    go_enter Tryz.func132, Tryz.ntmps132
    go_wp2_with fail
    refine (sizes_yes a n cap r l c f (by omega) _ HR.out HM.out.1).mono ?_
    rintro e w1 ⟨rfl, q1, rfl⟩
    go_wp2_with fail
    refine (right_yes a n cap r l c f _ (HR.out.drewN q1) HM.out).mono ?_
    rintro e w1 ⟨rfl, q2, rfl⟩
    go_wp2
    go_ret
    exact ⟨rfl, _, rfl⟩
  · have HM := Lib.hid h
    clear hM h
    by_cases he : ∀ i, i < n → l i = l 0
    · have HE := Lib.hid he; clear he
      go_enter Tryz.func132, Tryz.ntmps132
      go_wp2_with fail
      refine (sizes_yes a n cap r l c f (by omega) _ HR.out HE.out).mono ?_
      rintro e w1 ⟨rfl, q1, rfl⟩
      go_wp2_with fail
      refine (right_no a n cap r l c f hn _ (HR.out.drewN q1) HM.out).mono ?_
      rintro e w1 ⟨rfl, q2, rfl⟩
      go_wp2
      go_ret
      exact ⟨rfl, _, rfl⟩
    · have HE := Lib.hid he; clear he
      go_enter Tryz.func132, Tryz.ntmps132
      go_wp2_with fail
      refine (sizes_no a n cap r l c f (by omega) _ HR.out HE.out).mono ?_
      rintro e w1 ⟨rfl, rfl⟩
      go_wp2_with fail
      refine (right_no a n cap r l c f hn _ HR.out HM.out).mono ?_
      rintro e w1 ⟨rfl, q2, rfl⟩
      go_wp2
      go_ret
      exact ⟨rfl, _, rfl⟩

/-- what a call answers that hands out a matrix, and no error. -/
def MakesE (w : World) (h wi : Nat) (f : Nat → Nat → Nat) (e : Ending) (w' : World) : Prop :=
  ∃ G b, e = .returned (.tuple #[.slice (some ⟨G, 0, none⟩) h h, .int .i64 0]) ∧ Gr w' w.heap.size G h h b (fun _ => wi) (fun _ => wi) f ∧ Below w.heap.size w w'

end Go.Proofs.YtkejabhjlflknaaGreat

namespace Go.Proofs.YtkejabhjlflknaaGreat
open Go.RowKit Go.Shelf

/-- what stands within so many rows and columns, else 0. -/
def cl (h w : Nat) (M : Nat → Nat → Nat) (i j : Nat) : Nat := if i < h ∧ j < w then M i j else 0
theorem cl_bm {M : Nat → Nat → Nat} (hM : Mt.Bm M) (h w : Nat) : Mt.Bm (cl h w M) := fun i j => by
  unfold cl; split
  · exact hM i j
  · omega
theorem cl_in {M : Nat → Nat → Nat} {h w i j : Nat} (hi : i < h) (hj : j < w) : cl h w M i j = M i j := if_pos ⟨hi, hj⟩
theorem cl_up (h w : Nat) (M : Nat → Nat → Nat) (i : Nat) : Pf.Up (cl h w M i) w := fun j hj => if_neg (by omega)
theorem unit_cl {n i j : Nat} (hi : i < n) : cutf Mt.dl n 0 n i j = cl n n Mt.dl i j := by
  unfold cutf sub cl
  rw [if_pos hi, Nat.zero_add]
  by_cases h : j < n
  · rw [if_pos h, if_pos ⟨hi, h⟩]
  · rw [if_neg h, if_neg (by omega)]
/-- what a call answers that hands out a row of bytes, and no error. -/
def GivesE (w : World) (n : Nat) (f : Nat → Nat) (e : Ending) (w' : World) : Prop :=
  ∃ g, e = .returned (.tuple #[.slice (some ⟨g, 0, none⟩) n n, .int .i64 0]) ∧ w.heap.size ≤ g ∧ Bl w' g n n f ∧ Below w.heap.size w w'
/-- what a call answers that refuses. -/
def Refuses (w : World) (k : Int) (e : Ending) (w' : World) : Prop := e = .returned (.tuple #[.slice none 0 0, .int .i64 k]) ∧ Below w.heap.size w w'

end Go.Proofs.YtkejabhjlflknaaGreat

namespace Go.Proofs.YtkejabhjlflknaaGreat
open Go.RowKit Go.Shelf

theorem wd_const (n : Nat) : wd n (fun _ => n) = n := by
  unfold wd
  by_cases h : n = 0
  · rw [if_pos h, h]
  · rw [if_neg h]
theorem jn_wu {f : Nat → Nat → Nat} {n i j : Nat} (hi : i < n) : jn f (cutf Mt.dl n 0 n) n i j = Mt.wu f n i j := by
  unfold jn Mt.wu
  by_cases h : j < n
  · rw [if_pos h, if_pos h]
  · rw [if_neg h, if_neg h, unit_cl hi]
    unfold cl
    by_cases h2 : j - n < n
    · rw [if_pos ⟨hi, h2⟩]
    · rw [if_neg (by omega), Mt.dl_ne (by omega)]

set_option maxHeartbeats 1000000 in
theorem inverse_no (a : Option Addr) (n cap : Nat) (r : Nat → Option Addr) (l c : Nat → Nat) (f : Nat → Nat → Nat) (hn : n ≤ 1000000000000) (w : World) (hR : Rd w a n cap r l c f) (hM : ¬ (IsM n l ∧ wd n l = n)) :
    Calls Tryz.prog 117 #[.slice a n cap] w (Refuses w 2) := by
  have HR := Lib.hid hR; have HM := Lib.hid hM; clear hR hM
  go_enter Tryz.func117, Tryz.ntmps117
  go_wp2_with fail
  refine (fits_no a n cap n r l c f hn _ HR.out HM.out).mono ?_
  rintro e w1 ⟨rfl, q, rfl⟩
  go_wp2
  go_ret2
  exact ⟨rfl, below_dr (Below.refl _ _) _⟩

/-- what Inverse answers to a matrix of as many rows as columns. -/
def Inverts (w : World) (n : Nat) (f : Nat → Nat → Nat) (e : Ending) (w' : World) : Prop :=
  (Mt.rk n n f < n ∧ Refuses w 7 e w') ∨ (Mt.rk n n f = n ∧ MakesE w n n (cl n n (Mt.inv f n)) e w')

set_option maxHeartbeats 2000000 in
set_option maxRecDepth 100000 in
theorem inverse_yes (a : Option Addr) (n cap : Nat) (r : Nat → Option Addr) (l c : Nat → Nat) (f : Nat → Nat → Nat) (w : World) (hR : Rd w a n cap r l c f) (hM : IsM n l) (hm : wd n l = n) :
    Calls Tryz.prog 117 #[.slice a n cap] w (Inverts w n f) := by
  have HR := Lib.hid hR; have HM := Lib.hid hM; have HWN := Lib.hid hm
  have hn := hM.2.1
  clear hR hM hm
  have HRK := Lib.hid (Mt.rk_wu HR.out.bm n)
  have HLE := Lib.hid (Mt.rk_le_rows HR.out.bm n n)
  have HJB := Lib.hid (Mt.wu_bm HR.out.bm n)
  go_enter Tryz.func117, Tryz.ntmps117
  go_wp2_with fail
  refine (fits_yes a n cap n r l c f _ HR.out HM.out HWN.out).mono ?_
  rintro e w1 ⟨rfl, q, hq⟩
  have HB1 := Lib.hid (show Below w.heap.size w w1 by rw [hq]; exact below_dr (Below.refl _ _) q); clear hq
  go_wp2_with fail
  refine (new_any _).mono ?_
  rintro e w2 ⟨rfl, hF, hB⟩
  have HF := Lib.hid hF; have HB2 := Lib.hid (HB1.out.trans (hB.mono HB1.out.size)); clear hF hB
  go_wp2_with fail
  refine (unit_any n (by omega) _).mono ?_
  rintro e w3 ⟨GU, bU, rfl, hG, hB⟩
  have HU := Lib.hid hG; have HF3 := Lib.hid (HF.out.same hB); have HB3 := Lib.hid (HB2.out.trans (hB.mono HB2.out.size)); clear hG hB
  go_wp2_with fail
  refine (joined_any a _ n cap n r _ l c _ _ f (cutf Mt.dl n 0 n) (by omega) (by rw [HWN.out]; omega) (by rw [wd_const]; omega) (fun h => by rw [wd_const]; omega) _ (HR.out.same HB3.out) HU.out.rd HM.out.1 (fun _ _ => rfl)).mono ?_
  rintro e w4 ⟨G, b, rfl, hG, hB⟩
  rw [HWN.out, wd_const] at hG
  have hG' := hG.congr HJB.out fun i j hi => jn_wu (j := j) hi
  have HG := Lib.hid hG'; have HF4 := Lib.hid (HF3.out.same hB); have HB4 := Lib.hid (HB3.out.trans (hB.mono HB3.out.size))
  have hfl := HF3.out.lt
  clear hG hG' hB
  have hW : Wr (w4.alloc (.cells #[.pointer (some ⟨w1.heap.size, 0, none⟩), .slice (some ⟨G, 0, none⟩) n n] 217)) w4.heap.size w1.heap.size (some ⟨G, 0, none⟩) n n := heap_alloc_new _ _
  have hB5 : Below w4.heap.size w4 (w4.alloc (.cells #[.pointer (some ⟨w1.heap.size, 0, none⟩), .slice (some ⟨G, 0, none⟩) n n] 217)) := (Below.refl _ _).alloc (Nat.le_refl _) _
  have hJ : Job (w4.alloc (.cells #[.pointer (some ⟨w1.heap.size, 0, none⟩), .slice (some ⟨G, 0, none⟩) n n] 217)) w3.heap.size w4.heap.size w1.heap.size G n (n + n) b (Mt.wu f n) :=
    ⟨hW, HF4.out.same hB5, HG.out.same hB5, by have := HG.out.lo.1; omega, fun i hi => by have := HG.out.lo.2 i hi; omega⟩
  have HJ := Lib.hid hJ; have HB5 := Lib.hid (HB4.out.trans (hB5.mono HB4.out.size)); have hs5 := hB5.size
  clear hW hB5 hJ
  go_wp2_with fail
  refine (reduce_any w3.heap.size w4.heap.size w1.heap.size G n (n + n) n b (Mt.wu f n) _ HJ.out (by omega) (Nat.le_trans (Nat.le_of_lt (Nat.lt_of_le_of_lt HG.out.lo.1 HG.out.ltG)) hs5) (by omega) (by omega)).mono ?_
  rintro e w6 ⟨rfl, ⟨b6, hJ6⟩, hB⟩
  have HB6 := Lib.hid (HB5.out.trans (hB.mono HB3.out.size)); have HJ6 := Lib.hid hJ6
  have z1 := hJ6.wk.c1
  clear hB hJ6 hs5
  have hrk : (Mt.gj n (Mt.wu f n) n).1 = Mt.rk n n f := HRK.out
  rw [hrk]
  have hinv : ∀ i j, i < n → cutf (Mt.gj n (Mt.wu f n) n).2 n n n i j = cl n n (Mt.inv f n) i j := fun i j hi => by
    unfold cutf sub cl Mt.inv
    rw [if_pos hi]
    by_cases h : j < n
    · rw [if_pos h, if_pos ⟨hi, h⟩]
    · rw [if_neg h, if_neg (by omega)]
  have HINV := Lib.hid hinv; have hle := HLE.out
  clear hrk hinv
  by_cases hs : Mt.rk n n f < n
  · have i1 : decide (Mt.rk n n f < n) = true := by simp; omega
    have HS := Lib.hid hs; clear hs hle
    go_wp2
    go_ret2
    exact Or.inl ⟨HS.out, rfl, HB6.out⟩
  · have i1 : decide (Mt.rk n n f < n) = false := by simp; omega
    have HS := Lib.hid (show Mt.rk n n f = n by omega); clear hs hle
    go_wp2_with fail
    have e0 : (2 : Int) * (n : Int) = ((n + n : Nat) : Int) := by omega
    rw [e0]
    clear e0
    refine (cut_any _ n n _ _ _ (Mt.gj n (Mt.wu f n) n).2 n (n + n) (by omega) (by omega) (by omega) _ HJ6.out.gr.rd (fun i hi => Nat.le_refl _)).mono ?_
    rintro e w7 ⟨G7, b7, rfl, hG, hB⟩
    have hG7 : Gr w7 w6.heap.size G7 n n b7 (fun _ => n) (fun _ => n) (cl n n (Mt.inv f n)) := by
      rw [show n + n - n = n by omega] at hG
      exact hG.congr (cl_bm (Mt.inv_bm HR.out.bm n) n n) fun i j hi => HINV.out i j hi
    have HG7 := Lib.hid (hG7.mono HB6.out.size); have HB7 := Lib.hid (HB6.out.trans (hB.mono HB6.out.size))
    clear hG hG7 hB
    go_wp2
    go_ret2
    exact Or.inr ⟨HS.out, G7, b7, rfl, HG7.out, HB7.out⟩
end Go.Proofs.YtkejabhjlflknaaGreat

namespace Go.Proofs.YtkejabhjlflknaaGreat
open Go.RowKit Go.Shelf

theorem mul_row {f f' : Nat → Nat → Nat} (hf : Mt.Bm f) (hf' : Mt.Bm f') {n n' wl i : Nat} (hi : i < n) : dots (trk f' n' 0) (f i) n' wl = cl n wl (Mt.mm n' f f') i := funext fun j => by
  unfold dots cl
  by_cases h : j < wl
  · rw [if_pos h, if_pos ⟨hi, h⟩]
    unfold dotN Mt.mm
    exact Pf.xsum_congr n' fun k hk => by
      rw [Gf.mul_comm (hf i k) (hf' k j)]
      unfold trk; rw [if_pos (Or.inl hk)]
  · rw [if_neg h, if_neg (by omega)]

end Go.Proofs.YtkejabhjlflknaaGreat
