import Derived.Test.YtdempjkkahjekaaG3
import Derived.Test.YtdempjkkahjekaaG4
import Derived.Test.YtdempjkkahjekaaG9
namespace Go.Proofs.Ytdempjkkahjekaa
open Go.RowKit Go.Shelf

/-- a matrix, by its rows' lengths. -/
def IsM (n : Nat) (l : Nat → Nat) : Prop := (∀ i, i < n → l i = l 0) ∧ n ≤ 255 ∧ wd n l ≤ 255

set_option maxHeartbeats 1000000 in
theorem right_yes (a : Option Addr) (n cap : Nat) (r : Nat → Option Addr) (l c : Nat → Nat) (f : Nat → Nat → Nat) (w : World) (hR : Rd w a n cap r l c f) (hM : IsM n l) :
    Calls Try.prog 65 #[.slice a n cap] w fun e w' => e = .returned (.bool true) ∧ ∃ q, w' = w.drewN q := by
  obtain ⟨m1, m2, m3⟩ := hM
  have HR := Lib.hid hR; have HE := Lib.hid m1; clear hR m1
  have i1 : decide ((n : Int) ≤ 255) = true := by simp; omega
  have i2 : decide ((wd n l : Int) ≤ 255) = true := by simp; omega
  go_enter Try.func65, Try.ntmps65
  go_wp2_with fail
  refine (sizes_yes a n cap r l c f (by omega) _ HR.out HE.out).mono ?_
  rintro e w1 ⟨rfl, q1, rfl⟩
  go_wp2
  go_ret
  exact ⟨rfl, q1, rfl⟩
set_option maxHeartbeats 1000000 in
theorem right_no (a : Option Addr) (n cap : Nat) (r : Nat → Option Addr) (l c : Nat → Nat) (f : Nat → Nat → Nat) (hn : n ≤ 1000000000000) (w : World) (hR : Rd w a n cap r l c f) (hM : ¬ IsM n l) :
    Calls Try.prog 65 #[.slice a n cap] w fun e w' => e = .returned (.bool false) ∧ ∃ q, w' = w.drewN q := by
  have HR := Lib.hid hR; clear hR
  by_cases he : ∀ i, i < n → l i = l 0
  · have HE := Lib.hid he
    by_cases h1 : n ≤ 255
    · have h2 : ¬ wd n l ≤ 255 := fun h => hM ⟨he, h1, h⟩
      have i1 : decide ((n : Int) ≤ 255) = true := by simp; omega
      have i2 : decide ((wd n l : Int) ≤ 255) = false := by simp; omega
      clear he hM
      go_enter Try.func65, Try.ntmps65
      go_wp2_with fail
      refine (sizes_yes a n cap r l c f (by omega) _ HR.out HE.out).mono ?_
      rintro e w1 ⟨rfl, q1, rfl⟩
      go_wp2
      go_ret
      exact ⟨rfl, q1, rfl⟩
    · have i1 : decide ((n : Int) ≤ 255) = false := by simp; omega
      clear he hM
      go_enter Try.func65, Try.ntmps65
      go_wp2_with fail
      refine (sizes_yes a n cap r l c f (by omega) _ HR.out HE.out).mono ?_
      rintro e w1 ⟨rfl, q1, rfl⟩
      go_wp2
      go_ret
      exact ⟨rfl, q1, rfl⟩
  · have HE := Lib.hid he; clear he hM
    go_enter Try.func65, Try.ntmps65
    go_wp2_with fail
    refine (sizes_no a n cap r l c f (by omega) _ HR.out HE.out).mono ?_
    rintro e w1 ⟨rfl, rfl⟩
    go_wp2
    go_ret
    exact ⟨rfl, 0, rfl⟩

set_option maxHeartbeats 1000000 in
theorem fits_yes (a : Option Addr) (n cap m : Nat) (r : Nat → Option Addr) (l c : Nat → Nat) (f : Nat → Nat → Nat) (w : World) (hR : Rd w a n cap r l c f) (hM : IsM n l) (hm : wd n l = m) :
    Calls Try.prog 35 #[.slice a n cap, .int .i64 (m : Nat)] w fun e w' => e = .returned (.bool true) ∧ ∃ q, w' = w.drewN q := by
  have HR := Lib.hid hR; have HM := Lib.hid hM
  have hn := hM.2.1
  have i1 := eq_yes hm
  clear hR hM hm
  go_enter Try.func35, Try.ntmps35
  go_wp2_with fail
  refine (sizes_yes a n cap r l c f (by omega) _ HR.out HM.out.1).mono ?_
  rintro e w1 ⟨rfl, q1, rfl⟩
  go_wp2_with fail
  refine (right_yes a n cap r l c f _ (HR.out.drewN q1) HM.out).mono ?_
  rintro e w1 ⟨rfl, q2, rfl⟩
  go_wp2
  go_ret
  exact ⟨rfl, _, rfl⟩
set_option maxHeartbeats 1000000 in
theorem fits_no (a : Option Addr) (n cap m : Nat) (r : Nat → Option Addr) (l c : Nat → Nat) (f : Nat → Nat → Nat) (hn : n ≤ 1000000000000) (w : World) (hR : Rd w a n cap r l c f) (hM : ¬ (IsM n l ∧ wd n l = m)) :
    Calls Try.prog 35 #[.slice a n cap, .int .i64 (m : Nat)] w fun e w' => e = .returned (.bool false) ∧ ∃ q, w' = w.drewN q := by
  have HR := Lib.hid hR; clear hR
  by_cases h : IsM n l
  · have i1 := eq_no (fun hm : wd n l = m => hM ⟨h, hm⟩)
    have HM := Lib.hid h
    clear hM h
    go_enter Try.func35, Try.ntmps35
    go_wp2_with fail
    refine (sizes_yes a n cap r l c f (by omega) _ HR.out HM.out.1).mono ?_
    rintro e w1 ⟨rfl, q1, rfl⟩
    go_wp2_with fail
    refine (right_yes a n cap r l c f _ (HR.out.drewN q1) HM.out).mono ?_
    rintro e w1 ⟨rfl, q2, rfl⟩
    go_wp2
    go_ret
    exact ⟨rfl, _, rfl⟩
  · have HM := Lib.hid h
    clear hM h
    by_cases he : ∀ i, i < n → l i = l 0
    · have HE := Lib.hid he; clear he
      go_enter Try.func35, Try.ntmps35
      go_wp2_with fail
      refine (sizes_yes a n cap r l c f (by omega) _ HR.out HE.out).mono ?_
      rintro e w1 ⟨rfl, q1, rfl⟩
      go_wp2_with fail
      refine (right_no a n cap r l c f hn _ (HR.out.drewN q1) HM.out).mono ?_
      rintro e w1 ⟨rfl, q2, rfl⟩
      go_wp2
      go_ret
      exact ⟨rfl, _, rfl⟩
    · have HE := Lib.hid he; clear he
      go_enter Try.func35, Try.ntmps35
      go_wp2_with fail
      refine (sizes_no a n cap r l c f (by omega) _ HR.out HE.out).mono ?_
      rintro e w1 ⟨rfl, rfl⟩
      go_wp2_with fail
      refine (right_no a n cap r l c f hn _ HR.out HM.out).mono ?_
      rintro e w1 ⟨rfl, q2, rfl⟩
      go_wp2
      go_ret
      exact ⟨rfl, _, rfl⟩

/-- what a call answers that hands out a matrix, and no error. -/
def MakesE (w : World) (h wi : Nat) (f : Nat → Nat → Nat) (e : Ending) (w' : World) : Prop :=
  ∃ G b, e = .returned (.tuple #[.slice (some ⟨G, 0, none⟩) h h, .int .i64 0]) ∧ Gr w' w.heap.size G h h b (fun _ => wi) (fun _ => wi) f ∧ Below w.heap.size w w'

end Go.Proofs.Ytdempjkkahjekaa
