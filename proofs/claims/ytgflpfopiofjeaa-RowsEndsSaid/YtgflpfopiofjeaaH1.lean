import Derived.Test.YtgflpfopiofjeaaGD
import Derived.Laws.AppendOwnNone
namespace Go.Proofs.Ytgflpfopiofjeaa
open Go.RowKit Go.Shelf

set_option maxHeartbeats 1000000 in
theorem rcolumns_any (a : Option Addr) (n cap : Nat) (r : Nat → Option Addr) (l c : Nat → Nat) (f : Nat → Nat → Nat) (w : World) (hR : Rd w a n cap r l c f) :
    Calls Try.prog 34 #[.slice a n cap] w fun e w' => e = .returned (.int .i64 (wd n l : Nat)) ∧ w' = w := by
  have HR := Lib.hid hR; clear hR
  by_cases h : n = 0
  · have hz : (((n : Nat) : Int) == 0) = true := by simp [h]
    have e : wd n l = 0 := if_pos h
    rw [e]
    clear h e
    go_enter Try.func34, Try.ntmps34
    go_wp2
    go_ret
    exact ⟨rfl, rfl⟩
  · have hz : (((n : Nat) : Int) == 0) = false := by simp; omega
    have e : wd n l = l 0 := if_neg h
    rw [e]
    obtain ⟨b, off, ea, c0⟩ := HR.out.at_ (k := 0) (by omega)
    subst ea
    rw [Nat.add_zero] at c0
    have hn0 : (0 : Int) < (n : Int) := by omega
    have hn1 : 0 < n := by omega
    clear h e
    go_enter Try.func34, Try.ntmps34
    go_wp2
    go_ret
    exact ⟨rfl, rfl⟩

set_option maxHeartbeats 1000000 in
set_option maxRecDepth 100000 in
theorem rright_yes (a : Option Addr) (n cap : Nat) (r : Nat → Option Addr) (l c : Nat → Nat) (f : Nat → Nat → Nat) (w : World) (hR : Rd w a n cap r l c f) (hM : IsM n l) :
    Calls Try.prog 24 #[.slice a n cap] w fun e w' => e = .returned (.bool true) ∧ ∃ q, w' = w.drewN q := by
  have HR := Lib.hid hR; have HM := Lib.hid hM
  have hn := hM.2.1; have hw := hM.2.2
  have HL := Lib.hid (show ∀ i, i < n → l i = wd n l from fun i hi => by rw [hM.1 i hi]; unfold wd; rw [if_neg (by omega)])
  have hcol := fun (w : World) hR => rcolumns_any a n cap r l c f w hR
  clear hR hM
  generalize wd n l = wl at *
  have i1 : ¬ (255 : Int) < (n : Int) := by omega
  have i2 : decide ((255 : Int) < (wl : Int)) = false := by simp; omega
  have HC := Lib.hid hcol; clear hcol
  go_enter Try.func24, Try.ntmps24
  go_wp2_with fail
  refine (HC.out _ HR.out).mono ?_
  rintro e w1 ⟨rfl, rfl⟩
  go_wp2_with fail
  clear i1 i2
  go_loopw [3] (fun i wr => ∃ k : Nat, k ≤ n ∧ i = .int .i64 k ∧ ∃ q, wr = w1.drewN q) (fun i _ => n - (intOf i).toNat)
  case atStart => exact ⟨0, by omega, rfl, 0, rfl⟩
  case round =>
    rename_i wr
    obtain ⟨k, hk, rfl, q, hq⟩ := hrel
    have HQ := Lib.hid hq
    by_cases hkn : k < n
    · have i1 : (k : Int) < (n : Int) := by omega
      have hR1 : Rd wr a n cap r l c f := by rw [hq]; exact HR.out.drewN q
      obtain ⟨b1, o1, e1, c1⟩ := hR1.at_ hkn
      subst e1
      rw [HL.out k hkn] at c1
      have HR1 := Lib.hid hR1
      have hne : (((wl : Nat) : Int) != (wl : Int)) = false := by simp
      clear hq hR1
      go_wp2_with fail
      go_quiet ((go_at_call 34; exact Calls.quiet_of_same (HC.out _ (HR1.out.drewN _))))
      go_wp2_with fail
      go_roundw
      case rel => exact ⟨k + 1, by omega, by go_num, _, by rw [HQ.out, World.drewN_drewN]⟩
      case measure => simp [intOf]; omega
    · obtain rfl : k = n := by omega
      clear hq
      go_wp2
      go_ret
      exact ⟨rfl, q, HQ.out⟩

set_option maxHeartbeats 1000000 in
set_option maxRecDepth 100000 in
theorem rright_no (a : Option Addr) (n cap : Nat) (r : Nat → Option Addr) (l c : Nat → Nat) (f : Nat → Nat → Nat) (hn : n ≤ 1000000000000) (w : World) (hR : Rd w a n cap r l c f) (hM : ¬ IsM n l) :
    Calls Try.prog 24 #[.slice a n cap] w fun e w' => e = .returned (.bool false) ∧ ∃ q, w' = w.drewN q := by
  have HR := Lib.hid hR
  have hcol := fun (w : World) hR => rcolumns_any a n cap r l c f w hR
  have hMM : ¬ ((∀ i, i < n → l i = wd n l) ∧ n ≤ 255 ∧ wd n l ≤ 255) := fun h => hM ⟨fun i hi => by
    have h1 := h.1 i hi
    have h0 := h.1 0 (by omega)
    rw [h1, h0], h.2⟩
  clear hR hM
  generalize wd n l = wl at *
  have HC := Lib.hid hcol; have HMM := Lib.hid hMM; clear hcol hMM
  by_cases h1 : 255 < n
  · have i1 : (255 : Int) < (n : Int) := by omega
    clear h1
    go_enter Try.func24, Try.ntmps24
    go_wp2
    go_ret
    exact ⟨rfl, 0, rfl⟩
  have i1 : ¬ (255 : Int) < (n : Int) := by omega
  by_cases h2 : 255 < wl
  · have i2 : decide ((255 : Int) < (wl : Int)) = true := by simp; omega
    clear h1 h2
    go_enter Try.func24, Try.ntmps24
    go_wp2_with fail
    refine (HC.out _ HR.out).mono ?_
    rintro e w1 ⟨rfl, rfl⟩
    go_wp2
    go_ret
    exact ⟨rfl, 0, rfl⟩
  have i2 : decide ((255 : Int) < (wl : Int)) = false := by simp; omega
  go_enter Try.func24, Try.ntmps24
  go_wp2_with fail
  refine (HC.out _ HR.out).mono ?_
  rintro e w1 ⟨rfl, rfl⟩
  go_wp2_with fail
  clear i1 i2
  go_loopw [3] (fun i wr => ∃ k : Nat, k ≤ n ∧ i = .int .i64 k ∧ (∀ j, j < k → l j = wl) ∧ ∃ q, wr = w1.drewN q) (fun i _ => n - (intOf i).toNat)
  case atStart => exact ⟨0, by omega, rfl, fun j hj => absurd hj (Nat.not_lt_zero j), 0, rfl⟩
  case round =>
    rename_i wr
    obtain ⟨k, hk, rfl, hev, q, hq⟩ := hrel
    have HQ := Lib.hid hq; have HV := Lib.hid hev; clear hev
    by_cases hkn : k < n
    · have i1 : (k : Int) < (n : Int) := by omega
      have hR1 : Rd wr a n cap r l c f := by rw [hq]; exact HR.out.drewN q
      obtain ⟨b1, o1, e1, c1⟩ := hR1.at_ hkn
      subst e1
      have HR1 := Lib.hid hR1
      clear hq hR1
      by_cases hlk : l k = wl
      · have hne := ne_no hlk
        have HLK := Lib.hid hlk; clear hlk
        go_wp2_with fail
        go_quiet ((go_at_call 34; exact Calls.quiet_of_same (HC.out _ (HR1.out.drewN _))))
        go_wp2_with fail
        go_roundw
        case rel => exact ⟨k + 1, by omega, by go_num, fun j hj => by
          by_cases e : j = k
          · rw [e]; exact HLK.out
          · exact HV.out j (by omega), _, by rw [HQ.out, World.drewN_drewN]⟩
        case measure => simp [intOf]; omega
      · have hne := ne_yes hlk
        clear hlk
        go_wp2_with fail
        go_quiet ((go_at_call 34; exact Calls.quiet_of_same (HC.out _ (HR1.out.drewN _))))
        go_wp2
        go_ret
        exact ⟨rfl, _, by rw [HQ.out, World.drewN_drewN]⟩
    · obtain rfl : k = n := by omega
      exact absurd ⟨HV.out, by omega, by omega⟩ HMM.out
end Go.Proofs.Ytgflpfopiofjeaa
