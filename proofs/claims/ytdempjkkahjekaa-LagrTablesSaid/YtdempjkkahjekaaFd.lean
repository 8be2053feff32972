import Derived.Test.YtdempjkkahjekaaFy
import Derived.Test.YtdempjkkahjekaaKt
namespace Go.Proofs.Ytdempjkkahjekaa
open Go.RowKit

/-- the sum of the products at the first so many places. -/
def dotTo (xs ys : List Int) : Nat → Nat
  | 0 => 0
  | k + 1 => dotTo xs ys k ^^^ Gf.mul (xs.getD k 0).toNat (ys.getD k 0).toNat
theorem dotTo_lt {w w' : World} {a a' : Option Addr} {l c l' c' : Nat} {xs ys : List Int} (h : Has8 w a l c xs) (h' : Has8 w' a' l' c' ys) : ∀ k, k ≤ l → k ≤ l' → dotTo xs ys k < 256
  | 0, _, _ => by show 0 < 256; omega
  | k + 1, h1, h2 => by
    have b1 := h.byte k (by omega)
    have b2 := h'.byte k (by omega)
    exact Gf.xor_lt (dotTo_lt h h' k (by omega) (by omega)) (Gf.mul_lt (by omega) (by omega))

theorem Has8.some {w : World} {a : Option Addr} {l c k : Nat} {xs : List Int} (h : Has8 w a l c xs) (hk : k < l) : ∃ b off, a = some ⟨b, off, none⟩ ∧ w.cell? ⟨b, off + k, none⟩ = some (.int .u8 (xs.getD k 0)) := by
  cases a with
  | none => have := h.nil rfl; omega
  | some ad =>
    have hc := h.cell ad rfl k hk
    obtain ⟨b, off, spot⟩ := ad
    obtain rfl : spot = none := h.spot _ rfl (by omega)
    exact ⟨b, off, rfl, hc⟩
theorem Has8.drewN {w : World} {a : Option Addr} {l c : Nat} {xs : List Int} (h : Has8 w a l c xs) (q : Nat) : Has8 (w.drewN q) a l c xs :=
  ⟨h.lenOk, h.capOk, h.maxOk, h.byte, h.nil, h.spot, h.cell⟩

set_option maxHeartbeats 1000000 in
set_option maxRecDepth 100000 in
theorem dot_any (fb : Nat) (a a' : Option Addr) (l c l' c' : Nat) (xs ys : List Int) (w : World) (hF : IsField fb w) (h1 : Has8 w a l c xs) (h2 : Has8 w a' l' c' ys) (hl : l ≤ 1000000000000) (hl' : l' ≤ 1000000000000) :
    Calls Try.prog 45 #[.pointer (some ⟨fb, 0, none⟩), .slice a l c, .slice a' l' c'] w fun e w' =>
      e = .returned (.tuple (if l = l' then #[.int .u8 (dotTo xs ys l : Nat), .int .i64 0] else #[.int .u8 0, .int .i64 2])) ∧ ∃ q, w' = w.drewN q := by
  have HF := Lib.hid hF; have H1 := Lib.hid h1; have H2 := Lib.hid h2; clear hF h1 h2
  by_cases hne : l = l'
  · subst hne
    rw [if_pos rfl]
    have ht : ((l : Int) != (l : Int)) = false := by simp
    go_enter Try.func45, Try.ntmps45
    go_wp2_with fail
    refine (none_no _ _ HF.out).mono ?_
    rintro e w' ⟨rfl, rfl⟩
    go_wp2_with fail
    go_loopw [8, 19] (fun s i wr => ∃ k : Nat, k ≤ l ∧ i = .int .i64 k ∧ s = .int .u8 (dotTo xs ys k : Nat) ∧ ∃ q, wr = w'.drewN q) (fun _ i _ => l - (intOf i).toNat)
    case atStart => exact ⟨0, by omega, rfl, rfl, 0, rfl⟩
    case round =>
      obtain ⟨k, hk, rfl, rfl, q, hq⟩ := hrel
      have HQ := Lib.hid hq
      by_cases hlt : k < l
      · have HF2 := Lib.hid (show IsField fb wr by rw [hq]; exact HF.out.drewN q)
        obtain ⟨b1, o1, e1, c1⟩ := (H1.out.drewN q).some hlt
        obtain ⟨b2, o2, e2, c2⟩ := (H2.out.drewN q).some hlt
        rw [← hq] at c1 c2
        have d1 := H1.out.byte k hlt
        have d2 := H2.out.byte k hlt
        have d3 := dotTo_lt H1.out H2.out k hk hk
        have hs : dotTo xs ys (k + 1) = dotTo xs ys k ^^^ Gf.mul (xs.getD k 0).toNat (ys.getD k 0).toNat := rfl
        have HS := Lib.hid hs
        subst e1 e2
        clear hq hs
        generalize xs.getD k 0 = x at *
        generalize ys.getD k 0 = y at *
        generalize dotTo xs ys k = s at *
        obtain ⟨d11, d12⟩ := d1
        obtain ⟨d21, d22⟩ := d2
        have d4 := Gf.mul_lt (a := x.toNat) (b := y.toNat) (by omega) (by omega)
        have i2 : (k : Int) < (l : Int) := by omega
        go_wp2_with fail
        go_quiet ((first | (go_at_call 72; exact Calls.quiet_of (product_any fb x y d11 d12 d21 d22 _ (HF2.out.drewN _))) | (go_at_call 24; exact Calls.quiet_of_same (add_nat s _ d3 d4 _))))
        go_wp2
        go_roundw
        case rel => exact ⟨k + 1, by omega, by go_num, by rw [HS.out], q + nq, by rw [HQ.out, World.drewN_drewN]⟩
        case measure => simp [intOf]; omega
      · obtain rfl : k = l := by omega
        clear hq
        go_wp2
        go_ret2
        exact ⟨rfl, q, HQ.out⟩
  · rw [if_neg hne]
    have ht : ((l : Int) != (l' : Int)) = true := by simp; omega
    go_enter Try.func45, Try.ntmps45
    go_wp2_with fail
    refine (none_no _ _ HF.out).mono ?_
    rintro e w' ⟨rfl, rfl⟩
    go_wp2
    go_ret2
    exact ⟨rfl, 0, rfl⟩

end Go.Proofs.Ytdempjkkahjekaa
