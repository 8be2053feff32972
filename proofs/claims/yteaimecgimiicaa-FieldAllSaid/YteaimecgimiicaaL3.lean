import Derived.Test.YteaimecgimiicaaL2
namespace Go.Proofs.Yteaimecgimiicaa
open Go.RowKit

set_option maxHeartbeats 2000000 in
set_option maxRecDepth 100000 in
theorem fieldDoes_nat (a b : Nat) (ha : a < 256) (hb : b < 256) (n : Int) (w : World) :
    Calls Try.prog 3 #[.int .u8 a, .int .u8 b, .int .i64 n] w fun e w' => e = .returned (.bool true) ∧ Below w.heap.size w w' := by
  have hx := u8_xor_nat a b ha hb
  have a1 : (0 : Int) ≤ (a : Int) := by omega
  have a2 : (a : Int) < 256 := by omega
  have b1 : (0 : Int) ≤ (b : Int) := by omega
  have b2 : (b : Int) < 256 := by omega
  go_enter Try.func3, Try.ntmps3
  go_wp2_with fail
  refine (new_any _).mono ?_
  rintro e w1 ⟨rfl, hF, hB⟩
  have HF := Lib.hid hF; have HB := Lib.hid hB; clear hF hB
  generalize w.heap.size = fb at HF
  go_wp2_with fail
  refine (inv_any _ a a1 a2 _ HF.out).mono ?_
  rintro e w' ⟨rfl, q, rfl⟩
  go_wp2_with fail
  refine (rinv_any a a1 a2 _).mono ?_
  rintro e w' ⟨rfl, rfl⟩
  go_wp2_with fail
  refine (div_any _ a b a1 a2 b1 b2 _ (HF.out.drewN q)).mono ?_
  rintro e w' ⟨rfl, q2, rfl⟩
  go_wp2_with fail
  refine (rdiv_any a b a1 a2 b1 b2 _).mono ?_
  rintro e w' ⟨rfl, rfl⟩
  go_wp2_with fail
  refine (pow_any _ a n a1 a2 _ (HF.out.drewN _)).mono ?_
  rintro e w' ⟨rfl, q3, rfl⟩
  go_wp2_with fail
  refine (rpow_any a n a1 a2 _).mono ?_
  rintro e w' ⟨rfl, rfl⟩
  go_wp2_with fail
  refine (log_any _ a a1 a2 _ (HF.out.drewN _)).mono ?_
  rintro e w' ⟨rfl, rfl⟩
  go_wp2_with fail
  refine (rlog_any a ha _).mono ?_
  rintro e w' ⟨rfl, rfl⟩
  go_wp2_with fail
  refine (add_nat a b ha hb _).mono ?_
  rintro e w' ⟨rfl, rfl⟩
  go_wp2_with fail
  refine (mul_nat _ a b ha hb _ (HF.out.drewN _)).mono ?_
  rintro e w' ⟨rfl, q4, rfl⟩
  go_wp2_with fail
  refine (rmul_any a b ha hb _).mono ?_
  rintro e w' ⟨rfl, rfl⟩
  go_wp2_with fail
  refine (exp_any _ n _ (HF.out.drewN _)).mono ?_
  rintro e w' ⟨rfl, q5, rfl⟩
  go_wp2_with fail
  refine (rexp_any n _).mono ?_
  rintro e w' ⟨rfl, rfl⟩
  go_wp2_with fail
  refine (awake_any _).mono ?_
  rintro e w2 ⟨rfl, hB2⟩
  have HB2 := Lib.hid hB2; clear hB2
  go_wp2
  go_ret
  exact ⟨rfl, (below_drewN HB.out _).trans (HB2.out.mono HB.out.size)⟩
end Go.Proofs.Yteaimecgimiicaa
