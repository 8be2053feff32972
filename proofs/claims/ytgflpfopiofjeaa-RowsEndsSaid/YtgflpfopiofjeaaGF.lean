import Derived.Test.YtgflpfopiofjeaaGE
namespace Go.Proofs.Ytgflpfopiofjeaa
open Go.RowKit Go.Shelf

theorem below3 {w : World} (o1 o2 o3 : Obj) : Below w.heap.size w (((w.alloc o1).alloc o2).alloc o3) := (((Below.refl _ w).alloc (Nat.le_refl _) o1).alloc (by simp) o2).alloc (by simp; omega) o3
theorem awake_same : ∀ i, i < 2 → matL [[1, 142], [0, 142]] i = cl 2 2 (Mt.inv (matL [[1, 1], [0, 2]]) 2) i := fun i hi => funext fun j => by
  by_cases h : j < 2
  · rw [cl_in hi h, awake_inv' i hi j h]
  · rw [cl_up 2 2 _ i j (by omega)]
    unfold matL
    rcases (show i = 0 ∨ i = 1 by omega) with rfl | rfl <;> (rcases j with _ | _ | j <;> simp_all)

set_option maxHeartbeats 2000000 in
set_option maxRecDepth 100000 in
theorem awake3_any (w : World) :
    Calls Try.prog 8 #[] w fun e w' => e = .returned (.bool true) ∧ Below w.heap.size w w' := by
  have HA := Lib.hid (rd2 w 1 1 0 2 (by omega) (by omega) (by omega) (by omega))
  have HB0 := Lib.hid (below3 (w := w) (.cells #[.int .u8 1, .int .u8 1] 5) (.cells #[.int .u8 0, .int .u8 2] 5) (.cells #[.slice (some ⟨w.heap.size, 0, none⟩) 2 2, .slice (some ⟨w.heap.size + 1, 0, none⟩) 2 2] 23))
  go_enter Try.func8, Try.ntmps8
  go_wp2_with fail
  refine (inverse_yes _ 2 2 _ _ _ _ _ HA.out isM2 wd2).mono ?_
  rintro e w1 (⟨h, _⟩ | ⟨_, G, b, rfl, hG, hB⟩)
  · rw [awake_rk1] at h; omega
  have HG := Lib.hid hG; have HB1 := Lib.hid (HB0.out.trans (hB.mono HB0.out.size)); clear hG hB HB0 HA
  have HA := Lib.hid (rd2 w1 1 1 1 1 (by omega) (by omega) (by omega) (by omega))
  have HC := Lib.hid (below3 (w := w1) (.cells #[.int .u8 1, .int .u8 1] 5) (.cells #[.int .u8 1, .int .u8 1] 5) (.cells #[.slice (some ⟨w1.heap.size, 0, none⟩) 2 2, .slice (some ⟨w1.heap.size + 1, 0, none⟩) 2 2] 23))
  go_wp2_with fail
  refine (inverse_yes _ 2 2 _ _ _ _ _ HA.out isM2 wd2).mono ?_
  rintro e w2 (⟨_, rfl, hB⟩ | ⟨h, _⟩)
  rotate_left
  · rw [awake_rk2] at h; omega
  have HB2' := Lib.hid (HC.out.trans (hB.mono HC.out.size)); clear hB HC HA
  have HG2 := Lib.hid (HG.out.same HB2'.out); have HB2 := Lib.hid (HB1.out.trans (HB2'.out.mono HB1.out.size))
  clear HB2'
  have HA := Lib.hid (rd2 w2 1 142 0 142 (by omega) (by omega) (by omega) (by omega))
  have HC := Lib.hid (below3 (w := w2) (.cells #[.int .u8 1, .int .u8 142] 5) (.cells #[.int .u8 0, .int .u8 142] 5) (.cells #[.slice (some ⟨w2.heap.size, 0, none⟩) 2 2, .slice (some ⟨w2.heap.size + 1, 0, none⟩) 2 2] 23))
  have HAS := Lib.hid awake_same
  go_wp2_with fail
  refine (sameRows_any _ _ 2 2 2 _ _ _ _ _ _ _ _ (by omega) (fun _ _ => by omega) _ (HG2.out.same HC.out).rd HA.out (fun i hi => ⟨rfl, HAS.out i hi⟩)).mono ?_
  rintro e w3 ⟨rfl, q, hq⟩
  have HB3 := Lib.hid (show Below w.heap.size w w3 by rw [hq]; exact below_dr (HB2.out.trans (HC.out.mono HB2.out.size)) q)
  clear hq HC HA
  have HA := Lib.hid (rd2 w3 1 1 1 1 (by omega) (by omega) (by omega) (by omega))
  have HC := Lib.hid (below3 (w := w3) (.cells #[.int .u8 1, .int .u8 1] 5) (.cells #[.int .u8 1, .int .u8 1] 5) (.cells #[.slice (some ⟨w3.heap.size, 0, none⟩) 2 2, .slice (some ⟨w3.heap.size + 1, 0, none⟩) 2 2] 23))
  go_wp2_with fail
  refine (rank_yes _ 2 2 _ _ _ _ _ HA.out isM2).mono ?_
  rw [wd2, awake_rk2]
  rintro e w4 ⟨rfl, hB⟩
  have HB4 := Lib.hid (HB3.out.trans ((HC.out.trans (hB.mono HC.out.size)).mono HB3.out.size))
  clear hB HC HA
  go_wp2
  go_ret
  exact ⟨rfl, HB4.out⟩
end Go.Proofs.Ytgflpfopiofjeaa
