import Derived.Test.YtjnfghhochcpaaaSB
import Derived.Deep.RegionHeld3
namespace Go.Proofs.Ytjnfghhochcpaaa
open Go.RowKit Go.Shelf

/-- the difference of two rows, up to k. -/
def xorT (f g : Nat → Nat) (k i : Nat) : Nat := if i < k then f i ^^^ g i else 0
theorem xorT_s (f g : Nat → Nat) (k i : Nat) : (if i = k then f k ^^^ g k else xorT f g k i) = xorT f g (k + 1) i := by
  unfold xorT
  (repeat' split) <;> first | rfl | omega | (subst_vars; rfl)
theorem xorT_by {f g : Nat → Nat} (hf : Pf.By f) (hg : Pf.By g) (k : Nat) : Pf.By (xorT f g k) := fun i => by
  unfold xorT; split
  · exact Nat.xor_lt_two_pow (n := 8) (hf i) (hg i)
  · omega
theorem xorT_up (f g : Nat → Nat) (k : Nat) : Pf.Up (xorT f g k) k := fun i hi => if_neg (by omega)
theorem below_two {w : World} (x y : Array Value) : Below w.heap.size w ((w.alloc (.cells x 5)).alloc (.cells y 5)) := ((Below.refl _ w).alloc (Nat.le_refl _) _).alloc (by simp) _
set_option maxHeartbeats 4000000 in
set_option maxRecDepth 100000 in
theorem sumParts_any (a : Option Addr) (n cap : Nat) (f : Nat → Nat) (a' : Option Addr) (n' cap' : Nat) (g : Nat → Nat) (x y : Int) (hn : n ≤ 140737488355328) (hn' : n' ≤ 140737488355328) (w : World) (hS : Sl w a n cap f) (hS' : Sl w a' n' cap' g) :
    Calls Try.prog 6 #[.slice a n cap, .slice a' n' cap', .int .i64 x, .int .i64 y] w fun e w' => e = .returned (.bool true) ∧ Below w.heap.size w w' := by
  have HS := Lib.hid hS; have HS' := Lib.hid hS'
  have hc := hS.capOk
  clear hS hS'
  go_enter Try.func6, Try.ntmps6
  go_wp2_with fail
  refine (sawake_any _).mono ?_
  rintro e w1 ⟨rfl, hB1⟩
  have HB1 := Lib.hid hB1; clear hB1
  by_cases hbig : n + n' ≤ 20000
  · have i0 : ¬ (20000 : Int) < (n : Int) + (n' : Int) := by omega
    go_wp2_with fail
    refine (spick_any x (n + 1) (by omega) (by omega) _).mono ?_
    rintro e w2 ⟨⟨r1, hr1, rfl⟩, rfl⟩
    go_wp2_with fail
    refine (spick_any y (n + 1) (by omega) (by omega) _).mono ?_
    rintro e w3 ⟨⟨r2, hr2, rfl⟩, rfl⟩
    go_upto_region 6 with fail
    go_cut [11, 12] from 35 to 40 (fun s t wx => (∃ lo hi : Nat, s = .int .i64 (lo : Nat) ∧ t = .int .i64 (hi : Nat) ∧ lo ≤ hi ∧ hi ≤ n) ∧ wx = w3)
    case first =>
      rcases Nat.lt_trichotomy r1 r2 with h | h | h
      · have h2 : ¬ r2 < r1 := by omega
        go_wp2
        go_meet
        exact ⟨⟨r1, r2, rfl, rfl, by omega, by omega⟩, rfl⟩
      · have h2 : ¬ r2 < r1 := by omega
        have h3 : ¬ r1 < r2 := by omega
        clear h
        go_wp2
        go_meet
        exact ⟨⟨r1, r1, rfl, rfl, by omega, by omega⟩, rfl⟩
      · have h2 : ¬ r1 < r2 := by omega
        go_wp2
        go_meet
        exact ⟨⟨r2, r1, rfl, rfl, by omega, by omega⟩, rfl⟩
    case rest =>
      obtain ⟨⟨lo, hi, rfl, rfl, hlh, hhi⟩, hwc⟩ := hcut
      subst hwc
      clear hr1 hr2
      go_wp2_with fail
      refine (of_one (HS.out.same HB1.out) (by omega) _ rfl).mono ?_
      rintro e w4 ⟨rfl, hB4⟩
      have HB4 := Lib.hid (HB1.out.trans (hB4.mono HB1.out.size)); clear hB4
      have HGO := Lib.hid (crc_cut f 0 lo n (by omega))
      have HGL := Lib.hid (Crc.go_lt (s := 0) (f := sub f 0 lo) (by omega) (sub_by HS.out.bytes 0 lo) lo)
      have HGT := Lib.hid (Crc.go_lt (s := 0) (f := f) (by omega) HS.out.bytes n)
      obtain ⟨T, hT⟩ : ∃ T, T = Crc.go 0 f n := ⟨_, rfl⟩
      rw [← hT] at HGO HGT ⊢
      have HT := Lib.hid hT; clear hT
      have s1 := slice_h a n cap lo (by omega)
      have s2 := slice_lh a n cap lo hi hlh (by omega)
      have s3 := slice_l a n cap hi (by omega)
      have s4 := slice_l a n cap lo (by omega)
      have k1 : ((T : Int) != (T : Int)) = false := by simp
      have hs4 := HB4.out.size
      go_wp2_with fail
      refine wp_region_held_drew (S := fun W => Below w.heap.size w W) (by kernel_rfl) (HB4.out.drew) (fun hHeld => ?_)
      refine wpAnyH_take (i := 0) (oi := ⟨some 44, _, _, _, _, none⟩) (v := (.slice a n cap)) rfl (by kernel_rfl) (by kernel_rfl) (by kernel_rfl) (fun _ _ _ h => h) (Or.inl ⟨by rfl, fun W hW => ?_⟩) (by assumption) ?_
      · go_simp
      simp only [Act.put, List.setIfInBounds_toArray, List.set_cons_zero, List.set_cons_succ]
      refine wpAnyH_take (i := 1) (oi := ⟨some 45, _, _, _, _, none⟩) (v := (.int .i64 (lo : Nat))) rfl (by kernel_rfl) (by kernel_rfl) (by kernel_rfl) (fun _ _ _ h => h) (Or.inl ⟨by rfl, fun W hW => ?_⟩) (by assumption) ?_
      · go_simp
      simp only [Act.put, List.setIfInBounds_toArray, List.set_cons_zero, List.set_cons_succ]
      refine wpAnyH_take (i := 2) (oi := ⟨some 46, _, _, _, _, none⟩) (v := (.slice a lo cap)) rfl (by kernel_rfl) (by kernel_rfl) (by kernel_rfl) (fun _ _ _ h => h) (Or.inl ⟨by rfl, fun W hW => ?_⟩) (by assumption) ?_
      · go_simp
      simp only [Act.put, List.setIfInBounds_toArray, List.set_cons_zero, List.set_cons_succ]
      refine wpAnyH_take (i := 3) (oi := ⟨some 47, _, _, _, _, none⟩) (v := (.slice a n cap)) rfl (by kernel_rfl) (by kernel_rfl) (by kernel_rfl) (fun _ _ _ h => h) (Or.inl ⟨by rfl, fun W hW => ?_⟩) (by assumption) ?_
      · go_simp
      simp only [Act.put, List.setIfInBounds_toArray, List.set_cons_zero, List.set_cons_succ]
      refine wpAnyH_take (i := 4) (oi := ⟨some 48, _, _, _, _, none⟩) (v := (.int .i64 (lo : Nat))) rfl (by kernel_rfl) (by kernel_rfl) (by kernel_rfl) (fun _ _ _ h => h) (Or.inl ⟨by rfl, fun W hW => ?_⟩) (by assumption) ?_
      · go_simp
      simp only [Act.put, List.setIfInBounds_toArray, List.set_cons_zero, List.set_cons_succ]
      refine wpAnyH_take (i := 5) (oi := ⟨some 49, _, _, _, _, none⟩) (v := (.int .i64 (hi : Nat))) rfl (by kernel_rfl) (by kernel_rfl) (by kernel_rfl) (fun _ _ _ h => h) (Or.inl ⟨by rfl, fun W hW => ?_⟩) (by assumption) ?_
      · go_simp
      simp only [Act.put, List.setIfInBounds_toArray, List.set_cons_zero, List.set_cons_succ]
      refine wpAnyH_take (i := 6) (oi := ⟨some 50, _, _, _, _, none⟩) (v := (.slice (cutA a lo cap) (hi - lo) (cap - lo))) rfl (by kernel_rfl) (by kernel_rfl) (by kernel_rfl) (fun _ _ _ h => h) (Or.inl ⟨by rfl, fun W hW => ?_⟩) (by assumption) ?_
      · go_simp
      simp only [Act.put, List.setIfInBounds_toArray, List.set_cons_zero, List.set_cons_succ]
      refine wpAnyH_take (i := 7) (oi := ⟨some 51, _, _, _, _, none⟩) (v := (.slice a n cap)) rfl (by kernel_rfl) (by kernel_rfl) (by kernel_rfl) (fun _ _ _ h => h) (Or.inl ⟨by rfl, fun W hW => ?_⟩) (by assumption) ?_
      · go_simp
      simp only [Act.put, List.setIfInBounds_toArray, List.set_cons_zero, List.set_cons_succ]
      refine wpAnyH_take (i := 8) (oi := ⟨some 52, _, _, _, _, none⟩) (v := (.int .i64 (hi : Nat))) rfl (by kernel_rfl) (by kernel_rfl) (by kernel_rfl) (fun _ _ _ h => h) (Or.inl ⟨by rfl, fun W hW => ?_⟩) (by assumption) ?_
      · go_simp
      simp only [Act.put, List.setIfInBounds_toArray, List.set_cons_zero, List.set_cons_succ]
      refine wpAnyH_take (i := 9) (oi := ⟨some 53, _, _, _, _, none⟩) (v := (.slice (cutA a hi cap) (n - hi) (cap - hi))) rfl (by kernel_rfl) (by kernel_rfl) (by kernel_rfl) (fun _ _ _ h => h) (Or.inl ⟨by rfl, fun W hW => ?_⟩) (by assumption) ?_
      · go_simp
      simp only [Act.put, List.setIfInBounds_toArray, List.set_cons_zero, List.set_cons_succ]
      refine wpAnyH_take (i := 12) (oi := ⟨some 56, _, _, _, _, none⟩) (v := (.int .u32 (T : Nat))) rfl (by kernel_rfl) (by kernel_rfl) (by kernel_rfl) (fun _ _ _ h => h) (Or.inl ⟨by rfl, fun W hW => ?_⟩) (by assumption) ?_
      · go_simp
      simp only [Act.put, List.setIfInBounds_toArray, List.set_cons_zero, List.set_cons_succ]
      refine wpAnyH_ready (rs := [10]) (by kernel_rfl) (by simp) (AllReadyH.cons rfl (fun KK hKK => ?_) AllReadyH.nil)
      go_simp
      refine hKK.out _ _ ((hHeld).alloc (Below.size hHeld) _) (fun hHeld => ?_)
      clear hKK KK
      try simp only [Act.put, List.setIfInBounds_toArray, List.set_cons_zero, List.set_cons_succ]
      refine wpAnyH_ready (rs := [11]) (by kernel_rfl) (by simp) (AllReadyH.cons rfl (fun KK hKK => ?_) AllReadyH.nil)
      go_simp
      refine (of_cut (HS.out.same HB4.out.drew) lo hi hlh hhi (by omega) _ rfl).mono ?_
      rintro e w5 ⟨rfl, hB5⟩
      dsimp only
      have HB5 := Lib.hid (HB4.out.drew.trans (hB5.mono HB4.out.size))
      rw [← HT.out]
      refine hKK.out _ _ (HB5.out) (fun hHeld => ?_)
      clear hKK KK
      try simp only [Act.put, List.setIfInBounds_toArray, List.set_cons_zero, List.set_cons_succ]
      refine wpAnyH_take (i := 13) (oi := ⟨some 57, _, _, _, _, none⟩) (v := (.bool false)) rfl (by kernel_rfl) (by kernel_rfl) (by kernel_rfl) (fun _ _ _ h => h) (Or.inl ⟨by rfl, fun W hW => ?_⟩) (by assumption) ?_
      · go_simp
      simp only [Act.put, List.setIfInBounds_toArray, List.set_cons_zero, List.set_cons_succ]
      refine wpAnyH_take (i := 14) (oi := ⟨some 58, _, _, _, _, none⟩) (v := (.bool false)) rfl (by kernel_rfl) (by kernel_rfl) (by kernel_rfl) (fun _ _ _ h => h) (Or.inl ⟨by rfl, fun W hW => ?_⟩) (by assumption) ?_
      · go_simp
      simp only [Act.put, List.setIfInBounds_toArray, List.set_cons_zero, List.set_cons_succ]
      refine wpAnyH_take (i := 15) (oi := ⟨some 59, _, _, _, _, some (14, false)⟩) (v := (.slice a n cap)) rfl (by kernel_rfl) (by kernel_rfl) (by kernel_rfl) (fun _ _ _ h => h) (Or.inl ⟨by rfl, fun W hW => ?_⟩) (by assumption) ?_
      · go_simp
      simp only [Act.put, List.setIfInBounds_toArray, List.set_cons_zero, List.set_cons_succ]
      refine wpAnyH_take (i := 16) (oi := ⟨some 60, _, _, _, _, some (14, false)⟩) (v := (.int .i64 (lo : Nat))) rfl (by kernel_rfl) (by kernel_rfl) (by kernel_rfl) (fun _ _ _ h => h) (Or.inl ⟨by rfl, fun W hW => ?_⟩) (by assumption) ?_
      · go_simp
      simp only [Act.put, List.setIfInBounds_toArray, List.set_cons_zero, List.set_cons_succ]
      refine wpAnyH_take (i := 17) (oi := ⟨some 61, _, _, _, _, some (14, false)⟩) (v := (.slice a lo cap)) rfl (by kernel_rfl) (by kernel_rfl) (by kernel_rfl) (fun _ _ _ h => h) (Or.inl ⟨by rfl, fun W hW => ?_⟩) (by assumption) ?_
      · go_simp
      simp only [Act.put, List.setIfInBounds_toArray, List.set_cons_zero, List.set_cons_succ]
      refine wpAnyH_take (i := 20) (oi := ⟨some 64, _, _, _, _, some (14, false)⟩) (v := (.slice a n cap)) rfl (by kernel_rfl) (by kernel_rfl) (by kernel_rfl) (fun _ _ _ h => h) (Or.inl ⟨by rfl, fun W hW => ?_⟩) (by assumption) ?_
      · go_simp
      simp only [Act.put, List.setIfInBounds_toArray, List.set_cons_zero, List.set_cons_succ]
      refine wpAnyH_take (i := 21) (oi := ⟨some 65, _, _, _, _, some (14, false)⟩) (v := (.int .i64 (lo : Nat))) rfl (by kernel_rfl) (by kernel_rfl) (by kernel_rfl) (fun _ _ _ h => h) (Or.inl ⟨by rfl, fun W hW => ?_⟩) (by assumption) ?_
      · go_simp
      simp only [Act.put, List.setIfInBounds_toArray, List.set_cons_zero, List.set_cons_succ]
      refine wpAnyH_take (i := 22) (oi := ⟨some 66, _, _, _, _, some (14, false)⟩) (v := (.slice (cutA a lo cap) (n - lo) (cap - lo))) rfl (by kernel_rfl) (by kernel_rfl) (by kernel_rfl) (fun _ _ _ h => h) (Or.inl ⟨by rfl, fun W hW => ?_⟩) (by assumption) ?_
      · go_simp
      simp only [Act.put, List.setIfInBounds_toArray, List.set_cons_zero, List.set_cons_succ]
      refine wpAnyH_take (i := 24) (oi := ⟨some 68, _, _, _, _, some (14, false)⟩) (v := (.int .u32 (T : Nat))) rfl (by kernel_rfl) (by kernel_rfl) (by kernel_rfl) (fun _ _ _ h => h) (Or.inl ⟨by rfl, fun W hW => ?_⟩) (by assumption) ?_
      · go_simp
      simp only [Act.put, List.setIfInBounds_toArray, List.set_cons_zero, List.set_cons_succ]
      refine wpAnyH_ready (rs := [18]) (by kernel_rfl) (by simp) (AllReadyH.cons rfl (fun KK hKK => ?_) AllReadyH.nil)
      go_simp
      refine hKK.out _ _ ((hHeld).alloc (Below.size hHeld) _) (fun hHeld => ?_)
      clear hKK KK
      try simp only [Act.put, List.setIfInBounds_toArray, List.set_cons_zero, List.set_cons_succ]
      refine wpAnyH_ready (rs := [19]) (by kernel_rfl) (by simp) (AllReadyH.cons rfl (fun KK hKK => ?_) AllReadyH.nil)
      go_simp
      refine (of_one (sl_cutH (HS.out.same HB5.out) (show lo ≤ n by omega)) (by omega) _ rfl).mono ?_
      rintro e w6 ⟨rfl, hB6⟩
      dsimp only
      have HB6 := Lib.hid (HB5.out.trans (hB6.mono HB5.out.size))
      refine hKK.out _ _ (HB6.out) (fun hHeld => ?_)
      clear hKK KK
      try simp only [Act.put, List.setIfInBounds_toArray, List.set_cons_zero, List.set_cons_succ]
      refine wpAnyH_ready (rs := [23]) (by kernel_rfl) (by simp) (AllReadyH.cons rfl (fun KK hKK => ?_) AllReadyH.nil)
      go_simp
      refine (go_sum _ _ _ _ _ HGL.out (by omega) _ (sl_cutA (HS.out.same HB6.out) (show lo + (n - lo) ≤ n by omega))).mono ?_
      rintro e w7 ⟨rfl, hB7⟩
      dsimp only
      have HB7 := Lib.hid (HB6.out.trans (hB7.mono HB6.out.size))
      rw [HGO.out]
      refine hKK.out _ _ (HB7.out) (fun hHeld => ?_)
      clear hKK KK
      try simp only [Act.put, List.setIfInBounds_toArray, List.set_cons_zero, List.set_cons_succ]
      refine wpAnyH_take (i := 25) (oi := ⟨some 69, _, _, _, _, some (14, false)⟩) (v := (.bool false)) rfl (by kernel_rfl) (by kernel_rfl) (by kernel_rfl) (fun _ _ _ h => h) (Or.inl ⟨by rfl, fun W hW => ?_⟩) (by assumption) ?_
      · go_simp
      simp only [Act.put, List.setIfInBounds_toArray, List.set_cons_zero, List.set_cons_succ]
      refine wpAnyH_take (i := 26) (oi := ⟨some 70, _, _, _, _, none⟩) (v := (.bool false)) rfl (by kernel_rfl) (by kernel_rfl) (by kernel_rfl) (fun _ _ _ h => h) (Or.inl ⟨by rfl, fun W hW => ?_⟩) (by assumption) ?_
      · go_simp
      simp only [Act.put, List.setIfInBounds_toArray, List.set_cons_zero, List.set_cons_succ]
      refine wpAnyH_take (i := 27) (oi := ⟨some 71, _, _, _, _, none⟩) (v := (.bool false)) rfl (by kernel_rfl) (by kernel_rfl) (by kernel_rfl) (fun _ _ _ h => h) (Or.inl ⟨by rfl, fun W hW => ?_⟩) (by assumption) ?_
      · go_simp
      simp only [Act.put, List.setIfInBounds_toArray, List.set_cons_zero, List.set_cons_succ]
      refine wpAnyH_take (i := 28) (oi := ⟨some 72, _, _, _, _, some (27, false)⟩) (v := (.slice a n cap)) rfl (by kernel_rfl) (by kernel_rfl) (by kernel_rfl) (fun _ _ _ h => h) (Or.inl ⟨by rfl, fun W hW => ?_⟩) (by assumption) ?_
      · go_simp
      simp only [Act.put, List.setIfInBounds_toArray, List.set_cons_zero, List.set_cons_succ]
      refine wpAnyH_take (i := 30) (oi := ⟨some 74, _, _, _, _, some (27, false)⟩) (v := (.int .u32 (T : Nat))) rfl (by kernel_rfl) (by kernel_rfl) (by kernel_rfl) (fun _ _ _ h => h) (Or.inl ⟨by rfl, fun W hW => ?_⟩) (by assumption) ?_
      · go_simp
      simp only [Act.put, List.setIfInBounds_toArray, List.set_cons_zero, List.set_cons_succ]
      refine wpAnyH_ready (rs := [29]) (by kernel_rfl) (by simp) (AllReadyH.cons rfl (fun KK hKK => ?_) AllReadyH.nil)
      go_simp
      refine (go_sum a n cap f 0 (by omega) (by omega) _ (HS.out.same HB7.out)).mono ?_
      rintro e w8 ⟨rfl, hB8⟩
      dsimp only
      have HB8 := Lib.hid (HB7.out.trans (hB8.mono HB7.out.size))
      rw [← HT.out]
      refine hKK.out _ _ (HB8.out) (fun hHeld => ?_)
      clear hKK KK
      try simp only [Act.put, List.setIfInBounds_toArray, List.set_cons_zero, List.set_cons_succ]
      refine wpAnyH_take (i := 31) (oi := ⟨some 75, _, _, _, _, some (27, false)⟩) (v := (.bool false)) rfl (by kernel_rfl) (by kernel_rfl) (by kernel_rfl) (fun _ _ _ h => h) (Or.inl ⟨by rfl, fun W hW => ?_⟩) (by assumption) ?_
      · go_simp
      simp only [Act.put, List.setIfInBounds_toArray, List.set_cons_zero, List.set_cons_succ]
      refine wpAnyH_take (i := 32) (oi := ⟨some 76, _, _, _, _, none⟩) (v := (.bool false)) rfl (by kernel_rfl) (by kernel_rfl) (by kernel_rfl) (fun _ _ _ h => h) (Or.inl ⟨by rfl, fun W hW => ?_⟩) (by assumption) ?_
      · go_simp
      simp only [Act.put, List.setIfInBounds_toArray, List.set_cons_zero, List.set_cons_succ]
      refine wpAnyH_done (by kernel_rfl) ?_ _
      clear s1 s2 s3 s4 k1 hs4 hHeld HB4 HB5 HB6 HB7 HGO HGL
      by_cases hnn : n = n'
      · have k2 : ((n : Int) != (n' : Int)) = false := by rw [hnn]; simp
        have HNN := Lib.hid hnn; clear hnn
        have hmk := hmk8 n (by omega)
        go_upto_region 12 with fail
        clear k2
        go_cut [14, 15] from 82 to 87 (fun s t wx => ∃ d z : Nat, s = .slice (some ⟨d, 0, none⟩) n n ∧ t = .slice (some ⟨z, 0, none⟩) n n ∧ d ≠ z ∧ w.heap.size ≤ d ∧ w.heap.size ≤ z ∧ Bl wx d n n (fun _ => 0) ∧ Bl wx z n n (fun _ => 0) ∧ Below w.heap.size w wx)
        case first =>
          have hsz := HB8.out.size
          have HBt := Lib.hid (below_two (w := w8) (madeCells #[.int .u8 0] n) (madeCells #[.int .u8 0] n))
          have hb1 := Lib.hid (Bl.below (bl_made w8 n) ((Below.refl _ (w8.alloc (.cells (madeCells #[.int .u8 0] n) 5))).alloc (Nat.le_refl _) (.cells (madeCells #[.int .u8 0] n) 5)) (by simp))
          have hb2 := Lib.hid (bl_made (w8.alloc (.cells (madeCells #[.int .u8 0] n) 5)) n)
          have hsa : (w8.alloc (.cells (madeCells #[.int .u8 0] n) 5)).heap.size = w8.heap.size + 1 := by simp
          rw [hsa] at hb2
          have HSA := Lib.hid hsa; clear hsa
          go_region
          · go_wp2_with fail
            go_meet
            exact ⟨w8.heap.size, w8.heap.size + 1, rfl, rfl, by omega, by omega, by omega, hb1.out.drewN 1, hb2.out.drewN 1, below_dr (HB8.out.trans (HBt.out.mono hsz)) 1⟩
          · go_wp2_with fail
            go_meet
            exact ⟨w8.heap.size + 1, w8.heap.size, rfl, rfl, by omega, by omega, by omega, hb2.out.drewN 1, hb1.out.drewN 1, below_dr (HB8.out.trans (HBt.out.mono hsz)) 1⟩
        case rest =>
          obtain ⟨d, z, rfl, rfl, hdz, hd, hz, hbd, hbz, hBc⟩ := hcut
          obtain ⟨wx, rfl⟩ : ∃ wx : World, wx = wc := ⟨_, rfl⟩
          have HBD := Lib.hid hbd; have HBZ := Lib.hid hbz; have HBC := Lib.hid hBc; clear hbd hbz hBc
          clear hmk HB8 HB1
          have HSC' := HS'.out
          rw [← HNN.out] at HSC'
          have HG := Lib.hid HSC'; clear HSC'
          go_wp2_with fail
          go_loopw [16] (fun i wr => ∃ k : Nat, k ≤ n ∧ i = .int .i64 k ∧ Bl wr d n n (xorT f g k) ∧ Bl wr z n n (fun _ => 0) ∧ Below w.heap.size w wr) (fun i _ => n - (intOf i).toNat)
          case atStart => exact ⟨0, by omega, rfl, HBD.out.congr (fun i _ => (if_neg (by omega)).symm), HBZ.out, HBC.out⟩
          case round =>
            rename_i wr
            obtain ⟨k, hk, rfl, hb, hbz2, hBe⟩ := hrel
            have HB := Lib.hid hb; have HZ := Lib.hid hbz2; have HBE := Lib.hid hBe; clear hb hbz2 hBe HBD HBZ HBC
            by_cases hlt : k < n
            · have i1 : (k : Int) < (n : Int) := by omega
              obtain ⟨ab, ao, ea, hca⟩ := (HS.out.same HBE.out).at_ hlt
              obtain ⟨bb, bo, eb, hcb⟩ := (HG.out.same HBE.out).at_ hlt
              subst ea eb
              have i2 : (k : Int) < (n' : Int) := by have := HNN.out; omega
              have hcd := HB.out.cell hlt
              have hfd := HB.out.free k
              have hv : bits .xor .u8 ((f k : Nat) : Int) ((g k : Nat) : Int) = ((f k ^^^ g k : Nat) : Int) := u8_xor_nat _ _ (HS.out.bytes k) (HG.out.bytes k)
              have HXS := Lib.hid (fun i => xorT_s f g k i)
              generalize xorT f g k k = x0 at hcd
              generalize f k ^^^ g k = v at hv HXS
              go_wp2_with fail
              go_region
              go_wp2_with fail
              go_roundw
              case rel => exact ⟨k + 1, by omega, by go_num, ((HB.out.set hlt v).drewN 1).congr (fun i _ => HXS.out i), (HZ.out.kept (heap_setCell_other wr ⟨d, k, none⟩ z _ (fun e => hdz e.symm))).drewN 1, below_dr (HBE.out.setCell (p := ⟨d, k, none⟩) hd _) 1⟩
              case measure => simp [intOf]; omega
            · obtain rfl : k = n := by omega
              go_wp2_with fail
              refine (of_one (HS'.out.same HBE.out) (by omega) _ rfl).mono ?_
              rintro e v1 ⟨rfl, hv1⟩
              have HV1 := Lib.hid (HBE.out.trans (hv1.mono HBE.out.size))
              have HB1 := Lib.hid (HB.out.below hv1 HB.out.lt); have HZ1 := Lib.hid (HZ.out.below hv1 HZ.out.lt); clear hv1
              go_wp2_with fail
              have HSD := Lib.hid (HB1.out.sl (Nat.le_refl _) (by unfold maxLen; omega) (xorT_by HS.out.bytes HG.out.bytes k) (xorT_up f g k))
              refine (of_one HSD.out (by omega) _ rfl).mono ?_
              rintro e v2 ⟨rfl, hv2⟩
              have HV2 := Lib.hid (HV1.out.trans (hv2.mono HV1.out.size))
              have HZ2 := Lib.hid (HZ1.out.below hv2 HZ1.out.lt); clear hv2
              have hu1 : bits .xor .u32 ((T : Nat) : Int) ((Crc.go 0 g n' : Nat) : Int) = ((T ^^^ Crc.go 0 g n' : Nat) : Int) := u32_xor_nat _ _ HGT.out (Crc.go_lt (by omega) HS'.out.bytes n')
              have HDF := Lib.hid (show T ^^^ Crc.go 0 g n' = Crc.go 0 (xorT f g k) k ^^^ Crc.go 0 (fun _ => 0) k by
                rw [HT.out, ← HNN.out]
                exact Crc.go_diff f g _ k (fun i hi => if_pos hi))
              have hu2 : bits .xor .u32 ((Crc.go 0 (xorT f g k) k : Nat) : Int) ((Crc.go 0 (fun _ => 0) k : Nat) : Int) = ((T ^^^ Crc.go 0 g n' : Nat) : Int) := by
                rw [HDF.out]
                exact u32_xor_nat _ _ (Crc.go_lt (by omega) (xorT_by HS.out.bytes HG.out.bytes k) k) (Crc.go_lt (by omega) (fun _ => (by omega : 0 < 256)) k)
              go_wp2_with fail
              refine (of_one (HZ2.out.sl (Nat.le_refl _) (by unfold maxLen; omega) (fun _ => (by omega : 0 < 256)) (fun _ _ => rfl)) (by omega) _ rfl).mono ?_
              rintro e v3 ⟨rfl, hv3⟩
              have HV3 := Lib.hid (HV2.out.trans (hv3.mono HV2.out.size)); clear hv3
              go_wp2
              go_ret
              exact ⟨by simp, HV3.out⟩
      · have k2 : ((n : Int) != (n' : Int)) = true := by simp; omega
        go_wp2
        go_ret
        exact ⟨rfl, HB8.out⟩
  · have i0 : (20000 : Int) < (n : Int) + (n' : Int) := by omega
    go_wp2
    go_ret
    exact ⟨rfl, HB1.out⟩
end Go.Proofs.Ytjnfghhochcpaaa
