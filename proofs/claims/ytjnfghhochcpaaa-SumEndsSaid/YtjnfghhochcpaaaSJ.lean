import Derived.Test.YtjnfghhochcpaaaSH
import Derived.Deep.RegionHeld3
namespace Go.Proofs.Ytjnfghhochcpaaa
open Go.RowKit Go.Shelf

theorem bits_in32 (op : BinOp) (x y : Int) : 0 ≤ bits op .u32 x y ∧ bits op .u32 x y < 4294967296 := by
  have h1 := bits_lo_u32 op x y; have h2 := bits_hi_u32 op x y; exact ⟨h1, by omega⟩
theorem one_lit (w : World) (x : Nat) (hx : x < 256) : Sl (w.alloc (.cells #[.int .u8 (x : Nat)] 5)) (some ⟨w.heap.size, 0, none⟩) 1 1 (coef [(x : Int)] 1) :=
  lit_sl w _ rfl [(x : Int)] (fun z hz => by
    simp only [List.mem_cons, List.not_mem_nil, or_false] at hz
    subst hz; omega) (by simp)
set_option maxHeartbeats 4000000 in
set_option maxRecDepth 100000 in
theorem sumEnds_any (w : World) :
    Calls Try.prog 4 #[] w fun e w' => e = .returned (.bool true) ∧ Below w.heap.size w w' := by
  obtain ⟨i0, hi, hz0, hz1, hz2⟩ := info_parts Try.infoU8
  have HI := Lib.hid hi; have HZ0 := Lib.hid hz0; have HZ1 := Lib.hid hz1; have HZ2 := Lib.hid hz2
  clear hi hz0 hz1 hz2
  go_enter Try.func4, Try.ntmps4
  go_wp2_with fail
  go_loopw [1] (fun kv wr => ∃ x : Nat, x ≤ 256 ∧ kv = .int .i64 (x : Nat) ∧ Below w.heap.size w wr) (fun kv _ => 256 - (intOf kv).toNat)
  case atStart => exact ⟨0, by omega, rfl, Below.refl _ _⟩
  case round =>
    obtain ⟨x, hx, rfl, hB⟩ := hrel
    obtain ⟨wo, rfl⟩ : ∃ wo : World, wo = wr := ⟨_, rfl⟩
    have HB := Lib.hid hB; clear hB
    by_cases hlt : x < 256
    · have i1 : (x : Int) < 256 := by omega
      have S0 := Lib.hid (one_lit wo x hlt)
      have S1 := Lib.hid (show Sl ((wo.alloc (.cells #[.int .u8 (x : Nat)] 5)).alloc (.cells #[.int .u8 ((x : Int) * 3 % 256), .int .u8 7] 5)) (some ⟨wo.heap.size + 1, 0, none⟩) 2 2 (coef [(x : Int) * 3 % 256, 7] 2) from
        lit_sl (wo.alloc (.cells #[.int .u8 (x : Nat)] 5)) (wo.heap.size + 1) (by simp) [(x : Int) * 3 % 256, 7] (fun z hz => by
          simp only [List.mem_cons, List.not_mem_nil, or_false] at hz
          rcases hz with rfl | rfl <;> omega) (by simp))
      have S2 := Lib.hid (S0.out.same (w' := (wo.alloc (.cells #[.int .u8 (x : Nat)] 5)).alloc (.cells #[.int .u8 ((x : Int) * 3 % 256), .int .u8 7] 5)) ((Below.refl _ _).alloc (Nat.le_refl _) _))
      have HRD := Lib.hid (rd_three (N := wo.heap.size + 1 + 1) S2.out S1.out (Sl.none_ _ none 0 (by unfold maxLen; omega) (fun _ => rfl)) (by simp))
      have S3 := Lib.hid (S2.out.same ((Below.refl _ _).alloc (Nat.le_refl _) (.cells #[.slice (some ⟨wo.heap.size, 0, none⟩) 1 1, .slice (some ⟨wo.heap.size + 1, 0, none⟩) 2 2, .slice none 0 0] 23)))
      have HO := Lib.hid (bits_in32 .or ((x : Int) * 16777216) x)
      have hsg := Crc.sgn
      have HXN := Lib.hid (bits_in32 .xor IntKind.u32.max (x : Nat))
      have hs3 := HB.out.size
      go_wp2_with fail
      refine (does_any _ 3 3 _ _ _ _ _ 1 1 _ _ HO.out.1 HO.out.2 (by omega) (fun i _ => by unfold of3; (repeat' split) <;> omega) (by omega) _ HRD.out S3.out).mono ?_
      rintro e w1 ⟨rfl, hB1⟩
      have HB1 := Lib.hid ((((HB.out.alloc hs3 _).alloc (by simp; omega) _).alloc (by simp; omega) _).trans (hB1.mono (by simp; omega)))
      clear hB1 S0 S1 S2 S3 HRD
      have S5 := Lib.hid (show Sl (w1.alloc (.cells #[.int .u8 0, .int .u8 (x : Nat), .int .u8 0, .int .u8 0, .int .u8 (x : Nat)] 5)) (some ⟨w1.heap.size, 0, none⟩) 5 5 (coef [0, (x : Int), 0, 0, (x : Int)] 5) from
        lit_sl w1 _ rfl [0, (x : Int), 0, 0, (x : Int)] (fun z hz => by
          simp only [List.mem_cons, List.not_mem_nil, or_false] at hz
          rcases hz with rfl | rfl | rfl | rfl | rfl <;> omega) (by simp))
      go_wp2_with fail
      refine (does_none _ 5 5 _ _ HXN.out.1 HXN.out.2 (by omega) _ S5.out).mono ?_
      rintro e w2 ⟨rfl, hB2⟩
      have HB2 := Lib.hid ((HB1.out.alloc HB1.out.size _).trans (hB2.mono (by have := HB1.out.size; simp; omega)))
      clear hB2 S5
      go_wp2_with fail
      go_roundw
      case rel => exact ⟨x + 1, by omega, by go_num, HB2.out⟩
      case measure => simp [intOf]; omega
    · obtain rfl : x = 256 := by omega
      go_wp2_with fail
      go_loopw [3, 4] (fun s3 s4 wr => ∃ (n : Nat) (a : Option Addr) (cap : Nat) (f : Nat → Nat), n ≤ 70 ∧ s4 = .int .i64 (n : Nat) ∧ s3 = .slice a n cap ∧ Nw wr w.heap.size a n cap f ∧ Below w.heap.size w wr) (fun _ s4 _ => 70 - (intOf s4).toNat)
      case atStart => exact ⟨0, none, 0, fun _ => 0, by omega, rfl, rfl, Nw.nil _ _ (fun _ => rfl), HB.out⟩
      case round =>
        obtain ⟨n, a, cap, f, hn, rfl, rfl, hnw, hB⟩ := hrel
        obtain ⟨w1, rfl⟩ : ∃ w1 : World, w1 = wr := ⟨_, rfl⟩
        have HB1 := Lib.hid hB; have HNW := Lib.hid hnw; clear hB hnw HB
        have hcn := HNW.out.sl.capOk
        by_cases hlt : n < 70
        · have i1 : (n : Int) < 70 := by omega
          go_wp2_with fail
          refine (rseal_any a n cap f (by omega) _ HNW.out.sl).mono ?_
          rintro e w2 ⟨aS, cS, rfl, hnS, hB2⟩
          have HB2 := Lib.hid (HB1.out.trans (hB2.mono HB1.out.size)); have HN := Lib.hid (HNW.out.below hB2); have HBo := Lib.hid (Below.refl w2.heap.size w2)
          obtain ⟨N, hN⟩ : ∃ N, N = n + 4 := ⟨_, rfl⟩
          have HSS := Lib.hid (show Sl w2 aS N cS (Crc.sealed f n) by rw [hN]; exact hnS.sl)
          have hcS := HSS.out.capOk
          rw [← hN]
          obtain ⟨h2, hh2⟩ : ∃ h2, h2 = n / 2 := ⟨_, rfl⟩
          obtain ⟨N1, hN1⟩ : ∃ N1, N1 = n + 3 := ⟨_, rfl⟩
          obtain ⟨mn, hmn⟩ : ∃ mn, (n ≤ 5 ∧ mn = n) ∨ (5 < n ∧ mn = 5) := ⟨min n 5, by omega⟩
          have k1 : (n : Int) / 2 = (h2 : Int) := by omega
          have k2 : (n : Int).tdiv 2 = (h2 : Int) := by rw [hh2]; rfl
          have k4 : IntKind.i64.wrap (h2 : Int) = (h2 : Int) := IntWalk.i64_in _ (by omega)
          have k5 : IntKind.i64.wrap (N1 : Int) = (N1 : Int) := IntWalk.i64_in _ (by omega)
          have k3 : (N : Int) - 1 = (N1 : Int) := by omega
          have g1 : h2 ≤ n := by omega
          have g2 : N1 ≤ N := by omega
          have g3 : mn ≤ N := by omega
          have g4 : N ≤ 74 := by omega
          have HMN := Lib.hid hmn
          have s1 := slice_h a n cap h2 (by omega)
          have s2 := slice_l a n cap h2 g1
          have s3 := slice_h aS N cS N1 (by omega)
          have s4 := slice_h aS N cS mn (by omega)
          clear hB2 hnS hN hh2 hN1 hmn
          go_wp2_with fail
          refine wp_region_held_drew (S := fun W => Below w.heap.size w W) (by kernel_rfl) (HB2.out.drew) (fun hHeld => ?_)
          refine wpAnyH_take (i := 0) (oi := ⟨some 49, _, _, _, _, none⟩) (v := (.slice a n cap)) rfl (by kernel_rfl) (by kernel_rfl) (by kernel_rfl) (fun _ _ _ h => h) (Or.inl ⟨by rfl, fun W hW => ?_⟩) (by assumption) ?_
          · go_simp
          simp only [Act.put, List.setIfInBounds_toArray, List.set_cons_zero, List.set_cons_succ]
          refine wpAnyH_take (i := 1) (oi := ⟨some 50, _, _, _, _, none⟩) (v := (.int .i64 (n : Nat))) rfl (by kernel_rfl) (by kernel_rfl) (by kernel_rfl) (fun _ _ _ h => h) (Or.inl ⟨by rfl, fun W hW => ?_⟩) (by assumption) ?_
          · go_simp
          simp only [Act.put, List.setIfInBounds_toArray, List.set_cons_zero, List.set_cons_succ]
          refine wpAnyH_take (i := 2) (oi := ⟨some 51, _, _, _, _, none⟩) (v := (.int .i64 (h2 : Nat))) rfl (by kernel_rfl) (by kernel_rfl) (by kernel_rfl) (fun _ _ _ h => h) (Or.inl ⟨by rfl, fun W hW => ?_⟩) (by assumption) ?_
          · go_simp
          simp only [Act.put, List.setIfInBounds_toArray, List.set_cons_zero, List.set_cons_succ]
          refine wpAnyH_take (i := 3) (oi := ⟨some 52, _, _, _, _, none⟩) (v := (.slice a h2 cap)) rfl (by kernel_rfl) (by kernel_rfl) (by kernel_rfl) (fun _ _ _ h => h) (Or.inl ⟨by rfl, fun W hW => ?_⟩) (by assumption) ?_
          · go_simp
          simp only [Act.put, List.setIfInBounds_toArray, List.set_cons_zero, List.set_cons_succ]
          refine wpAnyH_take (i := 4) (oi := ⟨some 53, _, _, _, _, none⟩) (v := (.slice a n cap)) rfl (by kernel_rfl) (by kernel_rfl) (by kernel_rfl) (fun _ _ _ h => h) (Or.inl ⟨by rfl, fun W hW => ?_⟩) (by assumption) ?_
          · go_simp
          simp only [Act.put, List.setIfInBounds_toArray, List.set_cons_zero, List.set_cons_succ]
          refine wpAnyH_take (i := 5) (oi := ⟨some 54, _, _, _, _, none⟩) (v := (.int .i64 (n : Nat))) rfl (by kernel_rfl) (by kernel_rfl) (by kernel_rfl) (fun _ _ _ h => h) (Or.inl ⟨by rfl, fun W hW => ?_⟩) (by assumption) ?_
          · go_simp
          simp only [Act.put, List.setIfInBounds_toArray, List.set_cons_zero, List.set_cons_succ]
          refine wpAnyH_take (i := 6) (oi := ⟨some 55, _, _, _, _, none⟩) (v := (.int .i64 (h2 : Nat))) rfl (by kernel_rfl) (by kernel_rfl) (by kernel_rfl) (fun _ _ _ h => h) (Or.inl ⟨by rfl, fun W hW => ?_⟩) (by assumption) ?_
          · go_simp
          simp only [Act.put, List.setIfInBounds_toArray, List.set_cons_zero, List.set_cons_succ]
          refine wpAnyH_take (i := 7) (oi := ⟨some 56, _, _, _, _, none⟩) (v := (.slice (cutA a h2 cap) (n - h2) (cap - h2))) rfl (by kernel_rfl) (by kernel_rfl) (by kernel_rfl) (fun _ _ _ h => h) (Or.inl ⟨by rfl, fun W hW => ?_⟩) (by assumption) ?_
          · go_simp
          simp only [Act.put, List.setIfInBounds_toArray, List.set_cons_zero, List.set_cons_succ]
          refine wpAnyH_take (i := 9) (oi := ⟨some 58, _, _, _, _, none⟩) (v := (.slice aS N cS)) rfl (by kernel_rfl) (by kernel_rfl) (by kernel_rfl) (fun _ _ _ h => h) (Or.inl ⟨by rfl, fun W hW => ?_⟩) (by assumption) ?_
          · go_simp
          simp only [Act.put, List.setIfInBounds_toArray, List.set_cons_zero, List.set_cons_succ]
          refine wpAnyH_ready (rs := [8]) (by kernel_rfl) (by simp) (AllReadyH.cons rfl (fun KK hKK => ?_) AllReadyH.nil)
          go_simp
          refine hKK.out _ _ ((hHeld).alloc (Below.size hHeld) _) (fun hHeld => ?_)
          clear hKK KK
          try simp only [Act.put, List.setIfInBounds_toArray, List.set_cons_zero, List.set_cons_succ]
          refine wpAnyH_ready (rs := [10]) (by kernel_rfl) (by simp) (AllReadyH.cons rfl (fun KK hKK => ?_) AllReadyH.nil)
          go_simp
          refine (does_any _ 2 2 _ _ _ _ _ N cS _ 0 (by omega) (by omega) (by omega) (fun i _ => by unfold of2; split <;> omega) (by omega) _ (rd_two (sl_cutH (HN.out.sl.same (HBo.out.drew)) (show h2 ≤ n by omega)) (sl_cutA (HN.out.sl.same (HBo.out.drew)) (show h2 + (n - h2) ≤ n by omega)) rfl) (HSS.out.same ((Below.refl _ w2).drew.alloc (Nat.le_refl _) _))).mono ?_
          rintro e w3 ⟨rfl, hB3⟩
          dsimp only
          have HB3 := Lib.hid ((HB2.out.drew.alloc (Below.size HB2.out.drew) _).trans (hB3.mono (by have := Below.size HB2.out; simp; omega)))
          have HC3 := Lib.hid (((Below.refl w2.heap.size w2).drew.alloc (Nat.le_refl _) _).trans (hB3.mono (by simp)))
          refine hKK.out _ _ (HB3.out) (fun hHeld => ?_)
          clear hKK KK
          try simp only [Act.put, List.setIfInBounds_toArray, List.set_cons_zero, List.set_cons_succ]
          refine wpAnyH_take (i := 11) (oi := ⟨some 60, _, _, _, _, none⟩) (v := (.bool false)) rfl (by kernel_rfl) (by kernel_rfl) (by kernel_rfl) (fun _ _ _ h => h) (Or.inl ⟨by rfl, fun W hW => ?_⟩) (by assumption) ?_
          · go_simp
          simp only [Act.put, List.setIfInBounds_toArray, List.set_cons_zero, List.set_cons_succ]
          refine wpAnyH_take (i := 12) (oi := ⟨some 61, _, _, _, _, none⟩) (v := (.bool false)) rfl (by kernel_rfl) (by kernel_rfl) (by kernel_rfl) (fun _ _ _ h => h) (Or.inl ⟨by rfl, fun W hW => ?_⟩) (by assumption) ?_
          · go_simp
          simp only [Act.put, List.setIfInBounds_toArray, List.set_cons_zero, List.set_cons_succ]
          refine wpAnyH_take (i := 13) (oi := ⟨some 62, _, _, _, _, some (12, false)⟩) (v := (.slice aS N cS)) rfl (by kernel_rfl) (by kernel_rfl) (by kernel_rfl) (fun _ _ _ h => h) (Or.inl ⟨by rfl, fun W hW => ?_⟩) (by assumption) ?_
          · go_simp
          simp only [Act.put, List.setIfInBounds_toArray, List.set_cons_zero, List.set_cons_succ]
          refine wpAnyH_take (i := 14) (oi := ⟨some 63, _, _, _, _, some (12, false)⟩) (v := (.slice aS N cS)) rfl (by kernel_rfl) (by kernel_rfl) (by kernel_rfl) (fun _ _ _ h => h) (Or.inl ⟨by rfl, fun W hW => ?_⟩) (by assumption) ?_
          · go_simp
          simp only [Act.put, List.setIfInBounds_toArray, List.set_cons_zero, List.set_cons_succ]
          refine wpAnyH_take (i := 15) (oi := ⟨some 64, _, _, _, _, some (12, false)⟩) (v := (.int .i64 (N : Nat))) rfl (by kernel_rfl) (by kernel_rfl) (by kernel_rfl) (fun _ _ _ h => h) (Or.inl ⟨by rfl, fun W hW => ?_⟩) (by assumption) ?_
          · go_simp
          simp only [Act.put, List.setIfInBounds_toArray, List.set_cons_zero, List.set_cons_succ]
          refine wpAnyH_take (i := 16) (oi := ⟨some 65, _, _, _, _, some (12, false)⟩) (v := (.int .i64 (N1 : Nat))) rfl (by kernel_rfl) (by kernel_rfl) (by kernel_rfl) (fun _ _ _ h => h) (Or.inl ⟨by rfl, fun W hW => ?_⟩) (by assumption) ?_
          · go_simp
          simp only [Act.put, List.setIfInBounds_toArray, List.set_cons_zero, List.set_cons_succ]
          refine wpAnyH_take (i := 17) (oi := ⟨some 66, _, _, _, _, some (12, false)⟩) (v := (.slice aS N1 cS)) rfl (by kernel_rfl) (by kernel_rfl) (by kernel_rfl) (fun _ _ _ h => h) (Or.inl ⟨by rfl, fun W hW => ?_⟩) (by assumption) ?_
          · go_simp
          simp only [Act.put, List.setIfInBounds_toArray, List.set_cons_zero, List.set_cons_succ]
          refine wpAnyH_ready (rs := [18]) (by kernel_rfl) (by simp) (AllReadyH.cons rfl (fun KK hKK => ?_) AllReadyH.nil)
          go_simp
          refine (does_none _ N1 cS _ 5 (by omega) (by omega) (by omega) _ (sl_cutH (HSS.out.same HC3.out) (show N1 ≤ N by omega))).mono ?_
          rintro e w4 ⟨rfl, hB4⟩
          dsimp only
          have HB4 := Lib.hid (HB3.out.trans (hB4.mono (Below.size HB3.out)))
          have HC4 := Lib.hid (HC3.out.trans (hB4.mono (Below.size HC3.out)))
          refine hKK.out _ _ (HB4.out) (fun hHeld => ?_)
          clear hKK KK
          try simp only [Act.put, List.setIfInBounds_toArray, List.set_cons_zero, List.set_cons_succ]
          refine wpAnyH_take (i := 19) (oi := ⟨some 68, _, _, _, _, some (12, false)⟩) (v := (.bool false)) rfl (by kernel_rfl) (by kernel_rfl) (by kernel_rfl) (fun _ _ _ h => h) (Or.inl ⟨by rfl, fun W hW => ?_⟩) (by assumption) ?_
          · go_simp
          simp only [Act.put, List.setIfInBounds_toArray, List.set_cons_zero, List.set_cons_succ]
          refine wpAnyH_take (i := 20) (oi := ⟨some 69, _, _, _, _, none⟩) (v := (.bool false)) rfl (by kernel_rfl) (by kernel_rfl) (by kernel_rfl) (fun _ _ _ h => h) (Or.inl ⟨by rfl, fun W hW => ?_⟩) (by assumption) ?_
          · go_simp
          simp only [Act.put, List.setIfInBounds_toArray, List.set_cons_zero, List.set_cons_succ]
          refine wpAnyH_take (i := 21) (oi := ⟨some 70, _, _, _, _, none⟩) (v := (.bool false)) rfl (by kernel_rfl) (by kernel_rfl) (by kernel_rfl) (fun _ _ _ h => h) (Or.inl ⟨by rfl, fun W hW => ?_⟩) (by assumption) ?_
          · go_simp
          simp only [Act.put, List.setIfInBounds_toArray, List.set_cons_zero, List.set_cons_succ]
          refine wpAnyH_take (i := 22) (oi := ⟨some 71, _, _, _, _, some (21, false)⟩) (v := (.slice aS N cS)) rfl (by kernel_rfl) (by kernel_rfl) (by kernel_rfl) (fun _ _ _ h => h) (Or.inl ⟨by rfl, fun W hW => ?_⟩) (by assumption) ?_
          · go_simp
          simp only [Act.put, List.setIfInBounds_toArray, List.set_cons_zero, List.set_cons_succ]
          refine wpAnyH_take (i := 23) (oi := ⟨some 72, _, _, _, _, some (21, false)⟩) (v := (.int .i64 (n : Nat))) rfl (by kernel_rfl) (by kernel_rfl) (by kernel_rfl) (fun _ _ _ h => h) (Or.inl ⟨by rfl, fun W hW => ?_⟩) (by assumption) ?_
          · go_simp
          simp only [Act.put, List.setIfInBounds_toArray, List.set_cons_zero, List.set_cons_succ]
          refine wpAnyH_take (i := 24) (oi := ⟨some 73, _, _, _, _, some (21, false)⟩) (v := (.int .i64 (mn : Nat))) rfl (by kernel_rfl) (by kernel_rfl) (by kernel_rfl) (fun _ _ _ h => h) (Or.inl ⟨by rfl, fun W hW => ?_⟩) (by assumption) ?_
          · rcases HMN.out with ⟨h, h'⟩ | ⟨h, h'⟩ <;> subst h' <;> go_simp <;> omega
          simp only [Act.put, List.setIfInBounds_toArray, List.set_cons_zero, List.set_cons_succ]
          refine wpAnyH_take (i := 25) (oi := ⟨some 74, _, _, _, _, some (21, false)⟩) (v := (.slice aS mn cS)) rfl (by kernel_rfl) (by kernel_rfl) (by kernel_rfl) (fun _ _ _ h => h) (Or.inl ⟨by rfl, fun W hW => ?_⟩) (by assumption) ?_
          · go_simp
          simp only [Act.put, List.setIfInBounds_toArray, List.set_cons_zero, List.set_cons_succ]
          refine wpAnyH_ready (rs := [26]) (by kernel_rfl) (by simp) (AllReadyH.cons rfl (fun KK hKK => ?_) AllReadyH.nil)
          go_simp
          refine (does_none _ mn cS _ 9 (by omega) (by omega) (by omega) _ (sl_cutH (HSS.out.same HC4.out) (show mn ≤ N by omega))).mono ?_
          rintro e w5 ⟨rfl, hB5⟩
          dsimp only
          have HB5 := Lib.hid (HB4.out.trans (hB5.mono (Below.size HB4.out)))
          have HC5 := Lib.hid (HC4.out.trans (hB5.mono (Below.size HC4.out)))
          refine hKK.out _ _ (HB5.out) (fun hHeld => ?_)
          clear hKK KK
          try simp only [Act.put, List.setIfInBounds_toArray, List.set_cons_zero, List.set_cons_succ]
          refine wpAnyH_take (i := 27) (oi := ⟨some 76, _, _, _, _, some (21, false)⟩) (v := (.bool false)) rfl (by kernel_rfl) (by kernel_rfl) (by kernel_rfl) (fun _ _ _ h => h) (Or.inl ⟨by rfl, fun W hW => ?_⟩) (by assumption) ?_
          · go_simp
          simp only [Act.put, List.setIfInBounds_toArray, List.set_cons_zero, List.set_cons_succ]
          refine wpAnyH_take (i := 28) (oi := ⟨some 77, _, _, _, _, none⟩) (v := (.bool false)) rfl (by kernel_rfl) (by kernel_rfl) (by kernel_rfl) (fun _ _ _ h => h) (Or.inl ⟨by rfl, fun W hW => ?_⟩) (by assumption) ?_
          · go_simp
          simp only [Act.put, List.setIfInBounds_toArray, List.set_cons_zero, List.set_cons_succ]
          refine wpAnyH_done (by kernel_rfl) ?_ _
          have hsz5 := HB5.out.size
          have HNW5 := Lib.hid (HN.out.below HC5.out)
          obtain ⟨p, hpe⟩ : ∃ p, p = n * n := ⟨_, rfl⟩
          have hmul : (n : Int) * (n : Int) = ((p : Nat) : Int) := by rw [hpe]; exact (Int.natCast_mul n n).symm
          have hp : p ≤ 4900 := by rw [hpe]; exact Nat.mul_le_mul (show n ≤ 70 by omega) (show n ≤ 70 by omega)
          obtain ⟨v, hv⟩ : ∃ v : Nat, (p : Int) * 7 % 256 = (v : Int) := ⟨p * 7 % 256, by omega⟩
          have hv2 : v < 256 := by omega
          clear hpe s1 s2 s3 s4 k1 k2 k3 k4 k5 HB3 HB4 HC3 HC4 HB2 HN HBo HSS HMN hHeld
          go_wp2_with ((refine wpList_append_bag (o := ⟨some 85, _, _, _, _, _⟩) _ rfl (.tmp 78) (.tmp 84) 23 rfl w.heap.size 5 i0 (.int .u8 0) 1 Try.underlying23 HI.out HZ0.out HZ1.out HZ2.out rfl a n cap (rowv f n) rfl (Go.Proofs.Ytjnfghhochcpaaa.own_below HNW5.out.owns8 ((Below.refl _ _).alloc (Nat.le_refl _) _)) ⟨w5.heap.size, 0, none⟩ 1 1 [.int .u8 (v : Nat)] rfl rfl (cell_new1 _ _ _) (fun u hu => by rw [List.mem_singleton.1 hu]; rfl) (by omega) (by unfold maxLen; omega) (by omega) (by simp; omega) ?_); intro g' cap' w6 hown hc hlt6; have HO := Lib.hid hown; have HC := Lib.hid hc; clear hown hc hlt6)
          obtain ⟨f', hnw'⟩ := nw_more HO.out HNW5.out.sl.bytes HNW5.out.sl.up hv2
          have HNW' := Lib.hid hnw'
          have HB6 := Lib.hid (below_apn (HB5.out.alloc hsz5 (.cells #[.int .u8 (v : Nat)] 5)) (by simp; omega) HC.out (fun g e => by
            rcases HNW5.out.cond with ⟨e2, _⟩ | ⟨g2, e2, hg2, _⟩
            · rw [e2] at e; cases e
            · rw [e2] at e; cases e; exact hg2))
          clear hnw' HO HC HNW5 HB5
          go_roundw
          case rel =>
            first
            | exact ⟨n + 1, _, _, f', by omega, by go_num, rfl, HNW'.out, HB6.out⟩
            | (repeat apply Exists.intro
               exact ⟨⟨n + 1, _, _, f', by omega, by go_num, rfl, HNW'.out, HB6.out⟩, rfl⟩)
          case measure => simp [intOf]; omega
        · obtain rfl : n = 70 := by omega
          have s1 := slice_h a 70 cap 9 (by omega)
          go_wp2_with fail
          refine (rseal_any a 9 cap (sub f 0 9) (by omega) _ (sl_cutH HNW.out.sl (by omega))).mono ?_
          rintro e w2 ⟨aT, cT, rfl, hnT, hB2⟩
          have HB2 := Lib.hid (HB1.out.trans (hB2.mono HB1.out.size)); have HT := Lib.hid (show Sl w2 aT 13 cT (Crc.sealed (sub f 0 9) 9) from hnT.sl)
          have hbT := Lib.hid (sealed_bytes (sub_by HNW.out.sl.bytes 0 9) 9); have huT := Lib.hid (sealed_upto (sub f 0 9) 9)
          have hcT := HT.out.capOk
          obtain ⟨gT, oT, eT, _⟩ := HT.out.at_ (k := 0) (by omega)
          subst eT
          clear hnT hB2 s1
          go_wp2_with fail
          go_loopw [7] (fun s7 wr => ∃ k : Nat, k ≤ 104 ∧ s7 = .int .i64 (k : Nat) ∧ Below w2.heap.size w2 wr) (fun s7 _ => 104 - (intOf s7).toNat)
          case atStart => exact ⟨0, by omega, rfl, Below.refl _ _⟩
          case round =>
            obtain ⟨k, hk, rfl, hB⟩ := hrel
            obtain ⟨w3, rfl⟩ : ∃ w3 : World, w3 = wr := ⟨_, rfl⟩
            have HB3 := Lib.hid hB; clear hB
            have hs2 := HB2.out.size
            by_cases hlt : k < 104
            · have i1 : (k : Int) < 104 := by omega
              go_wp2_with (at_builtin; refine wpList_append_own _ rfl _ _ 23 rfl w3.heap.size 5 i0 (.int .u8 0) 1 1 Try.underlying23 HI.out HZ0.out HZ1.out HZ2.out rfl (by decide) _ 0 [] rfl (World.ownsRow_made w3 #[] 0 (Nat.le_refl _) (by unfold maxLen; omega) rfl) ⟨gT, oT, none⟩ 13 cT ((List.range 13).map fun i => Value.int .u8 (Crc.sealed (sub f 0 9) 9 i : Nat)) rfl (by simp) (Sl.reads ((HT.out.same HB3.out).same ((Below.refl _ _).alloc (Nat.le_refl _) _)) _ rfl) (ones_map _ _) (by unfold maxLen; omega) (by omega) (by simp) ?_; intro v' w4 hown hgrow _; rw [Nat.zero_add, List.nil_append] at hown; have HO := Lib.hid (owns_new hown hbT.out huT.out); have HB := Lib.hid (((Below.refl w3.heap.size w3).alloc (Nat.le_refl _) (.cells #[] 5)).grown hgrow (by simp) (by intro k hk; cases hk; exact Nat.le_refl _)); clear hown hgrow)
              obtain ⟨a4, c4, e, hn4⟩ := HO.out
              subst e
              rcases hn4.cond with ⟨_, h0, _⟩ | ⟨q, rfl, hq, hbq⟩
              · omega
              have hNc : 13 ≤ c4 := hn4.sl.capOk
              have hcm4 : c4 ≤ maxLen := hn4.sl.maxOk
              have HBQ := Lib.hid hbq
              have HB4 := Lib.hid (HB3.out.trans (HB.out.mono HB3.out.size))
              have hqw : w2.heap.size ≤ q := by have := HB3.out.size; omega
              have hby := Lib.hid hn4.sl.bytes; have hup := Lib.hid hn4.sl.up
              clear hbq HO HB hn4
              have hd8 : k / 8 < 13 := by omega
              have hc := HBQ.out.cell hd8
              have hf := HBQ.out.free (k / 8)
              have hvb := hby.out (k / 8)
              generalize Crc.sealed (sub f 0 9) 9 (k / 8) = v at hc hvb
              have hr8 : k % 8 < 8 := Nat.mod_lt _ (by omega)
              have f2 : (k : Int).tdiv 8 = ((k / 8 : Nat) : Int) := rfl
              have f3 : (k : Int).tmod 8 = ((k % 8 : Nat) : Int) := rfl
              have f4 : IntKind.i64.wrap ((k / 8 : Nat) : Int) = ((k / 8 : Nat) : Int) := IntWalk.i64_in _ (by omega)
              have HX := Lib.hid (Crc.bit_in v (k % 8) hvb hr8)
              have hx8 := Nat.xor_lt_two_pow (n := 8) hvb (Nat.pow_lt_pow_right (a := 2) (by omega) hr8)
              go_wp2_with fail
              refine Rb.wp_region_quiet_tail 13 (by kernel_rfl) (by kernel_rfl) ?_
              simp only [List.take_succ_cons, List.take_zero, List.drop_succ_cons, List.drop_zero]
              repeat (go_big_quiet_step (fail))
              refine wpQuiet_nil ?_
              rintro _ ⟨kk, rfl⟩
              clear f2 f3 f4
              have HS4 := Lib.hid (show ∀ i, (if i = k / 8 then v ^^^ 2 ^ (k % 8) else Crc.sealed (sub f 0 9) 9 i) < 256 from fun i => by
                split
                · exact hx8
                · exact hby.out i)
              have HU4 := Lib.hid (show ∀ i, 13 ≤ i → (if i = k / 8 then v ^^^ 2 ^ (k % 8) else Crc.sealed (sub f 0 9) 9 i) = 0 from fun i hi => by
                rw [if_neg (by omega)]; exact hup.out i hi)
              have HSL := Lib.hid (((HBQ.out.drewN kk).set hd8 (v ^^^ 2 ^ (k % 8))).sl hNc hcm4 HS4.out HU4.out)
              go_wp2_with fail
              rw [HX.out]
              refine (does_none _ 13 c4 _ 0 (by omega) (by omega) (by omega) _ HSL.out).mono ?_
              rintro e w5 ⟨rfl, hB5⟩
              have HB5 := Lib.hid (((HB4.out.trans (below_dr (Below.refl _ w4) kk)).setCell (p := ⟨q, k / 8, none⟩) hqw (.int .u8 ((v ^^^ 2 ^ (k % 8) : Nat) : Int))).trans (hB5.mono (by have := HB4.out.size; simp; omega)))
              clear hB5 HSL HS4 HU4 HX HBQ HB4 hc hf
              go_wp2_with fail
              go_roundw
              case rel =>
                first
                | exact ⟨k + 1, by omega, by go_num, HB5.out⟩
                | (repeat apply Exists.intro
                   exact ⟨⟨k + 1, by omega, by go_num, HB5.out⟩, rfl⟩)
              case measure => simp [intOf]; omega
            · obtain rfl : k = 104 := by omega
              have HB4 := Lib.hid (HB2.out.trans (HB3.out.mono hs2))
              clear HB3 HT hbT huT HB2 HB1 HNW
              go_wp2_with fail
              refine (does_none none 0 0 _ 0 (by omega) (by omega) (by omega) _ (Sl.none_ w3 none 0 (by unfold maxLen; omega) (fun _ => rfl))).mono ?_
              rintro e w4 ⟨rfl, hB4⟩
              have HB5 := Lib.hid (HB4.out.trans (hB4.mono HB4.out.size)); clear hB4 HB4
              have S4 := Lib.hid (show Sl (w4.alloc (.cells #[.int .u8 0, .int .u8 0, .int .u8 0, .int .u8 0] 5)) (some ⟨w4.heap.size, 0, none⟩) 4 4 (coef [0, 0, 0, 0] 4) from lit_sl w4 _ rfl [0, 0, 0, 0] (by decide) (by simp))
              go_wp2_with fail
              refine (does_none _ 4 4 _ 2147483648 (by omega) (by omega) (by omega) _ S4.out).mono ?_
              rintro e w5 ⟨rfl, hB6⟩
              have HB6 := Lib.hid ((HB5.out.alloc HB5.out.size _).trans (hB6.mono (by have := HB5.out.size; simp; omega))); clear hB6 S4 HB5
              have hs5 := HB6.out.size
              have T0 := Lib.hid (show Sl (w5.alloc (.cells #[] 5)) (some ⟨w5.heap.size, 0, none⟩) 0 0 (coef [] 0) from lit_sl w5 _ rfl [] (by decide) (by simp))
              have HRD := Lib.hid (rd_two (N := w5.heap.size + 1) T0.out (Sl.none_ _ none 0 (by unfold maxLen; omega) (fun _ => rfl)) (by simp))
              have T3 := Lib.hid (show Sl (((w5.alloc (.cells #[] 5)).alloc (.cells #[.slice (some ⟨w5.heap.size, 0, none⟩) 0 0, .slice none 0 0] 23)).alloc (.cells #[.int .u8 1, .int .u8 2, .int .u8 3] 5)) (some ⟨w5.heap.size + 1 + 1, 0, none⟩) 3 3 (coef [1, 2, 3] 3) from lit_sl _ _ (by simp) [1, 2, 3] (by decide) (by simp))
              have HRD3 := Lib.hid (HRD.out.same ((Below.refl _ _).alloc (Nat.le_refl _) (.cells #[.int .u8 1, .int .u8 2, .int .u8 3] 5)))
              go_wp2_with fail
              refine (does_any _ 2 2 _ _ _ _ _ 3 3 _ 1 (by omega) (by omega) (by omega) (fun i _ => by unfold of2; split <;> omega) (by omega) _ HRD3.out T3.out).mono ?_
              rintro e w6 ⟨rfl, hB7⟩
              have HB7 := Lib.hid ((((HB6.out.alloc hs5 _).alloc (by simp; omega) _).alloc (by simp; omega) _).trans (hB7.mono (by simp; omega)))
              clear hB7 T0 HRD T3 HRD3 HB6
              go_wp2_with fail
              refine (sawake_any _).mono ?_
              rintro e w7 ⟨rfl, hB8⟩
              have HB8 := Lib.hid (HB7.out.trans (hB8.mono HB7.out.size)); clear hB8
              go_wp2
              go_ret
              exact ⟨rfl, HB8.out⟩
end Go.Proofs.Ytjnfghhochcpaaa
