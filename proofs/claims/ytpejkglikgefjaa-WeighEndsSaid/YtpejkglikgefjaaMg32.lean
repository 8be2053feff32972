import Derived.BigQuiet
import Derived.Deep.RegionHeld3
import Derived.Test.YtpejkglikgefjaaMg31
namespace Go.Proofs.Ytpejkglikgefjaa.Wg
open Go.RowKit Go.Shelf
attribute [local go_sem] Oper.semAt_some

theorem share {X G : Prop} (f : G → X) (g : G) : X := f g
theorem hi_cut {w : World} {ad : Addr} {n m c : Nat} {h : Nat → Int} (s : Hi w (some ad) n c h) (hm : m ≤ n) : Hi w (some ad) m c h := ⟨Nat.le_trans hm s.capOk, s.maxOk, fun e => (by cases e), fun a e h0 => s.spot a e (by omega), fun a e i hi => s.cell a e i (by omega)⟩
theorem hi_zeros {w : World} {x n : Nat} (hn : n ≤ 1000) (hx : w.heap[x]? = some (.cells (madeCells #[.int .i64 0] n) 3 (0, 0))) : Hi w (some ⟨x, 0, none⟩) n n (fun _ => 0) := by
  refine ⟨Nat.le_refl _, by unfold maxLen; omega, fun e => (by cases e), fun ad e _ => (by cases e; rfl), fun ad e i hi => ?_⟩
  cases e
  show World.cell? _ ⟨_, 0 + i, none⟩ = _
  rw [Nat.zero_add, cell_of_row _ _ i _ _ _ hx]
  simp [madeCells, hi, show i % 1 = 0 by omega]

set_option maxHeartbeats 16000000 in
set_option maxRecDepth 100000 in
theorem weighEnds_any (w : World) :
    Calls Try.prog 4 #[] w fun e w' => e = .returned (.bool true) ∧ Below w.heap.size w w' := by
  have HD := Lib.hid weighDoes_any
  have t1 := heap_alloc_new w (.cells #[.int .i64 (-1), .int .i64 0, .int .i64 1, .int .i64 2, .int .i64 65535, .int .i64 65536, .int .i64 65537, .int .i64 1048576, .int .i64 1048577, .int .i64 (-9223372036854775808), .int .i64 9223372036854775807] 3)
  have t2 := (Below.refl w.heap.size w).alloc (Nat.le_refl _) (.cells #[.int .i64 (-1), .int .i64 0, .int .i64 1, .int .i64 2, .int .i64 65535, .int .i64 65536, .int .i64 65537, .int .i64 1048576, .int .i64 1048577, .int .i64 (-9223372036854775808), .int .i64 9223372036854775807] 3)
  have H1 := Lib.hid (hi_lit2 _ _ [-1, 0, 1, 2, 65535, 65536, 65537, 1048576, 1048577, -9223372036854775808, 9223372036854775807] 11 (by decide) (by decide) t1)
  have HB0 := Lib.hid t2
  clear t1 t2
  go_enter Try.func4, Try.ntmps4
  go_wp2_with fail
  generalize w.alloc (.cells #[.int .i64 (-1), .int .i64 0, .int .i64 1, .int .i64 2, .int .i64 65535, .int .i64 65536, .int .i64 65537, .int .i64 1048576, .int .i64 1048577, .int .i64 (-9223372036854775808), .int .i64 9223372036854775807] 3) = w0 at *
  have hs0 := HB0.out.size
  go_loopw [2] (fun i wr => ∃ (k : Nat) (W : World), W = wr ∧ k ≤ 11 ∧ i = .int .i64 k ∧ Below w0.heap.size w0 wr) (fun i _ => 11 - (intOf i).toNat)
  case atStart => exact ⟨0, _, rfl, by omega, rfl, Below.refl _ _⟩
  case round =>
    obtain ⟨k, wo, rfl, hk, rfl, hB⟩ := hrel
    have HBo := Lib.hid hB
    clear hB
    by_cases hk8 : k < 11
    · have i1 : (k : Int) < 11 := by omega
      go_wp2_with fail
      go_loopw [3] (fun i wr => ∃ (m : Nat) (W : World), W = wr ∧ m ≤ 11 ∧ i = .int .i64 m ∧ Below w0.heap.size w0 wr) (fun i _ => 11 - (intOf i).toNat)
      case atStart => exact ⟨0, _, rfl, by omega, rfl, HBo.out⟩
      case round =>
        obtain ⟨m, wx, rfl, hm, rfl, hB⟩ := hrel
        have HB := Lib.hid hB
        have hsx := hB.size
        clear hB
        by_cases hm8 : m < 11
        · have i2 : (m : Int) < 11 := by omega
          have HBx := Lib.hid (show Below wx.heap.size wx wx.drew from (Below.refl _ wx).drew)
          have f1 : ∀ W, Below wx.heap.size wx W → W.cell? ⟨w.heap.size, k, none⟩ = some (.int .i64 (([-1, 0, 1, 2, 65535, 65536, 65537, 1048576, 1048577, -9223372036854775808, 9223372036854775807] : List Int).getD k 0)) := fun W hW => by
            obtain ⟨_, _, e, h⟩ := ((H1.out.same HB.out).same hW).si.cell k hk8
            cases e; rw [Nat.zero_add] at h; exact h
          have f2 : ∀ W, Below wx.heap.size wx W → W.cell? ⟨w.heap.size, m, none⟩ = some (.int .i64 (([-1, 0, 1, 2, 65535, 65536, 65537, 1048576, 1048577, -9223372036854775808, 9223372036854775807] : List Int).getD m 0)) := fun W hW => by
            obtain ⟨_, _, e, h⟩ := ((H1.out.same HB.out).same hW).si.cell m hm8
            cases e; rw [Nat.zero_add] at h; exact h
          generalize ([-1, 0, 1, 2, 65535, 65536, 65537, 1048576, 1048577, -9223372036854775808, 9223372036854775807] : List Int).getD k 0 = x at *
          generalize ([-1, 0, 1, 2, 65535, 65536, 65537, 1048576, 1048577, -9223372036854775808, 9223372036854775807] : List Int).getD m 0 = y at *
          have F1 := Lib.hid f1; have F2 := Lib.hid f2
          clear f1 f2
          go_wp2_with fail
          refine wp_region_held_drew (S := fun W => Below wx.heap.size wx W) (by kernel_rfl) (HBx.out) (fun hHeld => ?_)
          have HS := HBx
          generalize wx.drew = wd at *
          refine wpAnyH_take (i := 0) (oi := ⟨some 23, _, _, _, _, none⟩) (v := (.slice (some ⟨w.heap.size, 0, none⟩) 11 11)) rfl (by kernel_rfl) (by kernel_rfl) (by kernel_rfl) (fun _ _ _ h => h) (Or.inl ⟨by rfl, fun W hW => ?_⟩) (by assumption) ?_
          · go_simp
          simp only [Act.put, List.setIfInBounds_toArray, List.set_cons_zero, List.set_cons_succ]
          refine wpAnyH_take (i := 1) (oi := ⟨some 24, _, _, _, _, none⟩) (v := (.int .i64 (k : Nat))) rfl (by kernel_rfl) (by kernel_rfl) (by kernel_rfl) (fun _ _ _ h => h) (Or.inl ⟨by rfl, fun W hW => ?_⟩) (by assumption) ?_
          · go_simp
          simp only [Act.put, List.setIfInBounds_toArray, List.set_cons_zero, List.set_cons_succ]
          refine wpAnyH_take (i := 2) (oi := ⟨some 25, _, _, _, _, none⟩) (v := (.pointer (some ⟨w.heap.size, k, none⟩))) rfl (by kernel_rfl) (by kernel_rfl) (by kernel_rfl) (fun _ _ _ h => h) (Or.inl ⟨by rfl, fun W hW => ?_⟩) (by assumption) ?_
          · go_simp
          simp only [Act.put, List.setIfInBounds_toArray, List.set_cons_zero, List.set_cons_succ]
          refine wpAnyH_take (i := 3) (oi := ⟨some 26, _, _, _, _, none⟩) (v := (.int .i64 x)) rfl (by kernel_rfl) (by kernel_rfl) (by kernel_rfl) (fun _ _ _ h => h) (Or.inl ⟨by rfl, fun W hW => ?_⟩) (by assumption) ?_
          · (have h := F1.out W hW; go_simp)
          simp only [Act.put, List.setIfInBounds_toArray, List.set_cons_zero, List.set_cons_succ]
          refine wpAnyH_take (i := 4) (oi := ⟨some 27, _, _, _, _, none⟩) (v := (.slice (some ⟨w.heap.size, 0, none⟩) 11 11)) rfl (by kernel_rfl) (by kernel_rfl) (by kernel_rfl) (fun _ _ _ h => h) (Or.inl ⟨by rfl, fun W hW => ?_⟩) (by assumption) ?_
          · go_simp
          simp only [Act.put, List.setIfInBounds_toArray, List.set_cons_zero, List.set_cons_succ]
          refine wpAnyH_take (i := 5) (oi := ⟨some 28, _, _, _, _, none⟩) (v := (.int .i64 (m : Nat))) rfl (by kernel_rfl) (by kernel_rfl) (by kernel_rfl) (fun _ _ _ h => h) (Or.inl ⟨by rfl, fun W hW => ?_⟩) (by assumption) ?_
          · go_simp
          simp only [Act.put, List.setIfInBounds_toArray, List.set_cons_zero, List.set_cons_succ]
          refine wpAnyH_take (i := 6) (oi := ⟨some 29, _, _, _, _, none⟩) (v := (.pointer (some ⟨w.heap.size, m, none⟩))) rfl (by kernel_rfl) (by kernel_rfl) (by kernel_rfl) (fun _ _ _ h => h) (Or.inl ⟨by rfl, fun W hW => ?_⟩) (by assumption) ?_
          · go_simp
          simp only [Act.put, List.setIfInBounds_toArray, List.set_cons_zero, List.set_cons_succ]
          refine wpAnyH_take (i := 7) (oi := ⟨some 30, _, _, _, _, none⟩) (v := (.int .i64 y)) rfl (by kernel_rfl) (by kernel_rfl) (by kernel_rfl) (fun _ _ _ h => h) (Or.inl ⟨by rfl, fun W hW => ?_⟩) (by assumption) ?_
          · (have h := F2.out W hW; go_simp)
          simp only [Act.put, List.setIfInBounds_toArray, List.set_cons_zero, List.set_cons_succ]
          refine wpAnyH_take (i := 11) (oi := ⟨some 34, _, _, _, _, none⟩) (v := (.slice (some ⟨w.heap.size, 0, none⟩) 11 11)) rfl (by kernel_rfl) (by kernel_rfl) (by kernel_rfl) (fun _ _ _ h => h) (Or.inl ⟨by rfl, fun W hW => ?_⟩) (by assumption) ?_
          · go_simp
          simp only [Act.put, List.setIfInBounds_toArray, List.set_cons_zero, List.set_cons_succ]
          refine wpAnyH_take (i := 12) (oi := ⟨some 35, _, _, _, _, none⟩) (v := (.int .i64 (k : Nat))) rfl (by kernel_rfl) (by kernel_rfl) (by kernel_rfl) (fun _ _ _ h => h) (Or.inl ⟨by rfl, fun W hW => ?_⟩) (by assumption) ?_
          · go_simp
          simp only [Act.put, List.setIfInBounds_toArray, List.set_cons_zero, List.set_cons_succ]
          refine wpAnyH_take (i := 13) (oi := ⟨some 36, _, _, _, _, none⟩) (v := (.pointer (some ⟨w.heap.size, k, none⟩))) rfl (by kernel_rfl) (by kernel_rfl) (by kernel_rfl) (fun _ _ _ h => h) (Or.inl ⟨by rfl, fun W hW => ?_⟩) (by assumption) ?_
          · go_simp
          simp only [Act.put, List.setIfInBounds_toArray, List.set_cons_zero, List.set_cons_succ]
          refine wpAnyH_take (i := 14) (oi := ⟨some 37, _, _, _, _, none⟩) (v := (.int .i64 x)) rfl (by kernel_rfl) (by kernel_rfl) (by kernel_rfl) (fun _ _ _ h => h) (Or.inl ⟨by rfl, fun W hW => ?_⟩) (by assumption) ?_
          · (have h := F1.out W hW; go_simp)
          simp only [Act.put, List.setIfInBounds_toArray, List.set_cons_zero, List.set_cons_succ]
          refine @share _ ?shP1 (fun hG => ?shF1) ?shG1
          case shF1 =>
            have HGH := Lib.hid hG; clear hG
            refine wpAnyH_ready (rs := [8, 9, 10, 15]) (by kernel_rfl) (by simp) (AllReadyH.cons rfl (fun KK hKK => ?_) (AllReadyH.cons rfl (fun KK hKK => ?_) (AllReadyH.cons rfl (fun KK hKK => ?_) (AllReadyH.cons rfl (fun KK hKK => ?_) AllReadyH.nil))))
            · go_simp
              refine hKK.out _ _ ((hHeld).alloc (Below.size hHeld) _) (fun hHeld => ?_)
              clear hKK KK
              try simp only [Act.put, List.setIfInBounds_toArray, List.set_cons_zero, List.set_cons_succ]
              refine wpAnyH_ready (rs := [9, 10, 15]) (by kernel_rfl) (by simp) (AllReadyH.cons rfl (fun KK hKK => ?_) (AllReadyH.cons rfl (fun KK hKK => ?_) (AllReadyH.cons rfl (fun KK hKK => ?_) AllReadyH.nil)))
              · go_simp
                refine hKK.out _ _ ((hHeld).alloc (Below.size hHeld) _) (fun hHeld => ?_)
                clear hKK KK
                try simp only [Act.put, List.setIfInBounds_toArray, List.set_cons_zero, List.set_cons_succ]
                refine wpAnyH_ready (rs := [10, 15]) (by kernel_rfl) (by simp) (AllReadyH.cons rfl (fun KK hKK => ?_) (AllReadyH.cons rfl (fun KK hKK => ?_) AllReadyH.nil))
                · go_simp
                  refine hKK.out _ _ ((hHeld).alloc (Below.size hHeld) _) (fun hHeld => ?_)
                  clear hKK KK
                  try simp only [Act.put, List.setIfInBounds_toArray, List.set_cons_zero, List.set_cons_succ]
                  refine wpAnyH_ready (rs := [15]) (by kernel_rfl) (by simp) (AllReadyH.cons rfl (fun KK hKK => ?_) AllReadyH.nil)
                  go_simp
                  refine hKK.out _ _ ((hHeld).alloc (Below.size hHeld) _) (fun hHeld => ?_)
                  clear hKK KK
                  try simp only [Act.put, List.setIfInBounds_toArray, List.set_cons_zero, List.set_cons_succ]
                  have HALL := Lib.hid (show _ ∧ _ ∧ _ ∧ _ ∧ _ from ⟨hi_lit2 _ _ [y] 1 (by simp) (by simp) (fourB wd (.cells #[.int .i64 y] 3) (.cells #[.int .i64 1] 3) (.cells #[.int .i64 2] 3) (.cells #[.int .i64 x, .int .i64 3, .int .i64 2] 3)).1, hi_lit2 _ _ [1] 1 (by simp) (by simp) (fourB wd (.cells #[.int .i64 y] 3) (.cells #[.int .i64 1] 3) (.cells #[.int .i64 2] 3) (.cells #[.int .i64 x, .int .i64 3, .int .i64 2] 3)).2.1, hi_lit2 _ _ [2] 1 (by simp) (by simp) (fourB wd (.cells #[.int .i64 y] 3) (.cells #[.int .i64 1] 3) (.cells #[.int .i64 2] 3) (.cells #[.int .i64 x, .int .i64 3, .int .i64 2] 3)).2.2.1, hi_lit2 _ _ [x, 3, 2] 3 (by simp) (by simp) (fourB wd (.cells #[.int .i64 y] 3) (.cells #[.int .i64 1] 3) (.cells #[.int .i64 2] 3) (.cells #[.int .i64 x, .int .i64 3, .int .i64 2] 3)).2.2.2.1, HS.out.trans ((fourB wd (.cells #[.int .i64 y] 3) (.cells #[.int .i64 1] 3) (.cells #[.int .i64 2] 3) (.cells #[.int .i64 x, .int .i64 3, .int .i64 2] 3)).2.2.2.2.mono HS.out.size)⟩)
                  generalize ((((wd.alloc (.cells #[.int .i64 y] 3)).alloc (.cells #[.int .i64 1] 3)).alloc (.cells #[.int .i64 2] 3)).alloc (.cells #[.int .i64 x, .int .i64 3, .int .i64 2] 3)) = W1 at HALL ⊢
                  generalize wd.heap.size + 1 + 1 + 1 = x15_1 at HALL ⊢
                  generalize wd.heap.size + 1 + 1 = x10_1 at HALL ⊢
                  generalize wd.heap.size + 1 = x9_1 at HALL ⊢
                  generalize wd.heap.size = x8_1 at HALL ⊢
                  revert x8_1 x9_1 x10_1 x15_1 W1
                  exact HGH.out
                · go_simp
                  refine hKK.out _ _ ((hHeld).alloc (Below.size hHeld) _) (fun hHeld => ?_)
                  clear hKK KK
                  try simp only [Act.put, List.setIfInBounds_toArray, List.set_cons_zero, List.set_cons_succ]
                  refine wpAnyH_ready (rs := [10]) (by kernel_rfl) (by simp) (AllReadyH.cons rfl (fun KK hKK => ?_) AllReadyH.nil)
                  go_simp
                  refine hKK.out _ _ ((hHeld).alloc (Below.size hHeld) _) (fun hHeld => ?_)
                  clear hKK KK
                  try simp only [Act.put, List.setIfInBounds_toArray, List.set_cons_zero, List.set_cons_succ]
                  exact HGH.out _ _ _ _ _ (Lib.hid ⟨hi_lit2 _ _ [y] 1 (by simp) (by simp) (fourB wd (.cells #[.int .i64 y] 3) (.cells #[.int .i64 1] 3) (.cells #[.int .i64 x, .int .i64 3, .int .i64 2] 3) (.cells #[.int .i64 2] 3)).1, hi_lit2 _ _ [1] 1 (by simp) (by simp) (fourB wd (.cells #[.int .i64 y] 3) (.cells #[.int .i64 1] 3) (.cells #[.int .i64 x, .int .i64 3, .int .i64 2] 3) (.cells #[.int .i64 2] 3)).2.1, hi_lit2 _ _ [2] 1 (by simp) (by simp) (fourB wd (.cells #[.int .i64 y] 3) (.cells #[.int .i64 1] 3) (.cells #[.int .i64 x, .int .i64 3, .int .i64 2] 3) (.cells #[.int .i64 2] 3)).2.2.2.1, hi_lit2 _ _ [x, 3, 2] 3 (by simp) (by simp) (fourB wd (.cells #[.int .i64 y] 3) (.cells #[.int .i64 1] 3) (.cells #[.int .i64 x, .int .i64 3, .int .i64 2] 3) (.cells #[.int .i64 2] 3)).2.2.1, HS.out.trans ((fourB wd (.cells #[.int .i64 y] 3) (.cells #[.int .i64 1] 3) (.cells #[.int .i64 x, .int .i64 3, .int .i64 2] 3) (.cells #[.int .i64 2] 3)).2.2.2.2.mono HS.out.size)⟩)
              · go_simp
                refine hKK.out _ _ ((hHeld).alloc (Below.size hHeld) _) (fun hHeld => ?_)
                clear hKK KK
                try simp only [Act.put, List.setIfInBounds_toArray, List.set_cons_zero, List.set_cons_succ]
                refine wpAnyH_ready (rs := [9, 15]) (by kernel_rfl) (by simp) (AllReadyH.cons rfl (fun KK hKK => ?_) (AllReadyH.cons rfl (fun KK hKK => ?_) AllReadyH.nil))
                · go_simp
                  refine hKK.out _ _ ((hHeld).alloc (Below.size hHeld) _) (fun hHeld => ?_)
                  clear hKK KK
                  try simp only [Act.put, List.setIfInBounds_toArray, List.set_cons_zero, List.set_cons_succ]
                  refine wpAnyH_ready (rs := [15]) (by kernel_rfl) (by simp) (AllReadyH.cons rfl (fun KK hKK => ?_) AllReadyH.nil)
                  go_simp
                  refine hKK.out _ _ ((hHeld).alloc (Below.size hHeld) _) (fun hHeld => ?_)
                  clear hKK KK
                  try simp only [Act.put, List.setIfInBounds_toArray, List.set_cons_zero, List.set_cons_succ]
                  exact HGH.out _ _ _ _ _ (Lib.hid ⟨hi_lit2 _ _ [y] 1 (by simp) (by simp) (fourB wd (.cells #[.int .i64 y] 3) (.cells #[.int .i64 2] 3) (.cells #[.int .i64 1] 3) (.cells #[.int .i64 x, .int .i64 3, .int .i64 2] 3)).1, hi_lit2 _ _ [1] 1 (by simp) (by simp) (fourB wd (.cells #[.int .i64 y] 3) (.cells #[.int .i64 2] 3) (.cells #[.int .i64 1] 3) (.cells #[.int .i64 x, .int .i64 3, .int .i64 2] 3)).2.2.1, hi_lit2 _ _ [2] 1 (by simp) (by simp) (fourB wd (.cells #[.int .i64 y] 3) (.cells #[.int .i64 2] 3) (.cells #[.int .i64 1] 3) (.cells #[.int .i64 x, .int .i64 3, .int .i64 2] 3)).2.1, hi_lit2 _ _ [x, 3, 2] 3 (by simp) (by simp) (fourB wd (.cells #[.int .i64 y] 3) (.cells #[.int .i64 2] 3) (.cells #[.int .i64 1] 3) (.cells #[.int .i64 x, .int .i64 3, .int .i64 2] 3)).2.2.2.1, HS.out.trans ((fourB wd (.cells #[.int .i64 y] 3) (.cells #[.int .i64 2] 3) (.cells #[.int .i64 1] 3) (.cells #[.int .i64 x, .int .i64 3, .int .i64 2] 3)).2.2.2.2.mono HS.out.size)⟩)
                · go_simp
                  refine hKK.out _ _ ((hHeld).alloc (Below.size hHeld) _) (fun hHeld => ?_)
                  clear hKK KK
                  try simp only [Act.put, List.setIfInBounds_toArray, List.set_cons_zero, List.set_cons_succ]
                  refine wpAnyH_ready (rs := [9]) (by kernel_rfl) (by simp) (AllReadyH.cons rfl (fun KK hKK => ?_) AllReadyH.nil)
                  go_simp
                  refine hKK.out _ _ ((hHeld).alloc (Below.size hHeld) _) (fun hHeld => ?_)
                  clear hKK KK
                  try simp only [Act.put, List.setIfInBounds_toArray, List.set_cons_zero, List.set_cons_succ]
                  exact HGH.out _ _ _ _ _ (Lib.hid ⟨hi_lit2 _ _ [y] 1 (by simp) (by simp) (fourB wd (.cells #[.int .i64 y] 3) (.cells #[.int .i64 2] 3) (.cells #[.int .i64 x, .int .i64 3, .int .i64 2] 3) (.cells #[.int .i64 1] 3)).1, hi_lit2 _ _ [1] 1 (by simp) (by simp) (fourB wd (.cells #[.int .i64 y] 3) (.cells #[.int .i64 2] 3) (.cells #[.int .i64 x, .int .i64 3, .int .i64 2] 3) (.cells #[.int .i64 1] 3)).2.2.2.1, hi_lit2 _ _ [2] 1 (by simp) (by simp) (fourB wd (.cells #[.int .i64 y] 3) (.cells #[.int .i64 2] 3) (.cells #[.int .i64 x, .int .i64 3, .int .i64 2] 3) (.cells #[.int .i64 1] 3)).2.1, hi_lit2 _ _ [x, 3, 2] 3 (by simp) (by simp) (fourB wd (.cells #[.int .i64 y] 3) (.cells #[.int .i64 2] 3) (.cells #[.int .i64 x, .int .i64 3, .int .i64 2] 3) (.cells #[.int .i64 1] 3)).2.2.1, HS.out.trans ((fourB wd (.cells #[.int .i64 y] 3) (.cells #[.int .i64 2] 3) (.cells #[.int .i64 x, .int .i64 3, .int .i64 2] 3) (.cells #[.int .i64 1] 3)).2.2.2.2.mono HS.out.size)⟩)
              · go_simp
                refine hKK.out _ _ ((hHeld).alloc (Below.size hHeld) _) (fun hHeld => ?_)
                clear hKK KK
                try simp only [Act.put, List.setIfInBounds_toArray, List.set_cons_zero, List.set_cons_succ]
                refine wpAnyH_ready (rs := [9, 10]) (by kernel_rfl) (by simp) (AllReadyH.cons rfl (fun KK hKK => ?_) (AllReadyH.cons rfl (fun KK hKK => ?_) AllReadyH.nil))
                · go_simp
                  refine hKK.out _ _ ((hHeld).alloc (Below.size hHeld) _) (fun hHeld => ?_)
                  clear hKK KK
                  try simp only [Act.put, List.setIfInBounds_toArray, List.set_cons_zero, List.set_cons_succ]
                  refine wpAnyH_ready (rs := [10]) (by kernel_rfl) (by simp) (AllReadyH.cons rfl (fun KK hKK => ?_) AllReadyH.nil)
                  go_simp
                  refine hKK.out _ _ ((hHeld).alloc (Below.size hHeld) _) (fun hHeld => ?_)
                  clear hKK KK
                  try simp only [Act.put, List.setIfInBounds_toArray, List.set_cons_zero, List.set_cons_succ]
                  exact HGH.out _ _ _ _ _ (Lib.hid ⟨hi_lit2 _ _ [y] 1 (by simp) (by simp) (fourB wd (.cells #[.int .i64 y] 3) (.cells #[.int .i64 x, .int .i64 3, .int .i64 2] 3) (.cells #[.int .i64 1] 3) (.cells #[.int .i64 2] 3)).1, hi_lit2 _ _ [1] 1 (by simp) (by simp) (fourB wd (.cells #[.int .i64 y] 3) (.cells #[.int .i64 x, .int .i64 3, .int .i64 2] 3) (.cells #[.int .i64 1] 3) (.cells #[.int .i64 2] 3)).2.2.1, hi_lit2 _ _ [2] 1 (by simp) (by simp) (fourB wd (.cells #[.int .i64 y] 3) (.cells #[.int .i64 x, .int .i64 3, .int .i64 2] 3) (.cells #[.int .i64 1] 3) (.cells #[.int .i64 2] 3)).2.2.2.1, hi_lit2 _ _ [x, 3, 2] 3 (by simp) (by simp) (fourB wd (.cells #[.int .i64 y] 3) (.cells #[.int .i64 x, .int .i64 3, .int .i64 2] 3) (.cells #[.int .i64 1] 3) (.cells #[.int .i64 2] 3)).2.1, HS.out.trans ((fourB wd (.cells #[.int .i64 y] 3) (.cells #[.int .i64 x, .int .i64 3, .int .i64 2] 3) (.cells #[.int .i64 1] 3) (.cells #[.int .i64 2] 3)).2.2.2.2.mono HS.out.size)⟩)
                · go_simp
                  refine hKK.out _ _ ((hHeld).alloc (Below.size hHeld) _) (fun hHeld => ?_)
                  clear hKK KK
                  try simp only [Act.put, List.setIfInBounds_toArray, List.set_cons_zero, List.set_cons_succ]
                  refine wpAnyH_ready (rs := [9]) (by kernel_rfl) (by simp) (AllReadyH.cons rfl (fun KK hKK => ?_) AllReadyH.nil)
                  go_simp
                  refine hKK.out _ _ ((hHeld).alloc (Below.size hHeld) _) (fun hHeld => ?_)
                  clear hKK KK
                  try simp only [Act.put, List.setIfInBounds_toArray, List.set_cons_zero, List.set_cons_succ]
                  exact HGH.out _ _ _ _ _ (Lib.hid ⟨hi_lit2 _ _ [y] 1 (by simp) (by simp) (fourB wd (.cells #[.int .i64 y] 3) (.cells #[.int .i64 x, .int .i64 3, .int .i64 2] 3) (.cells #[.int .i64 2] 3) (.cells #[.int .i64 1] 3)).1, hi_lit2 _ _ [1] 1 (by simp) (by simp) (fourB wd (.cells #[.int .i64 y] 3) (.cells #[.int .i64 x, .int .i64 3, .int .i64 2] 3) (.cells #[.int .i64 2] 3) (.cells #[.int .i64 1] 3)).2.2.2.1, hi_lit2 _ _ [2] 1 (by simp) (by simp) (fourB wd (.cells #[.int .i64 y] 3) (.cells #[.int .i64 x, .int .i64 3, .int .i64 2] 3) (.cells #[.int .i64 2] 3) (.cells #[.int .i64 1] 3)).2.2.1, hi_lit2 _ _ [x, 3, 2] 3 (by simp) (by simp) (fourB wd (.cells #[.int .i64 y] 3) (.cells #[.int .i64 x, .int .i64 3, .int .i64 2] 3) (.cells #[.int .i64 2] 3) (.cells #[.int .i64 1] 3)).2.1, HS.out.trans ((fourB wd (.cells #[.int .i64 y] 3) (.cells #[.int .i64 x, .int .i64 3, .int .i64 2] 3) (.cells #[.int .i64 2] 3) (.cells #[.int .i64 1] 3)).2.2.2.2.mono HS.out.size)⟩)
            · go_simp
              refine hKK.out _ _ ((hHeld).alloc (Below.size hHeld) _) (fun hHeld => ?_)
              clear hKK KK
              try simp only [Act.put, List.setIfInBounds_toArray, List.set_cons_zero, List.set_cons_succ]
              refine wpAnyH_ready (rs := [8, 10, 15]) (by kernel_rfl) (by simp) (AllReadyH.cons rfl (fun KK hKK => ?_) (AllReadyH.cons rfl (fun KK hKK => ?_) (AllReadyH.cons rfl (fun KK hKK => ?_) AllReadyH.nil)))
              · go_simp
                refine hKK.out _ _ ((hHeld).alloc (Below.size hHeld) _) (fun hHeld => ?_)
                clear hKK KK
                try simp only [Act.put, List.setIfInBounds_toArray, List.set_cons_zero, List.set_cons_succ]
                refine wpAnyH_ready (rs := [10, 15]) (by kernel_rfl) (by simp) (AllReadyH.cons rfl (fun KK hKK => ?_) (AllReadyH.cons rfl (fun KK hKK => ?_) AllReadyH.nil))
                · go_simp
                  refine hKK.out _ _ ((hHeld).alloc (Below.size hHeld) _) (fun hHeld => ?_)
                  clear hKK KK
                  try simp only [Act.put, List.setIfInBounds_toArray, List.set_cons_zero, List.set_cons_succ]
                  refine wpAnyH_ready (rs := [15]) (by kernel_rfl) (by simp) (AllReadyH.cons rfl (fun KK hKK => ?_) AllReadyH.nil)
                  go_simp
                  refine hKK.out _ _ ((hHeld).alloc (Below.size hHeld) _) (fun hHeld => ?_)
                  clear hKK KK
                  try simp only [Act.put, List.setIfInBounds_toArray, List.set_cons_zero, List.set_cons_succ]
                  exact HGH.out _ _ _ _ _ (Lib.hid ⟨hi_lit2 _ _ [y] 1 (by simp) (by simp) (fourB wd (.cells #[.int .i64 1] 3) (.cells #[.int .i64 y] 3) (.cells #[.int .i64 2] 3) (.cells #[.int .i64 x, .int .i64 3, .int .i64 2] 3)).2.1, hi_lit2 _ _ [1] 1 (by simp) (by simp) (fourB wd (.cells #[.int .i64 1] 3) (.cells #[.int .i64 y] 3) (.cells #[.int .i64 2] 3) (.cells #[.int .i64 x, .int .i64 3, .int .i64 2] 3)).1, hi_lit2 _ _ [2] 1 (by simp) (by simp) (fourB wd (.cells #[.int .i64 1] 3) (.cells #[.int .i64 y] 3) (.cells #[.int .i64 2] 3) (.cells #[.int .i64 x, .int .i64 3, .int .i64 2] 3)).2.2.1, hi_lit2 _ _ [x, 3, 2] 3 (by simp) (by simp) (fourB wd (.cells #[.int .i64 1] 3) (.cells #[.int .i64 y] 3) (.cells #[.int .i64 2] 3) (.cells #[.int .i64 x, .int .i64 3, .int .i64 2] 3)).2.2.2.1, HS.out.trans ((fourB wd (.cells #[.int .i64 1] 3) (.cells #[.int .i64 y] 3) (.cells #[.int .i64 2] 3) (.cells #[.int .i64 x, .int .i64 3, .int .i64 2] 3)).2.2.2.2.mono HS.out.size)⟩)
                · go_simp
                  refine hKK.out _ _ ((hHeld).alloc (Below.size hHeld) _) (fun hHeld => ?_)
                  clear hKK KK
                  try simp only [Act.put, List.setIfInBounds_toArray, List.set_cons_zero, List.set_cons_succ]
                  refine wpAnyH_ready (rs := [10]) (by kernel_rfl) (by simp) (AllReadyH.cons rfl (fun KK hKK => ?_) AllReadyH.nil)
                  go_simp
                  refine hKK.out _ _ ((hHeld).alloc (Below.size hHeld) _) (fun hHeld => ?_)
                  clear hKK KK
                  try simp only [Act.put, List.setIfInBounds_toArray, List.set_cons_zero, List.set_cons_succ]
                  exact HGH.out _ _ _ _ _ (Lib.hid ⟨hi_lit2 _ _ [y] 1 (by simp) (by simp) (fourB wd (.cells #[.int .i64 1] 3) (.cells #[.int .i64 y] 3) (.cells #[.int .i64 x, .int .i64 3, .int .i64 2] 3) (.cells #[.int .i64 2] 3)).2.1, hi_lit2 _ _ [1] 1 (by simp) (by simp) (fourB wd (.cells #[.int .i64 1] 3) (.cells #[.int .i64 y] 3) (.cells #[.int .i64 x, .int .i64 3, .int .i64 2] 3) (.cells #[.int .i64 2] 3)).1, hi_lit2 _ _ [2] 1 (by simp) (by simp) (fourB wd (.cells #[.int .i64 1] 3) (.cells #[.int .i64 y] 3) (.cells #[.int .i64 x, .int .i64 3, .int .i64 2] 3) (.cells #[.int .i64 2] 3)).2.2.2.1, hi_lit2 _ _ [x, 3, 2] 3 (by simp) (by simp) (fourB wd (.cells #[.int .i64 1] 3) (.cells #[.int .i64 y] 3) (.cells #[.int .i64 x, .int .i64 3, .int .i64 2] 3) (.cells #[.int .i64 2] 3)).2.2.1, HS.out.trans ((fourB wd (.cells #[.int .i64 1] 3) (.cells #[.int .i64 y] 3) (.cells #[.int .i64 x, .int .i64 3, .int .i64 2] 3) (.cells #[.int .i64 2] 3)).2.2.2.2.mono HS.out.size)⟩)
              · go_simp
                refine hKK.out _ _ ((hHeld).alloc (Below.size hHeld) _) (fun hHeld => ?_)
                clear hKK KK
                try simp only [Act.put, List.setIfInBounds_toArray, List.set_cons_zero, List.set_cons_succ]
                refine wpAnyH_ready (rs := [8, 15]) (by kernel_rfl) (by simp) (AllReadyH.cons rfl (fun KK hKK => ?_) (AllReadyH.cons rfl (fun KK hKK => ?_) AllReadyH.nil))
                · go_simp
                  refine hKK.out _ _ ((hHeld).alloc (Below.size hHeld) _) (fun hHeld => ?_)
                  clear hKK KK
                  try simp only [Act.put, List.setIfInBounds_toArray, List.set_cons_zero, List.set_cons_succ]
                  refine wpAnyH_ready (rs := [15]) (by kernel_rfl) (by simp) (AllReadyH.cons rfl (fun KK hKK => ?_) AllReadyH.nil)
                  go_simp
                  refine hKK.out _ _ ((hHeld).alloc (Below.size hHeld) _) (fun hHeld => ?_)
                  clear hKK KK
                  try simp only [Act.put, List.setIfInBounds_toArray, List.set_cons_zero, List.set_cons_succ]
                  exact HGH.out _ _ _ _ _ (Lib.hid ⟨hi_lit2 _ _ [y] 1 (by simp) (by simp) (fourB wd (.cells #[.int .i64 1] 3) (.cells #[.int .i64 2] 3) (.cells #[.int .i64 y] 3) (.cells #[.int .i64 x, .int .i64 3, .int .i64 2] 3)).2.2.1, hi_lit2 _ _ [1] 1 (by simp) (by simp) (fourB wd (.cells #[.int .i64 1] 3) (.cells #[.int .i64 2] 3) (.cells #[.int .i64 y] 3) (.cells #[.int .i64 x, .int .i64 3, .int .i64 2] 3)).1, hi_lit2 _ _ [2] 1 (by simp) (by simp) (fourB wd (.cells #[.int .i64 1] 3) (.cells #[.int .i64 2] 3) (.cells #[.int .i64 y] 3) (.cells #[.int .i64 x, .int .i64 3, .int .i64 2] 3)).2.1, hi_lit2 _ _ [x, 3, 2] 3 (by simp) (by simp) (fourB wd (.cells #[.int .i64 1] 3) (.cells #[.int .i64 2] 3) (.cells #[.int .i64 y] 3) (.cells #[.int .i64 x, .int .i64 3, .int .i64 2] 3)).2.2.2.1, HS.out.trans ((fourB wd (.cells #[.int .i64 1] 3) (.cells #[.int .i64 2] 3) (.cells #[.int .i64 y] 3) (.cells #[.int .i64 x, .int .i64 3, .int .i64 2] 3)).2.2.2.2.mono HS.out.size)⟩)
                · go_simp
                  refine hKK.out _ _ ((hHeld).alloc (Below.size hHeld) _) (fun hHeld => ?_)
                  clear hKK KK
                  try simp only [Act.put, List.setIfInBounds_toArray, List.set_cons_zero, List.set_cons_succ]
                  refine wpAnyH_ready (rs := [8]) (by kernel_rfl) (by simp) (AllReadyH.cons rfl (fun KK hKK => ?_) AllReadyH.nil)
                  go_simp
                  refine hKK.out _ _ ((hHeld).alloc (Below.size hHeld) _) (fun hHeld => ?_)
                  clear hKK KK
                  try simp only [Act.put, List.setIfInBounds_toArray, List.set_cons_zero, List.set_cons_succ]
                  exact HGH.out _ _ _ _ _ (Lib.hid ⟨hi_lit2 _ _ [y] 1 (by simp) (by simp) (fourB wd (.cells #[.int .i64 1] 3) (.cells #[.int .i64 2] 3) (.cells #[.int .i64 x, .int .i64 3, .int .i64 2] 3) (.cells #[.int .i64 y] 3)).2.2.2.1, hi_lit2 _ _ [1] 1 (by simp) (by simp) (fourB wd (.cells #[.int .i64 1] 3) (.cells #[.int .i64 2] 3) (.cells #[.int .i64 x, .int .i64 3, .int .i64 2] 3) (.cells #[.int .i64 y] 3)).1, hi_lit2 _ _ [2] 1 (by simp) (by simp) (fourB wd (.cells #[.int .i64 1] 3) (.cells #[.int .i64 2] 3) (.cells #[.int .i64 x, .int .i64 3, .int .i64 2] 3) (.cells #[.int .i64 y] 3)).2.1, hi_lit2 _ _ [x, 3, 2] 3 (by simp) (by simp) (fourB wd (.cells #[.int .i64 1] 3) (.cells #[.int .i64 2] 3) (.cells #[.int .i64 x, .int .i64 3, .int .i64 2] 3) (.cells #[.int .i64 y] 3)).2.2.1, HS.out.trans ((fourB wd (.cells #[.int .i64 1] 3) (.cells #[.int .i64 2] 3) (.cells #[.int .i64 x, .int .i64 3, .int .i64 2] 3) (.cells #[.int .i64 y] 3)).2.2.2.2.mono HS.out.size)⟩)
              · go_simp
                refine hKK.out _ _ ((hHeld).alloc (Below.size hHeld) _) (fun hHeld => ?_)
                clear hKK KK
                try simp only [Act.put, List.setIfInBounds_toArray, List.set_cons_zero, List.set_cons_succ]
                refine wpAnyH_ready (rs := [8, 10]) (by kernel_rfl) (by simp) (AllReadyH.cons rfl (fun KK hKK => ?_) (AllReadyH.cons rfl (fun KK hKK => ?_) AllReadyH.nil))
                · go_simp
                  refine hKK.out _ _ ((hHeld).alloc (Below.size hHeld) _) (fun hHeld => ?_)
                  clear hKK KK
                  try simp only [Act.put, List.setIfInBounds_toArray, List.set_cons_zero, List.set_cons_succ]
                  refine wpAnyH_ready (rs := [10]) (by kernel_rfl) (by simp) (AllReadyH.cons rfl (fun KK hKK => ?_) AllReadyH.nil)
                  go_simp
                  refine hKK.out _ _ ((hHeld).alloc (Below.size hHeld) _) (fun hHeld => ?_)
                  clear hKK KK
                  try simp only [Act.put, List.setIfInBounds_toArray, List.set_cons_zero, List.set_cons_succ]
                  exact HGH.out _ _ _ _ _ (Lib.hid ⟨hi_lit2 _ _ [y] 1 (by simp) (by simp) (fourB wd (.cells #[.int .i64 1] 3) (.cells #[.int .i64 x, .int .i64 3, .int .i64 2] 3) (.cells #[.int .i64 y] 3) (.cells #[.int .i64 2] 3)).2.2.1, hi_lit2 _ _ [1] 1 (by simp) (by simp) (fourB wd (.cells #[.int .i64 1] 3) (.cells #[.int .i64 x, .int .i64 3, .int .i64 2] 3) (.cells #[.int .i64 y] 3) (.cells #[.int .i64 2] 3)).1, hi_lit2 _ _ [2] 1 (by simp) (by simp) (fourB wd (.cells #[.int .i64 1] 3) (.cells #[.int .i64 x, .int .i64 3, .int .i64 2] 3) (.cells #[.int .i64 y] 3) (.cells #[.int .i64 2] 3)).2.2.2.1, hi_lit2 _ _ [x, 3, 2] 3 (by simp) (by simp) (fourB wd (.cells #[.int .i64 1] 3) (.cells #[.int .i64 x, .int .i64 3, .int .i64 2] 3) (.cells #[.int .i64 y] 3) (.cells #[.int .i64 2] 3)).2.1, HS.out.trans ((fourB wd (.cells #[.int .i64 1] 3) (.cells #[.int .i64 x, .int .i64 3, .int .i64 2] 3) (.cells #[.int .i64 y] 3) (.cells #[.int .i64 2] 3)).2.2.2.2.mono HS.out.size)⟩)
                · go_simp
                  refine hKK.out _ _ ((hHeld).alloc (Below.size hHeld) _) (fun hHeld => ?_)
                  clear hKK KK
                  try simp only [Act.put, List.setIfInBounds_toArray, List.set_cons_zero, List.set_cons_succ]
                  refine wpAnyH_ready (rs := [8]) (by kernel_rfl) (by simp) (AllReadyH.cons rfl (fun KK hKK => ?_) AllReadyH.nil)
                  go_simp
                  refine hKK.out _ _ ((hHeld).alloc (Below.size hHeld) _) (fun hHeld => ?_)
                  clear hKK KK
                  try simp only [Act.put, List.setIfInBounds_toArray, List.set_cons_zero, List.set_cons_succ]
                  exact HGH.out _ _ _ _ _ (Lib.hid ⟨hi_lit2 _ _ [y] 1 (by simp) (by simp) (fourB wd (.cells #[.int .i64 1] 3) (.cells #[.int .i64 x, .int .i64 3, .int .i64 2] 3) (.cells #[.int .i64 2] 3) (.cells #[.int .i64 y] 3)).2.2.2.1, hi_lit2 _ _ [1] 1 (by simp) (by simp) (fourB wd (.cells #[.int .i64 1] 3) (.cells #[.int .i64 x, .int .i64 3, .int .i64 2] 3) (.cells #[.int .i64 2] 3) (.cells #[.int .i64 y] 3)).1, hi_lit2 _ _ [2] 1 (by simp) (by simp) (fourB wd (.cells #[.int .i64 1] 3) (.cells #[.int .i64 x, .int .i64 3, .int .i64 2] 3) (.cells #[.int .i64 2] 3) (.cells #[.int .i64 y] 3)).2.2.1, hi_lit2 _ _ [x, 3, 2] 3 (by simp) (by simp) (fourB wd (.cells #[.int .i64 1] 3) (.cells #[.int .i64 x, .int .i64 3, .int .i64 2] 3) (.cells #[.int .i64 2] 3) (.cells #[.int .i64 y] 3)).2.1, HS.out.trans ((fourB wd (.cells #[.int .i64 1] 3) (.cells #[.int .i64 x, .int .i64 3, .int .i64 2] 3) (.cells #[.int .i64 2] 3) (.cells #[.int .i64 y] 3)).2.2.2.2.mono HS.out.size)⟩)
            · go_simp
              refine hKK.out _ _ ((hHeld).alloc (Below.size hHeld) _) (fun hHeld => ?_)
              clear hKK KK
              try simp only [Act.put, List.setIfInBounds_toArray, List.set_cons_zero, List.set_cons_succ]
              refine wpAnyH_ready (rs := [8, 9, 15]) (by kernel_rfl) (by simp) (AllReadyH.cons rfl (fun KK hKK => ?_) (AllReadyH.cons rfl (fun KK hKK => ?_) (AllReadyH.cons rfl (fun KK hKK => ?_) AllReadyH.nil)))
              · go_simp
                refine hKK.out _ _ ((hHeld).alloc (Below.size hHeld) _) (fun hHeld => ?_)
                clear hKK KK
                try simp only [Act.put, List.setIfInBounds_toArray, List.set_cons_zero, List.set_cons_succ]
                refine wpAnyH_ready (rs := [9, 15]) (by kernel_rfl) (by simp) (AllReadyH.cons rfl (fun KK hKK => ?_) (AllReadyH.cons rfl (fun KK hKK => ?_) AllReadyH.nil))
                · go_simp
                  refine hKK.out _ _ ((hHeld).alloc (Below.size hHeld) _) (fun hHeld => ?_)
                  clear hKK KK
                  try simp only [Act.put, List.setIfInBounds_toArray, List.set_cons_zero, List.set_cons_succ]
                  refine wpAnyH_ready (rs := [15]) (by kernel_rfl) (by simp) (AllReadyH.cons rfl (fun KK hKK => ?_) AllReadyH.nil)
                  go_simp
                  refine hKK.out _ _ ((hHeld).alloc (Below.size hHeld) _) (fun hHeld => ?_)
                  clear hKK KK
                  try simp only [Act.put, List.setIfInBounds_toArray, List.set_cons_zero, List.set_cons_succ]
                  exact HGH.out _ _ _ _ _ (Lib.hid ⟨hi_lit2 _ _ [y] 1 (by simp) (by simp) (fourB wd (.cells #[.int .i64 2] 3) (.cells #[.int .i64 y] 3) (.cells #[.int .i64 1] 3) (.cells #[.int .i64 x, .int .i64 3, .int .i64 2] 3)).2.1, hi_lit2 _ _ [1] 1 (by simp) (by simp) (fourB wd (.cells #[.int .i64 2] 3) (.cells #[.int .i64 y] 3) (.cells #[.int .i64 1] 3) (.cells #[.int .i64 x, .int .i64 3, .int .i64 2] 3)).2.2.1, hi_lit2 _ _ [2] 1 (by simp) (by simp) (fourB wd (.cells #[.int .i64 2] 3) (.cells #[.int .i64 y] 3) (.cells #[.int .i64 1] 3) (.cells #[.int .i64 x, .int .i64 3, .int .i64 2] 3)).1, hi_lit2 _ _ [x, 3, 2] 3 (by simp) (by simp) (fourB wd (.cells #[.int .i64 2] 3) (.cells #[.int .i64 y] 3) (.cells #[.int .i64 1] 3) (.cells #[.int .i64 x, .int .i64 3, .int .i64 2] 3)).2.2.2.1, HS.out.trans ((fourB wd (.cells #[.int .i64 2] 3) (.cells #[.int .i64 y] 3) (.cells #[.int .i64 1] 3) (.cells #[.int .i64 x, .int .i64 3, .int .i64 2] 3)).2.2.2.2.mono HS.out.size)⟩)
                · go_simp
                  refine hKK.out _ _ ((hHeld).alloc (Below.size hHeld) _) (fun hHeld => ?_)
                  clear hKK KK
                  try simp only [Act.put, List.setIfInBounds_toArray, List.set_cons_zero, List.set_cons_succ]
                  refine wpAnyH_ready (rs := [9]) (by kernel_rfl) (by simp) (AllReadyH.cons rfl (fun KK hKK => ?_) AllReadyH.nil)
                  go_simp
                  refine hKK.out _ _ ((hHeld).alloc (Below.size hHeld) _) (fun hHeld => ?_)
                  clear hKK KK
                  try simp only [Act.put, List.setIfInBounds_toArray, List.set_cons_zero, List.set_cons_succ]
                  exact HGH.out _ _ _ _ _ (Lib.hid ⟨hi_lit2 _ _ [y] 1 (by simp) (by simp) (fourB wd (.cells #[.int .i64 2] 3) (.cells #[.int .i64 y] 3) (.cells #[.int .i64 x, .int .i64 3, .int .i64 2] 3) (.cells #[.int .i64 1] 3)).2.1, hi_lit2 _ _ [1] 1 (by simp) (by simp) (fourB wd (.cells #[.int .i64 2] 3) (.cells #[.int .i64 y] 3) (.cells #[.int .i64 x, .int .i64 3, .int .i64 2] 3) (.cells #[.int .i64 1] 3)).2.2.2.1, hi_lit2 _ _ [2] 1 (by simp) (by simp) (fourB wd (.cells #[.int .i64 2] 3) (.cells #[.int .i64 y] 3) (.cells #[.int .i64 x, .int .i64 3, .int .i64 2] 3) (.cells #[.int .i64 1] 3)).1, hi_lit2 _ _ [x, 3, 2] 3 (by simp) (by simp) (fourB wd (.cells #[.int .i64 2] 3) (.cells #[.int .i64 y] 3) (.cells #[.int .i64 x, .int .i64 3, .int .i64 2] 3) (.cells #[.int .i64 1] 3)).2.2.1, HS.out.trans ((fourB wd (.cells #[.int .i64 2] 3) (.cells #[.int .i64 y] 3) (.cells #[.int .i64 x, .int .i64 3, .int .i64 2] 3) (.cells #[.int .i64 1] 3)).2.2.2.2.mono HS.out.size)⟩)
              · go_simp
                refine hKK.out _ _ ((hHeld).alloc (Below.size hHeld) _) (fun hHeld => ?_)
                clear hKK KK
                try simp only [Act.put, List.setIfInBounds_toArray, List.set_cons_zero, List.set_cons_succ]
                refine wpAnyH_ready (rs := [8, 15]) (by kernel_rfl) (by simp) (AllReadyH.cons rfl (fun KK hKK => ?_) (AllReadyH.cons rfl (fun KK hKK => ?_) AllReadyH.nil))
                · go_simp
                  refine hKK.out _ _ ((hHeld).alloc (Below.size hHeld) _) (fun hHeld => ?_)
                  clear hKK KK
                  try simp only [Act.put, List.setIfInBounds_toArray, List.set_cons_zero, List.set_cons_succ]
                  refine wpAnyH_ready (rs := [15]) (by kernel_rfl) (by simp) (AllReadyH.cons rfl (fun KK hKK => ?_) AllReadyH.nil)
                  go_simp
                  refine hKK.out _ _ ((hHeld).alloc (Below.size hHeld) _) (fun hHeld => ?_)
                  clear hKK KK
                  try simp only [Act.put, List.setIfInBounds_toArray, List.set_cons_zero, List.set_cons_succ]
                  exact HGH.out _ _ _ _ _ (Lib.hid ⟨hi_lit2 _ _ [y] 1 (by simp) (by simp) (fourB wd (.cells #[.int .i64 2] 3) (.cells #[.int .i64 1] 3) (.cells #[.int .i64 y] 3) (.cells #[.int .i64 x, .int .i64 3, .int .i64 2] 3)).2.2.1, hi_lit2 _ _ [1] 1 (by simp) (by simp) (fourB wd (.cells #[.int .i64 2] 3) (.cells #[.int .i64 1] 3) (.cells #[.int .i64 y] 3) (.cells #[.int .i64 x, .int .i64 3, .int .i64 2] 3)).2.1, hi_lit2 _ _ [2] 1 (by simp) (by simp) (fourB wd (.cells #[.int .i64 2] 3) (.cells #[.int .i64 1] 3) (.cells #[.int .i64 y] 3) (.cells #[.int .i64 x, .int .i64 3, .int .i64 2] 3)).1, hi_lit2 _ _ [x, 3, 2] 3 (by simp) (by simp) (fourB wd (.cells #[.int .i64 2] 3) (.cells #[.int .i64 1] 3) (.cells #[.int .i64 y] 3) (.cells #[.int .i64 x, .int .i64 3, .int .i64 2] 3)).2.2.2.1, HS.out.trans ((fourB wd (.cells #[.int .i64 2] 3) (.cells #[.int .i64 1] 3) (.cells #[.int .i64 y] 3) (.cells #[.int .i64 x, .int .i64 3, .int .i64 2] 3)).2.2.2.2.mono HS.out.size)⟩)
                · go_simp
                  refine hKK.out _ _ ((hHeld).alloc (Below.size hHeld) _) (fun hHeld => ?_)
                  clear hKK KK
                  try simp only [Act.put, List.setIfInBounds_toArray, List.set_cons_zero, List.set_cons_succ]
                  refine wpAnyH_ready (rs := [8]) (by kernel_rfl) (by simp) (AllReadyH.cons rfl (fun KK hKK => ?_) AllReadyH.nil)
                  go_simp
                  refine hKK.out _ _ ((hHeld).alloc (Below.size hHeld) _) (fun hHeld => ?_)
                  clear hKK KK
                  try simp only [Act.put, List.setIfInBounds_toArray, List.set_cons_zero, List.set_cons_succ]
                  exact HGH.out _ _ _ _ _ (Lib.hid ⟨hi_lit2 _ _ [y] 1 (by simp) (by simp) (fourB wd (.cells #[.int .i64 2] 3) (.cells #[.int .i64 1] 3) (.cells #[.int .i64 x, .int .i64 3, .int .i64 2] 3) (.cells #[.int .i64 y] 3)).2.2.2.1, hi_lit2 _ _ [1] 1 (by simp) (by simp) (fourB wd (.cells #[.int .i64 2] 3) (.cells #[.int .i64 1] 3) (.cells #[.int .i64 x, .int .i64 3, .int .i64 2] 3) (.cells #[.int .i64 y] 3)).2.1, hi_lit2 _ _ [2] 1 (by simp) (by simp) (fourB wd (.cells #[.int .i64 2] 3) (.cells #[.int .i64 1] 3) (.cells #[.int .i64 x, .int .i64 3, .int .i64 2] 3) (.cells #[.int .i64 y] 3)).1, hi_lit2 _ _ [x, 3, 2] 3 (by simp) (by simp) (fourB wd (.cells #[.int .i64 2] 3) (.cells #[.int .i64 1] 3) (.cells #[.int .i64 x, .int .i64 3, .int .i64 2] 3) (.cells #[.int .i64 y] 3)).2.2.1, HS.out.trans ((fourB wd (.cells #[.int .i64 2] 3) (.cells #[.int .i64 1] 3) (.cells #[.int .i64 x, .int .i64 3, .int .i64 2] 3) (.cells #[.int .i64 y] 3)).2.2.2.2.mono HS.out.size)⟩)
              · go_simp
                refine hKK.out _ _ ((hHeld).alloc (Below.size hHeld) _) (fun hHeld => ?_)
                clear hKK KK
                try simp only [Act.put, List.setIfInBounds_toArray, List.set_cons_zero, List.set_cons_succ]
                refine wpAnyH_ready (rs := [8, 9]) (by kernel_rfl) (by simp) (AllReadyH.cons rfl (fun KK hKK => ?_) (AllReadyH.cons rfl (fun KK hKK => ?_) AllReadyH.nil))
                · go_simp
                  refine hKK.out _ _ ((hHeld).alloc (Below.size hHeld) _) (fun hHeld => ?_)
                  clear hKK KK
                  try simp only [Act.put, List.setIfInBounds_toArray, List.set_cons_zero, List.set_cons_succ]
                  refine wpAnyH_ready (rs := [9]) (by kernel_rfl) (by simp) (AllReadyH.cons rfl (fun KK hKK => ?_) AllReadyH.nil)
                  go_simp
                  refine hKK.out _ _ ((hHeld).alloc (Below.size hHeld) _) (fun hHeld => ?_)
                  clear hKK KK
                  try simp only [Act.put, List.setIfInBounds_toArray, List.set_cons_zero, List.set_cons_succ]
                  exact HGH.out _ _ _ _ _ (Lib.hid ⟨hi_lit2 _ _ [y] 1 (by simp) (by simp) (fourB wd (.cells #[.int .i64 2] 3) (.cells #[.int .i64 x, .int .i64 3, .int .i64 2] 3) (.cells #[.int .i64 y] 3) (.cells #[.int .i64 1] 3)).2.2.1, hi_lit2 _ _ [1] 1 (by simp) (by simp) (fourB wd (.cells #[.int .i64 2] 3) (.cells #[.int .i64 x, .int .i64 3, .int .i64 2] 3) (.cells #[.int .i64 y] 3) (.cells #[.int .i64 1] 3)).2.2.2.1, hi_lit2 _ _ [2] 1 (by simp) (by simp) (fourB wd (.cells #[.int .i64 2] 3) (.cells #[.int .i64 x, .int .i64 3, .int .i64 2] 3) (.cells #[.int .i64 y] 3) (.cells #[.int .i64 1] 3)).1, hi_lit2 _ _ [x, 3, 2] 3 (by simp) (by simp) (fourB wd (.cells #[.int .i64 2] 3) (.cells #[.int .i64 x, .int .i64 3, .int .i64 2] 3) (.cells #[.int .i64 y] 3) (.cells #[.int .i64 1] 3)).2.1, HS.out.trans ((fourB wd (.cells #[.int .i64 2] 3) (.cells #[.int .i64 x, .int .i64 3, .int .i64 2] 3) (.cells #[.int .i64 y] 3) (.cells #[.int .i64 1] 3)).2.2.2.2.mono HS.out.size)⟩)
                · go_simp
                  refine hKK.out _ _ ((hHeld).alloc (Below.size hHeld) _) (fun hHeld => ?_)
                  clear hKK KK
                  try simp only [Act.put, List.setIfInBounds_toArray, List.set_cons_zero, List.set_cons_succ]
                  refine wpAnyH_ready (rs := [8]) (by kernel_rfl) (by simp) (AllReadyH.cons rfl (fun KK hKK => ?_) AllReadyH.nil)
                  go_simp
                  refine hKK.out _ _ ((hHeld).alloc (Below.size hHeld) _) (fun hHeld => ?_)
                  clear hKK KK
                  try simp only [Act.put, List.setIfInBounds_toArray, List.set_cons_zero, List.set_cons_succ]
                  exact HGH.out _ _ _ _ _ (Lib.hid ⟨hi_lit2 _ _ [y] 1 (by simp) (by simp) (fourB wd (.cells #[.int .i64 2] 3) (.cells #[.int .i64 x, .int .i64 3, .int .i64 2] 3) (.cells #[.int .i64 1] 3) (.cells #[.int .i64 y] 3)).2.2.2.1, hi_lit2 _ _ [1] 1 (by simp) (by simp) (fourB wd (.cells #[.int .i64 2] 3) (.cells #[.int .i64 x, .int .i64 3, .int .i64 2] 3) (.cells #[.int .i64 1] 3) (.cells #[.int .i64 y] 3)).2.2.1, hi_lit2 _ _ [2] 1 (by simp) (by simp) (fourB wd (.cells #[.int .i64 2] 3) (.cells #[.int .i64 x, .int .i64 3, .int .i64 2] 3) (.cells #[.int .i64 1] 3) (.cells #[.int .i64 y] 3)).1, hi_lit2 _ _ [x, 3, 2] 3 (by simp) (by simp) (fourB wd (.cells #[.int .i64 2] 3) (.cells #[.int .i64 x, .int .i64 3, .int .i64 2] 3) (.cells #[.int .i64 1] 3) (.cells #[.int .i64 y] 3)).2.1, HS.out.trans ((fourB wd (.cells #[.int .i64 2] 3) (.cells #[.int .i64 x, .int .i64 3, .int .i64 2] 3) (.cells #[.int .i64 1] 3) (.cells #[.int .i64 y] 3)).2.2.2.2.mono HS.out.size)⟩)
            · go_simp
              refine hKK.out _ _ ((hHeld).alloc (Below.size hHeld) _) (fun hHeld => ?_)
              clear hKK KK
              try simp only [Act.put, List.setIfInBounds_toArray, List.set_cons_zero, List.set_cons_succ]
              refine wpAnyH_ready (rs := [8, 9, 10]) (by kernel_rfl) (by simp) (AllReadyH.cons rfl (fun KK hKK => ?_) (AllReadyH.cons rfl (fun KK hKK => ?_) (AllReadyH.cons rfl (fun KK hKK => ?_) AllReadyH.nil)))
              · go_simp
                refine hKK.out _ _ ((hHeld).alloc (Below.size hHeld) _) (fun hHeld => ?_)
                clear hKK KK
                try simp only [Act.put, List.setIfInBounds_toArray, List.set_cons_zero, List.set_cons_succ]
                refine wpAnyH_ready (rs := [9, 10]) (by kernel_rfl) (by simp) (AllReadyH.cons rfl (fun KK hKK => ?_) (AllReadyH.cons rfl (fun KK hKK => ?_) AllReadyH.nil))
                · go_simp
                  refine hKK.out _ _ ((hHeld).alloc (Below.size hHeld) _) (fun hHeld => ?_)
                  clear hKK KK
                  try simp only [Act.put, List.setIfInBounds_toArray, List.set_cons_zero, List.set_cons_succ]
                  refine wpAnyH_ready (rs := [10]) (by kernel_rfl) (by simp) (AllReadyH.cons rfl (fun KK hKK => ?_) AllReadyH.nil)
                  go_simp
                  refine hKK.out _ _ ((hHeld).alloc (Below.size hHeld) _) (fun hHeld => ?_)
                  clear hKK KK
                  try simp only [Act.put, List.setIfInBounds_toArray, List.set_cons_zero, List.set_cons_succ]
                  exact HGH.out _ _ _ _ _ (Lib.hid ⟨hi_lit2 _ _ [y] 1 (by simp) (by simp) (fourB wd (.cells #[.int .i64 x, .int .i64 3, .int .i64 2] 3) (.cells #[.int .i64 y] 3) (.cells #[.int .i64 1] 3) (.cells #[.int .i64 2] 3)).2.1, hi_lit2 _ _ [1] 1 (by simp) (by simp) (fourB wd (.cells #[.int .i64 x, .int .i64 3, .int .i64 2] 3) (.cells #[.int .i64 y] 3) (.cells #[.int .i64 1] 3) (.cells #[.int .i64 2] 3)).2.2.1, hi_lit2 _ _ [2] 1 (by simp) (by simp) (fourB wd (.cells #[.int .i64 x, .int .i64 3, .int .i64 2] 3) (.cells #[.int .i64 y] 3) (.cells #[.int .i64 1] 3) (.cells #[.int .i64 2] 3)).2.2.2.1, hi_lit2 _ _ [x, 3, 2] 3 (by simp) (by simp) (fourB wd (.cells #[.int .i64 x, .int .i64 3, .int .i64 2] 3) (.cells #[.int .i64 y] 3) (.cells #[.int .i64 1] 3) (.cells #[.int .i64 2] 3)).1, HS.out.trans ((fourB wd (.cells #[.int .i64 x, .int .i64 3, .int .i64 2] 3) (.cells #[.int .i64 y] 3) (.cells #[.int .i64 1] 3) (.cells #[.int .i64 2] 3)).2.2.2.2.mono HS.out.size)⟩)
                · go_simp
                  refine hKK.out _ _ ((hHeld).alloc (Below.size hHeld) _) (fun hHeld => ?_)
                  clear hKK KK
                  try simp only [Act.put, List.setIfInBounds_toArray, List.set_cons_zero, List.set_cons_succ]
                  refine wpAnyH_ready (rs := [9]) (by kernel_rfl) (by simp) (AllReadyH.cons rfl (fun KK hKK => ?_) AllReadyH.nil)
                  go_simp
                  refine hKK.out _ _ ((hHeld).alloc (Below.size hHeld) _) (fun hHeld => ?_)
                  clear hKK KK
                  try simp only [Act.put, List.setIfInBounds_toArray, List.set_cons_zero, List.set_cons_succ]
                  exact HGH.out _ _ _ _ _ (Lib.hid ⟨hi_lit2 _ _ [y] 1 (by simp) (by simp) (fourB wd (.cells #[.int .i64 x, .int .i64 3, .int .i64 2] 3) (.cells #[.int .i64 y] 3) (.cells #[.int .i64 2] 3) (.cells #[.int .i64 1] 3)).2.1, hi_lit2 _ _ [1] 1 (by simp) (by simp) (fourB wd (.cells #[.int .i64 x, .int .i64 3, .int .i64 2] 3) (.cells #[.int .i64 y] 3) (.cells #[.int .i64 2] 3) (.cells #[.int .i64 1] 3)).2.2.2.1, hi_lit2 _ _ [2] 1 (by simp) (by simp) (fourB wd (.cells #[.int .i64 x, .int .i64 3, .int .i64 2] 3) (.cells #[.int .i64 y] 3) (.cells #[.int .i64 2] 3) (.cells #[.int .i64 1] 3)).2.2.1, hi_lit2 _ _ [x, 3, 2] 3 (by simp) (by simp) (fourB wd (.cells #[.int .i64 x, .int .i64 3, .int .i64 2] 3) (.cells #[.int .i64 y] 3) (.cells #[.int .i64 2] 3) (.cells #[.int .i64 1] 3)).1, HS.out.trans ((fourB wd (.cells #[.int .i64 x, .int .i64 3, .int .i64 2] 3) (.cells #[.int .i64 y] 3) (.cells #[.int .i64 2] 3) (.cells #[.int .i64 1] 3)).2.2.2.2.mono HS.out.size)⟩)
              · go_simp
                refine hKK.out _ _ ((hHeld).alloc (Below.size hHeld) _) (fun hHeld => ?_)
                clear hKK KK
                try simp only [Act.put, List.setIfInBounds_toArray, List.set_cons_zero, List.set_cons_succ]
                refine wpAnyH_ready (rs := [8, 10]) (by kernel_rfl) (by simp) (AllReadyH.cons rfl (fun KK hKK => ?_) (AllReadyH.cons rfl (fun KK hKK => ?_) AllReadyH.nil))
                · go_simp
                  refine hKK.out _ _ ((hHeld).alloc (Below.size hHeld) _) (fun hHeld => ?_)
                  clear hKK KK
                  try simp only [Act.put, List.setIfInBounds_toArray, List.set_cons_zero, List.set_cons_succ]
                  refine wpAnyH_ready (rs := [10]) (by kernel_rfl) (by simp) (AllReadyH.cons rfl (fun KK hKK => ?_) AllReadyH.nil)
                  go_simp
                  refine hKK.out _ _ ((hHeld).alloc (Below.size hHeld) _) (fun hHeld => ?_)
                  clear hKK KK
                  try simp only [Act.put, List.setIfInBounds_toArray, List.set_cons_zero, List.set_cons_succ]
                  exact HGH.out _ _ _ _ _ (Lib.hid ⟨hi_lit2 _ _ [y] 1 (by simp) (by simp) (fourB wd (.cells #[.int .i64 x, .int .i64 3, .int .i64 2] 3) (.cells #[.int .i64 1] 3) (.cells #[.int .i64 y] 3) (.cells #[.int .i64 2] 3)).2.2.1, hi_lit2 _ _ [1] 1 (by simp) (by simp) (fourB wd (.cells #[.int .i64 x, .int .i64 3, .int .i64 2] 3) (.cells #[.int .i64 1] 3) (.cells #[.int .i64 y] 3) (.cells #[.int .i64 2] 3)).2.1, hi_lit2 _ _ [2] 1 (by simp) (by simp) (fourB wd (.cells #[.int .i64 x, .int .i64 3, .int .i64 2] 3) (.cells #[.int .i64 1] 3) (.cells #[.int .i64 y] 3) (.cells #[.int .i64 2] 3)).2.2.2.1, hi_lit2 _ _ [x, 3, 2] 3 (by simp) (by simp) (fourB wd (.cells #[.int .i64 x, .int .i64 3, .int .i64 2] 3) (.cells #[.int .i64 1] 3) (.cells #[.int .i64 y] 3) (.cells #[.int .i64 2] 3)).1, HS.out.trans ((fourB wd (.cells #[.int .i64 x, .int .i64 3, .int .i64 2] 3) (.cells #[.int .i64 1] 3) (.cells #[.int .i64 y] 3) (.cells #[.int .i64 2] 3)).2.2.2.2.mono HS.out.size)⟩)
                · go_simp
                  refine hKK.out _ _ ((hHeld).alloc (Below.size hHeld) _) (fun hHeld => ?_)
                  clear hKK KK
                  try simp only [Act.put, List.setIfInBounds_toArray, List.set_cons_zero, List.set_cons_succ]
                  refine wpAnyH_ready (rs := [8]) (by kernel_rfl) (by simp) (AllReadyH.cons rfl (fun KK hKK => ?_) AllReadyH.nil)
                  go_simp
                  refine hKK.out _ _ ((hHeld).alloc (Below.size hHeld) _) (fun hHeld => ?_)
                  clear hKK KK
                  try simp only [Act.put, List.setIfInBounds_toArray, List.set_cons_zero, List.set_cons_succ]
                  exact HGH.out _ _ _ _ _ (Lib.hid ⟨hi_lit2 _ _ [y] 1 (by simp) (by simp) (fourB wd (.cells #[.int .i64 x, .int .i64 3, .int .i64 2] 3) (.cells #[.int .i64 1] 3) (.cells #[.int .i64 2] 3) (.cells #[.int .i64 y] 3)).2.2.2.1, hi_lit2 _ _ [1] 1 (by simp) (by simp) (fourB wd (.cells #[.int .i64 x, .int .i64 3, .int .i64 2] 3) (.cells #[.int .i64 1] 3) (.cells #[.int .i64 2] 3) (.cells #[.int .i64 y] 3)).2.1, hi_lit2 _ _ [2] 1 (by simp) (by simp) (fourB wd (.cells #[.int .i64 x, .int .i64 3, .int .i64 2] 3) (.cells #[.int .i64 1] 3) (.cells #[.int .i64 2] 3) (.cells #[.int .i64 y] 3)).2.2.1, hi_lit2 _ _ [x, 3, 2] 3 (by simp) (by simp) (fourB wd (.cells #[.int .i64 x, .int .i64 3, .int .i64 2] 3) (.cells #[.int .i64 1] 3) (.cells #[.int .i64 2] 3) (.cells #[.int .i64 y] 3)).1, HS.out.trans ((fourB wd (.cells #[.int .i64 x, .int .i64 3, .int .i64 2] 3) (.cells #[.int .i64 1] 3) (.cells #[.int .i64 2] 3) (.cells #[.int .i64 y] 3)).2.2.2.2.mono HS.out.size)⟩)
              · go_simp
                refine hKK.out _ _ ((hHeld).alloc (Below.size hHeld) _) (fun hHeld => ?_)
                clear hKK KK
                try simp only [Act.put, List.setIfInBounds_toArray, List.set_cons_zero, List.set_cons_succ]
                refine wpAnyH_ready (rs := [8, 9]) (by kernel_rfl) (by simp) (AllReadyH.cons rfl (fun KK hKK => ?_) (AllReadyH.cons rfl (fun KK hKK => ?_) AllReadyH.nil))
                · go_simp
                  refine hKK.out _ _ ((hHeld).alloc (Below.size hHeld) _) (fun hHeld => ?_)
                  clear hKK KK
                  try simp only [Act.put, List.setIfInBounds_toArray, List.set_cons_zero, List.set_cons_succ]
                  refine wpAnyH_ready (rs := [9]) (by kernel_rfl) (by simp) (AllReadyH.cons rfl (fun KK hKK => ?_) AllReadyH.nil)
                  go_simp
                  refine hKK.out _ _ ((hHeld).alloc (Below.size hHeld) _) (fun hHeld => ?_)
                  clear hKK KK
                  try simp only [Act.put, List.setIfInBounds_toArray, List.set_cons_zero, List.set_cons_succ]
                  exact HGH.out _ _ _ _ _ (Lib.hid ⟨hi_lit2 _ _ [y] 1 (by simp) (by simp) (fourB wd (.cells #[.int .i64 x, .int .i64 3, .int .i64 2] 3) (.cells #[.int .i64 2] 3) (.cells #[.int .i64 y] 3) (.cells #[.int .i64 1] 3)).2.2.1, hi_lit2 _ _ [1] 1 (by simp) (by simp) (fourB wd (.cells #[.int .i64 x, .int .i64 3, .int .i64 2] 3) (.cells #[.int .i64 2] 3) (.cells #[.int .i64 y] 3) (.cells #[.int .i64 1] 3)).2.2.2.1, hi_lit2 _ _ [2] 1 (by simp) (by simp) (fourB wd (.cells #[.int .i64 x, .int .i64 3, .int .i64 2] 3) (.cells #[.int .i64 2] 3) (.cells #[.int .i64 y] 3) (.cells #[.int .i64 1] 3)).2.1, hi_lit2 _ _ [x, 3, 2] 3 (by simp) (by simp) (fourB wd (.cells #[.int .i64 x, .int .i64 3, .int .i64 2] 3) (.cells #[.int .i64 2] 3) (.cells #[.int .i64 y] 3) (.cells #[.int .i64 1] 3)).1, HS.out.trans ((fourB wd (.cells #[.int .i64 x, .int .i64 3, .int .i64 2] 3) (.cells #[.int .i64 2] 3) (.cells #[.int .i64 y] 3) (.cells #[.int .i64 1] 3)).2.2.2.2.mono HS.out.size)⟩)
                · go_simp
                  refine hKK.out _ _ ((hHeld).alloc (Below.size hHeld) _) (fun hHeld => ?_)
                  clear hKK KK
                  try simp only [Act.put, List.setIfInBounds_toArray, List.set_cons_zero, List.set_cons_succ]
                  refine wpAnyH_ready (rs := [8]) (by kernel_rfl) (by simp) (AllReadyH.cons rfl (fun KK hKK => ?_) AllReadyH.nil)
                  go_simp
                  refine hKK.out _ _ ((hHeld).alloc (Below.size hHeld) _) (fun hHeld => ?_)
                  clear hKK KK
                  try simp only [Act.put, List.setIfInBounds_toArray, List.set_cons_zero, List.set_cons_succ]
                  exact HGH.out _ _ _ _ _ (Lib.hid ⟨hi_lit2 _ _ [y] 1 (by simp) (by simp) (fourB wd (.cells #[.int .i64 x, .int .i64 3, .int .i64 2] 3) (.cells #[.int .i64 2] 3) (.cells #[.int .i64 1] 3) (.cells #[.int .i64 y] 3)).2.2.2.1, hi_lit2 _ _ [1] 1 (by simp) (by simp) (fourB wd (.cells #[.int .i64 x, .int .i64 3, .int .i64 2] 3) (.cells #[.int .i64 2] 3) (.cells #[.int .i64 1] 3) (.cells #[.int .i64 y] 3)).2.2.1, hi_lit2 _ _ [2] 1 (by simp) (by simp) (fourB wd (.cells #[.int .i64 x, .int .i64 3, .int .i64 2] 3) (.cells #[.int .i64 2] 3) (.cells #[.int .i64 1] 3) (.cells #[.int .i64 y] 3)).2.1, hi_lit2 _ _ [x, 3, 2] 3 (by simp) (by simp) (fourB wd (.cells #[.int .i64 x, .int .i64 3, .int .i64 2] 3) (.cells #[.int .i64 2] 3) (.cells #[.int .i64 1] 3) (.cells #[.int .i64 y] 3)).1, HS.out.trans ((fourB wd (.cells #[.int .i64 x, .int .i64 3, .int .i64 2] 3) (.cells #[.int .i64 2] 3) (.cells #[.int .i64 1] 3) (.cells #[.int .i64 y] 3)).2.2.2.2.mono HS.out.size)⟩)
          case shG1 =>
            intro W1 x15_1 x10_1 x9_1 x8_1 HALL
            obtain ⟨hh8, hh9, hh10, hh15, hbb⟩ := HALL.out
            have HH8 := Lib.hid hh8; have HH9 := Lib.hid hh9; have HH10 := Lib.hid hh10; have HH15 := Lib.hid hh15; have HS := Lib.hid hbb
            clear HALL hh8 hh9 hh10 hh15 hbb
            refine wpAnyH_ready (rs := [16]) (by kernel_rfl) (by simp) (AllReadyH.cons rfl (fun KK hKK => ?_) AllReadyH.nil)
            go_simp
            refine (HD.out x (some ⟨x8_1, 0, none⟩) (some ⟨x9_1, 0, none⟩) (some ⟨x10_1, 0, none⟩) (some ⟨x15_1, 0, none⟩) 1 1 1 1 1 1 3 3 _ _ _ _ (by omega) (by omega) (by omega) (by omega) _ HH8.out HH9.out HH10.out HH15.out).mono ?_
            rintro e V1 ⟨rfl, hb1⟩
            dsimp only
            have hS0 := HS.out
            have HS := Lib.hid (hS0.trans (hb1.mono hS0.size))
            clear hS0 hb1
            clear HH8 HH9 HH10 HH15
            refine hKK.out _ _ (HS.out) (fun hHeld => ?_)
            clear hKK KK
            try simp only [Act.put, List.setIfInBounds_toArray, List.set_cons_zero, List.set_cons_succ]
            refine wpAnyH_take (i := 17) (oi := ⟨some 40, _, _, _, _, none⟩) (v := (.bool false)) rfl (by kernel_rfl) (by kernel_rfl) (by kernel_rfl) (fun _ _ _ h => h) (Or.inl ⟨by rfl, fun W hW => ?_⟩) (by assumption) ?_
            · go_simp
            simp only [Act.put, List.setIfInBounds_toArray, List.set_cons_zero, List.set_cons_succ]
            refine wpAnyH_take (i := 18) (oi := ⟨some 41, _, _, _, _, none⟩) (v := (.bool false)) rfl (by kernel_rfl) (by kernel_rfl) (by kernel_rfl) (fun _ _ _ h => h) (Or.inl ⟨by rfl, fun W hW => ?_⟩) (by assumption) ?_
            · go_simp
            simp only [Act.put, List.setIfInBounds_toArray, List.set_cons_zero, List.set_cons_succ]
            refine wpAnyH_take (i := 19) (oi := ⟨some 42, _, _, _, _, some (18, false)⟩) (v := (.int .i64 (m : Nat))) rfl (by kernel_rfl) (by kernel_rfl) (by kernel_rfl) (fun _ _ _ h => h) (Or.inl ⟨by rfl, fun W hW => ?_⟩) (by assumption) ?_
            · go_simp
            simp only [Act.put, List.setIfInBounds_toArray, List.set_cons_zero, List.set_cons_succ]
            refine wpAnyH_take (i := 20) (oi := ⟨some 43, _, _, _, _, some (18, false)⟩) (v := (.int .i64 (1 + (m : Int)))) rfl (by kernel_rfl) (by kernel_rfl) (by kernel_rfl) (fun _ _ _ h => h) (Or.inl ⟨by rfl, fun W hW => ?_⟩) (by assumption) ?_
            · (go_simp; exact IntWalk.i64_in _ (by omega))
            simp only [Act.put, List.setIfInBounds_toArray, List.set_cons_zero, List.set_cons_succ]
            refine wpAnyH_take (i := 22) (oi := ⟨some 45, _, _, _, _, some (18, false)⟩) (v := (.slice (some ⟨w.heap.size, 0, none⟩) 11 11)) rfl (by kernel_rfl) (by kernel_rfl) (by kernel_rfl) (fun _ _ _ h => h) (Or.inl ⟨by rfl, fun W hW => ?_⟩) (by assumption) ?_
            · go_simp
            simp only [Act.put, List.setIfInBounds_toArray, List.set_cons_zero, List.set_cons_succ]
            refine wpAnyH_take (i := 23) (oi := ⟨some 46, _, _, _, _, some (18, false)⟩) (v := (.int .i64 (k : Nat))) rfl (by kernel_rfl) (by kernel_rfl) (by kernel_rfl) (fun _ _ _ h => h) (Or.inl ⟨by rfl, fun W hW => ?_⟩) (by assumption) ?_
            · go_simp
            simp only [Act.put, List.setIfInBounds_toArray, List.set_cons_zero, List.set_cons_succ]
            refine wpAnyH_take (i := 24) (oi := ⟨some 47, _, _, _, _, some (18, false)⟩) (v := (.pointer (some ⟨w.heap.size, k, none⟩))) rfl (by kernel_rfl) (by kernel_rfl) (by kernel_rfl) (fun _ _ _ h => h) (Or.inl ⟨by rfl, fun W hW => ?_⟩) (by assumption) ?_
            · go_simp
            simp only [Act.put, List.setIfInBounds_toArray, List.set_cons_zero, List.set_cons_succ]
            refine wpAnyH_take (i := 25) (oi := ⟨some 48, _, _, _, _, some (18, false)⟩) (v := (.int .i64 x)) rfl (by kernel_rfl) (by kernel_rfl) (by kernel_rfl) (fun _ _ _ h => h) (Or.inl ⟨by rfl, fun W hW => ?_⟩) (by assumption) ?_
            · (have h := F1.out W hW; go_simp)
            simp only [Act.put, List.setIfInBounds_toArray, List.set_cons_zero, List.set_cons_succ]
            refine wpAnyH_take (i := 26) (oi := ⟨some 49, _, _, _, _, some (18, false)⟩) (v := (.slice (some ⟨w.heap.size, 0, none⟩) 11 11)) rfl (by kernel_rfl) (by kernel_rfl) (by kernel_rfl) (fun _ _ _ h => h) (Or.inl ⟨by rfl, fun W hW => ?_⟩) (by assumption) ?_
            · go_simp
            simp only [Act.put, List.setIfInBounds_toArray, List.set_cons_zero, List.set_cons_succ]
            refine wpAnyH_take (i := 27) (oi := ⟨some 50, _, _, _, _, some (18, false)⟩) (v := (.int .i64 (m : Nat))) rfl (by kernel_rfl) (by kernel_rfl) (by kernel_rfl) (fun _ _ _ h => h) (Or.inl ⟨by rfl, fun W hW => ?_⟩) (by assumption) ?_
            · go_simp
            simp only [Act.put, List.setIfInBounds_toArray, List.set_cons_zero, List.set_cons_succ]
            refine wpAnyH_take (i := 28) (oi := ⟨some 51, _, _, _, _, some (18, false)⟩) (v := (.pointer (some ⟨w.heap.size, m, none⟩))) rfl (by kernel_rfl) (by kernel_rfl) (by kernel_rfl) (fun _ _ _ h => h) (Or.inl ⟨by rfl, fun W hW => ?_⟩) (by assumption) ?_
            · go_simp
            simp only [Act.put, List.setIfInBounds_toArray, List.set_cons_zero, List.set_cons_succ]
            refine wpAnyH_take (i := 29) (oi := ⟨some 52, _, _, _, _, some (18, false)⟩) (v := (.int .i64 y)) rfl (by kernel_rfl) (by kernel_rfl) (by kernel_rfl) (fun _ _ _ h => h) (Or.inl ⟨by rfl, fun W hW => ?_⟩) (by assumption) ?_
            · (have h := F2.out W hW; go_simp)
            simp only [Act.put, List.setIfInBounds_toArray, List.set_cons_zero, List.set_cons_succ]
            refine wpAnyH_take (i := 32) (oi := ⟨some 55, _, _, _, _, some (18, false)⟩) (v := (.slice (some ⟨w.heap.size, 0, none⟩) 11 11)) rfl (by kernel_rfl) (by kernel_rfl) (by kernel_rfl) (fun _ _ _ h => h) (Or.inl ⟨by rfl, fun W hW => ?_⟩) (by assumption) ?_
            · go_simp
            simp only [Act.put, List.setIfInBounds_toArray, List.set_cons_zero, List.set_cons_succ]
            refine wpAnyH_take (i := 33) (oi := ⟨some 56, _, _, _, _, some (18, false)⟩) (v := (.int .i64 (m : Nat))) rfl (by kernel_rfl) (by kernel_rfl) (by kernel_rfl) (fun _ _ _ h => h) (Or.inl ⟨by rfl, fun W hW => ?_⟩) (by assumption) ?_
            · go_simp
            simp only [Act.put, List.setIfInBounds_toArray, List.set_cons_zero, List.set_cons_succ]
            refine wpAnyH_take (i := 34) (oi := ⟨some 57, _, _, _, _, some (18, false)⟩) (v := (.pointer (some ⟨w.heap.size, m, none⟩))) rfl (by kernel_rfl) (by kernel_rfl) (by kernel_rfl) (fun _ _ _ h => h) (Or.inl ⟨by rfl, fun W hW => ?_⟩) (by assumption) ?_
            · go_simp
            simp only [Act.put, List.setIfInBounds_toArray, List.set_cons_zero, List.set_cons_succ]
            refine wpAnyH_take (i := 35) (oi := ⟨some 58, _, _, _, _, some (18, false)⟩) (v := (.int .i64 y)) rfl (by kernel_rfl) (by kernel_rfl) (by kernel_rfl) (fun _ _ _ h => h) (Or.inl ⟨by rfl, fun W hW => ?_⟩) (by assumption) ?_
            · (have h := F2.out W hW; go_simp)
            simp only [Act.put, List.setIfInBounds_toArray, List.set_cons_zero, List.set_cons_succ]
            refine @share _ ?shP2 (fun hG => ?shF2) ?shG2
            case shF2 =>
              have HGH := Lib.hid hG; clear hG
              refine wpAnyH_ready (rs := [21, 30, 31, 36]) (by kernel_rfl) (by simp) (AllReadyH.cons rfl (fun KK hKK => ?_) (AllReadyH.cons rfl (fun KK hKK => ?_) (AllReadyH.cons rfl (fun KK hKK => ?_) (AllReadyH.cons rfl (fun KK hKK => ?_) AllReadyH.nil))))
              · go_simp
                refine hKK.out _ _ ((hHeld).alloc (Below.size hHeld) _) (fun hHeld => ?_)
                clear hKK KK
                try simp only [Act.put, List.setIfInBounds_toArray, List.set_cons_zero, List.set_cons_succ]
                refine wpAnyH_ready (rs := [30, 31, 36]) (by kernel_rfl) (by simp) (AllReadyH.cons rfl (fun KK hKK => ?_) (AllReadyH.cons rfl (fun KK hKK => ?_) (AllReadyH.cons rfl (fun KK hKK => ?_) AllReadyH.nil)))
                · go_simp
                  refine hKK.out _ _ ((hHeld).alloc (Below.size hHeld) _) (fun hHeld => ?_)
                  clear hKK KK
                  try simp only [Act.put, List.setIfInBounds_toArray, List.set_cons_zero, List.set_cons_succ]
                  refine wpAnyH_ready (rs := [31, 36]) (by kernel_rfl) (by simp) (AllReadyH.cons rfl (fun KK hKK => ?_) (AllReadyH.cons rfl (fun KK hKK => ?_) AllReadyH.nil))
                  · go_simp
                    refine hKK.out _ _ ((hHeld).alloc (Below.size hHeld) _) (fun hHeld => ?_)
                    clear hKK KK
                    try simp only [Act.put, List.setIfInBounds_toArray, List.set_cons_zero, List.set_cons_succ]
                    refine wpAnyH_ready (rs := [36]) (by kernel_rfl) (by simp) (AllReadyH.cons rfl (fun KK hKK => ?_) AllReadyH.nil)
                    go_simp
                    refine hKK.out _ _ ((hHeld).alloc (Below.size hHeld) _) (fun hHeld => ?_)
                    clear hKK KK
                    try simp only [Act.put, List.setIfInBounds_toArray, List.set_cons_zero, List.set_cons_succ]
                    have HALL := Lib.hid (show _ ∧ _ ∧ _ ∧ _ ∧ _ from ⟨hi_lit2 _ _ [2, 3] 2 (by simp) (by simp) (fourB V1 (.cells #[.int .i64 2, .int .i64 3] 3) (.cells #[.int .i64 x, .int .i64 y] 3) (.cells #[.int .i64 1, .int .i64 2] 3) (.cells #[.int .i64 9, .int .i64 y, .int .i64 1] 3)).1, hi_lit2 _ _ [x, y] 2 (by simp) (by simp) (fourB V1 (.cells #[.int .i64 2, .int .i64 3] 3) (.cells #[.int .i64 x, .int .i64 y] 3) (.cells #[.int .i64 1, .int .i64 2] 3) (.cells #[.int .i64 9, .int .i64 y, .int .i64 1] 3)).2.1, hi_lit2 _ _ [1, 2] 2 (by simp) (by simp) (fourB V1 (.cells #[.int .i64 2, .int .i64 3] 3) (.cells #[.int .i64 x, .int .i64 y] 3) (.cells #[.int .i64 1, .int .i64 2] 3) (.cells #[.int .i64 9, .int .i64 y, .int .i64 1] 3)).2.2.1, hi_lit2 _ _ [9, y, 1] 3 (by simp) (by simp) (fourB V1 (.cells #[.int .i64 2, .int .i64 3] 3) (.cells #[.int .i64 x, .int .i64 y] 3) (.cells #[.int .i64 1, .int .i64 2] 3) (.cells #[.int .i64 9, .int .i64 y, .int .i64 1] 3)).2.2.2.1, HS.out.trans ((fourB V1 (.cells #[.int .i64 2, .int .i64 3] 3) (.cells #[.int .i64 x, .int .i64 y] 3) (.cells #[.int .i64 1, .int .i64 2] 3) (.cells #[.int .i64 9, .int .i64 y, .int .i64 1] 3)).2.2.2.2.mono HS.out.size)⟩)
                    generalize ((((V1.alloc (.cells #[.int .i64 2, .int .i64 3] 3)).alloc (.cells #[.int .i64 x, .int .i64 y] 3)).alloc (.cells #[.int .i64 1, .int .i64 2] 3)).alloc (.cells #[.int .i64 9, .int .i64 y, .int .i64 1] 3)) = W2 at HALL ⊢
                    generalize V1.heap.size + 1 + 1 + 1 = x36_2 at HALL ⊢
                    generalize V1.heap.size + 1 + 1 = x31_2 at HALL ⊢
                    generalize V1.heap.size + 1 = x30_2 at HALL ⊢
                    generalize V1.heap.size = x21_2 at HALL ⊢
                    revert x21_2 x30_2 x31_2 x36_2 W2
                    exact HGH.out
                  · go_simp
                    refine hKK.out _ _ ((hHeld).alloc (Below.size hHeld) _) (fun hHeld => ?_)
                    clear hKK KK
                    try simp only [Act.put, List.setIfInBounds_toArray, List.set_cons_zero, List.set_cons_succ]
                    refine wpAnyH_ready (rs := [31]) (by kernel_rfl) (by simp) (AllReadyH.cons rfl (fun KK hKK => ?_) AllReadyH.nil)
                    go_simp
                    refine hKK.out _ _ ((hHeld).alloc (Below.size hHeld) _) (fun hHeld => ?_)
                    clear hKK KK
                    try simp only [Act.put, List.setIfInBounds_toArray, List.set_cons_zero, List.set_cons_succ]
                    exact HGH.out _ _ _ _ _ (Lib.hid ⟨hi_lit2 _ _ [2, 3] 2 (by simp) (by simp) (fourB V1 (.cells #[.int .i64 2, .int .i64 3] 3) (.cells #[.int .i64 x, .int .i64 y] 3) (.cells #[.int .i64 9, .int .i64 y, .int .i64 1] 3) (.cells #[.int .i64 1, .int .i64 2] 3)).1, hi_lit2 _ _ [x, y] 2 (by simp) (by simp) (fourB V1 (.cells #[.int .i64 2, .int .i64 3] 3) (.cells #[.int .i64 x, .int .i64 y] 3) (.cells #[.int .i64 9, .int .i64 y, .int .i64 1] 3) (.cells #[.int .i64 1, .int .i64 2] 3)).2.1, hi_lit2 _ _ [1, 2] 2 (by simp) (by simp) (fourB V1 (.cells #[.int .i64 2, .int .i64 3] 3) (.cells #[.int .i64 x, .int .i64 y] 3) (.cells #[.int .i64 9, .int .i64 y, .int .i64 1] 3) (.cells #[.int .i64 1, .int .i64 2] 3)).2.2.2.1, hi_lit2 _ _ [9, y, 1] 3 (by simp) (by simp) (fourB V1 (.cells #[.int .i64 2, .int .i64 3] 3) (.cells #[.int .i64 x, .int .i64 y] 3) (.cells #[.int .i64 9, .int .i64 y, .int .i64 1] 3) (.cells #[.int .i64 1, .int .i64 2] 3)).2.2.1, HS.out.trans ((fourB V1 (.cells #[.int .i64 2, .int .i64 3] 3) (.cells #[.int .i64 x, .int .i64 y] 3) (.cells #[.int .i64 9, .int .i64 y, .int .i64 1] 3) (.cells #[.int .i64 1, .int .i64 2] 3)).2.2.2.2.mono HS.out.size)⟩)
                · go_simp
                  refine hKK.out _ _ ((hHeld).alloc (Below.size hHeld) _) (fun hHeld => ?_)
                  clear hKK KK
                  try simp only [Act.put, List.setIfInBounds_toArray, List.set_cons_zero, List.set_cons_succ]
                  refine wpAnyH_ready (rs := [30, 36]) (by kernel_rfl) (by simp) (AllReadyH.cons rfl (fun KK hKK => ?_) (AllReadyH.cons rfl (fun KK hKK => ?_) AllReadyH.nil))
                  · go_simp
                    refine hKK.out _ _ ((hHeld).alloc (Below.size hHeld) _) (fun hHeld => ?_)
                    clear hKK KK
                    try simp only [Act.put, List.setIfInBounds_toArray, List.set_cons_zero, List.set_cons_succ]
                    refine wpAnyH_ready (rs := [36]) (by kernel_rfl) (by simp) (AllReadyH.cons rfl (fun KK hKK => ?_) AllReadyH.nil)
                    go_simp
                    refine hKK.out _ _ ((hHeld).alloc (Below.size hHeld) _) (fun hHeld => ?_)
                    clear hKK KK
                    try simp only [Act.put, List.setIfInBounds_toArray, List.set_cons_zero, List.set_cons_succ]
                    exact HGH.out _ _ _ _ _ (Lib.hid ⟨hi_lit2 _ _ [2, 3] 2 (by simp) (by simp) (fourB V1 (.cells #[.int .i64 2, .int .i64 3] 3) (.cells #[.int .i64 1, .int .i64 2] 3) (.cells #[.int .i64 x, .int .i64 y] 3) (.cells #[.int .i64 9, .int .i64 y, .int .i64 1] 3)).1, hi_lit2 _ _ [x, y] 2 (by simp) (by simp) (fourB V1 (.cells #[.int .i64 2, .int .i64 3] 3) (.cells #[.int .i64 1, .int .i64 2] 3) (.cells #[.int .i64 x, .int .i64 y] 3) (.cells #[.int .i64 9, .int .i64 y, .int .i64 1] 3)).2.2.1, hi_lit2 _ _ [1, 2] 2 (by simp) (by simp) (fourB V1 (.cells #[.int .i64 2, .int .i64 3] 3) (.cells #[.int .i64 1, .int .i64 2] 3) (.cells #[.int .i64 x, .int .i64 y] 3) (.cells #[.int .i64 9, .int .i64 y, .int .i64 1] 3)).2.1, hi_lit2 _ _ [9, y, 1] 3 (by simp) (by simp) (fourB V1 (.cells #[.int .i64 2, .int .i64 3] 3) (.cells #[.int .i64 1, .int .i64 2] 3) (.cells #[.int .i64 x, .int .i64 y] 3) (.cells #[.int .i64 9, .int .i64 y, .int .i64 1] 3)).2.2.2.1, HS.out.trans ((fourB V1 (.cells #[.int .i64 2, .int .i64 3] 3) (.cells #[.int .i64 1, .int .i64 2] 3) (.cells #[.int .i64 x, .int .i64 y] 3) (.cells #[.int .i64 9, .int .i64 y, .int .i64 1] 3)).2.2.2.2.mono HS.out.size)⟩)
                  · go_simp
                    refine hKK.out _ _ ((hHeld).alloc (Below.size hHeld) _) (fun hHeld => ?_)
                    clear hKK KK
                    try simp only [Act.put, List.setIfInBounds_toArray, List.set_cons_zero, List.set_cons_succ]
                    refine wpAnyH_ready (rs := [30]) (by kernel_rfl) (by simp) (AllReadyH.cons rfl (fun KK hKK => ?_) AllReadyH.nil)
                    go_simp
                    refine hKK.out _ _ ((hHeld).alloc (Below.size hHeld) _) (fun hHeld => ?_)
                    clear hKK KK
                    try simp only [Act.put, List.setIfInBounds_toArray, List.set_cons_zero, List.set_cons_succ]
                    exact HGH.out _ _ _ _ _ (Lib.hid ⟨hi_lit2 _ _ [2, 3] 2 (by simp) (by simp) (fourB V1 (.cells #[.int .i64 2, .int .i64 3] 3) (.cells #[.int .i64 1, .int .i64 2] 3) (.cells #[.int .i64 9, .int .i64 y, .int .i64 1] 3) (.cells #[.int .i64 x, .int .i64 y] 3)).1, hi_lit2 _ _ [x, y] 2 (by simp) (by simp) (fourB V1 (.cells #[.int .i64 2, .int .i64 3] 3) (.cells #[.int .i64 1, .int .i64 2] 3) (.cells #[.int .i64 9, .int .i64 y, .int .i64 1] 3) (.cells #[.int .i64 x, .int .i64 y] 3)).2.2.2.1, hi_lit2 _ _ [1, 2] 2 (by simp) (by simp) (fourB V1 (.cells #[.int .i64 2, .int .i64 3] 3) (.cells #[.int .i64 1, .int .i64 2] 3) (.cells #[.int .i64 9, .int .i64 y, .int .i64 1] 3) (.cells #[.int .i64 x, .int .i64 y] 3)).2.1, hi_lit2 _ _ [9, y, 1] 3 (by simp) (by simp) (fourB V1 (.cells #[.int .i64 2, .int .i64 3] 3) (.cells #[.int .i64 1, .int .i64 2] 3) (.cells #[.int .i64 9, .int .i64 y, .int .i64 1] 3) (.cells #[.int .i64 x, .int .i64 y] 3)).2.2.1, HS.out.trans ((fourB V1 (.cells #[.int .i64 2, .int .i64 3] 3) (.cells #[.int .i64 1, .int .i64 2] 3) (.cells #[.int .i64 9, .int .i64 y, .int .i64 1] 3) (.cells #[.int .i64 x, .int .i64 y] 3)).2.2.2.2.mono HS.out.size)⟩)
                · go_simp
                  refine hKK.out _ _ ((hHeld).alloc (Below.size hHeld) _) (fun hHeld => ?_)
                  clear hKK KK
                  try simp only [Act.put, List.setIfInBounds_toArray, List.set_cons_zero, List.set_cons_succ]
                  refine wpAnyH_ready (rs := [30, 31]) (by kernel_rfl) (by simp) (AllReadyH.cons rfl (fun KK hKK => ?_) (AllReadyH.cons rfl (fun KK hKK => ?_) AllReadyH.nil))
                  · go_simp
                    refine hKK.out _ _ ((hHeld).alloc (Below.size hHeld) _) (fun hHeld => ?_)
                    clear hKK KK
                    try simp only [Act.put, List.setIfInBounds_toArray, List.set_cons_zero, List.set_cons_succ]
                    refine wpAnyH_ready (rs := [31]) (by kernel_rfl) (by simp) (AllReadyH.cons rfl (fun KK hKK => ?_) AllReadyH.nil)
                    go_simp
                    refine hKK.out _ _ ((hHeld).alloc (Below.size hHeld) _) (fun hHeld => ?_)
                    clear hKK KK
                    try simp only [Act.put, List.setIfInBounds_toArray, List.set_cons_zero, List.set_cons_succ]
                    exact HGH.out _ _ _ _ _ (Lib.hid ⟨hi_lit2 _ _ [2, 3] 2 (by simp) (by simp) (fourB V1 (.cells #[.int .i64 2, .int .i64 3] 3) (.cells #[.int .i64 9, .int .i64 y, .int .i64 1] 3) (.cells #[.int .i64 x, .int .i64 y] 3) (.cells #[.int .i64 1, .int .i64 2] 3)).1, hi_lit2 _ _ [x, y] 2 (by simp) (by simp) (fourB V1 (.cells #[.int .i64 2, .int .i64 3] 3) (.cells #[.int .i64 9, .int .i64 y, .int .i64 1] 3) (.cells #[.int .i64 x, .int .i64 y] 3) (.cells #[.int .i64 1, .int .i64 2] 3)).2.2.1, hi_lit2 _ _ [1, 2] 2 (by simp) (by simp) (fourB V1 (.cells #[.int .i64 2, .int .i64 3] 3) (.cells #[.int .i64 9, .int .i64 y, .int .i64 1] 3) (.cells #[.int .i64 x, .int .i64 y] 3) (.cells #[.int .i64 1, .int .i64 2] 3)).2.2.2.1, hi_lit2 _ _ [9, y, 1] 3 (by simp) (by simp) (fourB V1 (.cells #[.int .i64 2, .int .i64 3] 3) (.cells #[.int .i64 9, .int .i64 y, .int .i64 1] 3) (.cells #[.int .i64 x, .int .i64 y] 3) (.cells #[.int .i64 1, .int .i64 2] 3)).2.1, HS.out.trans ((fourB V1 (.cells #[.int .i64 2, .int .i64 3] 3) (.cells #[.int .i64 9, .int .i64 y, .int .i64 1] 3) (.cells #[.int .i64 x, .int .i64 y] 3) (.cells #[.int .i64 1, .int .i64 2] 3)).2.2.2.2.mono HS.out.size)⟩)
                  · go_simp
                    refine hKK.out _ _ ((hHeld).alloc (Below.size hHeld) _) (fun hHeld => ?_)
                    clear hKK KK
                    try simp only [Act.put, List.setIfInBounds_toArray, List.set_cons_zero, List.set_cons_succ]
                    refine wpAnyH_ready (rs := [30]) (by kernel_rfl) (by simp) (AllReadyH.cons rfl (fun KK hKK => ?_) AllReadyH.nil)
                    go_simp
                    refine hKK.out _ _ ((hHeld).alloc (Below.size hHeld) _) (fun hHeld => ?_)
                    clear hKK KK
                    try simp only [Act.put, List.setIfInBounds_toArray, List.set_cons_zero, List.set_cons_succ]
                    exact HGH.out _ _ _ _ _ (Lib.hid ⟨hi_lit2 _ _ [2, 3] 2 (by simp) (by simp) (fourB V1 (.cells #[.int .i64 2, .int .i64 3] 3) (.cells #[.int .i64 9, .int .i64 y, .int .i64 1] 3) (.cells #[.int .i64 1, .int .i64 2] 3) (.cells #[.int .i64 x, .int .i64 y] 3)).1, hi_lit2 _ _ [x, y] 2 (by simp) (by simp) (fourB V1 (.cells #[.int .i64 2, .int .i64 3] 3) (.cells #[.int .i64 9, .int .i64 y, .int .i64 1] 3) (.cells #[.int .i64 1, .int .i64 2] 3) (.cells #[.int .i64 x, .int .i64 y] 3)).2.2.2.1, hi_lit2 _ _ [1, 2] 2 (by simp) (by simp) (fourB V1 (.cells #[.int .i64 2, .int .i64 3] 3) (.cells #[.int .i64 9, .int .i64 y, .int .i64 1] 3) (.cells #[.int .i64 1, .int .i64 2] 3) (.cells #[.int .i64 x, .int .i64 y] 3)).2.2.1, hi_lit2 _ _ [9, y, 1] 3 (by simp) (by simp) (fourB V1 (.cells #[.int .i64 2, .int .i64 3] 3) (.cells #[.int .i64 9, .int .i64 y, .int .i64 1] 3) (.cells #[.int .i64 1, .int .i64 2] 3) (.cells #[.int .i64 x, .int .i64 y] 3)).2.1, HS.out.trans ((fourB V1 (.cells #[.int .i64 2, .int .i64 3] 3) (.cells #[.int .i64 9, .int .i64 y, .int .i64 1] 3) (.cells #[.int .i64 1, .int .i64 2] 3) (.cells #[.int .i64 x, .int .i64 y] 3)).2.2.2.2.mono HS.out.size)⟩)
              · go_simp
                refine hKK.out _ _ ((hHeld).alloc (Below.size hHeld) _) (fun hHeld => ?_)
                clear hKK KK
                try simp only [Act.put, List.setIfInBounds_toArray, List.set_cons_zero, List.set_cons_succ]
                refine wpAnyH_ready (rs := [21, 31, 36]) (by kernel_rfl) (by simp) (AllReadyH.cons rfl (fun KK hKK => ?_) (AllReadyH.cons rfl (fun KK hKK => ?_) (AllReadyH.cons rfl (fun KK hKK => ?_) AllReadyH.nil)))
                · go_simp
                  refine hKK.out _ _ ((hHeld).alloc (Below.size hHeld) _) (fun hHeld => ?_)
                  clear hKK KK
                  try simp only [Act.put, List.setIfInBounds_toArray, List.set_cons_zero, List.set_cons_succ]
                  refine wpAnyH_ready (rs := [31, 36]) (by kernel_rfl) (by simp) (AllReadyH.cons rfl (fun KK hKK => ?_) (AllReadyH.cons rfl (fun KK hKK => ?_) AllReadyH.nil))
                  · go_simp
                    refine hKK.out _ _ ((hHeld).alloc (Below.size hHeld) _) (fun hHeld => ?_)
                    clear hKK KK
                    try simp only [Act.put, List.setIfInBounds_toArray, List.set_cons_zero, List.set_cons_succ]
                    refine wpAnyH_ready (rs := [36]) (by kernel_rfl) (by simp) (AllReadyH.cons rfl (fun KK hKK => ?_) AllReadyH.nil)
                    go_simp
                    refine hKK.out _ _ ((hHeld).alloc (Below.size hHeld) _) (fun hHeld => ?_)
                    clear hKK KK
                    try simp only [Act.put, List.setIfInBounds_toArray, List.set_cons_zero, List.set_cons_succ]
                    exact HGH.out _ _ _ _ _ (Lib.hid ⟨hi_lit2 _ _ [2, 3] 2 (by simp) (by simp) (fourB V1 (.cells #[.int .i64 x, .int .i64 y] 3) (.cells #[.int .i64 2, .int .i64 3] 3) (.cells #[.int .i64 1, .int .i64 2] 3) (.cells #[.int .i64 9, .int .i64 y, .int .i64 1] 3)).2.1, hi_lit2 _ _ [x, y] 2 (by simp) (by simp) (fourB V1 (.cells #[.int .i64 x, .int .i64 y] 3) (.cells #[.int .i64 2, .int .i64 3] 3) (.cells #[.int .i64 1, .int .i64 2] 3) (.cells #[.int .i64 9, .int .i64 y, .int .i64 1] 3)).1, hi_lit2 _ _ [1, 2] 2 (by simp) (by simp) (fourB V1 (.cells #[.int .i64 x, .int .i64 y] 3) (.cells #[.int .i64 2, .int .i64 3] 3) (.cells #[.int .i64 1, .int .i64 2] 3) (.cells #[.int .i64 9, .int .i64 y, .int .i64 1] 3)).2.2.1, hi_lit2 _ _ [9, y, 1] 3 (by simp) (by simp) (fourB V1 (.cells #[.int .i64 x, .int .i64 y] 3) (.cells #[.int .i64 2, .int .i64 3] 3) (.cells #[.int .i64 1, .int .i64 2] 3) (.cells #[.int .i64 9, .int .i64 y, .int .i64 1] 3)).2.2.2.1, HS.out.trans ((fourB V1 (.cells #[.int .i64 x, .int .i64 y] 3) (.cells #[.int .i64 2, .int .i64 3] 3) (.cells #[.int .i64 1, .int .i64 2] 3) (.cells #[.int .i64 9, .int .i64 y, .int .i64 1] 3)).2.2.2.2.mono HS.out.size)⟩)
                  · go_simp
                    refine hKK.out _ _ ((hHeld).alloc (Below.size hHeld) _) (fun hHeld => ?_)
                    clear hKK KK
                    try simp only [Act.put, List.setIfInBounds_toArray, List.set_cons_zero, List.set_cons_succ]
                    refine wpAnyH_ready (rs := [31]) (by kernel_rfl) (by simp) (AllReadyH.cons rfl (fun KK hKK => ?_) AllReadyH.nil)
                    go_simp
                    refine hKK.out _ _ ((hHeld).alloc (Below.size hHeld) _) (fun hHeld => ?_)
                    clear hKK KK
                    try simp only [Act.put, List.setIfInBounds_toArray, List.set_cons_zero, List.set_cons_succ]
                    exact HGH.out _ _ _ _ _ (Lib.hid ⟨hi_lit2 _ _ [2, 3] 2 (by simp) (by simp) (fourB V1 (.cells #[.int .i64 x, .int .i64 y] 3) (.cells #[.int .i64 2, .int .i64 3] 3) (.cells #[.int .i64 9, .int .i64 y, .int .i64 1] 3) (.cells #[.int .i64 1, .int .i64 2] 3)).2.1, hi_lit2 _ _ [x, y] 2 (by simp) (by simp) (fourB V1 (.cells #[.int .i64 x, .int .i64 y] 3) (.cells #[.int .i64 2, .int .i64 3] 3) (.cells #[.int .i64 9, .int .i64 y, .int .i64 1] 3) (.cells #[.int .i64 1, .int .i64 2] 3)).1, hi_lit2 _ _ [1, 2] 2 (by simp) (by simp) (fourB V1 (.cells #[.int .i64 x, .int .i64 y] 3) (.cells #[.int .i64 2, .int .i64 3] 3) (.cells #[.int .i64 9, .int .i64 y, .int .i64 1] 3) (.cells #[.int .i64 1, .int .i64 2] 3)).2.2.2.1, hi_lit2 _ _ [9, y, 1] 3 (by simp) (by simp) (fourB V1 (.cells #[.int .i64 x, .int .i64 y] 3) (.cells #[.int .i64 2, .int .i64 3] 3) (.cells #[.int .i64 9, .int .i64 y, .int .i64 1] 3) (.cells #[.int .i64 1, .int .i64 2] 3)).2.2.1, HS.out.trans ((fourB V1 (.cells #[.int .i64 x, .int .i64 y] 3) (.cells #[.int .i64 2, .int .i64 3] 3) (.cells #[.int .i64 9, .int .i64 y, .int .i64 1] 3) (.cells #[.int .i64 1, .int .i64 2] 3)).2.2.2.2.mono HS.out.size)⟩)
                · go_simp
                  refine hKK.out _ _ ((hHeld).alloc (Below.size hHeld) _) (fun hHeld => ?_)
                  clear hKK KK
                  try simp only [Act.put, List.setIfInBounds_toArray, List.set_cons_zero, List.set_cons_succ]
                  refine wpAnyH_ready (rs := [21, 36]) (by kernel_rfl) (by simp) (AllReadyH.cons rfl (fun KK hKK => ?_) (AllReadyH.cons rfl (fun KK hKK => ?_) AllReadyH.nil))
                  · go_simp
                    refine hKK.out _ _ ((hHeld).alloc (Below.size hHeld) _) (fun hHeld => ?_)
                    clear hKK KK
                    try simp only [Act.put, List.setIfInBounds_toArray, List.set_cons_zero, List.set_cons_succ]
                    refine wpAnyH_ready (rs := [36]) (by kernel_rfl) (by simp) (AllReadyH.cons rfl (fun KK hKK => ?_) AllReadyH.nil)
                    go_simp
                    refine hKK.out _ _ ((hHeld).alloc (Below.size hHeld) _) (fun hHeld => ?_)
                    clear hKK KK
                    try simp only [Act.put, List.setIfInBounds_toArray, List.set_cons_zero, List.set_cons_succ]
                    exact HGH.out _ _ _ _ _ (Lib.hid ⟨hi_lit2 _ _ [2, 3] 2 (by simp) (by simp) (fourB V1 (.cells #[.int .i64 x, .int .i64 y] 3) (.cells #[.int .i64 1, .int .i64 2] 3) (.cells #[.int .i64 2, .int .i64 3] 3) (.cells #[.int .i64 9, .int .i64 y, .int .i64 1] 3)).2.2.1, hi_lit2 _ _ [x, y] 2 (by simp) (by simp) (fourB V1 (.cells #[.int .i64 x, .int .i64 y] 3) (.cells #[.int .i64 1, .int .i64 2] 3) (.cells #[.int .i64 2, .int .i64 3] 3) (.cells #[.int .i64 9, .int .i64 y, .int .i64 1] 3)).1, hi_lit2 _ _ [1, 2] 2 (by simp) (by simp) (fourB V1 (.cells #[.int .i64 x, .int .i64 y] 3) (.cells #[.int .i64 1, .int .i64 2] 3) (.cells #[.int .i64 2, .int .i64 3] 3) (.cells #[.int .i64 9, .int .i64 y, .int .i64 1] 3)).2.1, hi_lit2 _ _ [9, y, 1] 3 (by simp) (by simp) (fourB V1 (.cells #[.int .i64 x, .int .i64 y] 3) (.cells #[.int .i64 1, .int .i64 2] 3) (.cells #[.int .i64 2, .int .i64 3] 3) (.cells #[.int .i64 9, .int .i64 y, .int .i64 1] 3)).2.2.2.1, HS.out.trans ((fourB V1 (.cells #[.int .i64 x, .int .i64 y] 3) (.cells #[.int .i64 1, .int .i64 2] 3) (.cells #[.int .i64 2, .int .i64 3] 3) (.cells #[.int .i64 9, .int .i64 y, .int .i64 1] 3)).2.2.2.2.mono HS.out.size)⟩)
                  · go_simp
                    refine hKK.out _ _ ((hHeld).alloc (Below.size hHeld) _) (fun hHeld => ?_)
                    clear hKK KK
                    try simp only [Act.put, List.setIfInBounds_toArray, List.set_cons_zero, List.set_cons_succ]
                    refine wpAnyH_ready (rs := [21]) (by kernel_rfl) (by simp) (AllReadyH.cons rfl (fun KK hKK => ?_) AllReadyH.nil)
                    go_simp
                    refine hKK.out _ _ ((hHeld).alloc (Below.size hHeld) _) (fun hHeld => ?_)
                    clear hKK KK
                    try simp only [Act.put, List.setIfInBounds_toArray, List.set_cons_zero, List.set_cons_succ]
                    exact HGH.out _ _ _ _ _ (Lib.hid ⟨hi_lit2 _ _ [2, 3] 2 (by simp) (by simp) (fourB V1 (.cells #[.int .i64 x, .int .i64 y] 3) (.cells #[.int .i64 1, .int .i64 2] 3) (.cells #[.int .i64 9, .int .i64 y, .int .i64 1] 3) (.cells #[.int .i64 2, .int .i64 3] 3)).2.2.2.1, hi_lit2 _ _ [x, y] 2 (by simp) (by simp) (fourB V1 (.cells #[.int .i64 x, .int .i64 y] 3) (.cells #[.int .i64 1, .int .i64 2] 3) (.cells #[.int .i64 9, .int .i64 y, .int .i64 1] 3) (.cells #[.int .i64 2, .int .i64 3] 3)).1, hi_lit2 _ _ [1, 2] 2 (by simp) (by simp) (fourB V1 (.cells #[.int .i64 x, .int .i64 y] 3) (.cells #[.int .i64 1, .int .i64 2] 3) (.cells #[.int .i64 9, .int .i64 y, .int .i64 1] 3) (.cells #[.int .i64 2, .int .i64 3] 3)).2.1, hi_lit2 _ _ [9, y, 1] 3 (by simp) (by simp) (fourB V1 (.cells #[.int .i64 x, .int .i64 y] 3) (.cells #[.int .i64 1, .int .i64 2] 3) (.cells #[.int .i64 9, .int .i64 y, .int .i64 1] 3) (.cells #[.int .i64 2, .int .i64 3] 3)).2.2.1, HS.out.trans ((fourB V1 (.cells #[.int .i64 x, .int .i64 y] 3) (.cells #[.int .i64 1, .int .i64 2] 3) (.cells #[.int .i64 9, .int .i64 y, .int .i64 1] 3) (.cells #[.int .i64 2, .int .i64 3] 3)).2.2.2.2.mono HS.out.size)⟩)
                · go_simp
                  refine hKK.out _ _ ((hHeld).alloc (Below.size hHeld) _) (fun hHeld => ?_)
                  clear hKK KK
                  try simp only [Act.put, List.setIfInBounds_toArray, List.set_cons_zero, List.set_cons_succ]
                  refine wpAnyH_ready (rs := [21, 31]) (by kernel_rfl) (by simp) (AllReadyH.cons rfl (fun KK hKK => ?_) (AllReadyH.cons rfl (fun KK hKK => ?_) AllReadyH.nil))
                  · go_simp
                    refine hKK.out _ _ ((hHeld).alloc (Below.size hHeld) _) (fun hHeld => ?_)
                    clear hKK KK
                    try simp only [Act.put, List.setIfInBounds_toArray, List.set_cons_zero, List.set_cons_succ]
                    refine wpAnyH_ready (rs := [31]) (by kernel_rfl) (by simp) (AllReadyH.cons rfl (fun KK hKK => ?_) AllReadyH.nil)
                    go_simp
                    refine hKK.out _ _ ((hHeld).alloc (Below.size hHeld) _) (fun hHeld => ?_)
                    clear hKK KK
                    try simp only [Act.put, List.setIfInBounds_toArray, List.set_cons_zero, List.set_cons_succ]
                    exact HGH.out _ _ _ _ _ (Lib.hid ⟨hi_lit2 _ _ [2, 3] 2 (by simp) (by simp) (fourB V1 (.cells #[.int .i64 x, .int .i64 y] 3) (.cells #[.int .i64 9, .int .i64 y, .int .i64 1] 3) (.cells #[.int .i64 2, .int .i64 3] 3) (.cells #[.int .i64 1, .int .i64 2] 3)).2.2.1, hi_lit2 _ _ [x, y] 2 (by simp) (by simp) (fourB V1 (.cells #[.int .i64 x, .int .i64 y] 3) (.cells #[.int .i64 9, .int .i64 y, .int .i64 1] 3) (.cells #[.int .i64 2, .int .i64 3] 3) (.cells #[.int .i64 1, .int .i64 2] 3)).1, hi_lit2 _ _ [1, 2] 2 (by simp) (by simp) (fourB V1 (.cells #[.int .i64 x, .int .i64 y] 3) (.cells #[.int .i64 9, .int .i64 y, .int .i64 1] 3) (.cells #[.int .i64 2, .int .i64 3] 3) (.cells #[.int .i64 1, .int .i64 2] 3)).2.2.2.1, hi_lit2 _ _ [9, y, 1] 3 (by simp) (by simp) (fourB V1 (.cells #[.int .i64 x, .int .i64 y] 3) (.cells #[.int .i64 9, .int .i64 y, .int .i64 1] 3) (.cells #[.int .i64 2, .int .i64 3] 3) (.cells #[.int .i64 1, .int .i64 2] 3)).2.1, HS.out.trans ((fourB V1 (.cells #[.int .i64 x, .int .i64 y] 3) (.cells #[.int .i64 9, .int .i64 y, .int .i64 1] 3) (.cells #[.int .i64 2, .int .i64 3] 3) (.cells #[.int .i64 1, .int .i64 2] 3)).2.2.2.2.mono HS.out.size)⟩)
                  · go_simp
                    refine hKK.out _ _ ((hHeld).alloc (Below.size hHeld) _) (fun hHeld => ?_)
                    clear hKK KK
                    try simp only [Act.put, List.setIfInBounds_toArray, List.set_cons_zero, List.set_cons_succ]
                    refine wpAnyH_ready (rs := [21]) (by kernel_rfl) (by simp) (AllReadyH.cons rfl (fun KK hKK => ?_) AllReadyH.nil)
                    go_simp
                    refine hKK.out _ _ ((hHeld).alloc (Below.size hHeld) _) (fun hHeld => ?_)
                    clear hKK KK
                    try simp only [Act.put, List.setIfInBounds_toArray, List.set_cons_zero, List.set_cons_succ]
                    exact HGH.out _ _ _ _ _ (Lib.hid ⟨hi_lit2 _ _ [2, 3] 2 (by simp) (by simp) (fourB V1 (.cells #[.int .i64 x, .int .i64 y] 3) (.cells #[.int .i64 9, .int .i64 y, .int .i64 1] 3) (.cells #[.int .i64 1, .int .i64 2] 3) (.cells #[.int .i64 2, .int .i64 3] 3)).2.2.2.1, hi_lit2 _ _ [x, y] 2 (by simp) (by simp) (fourB V1 (.cells #[.int .i64 x, .int .i64 y] 3) (.cells #[.int .i64 9, .int .i64 y, .int .i64 1] 3) (.cells #[.int .i64 1, .int .i64 2] 3) (.cells #[.int .i64 2, .int .i64 3] 3)).1, hi_lit2 _ _ [1, 2] 2 (by simp) (by simp) (fourB V1 (.cells #[.int .i64 x, .int .i64 y] 3) (.cells #[.int .i64 9, .int .i64 y, .int .i64 1] 3) (.cells #[.int .i64 1, .int .i64 2] 3) (.cells #[.int .i64 2, .int .i64 3] 3)).2.2.1, hi_lit2 _ _ [9, y, 1] 3 (by simp) (by simp) (fourB V1 (.cells #[.int .i64 x, .int .i64 y] 3) (.cells #[.int .i64 9, .int .i64 y, .int .i64 1] 3) (.cells #[.int .i64 1, .int .i64 2] 3) (.cells #[.int .i64 2, .int .i64 3] 3)).2.1, HS.out.trans ((fourB V1 (.cells #[.int .i64 x, .int .i64 y] 3) (.cells #[.int .i64 9, .int .i64 y, .int .i64 1] 3) (.cells #[.int .i64 1, .int .i64 2] 3) (.cells #[.int .i64 2, .int .i64 3] 3)).2.2.2.2.mono HS.out.size)⟩)
              · go_simp
                refine hKK.out _ _ ((hHeld).alloc (Below.size hHeld) _) (fun hHeld => ?_)
                clear hKK KK
                try simp only [Act.put, List.setIfInBounds_toArray, List.set_cons_zero, List.set_cons_succ]
                refine wpAnyH_ready (rs := [21, 30, 36]) (by kernel_rfl) (by simp) (AllReadyH.cons rfl (fun KK hKK => ?_) (AllReadyH.cons rfl (fun KK hKK => ?_) (AllReadyH.cons rfl (fun KK hKK => ?_) AllReadyH.nil)))
                · go_simp
                  refine hKK.out _ _ ((hHeld).alloc (Below.size hHeld) _) (fun hHeld => ?_)
                  clear hKK KK
                  try simp only [Act.put, List.setIfInBounds_toArray, List.set_cons_zero, List.set_cons_succ]
                  refine wpAnyH_ready (rs := [30, 36]) (by kernel_rfl) (by simp) (AllReadyH.cons rfl (fun KK hKK => ?_) (AllReadyH.cons rfl (fun KK hKK => ?_) AllReadyH.nil))
                  · go_simp
                    refine hKK.out _ _ ((hHeld).alloc (Below.size hHeld) _) (fun hHeld => ?_)
                    clear hKK KK
                    try simp only [Act.put, List.setIfInBounds_toArray, List.set_cons_zero, List.set_cons_succ]
                    refine wpAnyH_ready (rs := [36]) (by kernel_rfl) (by simp) (AllReadyH.cons rfl (fun KK hKK => ?_) AllReadyH.nil)
                    go_simp
                    refine hKK.out _ _ ((hHeld).alloc (Below.size hHeld) _) (fun hHeld => ?_)
                    clear hKK KK
                    try simp only [Act.put, List.setIfInBounds_toArray, List.set_cons_zero, List.set_cons_succ]
                    exact HGH.out _ _ _ _ _ (Lib.hid ⟨hi_lit2 _ _ [2, 3] 2 (by simp) (by simp) (fourB V1 (.cells #[.int .i64 1, .int .i64 2] 3) (.cells #[.int .i64 2, .int .i64 3] 3) (.cells #[.int .i64 x, .int .i64 y] 3) (.cells #[.int .i64 9, .int .i64 y, .int .i64 1] 3)).2.1, hi_lit2 _ _ [x, y] 2 (by simp) (by simp) (fourB V1 (.cells #[.int .i64 1, .int .i64 2] 3) (.cells #[.int .i64 2, .int .i64 3] 3) (.cells #[.int .i64 x, .int .i64 y] 3) (.cells #[.int .i64 9, .int .i64 y, .int .i64 1] 3)).2.2.1, hi_lit2 _ _ [1, 2] 2 (by simp) (by simp) (fourB V1 (.cells #[.int .i64 1, .int .i64 2] 3) (.cells #[.int .i64 2, .int .i64 3] 3) (.cells #[.int .i64 x, .int .i64 y] 3) (.cells #[.int .i64 9, .int .i64 y, .int .i64 1] 3)).1, hi_lit2 _ _ [9, y, 1] 3 (by simp) (by simp) (fourB V1 (.cells #[.int .i64 1, .int .i64 2] 3) (.cells #[.int .i64 2, .int .i64 3] 3) (.cells #[.int .i64 x, .int .i64 y] 3) (.cells #[.int .i64 9, .int .i64 y, .int .i64 1] 3)).2.2.2.1, HS.out.trans ((fourB V1 (.cells #[.int .i64 1, .int .i64 2] 3) (.cells #[.int .i64 2, .int .i64 3] 3) (.cells #[.int .i64 x, .int .i64 y] 3) (.cells #[.int .i64 9, .int .i64 y, .int .i64 1] 3)).2.2.2.2.mono HS.out.size)⟩)
                  · go_simp
                    refine hKK.out _ _ ((hHeld).alloc (Below.size hHeld) _) (fun hHeld => ?_)
                    clear hKK KK
                    try simp only [Act.put, List.setIfInBounds_toArray, List.set_cons_zero, List.set_cons_succ]
                    refine wpAnyH_ready (rs := [30]) (by kernel_rfl) (by simp) (AllReadyH.cons rfl (fun KK hKK => ?_) AllReadyH.nil)
                    go_simp
                    refine hKK.out _ _ ((hHeld).alloc (Below.size hHeld) _) (fun hHeld => ?_)
                    clear hKK KK
                    try simp only [Act.put, List.setIfInBounds_toArray, List.set_cons_zero, List.set_cons_succ]
                    exact HGH.out _ _ _ _ _ (Lib.hid ⟨hi_lit2 _ _ [2, 3] 2 (by simp) (by simp) (fourB V1 (.cells #[.int .i64 1, .int .i64 2] 3) (.cells #[.int .i64 2, .int .i64 3] 3) (.cells #[.int .i64 9, .int .i64 y, .int .i64 1] 3) (.cells #[.int .i64 x, .int .i64 y] 3)).2.1, hi_lit2 _ _ [x, y] 2 (by simp) (by simp) (fourB V1 (.cells #[.int .i64 1, .int .i64 2] 3) (.cells #[.int .i64 2, .int .i64 3] 3) (.cells #[.int .i64 9, .int .i64 y, .int .i64 1] 3) (.cells #[.int .i64 x, .int .i64 y] 3)).2.2.2.1, hi_lit2 _ _ [1, 2] 2 (by simp) (by simp) (fourB V1 (.cells #[.int .i64 1, .int .i64 2] 3) (.cells #[.int .i64 2, .int .i64 3] 3) (.cells #[.int .i64 9, .int .i64 y, .int .i64 1] 3) (.cells #[.int .i64 x, .int .i64 y] 3)).1, hi_lit2 _ _ [9, y, 1] 3 (by simp) (by simp) (fourB V1 (.cells #[.int .i64 1, .int .i64 2] 3) (.cells #[.int .i64 2, .int .i64 3] 3) (.cells #[.int .i64 9, .int .i64 y, .int .i64 1] 3) (.cells #[.int .i64 x, .int .i64 y] 3)).2.2.1, HS.out.trans ((fourB V1 (.cells #[.int .i64 1, .int .i64 2] 3) (.cells #[.int .i64 2, .int .i64 3] 3) (.cells #[.int .i64 9, .int .i64 y, .int .i64 1] 3) (.cells #[.int .i64 x, .int .i64 y] 3)).2.2.2.2.mono HS.out.size)⟩)
                · go_simp
                  refine hKK.out _ _ ((hHeld).alloc (Below.size hHeld) _) (fun hHeld => ?_)
                  clear hKK KK
                  try simp only [Act.put, List.setIfInBounds_toArray, List.set_cons_zero, List.set_cons_succ]
                  refine wpAnyH_ready (rs := [21, 36]) (by kernel_rfl) (by simp) (AllReadyH.cons rfl (fun KK hKK => ?_) (AllReadyH.cons rfl (fun KK hKK => ?_) AllReadyH.nil))
                  · go_simp
                    refine hKK.out _ _ ((hHeld).alloc (Below.size hHeld) _) (fun hHeld => ?_)
                    clear hKK KK
                    try simp only [Act.put, List.setIfInBounds_toArray, List.set_cons_zero, List.set_cons_succ]
                    refine wpAnyH_ready (rs := [36]) (by kernel_rfl) (by simp) (AllReadyH.cons rfl (fun KK hKK => ?_) AllReadyH.nil)
                    go_simp
                    refine hKK.out _ _ ((hHeld).alloc (Below.size hHeld) _) (fun hHeld => ?_)
                    clear hKK KK
                    try simp only [Act.put, List.setIfInBounds_toArray, List.set_cons_zero, List.set_cons_succ]
                    exact HGH.out _ _ _ _ _ (Lib.hid ⟨hi_lit2 _ _ [2, 3] 2 (by simp) (by simp) (fourB V1 (.cells #[.int .i64 1, .int .i64 2] 3) (.cells #[.int .i64 x, .int .i64 y] 3) (.cells #[.int .i64 2, .int .i64 3] 3) (.cells #[.int .i64 9, .int .i64 y, .int .i64 1] 3)).2.2.1, hi_lit2 _ _ [x, y] 2 (by simp) (by simp) (fourB V1 (.cells #[.int .i64 1, .int .i64 2] 3) (.cells #[.int .i64 x, .int .i64 y] 3) (.cells #[.int .i64 2, .int .i64 3] 3) (.cells #[.int .i64 9, .int .i64 y, .int .i64 1] 3)).2.1, hi_lit2 _ _ [1, 2] 2 (by simp) (by simp) (fourB V1 (.cells #[.int .i64 1, .int .i64 2] 3) (.cells #[.int .i64 x, .int .i64 y] 3) (.cells #[.int .i64 2, .int .i64 3] 3) (.cells #[.int .i64 9, .int .i64 y, .int .i64 1] 3)).1, hi_lit2 _ _ [9, y, 1] 3 (by simp) (by simp) (fourB V1 (.cells #[.int .i64 1, .int .i64 2] 3) (.cells #[.int .i64 x, .int .i64 y] 3) (.cells #[.int .i64 2, .int .i64 3] 3) (.cells #[.int .i64 9, .int .i64 y, .int .i64 1] 3)).2.2.2.1, HS.out.trans ((fourB V1 (.cells #[.int .i64 1, .int .i64 2] 3) (.cells #[.int .i64 x, .int .i64 y] 3) (.cells #[.int .i64 2, .int .i64 3] 3) (.cells #[.int .i64 9, .int .i64 y, .int .i64 1] 3)).2.2.2.2.mono HS.out.size)⟩)
                  · go_simp
                    refine hKK.out _ _ ((hHeld).alloc (Below.size hHeld) _) (fun hHeld => ?_)
                    clear hKK KK
                    try simp only [Act.put, List.setIfInBounds_toArray, List.set_cons_zero, List.set_cons_succ]
                    refine wpAnyH_ready (rs := [21]) (by kernel_rfl) (by simp) (AllReadyH.cons rfl (fun KK hKK => ?_) AllReadyH.nil)
                    go_simp
                    refine hKK.out _ _ ((hHeld).alloc (Below.size hHeld) _) (fun hHeld => ?_)
                    clear hKK KK
                    try simp only [Act.put, List.setIfInBounds_toArray, List.set_cons_zero, List.set_cons_succ]
                    exact HGH.out _ _ _ _ _ (Lib.hid ⟨hi_lit2 _ _ [2, 3] 2 (by simp) (by simp) (fourB V1 (.cells #[.int .i64 1, .int .i64 2] 3) (.cells #[.int .i64 x, .int .i64 y] 3) (.cells #[.int .i64 9, .int .i64 y, .int .i64 1] 3) (.cells #[.int .i64 2, .int .i64 3] 3)).2.2.2.1, hi_lit2 _ _ [x, y] 2 (by simp) (by simp) (fourB V1 (.cells #[.int .i64 1, .int .i64 2] 3) (.cells #[.int .i64 x, .int .i64 y] 3) (.cells #[.int .i64 9, .int .i64 y, .int .i64 1] 3) (.cells #[.int .i64 2, .int .i64 3] 3)).2.1, hi_lit2 _ _ [1, 2] 2 (by simp) (by simp) (fourB V1 (.cells #[.int .i64 1, .int .i64 2] 3) (.cells #[.int .i64 x, .int .i64 y] 3) (.cells #[.int .i64 9, .int .i64 y, .int .i64 1] 3) (.cells #[.int .i64 2, .int .i64 3] 3)).1, hi_lit2 _ _ [9, y, 1] 3 (by simp) (by simp) (fourB V1 (.cells #[.int .i64 1, .int .i64 2] 3) (.cells #[.int .i64 x, .int .i64 y] 3) (.cells #[.int .i64 9, .int .i64 y, .int .i64 1] 3) (.cells #[.int .i64 2, .int .i64 3] 3)).2.2.1, HS.out.trans ((fourB V1 (.cells #[.int .i64 1, .int .i64 2] 3) (.cells #[.int .i64 x, .int .i64 y] 3) (.cells #[.int .i64 9, .int .i64 y, .int .i64 1] 3) (.cells #[.int .i64 2, .int .i64 3] 3)).2.2.2.2.mono HS.out.size)⟩)
                · go_simp
                  refine hKK.out _ _ ((hHeld).alloc (Below.size hHeld) _) (fun hHeld => ?_)
                  clear hKK KK
                  try simp only [Act.put, List.setIfInBounds_toArray, List.set_cons_zero, List.set_cons_succ]
                  refine wpAnyH_ready (rs := [21, 30]) (by kernel_rfl) (by simp) (AllReadyH.cons rfl (fun KK hKK => ?_) (AllReadyH.cons rfl (fun KK hKK => ?_) AllReadyH.nil))
                  · go_simp
                    refine hKK.out _ _ ((hHeld).alloc (Below.size hHeld) _) (fun hHeld => ?_)
                    clear hKK KK
                    try simp only [Act.put, List.setIfInBounds_toArray, List.set_cons_zero, List.set_cons_succ]
                    refine wpAnyH_ready (rs := [30]) (by kernel_rfl) (by simp) (AllReadyH.cons rfl (fun KK hKK => ?_) AllReadyH.nil)
                    go_simp
                    refine hKK.out _ _ ((hHeld).alloc (Below.size hHeld) _) (fun hHeld => ?_)
                    clear hKK KK
                    try simp only [Act.put, List.setIfInBounds_toArray, List.set_cons_zero, List.set_cons_succ]
                    exact HGH.out _ _ _ _ _ (Lib.hid ⟨hi_lit2 _ _ [2, 3] 2 (by simp) (by simp) (fourB V1 (.cells #[.int .i64 1, .int .i64 2] 3) (.cells #[.int .i64 9, .int .i64 y, .int .i64 1] 3) (.cells #[.int .i64 2, .int .i64 3] 3) (.cells #[.int .i64 x, .int .i64 y] 3)).2.2.1, hi_lit2 _ _ [x, y] 2 (by simp) (by simp) (fourB V1 (.cells #[.int .i64 1, .int .i64 2] 3) (.cells #[.int .i64 9, .int .i64 y, .int .i64 1] 3) (.cells #[.int .i64 2, .int .i64 3] 3) (.cells #[.int .i64 x, .int .i64 y] 3)).2.2.2.1, hi_lit2 _ _ [1, 2] 2 (by simp) (by simp) (fourB V1 (.cells #[.int .i64 1, .int .i64 2] 3) (.cells #[.int .i64 9, .int .i64 y, .int .i64 1] 3) (.cells #[.int .i64 2, .int .i64 3] 3) (.cells #[.int .i64 x, .int .i64 y] 3)).1, hi_lit2 _ _ [9, y, 1] 3 (by simp) (by simp) (fourB V1 (.cells #[.int .i64 1, .int .i64 2] 3) (.cells #[.int .i64 9, .int .i64 y, .int .i64 1] 3) (.cells #[.int .i64 2, .int .i64 3] 3) (.cells #[.int .i64 x, .int .i64 y] 3)).2.1, HS.out.trans ((fourB V1 (.cells #[.int .i64 1, .int .i64 2] 3) (.cells #[.int .i64 9, .int .i64 y, .int .i64 1] 3) (.cells #[.int .i64 2, .int .i64 3] 3) (.cells #[.int .i64 x, .int .i64 y] 3)).2.2.2.2.mono HS.out.size)⟩)
                  · go_simp
                    refine hKK.out _ _ ((hHeld).alloc (Below.size hHeld) _) (fun hHeld => ?_)
                    clear hKK KK
                    try simp only [Act.put, List.setIfInBounds_toArray, List.set_cons_zero, List.set_cons_succ]
                    refine wpAnyH_ready (rs := [21]) (by kernel_rfl) (by simp) (AllReadyH.cons rfl (fun KK hKK => ?_) AllReadyH.nil)
                    go_simp
                    refine hKK.out _ _ ((hHeld).alloc (Below.size hHeld) _) (fun hHeld => ?_)
                    clear hKK KK
                    try simp only [Act.put, List.setIfInBounds_toArray, List.set_cons_zero, List.set_cons_succ]
                    exact HGH.out _ _ _ _ _ (Lib.hid ⟨hi_lit2 _ _ [2, 3] 2 (by simp) (by simp) (fourB V1 (.cells #[.int .i64 1, .int .i64 2] 3) (.cells #[.int .i64 9, .int .i64 y, .int .i64 1] 3) (.cells #[.int .i64 x, .int .i64 y] 3) (.cells #[.int .i64 2, .int .i64 3] 3)).2.2.2.1, hi_lit2 _ _ [x, y] 2 (by simp) (by simp) (fourB V1 (.cells #[.int .i64 1, .int .i64 2] 3) (.cells #[.int .i64 9, .int .i64 y, .int .i64 1] 3) (.cells #[.int .i64 x, .int .i64 y] 3) (.cells #[.int .i64 2, .int .i64 3] 3)).2.2.1, hi_lit2 _ _ [1, 2] 2 (by simp) (by simp) (fourB V1 (.cells #[.int .i64 1, .int .i64 2] 3) (.cells #[.int .i64 9, .int .i64 y, .int .i64 1] 3) (.cells #[.int .i64 x, .int .i64 y] 3) (.cells #[.int .i64 2, .int .i64 3] 3)).1, hi_lit2 _ _ [9, y, 1] 3 (by simp) (by simp) (fourB V1 (.cells #[.int .i64 1, .int .i64 2] 3) (.cells #[.int .i64 9, .int .i64 y, .int .i64 1] 3) (.cells #[.int .i64 x, .int .i64 y] 3) (.cells #[.int .i64 2, .int .i64 3] 3)).2.1, HS.out.trans ((fourB V1 (.cells #[.int .i64 1, .int .i64 2] 3) (.cells #[.int .i64 9, .int .i64 y, .int .i64 1] 3) (.cells #[.int .i64 x, .int .i64 y] 3) (.cells #[.int .i64 2, .int .i64 3] 3)).2.2.2.2.mono HS.out.size)⟩)
              · go_simp
                refine hKK.out _ _ ((hHeld).alloc (Below.size hHeld) _) (fun hHeld => ?_)
                clear hKK KK
                try simp only [Act.put, List.setIfInBounds_toArray, List.set_cons_zero, List.set_cons_succ]
                refine wpAnyH_ready (rs := [21, 30, 31]) (by kernel_rfl) (by simp) (AllReadyH.cons rfl (fun KK hKK => ?_) (AllReadyH.cons rfl (fun KK hKK => ?_) (AllReadyH.cons rfl (fun KK hKK => ?_) AllReadyH.nil)))
                · go_simp
                  refine hKK.out _ _ ((hHeld).alloc (Below.size hHeld) _) (fun hHeld => ?_)
                  clear hKK KK
                  try simp only [Act.put, List.setIfInBounds_toArray, List.set_cons_zero, List.set_cons_succ]
                  refine wpAnyH_ready (rs := [30, 31]) (by kernel_rfl) (by simp) (AllReadyH.cons rfl (fun KK hKK => ?_) (AllReadyH.cons rfl (fun KK hKK => ?_) AllReadyH.nil))
                  · go_simp
                    refine hKK.out _ _ ((hHeld).alloc (Below.size hHeld) _) (fun hHeld => ?_)
                    clear hKK KK
                    try simp only [Act.put, List.setIfInBounds_toArray, List.set_cons_zero, List.set_cons_succ]
                    refine wpAnyH_ready (rs := [31]) (by kernel_rfl) (by simp) (AllReadyH.cons rfl (fun KK hKK => ?_) AllReadyH.nil)
                    go_simp
                    refine hKK.out _ _ ((hHeld).alloc (Below.size hHeld) _) (fun hHeld => ?_)
                    clear hKK KK
                    try simp only [Act.put, List.setIfInBounds_toArray, List.set_cons_zero, List.set_cons_succ]
                    exact HGH.out _ _ _ _ _ (Lib.hid ⟨hi_lit2 _ _ [2, 3] 2 (by simp) (by simp) (fourB V1 (.cells #[.int .i64 9, .int .i64 y, .int .i64 1] 3) (.cells #[.int .i64 2, .int .i64 3] 3) (.cells #[.int .i64 x, .int .i64 y] 3) (.cells #[.int .i64 1, .int .i64 2] 3)).2.1, hi_lit2 _ _ [x, y] 2 (by simp) (by simp) (fourB V1 (.cells #[.int .i64 9, .int .i64 y, .int .i64 1] 3) (.cells #[.int .i64 2, .int .i64 3] 3) (.cells #[.int .i64 x, .int .i64 y] 3) (.cells #[.int .i64 1, .int .i64 2] 3)).2.2.1, hi_lit2 _ _ [1, 2] 2 (by simp) (by simp) (fourB V1 (.cells #[.int .i64 9, .int .i64 y, .int .i64 1] 3) (.cells #[.int .i64 2, .int .i64 3] 3) (.cells #[.int .i64 x, .int .i64 y] 3) (.cells #[.int .i64 1, .int .i64 2] 3)).2.2.2.1, hi_lit2 _ _ [9, y, 1] 3 (by simp) (by simp) (fourB V1 (.cells #[.int .i64 9, .int .i64 y, .int .i64 1] 3) (.cells #[.int .i64 2, .int .i64 3] 3) (.cells #[.int .i64 x, .int .i64 y] 3) (.cells #[.int .i64 1, .int .i64 2] 3)).1, HS.out.trans ((fourB V1 (.cells #[.int .i64 9, .int .i64 y, .int .i64 1] 3) (.cells #[.int .i64 2, .int .i64 3] 3) (.cells #[.int .i64 x, .int .i64 y] 3) (.cells #[.int .i64 1, .int .i64 2] 3)).2.2.2.2.mono HS.out.size)⟩)
                  · go_simp
                    refine hKK.out _ _ ((hHeld).alloc (Below.size hHeld) _) (fun hHeld => ?_)
                    clear hKK KK
                    try simp only [Act.put, List.setIfInBounds_toArray, List.set_cons_zero, List.set_cons_succ]
                    refine wpAnyH_ready (rs := [30]) (by kernel_rfl) (by simp) (AllReadyH.cons rfl (fun KK hKK => ?_) AllReadyH.nil)
                    go_simp
                    refine hKK.out _ _ ((hHeld).alloc (Below.size hHeld) _) (fun hHeld => ?_)
                    clear hKK KK
                    try simp only [Act.put, List.setIfInBounds_toArray, List.set_cons_zero, List.set_cons_succ]
                    exact HGH.out _ _ _ _ _ (Lib.hid ⟨hi_lit2 _ _ [2, 3] 2 (by simp) (by simp) (fourB V1 (.cells #[.int .i64 9, .int .i64 y, .int .i64 1] 3) (.cells #[.int .i64 2, .int .i64 3] 3) (.cells #[.int .i64 1, .int .i64 2] 3) (.cells #[.int .i64 x, .int .i64 y] 3)).2.1, hi_lit2 _ _ [x, y] 2 (by simp) (by simp) (fourB V1 (.cells #[.int .i64 9, .int .i64 y, .int .i64 1] 3) (.cells #[.int .i64 2, .int .i64 3] 3) (.cells #[.int .i64 1, .int .i64 2] 3) (.cells #[.int .i64 x, .int .i64 y] 3)).2.2.2.1, hi_lit2 _ _ [1, 2] 2 (by simp) (by simp) (fourB V1 (.cells #[.int .i64 9, .int .i64 y, .int .i64 1] 3) (.cells #[.int .i64 2, .int .i64 3] 3) (.cells #[.int .i64 1, .int .i64 2] 3) (.cells #[.int .i64 x, .int .i64 y] 3)).2.2.1, hi_lit2 _ _ [9, y, 1] 3 (by simp) (by simp) (fourB V1 (.cells #[.int .i64 9, .int .i64 y, .int .i64 1] 3) (.cells #[.int .i64 2, .int .i64 3] 3) (.cells #[.int .i64 1, .int .i64 2] 3) (.cells #[.int .i64 x, .int .i64 y] 3)).1, HS.out.trans ((fourB V1 (.cells #[.int .i64 9, .int .i64 y, .int .i64 1] 3) (.cells #[.int .i64 2, .int .i64 3] 3) (.cells #[.int .i64 1, .int .i64 2] 3) (.cells #[.int .i64 x, .int .i64 y] 3)).2.2.2.2.mono HS.out.size)⟩)
                · go_simp
                  refine hKK.out _ _ ((hHeld).alloc (Below.size hHeld) _) (fun hHeld => ?_)
                  clear hKK KK
                  try simp only [Act.put, List.setIfInBounds_toArray, List.set_cons_zero, List.set_cons_succ]
                  refine wpAnyH_ready (rs := [21, 31]) (by kernel_rfl) (by simp) (AllReadyH.cons rfl (fun KK hKK => ?_) (AllReadyH.cons rfl (fun KK hKK => ?_) AllReadyH.nil))
                  · go_simp
                    refine hKK.out _ _ ((hHeld).alloc (Below.size hHeld) _) (fun hHeld => ?_)
                    clear hKK KK
                    try simp only [Act.put, List.setIfInBounds_toArray, List.set_cons_zero, List.set_cons_succ]
                    refine wpAnyH_ready (rs := [31]) (by kernel_rfl) (by simp) (AllReadyH.cons rfl (fun KK hKK => ?_) AllReadyH.nil)
                    go_simp
                    refine hKK.out _ _ ((hHeld).alloc (Below.size hHeld) _) (fun hHeld => ?_)
                    clear hKK KK
                    try simp only [Act.put, List.setIfInBounds_toArray, List.set_cons_zero, List.set_cons_succ]
                    exact HGH.out _ _ _ _ _ (Lib.hid ⟨hi_lit2 _ _ [2, 3] 2 (by simp) (by simp) (fourB V1 (.cells #[.int .i64 9, .int .i64 y, .int .i64 1] 3) (.cells #[.int .i64 x, .int .i64 y] 3) (.cells #[.int .i64 2, .int .i64 3] 3) (.cells #[.int .i64 1, .int .i64 2] 3)).2.2.1, hi_lit2 _ _ [x, y] 2 (by simp) (by simp) (fourB V1 (.cells #[.int .i64 9, .int .i64 y, .int .i64 1] 3) (.cells #[.int .i64 x, .int .i64 y] 3) (.cells #[.int .i64 2, .int .i64 3] 3) (.cells #[.int .i64 1, .int .i64 2] 3)).2.1, hi_lit2 _ _ [1, 2] 2 (by simp) (by simp) (fourB V1 (.cells #[.int .i64 9, .int .i64 y, .int .i64 1] 3) (.cells #[.int .i64 x, .int .i64 y] 3) (.cells #[.int .i64 2, .int .i64 3] 3) (.cells #[.int .i64 1, .int .i64 2] 3)).2.2.2.1, hi_lit2 _ _ [9, y, 1] 3 (by simp) (by simp) (fourB V1 (.cells #[.int .i64 9, .int .i64 y, .int .i64 1] 3) (.cells #[.int .i64 x, .int .i64 y] 3) (.cells #[.int .i64 2, .int .i64 3] 3) (.cells #[.int .i64 1, .int .i64 2] 3)).1, HS.out.trans ((fourB V1 (.cells #[.int .i64 9, .int .i64 y, .int .i64 1] 3) (.cells #[.int .i64 x, .int .i64 y] 3) (.cells #[.int .i64 2, .int .i64 3] 3) (.cells #[.int .i64 1, .int .i64 2] 3)).2.2.2.2.mono HS.out.size)⟩)
                  · go_simp
                    refine hKK.out _ _ ((hHeld).alloc (Below.size hHeld) _) (fun hHeld => ?_)
                    clear hKK KK
                    try simp only [Act.put, List.setIfInBounds_toArray, List.set_cons_zero, List.set_cons_succ]
                    refine wpAnyH_ready (rs := [21]) (by kernel_rfl) (by simp) (AllReadyH.cons rfl (fun KK hKK => ?_) AllReadyH.nil)
                    go_simp
                    refine hKK.out _ _ ((hHeld).alloc (Below.size hHeld) _) (fun hHeld => ?_)
                    clear hKK KK
                    try simp only [Act.put, List.setIfInBounds_toArray, List.set_cons_zero, List.set_cons_succ]
                    exact HGH.out _ _ _ _ _ (Lib.hid ⟨hi_lit2 _ _ [2, 3] 2 (by simp) (by simp) (fourB V1 (.cells #[.int .i64 9, .int .i64 y, .int .i64 1] 3) (.cells #[.int .i64 x, .int .i64 y] 3) (.cells #[.int .i64 1, .int .i64 2] 3) (.cells #[.int .i64 2, .int .i64 3] 3)).2.2.2.1, hi_lit2 _ _ [x, y] 2 (by simp) (by simp) (fourB V1 (.cells #[.int .i64 9, .int .i64 y, .int .i64 1] 3) (.cells #[.int .i64 x, .int .i64 y] 3) (.cells #[.int .i64 1, .int .i64 2] 3) (.cells #[.int .i64 2, .int .i64 3] 3)).2.1, hi_lit2 _ _ [1, 2] 2 (by simp) (by simp) (fourB V1 (.cells #[.int .i64 9, .int .i64 y, .int .i64 1] 3) (.cells #[.int .i64 x, .int .i64 y] 3) (.cells #[.int .i64 1, .int .i64 2] 3) (.cells #[.int .i64 2, .int .i64 3] 3)).2.2.1, hi_lit2 _ _ [9, y, 1] 3 (by simp) (by simp) (fourB V1 (.cells #[.int .i64 9, .int .i64 y, .int .i64 1] 3) (.cells #[.int .i64 x, .int .i64 y] 3) (.cells #[.int .i64 1, .int .i64 2] 3) (.cells #[.int .i64 2, .int .i64 3] 3)).1, HS.out.trans ((fourB V1 (.cells #[.int .i64 9, .int .i64 y, .int .i64 1] 3) (.cells #[.int .i64 x, .int .i64 y] 3) (.cells #[.int .i64 1, .int .i64 2] 3) (.cells #[.int .i64 2, .int .i64 3] 3)).2.2.2.2.mono HS.out.size)⟩)
                · go_simp
                  refine hKK.out _ _ ((hHeld).alloc (Below.size hHeld) _) (fun hHeld => ?_)
                  clear hKK KK
                  try simp only [Act.put, List.setIfInBounds_toArray, List.set_cons_zero, List.set_cons_succ]
                  refine wpAnyH_ready (rs := [21, 30]) (by kernel_rfl) (by simp) (AllReadyH.cons rfl (fun KK hKK => ?_) (AllReadyH.cons rfl (fun KK hKK => ?_) AllReadyH.nil))
                  · go_simp
                    refine hKK.out _ _ ((hHeld).alloc (Below.size hHeld) _) (fun hHeld => ?_)
                    clear hKK KK
                    try simp only [Act.put, List.setIfInBounds_toArray, List.set_cons_zero, List.set_cons_succ]
                    refine wpAnyH_ready (rs := [30]) (by kernel_rfl) (by simp) (AllReadyH.cons rfl (fun KK hKK => ?_) AllReadyH.nil)
                    go_simp
                    refine hKK.out _ _ ((hHeld).alloc (Below.size hHeld) _) (fun hHeld => ?_)
                    clear hKK KK
                    try simp only [Act.put, List.setIfInBounds_toArray, List.set_cons_zero, List.set_cons_succ]
                    exact HGH.out _ _ _ _ _ (Lib.hid ⟨hi_lit2 _ _ [2, 3] 2 (by simp) (by simp) (fourB V1 (.cells #[.int .i64 9, .int .i64 y, .int .i64 1] 3) (.cells #[.int .i64 1, .int .i64 2] 3) (.cells #[.int .i64 2, .int .i64 3] 3) (.cells #[.int .i64 x, .int .i64 y] 3)).2.2.1, hi_lit2 _ _ [x, y] 2 (by simp) (by simp) (fourB V1 (.cells #[.int .i64 9, .int .i64 y, .int .i64 1] 3) (.cells #[.int .i64 1, .int .i64 2] 3) (.cells #[.int .i64 2, .int .i64 3] 3) (.cells #[.int .i64 x, .int .i64 y] 3)).2.2.2.1, hi_lit2 _ _ [1, 2] 2 (by simp) (by simp) (fourB V1 (.cells #[.int .i64 9, .int .i64 y, .int .i64 1] 3) (.cells #[.int .i64 1, .int .i64 2] 3) (.cells #[.int .i64 2, .int .i64 3] 3) (.cells #[.int .i64 x, .int .i64 y] 3)).2.1, hi_lit2 _ _ [9, y, 1] 3 (by simp) (by simp) (fourB V1 (.cells #[.int .i64 9, .int .i64 y, .int .i64 1] 3) (.cells #[.int .i64 1, .int .i64 2] 3) (.cells #[.int .i64 2, .int .i64 3] 3) (.cells #[.int .i64 x, .int .i64 y] 3)).1, HS.out.trans ((fourB V1 (.cells #[.int .i64 9, .int .i64 y, .int .i64 1] 3) (.cells #[.int .i64 1, .int .i64 2] 3) (.cells #[.int .i64 2, .int .i64 3] 3) (.cells #[.int .i64 x, .int .i64 y] 3)).2.2.2.2.mono HS.out.size)⟩)
                  · go_simp
                    refine hKK.out _ _ ((hHeld).alloc (Below.size hHeld) _) (fun hHeld => ?_)
                    clear hKK KK
                    try simp only [Act.put, List.setIfInBounds_toArray, List.set_cons_zero, List.set_cons_succ]
                    refine wpAnyH_ready (rs := [21]) (by kernel_rfl) (by simp) (AllReadyH.cons rfl (fun KK hKK => ?_) AllReadyH.nil)
                    go_simp
                    refine hKK.out _ _ ((hHeld).alloc (Below.size hHeld) _) (fun hHeld => ?_)
                    clear hKK KK
                    try simp only [Act.put, List.setIfInBounds_toArray, List.set_cons_zero, List.set_cons_succ]
                    exact HGH.out _ _ _ _ _ (Lib.hid ⟨hi_lit2 _ _ [2, 3] 2 (by simp) (by simp) (fourB V1 (.cells #[.int .i64 9, .int .i64 y, .int .i64 1] 3) (.cells #[.int .i64 1, .int .i64 2] 3) (.cells #[.int .i64 x, .int .i64 y] 3) (.cells #[.int .i64 2, .int .i64 3] 3)).2.2.2.1, hi_lit2 _ _ [x, y] 2 (by simp) (by simp) (fourB V1 (.cells #[.int .i64 9, .int .i64 y, .int .i64 1] 3) (.cells #[.int .i64 1, .int .i64 2] 3) (.cells #[.int .i64 x, .int .i64 y] 3) (.cells #[.int .i64 2, .int .i64 3] 3)).2.2.1, hi_lit2 _ _ [1, 2] 2 (by simp) (by simp) (fourB V1 (.cells #[.int .i64 9, .int .i64 y, .int .i64 1] 3) (.cells #[.int .i64 1, .int .i64 2] 3) (.cells #[.int .i64 x, .int .i64 y] 3) (.cells #[.int .i64 2, .int .i64 3] 3)).2.1, hi_lit2 _ _ [9, y, 1] 3 (by simp) (by simp) (fourB V1 (.cells #[.int .i64 9, .int .i64 y, .int .i64 1] 3) (.cells #[.int .i64 1, .int .i64 2] 3) (.cells #[.int .i64 x, .int .i64 y] 3) (.cells #[.int .i64 2, .int .i64 3] 3)).1, HS.out.trans ((fourB V1 (.cells #[.int .i64 9, .int .i64 y, .int .i64 1] 3) (.cells #[.int .i64 1, .int .i64 2] 3) (.cells #[.int .i64 x, .int .i64 y] 3) (.cells #[.int .i64 2, .int .i64 3] 3)).2.2.2.2.mono HS.out.size)⟩)
            case shG2 =>
              intro W2 x36_2 x31_2 x30_2 x21_2 HALL
              obtain ⟨hh21, hh30, hh31, hh36, hbb⟩ := HALL.out
              have HH21 := Lib.hid hh21; have HH30 := Lib.hid hh30; have HH31 := Lib.hid hh31; have HH36 := Lib.hid hh36; have HS := Lib.hid hbb
              clear HALL hh21 hh30 hh31 hh36 hbb
              refine wpAnyH_ready (rs := [37]) (by kernel_rfl) (by simp) (AllReadyH.cons rfl (fun KK hKK => ?_) AllReadyH.nil)
              go_simp
              refine (HD.out (1 + (m : Int)) (some ⟨x21_2, 0, none⟩) (some ⟨x30_2, 0, none⟩) (some ⟨x31_2, 0, none⟩) (some ⟨x36_2, 0, none⟩) 2 2 2 2 2 2 3 3 _ _ _ _ (by omega) (by omega) (by omega) (by omega) _ HH21.out HH30.out HH31.out HH36.out).mono ?_
              rintro e V2 ⟨rfl, hb2⟩
              dsimp only
              have hS0 := HS.out
              have HS := Lib.hid (hS0.trans (hb2.mono hS0.size))
              clear hS0 hb2
              clear HH21 HH30 HH31 HH36
              refine hKK.out _ _ (HS.out) (fun hHeld => ?_)
              clear hKK KK
              try simp only [Act.put, List.setIfInBounds_toArray, List.set_cons_zero, List.set_cons_succ]
              refine wpAnyH_take (i := 38) (oi := ⟨some 61, _, _, _, _, some (18, false)⟩) (v := (.bool false)) rfl (by kernel_rfl) (by kernel_rfl) (by kernel_rfl) (fun _ _ _ h => h) (Or.inl ⟨by rfl, fun W hW => ?_⟩) (by assumption) ?_
              · go_simp
              simp only [Act.put, List.setIfInBounds_toArray, List.set_cons_zero, List.set_cons_succ]
              refine wpAnyH_take (i := 39) (oi := ⟨some 62, _, _, _, _, none⟩) (v := (.bool false)) rfl (by kernel_rfl) (by kernel_rfl) (by kernel_rfl) (fun _ _ _ h => h) (Or.inl ⟨by rfl, fun W hW => ?_⟩) (by assumption) ?_
              · go_simp
              simp only [Act.put, List.setIfInBounds_toArray, List.set_cons_zero, List.set_cons_succ]
              refine wpAnyH_done (by kernel_rfl) ?_ _
              have HBn := Lib.hid (HB.out.trans (HS.out.mono hsx))
              clear HS F1 F2
              go_wp2_with fail
              go_roundw
              case rel => exact ⟨m + 1, _, rfl, by omega, by go_num, HBn.out⟩
              case measure => simp [intOf]; omega
        · have i2 : ¬ (m : Int) < 11 := by omega
          go_wp2_with fail
          go_roundw
          case rel => exact ⟨k + 1, _, rfl, by omega, by go_num, HB.out⟩
          case measure => simp [intOf]; omega
    · have i1 : ¬ (k : Int) < 11 := by omega
      have HBl := Lib.hid (HB0.out.trans (HBo.out.mono hs0))
      go_wp2_with fail
      clear H1 HB0 HBo hk hk8 i1 hs0
      go_loopw [4] (fun i wr => ∃ (k : Nat) (W : World), W = wr ∧ k ≤ 729 ∧ i = .int .i64 k ∧ Below w.heap.size w wr) (fun i _ => 729 - (intOf i).toNat)
      case atStart => exact ⟨0, _, rfl, by omega, rfl, HBl.out⟩
      case round =>
        obtain ⟨k, wx, rfl, hk, rfl, hB⟩ := hrel
        have HB := Lib.hid hB
        have hsx := hB.size
        clear hB
        by_cases hk8 : k < 729
        · have i1 : (k : Int) < 729 := by omega
          obtain ⟨r1, hr1⟩ : ∃ r, r = k % 3 := ⟨_, rfl⟩
          obtain ⟨q3, hq3⟩ : ∃ r, r = k / 3 := ⟨_, rfl⟩
          obtain ⟨r2, hr2⟩ : ∃ r, r = q3 % 3 := ⟨_, rfl⟩
          obtain ⟨q9, hq9⟩ : ∃ r, r = k / 9 := ⟨_, rfl⟩
          obtain ⟨r3, hr3⟩ : ∃ r, r = q9 % 3 := ⟨_, rfl⟩
          obtain ⟨q27, hq27⟩ : ∃ r, r = k / 27 := ⟨_, rfl⟩
          obtain ⟨r27, hr27⟩ : ∃ r, r = q27 % 3 := ⟨_, rfl⟩
          obtain ⟨q81, hq81⟩ : ∃ r, r = k / 81 := ⟨_, rfl⟩
          obtain ⟨r81, hr81⟩ : ∃ r, r = q81 % 3 := ⟨_, rfl⟩
          obtain ⟨q243, hq243⟩ : ∃ r, r = k / 243 := ⟨_, rfl⟩
          obtain ⟨r260, hr260⟩ : ∃ r, r = k % 260 := ⟨_, rfl⟩
          obtain ⟨r4, hr4⟩ : ∃ r, r = k % 4 := ⟨_, rfl⟩
          have k1 : (k : Int) % 3 = (r1 : Int) := by omega
          have k2 : (k : Int).tmod 3 = (r1 : Int) := by rw [hr1]; rfl
          have k3 : (k : Int) / 3 = (q3 : Int) := by omega
          have k4 : (k : Int).tdiv 3 = (q3 : Int) := by rw [hq3]; rfl
          have k5 : (q3 : Int) % 3 = (r2 : Int) := by omega
          have k6 : (q3 : Int).tmod 3 = (r2 : Int) := by rw [hr2]; rfl
          have k7 : (k : Int) / 9 = (q9 : Int) := by omega
          have k8 : (k : Int).tdiv 9 = (q9 : Int) := by rw [hq9]; rfl
          have k9 : (q9 : Int) % 3 = (r3 : Int) := by omega
          have k10 : (q9 : Int).tmod 3 = (r3 : Int) := by rw [hr3]; rfl
          have k11 : (k : Int) / 27 = (q27 : Int) := by omega
          have k12 : (k : Int).tdiv 27 = (q27 : Int) := by rw [hq27]; rfl
          have k13 : (q27 : Int) % 3 = (r27 : Int) := by omega
          have k14 : (q27 : Int).tmod 3 = (r27 : Int) := by rw [hr27]; rfl
          have k15 : (k : Int) / 81 = (q81 : Int) := by omega
          have k16 : (k : Int).tdiv 81 = (q81 : Int) := by rw [hq81]; rfl
          have k17 : (q81 : Int) % 3 = (r81 : Int) := by omega
          have k18 : (q81 : Int).tmod 3 = (r81 : Int) := by rw [hr81]; rfl
          have k19 : (k : Int) / 243 = (q243 : Int) := by omega
          have k20 : (k : Int).tdiv 243 = (q243 : Int) := by rw [hq243]; rfl
          have k21 : (k : Int) % 260 = (r260 : Int) := by omega
          have k22 : (k : Int).tmod 260 = (r260 : Int) := by rw [hr260]; rfl
          have k23 : (k : Int) % 4 = (r4 : Int) := by omega
          have k24 : (k : Int).tmod 4 = (r4 : Int) := by rw [hr4]; rfl
          have z1 : q3 ≤ 729 := by omega
          have z2 : q9 ≤ 729 := by omega
          have z3 : q27 ≤ 729 := by omega
          have z4 : q81 ≤ 729 := by omega
          have z5 : q243 ≤ 729 := by omega
          have y1 : r1 < 3 := by omega
          have y2 : r2 < 3 := by omega
          have y3 : r3 < 3 := by omega
          have y4 : r27 < 3 := by omega
          have y5 : r81 < 3 := by omega
          have y6 : r260 < 260 := by omega
          have y7 : r4 ≤ 3 := by omega
          have y8 : (r4 : Int) ≤ 3 := by omega
          clear hr1 hq3 hr2 hq9 hr3 hq27 hr27 hq81 hr81 hq243 hr260 hr4
          have v1 : IntKind.i64.wrap (q3 : Int) = (q3 : Int) := IntWalk.i64_in _ (by omega)
          have v2 : IntKind.i64.wrap (q9 : Int) = (q9 : Int) := IntWalk.i64_in _ (by omega)
          have v3 : IntKind.i64.wrap (q27 : Int) = (q27 : Int) := IntWalk.i64_in _ (by omega)
          have v4 : IntKind.i64.wrap (q81 : Int) = (q81 : Int) := IntWalk.i64_in _ (by omega)
          have v5 : IntKind.i64.wrap (q243 : Int) = (q243 : Int) := IntWalk.i64_in _ (by omega)
          go_wp2_with fail
          obtain ⟨t1, t2, t3, t4, t5⟩ := fourB wx (.cells #[.int .i64 (1 + (r1 : Int)), .int .i64 (1 + (r2 : Int)), .int .i64 (1 + (r3 : Int))] 3) (.cells #[.int .i64 (1 + (r27 : Int)), .int .i64 (1 + (r81 : Int)), .int .i64 (1 + (q243 : Int))] 3) (.cells #[.int .i64 1, .int .i64 2, .int .i64 1] 3) (.cells #[.int .i64 7, .int .i64 5, .int .i64 5, .int .i64 3] 3)
          have HK1 := Lib.hid (hi_lit2 _ _ [1 + (r1 : Int), 1 + (r2 : Int), 1 + (r3 : Int)] 3 (by simp) (by simp) t1); have HK2 := Lib.hid (hi_lit2 _ _ [1 + (r27 : Int), 1 + (r81 : Int), 1 + (q243 : Int)] 3 (by simp) (by simp) t2); have HK3 := Lib.hid (hi_lit2 _ _ [1, 2, 1] 3 (by simp) (by simp) t3); have HK4 := Lib.hid (hi_lit2 _ _ [7, 5, 5, 3] 4 (by simp) (by simp) t4); have HBw := Lib.hid t5
          clear t1 t2 t3 t4 t5
          refine (HD.out _ _ _ _ _ 3 3 3 3 3 3 4 4 _ _ _ _ (by omega) (by omega) (by omega) (by omega) _ HK3.out HK1.out HK2.out HK4.out).mono ?_
          rintro e w2 ⟨rfl, hb2⟩
          have HK1b := Lib.hid (HK1.out.same hb2); have HK2b := Lib.hid (HK2.out.same hb2)
          have HB2 := Lib.hid (HB.out.trans ((HBw.out.trans (hb2.mono HBw.out.size)).mono hsx))
          have hs2 := HB2.out.size
          clear hb2 HBw HK1 HK2 HK3 HK4 k1 k2 k3 k4 k5 k6 k7 k8 k9 k10 k11 k12 k13 k14 k15 k16 k17 k18 k19 k20 k21 k22 z1 z2 z3 z4 z5 v1 v2 v3 v4 v5
          generalize wx.heap.size = b0 at HK1b HK2b ⊢
          obtain ⟨t1, t2, t3⟩ := twoB w2 (.cells #[.int .i64 0, .int .i64 0, .int .i64 0] 3) (.cells #[.int .i64 7, .int .i64 6, .int .i64 5, .int .i64 (4 + (r4 : Int))] 3)
          have HL1 := Lib.hid (hi_lit2 _ _ [0, 0, 0] 3 (by simp) (by simp) t1); have HL2 := Lib.hid (hi_lit2 _ _ [7, 6, 5, 4 + (r4 : Int)] 4 (by simp) (by simp) t2); have HBv := Lib.hid t3
          have HK1c := Lib.hid (HK1b.out.same t3); have HK2c := Lib.hid (hi_cut (HK2b.out.same t3) (m := r4) y7)
          clear t1 t2 t3 HK1b HK2b
          go_wp2_with fail
          refine (HD.out _ _ _ _ _ 3 3 3 3 r4 3 4 4 _ _ _ _ (by omega) (by omega) (by omega) (by omega) _ HL1.out HK1c.out HK2c.out HL2.out).mono ?_
          rintro e w3 ⟨rfl, hb3⟩
          have HB3 := Lib.hid (HB2.out.trans ((HBv.out.trans (hb3.mono HBv.out.size)).mono hs2))
          clear hb3 HBv HK1c HK2c HL1 HL2
          go_wp2_with fail
          go_roundw
          case rel => exact ⟨k + 1, _, rfl, by omega, by go_num, HB3.out⟩
          case measure => simp [intOf]; omega
        · have i1 : ¬ (k : Int) < 729 := by omega
          have hmk9 : ∀ W : World, (Instr.makeSlice 22 (.int .i64 9) (.int .i64 9)).run Try.prog W = .ok (.slice (some ⟨W.heap.size, 0, none⟩) 9 9) (W.alloc (.cells (madeCells #[.int .i64 0] 9) 3)) := hmkI 9 (by decide)
          have hmk257 : ∀ W : World, (Instr.makeSlice 22 (.int .i64 257) (.int .i64 257)).run Try.prog W = .ok (.slice (some ⟨W.heap.size, 0, none⟩) 257 257) (W.alloc (.cells (madeCells #[.int .i64 0] 257) 3)) := hmkI 257 (by decide)
          obtain ⟨t1, t2, t3, t4⟩ := threeB wx (.cells (madeCells #[.int .i64 0] 9) 3) (.cells #[.int .i64 1, .int .i64 1, .int .i64 1, .int .i64 1, .int .i64 1, .int .i64 1, .int .i64 1, .int .i64 1, .int .i64 1] 3) (.cells (madeCells #[.int .i64 0] 257) 3)
          have HN0 := Lib.hid (hi_zeros (n := 9) (by decide) t1); have HO0 := Lib.hid (hi_lit2 _ _ [1, 1, 1, 1, 1, 1, 1, 1, 1] 9 (by decide) (by decide) t2); have HG0 := Lib.hid (hi_zeros (n := 257) (by decide) t3)
          have HBZ := Lib.hid (HB.out.trans (t4.mono hsx))
          clear t1 t2 t3 t4
          go_wp2_with fail
          clear hmk9 hmk257
          generalize (((wx.alloc (.cells (madeCells #[.int .i64 0] 9) 3)).alloc (.cells #[.int .i64 1, .int .i64 1, .int .i64 1, .int .i64 1, .int .i64 1, .int .i64 1, .int .i64 1, .int .i64 1, .int .i64 1] 3)).alloc (.cells (madeCells #[.int .i64 0] 257) 3)) = wz at *
          generalize wx.heap.size + 1 + 1 = l9 at *
          generalize wx.heap.size + 1 = o9 at *
          generalize wx.heap.size = g9 at *
          have HN := Lib.hid (fun W (q : Below wz.heap.size wz W) => HN0.out.same q); have HO := Lib.hid (fun W (q : Below wz.heap.size wz W) => HO0.out.same q); have HG := Lib.hid (fun W (q : Below wz.heap.size wz W) => HG0.out.same q)
          have HBz := Lib.hid (show Below wz.heap.size wz wz.drew from (Below.refl _ wz).drew)
          clear HN0 HO0 HG0
          refine wp_region_held_drew (S := fun W => Below wz.heap.size wz W) (by kernel_rfl) (HBz.out) (fun hHeld => ?_)
          have HS := HBz
          generalize wz.drew = wd at *
          refine wpAnyH_take (i := 0) (oi := ⟨some 117, _, _, _, _, none⟩) (v := (.slice (some ⟨g9, 0, none⟩) 9 9)) rfl (by kernel_rfl) (by kernel_rfl) (by kernel_rfl) (fun _ _ _ h => h) (Or.inl ⟨by rfl, fun W hW => ?_⟩) (by assumption) ?_
          · go_simp
          simp only [Act.put, List.setIfInBounds_toArray, List.set_cons_zero, List.set_cons_succ]
          refine wpAnyH_take (i := 1) (oi := ⟨some 118, _, _, _, _, none⟩) (v := (.slice (some ⟨o9, 0, none⟩) 9 9)) rfl (by kernel_rfl) (by kernel_rfl) (by kernel_rfl) (fun _ _ _ h => h) (Or.inl ⟨by rfl, fun W hW => ?_⟩) (by assumption) ?_
          · go_simp
          simp only [Act.put, List.setIfInBounds_toArray, List.set_cons_zero, List.set_cons_succ]
          refine wpAnyH_take (i := 2) (oi := ⟨some 119, _, _, _, _, none⟩) (v := (.slice (some ⟨o9, 0, none⟩) 9 9)) rfl (by kernel_rfl) (by kernel_rfl) (by kernel_rfl) (fun _ _ _ h => h) (Or.inl ⟨by rfl, fun W hW => ?_⟩) (by assumption) ?_
          · go_simp
          simp only [Act.put, List.setIfInBounds_toArray, List.set_cons_zero, List.set_cons_succ]
          refine wpAnyH_ready (rs := [3]) (by kernel_rfl) (by simp) (AllReadyH.cons rfl (fun KK hKK => ?_) AllReadyH.nil)
          go_simp
          refine hKK.out _ _ ((HS.out).alloc (Below.size HS.out) _) (fun hHeld => ?_)
          clear hKK KK
          try simp only [Act.put, List.setIfInBounds_toArray, List.set_cons_zero, List.set_cons_succ]
          have HL := Lib.hid (hi_lit2 _ _ [1, 1] 2 (by simp) (by simp) (heap_alloc_new wd (.cells #[.int .i64 1, .int .i64 1] 3)))
          have hS0 := HS.out.trans (((Below.refl wd.heap.size wd).alloc (Nat.le_refl _) (.cells #[.int .i64 1, .int .i64 1] 3)).mono HS.out.size)
          have HS := Lib.hid hS0
          clear hS0
          generalize wd.heap.size = q1 at HL hHeld ⊢
          generalize wd.alloc (.cells #[.int .i64 1, .int .i64 1] 3) = U1 at *
          refine wpAnyH_ready (rs := [4]) (by kernel_rfl) (by simp) (AllReadyH.cons rfl (fun KK hKK => ?_) AllReadyH.nil)
          go_simp
          refine (HD.out 8 (some ⟨g9, 0, none⟩) (some ⟨o9, 0, none⟩) (some ⟨o9, 0, none⟩) (some ⟨q1, 0, none⟩) 9 9 9 9 9 9 2 2 _ _ _ _ (by omega) (by omega) (by omega) (by omega) _ (HN.out _ HS.out) (HO.out _ HS.out) (HO.out _ HS.out) HL.out).mono ?_
          rintro e V1 ⟨rfl, hb1⟩
          dsimp only
          have hS0 := HS.out
          have HS := Lib.hid (hS0.trans (hb1.mono hS0.size))
          clear hS0 hb1
          refine hKK.out _ _ (HS.out) (fun hHeld => ?_)
          clear hKK KK
          try simp only [Act.put, List.setIfInBounds_toArray, List.set_cons_zero, List.set_cons_succ]
          clear HL
          refine wpAnyH_take (i := 5) (oi := ⟨some 122, _, _, _, _, none⟩) (v := (.bool true)) rfl (by kernel_rfl) (by kernel_rfl) (by kernel_rfl) (fun _ _ _ h => h) (Or.inl ⟨by rfl, fun W hW => ?_⟩) (by assumption) ?_
          · go_simp
          simp only [Act.put, List.setIfInBounds_toArray, List.set_cons_zero, List.set_cons_succ]
          refine wpAnyH_take (i := 6) (oi := ⟨some 123, _, _, _, _, some (5, true)⟩) (v := (.slice (some ⟨g9, 0, none⟩) 9 9)) rfl (by kernel_rfl) (by kernel_rfl) (by kernel_rfl) (fun _ _ _ h => h) (Or.inl ⟨by rfl, fun W hW => ?_⟩) (by assumption) ?_
          · go_simp
          simp only [Act.put, List.setIfInBounds_toArray, List.set_cons_zero, List.set_cons_succ]
          refine wpAnyH_take (i := 7) (oi := ⟨some 124, _, _, _, _, some (5, true)⟩) (v := (.slice (some ⟨g9, 0, none⟩) 8 9)) rfl (by kernel_rfl) (by kernel_rfl) (by kernel_rfl) (fun _ _ _ h => h) (Or.inl ⟨by rfl, fun W hW => ?_⟩) (by assumption) ?_
          · go_simp
          simp only [Act.put, List.setIfInBounds_toArray, List.set_cons_zero, List.set_cons_succ]
          refine wpAnyH_take (i := 8) (oi := ⟨some 125, _, _, _, _, some (5, true)⟩) (v := (.slice (some ⟨o9, 0, none⟩) 9 9)) rfl (by kernel_rfl) (by kernel_rfl) (by kernel_rfl) (fun _ _ _ h => h) (Or.inl ⟨by rfl, fun W hW => ?_⟩) (by assumption) ?_
          · go_simp
          simp only [Act.put, List.setIfInBounds_toArray, List.set_cons_zero, List.set_cons_succ]
          refine wpAnyH_take (i := 9) (oi := ⟨some 126, _, _, _, _, some (5, true)⟩) (v := (.slice (some ⟨o9, 0, none⟩) 8 9)) rfl (by kernel_rfl) (by kernel_rfl) (by kernel_rfl) (fun _ _ _ h => h) (Or.inl ⟨by rfl, fun W hW => ?_⟩) (by assumption) ?_
          · go_simp
          simp only [Act.put, List.setIfInBounds_toArray, List.set_cons_zero, List.set_cons_succ]
          refine wpAnyH_take (i := 10) (oi := ⟨some 127, _, _, _, _, some (5, true)⟩) (v := (.slice (some ⟨o9, 0, none⟩) 9 9)) rfl (by kernel_rfl) (by kernel_rfl) (by kernel_rfl) (fun _ _ _ h => h) (Or.inl ⟨by rfl, fun W hW => ?_⟩) (by assumption) ?_
          · go_simp
          simp only [Act.put, List.setIfInBounds_toArray, List.set_cons_zero, List.set_cons_succ]
          refine wpAnyH_take (i := 11) (oi := ⟨some 128, _, _, _, _, some (5, true)⟩) (v := (.slice (some ⟨o9, 0, none⟩) 8 9)) rfl (by kernel_rfl) (by kernel_rfl) (by kernel_rfl) (fun _ _ _ h => h) (Or.inl ⟨by rfl, fun W hW => ?_⟩) (by assumption) ?_
          · go_simp
          simp only [Act.put, List.setIfInBounds_toArray, List.set_cons_zero, List.set_cons_succ]
          refine wpAnyH_ready (rs := [12]) (by kernel_rfl) (by simp) (AllReadyH.cons rfl (fun KK hKK => ?_) AllReadyH.nil)
          go_simp
          refine hKK.out _ _ ((HS.out).alloc (Below.size HS.out) _) (fun hHeld => ?_)
          clear hKK KK
          try simp only [Act.put, List.setIfInBounds_toArray, List.set_cons_zero, List.set_cons_succ]
          have HL := Lib.hid (hi_lit2 _ _ [1, 1] 2 (by simp) (by simp) (heap_alloc_new V1 (.cells #[.int .i64 1, .int .i64 1] 3)))
          have hS0 := HS.out.trans (((Below.refl V1.heap.size V1).alloc (Nat.le_refl _) (.cells #[.int .i64 1, .int .i64 1] 3)).mono HS.out.size)
          have HS := Lib.hid hS0
          clear hS0
          generalize V1.heap.size = q2 at HL hHeld ⊢
          generalize V1.alloc (.cells #[.int .i64 1, .int .i64 1] 3) = U2 at *
          refine wpAnyH_ready (rs := [13]) (by kernel_rfl) (by simp) (AllReadyH.cons rfl (fun KK hKK => ?_) AllReadyH.nil)
          go_simp
          refine (HD.out 8 (some ⟨g9, 0, none⟩) (some ⟨o9, 0, none⟩) (some ⟨o9, 0, none⟩) (some ⟨q2, 0, none⟩) 8 9 8 9 8 9 2 2 _ _ _ _ (by omega) (by omega) (by omega) (by omega) _ (hi_cut (HN.out _ HS.out) (m := 8) (by omega)) (hi_cut (HO.out _ HS.out) (m := 8) (by omega)) (hi_cut (HO.out _ HS.out) (m := 8) (by omega)) HL.out).mono ?_
          rintro e V2 ⟨rfl, hb2⟩
          dsimp only
          have hS0 := HS.out
          have HS := Lib.hid (hS0.trans (hb2.mono hS0.size))
          clear hS0 hb2
          refine hKK.out _ _ (HS.out) (fun hHeld => ?_)
          clear hKK KK
          try simp only [Act.put, List.setIfInBounds_toArray, List.set_cons_zero, List.set_cons_succ]
          clear HL
          refine wpAnyH_take (i := 14) (oi := ⟨some 131, _, _, _, _, none⟩) (v := (.bool true)) rfl (by kernel_rfl) (by kernel_rfl) (by kernel_rfl) (fun _ _ _ h => h) (Or.inl ⟨by rfl, fun W hW => ?_⟩) (by assumption) ?_
          · go_simp
          simp only [Act.put, List.setIfInBounds_toArray, List.set_cons_zero, List.set_cons_succ]
          refine wpAnyH_take (i := 15) (oi := ⟨some 132, _, _, _, _, none⟩) (v := (.bool true)) rfl (by kernel_rfl) (by kernel_rfl) (by kernel_rfl) (fun _ _ _ h => h) (Or.inl ⟨by rfl, fun W hW => ?_⟩) (by assumption) ?_
          · go_simp
          simp only [Act.put, List.setIfInBounds_toArray, List.set_cons_zero, List.set_cons_succ]
          refine wpAnyH_take (i := 16) (oi := ⟨some 133, _, _, _, _, some (15, true)⟩) (v := (.slice (some ⟨l9, 0, none⟩) 257 257)) rfl (by kernel_rfl) (by kernel_rfl) (by kernel_rfl) (fun _ _ _ h => h) (Or.inl ⟨by rfl, fun W hW => ?_⟩) (by assumption) ?_
          · go_simp
          simp only [Act.put, List.setIfInBounds_toArray, List.set_cons_zero, List.set_cons_succ]
          refine wpAnyH_take (i := 17) (oi := ⟨some 134, _, _, _, _, some (15, true)⟩) (v := (.slice (some ⟨l9, 0, none⟩) 256 257)) rfl (by kernel_rfl) (by kernel_rfl) (by kernel_rfl) (fun _ _ _ h => h) (Or.inl ⟨by rfl, fun W hW => ?_⟩) (by assumption) ?_
          · go_simp
          simp only [Act.put, List.setIfInBounds_toArray, List.set_cons_zero, List.set_cons_succ]
          refine wpAnyH_ready (rs := [18]) (by kernel_rfl) (by simp) (AllReadyH.cons rfl (fun KK hKK => ?_) AllReadyH.nil)
          go_simp
          refine (HD.out 255 none none none (some ⟨l9, 0, none⟩) 0 0 0 0 0 0 256 257 _ _ _ _ (by omega) (by omega) (by omega) (by omega) _ hi_none hi_none hi_none (hi_cut (HG.out _ HS.out) (m := 256) (by omega))).mono ?_
          rintro e V3 ⟨rfl, hb3⟩
          dsimp only
          have hS0 := HS.out
          have HS := Lib.hid (hS0.trans (hb3.mono hS0.size))
          clear hS0 hb3
          refine hKK.out _ _ (HS.out) (fun hHeld => ?_)
          clear hKK KK
          try simp only [Act.put, List.setIfInBounds_toArray, List.set_cons_zero, List.set_cons_succ]
          refine wpAnyH_take (i := 19) (oi := ⟨some 136, _, _, _, _, none⟩) (v := (.bool true)) rfl (by kernel_rfl) (by kernel_rfl) (by kernel_rfl) (fun _ _ _ h => h) (Or.inl ⟨by rfl, fun W hW => ?_⟩) (by assumption) ?_
          · go_simp
          simp only [Act.put, List.setIfInBounds_toArray, List.set_cons_zero, List.set_cons_succ]
          refine wpAnyH_take (i := 20) (oi := ⟨some 137, _, _, _, _, none⟩) (v := (.bool true)) rfl (by kernel_rfl) (by kernel_rfl) (by kernel_rfl) (fun _ _ _ h => h) (Or.inl ⟨by rfl, fun W hW => ?_⟩) (by assumption) ?_
          · go_simp
          simp only [Act.put, List.setIfInBounds_toArray, List.set_cons_zero, List.set_cons_succ]
          refine wpAnyH_take (i := 21) (oi := ⟨some 138, _, _, _, _, some (20, true)⟩) (v := (.slice (some ⟨l9, 0, none⟩) 257 257)) rfl (by kernel_rfl) (by kernel_rfl) (by kernel_rfl) (fun _ _ _ h => h) (Or.inl ⟨by rfl, fun W hW => ?_⟩) (by assumption) ?_
          · go_simp
          simp only [Act.put, List.setIfInBounds_toArray, List.set_cons_zero, List.set_cons_succ]
          refine wpAnyH_ready (rs := [22]) (by kernel_rfl) (by simp) (AllReadyH.cons rfl (fun KK hKK => ?_) AllReadyH.nil)
          go_simp
          refine (HD.out 256 none none none (some ⟨l9, 0, none⟩) 0 0 0 0 0 0 257 257 _ _ _ _ (by omega) (by omega) (by omega) (by omega) _ hi_none hi_none hi_none (HG.out _ HS.out)).mono ?_
          rintro e V4 ⟨rfl, hb4⟩
          dsimp only
          have hS0 := HS.out
          have HS := Lib.hid (hS0.trans (hb4.mono hS0.size))
          clear hS0 hb4
          refine hKK.out _ _ (HS.out) (fun hHeld => ?_)
          clear hKK KK
          try simp only [Act.put, List.setIfInBounds_toArray, List.set_cons_zero, List.set_cons_succ]
          refine wpAnyH_take (i := 23) (oi := ⟨some 140, _, _, _, _, none⟩) (v := (.bool true)) rfl (by kernel_rfl) (by kernel_rfl) (by kernel_rfl) (fun _ _ _ h => h) (Or.inl ⟨by rfl, fun W hW => ?_⟩) (by assumption) ?_
          · go_simp
          simp only [Act.put, List.setIfInBounds_toArray, List.set_cons_zero, List.set_cons_succ]
          refine wpAnyH_take (i := 24) (oi := ⟨some 141, _, _, _, _, none⟩) (v := (.bool true)) rfl (by kernel_rfl) (by kernel_rfl) (by kernel_rfl) (fun _ _ _ h => h) (Or.inl ⟨by rfl, fun W hW => ?_⟩) (by assumption) ?_
          · go_simp
          simp only [Act.put, List.setIfInBounds_toArray, List.set_cons_zero, List.set_cons_succ]
          refine wpAnyH_ready (rs := [25]) (by kernel_rfl) (by simp) (AllReadyH.cons rfl (fun KK hKK => ?_) AllReadyH.nil)
          go_simp
          refine hKK.out _ _ ((HS.out).alloc (Below.size HS.out) _) (fun hHeld => ?_)
          clear hKK KK
          try simp only [Act.put, List.setIfInBounds_toArray, List.set_cons_zero, List.set_cons_succ]
          have HL := Lib.hid (hi_lit2 _ _ [5] 1 (by simp) (by simp) (heap_alloc_new V4 (.cells #[.int .i64 5] 3)))
          have hS0 := HS.out.trans (((Below.refl V4.heap.size V4).alloc (Nat.le_refl _) (.cells #[.int .i64 5] 3)).mono HS.out.size)
          have HS := Lib.hid hS0
          clear hS0
          generalize V4.heap.size = q5 at HL hHeld ⊢
          generalize V4.alloc (.cells #[.int .i64 5] 3) = U5 at *
          refine wpAnyH_ready (rs := [26]) (by kernel_rfl) (by simp) (AllReadyH.cons rfl (fun KK hKK => ?_) AllReadyH.nil)
          go_simp
          refine (HD.out 0 none none none (some ⟨q5, 0, none⟩) 0 0 0 0 0 0 1 1 _ _ _ _ (by omega) (by omega) (by omega) (by omega) _ hi_none hi_none hi_none HL.out).mono ?_
          rintro e V5 ⟨rfl, hb5⟩
          dsimp only
          have hS0 := HS.out
          have HS := Lib.hid (hS0.trans (hb5.mono hS0.size))
          clear hS0 hb5
          refine hKK.out _ _ (HS.out) (fun hHeld => ?_)
          clear hKK KK
          try simp only [Act.put, List.setIfInBounds_toArray, List.set_cons_zero, List.set_cons_succ]
          clear HL
          refine wpAnyH_take (i := 27) (oi := ⟨some 144, _, _, _, _, none⟩) (v := (.bool true)) rfl (by kernel_rfl) (by kernel_rfl) (by kernel_rfl) (fun _ _ _ h => h) (Or.inl ⟨by rfl, fun W hW => ?_⟩) (by assumption) ?_
          · go_simp
          simp only [Act.put, List.setIfInBounds_toArray, List.set_cons_zero, List.set_cons_succ]
          refine wpAnyH_take (i := 28) (oi := ⟨some 145, _, _, _, _, none⟩) (v := (.bool true)) rfl (by kernel_rfl) (by kernel_rfl) (by kernel_rfl) (fun _ _ _ h => h) (Or.inl ⟨by rfl, fun W hW => ?_⟩) (by assumption) ?_
          · go_simp
          simp only [Act.put, List.setIfInBounds_toArray, List.set_cons_zero, List.set_cons_succ]
          refine wpAnyH_ready (rs := [29]) (by kernel_rfl) (by simp) (AllReadyH.cons rfl (fun KK hKK => ?_) AllReadyH.nil)
          go_simp
          refine (HD.out 0 none none none none 0 0 0 0 0 0 0 0 _ _ _ _ (by omega) (by omega) (by omega) (by omega) _ hi_none hi_none hi_none hi_none).mono ?_
          rintro e V6 ⟨rfl, hb6⟩
          dsimp only
          have hS0 := HS.out
          have HS := Lib.hid (hS0.trans (hb6.mono hS0.size))
          clear hS0 hb6
          refine hKK.out _ _ (HS.out) (fun hHeld => ?_)
          clear hKK KK
          try simp only [Act.put, List.setIfInBounds_toArray, List.set_cons_zero, List.set_cons_succ]
          refine wpAnyH_take (i := 30) (oi := ⟨some 147, _, _, _, _, none⟩) (v := (.bool true)) rfl (by kernel_rfl) (by kernel_rfl) (by kernel_rfl) (fun _ _ _ h => h) (Or.inl ⟨by rfl, fun W hW => ?_⟩) (by assumption) ?_
          · go_simp
          simp only [Act.put, List.setIfInBounds_toArray, List.set_cons_zero, List.set_cons_succ]
          refine wpAnyH_take (i := 31) (oi := ⟨some 148, _, _, _, _, none⟩) (v := (.bool true)) rfl (by kernel_rfl) (by kernel_rfl) (by kernel_rfl) (fun _ _ _ h => h) (Or.inl ⟨by rfl, fun W hW => ?_⟩) (by assumption) ?_
          · go_simp
          simp only [Act.put, List.setIfInBounds_toArray, List.set_cons_zero, List.set_cons_succ]
          refine wpAnyH_ready (rs := [32]) (by kernel_rfl) (by simp) (AllReadyH.cons rfl (fun KK hKK => ?_) AllReadyH.nil)
          go_simp
          refine (awake12_any _).mono ?_
          rintro e V7 ⟨rfl, hb7⟩
          dsimp only
          have hS0 := HS.out
          have HS := Lib.hid (hS0.trans (hb7.mono hS0.size))
          clear hS0 hb7
          refine hKK.out _ _ (HS.out) (fun hHeld => ?_)
          clear hKK KK
          try simp only [Act.put, List.setIfInBounds_toArray, List.set_cons_zero, List.set_cons_succ]
          refine wpAnyH_take (i := 33) (oi := ⟨some 150, _, _, _, _, none⟩) (v := (.bool true)) rfl (by kernel_rfl) (by kernel_rfl) (by kernel_rfl) (fun _ _ _ h => h) (Or.inl ⟨by rfl, fun W hW => ?_⟩) (by assumption) ?_
          · go_simp
          simp only [Act.put, List.setIfInBounds_toArray, List.set_cons_zero, List.set_cons_succ]
          refine wpAnyH_ready (rs := [34]) (by kernel_rfl) (by simp) (AllReadyH.cons rfl (fun KK hKK => ?_) AllReadyH.nil)
          go_simp
          refine hKK.out _ _ (HS.out) (fun hHeld => ?_)
          clear hKK KK
          try simp only [Act.put, List.setIfInBounds_toArray, List.set_cons_zero, List.set_cons_succ]
          refine wpAnyH_done (by kernel_rfl) ?_ _
          go_wp2
          go_ret
          exact ⟨rfl, HBZ.out.trans (HS.out.mono HBZ.out.size)⟩
end Go.Proofs.Ytpejkglikgefjaa.Wg
