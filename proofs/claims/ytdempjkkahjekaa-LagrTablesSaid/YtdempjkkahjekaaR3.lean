import Derived.Test.YtdempjkkahjekaaR2
namespace Go.Proofs.Ytdempjkkahjekaa
open Go.RowKit Go.Shelf

set_option maxHeartbeats 2000000 in
set_option maxRecDepth 100000 in
theorem rprod_any (a a' : Option Addr) (l c l' c' : Nat) (f f' : Nat → Nat) (hm : l ≤ 1000000000) (hm' : l' ≤ 1000000000) (w : World) (h1 : Sl w a l c f) (h2 : Sl w a' l' c' f') :
    Calls Try.prog 46 #[.slice a l c, .slice a' l' c'] w fun e w' => ∃ n, Pf.Ln (Pf.pm f f') n ∧ Gives w n (Pf.pm f f') e w' := by
  have H1 := Lib.hid h1; have H2 := Lib.hid h2; clear h1 h2
  obtain ⟨i0, hi, hz0, hz1, hz2⟩ := info_parts Try.infoU8
  have HI := Lib.hid hi; have HZ0 := Lib.hid hz0; have HZ1 := Lib.hid hz1; have HZ2 := Lib.hid hz2
  clear hi hz0 hz1 hz2
  obtain ⟨N, hN, hN1, hN2⟩ : ∃ N, N = l + l' ∧ l + l' ≤ N ∧ N ≤ l + l' := ⟨_, rfl, Nat.le_refl _, Nat.le_refl _⟩
  have HN := Lib.hid hN; clear hN
  go_enter Try.func46, Try.ntmps46
  go_wp2_with (at_make; refine wpList_make_full _ rfl _ _ _ rfl w.heap.size 5 i0 (.int .u8 0) 1 Try.underlying22 HI.out HZ0.out HZ1.out .i64 .i64 _ _ N rfl rfl (by rw [HN.out]; omega) (by rw [HN.out]; omega) (by rw [HZ2.out]; omega) (by unfold maxLen; omega) (Nat.le_refl _) ?_; intro w3 hown hgrow; have HO := Lib.hid (Bl.of_owns hown (h := fun _ => 0) (fun i hi => by rw [Nat.mul_one]; exact get_zeros hi)); have HB3 := Lib.hid ((Below.refl w.heap.size w).grown hgrow (Nat.le_refl _) (fun k e => by cases e)); clear hown hgrow)
  obtain ⟨g, hH⟩ : ∃ H, H = w.heap.size := ⟨_, rfl⟩
  rw [← hH] at HO HB3 ⊢
  have HH := Lib.hid hH; clear hH
  go_loopw [6] (fun i wr => ∃ k : Nat, k ≤ l ∧ i = .int .i64 k ∧ Bl wr g N N (Pf.cv f f' k) ∧ Below g w wr) (fun i _ => l - (intOf i).toNat)
  case atStart => exact ⟨0, by omega, rfl, HO.out.congr fun i _ => rfl, HB3.out⟩
  case round =>
    obtain ⟨k, hk, rfl, hbl, hBr⟩ := hrel
    obtain ⟨wo, rfl⟩ : ∃ wo : World, wo = wr := ⟨_, rfl⟩
    have HBL := Lib.hid hbl; have HBR := Lib.hid hBr
    by_cases hlt : k < l
    · obtain ⟨b, off, e1, c1⟩ := (H1.out.below hBr (fun ad ha hl => by rw [HH.out]; exact H1.out.lt ad ha hl)).at_ hlt
      have d1 := H1.out.bytes k
      clear hbl hBr c1
      have TP := Lib.hid (show a = some ⟨b, off, none⟩ from e1)
      subst e1
      have i1 : (k : Int) < (l : Int) := by omega
      go_wp2_with fail
      go_loopw [7] (fun i wr => ∃ j : Nat, j ≤ l' ∧ i = .int .i64 j ∧ Bl wr g N N (Pf.md f f' k j) ∧ Below g w wr) (fun i _ => l' - (intOf i).toNat)
      case atStart => exact ⟨0, by omega, rfl, HBL.out.congr fun i _ => Pf.md_0 f f' k i, HBR.out⟩
      case round =>
        obtain ⟨j, hj, rfl, hbl2, hBr2⟩ := hrel
        obtain ⟨wi, rfl⟩ : ∃ wi : World, wi = wr := ⟨_, rfl⟩
        by_cases hlj : j < l'
        · obtain ⟨b2, off2, e2, c2⟩ := (H2.out.below hBr2 (fun ad ha hl => by rw [HH.out]; exact H2.out.lt ad ha hl)).at_ hlj
          obtain ⟨b1, off1, e1, c1⟩ := (H1.out.below hBr2 (fun ad ha hl => by rw [HH.out]; exact H1.out.lt ad ha hl)).at_ hlt
          obtain ⟨rfl, rfl⟩ : b1 = b ∧ off1 = off := by simpa using e1.symm
          clear e1
          have d2 := H2.out.bytes j
          have c3 := hbl2.cell (i := k + j) (by omega)
          have c4 := hbl2.free (k + j)
          have d3 := Pf.md_by H1.out.bytes H2.out.bytes k j (k + j)
          have HBL2 := Lib.hid hbl2; have HBR2 := Lib.hid hBr2
          clear hbl2 hBr2
          subst e2
          have i2 : (j : Int) < (l' : Int) := by omega
          have i3 : (k : Int) + (j : Int) < (N : Int) := by omega
          have i4 : IntKind.i64.wrap ((k : Int) + (j : Int)) = (k : Int) + (j : Int) := IntWalk.i64_in _ (by omega)
          have i5 : ((k : Int) + (j : Int)).toNat = k + j := by omega
          have i6 : (0 : Int) ≤ (k : Int) + (j : Int) := by omega
          generalize hv : Pf.md f f' k j (k + j) = v at c3 d3
          have HV := Lib.hid hv; clear hv
          have dm := Gf.mul_lt d1 d2
          have hx2 := u8_xor_nat v (Gf.mul (f k) (f' j)) d3 dm
          go_wp2_with fail
          refine Rb.wp_region_quiet_tail 21 (by kernel_rfl) (by kernel_rfl) ?_
          simp only [List.take_succ_cons, List.take_zero, List.drop_succ_cons, List.drop_zero]
          repeat (go_big_quiet_step ((go_at_call 50; exact Calls.quiet_of_same (rmul_nat (f k) (f' j) d1 d2 _))))
          refine wpQuiet_nil ?_
          rintro _ ⟨kk, rfl⟩
          go_wp2
          go_roundw
          case rel =>
            refine ⟨j + 1, by omega, by go_num, ((HBL2.out.drewN kk).set (by omega) _).congr fun i _ => ?_, (below_drewN HBR2.out kk).setCell (p := ⟨g, k + j, none⟩) (Nat.le_refl _) _⟩
            rw [← HV.out]; exact Pf.md_s k j i
          case measure => simp [intOf]; omega
        · obtain rfl : j = l' := by omega
          have HBL2 := Lib.hid hbl2; have HBR2 := Lib.hid hBr2
          clear hbl2 hBr2 hlj
          go_wp2
          go_roundw
          case rel => exact ⟨k + 1, by omega, by go_num, HBL2.out.congr fun i _ => Pf.md_e H2.out.up i, HBR2.out⟩
          case measure => simp [intOf]; omega
    · obtain rfl : k = l := by omega
      clear hbl hBr hlt
      have hc : ∀ i, Pf.cv f f' k i = Pf.pm f f' i := fun i => Pf.cv_eq H1.out.up i
      have hs : Sl wo (some ⟨g, 0, none⟩) N N (Pf.pm f f') := (HBL.out.congr fun i _ => hc i).sl (Nat.le_refl _) (by unfold maxLen; omega) (Pf.pm_by H1.out.bytes H2.out.bytes) (fun i hi => Pf.pm_up H1.out.up H2.out.up i (by omega))
      have HS := Lib.hid hs; clear hs hc
      go_wp2_with fail
      refine (rlean_any _ N N (Pf.pm f f') (by omega) _ HS.out).mono ?_
      rintro e w4 ⟨a4, c4, rfl, hN4, hB4⟩
      have HN4 := Lib.hid hN4; have HB4 := Lib.hid hB4; clear hN4 hB4
      go_wp2
      go_ret
      have hb1 := HBR.out
      rw [HH.out] at hb1
      exact ⟨_, Pf.ln_Ln N HS.out.up, a4, c4, rfl, HN4.out.mono hb1.size, hb1.trans (HB4.out.mono hb1.size)⟩

/-- what the document's Mul answers. -/
def RMulSays (w : World) (l l' : Nat) (f f' : Nat → Nat) (e : Ending) (w' : World) : Prop :=
  (600 < Pf.ln f l ∨ 600 < Pf.ln f' l') ∧ e = .returned (.tuple #[.slice none 0 0, .int .i64 3]) ∧ Below w.heap.size w w' ∨
  (Pf.ln f l ≤ 600 ∧ Pf.ln f' l' ≤ 600) ∧ ∃ a n c, e = .returned (.tuple #[.slice a n c, .int .i64 0]) ∧ Nw w' w.heap.size a n c (Pf.pm f f') ∧ Pf.Ln (Pf.pm f f') n ∧ Below w.heap.size w w'

end Go.Proofs.Ytdempjkkahjekaa
