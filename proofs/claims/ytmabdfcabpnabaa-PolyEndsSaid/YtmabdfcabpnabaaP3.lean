import Derived.Test.YtmabdfcabpnabaaP2
import Derived.Test.YtmabdfcabpnabaaPg
namespace Go.Proofs.Ytmabdfcabpnabaa
open Go.RowKit Go.Shelf

set_option maxHeartbeats 2000000 in
set_option maxRecDepth 100000 in
theorem prod_any (wb fb : Nat) (a a' : Option Addr) (l c l' c' : Nat) (f f' : Nat → Nat) (hm : l ≤ 1000000000) (hm' : l' ≤ 1000000000) (w : World) (hW : w.cell? ⟨wb, 0, none⟩ = some (.pointer (some ⟨fb, 0, none⟩))) (hF : IsField fb w)
    (h1 : Sl w a l c f) (h2 : Sl w a' l' c' f') :
    Calls Try.prog 49 #[.pointer (some ⟨wb, 0, none⟩), .slice a l c, .slice a' l' c'] w (Gives w (Pf.pl (Pf.ln f l) (Pf.ln f' l')) (Pf.pm f f')) := by
  have k1 := Pf.ln_le f l
  have k2 := Pf.ln_le f' l'
  have HL1 := Lib.hid (Pf.ln_Ln l h1.up)
  have HL2 := Lib.hid (Pf.ln_Ln l' h2.up)
  have H1 := Lib.hid h1; have H2 := Lib.hid h2; have HW := Lib.hid hW; have HF := Lib.hid hF; clear h1 h2 hW hF
  go_enter Try.func49, Try.ntmps49
  go_wp2_with fail
  refine (trim_any a l c f (by omega) _ H1.out).mono ?_
  rintro e w1 ⟨rfl, hB1⟩
  have HB1 := Lib.hid hB1; clear hB1
  go_wp2_with fail
  refine (trim_any a' l' c' f' (by omega) _ (H2.out.same HB1.out)).mono ?_
  rintro e w2 ⟨rfl, hB2⟩
  have HB := Lib.hid (HB1.out.trans (hB2.mono HB1.out.size)); clear hB2 HB1
  have T1 := Lib.hid (H1.out.same HB.out).trim
  have T2 := Lib.hid (H2.out.same HB.out).trim
  have W2 := Lib.hid ((HB.out.cell (p := ⟨wb, 0, none⟩) (World.block_lt_of_cell? _ _ HW.out)).trans HW.out)
  have F2 := Lib.hid (HF.out.below HB.out (World.block_lt_of_cell? _ _ (HF.out 0 (by omega)).1))
  clear H1 H2 HW HF
  generalize tA a (Pf.ln f l) = p at *
  generalize tA a' (Pf.ln f' l') = p' at *
  generalize tC c (Pf.ln f l) = d at *
  generalize tC c' (Pf.ln f' l') = d' at *
  generalize Pf.ln f l = n at *
  generalize Pf.ln f' l' = n' at *
  by_cases z1 : n = 0
  · have HZ := Lib.hid (show ∀ i, Pf.pm f f' i = 0 from fun i => (Pf.pm_Ln T1.out.bytes T2.out.bytes HL1.out HL2.out).1 i (by unfold Pf.pl; rw [if_pos (Or.inl z1)]; omega))
    have HP := Lib.hid (show Pf.pl n n' = 0 by unfold Pf.pl; rw [if_pos (Or.inl z1)])
    have g1 : ((n : Int) == 0) = true := by simp [z1]
    clear z1
    go_wp2
    go_ret
    rw [HP.out]
    exact ⟨none, 0, rfl, Nw.nil _ _ HZ.out, HB.out⟩
  by_cases z2 : n' = 0
  · have HZ := Lib.hid (show ∀ i, Pf.pm f f' i = 0 from fun i => (Pf.pm_Ln T1.out.bytes T2.out.bytes HL1.out HL2.out).1 i (by unfold Pf.pl; rw [if_pos (Or.inr z2)]; omega))
    have HP := Lib.hid (show Pf.pl n n' = 0 by unfold Pf.pl; rw [if_pos (Or.inr z2)])
    have g1 : ((n : Int) == 0) = false := by simp; omega
    have g2 : ((n' : Int) == 0) = true := by simp [z2]
    clear z1 z2
    go_wp2
    go_ret
    rw [HP.out]
    exact ⟨none, 0, rfl, Nw.nil _ _ HZ.out, HB.out⟩
  have HP := Lib.hid (show Pf.pl n n' = n + n' - 1 by unfold Pf.pl; rw [if_neg (by omega)])
  have g1 : ((n : Int) == 0) = false := by simp; omega
  have g2 : ((n' : Int) == 0) = false := by simp; omega
  have n1 : 1 ≤ n := by omega
  have n2 : 1 ≤ n' := by omega
  clear z1 z2
  obtain ⟨i0, hi, hz0, hz1, hz2⟩ := info_parts Try.infoU8
  have HI := Lib.hid hi; have HZ0 := Lib.hid hz0; have HZ1 := Lib.hid hz1; have HZ2 := Lib.hid hz2
  clear hi hz0 hz1 hz2
  obtain ⟨N, hN⟩ : ∃ N, N = n + n' - 1 := ⟨_, rfl⟩
  have hN1 : n + n' ≤ N + 1 := by omega
  have hN2 : N + 1 ≤ n + n' := by omega
  have HN := Lib.hid hN; clear hN
  go_wp2_with (at_make; refine wpList_make_full _ rfl _ _ _ rfl w2.heap.size 5 i0 (.int .u8 0) 1 Try.underlying22 HI.out HZ0.out HZ1.out .i64 .i64 _ _ N rfl rfl (by omega) (by omega) (by rw [HZ2.out]; omega) (by unfold maxLen; omega) (Nat.le_refl _) ?_; intro w3 hown hgrow; have HO := Lib.hid (Bl.of_owns hown (h := fun _ => 0) (fun i hi => by rw [Nat.mul_one]; exact get_zeros hi)); have HB3 := Lib.hid ((Below.refl w2.heap.size w2).grown hgrow (Nat.le_refl _) (fun k e => by cases e)); clear hown hgrow)
  generalize hgg : w2.heap.size = g at *
  have HGG := Lib.hid hgg; clear hgg
  go_loopw [33] (fun i wr => ∃ k : Nat, k ≤ n ∧ i = .int .i64 k ∧ Bl wr g N N (Pf.cv f f' k) ∧ Below g w2 wr) (fun i _ => n - (intOf i).toNat)
  case atStart => exact ⟨0, by omega, rfl, HO.out.congr fun i _ => rfl, HB3.out⟩
  case round =>
    obtain ⟨k, hk, rfl, hbl, hBr⟩ := hrel
    obtain ⟨wo, rfl⟩ : ∃ wo : World, wo = wr := ⟨_, rfl⟩
    have HBL := Lib.hid hbl; have HBR := Lib.hid hBr
    by_cases hlt : k < n
    · obtain ⟨b, off, e1, c1⟩ := (T1.out.below hBr (fun ad ha hl => by rw [← HGG.out]; exact T1.out.lt ad ha hl)).at_ hlt
      have d1 := T1.out.bytes k
      clear hbl hBr
      have TP := Lib.hid (show p = some ⟨b, off, none⟩ from e1)
      subst e1
      have i1 : (k : Int) < (n : Int) := by omega
      go_wp2_with fail
      go_loopw [40] (fun i wr => ∃ j : Nat, j ≤ n' ∧ i = .int .i64 j ∧ Bl wr g N N (Pf.md f f' k j) ∧ Below g w2 wr) (fun i _ => n' - (intOf i).toNat)
      case atStart => exact ⟨0, by omega, rfl, HBL.out.congr fun i _ => Pf.md_0 f f' k i, HBR.out⟩
      case round =>
        obtain ⟨j, hj, rfl, hbl2, hBr2⟩ := hrel
        obtain ⟨wi, rfl⟩ : ∃ wi : World, wi = wr := ⟨_, rfl⟩
        by_cases hlj : j < n'
        · obtain ⟨b2, off2, e2, c2⟩ := (T2.out.below hBr2 (fun ad ha hl => by rw [← HGG.out]; exact T2.out.lt ad ha hl)).at_ hlj
          have d2 := T2.out.bytes j
          have c3 := hbl2.cell (i := k + j) (by omega)
          have c4 := hbl2.free (k + j)
          have d3 := Pf.md_by T1.out.bytes T2.out.bytes k j (k + j)
          have w0 := (hBr2.cell (p := ⟨wb, 0, none⟩) (by rw [← HGG.out]; exact World.block_lt_of_cell? _ _ W2.out)).trans W2.out
          have FI := Lib.hid (F2.out.below hBr2 (by rw [← HGG.out]; exact World.block_lt_of_cell? _ _ (F2.out 0 (by omega)).1))
          have HBL2 := Lib.hid hbl2; have HBR2 := Lib.hid hBr2
          clear hbl2 hBr2
          subst e2
          have i2 : (j : Int) < (n' : Int) := by omega
          have i3 : (k : Int) + (j : Int) < (N : Int) := by omega
          have i4 : IntKind.i64.wrap ((k : Int) + (j : Int)) = (k : Int) + (j : Int) := IntWalk.i64_in _ (by omega)
          have i5 : ((k : Int) + (j : Int)).toNat = k + j := by omega
          have i6 : (0 : Int) ≤ (k : Int) + (j : Int) := by omega
          generalize hv : Pf.md f f' k j (k + j) = v at c3 d3
          have HV := Lib.hid hv; clear hv
          have dm := Gf.mul_lt d1 d2
          go_wp2_with fail
          refine Rb.wp_region_quiet_tail 19 (by kernel_rfl) (by kernel_rfl) ?_
          simp only [List.take_succ_cons, List.take_zero, List.drop_succ_cons, List.drop_zero]
          repeat (go_big_quiet_step ((first | (go_at_call 28; exact Calls.quiet_of (mul_nat fb (f k) (f' j) d1 d2 _ (FI.out.drewN _))) | (go_at_call 27; exact Calls.quiet_of_same (add_nat v _ d3 dm _)))))
          refine wpQuiet_nil ?_
          rintro _ ⟨nq, rfl⟩
          go_wp2
          go_roundw
          case rel =>
            refine ⟨j + 1, by omega, by go_num, ((HBL2.out.drewN nq).set (by omega) _).congr fun i _ => ?_, (below_drewN HBR2.out nq).setCell (p := ⟨g, k + j, none⟩) (Nat.le_refl _) _⟩
            rw [← HV.out]; exact Pf.md_s k j i
          case measure => simp [intOf]; omega
        · obtain rfl : j = n' := by omega
          have HBL2 := Lib.hid hbl2; have HBR2 := Lib.hid hBr2
          clear hbl2 hBr2 hlj
          go_wp2
          go_roundw
          case rel => exact ⟨k + 1, by omega, by go_num, HBL2.out.congr fun i _ => Pf.md_e T2.out.up i, HBR2.out⟩
          case measure => simp [intOf]; omega
    · obtain rfl : k = n := by omega
      clear hbl hBr hlt
      go_wp2
      go_ret
      rw [HP.out, ← HN.out]
      have hc : ∀ i, Pf.cv f f' k i = Pf.pm f f' i := fun i => Pf.cv_eq HL1.out.1 i
      refine ⟨_, N, rfl, Nw.of_bl (HBL.out.congr fun i _ => hc i) (Nat.le_refl _) (by unfold maxLen; omega) (Pf.pm_by T1.out.bytes T2.out.bytes) (fun i hi => ?_) (by rw [← HGG.out]; exact HB.out.size), HB.out.trans (HBR.out.mono (by rw [← HGG.out]; exact HB.out.size))⟩
      exact (Pf.pm_Ln T1.out.bytes T2.out.bytes HL1.out HL2.out).1 i (by rw [HP.out, ← HN.out]; exact hi)
end Go.Proofs.Ytmabdfcabpnabaa
