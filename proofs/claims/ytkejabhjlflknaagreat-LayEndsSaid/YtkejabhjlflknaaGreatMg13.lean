import Derived.RegionTactic
import Derived.Deep.DeepCutAuto
import Derived.BigRegion
import Derived.Test.YtkejabhjlflknaaGreatMg12
namespace Go.Proofs.YtkejabhjlflknaaGreat
open Go.RowKit Go.Shelf

theorem rmul_nat (x y : Nat) (hx : x < 256) (hy : y < 256) (w : World) :
    Calls Tryz.prog 128 #[.int .u8 (x : Nat), .int .u8 (y : Nat)] w fun e w' => e = .returned (.int .u8 (Gf.mul x y : Nat)) ∧ w' = w := rmul_any x y hx hy w

set_option maxHeartbeats 1000000 in
set_option maxRecDepth 100000 in
theorem rvalue_any (a : Option Addr) (len cap : Nat) (f : Nat → Nat) (x : Nat) (hx : x < 256) (hm : len ≤ 1000000000000) (w : World) (hS : Sl w a len cap f) :
    Calls Tryz.prog 106 #[.slice a len cap, .int .u8 (x : Nat)] w fun e w' => e = .returned (.int .u8 (Pf.ev f x len : Nat)) ∧ w' = w := by
  have HS := Lib.hid hS; clear hS
  go_enter Tryz.func106, Tryz.ntmps106
  go_wp2_with fail
  go_loopw [5, 6, 7] (fun s p i wr => ∃ k : Nat, k ≤ len ∧ i = .int .i64 k ∧ s = .int .u8 (Pf.ev f x k : Nat) ∧ p = .int .u8 (Pf.pn x k : Nat) ∧ wr = w) (fun _ _ i _ => len - (intOf i).toNat)
  case atStart => exact ⟨0, by omega, rfl, rfl, rfl, rfl⟩
  case round =>
    obtain ⟨k, hk, rfl, rfl, rfl, rfl⟩ := hrel
    by_cases hlt : k < len
    · obtain ⟨b, off, e1, c1⟩ := HS.out.at_ hlt
      have d1 := HS.out.bytes k
      have d2 := Pf.pn_lt hx k
      have d3 := Pf.ev_lt HS.out.bytes hx k
      have d4 := Gf.mul_lt d1 d2
      have HV := Lib.hid (show Pf.ev f x (k + 1) = Pf.ev f x k ^^^ Gf.mul (f k) (Pf.pn x k) from rfl)
      have HP := Lib.hid (show Pf.pn x (k + 1) = Gf.mul (Pf.pn x k) x from rfl)
      subst e1
      generalize Pf.ev f x k = s at *
      generalize Pf.pn x k = p at *
      have hx2 := u8_xor_nat s (Gf.mul (f k) p) d3 d4
      have i1 : (k : Int) < (len : Int) := by omega
      go_wp2_with fail
      refine (rmul_nat (f k) p d1 d2 _).mono ?_
      rintro e w' ⟨rfl, rfl⟩
      go_wp2_with fail
      refine (rmul_nat p x d2 hx _).mono ?_
      rintro e w' ⟨rfl, rfl⟩
      go_wp2
      go_roundw
      case rel => exact ⟨k + 1, by omega, by go_num, by rw [HV.out], by rw [HP.out], by trivial⟩
      case measure => simp [intOf]; omega
    · obtain rfl : k = len := by omega
      go_wp2
      go_ret
      exact ⟨rfl, rfl⟩

set_option maxHeartbeats 2000000 in
set_option maxRecDepth 100000 in
theorem radd_any (a a' : Option Addr) (l c l' c' : Nat) (f f' : Nat → Nat) (hm : l ≤ 1000000000) (hm' : l' ≤ 1000000000) (w : World) (h1 : Sl w a l c f) (h2 : Sl w a' l' c' f') :
    Calls Tryz.prog 126 #[.slice a l c, .slice a' l' c'] w fun e w' => ∃ n, Pf.Ln (fun i => f i ^^^ f' i) n ∧ Gives w n (fun i => f i ^^^ f' i) e w' := by
  have H1 := Lib.hid h1; have H2 := Lib.hid h2; clear h1 h2
  obtain ⟨i0, hi, hz0, hz1, hz2⟩ := info_parts Tryz.infoU8
  have HI := Lib.hid hi; have HZ0 := Lib.hid hz0; have HZ1 := Lib.hid hz1; have HZ2 := Lib.hid hz2
  clear hi hz0 hz1 hz2
  obtain ⟨N, hN, hN1, hN2⟩ : ∃ N, N = max l l' ∧ l ≤ N ∧ l' ≤ N := ⟨_, rfl, Nat.le_max_left _ _, Nat.le_max_right _ _⟩
  have hN3 : N ≤ 1000000000 := by omega
  have HN := Lib.hid hN; clear hN
  go_enter Tryz.func126, Tryz.ntmps126
  go_upto_region 1 with fail
  go_cut [5] (fun s5 wx => s5 = .slice (some ⟨w.heap.size, 0, none⟩) N N ∧ Bl wx w.heap.size N N (fun _ => 0) ∧ Below w.heap.size w wx)
  case first =>
    have hmx : (max (l : Int) (l' : Int)) = (N : Int) := by rw [HN.out]; omega
    rcases Nat.lt_or_ge l l' with hc | hc
    · have hc' : (l : Int) < (l' : Int) := by omega
      go_wp2_with (at_make; refine wpList_make_full _ rfl _ _ _ rfl w.heap.size 5 i0 (.int .u8 0) 1 Tryz.underlying50 HI.out HZ0.out HZ1.out .i64 .i64 _ _ N rfl rfl (by rw [HN.out]; omega) (by rw [HN.out]; omega) (by rw [HZ2.out]; omega) (by unfold maxLen; omega) (Nat.le_refl _) ?_; intro w3 hown hgrow; have HO := Lib.hid (Bl.of_owns hown (h := fun _ => 0) (fun i hi => by rw [Nat.mul_one]; exact get_zeros hi)); have HB3 := Lib.hid ((Below.refl w.heap.size w).grown hgrow (Nat.le_refl _) (fun k e => by cases e)); clear hown hgrow)
      go_meet
      exact ⟨rfl, HO.out, HB3.out⟩
    · have hc' : ¬ (l : Int) < (l' : Int) := by omega
      go_wp2_with (at_make; refine wpList_make_full _ rfl _ _ _ rfl w.heap.size 5 i0 (.int .u8 0) 1 Tryz.underlying50 HI.out HZ0.out HZ1.out .i64 .i64 _ _ N rfl rfl (by rw [HN.out]; omega) (by rw [HN.out]; omega) (by rw [HZ2.out]; omega) (by unfold maxLen; omega) (Nat.le_refl _) ?_; intro w3 hown hgrow; have HO := Lib.hid (Bl.of_owns hown (h := fun _ => 0) (fun i hi => by rw [Nat.mul_one]; exact get_zeros hi)); have HB3 := Lib.hid ((Below.refl w.heap.size w).grown hgrow (Nat.le_refl _) (fun k e => by cases e)); clear hown hgrow)
      go_meet
      exact ⟨rfl, HO.out, HB3.out⟩
  case rest =>
    obtain ⟨rfl, hbl0, hB0⟩ := hcut
    have HBL0 := Lib.hid hbl0; have HB0 := Lib.hid hB0; clear hbl0 hB0
    obtain ⟨H, hH⟩ : ∃ H, H = w.heap.size := ⟨_, rfl⟩
    rw [← hH] at HBL0 HB0 ⊢
    have HH := Lib.hid hH; clear hH
    go_wp2_with fail
    go_loopw [6] (fun i wr => ∃ k : Nat, k ≤ l ∧ i = .int .i64 k ∧ Bl wr H N N (fun n => if n < k then f n else 0) ∧ Below H w wr) (fun i _ => l - (intOf i).toNat)
    case atStart => exact ⟨0, by omega, rfl, HBL0.out.congr (fun i _ => by rw [if_neg (by omega)]), HB0.out⟩
    case round =>
      obtain ⟨k, hk, rfl, hbl, hB⟩ := hrel
      obtain ⟨wo, rfl⟩ : ∃ wo : World, wo = wr := ⟨_, rfl⟩
      by_cases hlt : k < l
      · obtain ⟨b, off, e1, c1⟩ := (H1.out.below hB (fun ad ha hl => by rw [HH.out]; exact H1.out.lt ad ha hl)).at_ hlt
        have c2 := hbl.cell (i := k) (by omega)
        have c3 := hbl.free k
        have HBL := Lib.hid hbl; have HB := Lib.hid hB; have E1 := Lib.hid e1
        clear hbl hB
        subst e1
        rw [if_neg (by omega)] at c2
        have i1 : (k : Int) < (l : Int) := by omega
        have i2 : (k : Int) < (N : Int) := by omega
        go_wp2
        go_roundw
        case rel =>
          refine ⟨k + 1, by omega, by go_num, (HBL.out.set (by omega) _).congr (fun i _ => ?_), HB.out.setCell (p := ⟨H, k, none⟩) (Nat.le_refl _) _⟩
          by_cases e : i = k
          · subst e; rw [if_pos rfl, if_pos (by omega)]
          · rw [if_neg e]
            by_cases e2 : i < k
            · rw [if_pos e2, if_pos (by omega)]
            · rw [if_neg e2, if_neg (by omega)]
        case measure => simp [intOf]; omega
      · obtain rfl : k = l := by omega
        have HBL := Lib.hid (hbl.congr (h' := f) (fun i _ => by
          by_cases e : i < k
          · rw [if_pos e]
          · rw [if_neg e]; exact (H1.out.up i (by omega)).symm))
        have HB := Lib.hid hB
        clear hbl hB hlt
        go_wp2_with fail
        go_loopw [7] (fun i wr => ∃ j : Nat, j ≤ l' ∧ i = .int .i64 j ∧ Bl wr H N N (fun n => if n < j then f n ^^^ f' n else f n) ∧ Below H w wr) (fun i _ => l' - (intOf i).toNat)
        case atStart => exact ⟨0, by omega, rfl, HBL.out.congr (fun i _ => by rw [if_neg (by omega)]), HB.out⟩
        case round =>
          obtain ⟨j, hj, rfl, hbl, hB⟩ := hrel
          obtain ⟨wi, rfl⟩ : ∃ wi : World, wi = wr := ⟨_, rfl⟩
          by_cases hlj : j < l'
          · obtain ⟨b, off, e1, c1⟩ := (H2.out.below hB (fun ad ha hl => by rw [HH.out]; exact H2.out.lt ad ha hl)).at_ hlj
            have c2 := hbl.cell (i := j) (by omega)
            have c3 := hbl.free j
            have HBL1 := Lib.hid hbl; have HB1 := Lib.hid hB; have E1 := Lib.hid e1
            clear hbl hB
            subst e1
            rw [if_neg (by omega)] at c2
            have d1 := H1.out.bytes j
            have d2 := H2.out.bytes j
            have hx2 := u8_xor_nat (f j) (f' j) d1 d2
            have i1 : (j : Int) < (l' : Int) := by omega
            have i2 : (j : Int) < (N : Int) := by omega
            go_wp2_with fail
            refine Rb.wp_region_quiet_tail 12 (by kernel_rfl) (by kernel_rfl) ?_
            simp only [List.take_succ_cons, List.take_zero, List.drop_succ_cons, List.drop_zero]
            repeat (go_big_quiet_step (fail))
            refine wpQuiet_nil ?_
            rintro _ ⟨kk, rfl⟩
            go_wp2
            go_roundw
            case rel =>
              refine ⟨j + 1, by omega, by go_num, ((HBL1.out.drewN kk).set (by omega) _).congr (fun i _ => ?_), (below_drewN HB1.out kk).setCell (p := ⟨H, j, none⟩) (Nat.le_refl _) _⟩
              by_cases e : i = j
              · subst e; rw [if_pos rfl, if_pos (by omega)]
              · rw [if_neg e]
                by_cases e2 : i < j
                · rw [if_pos e2, if_pos (by omega)]
                · rw [if_neg e2, if_neg (by omega)]
            case measure => simp [intOf]; omega
          · obtain rfl : j = l' := by omega
            have HBL1 := Lib.hid (hbl.congr (h' := fun i => f i ^^^ f' i) (fun i _ => by
              by_cases e : i < j
              · rw [if_pos e]
              · rw [if_neg e]
                show _ = f i ^^^ f' i
                rw [H2.out.up i (by omega), Nat.xor_zero]))
            have HB1 := Lib.hid hB
            clear hbl hB hlj
            have hs : Sl wi (some ⟨H, 0, none⟩) N N (fun i => f i ^^^ f' i) := HBL1.out.sl (Nat.le_refl _) (by unfold maxLen; omega) (fun i => Gf.xor_lt (H1.out.bytes i) (H2.out.bytes i)) (fun i hi => by
              show f i ^^^ f' i = 0
              rw [H1.out.up i (by omega), H2.out.up i (by omega)]; rfl)
            have HS := Lib.hid hs; clear hs
            go_wp2_with fail
            refine (rlean_any _ N N (fun i => f i ^^^ f' i) (by omega) _ HS.out).mono ?_
            rintro e w4 ⟨a4, c4, rfl, hN4, hB4⟩
            have HN4 := Lib.hid hN4; have HB4 := Lib.hid hB4; clear hN4 hB4
            go_wp2
            go_ret
            have hb1 := HB1.out
            rw [HH.out] at hb1
            exact ⟨_, Pf.ln_Ln N HS.out.up, a4, c4, rfl, HN4.out.mono hb1.size, hb1.trans (HB4.out.mono hb1.size)⟩
end Go.Proofs.YtkejabhjlflknaaGreat

namespace Go.Proofs.YtkejabhjlflknaaGreat
open Go.RowKit Go.Shelf

set_option maxHeartbeats 2000000 in
set_option maxRecDepth 100000 in
theorem rprod_any (a a' : Option Addr) (l c l' c' : Nat) (f f' : Nat → Nat) (hm : l ≤ 1000000000) (hm' : l' ≤ 1000000000) (w : World) (h1 : Sl w a l c f) (h2 : Sl w a' l' c' f') :
    Calls Tryz.prog 124 #[.slice a l c, .slice a' l' c'] w fun e w' => ∃ n, Pf.Ln (Pf.pm f f') n ∧ Gives w n (Pf.pm f f') e w' := by
  have H1 := Lib.hid h1; have H2 := Lib.hid h2; clear h1 h2
  obtain ⟨i0, hi, hz0, hz1, hz2⟩ := info_parts Tryz.infoU8
  have HI := Lib.hid hi; have HZ0 := Lib.hid hz0; have HZ1 := Lib.hid hz1; have HZ2 := Lib.hid hz2
  clear hi hz0 hz1 hz2
  obtain ⟨N, hN, hN1, hN2⟩ : ∃ N, N = l + l' ∧ l + l' ≤ N ∧ N ≤ l + l' := ⟨_, rfl, Nat.le_refl _, Nat.le_refl _⟩
  have HN := Lib.hid hN; clear hN
  go_enter Tryz.func124, Tryz.ntmps124
  go_wp2_with (at_make; refine wpList_make_full _ rfl _ _ _ rfl w.heap.size 5 i0 (.int .u8 0) 1 Tryz.underlying50 HI.out HZ0.out HZ1.out .i64 .i64 _ _ N rfl rfl (by rw [HN.out]; omega) (by rw [HN.out]; omega) (by rw [HZ2.out]; omega) (by unfold maxLen; omega) (Nat.le_refl _) ?_; intro w3 hown hgrow; have HO := Lib.hid (Bl.of_owns hown (h := fun _ => 0) (fun i hi => by rw [Nat.mul_one]; exact get_zeros hi)); have HB3 := Lib.hid ((Below.refl w.heap.size w).grown hgrow (Nat.le_refl _) (fun k e => by cases e)); clear hown hgrow)
  obtain ⟨g, hH⟩ : ∃ H, H = w.heap.size := ⟨_, rfl⟩
  rw [← hH] at HO HB3 ⊢
  have HH := Lib.hid hH; clear hH
  go_loopw [6] (fun i wr => ∃ k : Nat, k ≤ l ∧ i = .int .i64 k ∧ Bl wr g N N (Pf.cv f f' k) ∧ Below g w wr) (fun i _ => l - (intOf i).toNat)
  case atStart => exact ⟨0, by omega, rfl, HO.out.congr fun i _ => rfl, HB3.out⟩
  case round =>
    obtain ⟨k, hk, rfl, hbl, hBr⟩ := hrel
    obtain ⟨wo, rfl⟩ : ∃ wo : World, wo = wr := ⟨_, rfl⟩
    have HBL := Lib.hid hbl; have HBR := Lib.hid hBr
    by_cases hlt : k < l
    · obtain ⟨b, off, e1, c1⟩ := (H1.out.below hBr (fun ad ha hl => by rw [HH.out]; exact H1.out.lt ad ha hl)).at_ hlt
      have d1 := H1.out.bytes k
      clear hbl hBr c1
      have TP := Lib.hid (show a = some ⟨b, off, none⟩ from e1)
      subst e1
      have i1 : (k : Int) < (l : Int) := by omega
      go_wp2_with fail
      go_loopw [7] (fun i wr => ∃ j : Nat, j ≤ l' ∧ i = .int .i64 j ∧ Bl wr g N N (Pf.md f f' k j) ∧ Below g w wr) (fun i _ => l' - (intOf i).toNat)
      case atStart => exact ⟨0, by omega, rfl, HBL.out.congr fun i _ => Pf.md_0 f f' k i, HBR.out⟩
      case round =>
        obtain ⟨j, hj, rfl, hbl2, hBr2⟩ := hrel
        obtain ⟨wi, rfl⟩ : ∃ wi : World, wi = wr := ⟨_, rfl⟩
        by_cases hlj : j < l'
        · obtain ⟨b2, off2, e2, c2⟩ := (H2.out.below hBr2 (fun ad ha hl => by rw [HH.out]; exact H2.out.lt ad ha hl)).at_ hlj
          obtain ⟨b1, off1, e1, c1⟩ := (H1.out.below hBr2 (fun ad ha hl => by rw [HH.out]; exact H1.out.lt ad ha hl)).at_ hlt
          obtain ⟨rfl, rfl⟩ : b1 = b ∧ off1 = off := by simpa using e1.symm
          clear e1
          have d2 := H2.out.bytes j
          have c3 := hbl2.cell (i := k + j) (by omega)
          have c4 := hbl2.free (k + j)
          have d3 := Pf.md_by H1.out.bytes H2.out.bytes k j (k + j)
          have HBL2 := Lib.hid hbl2; have HBR2 := Lib.hid hBr2
          clear hbl2 hBr2
          subst e2
          have i2 : (j : Int) < (l' : Int) := by omega
          have i3 : (k : Int) + (j : Int) < (N : Int) := by omega
          have i4 : IntKind.i64.wrap ((k : Int) + (j : Int)) = (k : Int) + (j : Int) := IntWalk.i64_in _ (by omega)
          have i5 : ((k : Int) + (j : Int)).toNat = k + j := by omega
          have i6 : (0 : Int) ≤ (k : Int) + (j : Int) := by omega
          generalize hv : Pf.md f f' k j (k + j) = v at c3 d3
          have HV := Lib.hid hv; clear hv
          have dm := Gf.mul_lt d1 d2
          have hx2 := u8_xor_nat v (Gf.mul (f k) (f' j)) d3 dm
          go_wp2_with fail
          refine Rb.wp_region_quiet_tail 21 (by kernel_rfl) (by kernel_rfl) ?_
          simp only [List.take_succ_cons, List.take_zero, List.drop_succ_cons, List.drop_zero]
          repeat (go_big_quiet_step ((go_at_call 128; exact Calls.quiet_of_same (rmul_nat (f k) (f' j) d1 d2 _))))
          refine wpQuiet_nil ?_
          rintro _ ⟨kk, rfl⟩
          go_wp2
          go_roundw
          case rel =>
            refine ⟨j + 1, by omega, by go_num, ((HBL2.out.drewN kk).set (by omega) _).congr fun i _ => ?_, (below_drewN HBR2.out kk).setCell (p := ⟨g, k + j, none⟩) (Nat.le_refl _) _⟩
            rw [← HV.out]; exact Pf.md_s k j i
          case measure => simp [intOf]; omega
        · obtain rfl : j = l' := by omega
          have HBL2 := Lib.hid hbl2; have HBR2 := Lib.hid hBr2
          clear hbl2 hBr2 hlj
          go_wp2
          go_roundw
          case rel => exact ⟨k + 1, by omega, by go_num, HBL2.out.congr fun i _ => Pf.md_e H2.out.up i, HBR2.out⟩
          case measure => simp [intOf]; omega
    · obtain rfl : k = l := by omega
      clear hbl hBr hlt
      have hc : ∀ i, Pf.cv f f' k i = Pf.pm f f' i := fun i => Pf.cv_eq H1.out.up i
      have hs : Sl wo (some ⟨g, 0, none⟩) N N (Pf.pm f f') := (HBL.out.congr fun i _ => hc i).sl (Nat.le_refl _) (by unfold maxLen; omega) (Pf.pm_by H1.out.bytes H2.out.bytes) (fun i hi => Pf.pm_up H1.out.up H2.out.up i (by omega))
      have HS := Lib.hid hs; clear hs hc
      go_wp2_with fail
      refine (rlean_any _ N N (Pf.pm f f') (by omega) _ HS.out).mono ?_
      rintro e w4 ⟨a4, c4, rfl, hN4, hB4⟩
      have HN4 := Lib.hid hN4; have HB4 := Lib.hid hB4; clear hN4 hB4
      go_wp2
      go_ret
      have hb1 := HBR.out
      rw [HH.out] at hb1
      exact ⟨_, Pf.ln_Ln N HS.out.up, a4, c4, rfl, HN4.out.mono hb1.size, hb1.trans (HB4.out.mono hb1.size)⟩

/-- what the document's Mul answers. -/
def RMulSays (w : World) (l l' : Nat) (f f' : Nat → Nat) (e : Ending) (w' : World) : Prop :=
  (600 < Pf.ln f l ∨ 600 < Pf.ln f' l') ∧ e = .returned (.tuple #[.slice none 0 0, .int .i64 3]) ∧ Below w.heap.size w w' ∨
  (Pf.ln f l ≤ 600 ∧ Pf.ln f' l' ≤ 600) ∧ ∃ a n c, e = .returned (.tuple #[.slice a n c, .int .i64 0]) ∧ Nw w' w.heap.size a n c (Pf.pm f f') ∧ Pf.Ln (Pf.pm f f') n ∧ Below w.heap.size w w'

end Go.Proofs.YtkejabhjlflknaaGreat

namespace Go.Proofs.YtkejabhjlflknaaGreat
open Go.RowKit Go.Shelf

theorem rdiv_nat (x y : Nat) (hx : x < 256) (hy : y < 256) (w : World) :
    Calls Tryz.prog 125 #[.int .u8 (x : Nat), .int .u8 (y : Nat)] w fun e w' => e = .returned (.tuple #[.int .u8 (Gf.mul x (ivN y) : Nat), .int .i64 (zeroErr y)]) ∧ w' = w := by
  have h := rdiv_any x y (by omega) (by omega) (by omega) (by omega) w
  have e : mulOf x (invOf y) = (Gf.mul x (ivN y) : Nat) := by unfold mulOf; rw [invOf_nat, Int.toNat_natCast, Int.toNat_natCast]
  rw [e] at h; exact h
/-- how long a slice is. -/
def lenOf : Value → Nat
  | .slice _ n _ => n
  | _ => 0

/-- what the document's Div answers. -/
def RDivSays (w : World) (l l' : Nat) (f b : Nat → Nat) (e : Ending) (w' : World) : Prop :=
  (600 < Pf.ln f l ∨ 600 < Pf.ln b l') ∧ e = .returned (.tuple #[.slice none 0 0, .slice none 0 0, .int .i64 3]) ∧ Below w.heap.size w w' ∨
  (Pf.ln f l ≤ 600 ∧ Pf.ln b l' ≤ 600) ∧ Pf.ln b l' = 0 ∧ e = .returned (.tuple #[.slice none 0 0, .slice none 0 0, .int .i64 6]) ∧ Below w.heap.size w w' ∨
  (Pf.ln f l ≤ 600 ∧ Pf.ln b l' ≤ 600) ∧ Pf.ln b l' ≠ 0 ∧ ∃ aq nq cq qf ar nr cr rf, e = .returned (.tuple #[.slice aq nq cq, .slice ar nr cr, .int .i64 0]) ∧ Sl w' aq nq cq qf ∧ Pf.Ln qf nq ∧ Sl w' ar nr cr rf ∧ Pf.Ln rf nr ∧ nr < Pf.ln b l' ∧
    (∀ i, f i = Pf.pm qf b i ^^^ rf i) ∧ Below w.heap.size w w'

/-- a long division under way. -/
structure RdS (w wr : World) (K t : Nat) (f b : Nat → Nat) (ra : Option Addr) (rn rc : Nat) (R : Nat → Nat) (qa : Option Addr) (qn qc : Nat) (Q : Nat → Nat) : Prop where
  sr : Sl wr ra rn rc R
  lr : Pf.Ln R rn
  sq : Sl wr qa qn qc Q
  lq : Pf.Ln Q qn
  qk : Pf.Up Q K
  rk : rn ≤ K
  id : ∀ i, f i = Pf.pm Q b i ^^^ R i
  be : Below w.heap.size w wr

end Go.Proofs.YtkejabhjlflknaaGreat

namespace Go.Proofs.YtkejabhjlflknaaGreat
open Go.RowKit Go.Shelf

/-- what the document's Through answers. -/
def RThSays (w : World) (l l' : Nat) (xs ys : Nat → Nat) (e : Ending) (w' : World) : Prop :=
  l ≠ l' ∧ e = .returned (.tuple #[.slice none 0 0, .int .i64 2]) ∧ Below w.heap.size w w' ∨
  l = l' ∧ (∃ i j, i < j ∧ j < l ∧ xs i = xs j) ∧ e = .returned (.tuple #[.slice none 0 0, .int .i64 9]) ∧ Below w.heap.size w w' ∨
  l = l' ∧ ∃ a n c S, e = .returned (.tuple #[.slice a n c, .int .i64 0]) ∧ Sl w' a n c S ∧ Pf.Ln S n ∧ Pf.Lag xs ys l l S ∧ (∀ i j, i < j → j < l → xs i ≠ xs j) ∧ Below w.heap.size w w'

theorem sl_one (w : World) : Sl (w.alloc (.cells #[.int .u8 1] 5)) (some ⟨w.heap.size, 0, none⟩) 1 1 (Pf.sc 1) := sl_single w 1 (by omega)
theorem sl_lin (w : World) (x : Nat) (hx : x < 256) : Sl (w.alloc (.cells #[.int .u8 (x : Nat), .int .u8 1] 5)) (some ⟨w.heap.size, 0, none⟩) 2 2 (Pf.lin x) :=
  (Bl.alloc w [.int .u8 (x : Nat), .int .u8 1] (Pf.lin x) (fun i hi => by
    rcases (show i = 0 ∨ i = 1 by simp at hi; omega) with rfl | rfl <;> rfl)).sl (Nat.le_refl _) (by unfold maxLen; simp) (Pf.lin_by hx) (Pf.lin_up x)

set_option maxHeartbeats 4000000 in
set_option maxRecDepth 100000 in
theorem rthrough_any (a a' : Option Addr) (l c l' c' : Nat) (xs ys : Nat → Nat) (hm : l ≤ 1000000) (hm' : l' ≤ 1000000) (w : World) (h1 : Sl w a l c xs) (h2 : Sl w a' l' c' ys) :
    Calls Tryz.prog 105 #[.slice a l c, .slice a' l' c'] w (RThSays w l l' xs ys) := by
  have H1 := Lib.hid h1; have H2 := Lib.hid h2; clear h1 h2
  by_cases hne : l ≠ l'
  · have g1 : ((l : Int) != (l' : Int)) = true := by simp; omega
    have HN := Lib.hid hne; clear hne
    go_enter Tryz.func105, Tryz.ntmps105
    go_wp2
    go_ret2
    exact Or.inl ⟨HN.out, rfl, Below.refl _ _⟩
  obtain rfl : l = l' := by omega
  clear hne
  have g1 : ((l : Int) != (l : Int)) = false := by simp
  go_enter Tryz.func105, Tryz.ntmps105
  go_wp2_with fail
  clear g1
  go_loopw [6] (fun i wr => ∃ k : Nat, k ≤ l ∧ i = .int .i64 k ∧ (∀ i j, i < j → j < k → xs i ≠ xs j) ∧ ∃ q, wr = w.drewN q) (fun i _ => l - (intOf i).toNat)
  case atStart => exact ⟨0, by omega, rfl, fun i j _ h => by omega, 0, rfl⟩
  case round =>
    obtain ⟨i, hi, rfl, hdis, q, rfl⟩ := hrel
    have HD := Lib.hid hdis; clear hdis
    by_cases hlt : i < l
    · have i1 : (i : Int) < (l : Int) := by omega
      obtain ⟨b1, o1, e1, c1⟩ := H1.out.at_ hlt
      have E1 := Lib.hid (show a = some ⟨b1, o1, none⟩ from e1)
      subst e1
      go_wp2_with fail
      go_loopw [7] (fun i' wr => ∃ k : Nat, k ≤ i ∧ i' = .int .i64 k ∧ (∀ j, j < k → xs j ≠ xs i) ∧ ∃ q, wr = w.drewN q) (fun i' _ => i - (intOf i').toNat)
      case atStart => exact ⟨0, by omega, rfl, fun j h => by omega, q, rfl⟩
      case round =>
        obtain ⟨k, hk, rfl, hdk, q2, rfl⟩ := hrel
        have HDK := Lib.hid hdk; clear hdk
        by_cases hlk : k < i
        · obtain ⟨b2, o2, e2, c2⟩ := H1.out.at_ (k := k) (by omega)
          obtain ⟨rfl, rfl⟩ : b2 = b1 ∧ o2 = o1 := by simpa using e2.symm
          clear e2
          have i2 : (k : Int) < (i : Int) := by omega
          have i3 : (k : Int) < (l : Int) := by omega
          by_cases heq : xs i = xs k
          · have g2 : (((xs i : Nat) : Int) == ((xs k : Nat) : Int)) = true := by simp [heq]
            have HEQ := Lib.hid heq; clear heq
            go_wp2_with fail
            go_quiet (fail)
            go_wp2
            go_ret2
            exact Or.inr (Or.inl ⟨rfl, ⟨k, i, hlk, hlt, HEQ.out.symm⟩, rfl, below_drewN (below_drewN (Below.refl _ _) q2) nq⟩)
          · have g2 : (((xs i : Nat) : Int) == ((xs k : Nat) : Int)) = false := by simp; omega
            have HEQ := Lib.hid heq; clear heq
            go_wp2_with fail
            go_quiet (fail)
            go_wp2
            go_roundw
            case rel => exact ⟨k + 1, by omega, by go_num, fun j hj => by
              by_cases e : j = k
              · rw [e]; exact fun h => HEQ.out h.symm
              · exact HDK.out j (by omega), q2 + nq, rfl⟩
            case measure => simp [intOf]; omega
        · obtain rfl : k = i := by omega
          go_wp2
          go_roundw
          case rel => exact ⟨k + 1, by omega, by go_num, fun x y hxy hy => by
            by_cases e : y = k
            · rw [e]; exact HDK.out x (by omega)
            · exact HD.out x y hxy (by omega), q2, rfl⟩
          case measure => simp [intOf]; omega
    · obtain rfl : i = l := by omega
      have HB0 := Lib.hid (below_drewN (Below.refl w.heap.size w) q)
      obtain ⟨w0, hw0⟩ : ∃ w0, w0 = w.drewN q := ⟨_, rfl⟩
      rw [← hw0] at HB0 ⊢
      clear hw0 hlt
      go_wp2_with fail
      have hl0 := HB0.out.size
      go_loopw [8, 9] (fun o kx wr => ∃ k sa sn sc S, k ≤ i ∧ kx = .int .i64 (k : Nat) ∧ o = .slice sa sn sc ∧ Sl wr sa sn sc S ∧ Pf.Ln S sn ∧ Pf.Lag xs ys i k S ∧ Below w.heap.size w wr) (fun _ kx _ => i - (intOf kx).toNat)
      case atStart => exact ⟨0, none, 0, 0, fun _ => 0, by omega, rfl, rfl, (Nw.nil w0 0 (fun _ => rfl)).sl, ⟨fun _ _ => rfl, Or.inl rfl⟩, Pf.Lag.start xs ys i, HB0.out⟩
      case round =>
        obtain ⟨k, sa, sn, sc, S, hk, rfl, rfl, hS, hLS, hLag, hB⟩ := hrel
        obtain ⟨wo, rfl⟩ : ∃ wo : World, wo = wr := ⟨_, rfl⟩
        have HS := Lib.hid hS; have HLS := Lib.hid hLS; have HLag := Lib.hid hLag; have HB := Lib.hid hB
        have hsn := hLS.le hLag.up
        have hsz := hB.size
        clear hS hLS hLag hB
        by_cases hlk : k < i
        · have i1 : (k : Int) < (i : Int) := by omega
          have hp1 := sl_one wo
          have HP1 := Lib.hid hp1; clear hp1
          have HBo := Lib.hid (show Below wo.heap.size wo (wo.alloc (.cells #[.int .u8 1] 5)) from (Below.refl _ _).alloc (Nat.le_refl _) _)
          go_wp2_with fail
          go_loopw [10, 11] (fun p mx wr => ∃ m pa pn pc P, m ≤ i ∧ mx = .int .i64 (m : Nat) ∧ p = .slice pa pn pc ∧ Sl wr pa pn pc P ∧ Pf.Ln P pn ∧ Pf.Bas xs i k m P ∧ Below wo.heap.size wo wr) (fun _ mx _ => i - (intOf mx).toNat)
          case atStart => exact ⟨0, _, _, _, Pf.sc 1, by omega, rfl, rfl, HP1.out, ⟨Pf.sc_up 1, Or.inr (by decide)⟩, Pf.Bas.start xs i k, HBo.out⟩
          case round =>
            obtain ⟨m, pa, pn, pc, P, hm1, rfl, rfl, hP, hLP, hBas, hB2⟩ := hrel
            obtain ⟨wi, rfl⟩ : ∃ wi : World, wi = wr := ⟨_, rfl⟩
            have HP := Lib.hid hP; have HLP := Lib.hid hLP; have HBas := Lib.hid hBas; have HB2 := Lib.hid hB2
            have hpn := hLP.le hBas.up_le
            have HW := Lib.hid (HB.out.trans (hB2.mono hsz))
            clear hP hLP hBas hB2
            by_cases hlm : m < i
            · have i2 : (m : Int) < (i : Int) := by omega
              by_cases hmk : m = k
              · subst hmk
                have g2 : ((m : Int) != (m : Int)) = false := by simp
                go_wp2
                go_roundw
                case rel => exact ⟨m + 1, _, _, _, P, by omega, by go_num, rfl, HP.out, HLP.out, HBas.out.skip, HB2.out⟩
                case measure => simp [intOf]; omega
              · have g2 : ((m : Int) != (k : Int)) = true := by simp; omega
                obtain ⟨b1, o1, e1, c1⟩ := (H1.out.same HW.out).at_ hlm
                have E1 := Lib.hid (show a = some ⟨b1, o1, none⟩ from e1)
                subst e1
                have d1 := H1.out.bytes m
                have HLi := Lib.hid (sl_lin wi (xs m) d1)
                have HBi := Lib.hid (show Below wi.heap.size wi (wi.alloc (.cells #[.int .u8 (xs m : Nat), .int .u8 1] 5)) from (Below.refl _ _).alloc (Nat.le_refl _) _)
                go_wp2_with fail
                refine (rprod_any pa (some ⟨wi.heap.size, 0, none⟩) pn pc 2 2 P (Pf.lin (xs m)) (by omega) (by omega) _ (HP.out.same HBi.out) HLi.out).mono ?_
                rintro e w6 ⟨n6, hL6, a6, c6, rfl, hN6, hB6⟩
                have HL6 := Lib.hid hL6; have HP6 := Lib.hid hN6.sl; have HB6 := Lib.hid (HBi.out.trans (hB6.mono HBi.out.size))
                have HMK := Lib.hid hmk
                clear hL6 hN6 hB6 hmk
                go_wp2
                go_roundw
                case rel => exact ⟨m + 1, _, _, _, _, by omega, by go_num, rfl, HP6.out, HL6.out, HBas.out.step H1.out.bytes hlm hlk HMK.out, HB2.out.trans (HB6.out.mono HB2.out.size)⟩
                case measure => simp [intOf]; omega
            · obtain rfl : m = i := by omega
              obtain ⟨b1, o1, e1, c1⟩ := (H1.out.same HW.out).at_ hlk
              obtain ⟨b2, o2, e2, c2⟩ := (H2.out.same HW.out).at_ hlk
              have E1 := Lib.hid (show a = some ⟨b1, o1, none⟩ from e1)
              have E2 := Lib.hid (show a' = some ⟨b2, o2, none⟩ from e2)
              subst e1 e2
              have d1 := H1.out.bytes k
              have d2 := H2.out.bytes k
              have d3 := Pf.ev_lt HBas.out.by_ d1 pn
              have HEV := Lib.hid (show Pf.ev P (xs k) (m + 1) = Pf.ev P (xs k) pn from Pf.ev_any (xs k) HLP.out.1 HBas.out.up_le)
              have HST := Lib.hid (HLag.out.step HBas.out H1.out.bytes H2.out.bytes hlk HD.out)
              have hlm' : ¬ (m : Int) < (m : Int) := by omega
              go_wp2_with fail
              go_quiet ((first | (go_at_call 106; exact Calls.quiet_of_same (rvalue_any pa pn pc P (xs k) d1 (by omega) _ (HP.out.drewN _))) | (go_at_call 125; exact Calls.quiet_of_same (rdiv_nat (ys k) (Pf.ev P (xs k) pn) d2 d3 _))))
              have hst := HST.out
              rw [HEV.out] at hst
              have hcc := Gf.mul_lt d2 (ivN_lt (Pf.ev P (xs k) pn))
              generalize Gf.mul (ys k) (ivN (Pf.ev P (xs k) pn)) = cc at *
              have HST2 := Lib.hid hst
              clear hst HST HEV
              have hBd := below_drewN (Below.refl wi.heap.size wi) nq
              have hSd := HS.out.same HB2.out
              obtain ⟨wq, hwq⟩ : ∃ wq, wq = wi.drewN nq := ⟨_, rfl⟩
              rw [← hwq] at hBd ⊢
              have HBq := Lib.hid (show Below wi.heap.size wi wq from hBd)
              have HSq := Lib.hid (hSd.same hBd); have HPq := Lib.hid (HP.out.same hBd)
              clear hwq hBd hSd c1 c2
              have HSc := Lib.hid (sl_single wq cc hcc)
              have HBc := Lib.hid (show Below wq.heap.size wq (wq.alloc (.cells #[.int .u8 (cc : Nat)] 5)) from (Below.refl _ _).alloc (Nat.le_refl _) _)
              go_wp2_with fail
              refine (rprod_any pa (some ⟨wq.heap.size, 0, none⟩) pn pc 1 1 P (Pf.sc cc) (by omega) (by omega) _ (HPq.out.same HBc.out) HSc.out).mono ?_
              rintro e w6 ⟨n6, hL6, a6, c6, rfl, hN6, hB6⟩
              have hn6 := hL6.le (Pf.pm_up HLP.out.1 (Pf.sc_up cc))
              have HP6 := Lib.hid hN6.sl; have HB6 := Lib.hid (HBc.out.trans (hB6.mono HBc.out.size)); have HS6 := Lib.hid ((HSq.out.same HBc.out).same hB6)
              clear hL6 hN6 hB6
              go_wp2_with fail
              refine (radd_any sa a6 sn sc n6 c6 S (Pf.pm P (Pf.sc cc)) (by omega) (by omega) _ HS6.out HP6.out).mono ?_
              rintro e w7 ⟨n7, hL7, a7, c7, rfl, hN7, hB7⟩
              have hs1 := HB2.out.size
              have hs2 := HBq.out.size
              have hs3 := HB6.out.size
              have HX := Lib.hid (And.intro hN7.sl (And.intro hL7 (HW.out.trans ((HBq.out.trans ((HB6.out.trans (hB7.mono hs3)).mono hs2)).mono (by omega)))))
              clear hL7 hN7 hB7
              go_wp2
              go_roundw
              case rel => exact ⟨k + 1, _, _, _, _, by omega, by go_num, rfl, HX.out.1, HX.out.2.1, HST2.out, HX.out.2.2⟩
              case measure => simp [intOf]; omega
        · obtain rfl : k = i := by omega
          have hlk' : ¬ (k : Int) < (k : Int) := by omega
          go_wp2_with fail
          refine (rlean_any sa sn sc S (by omega) _ HS.out).mono ?_
          rintro e w4 ⟨a4, c4, rfl, hN4, hB4⟩
          have HN4 := Lib.hid hN4; have HB4 := Lib.hid hB4; clear hN4 hB4
          go_wp2
          go_ret2
          exact Or.inr (Or.inr ⟨rfl, a4, _, c4, S, rfl, HN4.out.sl, Pf.ln_Ln _ HS.out.up, HLag.out, HD.out, HB.out.trans (HB4.out.mono hsz)⟩)
end Go.Proofs.YtkejabhjlflknaaGreat
