import Derived.Test.YtdempjkkahjekaaR1
import Derived.Test.YtdempjkkahjekaaFy
import Derived.Test.YtdempjkkahjekaaRb
import Derived.RegionTactic
import Derived.Deep.DeepCutAuto
import Derived.BigRegion
namespace Go.Proofs.Ytdempjkkahjekaa
open Go.RowKit Go.Shelf

theorem rmul_nat (x y : Nat) (hx : x < 256) (hy : y < 256) (w : World) :
    Calls Try.prog 50 #[.int .u8 (x : Nat), .int .u8 (y : Nat)] w fun e w' => e = .returned (.int .u8 (Gf.mul x y : Nat)) ∧ w' = w := rmul_any x y hx hy w

set_option maxHeartbeats 1000000 in
set_option maxRecDepth 100000 in
theorem rvalue_any (a : Option Addr) (len cap : Nat) (f : Nat → Nat) (x : Nat) (hx : x < 256) (hm : len ≤ 1000000000000) (w : World) (hS : Sl w a len cap f) :
    Calls Try.prog 31 #[.slice a len cap, .int .u8 (x : Nat)] w fun e w' => e = .returned (.int .u8 (Pf.ev f x len : Nat)) ∧ w' = w := by
  have HS := Lib.hid hS; clear hS
  go_enter Try.func31, Try.ntmps31
  go_wp2_with fail
  go_loopw [5, 6, 7] (fun s p i wr => ∃ k : Nat, k ≤ len ∧ i = .int .i64 k ∧ s = .int .u8 (Pf.ev f x k : Nat) ∧ p = .int .u8 (Pf.pn x k : Nat) ∧ wr = w) (fun _ _ i _ => len - (intOf i).toNat)
  case atStart => exact ⟨0, by omega, rfl, rfl, rfl, rfl⟩
  case round =>
    obtain ⟨k, hk, rfl, rfl, rfl, rfl⟩ := hrel
    by_cases hlt : k < len
    · obtain ⟨b, off, e1, c1⟩ := HS.out.at_ hlt
      have d1 := HS.out.bytes k
      have d2 := Pf.pn_lt hx k
      have d3 := Pf.ev_lt HS.out.bytes hx k
      have d4 := Gf.mul_lt d1 d2
      have HV := Lib.hid (show Pf.ev f x (k + 1) = Pf.ev f x k ^^^ Gf.mul (f k) (Pf.pn x k) from rfl)
      have HP := Lib.hid (show Pf.pn x (k + 1) = Gf.mul (Pf.pn x k) x from rfl)
      subst e1
      generalize Pf.ev f x k = s at *
      generalize Pf.pn x k = p at *
      have hx2 := u8_xor_nat s (Gf.mul (f k) p) d3 d4
      have i1 : (k : Int) < (len : Int) := by omega
      go_wp2_with fail
      refine (rmul_nat (f k) p d1 d2 _).mono ?_
      rintro e w' ⟨rfl, rfl⟩
      go_wp2_with fail
      refine (rmul_nat p x d2 hx _).mono ?_
      rintro e w' ⟨rfl, rfl⟩
      go_wp2
      go_roundw
      case rel => exact ⟨k + 1, by omega, by go_num, by rw [HV.out], by rw [HP.out], by trivial⟩
      case measure => simp [intOf]; omega
    · obtain rfl : k = len := by omega
      go_wp2
      go_ret
      exact ⟨rfl, rfl⟩

set_option maxHeartbeats 2000000 in
set_option maxRecDepth 100000 in
theorem radd_any (a a' : Option Addr) (l c l' c' : Nat) (f f' : Nat → Nat) (hm : l ≤ 1000000000) (hm' : l' ≤ 1000000000) (w : World) (h1 : Sl w a l c f) (h2 : Sl w a' l' c' f') :
    Calls Try.prog 48 #[.slice a l c, .slice a' l' c'] w fun e w' => ∃ n, Pf.Ln (fun i => f i ^^^ f' i) n ∧ Gives w n (fun i => f i ^^^ f' i) e w' := by
  have H1 := Lib.hid h1; have H2 := Lib.hid h2; clear h1 h2
  obtain ⟨i0, hi, hz0, hz1, hz2⟩ := info_parts Try.infoU8
  have HI := Lib.hid hi; have HZ0 := Lib.hid hz0; have HZ1 := Lib.hid hz1; have HZ2 := Lib.hid hz2
  clear hi hz0 hz1 hz2
  obtain ⟨N, hN, hN1, hN2⟩ : ∃ N, N = max l l' ∧ l ≤ N ∧ l' ≤ N := ⟨_, rfl, Nat.le_max_left _ _, Nat.le_max_right _ _⟩
  have hN3 : N ≤ 1000000000 := by omega
  have HN := Lib.hid hN; clear hN
  go_enter Try.func48, Try.ntmps48
  go_upto_region 1 with fail
  go_cut [5] (fun s5 wx => s5 = .slice (some ⟨w.heap.size, 0, none⟩) N N ∧ Bl wx w.heap.size N N (fun _ => 0) ∧ Below w.heap.size w wx)
  case first =>
    have hmx : (max (l : Int) (l' : Int)) = (N : Int) := by rw [HN.out]; omega
    rcases Nat.lt_or_ge l l' with hc | hc
    · have hc' : (l : Int) < (l' : Int) := by omega
      go_wp2_with (at_make; refine wpList_make_full _ rfl _ _ _ rfl w.heap.size 5 i0 (.int .u8 0) 1 Try.underlying22 HI.out HZ0.out HZ1.out .i64 .i64 _ _ N rfl rfl (by rw [HN.out]; omega) (by rw [HN.out]; omega) (by rw [HZ2.out]; omega) (by unfold maxLen; omega) (Nat.le_refl _) ?_; intro w3 hown hgrow; have HO := Lib.hid (Bl.of_owns hown (h := fun _ => 0) (fun i hi => by rw [Nat.mul_one]; exact get_zeros hi)); have HB3 := Lib.hid ((Below.refl w.heap.size w).grown hgrow (Nat.le_refl _) (fun k e => by cases e)); clear hown hgrow)
      go_meet
      exact ⟨rfl, HO.out, HB3.out⟩
    · have hc' : ¬ (l : Int) < (l' : Int) := by omega
      go_wp2_with (at_make; refine wpList_make_full _ rfl _ _ _ rfl w.heap.size 5 i0 (.int .u8 0) 1 Try.underlying22 HI.out HZ0.out HZ1.out .i64 .i64 _ _ N rfl rfl (by rw [HN.out]; omega) (by rw [HN.out]; omega) (by rw [HZ2.out]; omega) (by unfold maxLen; omega) (Nat.le_refl _) ?_; intro w3 hown hgrow; have HO := Lib.hid (Bl.of_owns hown (h := fun _ => 0) (fun i hi => by rw [Nat.mul_one]; exact get_zeros hi)); have HB3 := Lib.hid ((Below.refl w.heap.size w).grown hgrow (Nat.le_refl _) (fun k e => by cases e)); clear hown hgrow)
      go_meet
      exact ⟨rfl, HO.out, HB3.out⟩
  case rest =>
    obtain ⟨rfl, hbl0, hB0⟩ := hcut
    have HBL0 := Lib.hid hbl0; have HB0 := Lib.hid hB0; clear hbl0 hB0
    obtain ⟨H, hH⟩ : ∃ H, H = w.heap.size := ⟨_, rfl⟩
    rw [← hH] at HBL0 HB0 ⊢
    have HH := Lib.hid hH; clear hH
    go_wp2_with fail
    go_loopw [6] (fun i wr => ∃ k : Nat, k ≤ l ∧ i = .int .i64 k ∧ Bl wr H N N (fun n => if n < k then f n else 0) ∧ Below H w wr) (fun i _ => l - (intOf i).toNat)
    case atStart => exact ⟨0, by omega, rfl, HBL0.out.congr (fun i _ => by rw [if_neg (by omega)]), HB0.out⟩
    case round =>
      obtain ⟨k, hk, rfl, hbl, hB⟩ := hrel
      obtain ⟨wo, rfl⟩ : ∃ wo : World, wo = wr := ⟨_, rfl⟩
      by_cases hlt : k < l
      · obtain ⟨b, off, e1, c1⟩ := (H1.out.below hB (fun ad ha hl => by rw [HH.out]; exact H1.out.lt ad ha hl)).at_ hlt
        have c2 := hbl.cell (i := k) (by omega)
        have c3 := hbl.free k
        have HBL := Lib.hid hbl; have HB := Lib.hid hB; have E1 := Lib.hid e1
        clear hbl hB
        subst e1
        rw [if_neg (by omega)] at c2
        have i1 : (k : Int) < (l : Int) := by omega
        have i2 : (k : Int) < (N : Int) := by omega
        go_wp2
        go_roundw
        case rel =>
          refine ⟨k + 1, by omega, by go_num, (HBL.out.set (by omega) _).congr (fun i _ => ?_), HB.out.setCell (p := ⟨H, k, none⟩) (Nat.le_refl _) _⟩
          by_cases e : i = k
          · subst e; rw [if_pos rfl, if_pos (by omega)]
          · rw [if_neg e]
            by_cases e2 : i < k
            · rw [if_pos e2, if_pos (by omega)]
            · rw [if_neg e2, if_neg (by omega)]
        case measure => simp [intOf]; omega
      · obtain rfl : k = l := by omega
        have HBL := Lib.hid (hbl.congr (h' := f) (fun i _ => by
          by_cases e : i < k
          · rw [if_pos e]
          · rw [if_neg e]; exact (H1.out.up i (by omega)).symm))
        have HB := Lib.hid hB
        clear hbl hB hlt
        go_wp2_with fail
        go_loopw [7] (fun i wr => ∃ j : Nat, j ≤ l' ∧ i = .int .i64 j ∧ Bl wr H N N (fun n => if n < j then f n ^^^ f' n else f n) ∧ Below H w wr) (fun i _ => l' - (intOf i).toNat)
        case atStart => exact ⟨0, by omega, rfl, HBL.out.congr (fun i _ => by rw [if_neg (by omega)]), HB.out⟩
        case round =>
          obtain ⟨j, hj, rfl, hbl, hB⟩ := hrel
          obtain ⟨wi, rfl⟩ : ∃ wi : World, wi = wr := ⟨_, rfl⟩
          by_cases hlj : j < l'
          · obtain ⟨b, off, e1, c1⟩ := (H2.out.below hB (fun ad ha hl => by rw [HH.out]; exact H2.out.lt ad ha hl)).at_ hlj
            have c2 := hbl.cell (i := j) (by omega)
            have c3 := hbl.free j
            have HBL1 := Lib.hid hbl; have HB1 := Lib.hid hB; have E1 := Lib.hid e1
            clear hbl hB
            subst e1
            rw [if_neg (by omega)] at c2
            have d1 := H1.out.bytes j
            have d2 := H2.out.bytes j
            have hx2 := u8_xor_nat (f j) (f' j) d1 d2
            have i1 : (j : Int) < (l' : Int) := by omega
            have i2 : (j : Int) < (N : Int) := by omega
            go_wp2_with fail
            refine Rb.wp_region_quiet_tail 12 (by kernel_rfl) (by kernel_rfl) ?_
            simp only [List.take_succ_cons, List.take_zero, List.drop_succ_cons, List.drop_zero]
            repeat (go_big_quiet_step (fail))
            refine wpQuiet_nil ?_
            rintro _ ⟨kk, rfl⟩
            go_wp2
            go_roundw
            case rel =>
              refine ⟨j + 1, by omega, by go_num, ((HBL1.out.drewN kk).set (by omega) _).congr (fun i _ => ?_), (below_drewN HB1.out kk).setCell (p := ⟨H, j, none⟩) (Nat.le_refl _) _⟩
              by_cases e : i = j
              · subst e; rw [if_pos rfl, if_pos (by omega)]
              · rw [if_neg e]
                by_cases e2 : i < j
                · rw [if_pos e2, if_pos (by omega)]
                · rw [if_neg e2, if_neg (by omega)]
            case measure => simp [intOf]; omega
          · obtain rfl : j = l' := by omega
            have HBL1 := Lib.hid (hbl.congr (h' := fun i => f i ^^^ f' i) (fun i _ => by
              by_cases e : i < j
              · rw [if_pos e]
              · rw [if_neg e]
                show _ = f i ^^^ f' i
                rw [H2.out.up i (by omega), Nat.xor_zero]))
            have HB1 := Lib.hid hB
            clear hbl hB hlj
            have hs : Sl wi (some ⟨H, 0, none⟩) N N (fun i => f i ^^^ f' i) := HBL1.out.sl (Nat.le_refl _) (by unfold maxLen; omega) (fun i => Gf.xor_lt (H1.out.bytes i) (H2.out.bytes i)) (fun i hi => by
              show f i ^^^ f' i = 0
              rw [H1.out.up i (by omega), H2.out.up i (by omega)]; rfl)
            have HS := Lib.hid hs; clear hs
            go_wp2_with fail
            refine (rlean_any _ N N (fun i => f i ^^^ f' i) (by omega) _ HS.out).mono ?_
            rintro e w4 ⟨a4, c4, rfl, hN4, hB4⟩
            have HN4 := Lib.hid hN4; have HB4 := Lib.hid hB4; clear hN4 hB4
            go_wp2
            go_ret
            have hb1 := HB1.out
            rw [HH.out] at hb1
            exact ⟨_, Pf.ln_Ln N HS.out.up, a4, c4, rfl, HN4.out.mono hb1.size, hb1.trans (HB4.out.mono hb1.size)⟩
end Go.Proofs.Ytdempjkkahjekaa
