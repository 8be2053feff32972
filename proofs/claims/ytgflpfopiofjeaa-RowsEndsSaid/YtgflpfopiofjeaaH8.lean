import Derived.Test.YtgflpfopiofjeaaH7
namespace Go.Proofs.Ytgflpfopiofjeaa
open Go.RowKit Go.Shelf

/-- one matrix turned: what stands in memory. -/
structure XO (w : World) (GX n cx wx : Nat) (bx : Nat → Nat) (wr : World) (X : Nat → Nat → Nat) : Prop where
  gx : Gr wr w.heap.size GX n cx bx (fun _ => wx) (fun _ => wx) X
  be : Below w.heap.size w wr
section
variable {w wr w' : World} {GX n cx wx : Nat} {bx : Nat → Nat} {X : Nat → Nat → Nat}
theorem XO.drewN (h : XO w GX n cx wx bx wr X) (q : Nat) : XO w GX n cx wx bx (wr.drewN q) X := ⟨h.gx.drewN q, below_dr h.be q⟩
theorem XO.congr (h : XO w GX n cx wx bx wr X) {X' : Nat → Nat → Nat} (hX : Mt.Bm X') (e1 : ∀ i j, i < n → X i j = X' i j) : XO w GX n cx wx bx wr X' := ⟨h.gx.congr hX e1, h.be⟩
theorem XO.setx (h : XO w GX n cx wx bx wr X) {r : Nat} (hr : r < n) (hg : wr.grownBy w' (some (bx r))) {x : Nat → Nat} (hx : Bl w' (bx r) wx wx x) (hy : Pf.By x) (hu : Pf.Up x wx) : XO w GX n cx wx bx w' (fun i j => if i = r then x j else X i j) :=
  ⟨h.gx.rowset hr hg hx hy hu, h.be.grown hg h.be.size (fun k e => by cases e; exact h.gx.lo.2 r hr)⟩
theorem XO.swapx (h : XO w GX n cx wx bx wr X) {p l : Nat} (hp : p < n) (hl : l < n) :
    XO w GX n cx wx (fun i => bx (Mt.tau p l i)) ((wr.setCell ⟨GX, l, none⟩ (.slice (some ⟨bx p, 0, none⟩) wx wx)).setCell ⟨GX, p, none⟩ (.slice (some ⟨bx l, 0, none⟩) wx wx)) (Mt.swp X p l) :=
  ⟨h.gx.swap hp hl, (h.be.setCell (p := ⟨GX, l, none⟩) h.gx.lo.1 _).setCell (p := ⟨GX, p, none⟩) h.gx.lo.1 _⟩
end
theorem rd_none (w : World) : Rd w none 0 0 (fun _ => none) (fun _ => 0) (fun _ => 0) (fun _ _ => 0) :=
  ⟨Nat.le_refl _, by unfold maxLen; omega, fun _ _ => (by omega : 0 < 256), fun _ => ⟨rfl, rfl⟩, fun _ e => (by cases e), fun _ e => (by cases e), fun i hi => absurd hi (Nat.not_lt_zero i)⟩
/-- what reduced answers of one matrix. -/
def Steps (w : World) (n wx : Nat) (F : Nat → Nat → Nat) (e : Ending) (w' : World) : Prop :=
  ∃ x y, e = .returned (.tuple #[x, y, .int .i64 ((Mt.gj n F wx).1 : Nat)]) ∧ Below w.heap.size w w'

set_option maxHeartbeats 4000000 in
set_option maxRecDepth 100000 in
theorem reduced_empty (a b : Option Addr) (cap capb : Nat) (r rb : Nat → Option Addr) (l c lb cb : Nat → Nat) (f fb : Nat → Nat → Nat) (w : World) (hR : Rd w a 0 cap r l c f) (hRb : Rd w b 0 capb rb lb cb fb) :
    Calls Try.prog 41 #[.slice a 0 cap, .slice b 0 capb] w (Reduces w 0 0 0 (fun _ _ => 0)) := by
  have HR := Lib.hid hR; have HRb := Lib.hid hRb; clear hR hRb
  have HCA := Lib.hid (show ∀ w, Rd w a 0 cap r l c f → Calls Try.prog 34 #[.slice a 0 cap] w fun e w' => e = .returned (.int .i64 ((0 : Nat) : Int)) ∧ w' = w from fun w h => rcolumns_any a 0 cap r l c f w h)
  have HCB := Lib.hid (show ∀ w, Rd w b 0 capb rb lb cb fb → Calls Try.prog 34 #[.slice b 0 capb] w fun e w' => e = .returned (.int .i64 ((0 : Nat) : Int)) ∧ w' = w from fun w h => rcolumns_any b 0 capb rb lb cb fb w h)
  go_enter Try.func41, Try.ntmps41
  go_wp2_with fail
  refine (HCA.out _ HR.out).mono ?_
  rintro e w0 ⟨rfl, rfl⟩
  go_wp2_with fail
  refine (zeros_any 0 0 (by omega) (by omega) _).mono ?_
  rintro e w1 ⟨ax, cx, bx, rfl, hG, hB⟩
  have HB1 := Lib.hid hB; clear hG hB
  go_wp2_with fail
  refine (HCB.out _ (HRb.out.same HB1.out)).mono ?_
  rintro e w0' ⟨rfl, rfl⟩
  go_wp2_with fail
  refine (zeros_any 0 0 (by omega) (by omega) _).mono ?_
  rintro e w2 ⟨ay, cy, by', rfl, hG, hB⟩
  have HG := Lib.hid (hG.mono HB1.out.size); have HB2 := Lib.hid (HB1.out.trans (hB.mono HB1.out.size)); clear hG hB
  go_wp2_with fail
  go_loopw [9] (fun i wr => i = .int .i64 0 ∧ wr = w2) (fun _ _ => 0)
  case atStart => exact ⟨rfl, rfl⟩
  case round =>
    obtain ⟨rfl, rfl⟩ := hrel
    rename_i wr _
    go_wp2_with fail
    go_loopw [10, 11] (fun st i wr' => st = .int .i64 0 ∧ i = .int .i64 0 ∧ wr' = wr) (fun _ _ _ => 0)
    case atStart => exact ⟨rfl, rfl, rfl⟩
    case round =>
      obtain ⟨rfl, rfl, rfl⟩ := hrel
      go_wp2_with fail
      refine (HCA.out _ (HR.out.same HB2.out)).mono ?_
      rintro e w7 ⟨rfl, rfl⟩
      go_wp2
      go_ret3
      exact ⟨ax, cx, ay, cy, by', rfl, HG.out.congr (shf_bm (M := fun _ _ => 0) (fun _ _ => (by omega : 0 < 256)) 0 0 0) (fun i j hi => absurd hi (Nat.not_lt_zero i)), HB2.out⟩

set_option maxHeartbeats 8000000 in
set_option maxRecDepth 100000 in
theorem reduced_one (a : Option Addr) (n cap wx : Nat) (r : Nat → Option Addr) (l c : Nat → Nat) (f F : Nat → Nat → Nat) (hn0 : 0 < n) (hn : n ≤ 255) (hwx : wx ≤ 255) (w : World) (hR : Rd w a n cap r l c f)
    (hl : ∀ i, i < n → l i = wx) (hF : Mt.Bm F) (e1 : ∀ i, i < n → f i = cl n wx F i) :
    Calls Try.prog 41 #[.slice a n cap, .slice none 0 0] w (Steps w n wx F) := by
  have HR := Lib.hid hR; have HL := Lib.hid hl; have HF := Lib.hid hF; have E1 := Lib.hid e1
  clear hR hl hF e1
  have HCA := Lib.hid (show ∀ w, Rd w a n cap r l c f → Calls Try.prog 34 #[.slice a n cap] w fun e w' => e = .returned (.int .i64 (wx : Nat)) ∧ w' = w from fun w h => by
    have := rcolumns_any a n cap r l c f w h
    rw [show wd n l = wx by unfold wd; rw [if_neg (by omega)]; exact HL.out 0 hn0] at this; exact this)
  have HCB := Lib.hid (show ∀ w, Calls Try.prog 34 #[.slice none 0 0] w fun e w' => e = .returned (.int .i64 ((0 : Nat) : Int)) ∧ w' = w from fun w => rcolumns_any none 0 0 _ _ _ _ w (rd_none w))
  have HXB := Lib.hid (cl_bm HF.out n wx)
  go_enter Try.func41, Try.ntmps41
  go_wp2_with fail
  refine (HCA.out _ HR.out).mono ?_
  rintro e w0 ⟨rfl, rfl⟩
  go_wp2_with fail
  refine (zeros_any n wx (by omega) (by omega) _).mono ?_
  rintro e w1 ⟨ax, cx, bx, rfl, hG, hB⟩
  obtain ⟨GX, ea, hGX⟩ := hG.pos hn0
  subst ea
  have HGX := Lib.hid hGX; have HB1 := Lib.hid hB; clear hG hGX hB
  go_wp2_with fail
  refine (HCB.out _).mono ?_
  rintro e w0' ⟨rfl, rfl⟩
  go_wp2_with fail
  refine (zeros_any 0 0 (by omega) (by omega) _).mono ?_
  rintro e w2 ⟨ay, cy, by', rfl, hG, hB⟩
  have hxy : XO w0 GX n cx wx bx w2 (firstR 0 (cl n wx F)) := XO.congr ⟨HGX.out.same hB, HB1.out.trans (hB.mono HB1.out.size)⟩ (firstR_bm HXB.out 0) (fun _ _ _ => rfl)
  have HXY := Lib.hid hxy
  have hcx := HGX.out.nc.1
  clear hG hB hxy HGX
  go_wp2_with fail
  go_loopw [9] (fun i wr => ∃ k : Nat, k ≤ n ∧ i = .int .i64 k ∧ XO w0 GX n cx wx bx wr (firstR k (cl n wx F))) (fun i _ => n - (intOf i).toNat)
  case atStart => exact ⟨0, by omega, rfl, HXY.out⟩
  case round =>
    rename_i wr
    obtain ⟨k, hk, rfl, hxy⟩ := hrel
    obtain ⟨wo, rfl⟩ : ∃ wo : World, wo = wr := ⟨_, rfl⟩
    have HXY1 := Lib.hid hxy; clear hxy
    by_cases hkn : k < n
    · have i1 : (k : Int) < (n : Int) := by omega
      have i0 : decide ((k : Int) < 0) = false := by simp
      have ra := HR.out.same HXY1.out.be
      obtain ⟨ab, ao, ea, ca⟩ := ra.at_ hkn
      have rowa := ra.row k hkn
      have cg := HXY1.out.gx.cell hkn
      rw [HL.out k hkn] at rowa ca
      rw [E1.out k hkn] at rowa
      subst ea
      have HROW := Lib.hid rowa
      clear ra rowa
      go_wp2_with fail
      go_still_tail 8, (by kernel_rfl)
      change wpList _ _ _ _ _ wo.drew
      obtain ⟨w3, hw3⟩ : ∃ w3, w3 = wo.drew := ⟨_, rfl⟩
      have hX3 : XO w0 GX n cx wx bx w3 (firstR k (cl n wx F)) := by rw [hw3]; exact HXY1.out.drewN 1
      have hS3 : Sl w3 (r k) wx (c k) (cl n wx F k) := by rw [hw3]; exact HROW.out.drewN 1
      rw [← hw3]
      have HX3 := Lib.hid hX3; have HS3 := Lib.hid hS3; clear hX3 hS3 hw3 ca cg
      refine wpList_copy_bl rfl (.tmp 36) (.tmp 40) 23 23 rfl 5 Try.underlying23 Try.sizeU8 _ _ _ _ _ _ wx rfl rfl ?_ (bx k) 0 wx wx _ _ (HX3.out.gx.row k hkn) (fun _ => HS3.out) (fun _ => rfl) (by omega) (Nat.le_refl _) ?_
      · show wx = min wx wx; omega
      intro w4 HBL HGR
      have hbl := HBL.out
      rw [cpy_all rfl (cl_up n wx F k) (HX3.out.gx.up k hkn)] at hbl
      have HX4 := Lib.hid ((HX3.out.setx hkn HGR.out hbl (HXB.out k) (cl_up n wx F k)).congr (firstR_bm HXB.out (k + 1)) (fun i j _ => firstR_s k (cl n wx F) i j))
      clear hbl HBL HGR
      go_wp2_with fail
      go_roundw
      case rel => exact ⟨k + 1, by omega, by go_num, HX4.out⟩
      case measure => simp [intOf]; omega
    · obtain rfl : n = k := by omega
      have HS := Lib.hid (show XO w0 GX n cx wx bx wo (cl n wx (Mt.gj n F 0).2) from HXY1.out.congr HXB.out (fun i j hi => if_pos hi))
      have i1 : ¬ (n : Int) < (n : Int) := by omega
      clear hkn HXY1
      go_wp2_with fail
      clear i1
      go_loopw [10, 11] (fun st i wr => ∃ (q : Nat) (bx : Nat → Nat), q ≤ wx ∧ i = .int .i64 q ∧ st = .int .i64 ((Mt.gj n F q).1 : Nat) ∧ XO w0 GX n cx wx bx wr (cl n wx (Mt.gj n F q).2)) (fun _ i _ => wx - (intOf i).toNat)
      case atStart => exact ⟨0, bx, by omega, rfl, rfl, HS.out⟩
      case round =>
        rename_i wr
        clear HS
        obtain ⟨q, bx2, hq, rfl, rfl, hxy⟩ := hrel
        obtain ⟨wp, rfl⟩ : ∃ wp : World, wp = wr := ⟨_, rfl⟩
        have HX := Lib.hid hxy; clear hxy
        have HE := Lib.hid (Mt.gj_ech HF.out n q)
        by_cases hqw : q < wx
        rotate_left
        · obtain rfl : wx = q := by omega
          have j1 : decide (wx < wx) = false := by simp
          go_wp2_with fail
          refine (HCA.out _ (HR.out.same HX.out.be)).mono ?_
          rintro e w7 ⟨rfl, rfl⟩
          go_wp2
          go_ret3
          exact ⟨_, _, rfl, HX.out.be⟩
        have j1 : decide (q < wx) = true := by simp; exact hqw
        have HN := Lib.hid (show Mt.gj n F (q + 1) = Mt.stp n q (Mt.gj n F q) from rfl)
        generalize Mt.gj n F q = s at *
        have hlh := HE.out.lh
        have hlc := HE.out.lc
        go_wp2_with fail
        refine (HCA.out _ (HR.out.same HX.out.be)).mono ?_
        rintro e w7 ⟨rfl, rfl⟩
        clear j1
        go_wp2_with fail
        go_loop [12] (fun i => ∃ t : Nat, s.1 ≤ t ∧ t ≤ n ∧ i = .int .i64 t ∧ ∀ j, s.1 ≤ j → j < t → s.2 j q = 0) (fun i => n - (intOf i).toNat)
        case atStart => exact ⟨s.1, by omega, hlh, rfl, fun j h1 h2 => by omega⟩
        case round =>
          obtain ⟨t, ht1, ht, rfl, hz⟩ := hrel
          have HZ := Lib.hid hz; clear hz
          by_cases htn : t < n
          rotate_left
          · obtain rfl : n = t := by omega
            have HSN := Lib.hid (HN.out.trans (Mt.stp_no (Mt.pv_eq hlh (Nat.le_refl _) HZ.out (Or.inl rfl))))
            have j1 : decide (n < n) = false := by simp
            have j2 : (((n : Nat) : Int) == (n : Int)) = true := by simp
            go_wp2_with fail
            go_roundw
            case rel => exact ⟨q + 1, bx2, by omega, by go_num, by rw [HSN.out], by rw [HSN.out]; exact HX.out⟩
            case measure => simp [intOf]; omega
          have j1 : (t : Int) < (n : Int) := by omega
          have j2 : (q : Int) < (wx : Int) := by omega
          have c1 := HX.out.gx.cell htn
          have c2 := (HX.out.gx.row t htn).cell hqw
          rw [cl_in htn hqw] at c2
          by_cases hz0 : s.2 t q = 0
          · have j3 : (((s.2 t q : Nat) : Int) == 0) = true := by simp [hz0]
            have HZ0 := Lib.hid hz0; clear hz0
            generalize s.2 t q = v at c2 j3
            go_wp2_with fail
            go_round
            case rel => exact ⟨t + 1, by omega, by omega, by go_num, fun j h1 h2 => by
              by_cases e : j = t
              · rw [e]; exact HZ0.out
              · exact HZ.out j h1 (by omega)⟩
            case measure => simp [intOf]; omega
          · have j3 : (((s.2 t q : Nat) : Int) == 0) = false := by simp; omega
            have HSY := Lib.hid (HN.out.trans (Mt.stp_yes (Mt.pv_eq ht1 ht HZ.out (Or.inr hz0)) (by omega)))
            have j4 := eq_no (show t ≠ n by omega)
            have hln : s.1 < n := by omega
            clear hz0
            generalize s.2 t q = v at c2 j3
            go_upto_region 16 with fail
            clear j3 c1 c2
            go_cut [13] from 55 to 180 (fun _ wx' => ∃ bx3, XO w0 GX n cx wx bx3 wx' (Mt.swp (cl n wx s.2) s.1 t))
            case first =>
              have j5 : (s.1 : Int) < (n : Int) := by omega
              have ct := HX.out.gx.cell htn
              have cl' := HX.out.gx.cell hln
              have ft := HX.out.gx.free t
              have fl := HX.out.gx.free s.1
              by_cases hlk : s.1 = t
              · subst hlk
                go_region
                go_wp2_with fail
                go_meet
                exact ⟨_, (HX.out.swapx htn hln).drewN 1⟩
              · go_region
                go_wp2_with fail
                go_meet
                exact ⟨_, (HX.out.swapx hln htn).drewN 1⟩
            case rest =>
              obtain ⟨bx3, hxy⟩ := hcut
              have HX3 := Lib.hid hxy; clear hxy HX
              have HLX := Lib.hid (fun i j (hi : i < n) => lead_x (wx := wx) (M := s.2) (c := q) hln htn hqw (i := i) (j := j) hi)
              obtain ⟨X1, hX1⟩ : ∃ X1, X1 = Mt.swp (cl n wx s.2) s.1 t := ⟨_, rfl⟩
              rw [← hX1] at HX3 HLX
              have HX1 := Lib.hid hX1; clear hX1
              have hx1b := HX3.out.gx.bm
              have hpiv := hx1b s.1 q
              have HX1B := Lib.hid hx1b; clear hx1b
              have hivl := Mt.iv_lt (X1 s.1 q)
              have j5 : (s.1 : Int) < (n : Int) := by omega
              have cl' := HX3.out.gx.cell hln
              have cp := (HX3.out.gx.row s.1 hln).cell hqw
              go_wp2_with fail
              refine (rinv_nat (X1 s.1 q) hpiv _).mono ?_
              rintro e w8 ⟨rfl, rfl⟩
              go_wp2_with fail
              refine (rscale_any (bx3 s.1) wx (Mt.iv (X1 s.1 q)) (X1 s.1) _ (HX3.out.gx.row s.1 hln) (HX1B.out s.1) hivl (by omega)).mono ?_
              rintro e w9 ⟨rfl, hg, hbl⟩
              clear cl' cp
              obtain ⟨SX, hSX⟩ : ∃ SX, SX = fun j => Gf.mul (X1 s.1 j) (Mt.iv (X1 s.1 q)) := ⟨_, rfl⟩
              obtain ⟨P, hP⟩ : ∃ P, P = fun i => X1 i q := ⟨_, rfl⟩
              have hSXb : Pf.By SX := by rw [hSX]; exact fun j => Gf.mul_lt (HX1B.out s.1 j) hivl
              have hSXu : Pf.Up SX wx := by rw [hSX]; exact fun j hj => by show Gf.mul (X1 s.1 j) _ = 0; rw [HX3.out.gx.up s.1 hln j hj, Gf.zero_mul]
              have hPb : Pf.By P := by rw [hP]; exact fun i => HX1B.out i q
              have hbl2 : Bl w9 (bx3 s.1) wx wx SX := hbl.congr fun j _ => by
                rw [sclf_end (fun j hj => absurd hj (Nat.not_lt_zero j)) (by rw [Nat.zero_add]; exact HX3.out.gx.up s.1 hln), hSX]
              have hX4 := (HX3.out.setx hln hg hbl2 hSXb hSXu).congr (X' := ldg X1 SX P s.1 0) (ldg_bm HX1B.out hSXb hPb s.1 0) (fun i j _ => by unfold ldg; rw [if_neg (show ¬ i < 0 by omega)])
              have HX6 := Lib.hid hX4; have HSXb := Lib.hid hSXb; have HSXu := Lib.hid hSXu; have HPb := Lib.hid hPb
              rw [← hSX, ← hP] at HLX
              have HSX := Lib.hid hSX; have HP := Lib.hid hP
              clear hX4 hSXb hSXu hPb hbl hbl2 hg hSX hP HX3
              go_wp2_with fail
              go_loopw [15] (fun i wr => ∃ u : Nat, u ≤ n ∧ i = .int .i64 u ∧ XO w0 GX n cx wx bx3 wr (ldg X1 SX P s.1 u)) (fun i _ => n - (intOf i).toNat)
              case atStart => exact ⟨0, by omega, rfl, HX6.out⟩
              case round =>
                rename_i wr
                clear HX6
                obtain ⟨u, hu, rfl, hxy⟩ := hrel
                have HX7 := Lib.hid hxy; clear hxy
                by_cases hun : u < n
                rotate_left
                · obtain rfl : n = u := by omega
                  have g1 : ¬ (n : Int) < (n : Int) := by omega
                  go_wp2_with fail
                  go_roundw
                  case rel => exact ⟨q + 1, bx3, by omega, by go_num, by rw [HSY.out]; go_num, by
                    rw [HSY.out]
                    exact HX7.out.congr (cl_bm (Mt.ldd_bm (Mt.swp_bm HE.out.bm t s.1) s.1 q) n wx) (fun i j hi => HLX.out i j hi)⟩
                  case measure => simp [intOf]; omega
                have g1 : (u : Int) < (n : Int) := by omega
                have cu := HX7.out.gx.cell hun
                have cuq := (HX7.out.gx.row u hun).cell hqw
                by_cases hus : u = s.1
                · have g2 := eq_yes hus
                  generalize ldg X1 SX P s.1 u u q = pt at cuq
                  have HUS := Lib.hid hus; clear hus
                  go_wp2_with fail
                  go_roundw
                  case rel => exact ⟨u + 1, by omega, by go_num, HX7.out.congr (ldg_bm HX1B.out HSXb.out HPb.out s.1 (u + 1)) (fun i j _ => by rw [← HUS.out]; exact (ldg_r X1 SX P u i j).symm)⟩
                  case measure => simp [intOf]; omega
                · have g2 := eq_no hus
                  have hpu : ldg X1 SX P s.1 u u q = P u := by rw [ldg_at X1 SX P hus, HP.out]
                  rw [hpu] at cuq
                  have hpl := HPb.out u
                  have HUS := Lib.hid hus; clear hus hpu
                  by_cases hp0 : P u = 0
                  · have g3 : (((P u : Nat) : Int) == 0) = true := by simp [hp0]
                    have HP0 := Lib.hid hp0; clear hp0
                    generalize P u = pt at cuq g3
                    go_wp2_with fail
                    go_roundw
                    case rel => exact ⟨u + 1, by omega, by go_num, HX7.out.congr (ldg_bm HX1B.out HSXb.out HPb.out s.1 (u + 1)) (fun i j _ => ldg_0 X1 SX P HP0.out i j)⟩
                    case measure => simp [intOf]; omega
                  · have g3 : (((P u : Nat) : Int) == 0) = false := by simp; omega
                    clear hp0
                    have cl' := HX7.out.gx.cell hln
                    have j5' : (s.1 : Int) < (n : Int) := by omega
                    obtain ⟨pt, hpt⟩ : ∃ pt, pt = P u := ⟨_, rfl⟩
                    rw [← hpt] at cuq g3 hpl
                    have HPT := Lib.hid hpt; clear hpt
                    go_wp2_with fail
                    refine Rb.wp_region_quiet_tail 9 (by kernel_rfl) (by kernel_rfl) ?_
                    simp only [List.take_succ_cons, List.take_zero, List.drop_succ_cons, List.drop_zero]
                    repeat (go_big_quiet_step (fail))
                    refine wpQuiet_nil ?_
                    intro w11 hw11
                    obtain ⟨z, hz⟩ := hw11
                    have HX8 := Lib.hid (show XO w0 GX n cx wx bx3 w11 (ldg X1 SX P s.1 u) by rw [hz]; exact HX7.out.drewN z)
                    clear hz cu cuq cl'
                    go_wp2_with fail
                    refine (radd_any (bx3 u) (bx3 s.1) wx pt (X1 u) SX _ ((HX8.out.gx.row u hun).congr fun j _ => ldg_at X1 SX P HUS.out j) ((HX8.out.gx.row s.1 hln).congr fun j _ => ldg_row X1 SX P s.1 u j) (HX1B.out u) HSXb.out (fun e => HUS.out (HX8.out.gx.inj u s.1 hun hln e)) hpl (by omega)).mono ?_
                    rintro e w12 ⟨rfl, hg, hbl⟩
                    have hbl2 := hbl.congr (h' := fun j => X1 u j ^^^ Gf.mul (SX j) (P u)) fun j _ => by rw [addf_all (fun j hj => absurd hj (Nat.not_lt_zero j)) (by rw [Nat.zero_add]; exact HSXu.out), HPT.out]
                    have hxb : Pf.By (fun j => X1 u j ^^^ Gf.mul (SX j) (P u)) := fun j => Gf.xor_lt (HX1B.out u j) (Gf.mul_lt (HSXb.out j) (HPb.out u))
                    have hxu : Pf.Up (fun j => X1 u j ^^^ Gf.mul (SX j) (P u)) wx := fun j hj => by
                      show X1 u j ^^^ Gf.mul (SX j) (P u) = 0
                      have h1 := HX8.out.gx.up u hun j hj
                      rw [ldg_at X1 SX P HUS.out] at h1
                      rw [h1, HSXu.out j hj, Gf.zero_mul]; rfl
                    have HX9 := Lib.hid ((HX8.out.setx hun hg hbl2 hxb hxu).congr (X' := ldg X1 SX P s.1 (u + 1)) (ldg_bm HX1B.out HSXb.out HPb.out s.1 (u + 1)) (fun i j _ => ldg_s X1 SX P HUS.out i j))
                    clear hg hbl hbl2 hxb hxu HX8
                    go_wp2_with fail
                    go_roundw
                    case rel => exact ⟨u + 1, by omega, by go_num, HX9.out⟩
                    case measure => simp [intOf]; omega
end Go.Proofs.Ytgflpfopiofjeaa
