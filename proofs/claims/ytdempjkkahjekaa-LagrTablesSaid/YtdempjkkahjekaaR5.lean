import Derived.Test.YtdempjkkahjekaaR4
import Derived.Test.YtdempjkkahjekaaPv
namespace Go.Proofs.Ytdempjkkahjekaa
open Go.RowKit Go.Shelf

/-- what the document's Through answers. -/
def RThSays (w : World) (l l' : Nat) (xs ys : Nat → Nat) (e : Ending) (w' : World) : Prop :=
  l ≠ l' ∧ e = .returned (.tuple #[.slice none 0 0, .int .i64 2]) ∧ Below w.heap.size w w' ∨
  l = l' ∧ (∃ i j, i < j ∧ j < l ∧ xs i = xs j) ∧ e = .returned (.tuple #[.slice none 0 0, .int .i64 9]) ∧ Below w.heap.size w w' ∨
  l = l' ∧ ∃ a n c S, e = .returned (.tuple #[.slice a n c, .int .i64 0]) ∧ Sl w' a n c S ∧ Pf.Ln S n ∧ Pf.Lag xs ys l l S ∧ (∀ i j, i < j → j < l → xs i ≠ xs j) ∧ Below w.heap.size w w'

theorem sl_one (w : World) : Sl (w.alloc (.cells #[.int .u8 1] 5)) (some ⟨w.heap.size, 0, none⟩) 1 1 (Pf.sc 1) := sl_single w 1 (by omega)
theorem sl_lin (w : World) (x : Nat) (hx : x < 256) : Sl (w.alloc (.cells #[.int .u8 (x : Nat), .int .u8 1] 5)) (some ⟨w.heap.size, 0, none⟩) 2 2 (Pf.lin x) :=
  (Bl.alloc w [.int .u8 (x : Nat), .int .u8 1] (Pf.lin x) (fun i hi => by
    rcases (show i = 0 ∨ i = 1 by simp at hi; omega) with rfl | rfl <;> rfl)).sl (Nat.le_refl _) (by unfold maxLen; simp) (Pf.lin_by hx) (Pf.lin_up x)

set_option maxHeartbeats 4000000 in
set_option maxRecDepth 100000 in
theorem rthrough_any (a a' : Option Addr) (l c l' c' : Nat) (xs ys : Nat → Nat) (hm : l ≤ 1000000) (hm' : l' ≤ 1000000) (w : World) (h1 : Sl w a l c xs) (h2 : Sl w a' l' c' ys) :
    Calls Try.prog 30 #[.slice a l c, .slice a' l' c'] w (RThSays w l l' xs ys) := by
  have H1 := Lib.hid h1; have H2 := Lib.hid h2; clear h1 h2
  by_cases hne : l ≠ l'
  · have g1 : ((l : Int) != (l' : Int)) = true := by simp; omega
    have HN := Lib.hid hne; clear hne
    go_enter Try.func30, Try.ntmps30
    go_wp2
    go_ret2
    exact Or.inl ⟨HN.out, rfl, Below.refl _ _⟩
  obtain rfl : l = l' := by omega
  clear hne
  have g1 : ((l : Int) != (l : Int)) = false := by simp
  go_enter Try.func30, Try.ntmps30
  go_wp2_with fail
  clear g1
  go_loopw [6] (fun i wr => ∃ k : Nat, k ≤ l ∧ i = .int .i64 k ∧ (∀ i j, i < j → j < k → xs i ≠ xs j) ∧ ∃ q, wr = w.drewN q) (fun i _ => l - (intOf i).toNat)
  case atStart => exact ⟨0, by omega, rfl, fun i j _ h => by omega, 0, rfl⟩
  case round =>
    obtain ⟨i, hi, rfl, hdis, q, rfl⟩ := hrel
    have HD := Lib.hid hdis; clear hdis
    by_cases hlt : i < l
    · have i1 : (i : Int) < (l : Int) := by omega
      obtain ⟨b1, o1, e1, c1⟩ := H1.out.at_ hlt
      have E1 := Lib.hid (show a = some ⟨b1, o1, none⟩ from e1)
      subst e1
      go_wp2_with fail
      go_loopw [7] (fun i' wr => ∃ k : Nat, k ≤ i ∧ i' = .int .i64 k ∧ (∀ j, j < k → xs j ≠ xs i) ∧ ∃ q, wr = w.drewN q) (fun i' _ => i - (intOf i').toNat)
      case atStart => exact ⟨0, by omega, rfl, fun j h => by omega, q, rfl⟩
      case round =>
        obtain ⟨k, hk, rfl, hdk, q2, rfl⟩ := hrel
        have HDK := Lib.hid hdk; clear hdk
        by_cases hlk : k < i
        · obtain ⟨b2, o2, e2, c2⟩ := H1.out.at_ (k := k) (by omega)
          obtain ⟨rfl, rfl⟩ : b2 = b1 ∧ o2 = o1 := by simpa using e2.symm
          clear e2
          have i2 : (k : Int) < (i : Int) := by omega
          have i3 : (k : Int) < (l : Int) := by omega
          by_cases heq : xs i = xs k
          · have g2 : (((xs i : Nat) : Int) == ((xs k : Nat) : Int)) = true := by simp [heq]
            have HEQ := Lib.hid heq; clear heq
            go_wp2_with fail
            go_quiet (fail)
            go_wp2
            go_ret2
            exact Or.inr (Or.inl ⟨rfl, ⟨k, i, hlk, hlt, HEQ.out.symm⟩, rfl, below_drewN (below_drewN (Below.refl _ _) q2) nq⟩)
          · have g2 : (((xs i : Nat) : Int) == ((xs k : Nat) : Int)) = false := by simp; omega
            have HEQ := Lib.hid heq; clear heq
            go_wp2_with fail
            go_quiet (fail)
            go_wp2
            go_roundw
            case rel => exact ⟨k + 1, by omega, by go_num, fun j hj => by
              by_cases e : j = k
              · rw [e]; exact fun h => HEQ.out h.symm
              · exact HDK.out j (by omega), q2 + nq, rfl⟩
            case measure => simp [intOf]; omega
        · obtain rfl : k = i := by omega
          go_wp2
          go_roundw
          case rel => exact ⟨k + 1, by omega, by go_num, fun x y hxy hy => by
            by_cases e : y = k
            · rw [e]; exact HDK.out x (by omega)
            · exact HD.out x y hxy (by omega), q2, rfl⟩
          case measure => simp [intOf]; omega
    · obtain rfl : i = l := by omega
      have HB0 := Lib.hid (below_drewN (Below.refl w.heap.size w) q)
      obtain ⟨w0, hw0⟩ : ∃ w0, w0 = w.drewN q := ⟨_, rfl⟩
      rw [← hw0] at HB0 ⊢
      clear hw0 hlt
      go_wp2_with fail
      have hl0 := HB0.out.size
      go_loopw [8, 9] (fun o kx wr => ∃ k sa sn sc S, k ≤ i ∧ kx = .int .i64 (k : Nat) ∧ o = .slice sa sn sc ∧ Sl wr sa sn sc S ∧ Pf.Ln S sn ∧ Pf.Lag xs ys i k S ∧ Below w.heap.size w wr) (fun _ kx _ => i - (intOf kx).toNat)
      case atStart => exact ⟨0, none, 0, 0, fun _ => 0, by omega, rfl, rfl, (Nw.nil w0 0 (fun _ => rfl)).sl, ⟨fun _ _ => rfl, Or.inl rfl⟩, Pf.Lag.start xs ys i, HB0.out⟩
      case round =>
        obtain ⟨k, sa, sn, sc, S, hk, rfl, rfl, hS, hLS, hLag, hB⟩ := hrel
        obtain ⟨wo, rfl⟩ : ∃ wo : World, wo = wr := ⟨_, rfl⟩
        have HS := Lib.hid hS; have HLS := Lib.hid hLS; have HLag := Lib.hid hLag; have HB := Lib.hid hB
        have hsn := hLS.le hLag.up
        have hsz := hB.size
        clear hS hLS hLag hB
        by_cases hlk : k < i
        · have i1 : (k : Int) < (i : Int) := by omega
          have hp1 := sl_one wo
          have HP1 := Lib.hid hp1; clear hp1
          have HBo := Lib.hid (show Below wo.heap.size wo (wo.alloc (.cells #[.int .u8 1] 5)) from (Below.refl _ _).alloc (Nat.le_refl _) _)
          go_wp2_with fail
          go_loopw [10, 11] (fun p mx wr => ∃ m pa pn pc P, m ≤ i ∧ mx = .int .i64 (m : Nat) ∧ p = .slice pa pn pc ∧ Sl wr pa pn pc P ∧ Pf.Ln P pn ∧ Pf.Bas xs i k m P ∧ Below wo.heap.size wo wr) (fun _ mx _ => i - (intOf mx).toNat)
          case atStart => exact ⟨0, _, _, _, Pf.sc 1, by omega, rfl, rfl, HP1.out, ⟨Pf.sc_up 1, Or.inr (by decide)⟩, Pf.Bas.start xs i k, HBo.out⟩
          case round =>
            obtain ⟨m, pa, pn, pc, P, hm1, rfl, rfl, hP, hLP, hBas, hB2⟩ := hrel
            obtain ⟨wi, rfl⟩ : ∃ wi : World, wi = wr := ⟨_, rfl⟩
            have HP := Lib.hid hP; have HLP := Lib.hid hLP; have HBas := Lib.hid hBas; have HB2 := Lib.hid hB2
            have hpn := hLP.le hBas.up_le
            have HW := Lib.hid (HB.out.trans (hB2.mono hsz))
            clear hP hLP hBas hB2
            by_cases hlm : m < i
            · have i2 : (m : Int) < (i : Int) := by omega
              by_cases hmk : m = k
              · subst hmk
                have g2 : ((m : Int) != (m : Int)) = false := by simp
                go_wp2
                go_roundw
                case rel => exact ⟨m + 1, _, _, _, P, by omega, by go_num, rfl, HP.out, HLP.out, HBas.out.skip, HB2.out⟩
                case measure => simp [intOf]; omega
              · have g2 : ((m : Int) != (k : Int)) = true := by simp; omega
                obtain ⟨b1, o1, e1, c1⟩ := (H1.out.same HW.out).at_ hlm
                have E1 := Lib.hid (show a = some ⟨b1, o1, none⟩ from e1)
                subst e1
                have d1 := H1.out.bytes m
                have HLi := Lib.hid (sl_lin wi (xs m) d1)
                have HBi := Lib.hid (show Below wi.heap.size wi (wi.alloc (.cells #[.int .u8 (xs m : Nat), .int .u8 1] 5)) from (Below.refl _ _).alloc (Nat.le_refl _) _)
                go_wp2_with fail
                refine (rprod_any pa (some ⟨wi.heap.size, 0, none⟩) pn pc 2 2 P (Pf.lin (xs m)) (by omega) (by omega) _ (HP.out.same HBi.out) HLi.out).mono ?_
                rintro e w6 ⟨n6, hL6, a6, c6, rfl, hN6, hB6⟩
                have HL6 := Lib.hid hL6; have HP6 := Lib.hid hN6.sl; have HB6 := Lib.hid (HBi.out.trans (hB6.mono HBi.out.size))
                have HMK := Lib.hid hmk
                clear hL6 hN6 hB6 hmk
                go_wp2
                go_roundw
                case rel => exact ⟨m + 1, _, _, _, _, by omega, by go_num, rfl, HP6.out, HL6.out, HBas.out.step H1.out.bytes hlm hlk HMK.out, HB2.out.trans (HB6.out.mono HB2.out.size)⟩
                case measure => simp [intOf]; omega
            · obtain rfl : m = i := by omega
              obtain ⟨b1, o1, e1, c1⟩ := (H1.out.same HW.out).at_ hlk
              obtain ⟨b2, o2, e2, c2⟩ := (H2.out.same HW.out).at_ hlk
              have E1 := Lib.hid (show a = some ⟨b1, o1, none⟩ from e1)
              have E2 := Lib.hid (show a' = some ⟨b2, o2, none⟩ from e2)
              subst e1 e2
              have d1 := H1.out.bytes k
              have d2 := H2.out.bytes k
              have d3 := Pf.ev_lt HBas.out.by_ d1 pn
              have HEV := Lib.hid (show Pf.ev P (xs k) (m + 1) = Pf.ev P (xs k) pn from Pf.ev_any (xs k) HLP.out.1 HBas.out.up_le)
              have HST := Lib.hid (HLag.out.step HBas.out H1.out.bytes H2.out.bytes hlk HD.out)
              have hlm' : ¬ (m : Int) < (m : Int) := by omega
              go_wp2_with fail
              go_quiet ((first | (go_at_call 31; exact Calls.quiet_of_same (rvalue_any pa pn pc P (xs k) d1 (by omega) _ (HP.out.drewN _))) | (go_at_call 47; exact Calls.quiet_of_same (rdiv_nat (ys k) (Pf.ev P (xs k) pn) d2 d3 _))))
              have hst := HST.out
              rw [HEV.out] at hst
              have hcc := Gf.mul_lt d2 (ivN_lt (Pf.ev P (xs k) pn))
              generalize Gf.mul (ys k) (ivN (Pf.ev P (xs k) pn)) = cc at *
              have HST2 := Lib.hid hst
              clear hst HST HEV
              have hBd := below_drewN (Below.refl wi.heap.size wi) nq
              have hSd := HS.out.same HB2.out
              obtain ⟨wq, hwq⟩ : ∃ wq, wq = wi.drewN nq := ⟨_, rfl⟩
              rw [← hwq] at hBd ⊢
              have HBq := Lib.hid (show Below wi.heap.size wi wq from hBd)
              have HSq := Lib.hid (hSd.same hBd); have HPq := Lib.hid (HP.out.same hBd)
              clear hwq hBd hSd c1 c2
              have HSc := Lib.hid (sl_single wq cc hcc)
              have HBc := Lib.hid (show Below wq.heap.size wq (wq.alloc (.cells #[.int .u8 (cc : Nat)] 5)) from (Below.refl _ _).alloc (Nat.le_refl _) _)
              go_wp2_with fail
              refine (rprod_any pa (some ⟨wq.heap.size, 0, none⟩) pn pc 1 1 P (Pf.sc cc) (by omega) (by omega) _ (HPq.out.same HBc.out) HSc.out).mono ?_
              rintro e w6 ⟨n6, hL6, a6, c6, rfl, hN6, hB6⟩
              have hn6 := hL6.le (Pf.pm_up HLP.out.1 (Pf.sc_up cc))
              have HP6 := Lib.hid hN6.sl; have HB6 := Lib.hid (HBc.out.trans (hB6.mono HBc.out.size)); have HS6 := Lib.hid ((HSq.out.same HBc.out).same hB6)
              clear hL6 hN6 hB6
              go_wp2_with fail
              refine (radd_any sa a6 sn sc n6 c6 S (Pf.pm P (Pf.sc cc)) (by omega) (by omega) _ HS6.out HP6.out).mono ?_
              rintro e w7 ⟨n7, hL7, a7, c7, rfl, hN7, hB7⟩
              have hs1 := HB2.out.size
              have hs2 := HBq.out.size
              have hs3 := HB6.out.size
              have HX := Lib.hid (And.intro hN7.sl (And.intro hL7 (HW.out.trans ((HBq.out.trans ((HB6.out.trans (hB7.mono hs3)).mono hs2)).mono (by omega)))))
              clear hL7 hN7 hB7
              go_wp2
              go_roundw
              case rel => exact ⟨k + 1, _, _, _, _, by omega, by go_num, rfl, HX.out.1, HX.out.2.1, HST2.out, HX.out.2.2⟩
              case measure => simp [intOf]; omega
        · obtain rfl : k = i := by omega
          have hlk' : ¬ (k : Int) < (k : Int) := by omega
          go_wp2_with fail
          refine (rlean_any sa sn sc S (by omega) _ HS.out).mono ?_
          rintro e w4 ⟨a4, c4, rfl, hN4, hB4⟩
          have HN4 := Lib.hid hN4; have HB4 := Lib.hid hB4; clear hN4 hB4
          go_wp2
          go_ret2
          exact Or.inr (Or.inr ⟨rfl, a4, _, c4, S, rfl, HN4.out.sl, Pf.ln_Ln _ HS.out.up, HLag.out, HD.out, HB.out.trans (HB4.out.mono hsz)⟩)
end Go.Proofs.Ytdempjkkahjekaa
