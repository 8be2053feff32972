import Derived.Test.YtfiafccfkfillaaMg23
import Derived.Test.YtfiafccfkfillaaMg24
namespace Go.Proofs.Ytfiafccfkfillaa
open Go.RowKit Go.Shelf Go.Maps

theorem rd_no (w : World) : Rd w none 0 0 (fun _ => none) (fun _ => 0) (fun _ => 0) (fun _ _ => 0) := ⟨Nat.le_refl _, by unfold maxLen; omega, fun _ _ => (by omega : 0 < 256), fun _ => ⟨rfl, rfl⟩, fun _ e => (by cases e), fun _ e => (by cases e), fun i hi => absurd hi (Nat.not_lt_zero i)⟩
theorem nocoder_any (w : World) : Calls Try.prog 25 #[.pointer none] w fun e w' => e = .returned (.bool true) ∧ w' = w := by
  go_enter Try.func25, Try.ntmps25
  go_wp2
  go_ret
  exact ⟨rfl, rfl⟩
theorem noturn_any (a : Option Addr) (m cap : Nat) (w : World) : Calls Try.prog 11 #[.pointer none, .slice a m cap] w fun e w' => e = .returned (.tuple #[.slice none 0 0, .int .i64 1]) ∧ w' = w := by
  go_enter Try.func11, Try.ntmps11
  go_wp2_with fail
  refine (nocoder_any _).mono ?_
  rintro e w' ⟨rfl, hw'⟩
  rw [hw']; clear hw'
  go_wp2
  go_ret2
  exact ⟨rfl, rfl⟩
theorem nodec_any (a : Option Addr) (m cap : Nat) (w : World) : Calls Try.prog 15 #[.pointer none, .slice a m cap] w fun e w' => e = .returned (.tuple #[.slice none 0 0, .int .i64 1]) ∧ Below w.heap.size w w' := by
  go_enter Try.func15, Try.ntmps15
  go_wp2_with fail
  refine (nocoder_any _).mono ?_
  rintro e w' ⟨rfl, hw'⟩
  rw [hw']; clear hw'
  go_wp2
  go_ret2
  exact ⟨rfl, (Below.refl _ w).alloc (Nat.le_refl _) _⟩
theorem ask_sum (L : List Lit) (k : Lit) (hi mi : Int) : askH L k hi + askM L k mi = hi + mi + 1 := by
  unfold askH askM
  by_cases h : k ∈ L
  · rw [if_pos h, if_pos h]; omega
  · rw [if_neg h, if_neg h]; omega
/-- an ask's block. -/
def xcells (wh kq lg : Int) (fs : Nat) (ia : Option Addr) (il ic : Nat) : Array Value := #[.int .i64 wh, .int .i64 kq, .int .i64 lg, .int .u8 (fs : Nat), .slice ia il ic]
def Xb (w : World) (x : Nat) (wh kq lg : Int) (fs : Nat) (ia : Option Addr) (il ic : Nat) : Prop := w.heap[x]? = some (.cells (xcells wh kq lg fs ia il ic) 31 (0, 0))
section
variable {w w' : World} {x : Nat} {wh kq lg : Int} {fs : Nat} {ia : Option Addr} {il ic : Nat}
theorem Xb.c0 (h : Xb w x wh kq lg fs ia il ic) : w.cell? ⟨x, 0, none⟩ = some (.int .i64 wh) := by rw [cell_of_row w x 0 _ _ _ h]; rfl
theorem Xb.c1 (h : Xb w x wh kq lg fs ia il ic) : w.cell? ⟨x, 1, none⟩ = some (.int .i64 kq) := by rw [cell_of_row w x 1 _ _ _ h]; rfl
theorem Xb.c2 (h : Xb w x wh kq lg fs ia il ic) : w.cell? ⟨x, 2, none⟩ = some (.int .i64 lg) := by rw [cell_of_row w x 2 _ _ _ h]; rfl
theorem Xb.c3 (h : Xb w x wh kq lg fs ia il ic) : w.cell? ⟨x, 3, none⟩ = some (.int .u8 (fs : Nat)) := by rw [cell_of_row w x 3 _ _ _ h]; rfl
theorem Xb.c4 (h : Xb w x wh kq lg fs ia il ic) : w.cell? ⟨x, 4, none⟩ = some (.slice ia il ic) := by rw [cell_of_row w x 4 _ _ _ h]; rfl
theorem Xb.same (h : Xb w x wh kq lg fs ia il ic) (hB : Below w.heap.size w w') : Xb w' x wh kq lg fs ia il ic := (hB.block x (Array.getElem?_eq_some_iff.1 h).1).trans h
theorem Xb.but {s b room : Nat} {hi mi tp : Int} {L : List Lit} {T : Lit → Tv} (h : Xb w x wh kq lg fs ia il ic) (hB : But s b w w') (S : Sh w s b room hi mi tp L T) : Xb w' x wh kq lg fs ia il ic := (hB.at_ S h (by decide)).trans h
end
end Go.Proofs.Ytfiafccfkfillaa

namespace Go.Proofs.Ytfiafccfkfillaa
open Go.RowKit Go.Shelf Go.Maps

theorem drewb {w w' : World} (h : ∃ q, w' = w.drewN q) : Below w.heap.size w w' := by
  obtain ⟨q, rfl⟩ := h
  exact below_dr (Below.refl _ _) q
def TellRel (w : World) (N room c0 cb s b m : Nat) (va vi : Value) (wr : World) (k : Nat) (hi mi : Int) (L : List Lit) (T : Lit → Tv) : Prop :=
  k ≤ m ∧ vi = .int .i64 (k : Nat) ∧ va = .int .i64 (hi + mi) ∧ Ca wr N room c0 cb s b hi mi L T ∧ hi + mi ≤ k ∧ Below w.heap.size w wr
set_option maxHeartbeats 8000000 in
set_option maxRecDepth 100000 in
theorem cacheTells_any (n room : Int) (a : Option Addr) (m cap : Nat) (wh kq lg : Nat → Int) (fs : Nat → Nat) (ia : Nat → Option Addr) (il ic : Nat → Nat) (hI : Nat → Nat → Int) (hm : m ≤ 1000000000000000) (w : World) (hA : As w a m wh kq lg fs ia il ic hI) :
    Calls Try.prog 3 #[.int .i64 n, .int .i64 room, .slice a m cap] w fun e w' => e = .returned (.bool true) ∧ Below w.heap.size w w' := by
  have HA := Lib.hid hA; clear hA
  by_cases hok : 1 ≤ n ∧ n ≤ 255 ∧ 1 ≤ room ∧ room ≤ 64
  rotate_left
  · have HQ := Lib.hid (fun W => canew_no n room hok W)
    clear hok
    go_enter Try.func3, Try.ntmps3
    go_wp2_with fail
    refine (awake6_any _).mono ?_
    rintro e w1 ⟨rfl, hB1⟩
    have HB1 := Lib.hid hB1; clear hB1
    go_wp2_with fail
    refine (HQ.out _).mono ?_
    rintro e w' ⟨rfl, hw'⟩
    rw [hw']; clear hw'
    go_wp2_with fail
    refine (great6_any n a m cap wh kq lg fs ia il ic hI hm _ (HA.out.same HB1.out)).mono ?_
    rintro e w2 ⟨v, rfl, hv, hB2⟩
    have HB2 := Lib.hid (HB1.out.trans (hB2.mono HB1.out.size))
    clear hB2 hv
    cases v
    · go_wp2
      go_ret
      exact ⟨rfl, HB2.out⟩
    · go_wp2
      go_ret
      exact ⟨rfl, HB2.out⟩
  obtain ⟨N, rfl⟩ : ∃ N : Nat, n = (N : Nat) := ⟨n.toNat, by omega⟩
  obtain ⟨rm, rfl⟩ : ∃ rm : Nat, room = (rm : Nat) := ⟨room.toNat, by omega⟩
  have hN1 : 1 ≤ N := by omega
  have hN2 : N ≤ 255 := by omega
  have hr1 : 1 ≤ rm := by omega
  have hr2 : rm ≤ 64 := by omega
  clear hok
  go_enter Try.func3, Try.ntmps3
  go_wp2_with fail
  refine (awake6_any _).mono ?_
  rintro e w1 ⟨rfl, hB1⟩
  have HB1 := Lib.hid hB1; clear hB1
  go_wp2_with fail
  refine (canew_yes N rm hN1 hN2 hr1 hr2 _).mono ?_
  rintro e w2 ⟨c0, cb, s, b, rfl, hC2, hc0, hs, hb, hB2⟩
  have hs1 := Nat.le_trans HB1.out.size hs.1
  have hb1 := Nat.le_trans HB1.out.size hb.1
  have HC2 := Lib.hid hC2; have HB2 := Lib.hid (HB1.out.trans (hB2.mono HB1.out.size))
  clear hC2 hc0 hs hb hB2
  go_wp2_with fail
  refine (great6_any (N : Nat) a m cap wh kq lg fs ia il ic hI hm _ (HA.out.same HB2.out)).mono ?_
  rintro e w3 ⟨v, rfl, hv, hB3⟩
  have HB3 := Lib.hid (HB2.out.trans (hB3.mono HB2.out.size)); have HC3 := Lib.hid (HC2.out.same hB3)
  cases v
  rotate_left
  · clear hB3 hv
    go_wp2
    go_ret
    exact ⟨rfl, HB3.out⟩
  obtain ⟨hN12, hm3, hil3⟩ := hv rfl
  have HIL := Lib.hid hil3
  clear hB3 hv hil3 HC2 HB2 HB1
  go_wp2_with fail
  go_loopw [9, 10] (fun va vi wr => ∃ k hi mi L T, TellRel w N rm c0 cb s b m va vi wr k hi mi L T) (fun _ i _ => m - (intOf i).toNat)
  case atStart => exact ⟨0, 0, 0, [], _, by omega, rfl, rfl, HC3.out, by omega, HB3.out⟩
  case round =>
    rename_i wr
    clear HC3 HB3
    obtain ⟨k, hi, mi, L, T, hk, rfl, rfl, hC, hbd, hB⟩ := hrel
    have HC := Lib.hid hC; have HB := Lib.hid hB
    have hi0 := hC.cnt.1
    have mi0 : 0 ≤ mi := by have := hC.cnt.2; omega
    have hszr := hB.size
    by_cases hkm : k < m
    rotate_left
    · obtain rfl : k = m := by omega
      clear hC hB
      go_wp2
      go_ret
      exact ⟨rfl, HB.out⟩
    have i1 : (k : Int) < (m : Int) := by omega
    obtain ⟨xb, xo, ea, c0', c1', c2', c3', c4'⟩ := (HA.out.same hB).cell k hkm
    have EA := Lib.hid (show a = some ⟨xb, xo, none⟩ from ea)
    have hsi := HA.out.ind k hkm
    obtain ⟨o1, o2, _, o4⟩ := HA.out.ok k hkm
    have o3 := HIL.out k hkm
    subst ea
    generalize wh k = qw at c0'
    generalize kq k = qk at c1'
    generalize lg k = ql at c2'
    generalize fs k = qf at c3' o4
    generalize ia k = qa at c4' hsi
    generalize il k = li at c4' hsi o1 o3
    generalize ic k = qc at c4' o1 o2
    generalize hI k = h at hsi
    have HSI := Lib.hid hsi
    obtain ⟨wx, hwx⟩ : ∃ wx, wx = wr.alloc (.cells #[.int .i64 qw, .int .i64 qk, .int .i64 ql, .int .u8 (qf : Nat), .slice qa li qc] 31) := ⟨_, rfl⟩
    have hbx : Below wr.heap.size wr wx := by rw [hwx]; exact (Below.refl _ wr).alloc (Nat.le_refl _) _
    have HXX := Lib.hid (show Xb wx wr.heap.size qw qk ql qf qa li qc from by rw [hwx]; exact heap_alloc_new _ _)
    have HBX := Lib.hid (hB.trans (hbx.mono hszr)); have HCX := Lib.hid (hC.same hbx); have HWX := Lib.hid hwx
    have hpb := pkv_bd qw (n := 3) (by omega)
    have hp6 := pkv_bd ql (n := 6) (by omega)
    obtain ⟨p6, hp6e⟩ : ∃ p6 : Nat, pkv ql 6 = (p6 : Nat) := ⟨(pkv ql 6).toNat, by omega⟩
    have hp6l : p6 < 6 := by omega
    have HP6 := Lib.hid hp6e
    have HPK := Lib.hid (pickv_any qw 3 (by omega) (by omega))
    generalize hpv : pkv qw 3 = pv at HPK hpb
    clear hpv hC hB hsi hwx hbx hp6 hp6e
    go_wp2_with fail
    rw [← HWX.out]
    clear c0' c1' c2' c3' c4'
    by_cases hKN : 1 ≤ qk ∧ qk ≤ (N : Int)
    rotate_left
    · have HKN := Lib.hid hKN
      refine (cnew_no (N : Nat) qk (by omega) _).mono ?_
      rintro e wc ⟨rfl, hBc⟩
      have HBC := Lib.hid (HBX.out.trans (hBc.mono HBX.out.size)); have HCC := Lib.hid (HCX.out.same hBc); have HXC := Lib.hid (HXX.out.same hBc)
      clear hBc hKN HBX HCX HXX HB HC HWX
      have x0 := HXC.out.c0
      have x1 := HXC.out.c1
      have x4 := HXC.out.c4
      rcases (show pv = 0 ∨ pv = 1 ∨ pv = 2 by omega) with rfl | rfl | rfl
      · go_wp2_with fail
        refine (HPK.out _).mono ?_
        rintro e w' ⟨rfl, hw'⟩
        rw [hw']; clear hw'
        go_wp2_with fail
        refine (caturn_any N rm c0 cb s b hi mi L T qk qa li qc h (by omega) o1 o2 (by omega) _ HCC.out (HSI.out.same HBC.out)).mono ?_
        rintro e w5 (⟨E, hE, rfl, hcE, hB5⟩ | ⟨h1, h2, _⟩)
        rotate_left
        · exact absurd ⟨h1, h2⟩ HKN.out
        obtain rfl : E = 2 := by
          rcases hcE with ⟨_, e⟩ | ⟨h1, h2, _⟩
          · exact e
          · exact absurd ⟨h1, h2⟩ HKN.out
        have HB5 := Lib.hid (HBC.out.trans (hB5.mono HBC.out.size)); have HC5 := Lib.hid (HCC.out.same hB5); have HX5 := Lib.hid (HXC.out.same hB5)
        clear hcE hB5 x0 x1 x4 HCC HBC HXC
        have x4 := HX5.out.c4
        go_wp2_with fail
        refine (noturn_any qa li qc _).mono ?_
        rintro e w' ⟨rfl, hw'⟩
        rw [hw']; clear hw' x4
        go_wp2_with fail
        refine (sameRows_any none none 0 0 0 _ _ _ _ _ _ _ _ (by omega) (fun i hh => absurd hh (Nat.not_lt_zero i)) _ (rd_no _) (rd_no _) (fun i hh => absurd hh (Nat.not_lt_zero i))).mono ?_
        rintro e w8 ⟨rfl, hq8⟩
        have hB8 := drewb hq8
        have HB8 := Lib.hid (HB5.out.trans (hB8.mono HB5.out.size)); have HCA8 := Lib.hid (HC5.out.same hB8)
        clear hq8 hB8
        have g1 : ((hi + mi) != (hi + mi)) = false := by simp
        have hs5 := HCA8.out.cnt
        have hrm5 := HCA8.out.sh.room.1
        have hbd5 : hi + mi ≤ (k : Int) + 1 := by omega
        have HST := Lib.hid (castat_any N rm c0 cb s b hi mi L T (by omega) w8 HCA8.out)
        generalize hln : (L).length = ln at HST hs5 hrm5
        obtain ⟨dd, hdd⟩ : ∃ dd, dd = mi - (ln : Nat) := ⟨_, rfl⟩
        have g2 : (mi != ((ln : Nat) : Int) + dd) = false := by rw [hdd]; simp; omega
        have g3 : ¬ (rm : Int) < (ln : Int) := by omega
        have g4 : IntKind.i64.wrap (((ln : Nat) : Int) + dd) = ((ln : Nat) : Int) + dd := IntWalk.i64_in _ (by omega)
        have g5 : IntKind.i64.wrap (hi + mi) = hi + mi := IntWalk.i64_in _ (by omega)
        have HDD := Lib.hid hdd
        clear hln hdd
        go_wp2_with fail
        refine HST.out.mono ?_
        rintro e w9 ⟨rfl, hB9⟩
        rw [← HDD.out]
        have HB9 := Lib.hid (HB8.out.trans (hB9.mono HB8.out.size)); have HCA9 := Lib.hid (HCA8.out.same hB9)
        clear hB9 HST
        go_wp2
        go_roundw
        case rel => exact ⟨k + 1, hi, mi, L, T, by omega, by go_num, rfl, HCA9.out.same ((Below.refl _ w9).alloc (Nat.le_refl _) _), by omega, HB9.out.alloc HB9.out.size _⟩
        case measure => simp [intOf]; omega
      · have hdum := 0
        clear hdum
        go_wp2_with fail
        refine (HPK.out _).mono ?_
        rintro e w' ⟨rfl, hw'⟩
        rw [hw']; clear hw'
        go_wp2_with fail
        have HXS := Lib.hid (fun (W : World) (hW : W.heap[wr.heap.size]? = wc.heap[wr.heap.size]?) => (show Xb W wr.heap.size qw qk ql qf qa li qc from hW.trans HXC.out))
        refine wp_region_held_drew (S := fun W => W.heap[wr.heap.size]? = wc.heap[wr.heap.size]?) (by kernel_rfl) rfl (fun hHeld => ?_)
        refine wpAnyH_take (i := 0) (oi := ⟨some 95, .move (.tmp 7), _, _, _, none⟩) (v := (.pointer (some ⟨c0, 0, none⟩))) rfl (by kernel_rfl) (by kernel_rfl) (by kernel_rfl) (fun _ _ _ h => h) (Or.inl ⟨by rfl, fun W hW => ?_⟩) (by assumption) ?_
        · go_simp
        simp only [Act.put, List.setIfInBounds_toArray, List.set_cons_zero, List.set_cons_succ]
        refine wpAnyH_take (i := 1) (oi := ⟨some 96, .fieldAddr 31 (.tmp 11) 1, _, _, _, none⟩) (v := (.pointer (some ⟨wr.heap.size, 1, none⟩))) rfl (by kernel_rfl) (by kernel_rfl) (by kernel_rfl) (fun _ _ _ h => h) (Or.inl ⟨by rfl, fun W hW => ?_⟩) (by assumption) ?_
        · go_simp
        simp only [Act.put, List.setIfInBounds_toArray, List.set_cons_zero, List.set_cons_succ]
        refine wpAnyH_take (i := 2) (oi := ⟨some 97, .load 3 (.tmp 96), _, _, _, none⟩) (v := (.int .i64 qk)) rfl (by kernel_rfl) (by kernel_rfl) (by kernel_rfl) (fun _ _ _ h => h) (Or.inl ⟨by rfl, fun W hW => ?_⟩) (by assumption) ?_
        · have := (HXS.out W hW).c1; go_simp
        simp only [Act.put, List.setIfInBounds_toArray, List.set_cons_zero, List.set_cons_succ]
        refine wpAnyH_take (i := 3) (oi := ⟨some 98, .load 31 (.tmp 11), _, _, _, none⟩) (v := (.agg #[.int .i64 qw, .int .i64 qk, .int .i64 ql, .int .u8 (qf : Nat), .slice qa li qc])) rfl (by kernel_rfl) (by kernel_rfl) (by kernel_rfl) (fun _ _ _ h => h) (Or.inl ⟨by rfl, fun W hW => ?_⟩) (by assumption) ?_
        · have e0 := (HXS.out W hW).c0; have e1 := (HXS.out W hW).c1; have e2 := (HXS.out W hW).c2; have e3 := (HXS.out W hW).c3; have e4 := (HXS.out W hW).c4; go_simp
        simp only [Act.put, List.setIfInBounds_toArray, List.set_cons_zero, List.set_cons_succ]
        refine wpAnyH_ready (rs := [4]) (by kernel_rfl) (by simp) (AllReadyH.cons rfl (fun KK hKK => ?_) AllReadyH.nil)
        go_simp
        refine (held6_any qw qk ql qf qa li qc h p6 HP6.out hp6l o4 o3 _ (show Si wc.drew qa li h from HSI.out.same (below_dr HBC.out 1))).mono ?_
        rintro e w4 ⟨ha4, hc4, r4, cc4, rfl, hH4, hB4'⟩
        dsimp only
        have hB4 : Below wc.heap.size wc w4 := (below_dr (Below.refl _ wc) 1).trans hB4'
        refine hKK.out _ _ (hB4.block _ (Array.getElem?_eq_some_iff.1 HXC.out).1) (fun hHeld => ?_)
        clear hKK KK
        have HB4 := Lib.hid (HBC.out.trans (hB4.mono HBC.out.size)); have HC4 := Lib.hid (HCC.out.same hB4); have HX4 := Lib.hid (HXC.out.same hB4); have HH4 := Lib.hid hH4
        have HEQ4 := Lib.hid (hB4.block _ (Array.getElem?_eq_some_iff.1 HXC.out).1)
        clear hB4 hB4' hH4
        refine wpAnyH_ready (rs := [5]) (by kernel_rfl) (by simp) (AllReadyH.cons rfl (fun KK hKK => ?_) AllReadyH.nil)
        go_simp
        refine (cadecode_any N rm c0 cb s b hi mi L T qk ha4 li hc4 h r4 (fun _ => p6) cc4 (hbf qf p6) (by omega) (fun _ _ => by omega) (by omega) _ HC4.out HH4.out).mono ?_
        rintro e w5 (⟨E, hE, rfl, hcE, hB5⟩ | ⟨_, h1, h2, _⟩)
        rotate_left
        · exact absurd ⟨h1, h2⟩ HKN.out
        obtain rfl : E = 2 := by
          rcases hcE with ⟨h3, _⟩ | ⟨_, ⟨_, e⟩ | ⟨h1, h2, _⟩⟩
          · exact absurd (fun _ _ => rfl) h3
          · exact e
          · exact absurd ⟨h1, h2⟩ HKN.out
        dsimp only
        refine hKK.out _ _ ((hB5.block _ (Array.getElem?_eq_some_iff.1 HX4.out).1).trans HEQ4.out) (fun hHeld => ?_)
        clear hKK KK
        have HB5 := Lib.hid (HB4.out.trans (hB5.mono HB4.out.size)); have HC5 := Lib.hid (HC4.out.same hB5); have HX5 := Lib.hid (HX4.out.same hB5)
        clear hcE hB5 x0 x1 x4 HCC HBC HXC HEQ4
        refine wpAnyH_take (i := 6) (oi := ⟨some 94, .move (.tmp 100), _, _, _, none⟩) (v := (.tuple #[(.slice none 0 0), .int .i64 2])) rfl (by kernel_rfl) (by kernel_rfl) (by kernel_rfl) (fun _ _ _ h => h) (Or.inl ⟨by rfl, fun W hW => ?_⟩) (by assumption) ?_
        · go_simp
        simp only [Act.put, List.setIfInBounds_toArray, List.set_cons_zero, List.set_cons_succ]
        refine wpAnyH_take (i := 7) (oi := ⟨some 101, .extract (.tmp 94) 0, _, _, _, none⟩) (v := (.slice none 0 0)) rfl (by kernel_rfl) (by kernel_rfl) (by kernel_rfl) (fun _ _ _ h => h) (Or.inl ⟨by rfl, fun W hW => ?_⟩) (by assumption) ?_
        · go_simp
        simp only [Act.put, List.setIfInBounds_toArray, List.set_cons_zero, List.set_cons_succ]
        refine wpAnyH_take (i := 8) (oi := ⟨some 102, .extract (.tmp 94) 1, _, _, _, none⟩) (v := (.int .i64 2)) rfl (by kernel_rfl) (by kernel_rfl) (by kernel_rfl) (fun _ _ _ h => h) (Or.inl ⟨by rfl, fun W hW => ?_⟩) (by assumption) ?_
        · go_simp
        simp only [Act.put, List.setIfInBounds_toArray, List.set_cons_zero, List.set_cons_succ]
        refine wpAnyH_take (i := 9) (oi := ⟨some 18, .assign (.tmp 101), _, _, _, none⟩) (v := (.slice none 0 0)) rfl (by kernel_rfl) (by kernel_rfl) (by kernel_rfl) (fun _ _ _ h => h) (Or.inl ⟨by rfl, fun W hW => ?_⟩) (by assumption) ?_
        · go_simp
        simp only [Act.put, List.setIfInBounds_toArray, List.set_cons_zero, List.set_cons_succ]
        refine wpAnyH_take (i := 10) (oi := ⟨some 19, .assign (.tmp 102), _, _, _, none⟩) (v := (.int .i64 2)) rfl (by kernel_rfl) (by kernel_rfl) (by kernel_rfl) (fun _ _ _ h => h) (Or.inl ⟨by rfl, fun W hW => ?_⟩) (by assumption) ?_
        · go_simp
        simp only [Act.put, List.setIfInBounds_toArray, List.set_cons_zero, List.set_cons_succ]
        refine wpAnyH_done (by kernel_rfl) ?_ _
        clear hHeld
        have x0 := HX5.out.c0
        have x1 := HX5.out.c1
        have x2 := HX5.out.c2
        have x3 := HX5.out.c3
        have x4 := HX5.out.c4
        go_wp2_with fail
        refine (held6_any qw qk ql qf qa li qc h p6 HP6.out hp6l o4 o3 _ (HSI.out.same HB5.out)).mono ?_
        rintro e w6 ⟨ha6, hc6, r6, cc6, rfl, hH6, hB6⟩
        have HB6 := Lib.hid (HB5.out.trans (hB6.mono HB5.out.size)); have HC6 := Lib.hid (HC5.out.same hB6); have HH6 := Lib.hid hH6
        clear hB6 hH6 x0 x1 x2 x3 x4
        go_wp2_with fail
        refine (nodec_any ha6 li hc6 _).mono ?_
        rintro e w7 ⟨rfl, hB7⟩
        have HB7 := Lib.hid (HB6.out.trans (hB7.mono HB6.out.size)); have HC7 := Lib.hid (HC6.out.same hB7)
        clear hB7
        go_wp2_with fail
        refine (sameRows_any none none 0 0 0 _ _ _ _ _ _ _ _ (by omega) (fun i hh => absurd hh (Nat.not_lt_zero i)) _ (rd_no _) (rd_no _) (fun i hh => absurd hh (Nat.not_lt_zero i))).mono ?_
        rintro e w8 ⟨rfl, hq8⟩
        have hB8 := drewb hq8
        have HB8 := Lib.hid (HB7.out.trans (hB8.mono HB7.out.size)); have HCA8 := Lib.hid (HC7.out.same hB8)
        clear hq8 hB8
        have g1 : ((hi + mi) != (hi + mi)) = false := by simp
        have hs5 := HCA8.out.cnt
        have hrm5 := HCA8.out.sh.room.1
        have hbd5 : hi + mi ≤ (k : Int) + 1 := by omega
        have HST := Lib.hid (castat_any N rm c0 cb s b hi mi L T (by omega) w8 HCA8.out)
        generalize hln : (L).length = ln at HST hs5 hrm5
        obtain ⟨dd, hdd⟩ : ∃ dd, dd = mi - (ln : Nat) := ⟨_, rfl⟩
        have g2 : (mi != ((ln : Nat) : Int) + dd) = false := by rw [hdd]; simp; omega
        have g3 : ¬ (rm : Int) < (ln : Int) := by omega
        have g4 : IntKind.i64.wrap (((ln : Nat) : Int) + dd) = ((ln : Nat) : Int) + dd := IntWalk.i64_in _ (by omega)
        have g5 : IntKind.i64.wrap (hi + mi) = hi + mi := IntWalk.i64_in _ (by omega)
        have HDD := Lib.hid hdd
        clear hln hdd
        go_wp2_with fail
        refine HST.out.mono ?_
        rintro e w9 ⟨rfl, hB9⟩
        rw [← HDD.out]
        have HB9 := Lib.hid (HB8.out.trans (hB9.mono HB8.out.size)); have HCA9 := Lib.hid (HCA8.out.same hB9)
        clear hB9 HST
        go_wp2
        go_roundw
        case rel => exact ⟨k + 1, hi, mi, L, T, by omega, by go_num, rfl, HCA9.out.same ((Below.refl _ w9).alloc (Nat.le_refl _) _), by omega, HB9.out.alloc HB9.out.size _⟩
        case measure => simp [intOf]; omega
      · clear x1 x4
        go_wp2_with fail
        refine (HPK.out _).mono ?_
        rintro e w' ⟨rfl, hw'⟩
        rw [hw']; clear hw'
        clear x0
        have g1 : ((hi + mi) != (hi + mi)) = false := by simp
        have hs5 := HCC.out.cnt
        have hrm5 := HCC.out.sh.room.1
        have hbd5 : hi + mi ≤ (k : Int) + 1 := by omega
        have HST := Lib.hid (castat_any N rm c0 cb s b hi mi L T (by omega) wc HCC.out)
        generalize hln : (L).length = ln at HST hs5 hrm5
        obtain ⟨dd, hdd⟩ : ∃ dd, dd = mi - (ln : Nat) := ⟨_, rfl⟩
        have g2 : (mi != ((ln : Nat) : Int) + dd) = false := by rw [hdd]; simp; omega
        have g3 : ¬ (rm : Int) < (ln : Int) := by omega
        have g4 : IntKind.i64.wrap (((ln : Nat) : Int) + dd) = ((ln : Nat) : Int) + dd := IntWalk.i64_in _ (by omega)
        have g5 : IntKind.i64.wrap (hi + mi) = hi + mi := IntWalk.i64_in _ (by omega)
        have HDD := Lib.hid hdd
        clear hln hdd
        go_wp2_with fail
        refine HST.out.mono ?_
        rintro e w9 ⟨rfl, hB9⟩
        rw [← HDD.out]
        have HB9 := Lib.hid (HBC.out.trans (hB9.mono HBC.out.size)); have HCA9 := Lib.hid (HCC.out.same hB9)
        clear hB9 HST
        go_wp2
        go_roundw
        case rel => exact ⟨k + 1, hi, mi, L, T, by omega, by go_num, rfl, HCA9.out.same ((Below.refl _ w9).alloc (Nat.le_refl _) _), by omega, HB9.out.alloc HB9.out.size _⟩
        case measure => simp [intOf]; omega
    · obtain ⟨K, rfl⟩ : ∃ K : Nat, qk = (K : Nat) := ⟨qk.toNat, by omega⟩
      have hK1 : 1 ≤ K := by omega
      have hK2 : K ≤ N := by omega
      refine (cnew_yes N K hK1 hK2 hN2 _).mono ?_
      rintro e wc ⟨cb5, fb5, G5, b5, rfl, hCd, hBc⟩
      have HBC := Lib.hid (HBX.out.trans (hBc.mono HBX.out.size)); have HCC := Lib.hid (HCX.out.same hBc); have HXC := Lib.hid (HXX.out.same hBc); have HCD := Lib.hid hCd
      clear hBc hKN HBX HCX HXX HB HC HWX hCd
      have x0 := HXC.out.c0
      have x1 := HXC.out.c1
      have x4 := HXC.out.c4
      rcases (show pv = 0 ∨ pv = 1 ∨ pv = 2 by omega) with rfl | rfl | rfl
      · go_wp2_with fail
        refine (HPK.out _).mono ?_
        rintro e w' ⟨rfl, hw'⟩
        rw [hw']; clear hw'
        go_wp2_with fail
        refine (caturn_any N rm c0 cb s b hi mi L T (K : Nat) qa li qc h (by omega) o1 o2 (by omega) _ HCC.out (HSI.out.same HBC.out)).mono ?_
        rintro e w5 (⟨E, hE, rfl, hcE, hB5⟩ | ⟨_, _, hc5, GA, bA, ccA, T2, rfl, hGA, hC5, hB5⟩)
        · have hcE' : Chk h li N K E := by
            rcases hcE with ⟨h3, _⟩ | ⟨_, _, h3⟩
            · exact absurd ⟨by omega, by omega⟩ h3
            · rw [Int.toNat_natCast] at h3; exact h3
          have HB5 := Lib.hid (HBC.out.trans (hB5.mono HBC.out.size)); have HC5 := Lib.hid (HCC.out.same hB5); have HX5 := Lib.hid (HXC.out.same hB5); have HCD5 := Lib.hid (HCD.out.same hB5); have HCE := Lib.hid hcE'
          clear hcE hcE' hB5 x0 x1 x4 HCC HBC HXC HCD
          have x4 := HX5.out.c4
          go_wp2_with fail
          refine (cTurn_any cb5 fb5 G5 N K b5 qa li qc h (by omega) _ HCD5.out (HSI.out.same HB5.out)).mono ?_
          rintro e w6 (⟨E', hE', hc6, rfl, hB6⟩ | ⟨hc6, _⟩)
          rotate_left
          · exact absurd (HCE.out.uniq hc6) hE
          obtain rfl : E = E' := HCE.out.uniq hc6
          have q1 : (E != E) = false := by simp
          have q2 : (E == 0) = false := by simp [hE]
          have HB6 := Lib.hid (HB5.out.trans (hB6.mono HB5.out.size)); have HC6 := Lib.hid (HC5.out.same hB6); have HEE := Lib.hid hE
          clear hB6 x4 hc6 hE hE'
          go_wp2_with fail
          refine (sameRows_any none none 0 0 0 _ _ _ _ _ _ _ _ (by omega) (fun i hh => absurd hh (Nat.not_lt_zero i)) _ (rd_no _) (rd_no _) (fun i hh => absurd hh (Nat.not_lt_zero i))).mono ?_
          rintro e w8 ⟨rfl, hq8⟩
          have hB8 := drewb hq8
          have HB8 := Lib.hid (HB6.out.trans (hB8.mono HB6.out.size)); have HCA8 := Lib.hid (HC6.out.same hB8)
          clear hq8 hB8
          have g1 : ((hi + mi) != (hi + mi)) = false := by simp
          have hs5 := HCA8.out.cnt
          have hrm5 := HCA8.out.sh.room.1
          have hbd5 : hi + mi ≤ (k : Int) + 1 := by omega
          have HST := Lib.hid (castat_any N rm c0 cb s b hi mi L T (by omega) w8 HCA8.out)
          generalize hln : (L).length = ln at HST hs5 hrm5
          obtain ⟨dd, hdd⟩ : ∃ dd, dd = mi - (ln : Nat) := ⟨_, rfl⟩
          have g2 : (mi != ((ln : Nat) : Int) + dd) = false := by rw [hdd]; simp; omega
          have g3 : ¬ (rm : Int) < (ln : Int) := by omega
          have g4 : IntKind.i64.wrap (((ln : Nat) : Int) + dd) = ((ln : Nat) : Int) + dd := IntWalk.i64_in _ (by omega)
          have g5 : IntKind.i64.wrap (hi + mi) = hi + mi := IntWalk.i64_in _ (by omega)
          have HDD := Lib.hid hdd
          clear hln hdd
          go_wp2_with fail
          refine HST.out.mono ?_
          rintro e w9 ⟨rfl, hB9⟩
          rw [← HDD.out]
          have HB9 := Lib.hid (HB8.out.trans (hB9.mono HB8.out.size)); have HCA9 := Lib.hid (HCA8.out.same hB9)
          clear hB9 HST
          go_wp2
          go_roundw
          case rel => exact ⟨k + 1, hi, mi, L, T, by omega, by go_num, rfl, HCA9.out.same ((Below.refl _ w9).alloc (Nat.le_refl _) _), by omega, HB9.out.alloc HB9.out.size _⟩
          case measure => simp [intOf]; omega
        · rw [Int.toNat_natCast] at hc5 hGA hC5
          rw [Int.toNat_natCast]
          have HB5 := Lib.hid (HBC.out.trans (hB5.below HBC.out.size hs1 hb1)); have HCy := Lib.hid hC5; have HX5 := Lib.hid (HXC.out.but hB5 HCC.out.sh); have HCD5 := Lib.hid (HCD.out.but hB5 HCC.out.sh); have HGA := Lib.hid hGA; have HCK := Lib.hid hc5
          clear hB5 x0 x1 x4 HCC HBC HXC HCD hGA hC5 hc5
          have hsum := ask_sum L (kk K h) hi mi
          have HCg := HCy
          clear HCy
          generalize askH L (kk K h) hi = hi2 at hsum HCg
          generalize askM L (kk K h) mi = mi2 at hsum HCg
          generalize askL rm L (kk K h) = L2 at HCg
          have HSUM := Lib.hid hsum
          have hi02 := HCg.out.cnt.1
          have mi02 : 0 ≤ mi2 := by have := HCg.out.cnt.2; omega
          clear hsum
          have x4 := HX5.out.c4
          go_wp2_with fail
          refine (cTurn_any cb5 fb5 G5 N K b5 qa li qc h (by omega) _ HCD5.out (HSI.out.same HB5.out)).mono ?_
          rintro e w6 (⟨E', hE', hc6, rfl, hB6⟩ | ⟨hc6, GB, bB, rfl, hGB, hB6⟩)
          · exact absurd (hc6.uniq HCK.out) hE'
          have HB6 := Lib.hid (HB5.out.trans (hB6.mono HB5.out.size)); have HC6 := Lib.hid (HCg.out.same hB6); have HGA6 := Lib.hid (HGA.out.same hB6); have HGB6 := Lib.hid hGB
          clear hB6 x4 hc6 hGB HCg HGA
          go_wp2_with fail
          refine (sameRows_any (some ⟨GA, 0, none⟩) (some ⟨GB, 0, none⟩) K K K (fun i => some ⟨bA i, 0, none⟩) (fun i => some ⟨bB i, 0, none⟩) (fun _ => K) ccA (fun _ => K) (fun _ => K) _ _ (by omega) (fun _ _ => by omega) _ HGA6.out.rd HGB6.out.rd (fun _ _ => ⟨rfl, rfl⟩)).mono ?_
          rintro e w8 ⟨rfl, hq8⟩
          have hB8 := drewb hq8
          have HB8 := Lib.hid (HB6.out.trans (hB8.mono HB6.out.size)); have HCA8 := Lib.hid (HC6.out.same hB8)
          clear hq8 hB8
          have g1 : ((hi2 + mi2) != (hi + mi + 1)) = false := by rw [HSUM.out]; simp
          have hs5 := HCA8.out.cnt
          have hrm5 := HCA8.out.sh.room.1
          have hbd5 : hi2 + mi2 ≤ (k : Int) + 1 := by rw [HSUM.out]; omega
          have HST := Lib.hid (castat_any N rm c0 cb s b hi2 mi2 L2 T2 (by omega) w8 HCA8.out)
          generalize hln : (L2).length = ln at HST hs5 hrm5
          obtain ⟨dd, hdd⟩ : ∃ dd, dd = mi2 - (ln : Nat) := ⟨_, rfl⟩
          have g2 : (mi2 != ((ln : Nat) : Int) + dd) = false := by rw [hdd]; simp; omega
          have g3 : ¬ (rm : Int) < (ln : Int) := by omega
          have g4 : IntKind.i64.wrap (((ln : Nat) : Int) + dd) = ((ln : Nat) : Int) + dd := IntWalk.i64_in _ (by omega)
          have g5 : IntKind.i64.wrap (hi2 + mi2) = hi2 + mi2 := IntWalk.i64_in _ (by omega)
          have HDD := Lib.hid hdd
          clear hln hdd
          go_wp2_with fail
          refine HST.out.mono ?_
          rintro e w9 ⟨rfl, hB9⟩
          rw [← HDD.out]
          have HB9 := Lib.hid (HB8.out.trans (hB9.mono HB8.out.size)); have HCA9 := Lib.hid (HCA8.out.same hB9)
          clear hB9 HST
          go_wp2
          go_roundw
          case rel => exact ⟨k + 1, hi2, mi2, L2, T2, by omega, by go_num, by rw [HSUM.out], HCA9.out.same ((Below.refl _ w9).alloc (Nat.le_refl _) _), by omega, HB9.out.alloc HB9.out.size _⟩
          case measure => simp [intOf]; omega
      · have hdum := 0
        clear hdum
        go_wp2_with fail
        refine (HPK.out _).mono ?_
        rintro e w' ⟨rfl, hw'⟩
        rw [hw']; clear hw'
        go_wp2_with fail
        have HXS := Lib.hid (fun (W : World) (hW : W.heap[wr.heap.size]? = wc.heap[wr.heap.size]?) => (show Xb W wr.heap.size qw (K : Nat) ql qf qa li qc from hW.trans HXC.out))
        refine wp_region_held_drew (S := fun W => W.heap[wr.heap.size]? = wc.heap[wr.heap.size]?) (by kernel_rfl) rfl (fun hHeld => ?_)
        refine wpAnyH_take (i := 0) (oi := ⟨some 95, .move (.tmp 7), _, _, _, none⟩) (v := (.pointer (some ⟨c0, 0, none⟩))) rfl (by kernel_rfl) (by kernel_rfl) (by kernel_rfl) (fun _ _ _ h => h) (Or.inl ⟨by rfl, fun W hW => ?_⟩) (by assumption) ?_
        · go_simp
        simp only [Act.put, List.setIfInBounds_toArray, List.set_cons_zero, List.set_cons_succ]
        refine wpAnyH_take (i := 1) (oi := ⟨some 96, .fieldAddr 31 (.tmp 11) 1, _, _, _, none⟩) (v := (.pointer (some ⟨wr.heap.size, 1, none⟩))) rfl (by kernel_rfl) (by kernel_rfl) (by kernel_rfl) (fun _ _ _ h => h) (Or.inl ⟨by rfl, fun W hW => ?_⟩) (by assumption) ?_
        · go_simp
        simp only [Act.put, List.setIfInBounds_toArray, List.set_cons_zero, List.set_cons_succ]
        refine wpAnyH_take (i := 2) (oi := ⟨some 97, .load 3 (.tmp 96), _, _, _, none⟩) (v := (.int .i64 (K : Nat))) rfl (by kernel_rfl) (by kernel_rfl) (by kernel_rfl) (fun _ _ _ h => h) (Or.inl ⟨by rfl, fun W hW => ?_⟩) (by assumption) ?_
        · have := (HXS.out W hW).c1; go_simp
        simp only [Act.put, List.setIfInBounds_toArray, List.set_cons_zero, List.set_cons_succ]
        refine wpAnyH_take (i := 3) (oi := ⟨some 98, .load 31 (.tmp 11), _, _, _, none⟩) (v := (.agg #[.int .i64 qw, .int .i64 (K : Nat), .int .i64 ql, .int .u8 (qf : Nat), .slice qa li qc])) rfl (by kernel_rfl) (by kernel_rfl) (by kernel_rfl) (fun _ _ _ h => h) (Or.inl ⟨by rfl, fun W hW => ?_⟩) (by assumption) ?_
        · have e0 := (HXS.out W hW).c0; have e1 := (HXS.out W hW).c1; have e2 := (HXS.out W hW).c2; have e3 := (HXS.out W hW).c3; have e4 := (HXS.out W hW).c4; go_simp
        simp only [Act.put, List.setIfInBounds_toArray, List.set_cons_zero, List.set_cons_succ]
        refine wpAnyH_ready (rs := [4]) (by kernel_rfl) (by simp) (AllReadyH.cons rfl (fun KK hKK => ?_) AllReadyH.nil)
        go_simp
        refine (held6_any qw (K : Nat) ql qf qa li qc h p6 HP6.out hp6l o4 o3 _ (show Si wc.drew qa li h from HSI.out.same (below_dr HBC.out 1))).mono ?_
        rintro e w4 ⟨ha4, hc4, r4, cc4, rfl, hH4, hB4'⟩
        dsimp only
        have hB4 : Below wc.heap.size wc w4 := (below_dr (Below.refl _ wc) 1).trans hB4'
        refine hKK.out _ _ (hB4.block _ (Array.getElem?_eq_some_iff.1 HXC.out).1) (fun hHeld => ?_)
        clear hKK KK
        have HB4 := Lib.hid (HBC.out.trans (hB4.mono HBC.out.size)); have HC4 := Lib.hid (HCC.out.same hB4); have HX4 := Lib.hid (HXC.out.same hB4); have HH4 := Lib.hid hH4
        have HB4c := Lib.hid hB4; have HEQ4 := Lib.hid (hB4.block _ (Array.getElem?_eq_some_iff.1 HXC.out).1)
        clear hB4 hB4' hH4
        refine wpAnyH_ready (rs := [5]) (by kernel_rfl) (by simp) (AllReadyH.cons rfl (fun KK hKK => ?_) AllReadyH.nil)
        go_simp
        refine (cadecode_any N rm c0 cb s b hi mi L T (K : Nat) ha4 li hc4 h r4 (fun _ => p6) cc4 (hbf qf p6) (by omega) (fun _ _ => by omega) (by omega) _ HC4.out HH4.out).mono ?_
        rintro e w5 (⟨E, hE, rfl, hcE, hB5⟩ | ⟨_, _, _, hc5, GA, bA, T2, rfl, hGA, hC5, hB5⟩)
        · have hcE' : Chk h li N K E := by
            rcases hcE with ⟨h3, _⟩ | ⟨_, ⟨h3, _⟩ | ⟨_, _, h3⟩⟩
            · exact absurd (fun _ _ => rfl) h3
            · exact absurd ⟨by omega, by omega⟩ h3
            · rw [Int.toNat_natCast] at h3; exact h3
          dsimp only
          refine hKK.out _ _ ((hB5.block _ (Array.getElem?_eq_some_iff.1 HX4.out).1).trans HEQ4.out) (fun hHeld => ?_)
          clear hKK KK
          have HB5 := Lib.hid (HB4.out.trans (hB5.mono HB4.out.size)); have HC5 := Lib.hid (HC4.out.same hB5); have HX5 := Lib.hid (HX4.out.same hB5); have HCE := Lib.hid hcE'
          have hszc := HBC.out.size
          have HCD5 := Lib.hid ((HCD.out.same HB4c.out).same hB5)
          clear hcE hcE' hB5 x0 x1 x4 HCC HBC HXC HEQ4 HCD HB4c
          refine wpAnyH_take (i := 6) (oi := ⟨some 94, .move (.tmp 100), _, _, _, none⟩) (v := (.tuple #[(.slice none 0 0), .int .i64 E])) rfl (by kernel_rfl) (by kernel_rfl) (by kernel_rfl) (fun _ _ _ h => h) (Or.inl ⟨by rfl, fun W hW => ?_⟩) (by assumption) ?_
          · go_simp
          simp only [Act.put, List.setIfInBounds_toArray, List.set_cons_zero, List.set_cons_succ]
          refine wpAnyH_take (i := 7) (oi := ⟨some 101, .extract (.tmp 94) 0, _, _, _, none⟩) (v := (.slice none 0 0)) rfl (by kernel_rfl) (by kernel_rfl) (by kernel_rfl) (fun _ _ _ h => h) (Or.inl ⟨by rfl, fun W hW => ?_⟩) (by assumption) ?_
          · go_simp
          simp only [Act.put, List.setIfInBounds_toArray, List.set_cons_zero, List.set_cons_succ]
          refine wpAnyH_take (i := 8) (oi := ⟨some 102, .extract (.tmp 94) 1, _, _, _, none⟩) (v := (.int .i64 E)) rfl (by kernel_rfl) (by kernel_rfl) (by kernel_rfl) (fun _ _ _ h => h) (Or.inl ⟨by rfl, fun W hW => ?_⟩) (by assumption) ?_
          · go_simp
          simp only [Act.put, List.setIfInBounds_toArray, List.set_cons_zero, List.set_cons_succ]
          refine wpAnyH_take (i := 9) (oi := ⟨some 18, .assign (.tmp 101), _, _, _, none⟩) (v := (.slice none 0 0)) rfl (by kernel_rfl) (by kernel_rfl) (by kernel_rfl) (fun _ _ _ h => h) (Or.inl ⟨by rfl, fun W hW => ?_⟩) (by assumption) ?_
          · go_simp
          simp only [Act.put, List.setIfInBounds_toArray, List.set_cons_zero, List.set_cons_succ]
          refine wpAnyH_take (i := 10) (oi := ⟨some 19, .assign (.tmp 102), _, _, _, none⟩) (v := (.int .i64 E)) rfl (by kernel_rfl) (by kernel_rfl) (by kernel_rfl) (fun _ _ _ h => h) (Or.inl ⟨by rfl, fun W hW => ?_⟩) (by assumption) ?_
          · go_simp
          simp only [Act.put, List.setIfInBounds_toArray, List.set_cons_zero, List.set_cons_succ]
          refine wpAnyH_done (by kernel_rfl) ?_ _
          clear hHeld
          have x0 := HX5.out.c0
          have x1 := HX5.out.c1
          have x2 := HX5.out.c2
          have x3 := HX5.out.c3
          have x4 := HX5.out.c4
          go_wp2_with fail
          refine (held6_any qw (K : Nat) ql qf qa li qc h p6 HP6.out hp6l o4 o3 _ (HSI.out.same HB5.out)).mono ?_
          rintro e w6 ⟨ha6, hc6, r6, cc6, rfl, hH6, hB6⟩
          have HB6 := Lib.hid (HB5.out.trans (hB6.mono HB5.out.size)); have HC6 := Lib.hid (HC5.out.same hB6); have HH6 := Lib.hid hH6
          have HCD6 := Lib.hid (HCD5.out.same hB6)
          clear hB6 hH6 x0 x1 x2 x3 x4
          go_wp2_with fail
          refine (cdecode_any cb5 fb5 G5 N K b5 ha6 li hc6 h r6 (fun _ => p6) cc6 (hbf qf p6) (by omega) (fun _ _ => by omega) _ HCD6.out HH6.out).mono ?_
          rintro e w7 (⟨E', hE', hd7, rfl, hB7⟩ | ⟨hd7, _⟩)
          rotate_left
          · rcases hd7 with ⟨_, e⟩ | ⟨_, hc7⟩
            · cases e
            · exact absurd (HCE.out.uniq hc7) hE
          obtain rfl : E = E' := by
            rcases hd7 with ⟨h3, _⟩ | ⟨_, hc7⟩
            · exact absurd (fun _ _ => rfl) h3
            · exact HCE.out.uniq hc7
          have q1 : (E != E) = false := by simp
          have q2 : (E == 0) = false := by simp [hE]
          have HB7 := Lib.hid (HB6.out.trans (hB7.mono HB6.out.size)); have HC7 := Lib.hid (HC6.out.same hB7); have HEE := Lib.hid hE
          clear hB7 hd7 hE hE'
          go_wp2_with fail
          refine (sameRows_any none none 0 0 0 _ _ _ _ _ _ _ _ (by omega) (fun i hh => absurd hh (Nat.not_lt_zero i)) _ (rd_no _) (rd_no _) (fun i hh => absurd hh (Nat.not_lt_zero i))).mono ?_
          rintro e w8 ⟨rfl, hq8⟩
          have hB8 := drewb hq8
          have HB8 := Lib.hid (HB7.out.trans (hB8.mono HB7.out.size)); have HCA8 := Lib.hid (HC7.out.same hB8)
          clear hq8 hB8
          have g1 : ((hi + mi) != (hi + mi)) = false := by simp
          have hs5 := HCA8.out.cnt
          have hrm5 := HCA8.out.sh.room.1
          have hbd5 : hi + mi ≤ (k : Int) + 1 := by omega
          have HST := Lib.hid (castat_any N rm c0 cb s b hi mi L T (by omega) w8 HCA8.out)
          generalize hln : (L).length = ln at HST hs5 hrm5
          obtain ⟨dd, hdd⟩ : ∃ dd, dd = mi - (ln : Nat) := ⟨_, rfl⟩
          have g2 : (mi != ((ln : Nat) : Int) + dd) = false := by rw [hdd]; simp; omega
          have g3 : ¬ (rm : Int) < (ln : Int) := by omega
          have g4 : IntKind.i64.wrap (((ln : Nat) : Int) + dd) = ((ln : Nat) : Int) + dd := IntWalk.i64_in _ (by omega)
          have g5 : IntKind.i64.wrap (hi + mi) = hi + mi := IntWalk.i64_in _ (by omega)
          have HDD := Lib.hid hdd
          clear hln hdd
          go_wp2_with fail
          refine HST.out.mono ?_
          rintro e w9 ⟨rfl, hB9⟩
          rw [← HDD.out]
          have HB9 := Lib.hid (HB8.out.trans (hB9.mono HB8.out.size)); have HCA9 := Lib.hid (HCA8.out.same hB9)
          clear hB9 HST
          go_wp2
          go_roundw
          case rel => exact ⟨k + 1, hi, mi, L, T, by omega, by go_num, rfl, HCA9.out.same ((Below.refl _ w9).alloc (Nat.le_refl _) _), by omega, HB9.out.alloc HB9.out.size _⟩
          case measure => simp [intOf]; omega
        · rw [Int.toNat_natCast] at hc5 hGA hC5
          rw [Int.toNat_natCast]
          dsimp only
          refine hKK.out _ _ ((hB5.at_ HC4.out.sh HX4.out (by decide)).trans HEQ4.out) (fun hHeld => ?_)
          clear hKK KK
          have HB5 := Lib.hid (HB4.out.trans (hB5.below HB4.out.size hs1 hb1)); have HCy := Lib.hid hC5; have HX5 := Lib.hid (HX4.out.but hB5 HC4.out.sh); have HCD5 := Lib.hid ((HCD.out.same HB4c.out).but hB5 HC4.out.sh); have HGA := Lib.hid hGA; have HCK := Lib.hid hc5
          clear hB5 x0 x1 x4 HCC HBC HXC HEQ4 HCD HB4c hGA hC5 hc5
          refine wpAnyH_take (i := 6) (oi := ⟨some 94, .move (.tmp 100), _, _, _, none⟩) (v := (.tuple #[(.slice (some ⟨GA, 0, none⟩) K K), .int .i64 0])) rfl (by kernel_rfl) (by kernel_rfl) (by kernel_rfl) (fun _ _ _ h => h) (Or.inl ⟨by rfl, fun W hW => ?_⟩) (by assumption) ?_
          · go_simp
          simp only [Act.put, List.setIfInBounds_toArray, List.set_cons_zero, List.set_cons_succ]
          refine wpAnyH_take (i := 7) (oi := ⟨some 101, .extract (.tmp 94) 0, _, _, _, none⟩) (v := (.slice (some ⟨GA, 0, none⟩) K K)) rfl (by kernel_rfl) (by kernel_rfl) (by kernel_rfl) (fun _ _ _ h => h) (Or.inl ⟨by rfl, fun W hW => ?_⟩) (by assumption) ?_
          · go_simp
          simp only [Act.put, List.setIfInBounds_toArray, List.set_cons_zero, List.set_cons_succ]
          refine wpAnyH_take (i := 8) (oi := ⟨some 102, .extract (.tmp 94) 1, _, _, _, none⟩) (v := (.int .i64 0)) rfl (by kernel_rfl) (by kernel_rfl) (by kernel_rfl) (fun _ _ _ h => h) (Or.inl ⟨by rfl, fun W hW => ?_⟩) (by assumption) ?_
          · go_simp
          simp only [Act.put, List.setIfInBounds_toArray, List.set_cons_zero, List.set_cons_succ]
          refine wpAnyH_take (i := 9) (oi := ⟨some 18, .assign (.tmp 101), _, _, _, none⟩) (v := (.slice (some ⟨GA, 0, none⟩) K K)) rfl (by kernel_rfl) (by kernel_rfl) (by kernel_rfl) (fun _ _ _ h => h) (Or.inl ⟨by rfl, fun W hW => ?_⟩) (by assumption) ?_
          · go_simp
          simp only [Act.put, List.setIfInBounds_toArray, List.set_cons_zero, List.set_cons_succ]
          refine wpAnyH_take (i := 10) (oi := ⟨some 19, .assign (.tmp 102), _, _, _, none⟩) (v := (.int .i64 0)) rfl (by kernel_rfl) (by kernel_rfl) (by kernel_rfl) (fun _ _ _ h => h) (Or.inl ⟨by rfl, fun W hW => ?_⟩) (by assumption) ?_
          · go_simp
          simp only [Act.put, List.setIfInBounds_toArray, List.set_cons_zero, List.set_cons_succ]
          refine wpAnyH_done (by kernel_rfl) ?_ _
          clear hHeld
          have hsum := ask_sum L (kk K h) hi mi
          have HCg := HCy
          clear HCy
          generalize askH L (kk K h) hi = hi2 at hsum HCg
          generalize askM L (kk K h) mi = mi2 at hsum HCg
          generalize askL rm L (kk K h) = L2 at HCg
          have HSUM := Lib.hid hsum
          have hi02 := HCg.out.cnt.1
          have mi02 : 0 ≤ mi2 := by have := HCg.out.cnt.2; omega
          clear hsum
          have x0 := HX5.out.c0
          have x1 := HX5.out.c1
          have x2 := HX5.out.c2
          have x3 := HX5.out.c3
          have x4 := HX5.out.c4
          go_wp2_with fail
          refine (held6_any qw (K : Nat) ql qf qa li qc h p6 HP6.out hp6l o4 o3 _ (HSI.out.same HB5.out)).mono ?_
          rintro e w6 ⟨ha6, hc6, r6, cc6, rfl, hH6, hB6⟩
          have HB6 := Lib.hid (HB5.out.trans (hB6.mono HB5.out.size)); have HC6 := Lib.hid (HCg.out.same hB6); have HH6 := Lib.hid hH6
          have HCD6 := Lib.hid (HCD5.out.same hB6); have HGA6 := Lib.hid (HGA.out.same hB6)
          clear hB6 hH6 x0 x1 x2 x3 x4
          go_wp2_with fail
          refine (cdecode_any cb5 fb5 G5 N K b5 ha6 li hc6 h r6 (fun _ => p6) cc6 (hbf qf p6) (by omega) (fun _ _ => by omega) _ HCD6.out HH6.out).mono ?_
          rintro e w7 (⟨E', hE', hd7, rfl, hB7⟩ | ⟨hd7, GB, bB, rfl, hGB, hB7⟩)
          · rcases hd7 with ⟨h3, _⟩ | ⟨_, hc7⟩
            · exact absurd (fun _ _ => rfl) h3
            · exact absurd (hc7.uniq HCK.out) hE'
          have HB7 := Lib.hid (HB6.out.trans (hB7.mono HB6.out.size)); have HC7 := Lib.hid (HC6.out.same hB7); have HGA7 := Lib.hid (HGA6.out.same hB7); have HGB7 := Lib.hid hGB
          clear hB7 hd7 hGB
          go_wp2_with fail
          refine (sameRows_any (some ⟨GA, 0, none⟩) (some ⟨GB, 0, none⟩) K K K (fun i => some ⟨bA i, 0, none⟩) (fun i => some ⟨bB i, 0, none⟩) (fun _ => p6) (fun _ => p6) (fun _ => p6) (fun _ => p6) _ _ (by omega) (fun _ _ => by omega) _ HGA7.out.rd HGB7.out.rd (fun _ _ => ⟨rfl, rfl⟩)).mono ?_
          rintro e w8 ⟨rfl, hq8⟩
          have hB8 := drewb hq8
          have HB8 := Lib.hid (HB7.out.trans (hB8.mono HB7.out.size)); have HCA8 := Lib.hid (HC7.out.same hB8)
          clear hq8 hB8
          have g1 : ((hi2 + mi2) != (hi + mi + 1)) = false := by rw [HSUM.out]; simp
          have hs5 := HCA8.out.cnt
          have hrm5 := HCA8.out.sh.room.1
          have hbd5 : hi2 + mi2 ≤ (k : Int) + 1 := by rw [HSUM.out]; omega
          have HST := Lib.hid (castat_any N rm c0 cb s b hi2 mi2 L2 T2 (by omega) w8 HCA8.out)
          generalize hln : (L2).length = ln at HST hs5 hrm5
          obtain ⟨dd, hdd⟩ : ∃ dd, dd = mi2 - (ln : Nat) := ⟨_, rfl⟩
          have g2 : (mi2 != ((ln : Nat) : Int) + dd) = false := by rw [hdd]; simp; omega
          have g3 : ¬ (rm : Int) < (ln : Int) := by omega
          have g4 : IntKind.i64.wrap (((ln : Nat) : Int) + dd) = ((ln : Nat) : Int) + dd := IntWalk.i64_in _ (by omega)
          have g5 : IntKind.i64.wrap (hi2 + mi2) = hi2 + mi2 := IntWalk.i64_in _ (by omega)
          have HDD := Lib.hid hdd
          clear hln hdd
          go_wp2_with fail
          refine HST.out.mono ?_
          rintro e w9 ⟨rfl, hB9⟩
          rw [← HDD.out]
          have HB9 := Lib.hid (HB8.out.trans (hB9.mono HB8.out.size)); have HCA9 := Lib.hid (HCA8.out.same hB9)
          clear hB9 HST
          go_wp2
          go_roundw
          case rel => exact ⟨k + 1, hi2, mi2, L2, T2, by omega, by go_num, by rw [HSUM.out], HCA9.out.same ((Below.refl _ w9).alloc (Nat.le_refl _) _), by omega, HB9.out.alloc HB9.out.size _⟩
          case measure => simp [intOf]; omega
      · clear x1 x4
        go_wp2_with fail
        refine (HPK.out _).mono ?_
        rintro e w' ⟨rfl, hw'⟩
        rw [hw']; clear hw'
        clear x0
        have g1 : ((hi + mi) != (hi + mi)) = false := by simp
        have hs5 := HCC.out.cnt
        have hrm5 := HCC.out.sh.room.1
        have hbd5 : hi + mi ≤ (k : Int) + 1 := by omega
        have HST := Lib.hid (castat_any N rm c0 cb s b hi mi L T (by omega) wc HCC.out)
        generalize hln : (L).length = ln at HST hs5 hrm5
        obtain ⟨dd, hdd⟩ : ∃ dd, dd = mi - (ln : Nat) := ⟨_, rfl⟩
        have g2 : (mi != ((ln : Nat) : Int) + dd) = false := by rw [hdd]; simp; omega
        have g3 : ¬ (rm : Int) < (ln : Int) := by omega
        have g4 : IntKind.i64.wrap (((ln : Nat) : Int) + dd) = ((ln : Nat) : Int) + dd := IntWalk.i64_in _ (by omega)
        have g5 : IntKind.i64.wrap (hi + mi) = hi + mi := IntWalk.i64_in _ (by omega)
        have HDD := Lib.hid hdd
        clear hln hdd
        go_wp2_with fail
        refine HST.out.mono ?_
        rintro e w9 ⟨rfl, hB9⟩
        rw [← HDD.out]
        have HB9 := Lib.hid (HBC.out.trans (hB9.mono HBC.out.size)); have HCA9 := Lib.hid (HCC.out.same hB9)
        clear hB9 HST
        go_wp2
        go_roundw
        case rel => exact ⟨k + 1, hi, mi, L, T, by omega, by go_num, rfl, HCA9.out.same ((Below.refl _ w9).alloc (Nat.le_refl _) _), by omega, HB9.out.alloc HB9.out.size _⟩
        case measure => simp [intOf]; omega
end Go.Proofs.Ytfiafccfkfillaa

namespace Go.Proofs.Ytfiafccfkfillaa
open Go.RowKit Go.Shelf Go.Maps

/-- what the one keeps is the end of what the other keeps: it is full where it is not all. -/
def Suf (r : Nat) (L M : List Lit) : Prop := ∃ P, M = P ++ L ∧ (P = [] ∨ L.length = r)
theorem Suf.mem {r : Nat} {L M : List Lit} (h : Suf r L M) {k : Lit} (hk : k ∈ L) : k ∈ M := by
  obtain ⟨P, rfl, _⟩ := h
  exact List.mem_append_right _ hk
theorem out_append (P L : List Lit) (k : Lit) : out (P ++ L) k = out P k ++ out L k := by unfold out; rw [List.filter_append]
theorem Suf.ask {r q : Nat} {L M : List Lit} (h : Suf r L M) (hr : 1 ≤ r) (hrq : r ≤ q) (hL : L.length ≤ r) (hM : M.length ≤ q) (hd : M.Nodup) (k : Lit) : Suf r (askL r L k) (askL q M k) := by
  obtain ⟨P, rfl, hP⟩ := h
  obtain ⟨hdP, hdL, hdis⟩ := List.nodup_append.1 hd
  by_cases h1 : k ∈ L
  · have h2 : k ∉ P := fun hk => hdis k hk k h1 rfl
    rw [askL_yes h1, askL_yes (List.mem_append_right _ h1), out_append, out_no h2, List.append_assoc]
    refine ⟨P, rfl, hP.imp id fun e => ?_⟩
    have := out_len hdL h1
    rw [List.length_append, List.length_singleton]; omega
  · rw [askL_no h1]
    by_cases h2 : k ∈ P
    · have hl : L.length = r := by
        rcases hP with e | e
        · rw [e] at h2; cases h2
        · exact e
      rw [askL_yes (List.mem_append_left _ h2), out_append, out_no h1]
      unfold dropL
      rw [if_pos hl]
      cases L with
      | nil => simp only [List.length_nil] at hl; omega
      | cons x t =>
        refine ⟨out P k ++ [x], by simp, Or.inr ?_⟩
        simp only [List.length_cons] at hl
        simp only [List.tail_cons, List.length_append, List.length_singleton]; omega
    · have h3 : k ∉ P ++ L := fun hk => (List.mem_append.1 hk).elim h2 h1
      rw [askL_no h3]
      unfold dropL
      by_cases hl : L.length = r
      · rw [if_pos hl]
        cases L with
        | nil => simp only [List.length_nil] at hl; omega
        | cons x t =>
          simp only [List.length_cons] at hl
          have hlen : (t ++ [k]).length = r := by simp only [List.length_append, List.length_singleton]; omega
          by_cases hq : (P ++ x :: t).length = q
          · rw [if_pos hq]
            cases P with
            | nil => exact ⟨[], by simp, Or.inl rfl⟩
            | cons y P' => exact ⟨P' ++ [x], by simp, Or.inr hlen⟩
          · rw [if_neg hq]
            exact ⟨P ++ [x], by simp, Or.inr hlen⟩
      · have hp : P = [] := hP.resolve_right hl
        subst hp
        rw [if_neg hl, if_neg (by simp only [List.nil_append] at hM ⊢; omega)]
        exact ⟨[], by simp, Or.inl rfl⟩
theorem Suf.hit {r : Nat} {L M : List Lit} (h : Suf r L M) {hi hj : Int} (hh : hi ≤ hj) (k : Lit) : askH L k hi ≤ askH M k hj := by
  by_cases h1 : k ∈ L
  · rw [askH_yes h1, askH_yes (h.mem h1)]; omega
  · rw [askH_no h1]
    by_cases h2 : k ∈ M
    · rw [askH_yes h2]; omega
    · rw [askH_no h2]; exact hh
theorem full_ask {q : Nat} {M : List Lit} {mi : Int} (hd : M.Nodup) (h : mi ≤ q → (M.length : Int) = mi) (k : Lit) (h' : askM M k mi ≤ q) : ((askL q M k).length : Int) = askM M k mi := by
  by_cases h1 : k ∈ M
  · rw [askM_yes h1] at h' ⊢
    have h2 := out_len hd h1
    have h3 := h h'
    rw [askL_yes h1, List.length_append, List.length_singleton]; omega
  · rw [askM_no h1] at h' ⊢
    have h3 := h (by omega)
    rw [askL_no h1]
    unfold dropL
    rw [if_neg (by omega), List.length_append, List.length_singleton]; omega
theorem last_in (r : Nat) (L : List Lit) (k : Lit) : k ∈ askL r L k := by
  unfold askL
  split
  · exact List.mem_append_right _ (List.mem_singleton.2 rfl)
  · exact List.mem_append_right _ (List.mem_singleton.2 rfl)
end Go.Proofs.Ytfiafccfkfillaa

namespace Go.Proofs.Ytfiafccfkfillaa
open Go.RowKit Go.Shelf Go.Maps

theorem caturn_bad (N room c0 cb s b : Nat) (hi mi : Int) (L : List Lit) (T : Lit → Tv) (K : Int) (a : Option Addr) (m cap : Nat) (h : Nat → Int) (hm : m ≤ 1000000000000) (hmc : m ≤ cap) (hcm : cap ≤ maxLen) (hbig : hi + mi ≤ 10000000000) (hno : ¬ (1 ≤ K ∧ K ≤ N ∧ Chk h m N K.toNat 0)) (w : World) (hC : Ca w N room c0 cb s b hi mi L T) (hS : Si w a m h) :
    Calls Try.prog 10 #[.pointer (some ⟨c0, 0, none⟩), .int .i64 K, .slice a m cap] w fun e w' => (∃ E : Int, (E == 0) = false ∧ e = .returned (.tuple #[.slice none 0 0, .int .i64 E])) ∧ Below w.heap.size w w' := by
  refine (caturn_any N room c0 cb s b hi mi L T K a m cap h hm hmc hcm hbig w hC hS).mono ?_
  rintro e w' (⟨E, hE, he, _, hB⟩ | ⟨h1, h2, h3, _⟩)
  · exact ⟨⟨E, by simp [hE], he⟩, hB⟩
  · exact absurd ⟨h1, h2, h3⟩ hno
/-- what New answers, whatever is asked. -/
theorem canew_any (n room : Int) (w : World) : Calls Try.prog 6 #[.int .i64 n, .int .i64 room] w fun e w' => (∃ p E, e = .returned (.tuple #[.pointer p, .int .i64 E])) ∧ Below w.heap.size w w' := by
  by_cases hok : 1 ≤ n ∧ n ≤ 255 ∧ 1 ≤ room ∧ room ≤ 64
  · obtain ⟨N, rfl⟩ : ∃ N : Nat, n = (N : Nat) := ⟨n.toNat, by omega⟩
    obtain ⟨r, rfl⟩ : ∃ r : Nat, room = (r : Nat) := ⟨room.toNat, by omega⟩
    refine (canew_yes N r (by omega) (by omega) (by omega) (by omega) w).mono ?_
    rintro e w' ⟨c0, cb, s, b, rfl, _, _, _, _, hB⟩
    exact ⟨⟨_, _, rfl⟩, hB⟩
  · refine (canew_no n room hok w).mono ?_
    rintro e w' ⟨rfl, rfl⟩
    exact ⟨⟨_, _, rfl⟩, Below.refl _ _⟩
/-- three caches. -/
structure Las (w : World) (N r1 r2 c1 cb1 s1 b1 c2 cb2 s2 b2 c3 cb3 s3 b3 : Nat) (h1 m1 : Int) (L1 : List Lit) (T1 : Lit → Tv) (h2 m2 : Int) (L2 : List Lit) (T2 : Lit → Tv) (h3 m3 : Int) (L3 : List Lit) (T3 : Lit → Tv) (k : Nat) : Prop where
  k1 : Ca w N r1 c1 cb1 s1 b1 h1 m1 L1 T1
  k2 : Ca w N r2 c2 cb2 s2 b2 h2 m2 L2 T2
  k3 : Ca w N 64 c3 cb3 s3 b3 h3 m3 L3 T3
  su1 : Suf r1 L1 L2
  su2 : Suf r2 L2 L3
  full : m3 ≤ 64 → (L3.length : Int) = m3
  hh1 : h1 ≤ h2
  hh2 : h2 ≤ h3
  n1 : h1 + m1 ≤ k
  n2 : h2 + m2 ≤ k
  n3 : h3 + m3 ≤ k
/-- the blocks are unlike. -/
def Nes (s1 b1 s2 b2 s3 b3 : Nat) : Prop := s1 ≠ s2 ∧ b1 ≠ b2 ∧ s1 ≠ s3 ∧ b1 ≠ b3 ∧ s2 ≠ s3 ∧ b2 ≠ b3
section
variable {w w' : World} {N r1 r2 c1 cb1 s1 b1 c2 cb2 s2 b2 c3 cb3 s3 b3 : Nat} {h1 m1 : Int} {L1 : List Lit} {T1 : Lit → Tv} {h2 m2 : Int} {L2 : List Lit} {T2 : Lit → Tv} {h3 m3 : Int} {L3 : List Lit} {T3 : Lit → Tv} {k : Nat}
theorem Las.same (x : Las w N r1 r2 c1 cb1 s1 b1 c2 cb2 s2 b2 c3 cb3 s3 b3 h1 m1 L1 T1 h2 m2 L2 T2 h3 m3 L3 T3 k) (hB : Below w.heap.size w w') : Las w' N r1 r2 c1 cb1 s1 b1 c2 cb2 s2 b2 c3 cb3 s3 b3 h1 m1 L1 T1 h2 m2 L2 T2 h3 m3 L3 T3 k :=
  ⟨x.k1.same hB, x.k2.same hB, x.k3.same hB, x.su1, x.su2, x.full, x.hh1, x.hh2, x.n1, x.n2, x.n3⟩
theorem Las.next (x : Las w N r1 r2 c1 cb1 s1 b1 c2 cb2 s2 b2 c3 cb3 s3 b3 h1 m1 L1 T1 h2 m2 L2 T2 h3 m3 L3 T3 k) : Las w N r1 r2 c1 cb1 s1 b1 c2 cb2 s2 b2 c3 cb3 s3 b3 h1 m1 L1 T1 h2 m2 L2 T2 h3 m3 L3 T3 (k + 1) :=
  ⟨x.k1, x.k2, x.k3, x.su1, x.su2, x.full, x.hh1, x.hh2, by have := x.n1; omega, by have := x.n2; omega, by have := x.n3; omega⟩
/-- an ask that all three take. -/
theorem Las.ask {T1' T2' T3' : Lit → Tv} {q : Lit} (x : Las w N r1 r2 c1 cb1 s1 b1 c2 cb2 s2 b2 c3 cb3 s3 b3 h1 m1 L1 T1 h2 m2 L2 T2 h3 m3 L3 T3 k) (hr : r1 ≤ r2)
    (y1 : Ca w' N r1 c1 cb1 s1 b1 (askH L1 q h1) (askM L1 q m1) (askL r1 L1 q) T1') (y2 : Ca w' N r2 c2 cb2 s2 b2 (askH L2 q h2) (askM L2 q m2) (askL r2 L2 q) T2') (y3 : Ca w' N 64 c3 cb3 s3 b3 (askH L3 q h3) (askM L3 q m3) (askL 64 L3 q) T3') :
    Las w' N r1 r2 c1 cb1 s1 b1 c2 cb2 s2 b2 c3 cb3 s3 b3 (askH L1 q h1) (askM L1 q m1) (askL r1 L1 q) T1' (askH L2 q h2) (askM L2 q m2) (askL r2 L2 q) T2' (askH L3 q h3) (askM L3 q m3) (askL 64 L3 q) T3' (k + 1) := by
  have z1 := x.k1.sh.room; have z2 := x.k2.sh.room; have z3 := x.k3.sh.room
  have e1 := ask_sum L1 q h1 m1; have e2 := ask_sum L2 q h2 m2; have e3 := ask_sum L3 q h3 m3
  have := x.n1; have := x.n2; have := x.n3
  exact ⟨y1, y2, y3, x.su1.ask z1.2.1 hr z1.1 z2.1 x.k2.sh.map.nodup q, x.su2.ask z2.2.1 z2.2.2 z2.1 z3.1 x.k3.sh.map.nodup q, full_ask (q := 64) x.k3.sh.map.nodup x.full q, x.su1.hit x.hh1 q, x.su2.hit x.hh2 q, by omega, by omega, by omega⟩
end
def LastRel (w : World) (N r1 r2 c1 cb1 s1 b1 c2 cb2 s2 b2 c3 cb3 s3 b3 m : Nat) (vi : Value) (wr : World) : Prop :=
  ∃ (k : Nat) (h1 m1 : Int) (L1 : List Lit) (T1 : Lit → Tv) (h2 m2 : Int) (L2 : List Lit) (T2 : Lit → Tv) (h3 m3 : Int) (L3 : List Lit) (T3 : Lit → Tv), k ≤ m ∧ vi = .int .i64 (k : Nat) ∧ Las wr N r1 r2 c1 cb1 s1 b1 c2 cb2 s2 b2 c3 cb3 s3 b3 h1 m1 L1 T1 h2 m2 L2 T2 h3 m3 L3 T3 k ∧ Below w.heap.size w wr
set_option maxHeartbeats 8000000 in
set_option maxRecDepth 100000 in
theorem cacheLast_any (n room more : Int) (a : Option Addr) (m cap : Nat) (wh kq lg : Nat → Int) (fs : Nat → Nat) (ia : Nat → Option Addr) (il ic : Nat → Nat) (hI : Nat → Nat → Int) (hm : m ≤ 1000000000000000) (w : World) (hA : As w a m wh kq lg fs ia il ic hI) :
    Calls Try.prog 4 #[.int .i64 n, .int .i64 room, .int .i64 more, .slice a m cap] w fun e w' => e = .returned (.bool true) ∧ Below w.heap.size w w' := by
  have HA := Lib.hid hA; clear hA
  have hfd : ∀ (w : World) (x0 x1 x2 x3 : Int), (Instr.field 46 (.agg #[.int .i64 x0, .int .i64 x1, .int .i64 x2, .int .i64 x3]) 1).run Try.prog w = .ok (.int .i64 x1) w := fun _ _ _ _ _ => by kernel_rfl
  have HPK := Lib.hid (pickv_any more 20 (by omega) (by omega))
  have hpb := pkv_bd more (n := 20) (by omega)
  generalize hpv : pkv more 20 = pv at HPK hpb
  clear hpv
  by_cases hok : 1 ≤ n ∧ n ≤ 255 ∧ 1 ≤ room ∧ room ≤ 64
  rotate_left
  · have HQ := Lib.hid (fun W => canew_no n room hok W)
    clear hok
    go_enter Try.func4, Try.ntmps4
    go_wp2_with fail
    refine (awake6_any _).mono ?_
    rintro e w1 ⟨rfl, hB1⟩
    have HB1 := Lib.hid hB1; clear hB1
    go_wp2_with fail
    refine (HQ.out _).mono ?_
    rintro e w' ⟨rfl, hw'⟩
    rw [hw']; clear hw'
    go_wp2_with fail
    refine (HPK.out _).mono ?_
    rintro e w' ⟨rfl, hw'⟩
    rw [hw']; clear hw'
    go_wp2_with fail
    refine (canew_any _ _ _).mono ?_
    rintro e w3 ⟨⟨p3, E3, rfl⟩, hB3⟩
    have HB3 := Lib.hid (HB1.out.trans (hB3.mono HB1.out.size)); clear hB3
    go_wp2_with fail
    refine (canew_any _ _ _).mono ?_
    rintro e w4 ⟨⟨p4, E4, rfl⟩, hB4⟩
    have HB4 := Lib.hid (HB3.out.trans (hB4.mono HB3.out.size)); clear hB4
    go_wp2_with fail
    refine (great6_any n a m cap wh kq lg fs ia il ic hI hm _ (HA.out.same HB4.out)).mono ?_
    rintro e w5 ⟨v, rfl, hv, hB5⟩
    have HB5 := Lib.hid (HB4.out.trans (hB5.mono HB4.out.size))
    clear hB5 hv
    cases v
    · go_wp2
      go_ret
      exact ⟨rfl, HB5.out⟩
    · go_wp2
      go_ret
      exact ⟨rfl, HB5.out⟩
  obtain ⟨N, rfl⟩ : ∃ N : Nat, n = (N : Nat) := ⟨n.toNat, by omega⟩
  obtain ⟨r1, rfl⟩ : ∃ r1 : Nat, room = (r1 : Nat) := ⟨room.toNat, by omega⟩
  have hN1 : 1 ≤ N := by omega
  have hN2 : N ≤ 255 := by omega
  have hr1 : 1 ≤ r1 := by omega
  have hr2 : r1 ≤ 64 := by omega
  clear hok
  obtain ⟨p, rfl⟩ : ∃ p : Nat, pv = (p : Nat) := ⟨pv.toNat, by omega⟩
  have hwr : IntKind.i64.wrap ((r1 : Int) + (p : Int)) = (r1 : Int) + (p : Int) := IntWalk.i64_in _ (by omega)
  by_cases hok2 : r1 + p ≤ 64
  rotate_left
  · have HQ := Lib.hid (fun W => canew_no (N : Nat) ((r1 : Int) + (p : Int)) (by omega) W)
    clear hok2
    go_enter Try.func4, Try.ntmps4
    go_wp2_with fail
    refine (awake6_any _).mono ?_
    rintro e w1 ⟨rfl, hB1⟩
    have HB1 := Lib.hid hB1; clear hB1
    go_wp2_with fail
    refine (canew_yes N r1 hN1 hN2 hr1 hr2 _).mono ?_
    rintro e w2 ⟨c1, cb1, s1, b1, rfl, hC1, hc1, hs1, hb1, hB2⟩
    have hs1a := Nat.le_trans HB1.out.size hs1.1; have hb1a := Nat.le_trans HB1.out.size hb1.1
    have hs1z := hs1.2; have hb1z := hb1.2
    have HC1 := Lib.hid hC1; have HB2 := Lib.hid (HB1.out.trans (hB2.mono HB1.out.size))
    clear hC1 hc1 hs1 hb1 hB2
    go_wp2_with fail
    refine (HPK.out _).mono ?_
    rintro e w' ⟨rfl, hw'⟩
    rw [hw']; clear hw'
    go_wp2_with fail
    refine (HQ.out _).mono ?_
    rintro e w' ⟨rfl, hw'⟩
    rw [hw']; clear hw'
    go_wp2_with fail
    refine (canew_any _ _ _).mono ?_
    rintro e w4 ⟨⟨p4, E4, rfl⟩, hB4⟩
    have HB4 := Lib.hid (HB2.out.trans (hB4.mono HB2.out.size)); clear hB4
    go_wp2_with fail
    refine (great6_any (N : Nat) a m cap wh kq lg fs ia il ic hI hm _ (HA.out.same HB4.out)).mono ?_
    rintro e w5 ⟨v, rfl, hv, hB5⟩
    have HB5 := Lib.hid (HB4.out.trans (hB5.mono HB4.out.size))
    clear hB5 hv
    cases v
    · go_wp2
      go_ret
      exact ⟨rfl, HB5.out⟩
    · go_wp2
      go_ret
      exact ⟨rfl, HB5.out⟩
  obtain ⟨r2, hr2e⟩ : ∃ r2 : Nat, r2 = r1 + p := ⟨_, rfl⟩
  have HR2 := Lib.hid (show (r1 : Int) + (p : Int) = (r2 : Nat) by rw [hr2e]; push_cast; rfl)
  have hrr : r1 ≤ r2 := by omega
  have hr64 : r2 ≤ 64 := by omega
  clear hok2 hr2e
  go_enter Try.func4, Try.ntmps4
  go_wp2_with fail
  refine (awake6_any _).mono ?_
  rintro e w1 ⟨rfl, hB1⟩
  have HB1 := Lib.hid hB1; clear hB1
  go_wp2_with fail
  refine (canew_yes N r1 hN1 hN2 hr1 hr2 _).mono ?_
  rintro e w2 ⟨c1, cb1, s1, b1, rfl, hC1, hc1, hs1, hb1, hB2⟩
  have hs1a := Nat.le_trans HB1.out.size hs1.1; have hb1a := Nat.le_trans HB1.out.size hb1.1
  have hs1z := hs1.2; have hb1z := hb1.2
  have HC1 := Lib.hid hC1; have HB2 := Lib.hid (HB1.out.trans (hB2.mono HB1.out.size))
  clear hC1 hc1 hs1 hb1 hB2
  go_wp2_with fail
  refine (HPK.out _).mono ?_
  rintro e w' ⟨rfl, hw'⟩
  rw [hw']; clear hw'
  go_wp2_with fail
  rw [HR2.out]
  refine (canew_yes N r2 hN1 hN2 (by omega) hr64 _).mono ?_
  rintro e w3 ⟨c2, cb2, s2, b2, rfl, hC2, hc2, hs2, hb2, hB3⟩
  have hs2a := hs2.1; have hb2a := hb2.1
  have hs2z := hs2.2; have hb2z := hb2.2
  have hsz2 := HB2.out.size
  have HC12 := Lib.hid (HC1.out.same hB3); have HC2 := Lib.hid hC2; have HB3 := Lib.hid (HB2.out.trans (hB3.mono HB2.out.size))
  clear hC2 hc2 hs2 hb2 hB3 HC1 HB2 hwr
  go_wp2_with fail
  refine (canew_yes N 64 hN1 hN2 (by omega) (by omega) _).mono ?_
  rintro e w4 ⟨c3, cb3, s3, b3, rfl, hC3, hc3, hs3, hb3, hB4⟩
  have hs3a := hs3.1; have hb3a := hb3.1
  have hsz3 := HB3.out.size
  have HNE := Lib.hid (show Nes s1 b1 s2 b2 s3 b3 by unfold Nes; omega)
  have HSB := Lib.hid (show w.heap.size ≤ s1 ∧ w.heap.size ≤ b1 ∧ w.heap.size ≤ s2 ∧ w.heap.size ≤ b2 ∧ w.heap.size ≤ s3 ∧ w.heap.size ≤ b3 by omega)
  have HLA := Lib.hid (show Las w4 N r1 r2 c1 cb1 s1 b1 c2 cb2 s2 b2 c3 cb3 s3 b3 0 0 [] _ 0 0 [] _ 0 0 [] _ 0 from ⟨HC12.out.same hB4, HC2.out.same hB4, hC3, ⟨[], rfl, Or.inl rfl⟩, ⟨[], rfl, Or.inl rfl⟩, fun _ => rfl, Int.le_refl _, Int.le_refl _, Int.le_refl _, Int.le_refl _, Int.le_refl _⟩)
  have HB4 := Lib.hid (HB3.out.trans (hB4.mono HB3.out.size))
  clear hC3 hc3 hs3 hb3 hB4 HC12 HC2 HB3 hs1a hb1a hs1z hb1z hs2a hb2a hs2z hb2z hs3a hb3a hsz2 hsz3 HB1
  go_wp2_with fail
  refine (great6_any (N : Nat) a m cap wh kq lg fs ia il ic hI hm _ (HA.out.same HB4.out)).mono ?_
  rintro e w5 ⟨v, rfl, hv, hB5⟩
  have HB5 := Lib.hid (HB4.out.trans (hB5.mono HB4.out.size)); have HLA5 := Lib.hid (HLA.out.same hB5)
  cases v
  rotate_left
  · clear hB5 hv
    go_wp2
    go_ret
    exact ⟨rfl, HB5.out⟩
  obtain ⟨hN12, hm3, hil3⟩ := hv rfl
  have HIL := Lib.hid hil3
  clear hB5 hv hil3 HB4 HLA
  go_wp2_with fail
  go_loopw [15] (fun vi wr => LastRel w N r1 r2 c1 cb1 s1 b1 c2 cb2 s2 b2 c3 cb3 s3 b3 m vi wr) (fun i _ => m - (intOf i).toNat)
  case atStart => exact ⟨0, 0, 0, [], _, 0, 0, [], _, 0, 0, [], _, by omega, rfl, HLA5.out, HB5.out⟩
  case round =>
    rename_i wr
    clear HLA5 HB5
    obtain ⟨k, h1, m1, L1, T1, h2, m2, L2, T2, h3, m3, L3, T3, hk, rfl, hL, hB⟩ := hrel
    have HL := Lib.hid hL; have HB := Lib.hid hB
    have g11 : 0 ≤ h1 ∧ h1 ≤ 300 := by have := hL.k1.cnt; have := hL.n1; omega
    have g12 : 0 ≤ h2 ∧ h2 ≤ 300 := by have := hL.k2.cnt; have := hL.n2; omega
    have g13 : 0 ≤ h3 ∧ h3 ≤ 300 := by have := hL.k3.cnt; have := hL.n3; omega
    have g21 : 0 ≤ m1 ∧ m1 ≤ 300 := by have := hL.k1.cnt; have := hL.n1; omega
    have g22 : 0 ≤ m2 ∧ m2 ≤ 300 := by have := hL.k2.cnt; have := hL.n2; omega
    have g23 : 0 ≤ m3 ∧ m3 ≤ 300 := by have := hL.k3.cnt; have := hL.n3; omega
    have hszr := hB.size
    by_cases hkm : k < m
    rotate_left
    · obtain rfl : k = m := by omega
      clear hkm
      have hfull := hL.full
      have hln := hL.k3.sh.room.1
      have hh2 := hL.hh2
      have HST := Lib.hid (castat_any N 64 c3 cb3 s3 b3 h3 m3 L3 T3 (by omega) wr hL.k3)
      generalize L3.length = ln at HST hfull hln
      obtain ⟨dd, hdd⟩ : ∃ dd, dd = m3 - (ln : Nat) := ⟨_, rfl⟩
      clear hL hB
      by_cases hbig : 64 < m3
      · have HDD := Lib.hid hdd
        clear hdd hfull
        go_wp2_with fail
        refine HST.out.mono ?_
        rintro e w9 ⟨rfl, hB9⟩
        rw [← HDD.out]
        have HB9 := Lib.hid (HB.out.trans (hB9.mono HB.out.size))
        clear hB9 HST
        go_wp2_with fail
        obtain ⟨wy, hwy⟩ : ∃ wy, wy = w9.alloc (.cells #[.int .i64 (ln : Nat), .int .i64 h3, .int .i64 m3, .int .i64 dd] 46) := ⟨_, rfl⟩
        rw [← hwy]
        have hby : Below w9.heap.size w9 wy := by rw [hwy]; exact (Below.refl _ w9).alloc (Nat.le_refl _) _
        have hgy : wy.heap[w9.heap.size]? = some (.cells #[.int .i64 (ln : Nat), .int .i64 h3, .int .i64 m3, .int .i64 dd] 46 (0, 0)) := by rw [hwy]; exact heap_alloc_new _ _
        have hlty := (Array.getElem?_eq_some_iff.1 hgy).1
        have HY := Lib.hid (fun (W : World) (hW : Below wy.heap.size wy W) => ((hW.block _ hlty).trans hgy : W.heap[w9.heap.size]? = some (.cells #[.int .i64 (ln : Nat), .int .i64 h3, .int .i64 m3, .int .i64 dd] 46 (0, 0))))
        have HY0 := Lib.hid (fun (W : World) (hW : Below wy.heap.size wy W) => (show W.cell? ⟨w9.heap.size, 0, none⟩ = some (.int .i64 (ln : Nat)) from by rw [cell_of_row W w9.heap.size 0 _ _ _ (HY.out W hW)]; rfl))
        have HY1 := Lib.hid (fun (W : World) (hW : Below wy.heap.size wy W) => (show W.cell? ⟨w9.heap.size, 1, none⟩ = some (.int .i64 h3) from by rw [cell_of_row W w9.heap.size 1 _ _ _ (HY.out W hW)]; rfl))
        have HY2 := Lib.hid (fun (W : World) (hW : Below wy.heap.size wy W) => (show W.cell? ⟨w9.heap.size, 2, none⟩ = some (.int .i64 m3) from by rw [cell_of_row W w9.heap.size 2 _ _ _ (HY.out W hW)]; rfl))
        have HY3 := Lib.hid (fun (W : World) (hW : Below wy.heap.size wy W) => (show W.cell? ⟨w9.heap.size, 3, none⟩ = some (.int .i64 dd) from by rw [cell_of_row W w9.heap.size 3 _ _ _ (HY.out W hW)]; rfl))
        have HBy := Lib.hid (HB9.out.trans (hby.mono HB9.out.size))
        clear hwy hby hgy
        refine wp_region_held_drew (S := fun W => Below wy.heap.size wy W) (by kernel_rfl) (below_dr (Below.refl _ wy) 1) (fun hHeld => ?_)
        refine wpAnyH_take (i := 0) (oi := ⟨some 110, .fieldAddr 46 (.tmp 19) 2, _, _, _, none⟩) (v := (.pointer (some ⟨w9.heap.size, 2, none⟩))) rfl (by kernel_rfl) (by kernel_rfl) (by kernel_rfl) (fun _ _ _ h => h) (Or.inl ⟨by rfl, fun W hW => ?_⟩) (by assumption) ?_
        · go_simp
        simp only [Act.put, List.setIfInBounds_toArray, List.set_cons_zero, List.set_cons_succ]
        refine wpAnyH_take (i := 1) (oi := ⟨some 111, .load 3 (.tmp 110), _, _, _, none⟩) (v := (.int .i64 m3)) rfl (by kernel_rfl) (by kernel_rfl) (by kernel_rfl) (fun _ _ _ h => h) (Or.inl ⟨by rfl, fun W hW => ?_⟩) (by assumption) ?_
        · have := HY2.out W hW; go_simp
        simp only [Act.put, List.setIfInBounds_toArray, List.set_cons_zero, List.set_cons_succ]
        refine wpAnyH_take (i := 2) (oi := ⟨some 112, .binOp .gtr 3 (.tmp 111) (.const (.int .i64 64)) 3, _, _, _, none⟩) (v := (.bool true)) rfl (by kernel_rfl) (by kernel_rfl) (by kernel_rfl) (fun _ _ _ h => h) (Or.inl ⟨by rfl, fun W hW => ?_⟩) (by assumption) ?_
        · go_simp
        simp only [Act.put, List.setIfInBounds_toArray, List.set_cons_zero, List.set_cons_succ]
        refine wpAnyH_take (i := 3) (oi := ⟨some 113, .move (.tmp 112), _, _, _, none⟩) (v := (.bool true)) rfl (by kernel_rfl) (by kernel_rfl) (by kernel_rfl) (fun _ _ _ h => h) (Or.inl ⟨by rfl, fun W hW => ?_⟩) (by assumption) ?_
        · go_simp
        simp only [Act.put, List.setIfInBounds_toArray, List.set_cons_zero, List.set_cons_succ]
        refine wpAnyH_take (i := 4) (oi := ⟨some 114, _, _, _, _, some (3, false)⟩) (v := undef) rfl (by kernel_rfl) (by kernel_rfl) (by kernel_rfl) (fun _ _ _ h => h) (Or.inr ⟨by rfl, rfl⟩) (by assumption) ?_
        simp only [Act.put, List.setIfInBounds_toArray, List.set_cons_zero, List.set_cons_succ]
        refine wpAnyH_take (i := 5) (oi := ⟨some 115, _, _, _, _, some (3, false)⟩) (v := undef) rfl (by kernel_rfl) (by kernel_rfl) (by kernel_rfl) (fun _ _ _ h => h) (Or.inr ⟨by rfl, rfl⟩) (by assumption) ?_
        simp only [Act.put, List.setIfInBounds_toArray, List.set_cons_zero, List.set_cons_succ]
        refine wpAnyH_take (i := 6) (oi := ⟨some 116, _, _, _, _, some (3, false)⟩) (v := undef) rfl (by kernel_rfl) (by kernel_rfl) (by kernel_rfl) (fun _ _ _ h => h) (Or.inr ⟨by rfl, rfl⟩) (by assumption) ?_
        simp only [Act.put, List.setIfInBounds_toArray, List.set_cons_zero, List.set_cons_succ]
        refine wpAnyH_take (i := 7) (oi := ⟨some 117, _, _, _, _, some (3, false)⟩) (v := undef) rfl (by kernel_rfl) (by kernel_rfl) (by kernel_rfl) (fun _ _ _ h => h) (Or.inr ⟨by rfl, rfl⟩) (by assumption) ?_
        simp only [Act.put, List.setIfInBounds_toArray, List.set_cons_zero, List.set_cons_succ]
        refine wpAnyH_take (i := 8) (oi := ⟨some 118, _, _, _, _, some (7, true)⟩) (v := undef) rfl (by kernel_rfl) (by kernel_rfl) (by kernel_rfl) (fun _ _ _ h => h) (Or.inr ⟨by rfl, rfl⟩) (by assumption) ?_
        simp only [Act.put, List.setIfInBounds_toArray, List.set_cons_zero, List.set_cons_succ]
        refine wpAnyH_take (i := 9) (oi := ⟨some 119, _, _, _, _, some (7, true)⟩) (v := undef) rfl (by kernel_rfl) (by kernel_rfl) (by kernel_rfl) (fun _ _ _ h => h) (Or.inr ⟨by rfl, rfl⟩) (by assumption) ?_
        simp only [Act.put, List.setIfInBounds_toArray, List.set_cons_zero, List.set_cons_succ]
        refine wpAnyH_take (i := 10) (oi := ⟨some 120, _, _, _, _, some (7, true)⟩) (v := undef) rfl (by kernel_rfl) (by kernel_rfl) (by kernel_rfl) (fun _ _ _ h => h) (Or.inr ⟨by rfl, rfl⟩) (by assumption) ?_
        simp only [Act.put, List.setIfInBounds_toArray, List.set_cons_zero, List.set_cons_succ]
        refine wpAnyH_take (i := 11) (oi := ⟨some 121, _, _, _, _, some (7, true)⟩) (v := undef) rfl (by kernel_rfl) (by kernel_rfl) (by kernel_rfl) (fun _ _ _ h => h) (Or.inr ⟨by rfl, rfl⟩) (by assumption) ?_
        simp only [Act.put, List.setIfInBounds_toArray, List.set_cons_zero, List.set_cons_succ]
        refine wpAnyH_take (i := 12) (oi := ⟨some 122, _, _, _, _, some (7, true)⟩) (v := undef) rfl (by kernel_rfl) (by kernel_rfl) (by kernel_rfl) (fun _ _ _ h => h) (Or.inr ⟨by rfl, rfl⟩) (by assumption) ?_
        simp only [Act.put, List.setIfInBounds_toArray, List.set_cons_zero, List.set_cons_succ]
        refine wpAnyH_take (i := 13) (oi := ⟨some 123, _, _, _, _, some (3, false)⟩) (v := undef) rfl (by kernel_rfl) (by kernel_rfl) (by kernel_rfl) (fun _ _ _ h => h) (Or.inr ⟨by rfl, rfl⟩) (by assumption) ?_
        simp only [Act.put, List.setIfInBounds_toArray, List.set_cons_zero, List.set_cons_succ]
        refine wpAnyH_take (i := 14) (oi := ⟨some 124, _, _, _, _, some (3, false)⟩) (v := undef) rfl (by kernel_rfl) (by kernel_rfl) (by kernel_rfl) (fun _ _ _ h => h) (Or.inr ⟨by rfl, rfl⟩) (by assumption) ?_
        simp only [Act.put, List.setIfInBounds_toArray, List.set_cons_zero, List.set_cons_succ]
        refine wpAnyH_take (i := 15) (oi := ⟨some 125, _, _, _, _, some (14, true)⟩) (v := undef) rfl (by kernel_rfl) (by kernel_rfl) (by kernel_rfl) (fun _ _ _ h => h) (Or.inr ⟨by rfl, rfl⟩) (by assumption) ?_
        simp only [Act.put, List.setIfInBounds_toArray, List.set_cons_zero, List.set_cons_succ]
        refine wpAnyH_take (i := 16) (oi := ⟨some 126, _, _, _, _, some (14, true)⟩) (v := undef) rfl (by kernel_rfl) (by kernel_rfl) (by kernel_rfl) (fun _ _ _ h => h) (Or.inr ⟨by rfl, rfl⟩) (by assumption) ?_
        simp only [Act.put, List.setIfInBounds_toArray, List.set_cons_zero, List.set_cons_succ]
        refine wpAnyH_take (i := 17) (oi := ⟨some 127, _, _, _, _, some (14, true)⟩) (v := undef) rfl (by kernel_rfl) (by kernel_rfl) (by kernel_rfl) (fun _ _ _ h => h) (Or.inr ⟨by rfl, rfl⟩) (by assumption) ?_
        simp only [Act.put, List.setIfInBounds_toArray, List.set_cons_zero, List.set_cons_succ]
        refine wpAnyH_take (i := 18) (oi := ⟨some 128, _, _, _, _, some (14, true)⟩) (v := undef) rfl (by kernel_rfl) (by kernel_rfl) (by kernel_rfl) (fun _ _ _ h => h) (Or.inr ⟨by rfl, rfl⟩) (by assumption) ?_
        simp only [Act.put, List.setIfInBounds_toArray, List.set_cons_zero, List.set_cons_succ]
        refine wpAnyH_take (i := 19) (oi := ⟨some 129, _, _, _, _, some (14, true)⟩) (v := undef) rfl (by kernel_rfl) (by kernel_rfl) (by kernel_rfl) (fun _ _ _ h => h) (Or.inr ⟨by rfl, rfl⟩) (by assumption) ?_
        simp only [Act.put, List.setIfInBounds_toArray, List.set_cons_zero, List.set_cons_succ]
        refine wpAnyH_take (i := 20) (oi := ⟨some 130, _, _, _, _, some (14, true)⟩) (v := undef) rfl (by kernel_rfl) (by kernel_rfl) (by kernel_rfl) (fun _ _ _ h => h) (Or.inr ⟨by rfl, rfl⟩) (by assumption) ?_
        simp only [Act.put, List.setIfInBounds_toArray, List.set_cons_zero, List.set_cons_succ]
        refine wpAnyH_take (i := 21) (oi := ⟨some 131, _, _, _, _, some (3, false)⟩) (v := undef) rfl (by kernel_rfl) (by kernel_rfl) (by kernel_rfl) (fun _ _ _ h => h) (Or.inr ⟨by rfl, rfl⟩) (by assumption) ?_
        simp only [Act.put, List.setIfInBounds_toArray, List.set_cons_zero, List.set_cons_succ]
        refine wpAnyH_take (i := 22) (oi := ⟨some 132, .pick (.tmp 113) (.const (.bool true)) (.tmp 131), _, _, _, none⟩) (v := (.bool true)) rfl (by kernel_rfl) (by kernel_rfl) (by kernel_rfl) (fun _ _ _ h => h) (Or.inl ⟨by rfl, fun W hW => ?_⟩) (by assumption) ?_
        · go_simp
        simp only [Act.put, List.setIfInBounds_toArray, List.set_cons_zero, List.set_cons_succ]
        refine wpAnyH_take (i := 23) (oi := ⟨some 8, .assign (.tmp 132), _, _, _, none⟩) (v := (.bool true)) rfl (by kernel_rfl) (by kernel_rfl) (by kernel_rfl) (fun _ _ _ h => h) (Or.inl ⟨by rfl, fun W hW => ?_⟩) (by assumption) ?_
        · go_simp
        simp only [Act.put, List.setIfInBounds_toArray, List.set_cons_zero, List.set_cons_succ]
        refine wpAnyH_done (by kernel_rfl) ?_ _
        have HBY := Lib.hid (HBy.out.trans (hHeld.mono HBy.out.size))
        clear hHeld
        go_wp2
        go_ret
        exact ⟨rfl, HBY.out⟩
      · obtain rfl : m3 = (ln : Nat) := by have := hfull (by omega); omega
        obtain rfl : dd = 0 := by omega
        have HDD := Lib.hid hdd
        clear hdd hfull
        go_wp2_with fail
        refine HST.out.mono ?_
        rintro e w9 ⟨rfl, hB9⟩
        rw [← HDD.out]
        have HB9 := Lib.hid (HB.out.trans (hB9.mono HB.out.size)); have HL9 := Lib.hid (HL.out.same hB9)
        clear hB9 HST
        go_wp2_with fail
        obtain ⟨wy, hwy⟩ : ∃ wy, wy = w9.alloc (.cells #[.int .i64 (ln : Nat), .int .i64 h3, .int .i64 (ln : Nat), .int .i64 0] 46) := ⟨_, rfl⟩
        rw [← hwy]
        have hby : Below w9.heap.size w9 wy := by rw [hwy]; exact (Below.refl _ w9).alloc (Nat.le_refl _) _
        have hgy : wy.heap[w9.heap.size]? = some (.cells #[.int .i64 (ln : Nat), .int .i64 h3, .int .i64 (ln : Nat), .int .i64 0] 46 (0, 0)) := by rw [hwy]; exact heap_alloc_new _ _
        have hlty := (Array.getElem?_eq_some_iff.1 hgy).1
        have HY := Lib.hid (fun (W : World) (hW : Below wy.heap.size wy W) => ((hW.block _ hlty).trans hgy : W.heap[w9.heap.size]? = some (.cells #[.int .i64 (ln : Nat), .int .i64 h3, .int .i64 (ln : Nat), .int .i64 0] 46 (0, 0))))
        have HY0 := Lib.hid (fun (W : World) (hW : Below wy.heap.size wy W) => (show W.cell? ⟨w9.heap.size, 0, none⟩ = some (.int .i64 (ln : Nat)) from by rw [cell_of_row W w9.heap.size 0 _ _ _ (HY.out W hW)]; rfl))
        have HY1 := Lib.hid (fun (W : World) (hW : Below wy.heap.size wy W) => (show W.cell? ⟨w9.heap.size, 1, none⟩ = some (.int .i64 h3) from by rw [cell_of_row W w9.heap.size 1 _ _ _ (HY.out W hW)]; rfl))
        have HY2 := Lib.hid (fun (W : World) (hW : Below wy.heap.size wy W) => (show W.cell? ⟨w9.heap.size, 2, none⟩ = some (.int .i64 (ln : Nat)) from by rw [cell_of_row W w9.heap.size 2 _ _ _ (HY.out W hW)]; rfl))
        have HY3 := Lib.hid (fun (W : World) (hW : Below wy.heap.size wy W) => (show W.cell? ⟨w9.heap.size, 3, none⟩ = some (.int .i64 0) from by rw [cell_of_row W w9.heap.size 3 _ _ _ (HY.out W hW)]; rfl))
        have HBy := Lib.hid (HB9.out.trans (hby.mono HB9.out.size))
        clear hwy hgy
        have HLY := Lib.hid (HL9.out.same hby)
        have g3 : (h2 ≤ h3) := hh2
        refine wp_region_held_drew (S := fun W => Below wy.heap.size wy W) (by kernel_rfl) (below_dr (Below.refl _ wy) 1) (fun hHeld => ?_)
        refine wpAnyH_take (i := 0) (oi := ⟨some 110, .fieldAddr 46 (.tmp 19) 2, _, _, _, none⟩) (v := (.pointer (some ⟨w9.heap.size, 2, none⟩))) rfl (by kernel_rfl) (by kernel_rfl) (by kernel_rfl) (fun _ _ _ h => h) (Or.inl ⟨by rfl, fun W hW => ?_⟩) (by assumption) ?_
        · go_simp
        simp only [Act.put, List.setIfInBounds_toArray, List.set_cons_zero, List.set_cons_succ]
        refine wpAnyH_take (i := 1) (oi := ⟨some 111, .load 3 (.tmp 110), _, _, _, none⟩) (v := (.int .i64 (ln : Nat))) rfl (by kernel_rfl) (by kernel_rfl) (by kernel_rfl) (fun _ _ _ h => h) (Or.inl ⟨by rfl, fun W hW => ?_⟩) (by assumption) ?_
        · have := HY2.out W hW; go_simp
        simp only [Act.put, List.setIfInBounds_toArray, List.set_cons_zero, List.set_cons_succ]
        refine wpAnyH_take (i := 2) (oi := ⟨some 112, .binOp .gtr 3 (.tmp 111) (.const (.int .i64 64)) 3, _, _, _, none⟩) (v := (.bool false)) rfl (by kernel_rfl) (by kernel_rfl) (by kernel_rfl) (fun _ _ _ h => h) (Or.inl ⟨by rfl, fun W hW => ?_⟩) (by assumption) ?_
        · go_simp
        simp only [Act.put, List.setIfInBounds_toArray, List.set_cons_zero, List.set_cons_succ]
        refine wpAnyH_take (i := 3) (oi := ⟨some 113, .move (.tmp 112), _, _, _, none⟩) (v := (.bool false)) rfl (by kernel_rfl) (by kernel_rfl) (by kernel_rfl) (fun _ _ _ h => h) (Or.inl ⟨by rfl, fun W hW => ?_⟩) (by assumption) ?_
        · go_simp
        simp only [Act.put, List.setIfInBounds_toArray, List.set_cons_zero, List.set_cons_succ]
        refine wpAnyH_take (i := 4) (oi := ⟨some 114, .fieldAddr 46 (.tmp 19) 3, _, _, _, some (3, false)⟩) (v := (.pointer (some ⟨w9.heap.size, 3, none⟩))) rfl (by kernel_rfl) (by kernel_rfl) (by kernel_rfl) (fun _ _ _ h => h) (Or.inl ⟨by rfl, fun W hW => ?_⟩) (by assumption) ?_
        · go_simp
        simp only [Act.put, List.setIfInBounds_toArray, List.set_cons_zero, List.set_cons_succ]
        refine wpAnyH_take (i := 5) (oi := ⟨some 115, .load 3 (.tmp 114), _, _, _, some (3, false)⟩) (v := (.int .i64 0)) rfl (by kernel_rfl) (by kernel_rfl) (by kernel_rfl) (fun _ _ _ h => h) (Or.inl ⟨by rfl, fun W hW => ?_⟩) (by assumption) ?_
        · have := HY3.out W hW; go_simp
        simp only [Act.put, List.setIfInBounds_toArray, List.set_cons_zero, List.set_cons_succ]
        refine wpAnyH_take (i := 6) (oi := ⟨some 116, .binOp .eql 3 (.tmp 115) (.const (.int .i64 0)) 3, _, _, _, some (3, false)⟩) (v := (.bool true)) rfl (by kernel_rfl) (by kernel_rfl) (by kernel_rfl) (fun _ _ _ h => h) (Or.inl ⟨by rfl, fun W hW => ?_⟩) (by assumption) ?_
        · go_simp
        simp only [Act.put, List.setIfInBounds_toArray, List.set_cons_zero, List.set_cons_succ]
        refine wpAnyH_take (i := 7) (oi := ⟨some 117, .move (.tmp 116), _, _, _, some (3, false)⟩) (v := (.bool true)) rfl (by kernel_rfl) (by kernel_rfl) (by kernel_rfl) (fun _ _ _ h => h) (Or.inl ⟨by rfl, fun W hW => ?_⟩) (by assumption) ?_
        · go_simp
        simp only [Act.put, List.setIfInBounds_toArray, List.set_cons_zero, List.set_cons_succ]
        refine wpAnyH_take (i := 8) (oi := ⟨some 118, .fieldAddr 46 (.tmp 19) 0, _, _, _, some (7, true)⟩) (v := (.pointer (some ⟨w9.heap.size, 0, none⟩))) rfl (by kernel_rfl) (by kernel_rfl) (by kernel_rfl) (fun _ _ _ h => h) (Or.inl ⟨by rfl, fun W hW => ?_⟩) (by assumption) ?_
        · go_simp
        simp only [Act.put, List.setIfInBounds_toArray, List.set_cons_zero, List.set_cons_succ]
        refine wpAnyH_take (i := 9) (oi := ⟨some 119, .load 3 (.tmp 118), _, _, _, some (7, true)⟩) (v := (.int .i64 (ln : Nat))) rfl (by kernel_rfl) (by kernel_rfl) (by kernel_rfl) (fun _ _ _ h => h) (Or.inl ⟨by rfl, fun W hW => ?_⟩) (by assumption) ?_
        · have := HY0.out W hW; go_simp
        simp only [Act.put, List.setIfInBounds_toArray, List.set_cons_zero, List.set_cons_succ]
        refine wpAnyH_take (i := 10) (oi := ⟨some 120, .fieldAddr 46 (.tmp 19) 2, _, _, _, some (7, true)⟩) (v := (.pointer (some ⟨w9.heap.size, 2, none⟩))) rfl (by kernel_rfl) (by kernel_rfl) (by kernel_rfl) (fun _ _ _ h => h) (Or.inl ⟨by rfl, fun W hW => ?_⟩) (by assumption) ?_
        · go_simp
        simp only [Act.put, List.setIfInBounds_toArray, List.set_cons_zero, List.set_cons_succ]
        refine wpAnyH_take (i := 11) (oi := ⟨some 121, .load 3 (.tmp 120), _, _, _, some (7, true)⟩) (v := (.int .i64 (ln : Nat))) rfl (by kernel_rfl) (by kernel_rfl) (by kernel_rfl) (fun _ _ _ h => h) (Or.inl ⟨by rfl, fun W hW => ?_⟩) (by assumption) ?_
        · have := HY2.out W hW; go_simp
        simp only [Act.put, List.setIfInBounds_toArray, List.set_cons_zero, List.set_cons_succ]
        refine wpAnyH_take (i := 12) (oi := ⟨some 122, .binOp .eql 3 (.tmp 119) (.tmp 121) 3, _, _, _, some (7, true)⟩) (v := (.bool true)) rfl (by kernel_rfl) (by kernel_rfl) (by kernel_rfl) (fun _ _ _ h => h) (Or.inl ⟨by rfl, fun W hW => ?_⟩) (by assumption) ?_
        · go_simp
        simp only [Act.put, List.setIfInBounds_toArray, List.set_cons_zero, List.set_cons_succ]
        refine wpAnyH_take (i := 13) (oi := ⟨some 123, .pick (.tmp 117) (.tmp 122) (.const (.bool false)), _, _, _, some (3, false)⟩) (v := (.bool true)) rfl (by kernel_rfl) (by kernel_rfl) (by kernel_rfl) (fun _ _ _ h => h) (Or.inl ⟨by rfl, fun W hW => ?_⟩) (by assumption) ?_
        · go_simp
        simp only [Act.put, List.setIfInBounds_toArray, List.set_cons_zero, List.set_cons_succ]
        refine wpAnyH_take (i := 14) (oi := ⟨some 124, .move (.tmp 123), _, _, _, some (3, false)⟩) (v := (.bool true)) rfl (by kernel_rfl) (by kernel_rfl) (by kernel_rfl) (fun _ _ _ h => h) (Or.inl ⟨by rfl, fun W hW => ?_⟩) (by assumption) ?_
        · go_simp
        simp only [Act.put, List.setIfInBounds_toArray, List.set_cons_zero, List.set_cons_succ]
        refine wpAnyH_take (i := 15) (oi := ⟨some 125, .fieldAddr 46 (.tmp 19) 1, _, _, _, some (14, true)⟩) (v := (.pointer (some ⟨w9.heap.size, 1, none⟩))) rfl (by kernel_rfl) (by kernel_rfl) (by kernel_rfl) (fun _ _ _ h => h) (Or.inl ⟨by rfl, fun W hW => ?_⟩) (by assumption) ?_
        · go_simp
        simp only [Act.put, List.setIfInBounds_toArray, List.set_cons_zero, List.set_cons_succ]
        refine wpAnyH_take (i := 16) (oi := ⟨some 126, .load 3 (.tmp 125), _, _, _, some (14, true)⟩) (v := (.int .i64 h3)) rfl (by kernel_rfl) (by kernel_rfl) (by kernel_rfl) (fun _ _ _ h => h) (Or.inl ⟨by rfl, fun W hW => ?_⟩) (by assumption) ?_
        · have := HY1.out W hW; go_simp
        simp only [Act.put, List.setIfInBounds_toArray, List.set_cons_zero, List.set_cons_succ]
        refine wpAnyH_take (i := 17) (oi := ⟨some 127, .move (.tmp 11), _, _, _, some (14, true)⟩) (v := (.pointer (some ⟨c2, 0, none⟩))) rfl (by kernel_rfl) (by kernel_rfl) (by kernel_rfl) (fun _ _ _ h => h) (Or.inl ⟨by rfl, fun W hW => ?_⟩) (by assumption) ?_
        · go_simp
        simp only [Act.put, List.setIfInBounds_toArray, List.set_cons_zero, List.set_cons_succ]
        refine wpAnyH_ready (rs := [18]) (by kernel_rfl) (by simp) (AllReadyH.cons rfl (fun KK hKK => ?_) AllReadyH.nil)
        go_simp
        refine (castat_any N r2 c2 cb2 s2 b2 h2 m2 L2 T2 (by omega) _ (HLY.out.k2.same (below_dr (Below.refl _ wy) 1))).mono ?_
        rintro e wz ⟨rfl, hBz⟩
        dsimp only
        have hbz : Below wy.heap.size wy wz := (below_dr (Below.refl _ wy) 1).trans hBz
        refine hKK.out _ _ hbz (fun hHeld => ?_)
        clear hKK KK hbz hBz
        try simp only [Act.put, List.setIfInBounds_toArray, List.set_cons_zero, List.set_cons_succ]
        refine wpAnyH_take (i := 19) (oi := ⟨some 129, .field 46 (.tmp 128) 1, _, _, _, some (14, true)⟩) (v := (.int .i64 h2)) rfl (by kernel_rfl) (by kernel_rfl) (by kernel_rfl) (fun _ _ _ h => h) (Or.inl ⟨by rfl, fun W hW => ?_⟩) (by assumption) ?_
        · have := hfd W; go_simp
        simp only [Act.put, List.setIfInBounds_toArray, List.set_cons_zero, List.set_cons_succ]
        refine wpAnyH_take (i := 20) (oi := ⟨some 130, .binOp .geq 3 (.tmp 126) (.tmp 129) 3, _, _, _, some (14, true)⟩) (v := (.bool true)) rfl (by kernel_rfl) (by kernel_rfl) (by kernel_rfl) (fun _ _ _ h => h) (Or.inl ⟨by rfl, fun W hW => ?_⟩) (by assumption) ?_
        · go_simp
        simp only [Act.put, List.setIfInBounds_toArray, List.set_cons_zero, List.set_cons_succ]
        refine wpAnyH_take (i := 21) (oi := ⟨some 131, .pick (.tmp 124) (.tmp 130) (.const (.bool false)), _, _, _, some (3, false)⟩) (v := (.bool true)) rfl (by kernel_rfl) (by kernel_rfl) (by kernel_rfl) (fun _ _ _ h => h) (Or.inl ⟨by rfl, fun W hW => ?_⟩) (by assumption) ?_
        · go_simp
        simp only [Act.put, List.setIfInBounds_toArray, List.set_cons_zero, List.set_cons_succ]
        refine wpAnyH_take (i := 22) (oi := ⟨some 132, .pick (.tmp 113) (.const (.bool true)) (.tmp 131), _, _, _, none⟩) (v := (.bool true)) rfl (by kernel_rfl) (by kernel_rfl) (by kernel_rfl) (fun _ _ _ h => h) (Or.inl ⟨by rfl, fun W hW => ?_⟩) (by assumption) ?_
        · go_simp
        simp only [Act.put, List.setIfInBounds_toArray, List.set_cons_zero, List.set_cons_succ]
        refine wpAnyH_take (i := 23) (oi := ⟨some 8, .assign (.tmp 132), _, _, _, none⟩) (v := (.bool true)) rfl (by kernel_rfl) (by kernel_rfl) (by kernel_rfl) (fun _ _ _ h => h) (Or.inl ⟨by rfl, fun W hW => ?_⟩) (by assumption) ?_
        · go_simp
        simp only [Act.put, List.setIfInBounds_toArray, List.set_cons_zero, List.set_cons_succ]
        refine wpAnyH_done (by kernel_rfl) ?_ _
        have HBY := Lib.hid (HBy.out.trans (hHeld.mono HBy.out.size))
        clear hHeld
        go_wp2
        go_ret
        exact ⟨rfl, HBY.out⟩
    have i1 : (k : Int) < (m : Int) := by omega
    obtain ⟨xb, xo, ea, c0', c1', c2', c3', c4'⟩ := (HA.out.same hB).cell k hkm
    have EA := Lib.hid (show a = some ⟨xb, xo, none⟩ from ea)
    have hsi := HA.out.ind k hkm
    obtain ⟨o1, o2, _, o4⟩ := HA.out.ok k hkm
    have o3 := HIL.out k hkm
    subst ea
    generalize wh k = qw at c0'
    generalize kq k = qk at c1'
    generalize lg k = ql at c2'
    generalize fs k = qf at c3' o4
    generalize ia k = qa at c4' hsi
    generalize il k = li at c4' hsi o1 o3
    generalize ic k = qc at c4' o1 o2
    generalize hI k = h at hsi
    have HSI := Lib.hid hsi
    obtain ⟨wx, hwx⟩ : ∃ wx, wx = wr.alloc (.cells #[.int .i64 qw, .int .i64 qk, .int .i64 ql, .int .u8 (qf : Nat), .slice qa li qc] 31) := ⟨_, rfl⟩
    have hbx : Below wr.heap.size wr wx := by rw [hwx]; exact (Below.refl _ wr).alloc (Nat.le_refl _) _
    have HXX := Lib.hid (show Xb wx wr.heap.size qw qk ql qf qa li qc from by rw [hwx]; exact heap_alloc_new _ _)
    have HBX := Lib.hid (hB.trans (hbx.mono hszr)); have HLX := Lib.hid (hL.same hbx); have HWX := Lib.hid hwx
    clear hL hB hsi hwx hbx
    by_cases hgood : 1 ≤ qk ∧ qk ≤ (N : Int) ∧ Chk h li N qk.toNat 0
    rotate_left
    · have HG := Lib.hid hgood
      clear hgood
      go_wp2_with fail
      rw [← HWX.out]
      clear c0' c1' c2' c3' c4' HL HB HWX
      refine (caturn_bad N r1 c1 cb1 s1 b1 h1 m1 L1 T1 qk qa li qc h (by omega) o1 o2 (by omega) HG.out _ HLX.out.k1 (HSI.out.same HBX.out)).mono ?_
      rintro e wa ⟨⟨E, hE, rfl⟩, hBa⟩
      have HBa := Lib.hid (HBX.out.trans (hBa.mono HBX.out.size)); have HLa := Lib.hid (HLX.out.same hBa); have HXa := Lib.hid (HXX.out.same hBa)
      have x1 := HXa.out.c1
      have x4 := HXa.out.c4
      clear hBa HBX HLX HXX
      go_wp2_with fail
      refine (caturn_bad N r2 c2 cb2 s2 b2 h2 m2 L2 T2 qk qa li qc h (by omega) o1 o2 (by omega) HG.out _ HLa.out.k2 (HSI.out.same HBa.out)).mono ?_
      rintro e wb ⟨⟨E2, hE2, rfl⟩, hBb⟩
      have HBb := Lib.hid (HBa.out.trans (hBb.mono HBa.out.size)); have HLb := Lib.hid (HLa.out.same hBb); have HXb := Lib.hid (HXa.out.same hBb)
      clear x1 x4 hE2
      have x1 := HXb.out.c1
      have x4 := HXb.out.c4
      clear hBb HBa HLa HXa
      go_wp2_with fail
      refine (caturn_bad N 64 c3 cb3 s3 b3 h3 m3 L3 T3 qk qa li qc h (by omega) o1 o2 (by omega) HG.out _ HLb.out.k3 (HSI.out.same HBb.out)).mono ?_
      rintro e wc ⟨⟨E3, hE3, rfl⟩, hBc⟩
      have HBc := Lib.hid (HBb.out.trans (hBc.mono HBb.out.size)); have HLc := Lib.hid (HLb.out.same hBc)
      clear x1 x4 hE3
      clear hBc HBb HLb HXb
      have g1 : ¬ h2 < h1 := by have := HLc.out.hh1; omega
      go_wp2_with fail
      refine (castat_any N r2 c2 cb2 s2 b2 h2 m2 L2 T2 (by omega) _ HLc.out.k2).mono ?_
      rintro e wd ⟨rfl, hBd⟩
      have HBd := Lib.hid (HBc.out.trans (hBd.mono HBc.out.size)); have HLd := Lib.hid (HLc.out.same hBd)
      clear hBd HBc HLc
      go_wp2_with fail
      refine (castat_any N r1 c1 cb1 s1 b1 h1 m1 L1 T1 (by omega) _ HLd.out.k1).mono ?_
      rintro e we ⟨rfl, hBe⟩
      have HBe := Lib.hid (HBd.out.trans (hBe.mono HBd.out.size)); have HLe := Lib.hid (HLd.out.same hBe)
      clear hBe HBd HLd
      go_wp2
      go_roundw
      case rel => exact ⟨k + 1, h1, m1, L1, T1, h2, m2, L2, T2, h3, m3, L3, T3, by omega, by go_num, HLe.out.next, HBe.out⟩
      case measure => simp [intOf]; omega
    obtain ⟨hK1, hK2, hck⟩ := hgood
    obtain ⟨K, rfl⟩ : ∃ K : Nat, qk = (K : Nat) := ⟨qk.toNat, by omega⟩
    rw [Int.toNat_natCast] at hck
    have HCK := Lib.hid hck
    have HGK := Lib.hid (good_of (by omega) (by omega) hN2 hck).1
    clear hck
    go_wp2_with fail
    rw [← HWX.out]
    clear c0' c1' c2' c3' c4' HB HWX
    refine (caturn_ok N r1 c1 cb1 s1 b1 h1 m1 L1 T1 K qa li qc h (by omega) o1 o2 (by omega) (by omega) (by omega) HCK.out _ HLX.out.k1 (HSI.out.same HBX.out)).mono ?_
    rintro e wa ⟨G1, bI1, cc1, T1', rfl, _, hCa, hBa⟩
    have HBa := Lib.hid (HBX.out.trans (hBa.below HBX.out.size HSB.out.1 HSB.out.2.1)); have HCa := Lib.hid hCa
    have HXa := Lib.hid (HXX.out.but hBa HLX.out.k1.sh)
    have HDa := Lib.hid (HLX.out.k2.but hBa HLX.out.k1.sh (HNE.out.1).symm (HNE.out.2.1).symm); have HWa := Lib.hid (HLX.out.k3.but hBa HLX.out.k1.sh (HNE.out.2.2.1).symm (HNE.out.2.2.2.1).symm)
    have x1 := HXa.out.c1
    have x4 := HXa.out.c4
    clear hBa hCa HBX HXX
    go_wp2_with fail
    refine (caturn_ok N r2 c2 cb2 s2 b2 h2 m2 L2 T2 K qa li qc h (by omega) o1 o2 (by omega) (by omega) (by omega) HCK.out _ HDa.out (HSI.out.same HBa.out)).mono ?_
    rintro e wb ⟨G2, bI2, cc2, T2', rfl, _, hCb, hBb⟩
    have HBb := Lib.hid (HBa.out.trans (hBb.below HBa.out.size HSB.out.2.2.1 HSB.out.2.2.2.1)); have HDb := Lib.hid hCb
    have HXb := Lib.hid (HXa.out.but hBb HDa.out.sh)
    have HCb := Lib.hid (HCa.out.but hBb HDa.out.sh HNE.out.1 HNE.out.2.1); have HWb := Lib.hid (HWa.out.but hBb HDa.out.sh (HNE.out.2.2.2.2.1).symm (HNE.out.2.2.2.2.2).symm)
    clear x1 x4
    have x1 := HXb.out.c1
    have x4 := HXb.out.c4
    clear hBb hCb HBa HXa HCa HDa HWa
    go_wp2_with fail
    refine (caturn_ok N 64 c3 cb3 s3 b3 h3 m3 L3 T3 K qa li qc h (by omega) o1 o2 (by omega) (by omega) (by omega) HCK.out _ HWb.out (HSI.out.same HBb.out)).mono ?_
    rintro e wc ⟨G3, bI3, cc3, T3', rfl, _, hCc, hBc⟩
    have HBc := Lib.hid (HBb.out.trans (hBc.below HBb.out.size HSB.out.2.2.2.2.1 HSB.out.2.2.2.2.2))
    have HXc := Lib.hid (HXb.out.but hBc HWb.out.sh)
    have HLc := Lib.hid (HLX.out.ask (q := kk K h) hrr (HCb.out.but hBc HWb.out.sh HNE.out.2.2.1 HNE.out.2.2.2.1) (HDb.out.but hBc HWb.out.sh HNE.out.2.2.2.2.1 HNE.out.2.2.2.2.2) hCc)
    have HIN := Lib.hid (last_in r1 L1 (kk K h))
    clear x1 x4
    have x1 := HXc.out.c1
    have x4 := HXc.out.c4
    clear hBc hCc HBb HXb HCb HDb HWb HLX HL g11 g12 g13 g21 g22 g23
    generalize askH L1 (kk K h) h1 = h1' at HLc
    generalize askM L1 (kk K h) m1 = m1' at HLc
    generalize askL r1 L1 (kk K h) = L1' at HLc HIN
    generalize askH L2 (kk K h) h2 = h2' at HLc
    generalize askM L2 (kk K h) m2 = m2' at HLc
    generalize askL r2 L2 (kk K h) = L2' at HLc
    generalize askH L3 (kk K h) h3 = h3' at HLc
    generalize askM L3 (kk K h) m3 = m3' at HLc
    generalize askL 64 L3 (kk K h) = L3' at HLc
    have g1 : ¬ h2' < h1' := by have := HLc.out.hh1; omega
    have b1' : h1' + m1' ≤ 10000000000 := by have := HLc.out.n1; omega
    have b2' : h2' + m2' ≤ 10000000000 := by have := HLc.out.n2; omega
    go_wp2_with fail
    refine (cahas_any N r1 c1 cb1 s1 b1 h1' m1' L1' T1' (K : Nat) qa li qc h (by omega) o1 o2 _ HLc.out.k1 (HSI.out.same HBc.out)).mono ?_
    rintro e wd ⟨v, rfl, hv, hBd⟩
    obtain rfl : v = true := hv.2 ⟨HGK.out, by rw [Int.toNat_natCast]; exact HIN.out⟩
    have HBd := Lib.hid (HBc.out.trans (hBd.mono HBc.out.size)); have HLd := Lib.hid (HLc.out.same hBd)
    clear x1 x4 hv hBd HBc HLc HXc HIN
    go_wp2_with fail
    refine (castat_any N r2 c2 cb2 s2 b2 h2' m2' L2' T2' b2' _ HLd.out.k2).mono ?_
    rintro e we ⟨rfl, hBe⟩
    have HBe := Lib.hid (HBd.out.trans (hBe.mono HBd.out.size)); have HLe := Lib.hid (HLd.out.same hBe)
    clear hBe HBd HLd
    go_wp2_with fail
    refine (castat_any N r1 c1 cb1 s1 b1 h1' m1' L1' T1' b1' _ HLe.out.k1).mono ?_
    rintro e wf ⟨rfl, hBf⟩
    have HBf := Lib.hid (HBe.out.trans (hBf.mono HBe.out.size)); have HLf := Lib.hid (HLe.out.same hBf)
    clear hBf HBe HLe
    go_wp2
    go_roundw
    case rel => exact ⟨k + 1, h1', m1', L1', T1', h2', m2', L2', T2', h3', m3', L3', T3', by omega, by go_num, HLf.out, HBf.out⟩
    case measure => simp [intOf]; omega
end Go.Proofs.Ytfiafccfkfillaa
