import Derived.Test.YtgflpfopiofjeaaH3
namespace Go.Proofs.Ytgflpfopiofjeaa
open Go.RowKit Go.Shelf

set_option maxHeartbeats 1000000 in
theorem rmul_no (a a' : Option Addr) (n cap n' cap' : Nat) (r r' : Nat → Option Addr) (l c l' c' : Nat → Nat) (f f' : Nat → Nat → Nat) (hn : n ≤ 1000000000000) (hn' : n' ≤ 1000000000000) (w : World) (hR : Rd w a n cap r l c f) (hR' : Rd w a' n' cap' r' l' c' f') (hM : ¬ (IsM n l ∧ wd n l = n' ∧ IsM n' l')) :
    Calls Try.prog 12 #[.slice a n cap, .slice a' n' cap'] w (Refuses w 2) := by
  have HR := Lib.hid hR; have HR' := Lib.hid hR'; clear hR hR'
  by_cases h1 : IsM n l
  · by_cases h2 : IsM n' l'
    · have hne : wd n l ≠ n' := fun h => hM ⟨h1, h, h2⟩
      have HM := Lib.hid h1; have HM' := Lib.hid h2; have i1 := ne_yes hne; clear h1 h2 hM hne
      go_enter Try.func12, Try.ntmps12
      go_wp2_with fail
      refine (rright_yes a n cap r l c f _ HR.out HM.out).mono ?_
      rintro e w1 ⟨rfl, q, rfl⟩
      go_wp2_with fail
      refine (rright_yes a' n' cap' r' l' c' f' _ (HR'.out.drewN q) HM'.out).mono ?_
      rintro e w2 ⟨rfl, q2, rfl⟩
      go_wp2_with fail
      refine (rcolumns_any a n cap r l c f _ (HR.out.drewN _)).mono ?_
      rintro e w3 ⟨rfl, rfl⟩
      go_wp2
      go_ret2
      exact ⟨rfl, below_dr (Below.refl _ _) _⟩
    · have HM := Lib.hid h1; have HM' := Lib.hid h2; clear h1 h2 hM
      go_enter Try.func12, Try.ntmps12
      go_wp2_with fail
      refine (rright_yes a n cap r l c f _ HR.out HM.out).mono ?_
      rintro e w1 ⟨rfl, q, rfl⟩
      go_wp2_with fail
      refine (rright_no a' n' cap' r' l' c' f' hn' _ (HR'.out.drewN q) HM'.out).mono ?_
      rintro e w2 ⟨rfl, q2, rfl⟩
      go_wp2
      go_ret2
      exact ⟨rfl, below_dr (Below.refl _ _) _⟩
  · have HM := Lib.hid h1; clear h1 hM
    go_enter Try.func12, Try.ntmps12
    go_wp2_with fail
    refine (rright_no a n cap r l c f hn _ HR.out HM.out).mono ?_
    rintro e w1 ⟨rfl, q, rfl⟩
    go_wp2
    go_ret2
    exact ⟨rfl, below_dr (Below.refl _ _) _⟩

/-- a product, so far as it was reckoned: r whole rows, c bytes of the next, of the next byte m summands. -/
def muk (f f' : Nat → Nat → Nat) (n' wl r c m i j : Nat) : Nat := if j < wl ∧ (i < r ∨ i = r ∧ j < c) then Mt.mm n' f f' i j else if i = r ∧ j = c ∧ j < wl then Pf.xsum (fun k => Gf.mul (f i k) (f' k j)) m else 0
section
variable {f f' : Nat → Nat → Nat} {n' wl r c m : Nat}
theorem muk_bm (hf : Mt.Bm f) (hf' : Mt.Bm f') (n' wl r c m : Nat) : Mt.Bm (muk f f' n' wl r c m) := fun i j => by
  unfold muk; split
  · exact Mt.mm_lt hf hf' n' i j
  · split
    · exact Pf.xsum_lt m fun k _ => Gf.mul_lt (hf i k) (hf' k j)
    · omega
theorem muk_0 (i j : Nat) : muk f f' n' wl 0 0 0 i j = 0 := by
  unfold muk; rw [if_neg (by omega)]; split <;> rfl
theorem muk_at (hc : c < wl) : muk f f' n' wl r c m r c = Pf.xsum (fun k => Gf.mul (f r k) (f' k c)) m := by
  unfold muk; rw [if_neg (by omega), if_pos ⟨rfl, rfl, hc⟩]
theorem muk_m (hc : c < wl) (i j : Nat) : (if i = r then (if j = c then Pf.xsum (fun k => Gf.mul (f r k) (f' k c)) m ^^^ Gf.mul (f r m) (f' m c) else muk f f' n' wl r c m r j) else muk f f' n' wl r c m i j) = muk f f' n' wl r c (m + 1) i j := by
  unfold muk
  by_cases e : i = r
  · subst e
    rw [if_pos rfl]
    by_cases e2 : j = c
    · subst e2; rw [if_pos rfl, if_neg (by omega), if_pos ⟨rfl, rfl, hc⟩]; rfl
    · rw [if_neg e2]
      by_cases h : j < wl ∧ (i < i ∨ i = i ∧ j < c)
      · rw [if_pos h, if_pos h]
      · rw [if_neg h, if_neg h, if_neg (by omega), if_neg (by omega)]
  · rw [if_neg e]
    by_cases h : j < wl ∧ (i < r ∨ i = r ∧ j < c)
    · rw [if_pos h, if_pos h]
    · rw [if_neg h, if_neg h, if_neg (by omega), if_neg (by omega)]
theorem muk_c (i j : Nat) : muk f f' n' wl r c n' i j = muk f f' n' wl r (c + 1) 0 i j := by
  unfold muk
  by_cases h : j < wl ∧ (i < r ∨ i = r ∧ j < c)
  · rw [if_pos h, if_pos (by omega)]
  · rw [if_neg h]
    by_cases e : i = r ∧ j = c ∧ j < wl
    · rw [if_pos e, if_pos (by omega)]; rfl
    · rw [if_neg e, if_neg (by omega)]
      by_cases e2 : i = r ∧ j = c + 1 ∧ j < wl
      · rw [if_pos e2]; rfl
      · rw [if_neg e2]
theorem muk_r (i j : Nat) : muk f f' n' wl r wl 0 i j = muk f f' n' wl (r + 1) 0 0 i j := by
  unfold muk
  by_cases h : j < wl ∧ (i < r ∨ i = r ∧ j < wl)
  · rw [if_pos h, if_pos (by omega)]
  · rw [if_neg h, if_neg (by omega), if_neg (by omega)]
    split <;> rfl
theorem muk_end {n i j : Nat} (hi : i < n) : muk f f' n' wl n 0 0 i j = cl n wl (Mt.mm n' f f') i j := by
  unfold muk cl
  by_cases h : j < wl
  · rw [if_pos ⟨h, Or.inl hi⟩, if_pos ⟨hi, h⟩]
  · rw [if_neg (by omega), if_neg (by omega), if_neg (by omega)]
end

set_option maxHeartbeats 4000000 in
set_option maxRecDepth 100000 in
theorem rmul_yes (a a' : Option Addr) (n cap n' cap' : Nat) (r r' : Nat → Option Addr) (l c l' c' : Nat → Nat) (f f' : Nat → Nat → Nat) (w : World) (hR : Rd w a n cap r l c f) (hR' : Rd w a' n' cap' r' l' c' f') (hM : IsM n l) (hm : wd n l = n') (hM' : IsM n' l') :
    Calls Try.prog 12 #[.slice a n cap, .slice a' n' cap'] w (PutsE w n (wd n' l') (cl n (wd n' l') (Mt.mm n' f f'))) := by
  have HR := Lib.hid hR; have HR' := Lib.hid hR'; have HM := Lib.hid hM; have HM' := Lib.hid hM'; have HWN := Lib.hid hm
  have hn := hM.2.1; have hn' := hM'.2.1; have hwl := hM'.2.2
  have HL := Lib.hid (show ∀ i, i < n → l i = n' from fun i hi => by rw [hM.1 i hi, ← hm]; unfold wd; rw [if_neg (by omega)])
  have HL' := Lib.hid (show ∀ i, i < n' → l' i = wd n' l' from fun i hi => by rw [hM'.1 i hi]; unfold wd; rw [if_neg (by omega)])
  clear hR hR' hM hM' hm
  have HCA := Lib.hid (show ∀ w, Rd w a n cap r l c f → Calls Try.prog 34 #[.slice a n cap] w fun e w' => e = .returned (.int .i64 (n' : Nat)) ∧ w' = w from fun w h => by
    have := rcolumns_any a n cap r l c f w h
    rw [HWN.out] at this; exact this)
  have HCB := Lib.hid (fun (w : World) hR => rcolumns_any a' n' cap' r' l' c' f' w hR)
  generalize wd n' l' = wl at *
  have HKB := Lib.hid (fun r c m => muk_bm HR.out.bm HR'.out.bm n' wl r c m)
  have HFB := Lib.hid (cl_bm (Mt.mm_lt HR.out.bm HR'.out.bm n') n wl)
  have g1 : (((n' : Nat) : Int) != (n' : Int)) = false := by simp
  go_enter Try.func12, Try.ntmps12
  go_wp2_with fail
  refine (rright_yes a n cap r l c f _ HR.out HM.out).mono ?_
  rintro e w1 ⟨rfl, q, rfl⟩
  go_wp2_with fail
  refine (rright_yes a' n' cap' r' l' c' f' _ (HR'.out.drewN q) HM'.out).mono ?_
  rintro e w2 ⟨rfl, q2, hq⟩
  have hb2 : Below w.heap.size w w2 := by rw [hq, World.drewN_drewN]; exact below_dr (Below.refl _ _) _
  have HB2 := Lib.hid hb2; clear hb2 hq
  go_wp2_with fail
  refine (HCA.out _ (HR.out.same HB2.out)).mono ?_
  rintro e w3 ⟨rfl, rfl⟩
  go_wp2_with fail
  refine (HCB.out _ (HR'.out.same HB2.out)).mono ?_
  rintro e w4 ⟨rfl, rfl⟩
  clear g1
  go_wp2_with fail
  refine (zeros_any n wl (by omega) (by omega) _).mono ?_
  rintro e w5 ⟨ao, co, bo, rfl, hG, hB⟩
  have HST := Lib.hid (show Go_ w5 w.heap.size ao n co bo (fun _ => wl) (fun _ => wl) (muk f f' n' wl 0 0 0) from (hG.mono HB2.out.size).congr (HKB.out 0 0 0) fun i j _ => (muk_0 i j).symm); have HB := Lib.hid (HB2.out.trans (hB.mono HB2.out.size)); clear hG hB HB2
  go_wp2_with fail
  go_loopw [7] (fun i wr => ∃ k : Nat, k ≤ n ∧ i = .int .i64 k ∧ Go_ wr w.heap.size ao n co bo (fun _ => wl) (fun _ => wl) (muk f f' n' wl k 0 0) ∧ Below w.heap.size w wr) (fun i _ => n - (intOf i).toNat)
  case atStart => exact ⟨0, by omega, rfl, HST.out, HB.out⟩
  case round =>
    rename_i wr
    obtain ⟨k, hk, rfl, hGr, hBe⟩ := hrel
    obtain ⟨wo, rfl⟩ : ∃ wo : World, wo = wr := ⟨_, rfl⟩
    by_cases hkn : k < n
    rotate_left
    · obtain rfl : k = n := by omega
      have HGr := Lib.hid hGr; have HBe := Lib.hid hBe
      clear hGr hBe
      go_wp2
      go_ret2
      exact ⟨ao, co, bo, rfl, HGr.out.congr HFB.out (fun i j hi => muk_end hi), HBe.out⟩
    have j1 : (k : Int) < (n : Int) := by omega
    obtain ⟨G, ea, hG⟩ := hGr.pos (by omega)
    subst ea
    have HG := Lib.hid hG; have HBe := Lib.hid hBe
    clear hGr hG hBe
    have hcap := HG.out.nc.1
    go_wp2_with fail
    go_loopw [8] (fun i wr => ∃ t : Nat, t ≤ wl ∧ i = .int .i64 t ∧ Gr wr w.heap.size G n co bo (fun _ => wl) (fun _ => wl) (muk f f' n' wl k t 0) ∧ Below w.heap.size w wr) (fun i _ => wl - (intOf i).toNat)
    case atStart => exact ⟨0, by omega, rfl, HG.out, HBe.out⟩
    case round =>
      rename_i wr
      obtain ⟨t, ht, rfl, hG, hBe⟩ := hrel
      obtain ⟨wp, rfl⟩ : ∃ wp : World, wp = wr := ⟨_, rfl⟩
      have HG2 := Lib.hid hG; have HB2 := Lib.hid hBe
      clear hG hBe
      by_cases htw : t < wl
      · have j2 : decide (t < wl) = true := by simp; exact htw
        go_wp2_with fail
        refine (HCB.out _ (HR'.out.same HB2.out)).mono ?_
        rintro e w6 ⟨rfl, rfl⟩
        go_wp2_with fail
        clear j2
        go_loopw [9] (fun i wr => ∃ m : Nat, m ≤ n' ∧ i = .int .i64 m ∧ Gr wr w.heap.size G n co bo (fun _ => wl) (fun _ => wl) (muk f f' n' wl k t m) ∧ Below w.heap.size w wr) (fun i _ => n' - (intOf i).toNat)
        case atStart => exact ⟨0, by omega, rfl, HG2.out, HB2.out⟩
        case round =>
          rename_i wr
          obtain ⟨m, hm, rfl, hG, hBe⟩ := hrel
          by_cases hmn : m < n'
          · have j3 : (m : Int) < (n' : Int) := by omega
            have j4 : (t : Int) < (wl : Int) := by omega
            have co1 := hG.cell hkn
            have co2 := (hG.row k hkn).cell htw
            have fo := (hG.row k hkn).free t
            rw [muk_at htw] at co2
            have ra := HR.out.same hBe
            have rb := HR'.out.same hBe
            obtain ⟨ab, ao', ea, ca⟩ := ra.at_ hkn
            obtain ⟨bb, bo', eb, cb⟩ := rb.at_ hmn
            have rowa := ra.row k hkn
            have rowb := rb.row m hmn
            rw [HL.out k hkn] at rowa ca
            rw [HL'.out m hmn] at rowb cb
            obtain ⟨xb, xo, ex, cx⟩ := rowa.at_ hmn
            obtain ⟨yb, yo, ey, cy⟩ := rowb.at_ htw
            have d1 := HR.out.bm k m
            have d2 := HR'.out.bm m t
            have d3 := Pf.xsum_lt (f := fun q => Gf.mul (f k q) (f' q t)) m fun q _ => Gf.mul_lt (HR.out.bm k q) (HR'.out.bm q t)
            have d4 := Gf.mul_lt d1 d2
            have hx : bits .xor .u8 ((Pf.xsum (fun q => Gf.mul (f k q) (f' q t)) m : Nat) : Int) ((Gf.mul (f k m) (f' m t) : Nat) : Int) = ((Pf.xsum (fun q => Gf.mul (f k q) (f' q t)) m ^^^ Gf.mul (f k m) (f' m t) : Nat) : Int) := u8_xor_nat _ _ d3 d4
            have HKM := Lib.hid (fun i j => muk_m (f := f) (f' := f') (n' := n') (r := k) (m := m) htw i j)
            rw [ex] at ca
            rw [ey] at cb
            have HEX := Lib.hid ex; have HEY := Lib.hid ey
            subst ea eb
            have HG3 := Lib.hid hG; have HB3 := Lib.hid hBe
            generalize Pf.xsum (fun q => Gf.mul (f k q) (f' q t)) m = S at *
            clear hG hBe ra rb rowa rowb ex ey
            go_wp2_with fail
            refine Rb.wp_region_quiet_tail 29 (by kernel_rfl) (by kernel_rfl) ?_
            simp only [List.take_succ_cons, List.take_zero, List.drop_succ_cons, List.drop_zero]
            repeat (go_big_quiet_step ((go_at_call 36; exact Calls.quiet_of_same (rmul_nat (f k m) (f' m t) d1 d2 _))))
            refine wpQuiet_nil ?_
            rintro _ ⟨k2, rfl⟩
            go_wp2_with fail
            go_roundw
            case rel => exact ⟨m + 1, by omega, by go_num, ((HG3.out.drewN k2).set hkn htw (Gf.xor_lt d3 d4)).congr (HKB.out k t (m + 1)) (fun i j _ => HKM.out i j), (below_dr HB3.out k2).setCell (p := ⟨bo k, t, none⟩) (HG3.out.lo.2 k hkn) _⟩
            case measure => simp [intOf]; omega
          · obtain rfl : m = n' := by omega
            have HG3 := Lib.hid hG; have HB3 := Lib.hid hBe
            clear hG hBe
            go_wp2_with fail
            go_roundw
            case rel => exact ⟨t + 1, by omega, by go_num, HG3.out.congr (HKB.out k (t + 1) 0) (fun i j _ => muk_c i j), HB3.out⟩
            case measure => simp [intOf]; omega
      · obtain rfl : t = wl := by omega
        have j2 : decide (t < t) = false := by simp
        go_wp2_with fail
        refine (HCB.out _ (HR'.out.same HB2.out)).mono ?_
        rintro e w6 ⟨rfl, rfl⟩
        go_wp2_with fail
        go_roundw
        case rel => exact ⟨k + 1, by omega, by go_num, (HG2.out.congr (HKB.out (k + 1) 0 0) (fun i j _ => muk_r i j)).go, HB2.out⟩
        case measure => simp [intOf]; omega
end Go.Proofs.Ytgflpfopiofjeaa
