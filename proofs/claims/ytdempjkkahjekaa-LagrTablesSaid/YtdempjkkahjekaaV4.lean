import Derived.Test.YtdempjkkahjekaaV3
import Derived.Deep.RegionWith
namespace Go.Proofs.Ytdempjkkahjekaa
open Go.RowKit Go.Shelf

/-- the first k values elsewhere. -/
def vls (P : Nat → Nat) (n : Nat) (g f : Nat → Nat) (k i : Nat) : Nat := if i < k then dotN (Pf.lw P n (f i)) g n else 0
theorem vls_by {P g f : Nat → Nat} (hP : Pf.By P) (hg : Pf.By g) (hf : Pf.By f) (n k : Nat) : Pf.By (vls P n g f k) := fun i => by
  unfold vls; split
  · exact dotN_lt (Pf.lw_by hP n (hf i)) hg n
  · omega
theorem vls_up (P : Nat → Nat) (n : Nat) (g f : Nat → Nat) (k : Nat) : Pf.Up (vls P n g f k) k := fun i hi => by unfold vls; rw [if_neg (by omega)]
theorem vls_s (P : Nat → Nat) (n : Nat) (g f : Nat → Nat) (k i : Nat) : (if i = k then dotN (Pf.lw P n (f k)) g n else vls P n g f k i) = vls P n g f (k + 1) i := by
  unfold vls
  by_cases e : i = k
  · subst e; rw [if_pos rfl, if_pos (by omega)]
  · rw [if_neg e]
    by_cases h : i < k
    · rw [if_pos h, if_pos (by omega)]
    · rw [if_neg h, if_neg (by omega)]

set_option maxHeartbeats 4000000 in
set_option maxRecDepth 100000 in
theorem values_any (wb fb n m vc ac : Nat) (ap aq av aa : Option Addr) (cp cs : Nat) (P g f : Nat → Nat) (hP : Pf.By P) (hn : n ≤ 1000000) (hm : m ≤ 1000000000) (w : World) (hA : Stn w wb fb ap n cp aq n cs P (fun i => Pf.sg P i n)) (hV : Sl w av n vc g) (hT : Sl w aa m ac f) :
    Calls Try.prog 29 #[.pointer (some ⟨wb, 0, none⟩), .slice av n vc, .slice aa m ac] w fun e w' => e = .returned (.slice (some ⟨w.heap.size, 0, none⟩) m m) ∧ Bl w' w.heap.size m m (vls P n g f m) ∧ Below w.heap.size w w' := by
  have hmk := hmk8 m (by omega)
  have HA := Lib.hid hA; have HV := Lib.hid hV; have HT := Lib.hid hT; have HP := Lib.hid hP
  clear hA hV hT hP
  have hB0 : Below w.heap.size w (w.alloc (.cells (madeCells #[.int .u8 0] m) 5)) := (Below.refl _ w).alloc (Nat.le_refl _) _
  have HS0 := Lib.hid ((bl_made w m).congr (h' := vls P n g f 0) fun i _ => by unfold vls; rw [if_neg (by omega)])
  have HB0 := Lib.hid hB0; clear hB0
  go_enter Try.func29, Try.ntmps29
  go_wp2_with fail
  go_loopw [15] (fun i wr => ∃ k : Nat, k ≤ m ∧ i = .int .i64 k ∧ Bl wr w.heap.size m m (vls P n g f k) ∧ Below w.heap.size w wr) (fun i _ => m - (intOf i).toNat)
  case atStart => exact ⟨0, by omega, rfl, HS0.out, HB0.out⟩
  case round =>
    rename_i wr
    clear hmk HS0 HB0
    obtain ⟨k, hk, rfl, hBl, hBe⟩ := hrel
    by_cases hkm : k < m
    · have i1 : (k : Int) < (m : Int) := by omega
      obtain ⟨ab, ao, ea, hca⟩ := (HT.out.same hBe).at_ hkm
      have HBl := Lib.hid hBl; have HBe := Lib.hid hBe
      have hA1 := HA.out.same hBe
      have z0 := hA1.wl.c0
      have d1 := HT.out.bytes k
      have hbd : Below wr.heap.size wr wr.drew := below_dr (Below.refl _ wr) 1
      have HA1 := Lib.hid (hA1.same hbd); have HV1 := Lib.hid ((HV.out.same hBe).same hbd)
      have hw := weights_any wb fb n (f k) d1 ap aq cp cs P HP.out hn wr.drew HA1.out
      have HWC := Lib.hid hw; clear hw
      subst ea
      clear hBl hBe hA1 hbd
      go_wp2_with fail
      go_region_with (first | (go_at_call 28; refine HWC.out.mono ?_; rintro e w2 ⟨rfl, hb2, hB2⟩; have z02 := (HA1.out.same hB2).wl.c0; have HB2 := Lib.hid hB2; have HBL2 := Lib.hid hb2; clear hB2 hb2) | (go_at_call 45; refine (dot_nat fb _ av n n vc (Pf.lw P n (f k)) g (by omega) _ (HA1.out.same HB2.out).fi (HBL2.out.sl (Nat.le_refl _) (by unfold maxLen; omega) (Pf.lw_by HP.out n d1) (Pf.lw_up n (f k))) (HV1.out.same HB2.out)).mono ?_; rintro e w3 ⟨rfl, q, hq⟩; have hB3 : Below wr.heap.size wr w3 := (by rw [hq]; exact below_drewN ((below_dr (Below.refl _ wr) 1 : Below wr.heap.size wr wr.drew).trans HB2.out) q); have HB3 := Lib.hid hB3; have c3 := (HBl.out.below hB3 HBl.out.lt).cell hkm; have f3 := (HBl.out.below hB3 HBl.out.lt).free k; clear hq hB3))
      all_goals
        go_wp2_with fail
        go_roundw
        case rel => exact ⟨k + 1, by omega, by go_num, ((HBl.out.below HB3.out HBl.out.lt).set hkm _).congr (fun i _ => vls_s P n g f k i), (HBe.out.trans (HB3.out.mono HBe.out.size)).setCell (p := ⟨w.heap.size, k, none⟩) (Nat.le_refl _) _⟩
        case measure => simp [intOf]; omega
    · obtain rfl : k = m := by omega
      go_wp2
      go_ret
      exact ⟨rfl, hBl, hBe⟩

/-- a worker without points. -/
theorem Stn.new (w : World) (fb : Nat) (P S : Nat → Nat) (hF : IsField fb w) : Stn (w.alloc (.cells #[.pointer (some ⟨fb, 0, none⟩), .slice none 0 0, .slice none 0 0] 48)) w.heap.size fb none 0 0 none 0 0 P S :=
  ⟨heap_alloc_new _ _, Or.inl ⟨rfl, rfl, rfl⟩, Or.inl ⟨rfl, rfl, rfl⟩, fun _ h => (by cases h), hF.same ((Below.refl _ w).alloc (Nat.le_refl _) _), hF.lt⟩
/-- what a call answers that hands out a slice, or an error. -/
def GivesV (w : World) (n : Nat) (f : Nat → Nat) (e : Ending) (w' : World) : Prop := ∃ a cap, e = .returned (.tuple #[.slice a n cap, .int .i64 0]) ∧ Nw w' w.heap.size a n cap f ∧ Below w.heap.size w w'

set_option maxHeartbeats 1000000 in
set_option maxRecDepth 100000 in
theorem pWeights_any (a : Option Addr) (n cap x : Nat) (P : Nat → Nat) (hx : x < 256) (hn : n ≤ 1000000) (w : World) (hS : Sl w a n cap P) :
    Calls Try.prog 9 #[.slice a n cap, .int .u8 (x : Nat)] w fun e w' => (Pf.Dst P n ∧ GivesV w n (Pf.lw P n x) e w') ∨ (¬ Pf.Dst P n ∧ e = .returned (.tuple #[.slice none 0 0, .int .i64 9]) ∧ Below w.heap.size w w') := by
  have HS := Lib.hid hS; clear hS
  go_enter Try.func9, Try.ntmps9
  go_wp2_with fail
  refine (new_any _).mono ?_
  rintro e w1 ⟨rfl, hF, hB1⟩
  have hA := Stn.new w1 w.heap.size P (fun i => Pf.sg P i 0) hF
  have hB2 : Below w1.heap.size w1 (w1.alloc (.cells #[.pointer (some ⟨w.heap.size, 0, none⟩), .slice none 0 0, .slice none 0 0] 48)) := (Below.refl _ _).alloc (Nat.le_refl _) _
  have hB := hB1.trans (hB2.mono hB1.size)
  have hl1 := hF.lt
  have hs0 := hB1.size
  have HF := Lib.hid hF; have HA := Lib.hid hA; have HB := Lib.hid hB
  have HSl := Lib.hid (HS.out.same hB)
  have HFar := Lib.hid (show Far w1.heap.size none none a n from fun ad ha hm => ⟨by have := HS.out.lt ad ha hm; omega, by simp, by simp⟩)
  clear hF hA hB1 hB2 hB
  go_wp2_with fail
  refine (stand_any w1.heap.size w.heap.size 0 n cap a none none 0 0 P P _ HA.out HSl.out HFar.out (fun i _ => by rw [Nat.zero_add]) HS.out.bytes (fun i j _ h => by omega) (by omega)).mono ?_
  rw [Nat.zero_add]
  rintro e w2 ⟨⟨hd, rfl, ap, cp, aq, cs, hS2⟩ | ⟨hd, rfl⟩, hB2⟩
  · have HD := Lib.hid hd; have HB2 := Lib.hid (HB.out.trans (hB2.mono hs0)); have HS2 := Lib.hid hS2
    clear hd hB2 hS2
    go_wp2_with fail
    refine (weights_any _ _ n x hx ap aq cp cs P HS.out.bytes hn _ HS2.out).mono ?_
    rintro e w3 ⟨rfl, hb, hB3⟩
    have HB3 := Lib.hid (HB2.out.trans (hB3.mono HB2.out.size)); have HBL := Lib.hid hb
    clear hB3 hb
    go_wp2
    go_ret2
    exact Or.inl ⟨HD.out, _, _, rfl, ⟨HBL.out.sl (Nat.le_refl _) (by unfold maxLen; omega) (Pf.lw_by HS.out.bytes n hx) (Pf.lw_up n x), HBL.out.ow (by have := HB2.out.size; omega)⟩, HB3.out⟩
  · have HD := Lib.hid hd; have HB2 := Lib.hid (HB.out.trans (hB2.mono hs0))
    clear hd hB2
    go_wp2
    go_ret2
    exact Or.inr ⟨HD.out, rfl, HB2.out⟩

/-- what Values answers. -/
def ValSays (w : World) (n n' m : Nat) (P g f : Nat → Nat) (e : Ending) (w' : World) : Prop :=
  (n ≠ n' ∧ e = .returned (.tuple #[.slice none 0 0, .int .i64 2]) ∧ Below w.heap.size w w') ∨ (n = n' ∧ ¬ Pf.Dst P n ∧ e = .returned (.tuple #[.slice none 0 0, .int .i64 9]) ∧ Below w.heap.size w w') ∨ (n = n' ∧ Pf.Dst P n ∧ GivesV w m (vls P n g f m) e w')

set_option maxHeartbeats 1000000 in
set_option maxRecDepth 100000 in
theorem pValues_any (a av aa : Option Addr) (n cap n' cap' m ac : Nat) (P g f : Nat → Nat) (hn : n ≤ 1000000) (hn' : n' ≤ 1000000) (hm : m ≤ 1000000000) (w : World) (hS : Sl w a n cap P) (hV : Sl w av n' cap' g) (hT : Sl w aa m ac f) :
    Calls Try.prog 11 #[.slice a n cap, .slice av n' cap', .slice aa m ac] w (ValSays w n n' m P g f) := by
  have HS := Lib.hid hS; have HV := Lib.hid hV; have HT := Lib.hid hT; clear hS hV hT
  by_cases hne : n = n'
  · subst hne
    have g1 : ((n : Int) != (n : Int)) = false := by simp
    go_enter Try.func11, Try.ntmps11
    go_wp2_with fail
    clear g1
    refine (new_any _).mono ?_
    rintro e w1 ⟨rfl, hF, hB1⟩
    have hA := Stn.new w1 w.heap.size P (fun i => Pf.sg P i 0) hF
    have hB2 : Below w1.heap.size w1 (w1.alloc (.cells #[.pointer (some ⟨w.heap.size, 0, none⟩), .slice none 0 0, .slice none 0 0] 48)) := (Below.refl _ _).alloc (Nat.le_refl _) _
    have hB := hB1.trans (hB2.mono hB1.size)
    have hl1 := hF.lt
    have hs0 := hB1.size
    have HF := Lib.hid hF; have HA := Lib.hid hA; have HB := Lib.hid hB
    have HSl := Lib.hid (HS.out.same hB)
    have HFar := Lib.hid (show Far w1.heap.size none none a n from fun ad ha hm => ⟨by have := HS.out.lt ad ha hm; omega, by simp, by simp⟩)
    clear hF hA hB1 hB2 hB
    go_wp2_with fail
    refine (stand_any w1.heap.size w.heap.size 0 n cap a none none 0 0 P P _ HA.out HSl.out HFar.out (fun i _ => by rw [Nat.zero_add]) HS.out.bytes (fun i j _ h => by omega) (by omega)).mono ?_
    rw [Nat.zero_add]
    rintro e w2 ⟨⟨hd, rfl, ap, cp, aq, cs, hS2⟩ | ⟨hd, rfl⟩, hB2⟩
    · have HD := Lib.hid hd; have HB2 := Lib.hid (HB.out.trans (hB2.mono hs0)); have HS2 := Lib.hid hS2
      clear hd hB2 hS2
      go_wp2_with fail
      refine (values_any _ _ n m cap' ac ap aq av aa cp cs P g f HS.out.bytes hn hm _ HS2.out (HV.out.same HB2.out) (HT.out.same HB2.out)).mono ?_
      rintro e w3 ⟨rfl, hb, hB3⟩
      have HB3 := Lib.hid (HB2.out.trans (hB3.mono HB2.out.size)); have HBL := Lib.hid hb
      clear hB3 hb
      go_wp2
      go_ret2
      exact Or.inr (Or.inr ⟨rfl, HD.out, _, _, rfl, ⟨HBL.out.sl (Nat.le_refl _) (by unfold maxLen; omega) (vls_by HS.out.bytes HV.out.bytes HT.out.bytes n m) (vls_up P n g f m), HBL.out.ow HB2.out.size⟩, HB3.out⟩)
    · have HD := Lib.hid hd; have HB2 := Lib.hid (HB.out.trans (hB2.mono hs0))
      clear hd hB2
      go_wp2
      go_ret2
      exact Or.inr (Or.inl ⟨rfl, HD.out, rfl, HB2.out⟩)
  · have g1 : ((n : Int) != (n' : Int)) = true := by simp; omega
    have HN := Lib.hid hne; clear hne
    go_enter Try.func11, Try.ntmps11
    go_wp2
    go_ret2
    exact Or.inl ⟨HN.out, rfl, Below.refl _ _⟩

/-- what Value answers. -/
def Val1Says (w : World) (n n' x : Nat) (P g : Nat → Nat) (e : Ending) (w' : World) : Prop :=
  ((n ≠ n' ∧ e = .returned (.tuple #[.int .u8 0, .int .i64 2])) ∨ (n = n' ∧ ¬ Pf.Dst P n ∧ e = .returned (.tuple #[.int .u8 0, .int .i64 9])) ∨ (n = n' ∧ Pf.Dst P n ∧ e = .returned (.tuple #[.int .u8 (dotN (Pf.lw P n x) g n : Nat), .int .i64 0]))) ∧ Below w.heap.size w w'

set_option maxHeartbeats 1000000 in
set_option maxRecDepth 100000 in
theorem pValue_any (a av : Option Addr) (n cap n' cap' x : Nat) (P g : Nat → Nat) (hx : x < 256) (hn : n ≤ 1000000) (hn' : n' ≤ 1000000) (w : World) (hS : Sl w a n cap P) (hV : Sl w av n' cap' g) :
    Calls Try.prog 13 #[.slice a n cap, .slice av n' cap', .int .u8 (x : Nat)] w (Val1Says w n n' x P g) := by
  have HS := Lib.hid hS; have HV := Lib.hid hV; clear hS hV
  have hB0 : Below w.heap.size w (w.alloc (.cells #[.int .u8 (x : Nat)] 5)) := (Below.refl _ _).alloc (Nat.le_refl _) _
  have hT := sl_single w x hx
  have HB0 := Lib.hid hB0; have HT := Lib.hid hT
  clear hB0 hT
  go_enter Try.func13, Try.ntmps13
  go_wp2_with fail
  refine (pValues_any a av _ n cap n' cap' 1 1 P g (Pf.sc x) hn hn' (by omega) _ (HS.out.same HB0.out) (HV.out.same HB0.out) HT.out).mono ?_
  rintro e w2 (⟨hne, rfl, hB⟩ | ⟨hne, hd, rfl, hB⟩ | ⟨hne, hd, ar, cr, rfl, hN, hB⟩)
  · have HB := Lib.hid (HB0.out.trans (hB.mono HB0.out.size)); have HN := Lib.hid hne; clear hB hne
    go_wp2
    go_ret2
    exact ⟨Or.inl ⟨HN.out, rfl⟩, HB.out⟩
  · have HB := Lib.hid (HB0.out.trans (hB.mono HB0.out.size)); have HN := Lib.hid hne; have HD := Lib.hid hd; clear hB hne hd
    go_wp2
    go_ret2
    exact ⟨Or.inr (Or.inl ⟨HN.out, HD.out, rfl⟩), HB.out⟩
  · have HB := Lib.hid (HB0.out.trans (hB.mono HB0.out.size)); have HN := Lib.hid hne; have HD := Lib.hid hd
    obtain ⟨b, o, ea, hc⟩ := hN.sl.at_ (k := 0) (by omega)
    subst ea
    rw [show vls P n g (Pf.sc x) 1 0 = dotN (Pf.lw P n x) g n from rfl, Nat.add_zero] at hc
    clear hB hne hd hN
    go_wp2
    go_ret2
    exact ⟨Or.inr (Or.inr ⟨HN.out, HD.out, rfl⟩), HB.out⟩
end Go.Proofs.Ytdempjkkahjekaa
