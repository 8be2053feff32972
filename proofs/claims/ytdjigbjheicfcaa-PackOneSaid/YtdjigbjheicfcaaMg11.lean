import Derived.Laws.BytesArg
import Derived.Laws.Strings
import Derived.Test.YtdjigbjheicfcaaMg10
namespace Go.Proofs.Ytdjigbjheicfcaa
open Go.RowKit Go.Shelf

theorem vn_head (f : Nat → Nat) : ∀ k, vn f (k + 1) = f 0 * 256 ^ k + vn (fun i => f (i + 1)) k
  | 0 => by simp [vn]
  | k + 1 => by
    have h := vn_head f k
    show 256 * vn f (k + 1) + f (k + 1) = f 0 * 256 ^ (k + 1) + (256 * vn (fun i => f (i + 1)) k + f (k + 1))
    rw [h, Nat.pow_succ, Nat.mul_add, ← Nat.mul_assoc, ← Nat.mul_assoc, Nat.mul_comm 256 (f 0), Nat.mul_right_comm (f 0) 256]
    omega
theorem less_vn : ∀ (l : Nat) (f g : Nat → Nat), Pf.By f → Pf.By g → Op.bytesLess ((List.range l).map fun i => UInt8.ofNat (f i)) ((List.range l).map fun i => UInt8.ofNat (g i)) = decide (vn f l < vn g l)
  | 0, f, g, _, _ => by simp [vn, Op.bytesLess]
  | l + 1, f, g, hf, hg => by
    have ih := less_vn l (fun i => f (i + 1)) (fun i => g (i + 1)) (fun i => hf _) (fun i => hg _)
    rw [List.range_succ_eq_map, List.map_cons, List.map_cons, List.map_map, List.map_map]
    have e1 : ((fun i => UInt8.ofNat (f i)) ∘ Nat.succ) = fun i => UInt8.ofNat (f (i + 1)) := rfl
    have e2 : ((fun i => UInt8.ofNat (g i)) ∘ Nat.succ) = fun i => UInt8.ofNat (g (i + 1)) := rfl
    rw [e1, e2]
    unfold Op.bytesLess
    rw [ih, vn_head f l, vn_head g l]
    have h1 := hf 0; have h2 := hg 0
    have l1 := vn_lt (f := fun i => f (i + 1)) (fun i => hf _) l
    have l2 := vn_lt (f := fun i => g (i + 1)) (fun i => hg _) l
    have hlt : (UInt8.ofNat (f 0) < UInt8.ofNat (g 0)) ↔ f 0 < g 0 := by
      rw [UInt8.lt_iff_toNat_lt, UInt8.toNat_ofNat', UInt8.toNat_ofNat']; omega
    have heq : (UInt8.ofNat (f 0) == UInt8.ofNat (g 0)) = decide (f 0 = g 0) := by
      rw [Bool.eq_iff_iff, beq_iff_eq, decide_eq_true_iff, ← UInt8.toNat_inj, UInt8.toNat_ofNat', UInt8.toNat_ofNat']; omega
    rw [heq]
    generalize vn (fun i => f (i + 1)) l = x at *
    generalize vn (fun i => g (i + 1)) l = y at *
    rcases Nat.lt_trichotomy (f 0) (g 0) with h | h | h
    · have := Nat.mul_le_mul_right (256 ^ l) (show f 0 + 1 ≤ g 0 from h)
      rw [Nat.add_mul, Nat.one_mul] at this
      have h3 : f 0 * 256 ^ l + x < g 0 * 256 ^ l + y := by omega
      simp [hlt.2 h, h3]
    · have h3 : ¬ (UInt8.ofNat (f 0) < UInt8.ofNat (g 0)) := fun k => by have := hlt.1 k; omega
      rw [h] at h3 ⊢
      simp [h3]
    · have := Nat.mul_le_mul_right (256 ^ l) (show g 0 + 1 ≤ f 0 from h)
      rw [Nat.add_mul, Nat.one_mul] at this
      have h3 : ¬ (f 0 * 256 ^ l + x < g 0 * 256 ^ l + y) := by omega
      have h4 : ¬ (UInt8.ofNat (f 0) < UInt8.ofNat (g 0)) := fun k => by have := hlt.1 k; omega
      have h5 : ¬ f 0 = g 0 := by omega
      simp [h4, h5, h3]
theorem str_list (f : Nat → Nat) (l : Nat) : (strOfNums (ints f l)).toList = (List.range l).map fun i => UInt8.ofNat (f i) := by
  rw [ByteArray.toList_eq, strOfNums_data]
  unfold ints
  rw [List.map_map]
  rfl

def SameSays (l : Nat) (f g : Nat → Nat) (w : World) (e : Ending) (w' : World) : Prop := (∃ v : Bool, e = .returned (.bool v) ∧ (v = true ↔ ∀ i, i < l → f i = g i)) ∧ ∃ q, w' = w.drewN q
set_option maxHeartbeats 1000000 in
set_option maxRecDepth 100000 in
theorem same_dec (a a' : Option Addr) (l c c' : Nat) (f g : Nat → Nat) (hl : l ≤ 1000000000000) (w : World) (h1 : Sl w a l c f) (h2 : Sl w a' l c' g) :
    Calls Try.prog 22 #[.slice a l c, .slice a' l c'] w (SameSays l f g w) := by
  have H1 := Lib.hid h1; have H2 := Lib.hid h2; clear h1 h2
  have g1 : ((l : Int) != (l : Int)) = false := by simp
  go_enter Try.func22, Try.ntmps22
  go_wp2_with fail
  clear g1
  go_loopw [5] (fun i wr => ∃ k : Nat, k ≤ l ∧ i = .int .i64 k ∧ (∀ j, j < k → f j = g j) ∧ ∃ q, wr = w.drewN q) (fun i _ => l - (intOf i).toNat)
  case atStart => exact ⟨0, by omega, rfl, fun j hj => absurd hj (Nat.not_lt_zero j), 0, rfl⟩
  case round =>
    obtain ⟨k, hk, rfl, hall, q, rfl⟩ := hrel
    have HALL := Lib.hid hall; clear hall
    by_cases hlt : k < l
    · obtain ⟨b1, o1, e1, c1⟩ := H1.out.at_ hlt
      obtain ⟨b2, o2, e2, c2⟩ := H2.out.at_ hlt
      have E1 := Lib.hid (show a = some ⟨b1, o1, none⟩ from e1)
      have E2 := Lib.hid (show a' = some ⟨b2, o2, none⟩ from e2)
      subst e1 e2
      have i1 : (k : Int) < (l : Int) := by omega
      by_cases hfg : f k = g k
      · have g2 : (((f k : Nat) : Int) != ((g k : Nat) : Int)) = false := by rw [hfg]; simp
        have HFG := Lib.hid hfg; clear hfg
        go_wp2_with fail
        go_quiet (fail)
        go_wp2
        go_roundw
        case rel => exact ⟨k + 1, by omega, by go_num, fun j hj => by
          by_cases e : j = k
          · rw [e]; exact HFG.out
          · exact HALL.out j (by omega), q + nq, rfl⟩
        case measure => simp [intOf]; omega
      · have g2 : (((f k : Nat) : Int) != ((g k : Nat) : Int)) = true := by simp; omega
        have HFG := Lib.hid hfg; clear hfg
        go_wp2_with fail
        go_quiet (fail)
        go_wp2
        go_ret
        exact ⟨⟨false, rfl, ⟨fun h => (by cases h), fun h => absurd (h k hlt) HFG.out⟩⟩, q + nq, World.drewN_drewN _ _ _⟩
    · obtain rfl : k = l := by omega
      have i1 : ¬ (k : Int) < (k : Int) := by omega
      go_wp2
      go_ret
      exact ⟨⟨true, rfl, ⟨fun _ => HALL.out, fun _ => rfl⟩⟩, q, rfl⟩

set_option maxHeartbeats 1000000 in
theorem one_any (n z : Int) (w : World) :
    Calls Try.prog 35 #[.int .i64 n, .int .i64 z] w (Tells w (aw0.num n z).m (aw0.num n z).g (aw0.num n z).e) := by
  obtain ⟨S, hS⟩ : ∃ S, S = aw0.num n z := ⟨_, rfl⟩
  have hO : S.Ok := by rw [hS]; exact aw0_ok.num _ _
  have hl : S.l ≤ 4 := by rw [hS]; exact Bs.num_len aw0 n z
  rw [← hS]
  have HS := Lib.hid hS; have HO := Lib.hid hO; clear hS hO
  go_enter Try.func35, Try.ntmps35
  go_wp2_with fail
  refine (wnew_any _).mono ?_
  rintro x w1 ⟨p, s, rfl, hW, hB1⟩
  have HW := Lib.hid hW; have HB1 := Lib.hid hB1; clear hW hB1
  go_wp2_with fail
  refine (wnum_any w.heap.size p s none 0 aw0 n z (by decide) _ HB1.out.size HW.out).mono ?_
  rintro x w2 h
  have hB2 := wrote_below HW.out HB1.out.size h
  obtain ⟨a2, c2, rfl, hW2, _, _⟩ := h
  rw [← HS.out] at hW2
  have HW2 := Lib.hid hW2; have HB2 := Lib.hid (HB1.out.trans hB2)
  clear hW2 hB2
  go_wp2_with fail
  refine (wbytes_any w.heap.size p s a2 c2 S HO.out (by omega) _ HW2.out).mono ?_
  rintro x w3 ⟨a3, c3, rfl, hN, hB3⟩
  have HB3 := Lib.hid (HB2.out.trans (hB3.mono HB2.out.size)); have HN := Lib.hid (hN.mono HB2.out.size)
  clear hN hB3
  go_wp2
  go_ret2
  exact ⟨a3, c3, rfl, HN.out, HB3.out⟩
theorem aw_fit {n z : Nat} (h : Fit n z) : (aw0.num n z).m = z ∧ (aw0.num n z).g = dg n z ∧ (aw0.num n z).e = 0 := by
  have he : aw0.num n z = aw0.add z (dg n z) := by
    unfold Bs.num; rw [if_neg (by decide), if_pos h, Int.toNat_natCast, Int.toNat_natCast]
  rw [he]
  refine ⟨?_, ?_, rfl⟩
  · unfold Bs.m; rw [if_pos (show (aw0.add z (dg n z)).e = 0 from rfl)]; exact Nat.zero_add z
  · funext i
    unfold Bs.g; rw [if_pos (show (aw0.add z (dg n z)).e = 0 from rfl)]
    show cpy 0 z (dg n z) (fun _ => 0) i = dg n z i
    unfold cpy
    by_cases c : i < z
    · rw [if_pos (by omega), Nat.sub_zero]
    · rw [if_neg (by omega), dg_up n z i (by omega)]
theorem aw_unfit {n z : Int} (h : ¬ Fit n z) : (aw0.num n z).m = 0 ∧ (aw0.num n z).e = 2 := by
  have he : aw0.num n z = aw0.broke 2 := by
    unfold Bs.num; rw [if_neg (by decide), if_neg h]
  rw [he]
  exact ⟨rfl, rfl⟩
/-- what is left of a number's bytes. -/
def rem8 (f : Nat → Nat) (z i : Nat) : Bs := ⟨z - i, sub f i (z - i), 0⟩
theorem rem8_ok {f : Nat → Nat} (hf : Pf.By f) (z i : Nat) : (rem8 f z i).Ok := ⟨sub_by hf _ _, sub_up _ _ _⟩
theorem rem8_next {f : Nat → Nat} {z i : Nat} (hi : i < z) : (rem8 f z i).rnum 1 = rem8 f z (i + 1) := by
  have he : (rem8 f z i).rnum 1 = (rem8 f z i).cut 1 := by
    unfold Bs.rnum Bs.take
    rw [if_neg (fun h => h rfl), if_pos (by omega), if_neg (fun h => h rfl), if_neg (by omega), if_neg (by show ¬ (1 : Int) > ((z - i : Nat) : Int); omega)]; rfl
  rw [he]
  show (⟨z - i - 1, sub (sub f i (z - i)) 1 (z - i - 1), 0⟩ : Bs) = ⟨z - (i + 1), sub f (i + 1) (z - (i + 1)), 0⟩
  rw [Nat.sub_sub]
  congr 1
  funext j
  unfold sub
  by_cases c : j < z - (i + 1)
  · rw [if_pos c, if_pos (by omega), if_pos c, Nat.add_assoc]
  · rw [if_neg c, if_neg c]
theorem rem8_val {f : Nat → Nat} {z i : Nat} (hi : i < z) : (rem8 f z i).rval 1 = f i := by
  unfold Bs.rval
  rw [if_pos ⟨rfl, by omega, by show (1 : Int) ≤ ((z - i : Nat) : Int); omega⟩]
  show 256 * 0 + sub f i (z - i) 0 = f i
  unfold sub; rw [if_pos (by omega), Nat.add_zero, Nat.mul_zero, Nat.zero_add]
end Go.Proofs.Ytdjigbjheicfcaa

namespace Go.Proofs.Ytdjigbjheicfcaa
open Go.RowKit Go.Shelf

theorem rem8_zero {f : Nat → Nat} {z : Nat} (hu : Pf.Up f z) : rem8 f z 0 = ⟨z, f, 0⟩ := by
  show (⟨z - 0, sub f 0 (z - 0), 0⟩ : Bs) = _
  rw [Nat.sub_zero, sub_all hu]
set_option maxHeartbeats 4000000 in
set_option maxRecDepth 100000 in
theorem packOne_no (m n z : Int) (h : ¬ (Fit m z ∧ Fit n z)) (w : World) :
    Calls Try.prog 7 #[.int .i64 m, .int .i64 n, .int .i64 z] w fun e w' => e = .returned (.bool true) ∧ Below w.heap.size w w' := by
  have H1 := Lib.hid (fun W => one_any m z W)
  have H2 := Lib.hid (fun W => one_any n z W)
  have h1 : ((aw0.num m z).e = 0) ∨ ((aw0.num m z).e = 2 ∧ (aw0.num m z).m = 0) := by
    by_cases k : Fit m z
    · left; unfold Bs.num; rw [if_neg (by decide), if_pos k]; rfl
    · right; exact ⟨(aw_unfit k).2, (aw_unfit k).1⟩
  have h2 : ((aw0.num n z).e = 0) ∨ ((aw0.num n z).e = 2 ∧ (aw0.num n z).m = 0) := by
    by_cases k : Fit n z
    · left; unfold Bs.num; rw [if_neg (by decide), if_pos k]; rfl
    · right; exact ⟨(aw_unfit k).2, (aw_unfit k).1⟩
  have h3 : ¬ ((aw0.num m z).e = 0 ∧ (aw0.num n z).e = 0) := fun k => h ⟨by
    by_cases k1 : Fit m z
    · exact k1
    · have := (aw_unfit k1).2; omega, by
    by_cases k1 : Fit n z
    · exact k1
    · have := (aw_unfit k1).2; omega⟩
  generalize aw0.num m z = S1 at H1 h1 h3
  generalize aw0.num n z = S2 at H2 h2 h3
  obtain ⟨l1, hl1⟩ : ∃ l, l = S1.m := ⟨_, rfl⟩
  obtain ⟨l2, hl2⟩ : ∃ l, l = S2.m := ⟨_, rfl⟩
  obtain ⟨e1, he1⟩ : ∃ e, e = S1.e := ⟨_, rfl⟩
  obtain ⟨e2, he2⟩ : ∃ e, e = S2.e := ⟨_, rfl⟩
  rw [← hl1, ← he1] at H1 h1
  rw [← hl2, ← he2] at H2 h2
  rw [← he1, ← he2] at h3
  clear hl1 hl2 he1 he2 h
  go_enter Try.func7, Try.ntmps7
  go_wp2_with fail
  refine (awake8_any _).mono ?_
  rintro x w1 ⟨rfl, hB1⟩
  have HB1 := Lib.hid hB1; clear hB1
  go_wp2_with fail
  refine (H1.out _).mono ?_
  rintro x w2 ⟨a2, c2, rfl, _, hB2⟩
  have HB2 := Lib.hid (HB1.out.trans (hB2.mono HB1.out.size)); clear hB2
  go_wp2_with fail
  refine (H2.out _).mono ?_
  rintro x w3 ⟨a3, c3, rfl, _, hB3⟩
  have HB3 := Lib.hid (HB2.out.trans (hB3.mono HB2.out.size)); clear hB3
  rcases h1 with rfl | ⟨rfl, rfl⟩
  · rcases h2 with rfl | ⟨rfl, rfl⟩
    · exact absurd ⟨rfl, rfl⟩ h3
    · clear h3
      go_wp2
      go_ret
      exact ⟨rfl, HB3.out⟩
  · clear h3
    rcases h2 with rfl | ⟨rfl, rfl⟩
    · go_wp2
      go_ret
      exact ⟨rfl, HB3.out⟩
    · go_wp2
      go_ret
      exact ⟨rfl, HB3.out⟩

set_option maxHeartbeats 4000000 in
set_option maxRecDepth 100000 in
theorem packOne_yes (m n z : Nat) (hm : Fit m z) (hn : Fit n z) (w : World) :
    Calls Try.prog 7 #[.int .i64 (m : Nat), .int .i64 (n : Nat), .int .i64 (z : Nat)] w fun e w' => e = .returned (.bool true) ∧ Below w.heap.size w w' := by
  have H1 := Lib.hid (fun W => one_any m z W)
  have H2 := Lib.hid (fun W => one_any n z W)
  obtain ⟨am, ag, ae⟩ := aw_fit hm
  obtain ⟨bm, bg, be⟩ := aw_fit hn
  rw [am, ag, ae] at H1
  rw [bm, bg, be] at H2
  clear am ag ae bm bg be
  obtain ⟨hz1, hz4, _, hm2⟩ := hm
  obtain ⟨_, _, _, hn2⟩ := hn
  have hz1' : 1 ≤ z := by omega
  have hz4' : z ≤ 4 := by omega
  rw [Int.toNat_natCast] at hm2 hn2
  have hm3 : m < 256 ^ z := by exact_mod_cast hm2
  have hn3 : n < 256 ^ z := by exact_mod_cast hn2
  have vm := vn_dg hm3
  have vN := vn_dg hn3
  have hless := less_vn z (dg m z) (dg n z) (dg_by _ _) (dg_by _ _)
  rw [vm, vN, ← str_list, ← str_list] at hless
  have hinj : (∀ i, i < z → dg m z i = dg n z i) ↔ m = n := ⟨fun h => dg_inj hm3 hn3 h, fun h i _ => by rw [h]⟩
  have HINJ := Lib.hid hinj; have VM := Lib.hid vm; have HLS := Lib.hid hless
  have HF := Lib.hid (⟨dg_by m z, dg_up m z⟩ : Pf.By (dg m z) ∧ Pf.Up (dg m z) z)
  generalize dg m z = F at H1 HINJ VM HLS HF
  generalize dg n z = G at H2 HINJ HLS
  have HV := Lib.hid (fun j (hj : j ≤ 4) => Nat.lt_of_lt_of_le (vn_lt HF.out.1 j) (pow256 hj))
  clear hz1 hz4 hm2 hn2 hm3 hn3 vm vN hless hinj
  go_enter Try.func7, Try.ntmps7
  go_wp2_with fail
  refine (awake8_any _).mono ?_
  rintro x w1 ⟨rfl, hB1⟩
  have HB1 := Lib.hid hB1; clear hB1
  go_wp2_with fail
  refine (H1.out _).mono ?_
  rintro x w2 ⟨a2, c2, rfl, hN2, hB2⟩
  have HB2 := Lib.hid (HB1.out.trans (hB2.mono HB1.out.size)); have HN2 := Lib.hid hN2; clear hB2 hN2
  go_wp2_with fail
  refine (H2.out _).mono ?_
  rintro x w3 ⟨a3, c3, rfl, hN3, hB3⟩
  have HB3 := Lib.hid (HB2.out.trans (hB3.mono HB2.out.size)); have HS2 := Lib.hid (HN2.out.below hB3).sl; have HS3 := Lib.hid hN3.sl
  clear hB3 hN3 HN2 H1 H2
  obtain ⟨b2, o2, e2, _⟩ := HS2.out.at_ (k := 0) (by omega)
  obtain ⟨b3, o3, e3, _⟩ := HS3.out.at_ (k := 0) (by omega)
  subst e2 e3
  have hzz : ((z : Int) != (z : Int)) = false := by simp
  go_wp2_with fail
  refine (same_dec _ _ z c2 c3 F G (by omega) _ HS2.out HS3.out).mono ?_
  rintro x w4 ⟨⟨v, rfl, hv⟩, q4, hq4⟩
  have hB34 : Below w3.heap.size w3 w4 := by rw [hq4]; exact below_dr (Below.refl _ _) q4
  have HB4 := Lib.hid (HB3.out.trans (hB34.mono HB3.out.size)); have HS24 := Lib.hid (HS2.out.same hB34); have HS34 := Lib.hid (HS3.out.same hB34)
  have hvv : (!((m : Int) == (n : Int)) == v) = false := by
    have hv2 := hv.trans HINJ.out
    cases v with
    | true => have := hv2.1 rfl; subst this; simp
    | false => have : m ≠ n := fun h => by have := hv2.2 h; cases this
               simp; omega
  have HLSS := Lib.hid (show (!decide (m < n) == Op.bytesLess (strOfNums (ints F z)).toList (strOfNums (ints G z)).toList) = false by
    rw [HLS.out]; cases decide (m < n) <;> rfl)
  have cv1 : (convert 29 9 (.slice (some ⟨b2, o2, none⟩) z c2)).run Try.prog w4 = .ok (.string (strOfNums (ints F z))) w4 := run_convert_bytes_arg w4 29 5 Try.underlying29 Try.underlying5 b2 o2 z c2 (ints F z) (ints_len _ _) (fun i hi => by rw [ints_get hi]; exact HS24.out.cell _ rfl i hi) _ Try.underlying9
  have cv2 : (convert 29 9 (.slice (some ⟨b3, o3, none⟩) z c3)).run Try.prog w4 = .ok (.string (strOfNums (ints G z))) w4 := run_convert_bytes_arg w4 29 5 Try.underlying29 Try.underlying5 b3 o3 z c3 (ints G z) (ints_len _ _) (fun i hi => by rw [ints_get hi]; exact HS34.out.cell _ rfl i hi) _ Try.underlying9
  clear hq4 hB34 HS2 HS3 hv
  generalize strOfNums (ints F z) = s1 at cv1 HLSS
  generalize strOfNums (ints G z) = s2 at cv2 HLSS
  have hlss := HLSS.out
  go_wp2_with fail
  refine (rover_any _ z c2 F (by omega) _ HS24.out).mono ?_
  rintro x w5 ⟨p, s, a5, c5, rfl, hR, hB5⟩
  have HB5 := Lib.hid (HB4.out.trans (hB5.mono HB4.out.size))
  have hz4 := HB4.out.size
  have HR := Lib.hid (show Rr w5 w.heap.size p s a5 c5 (rem8 F z 0) by rw [rem8_zero HF.out.2]; exact ⟨hR.box, hR.stk, Nat.le_trans hz4 hR.hp, Nat.le_trans hz4 hR.hs, fun ad e => ⟨Nat.le_trans hz4 (hR.ha ad e).1, (hR.ha ad e).2⟩⟩)
  clear hR hB5 hlss hvv cv1 cv2 HLSS
  go_wp2_with fail
  go_loopw [12, 13] (fun sv iv wr => ∃ (j : Nat) (a5 : Option Addr) (c5 : Nat), j ≤ z ∧ iv = .int .i64 (j : Nat) ∧ sv = .int .i64 (vn F j : Nat) ∧ Rr wr w.heap.size p s a5 c5 (rem8 F z j) ∧ Below w.heap.size w wr) (fun _ i _ => z - (intOf i).toNat)
  case atStart => exact ⟨0, a5, c5, by omega, rfl, rfl, HR.out, HB5.out⟩
  case round =>
    rename_i wr
    obtain ⟨j, a6, c6, hj, rfl, rfl, hR6, hB6⟩ := hrel
    have HR6 := Lib.hid hR6; have HB6 := Lib.hid hB6
    clear hR6 hB6
    by_cases hlt : j < z
    · have i1 : (j : Int) < (z : Int) := by omega
      have HVJ := Lib.hid (HV.out j (by omega))
      have HFJ := Lib.hid (HF.out.1 j)
      go_wp2_with fail
      refine (rnum_any w.heap.size p s a6 c6 (rem8 F z j) 1 (rem8_ok HF.out.1 z j) (by show z - j ≤ _; omega) _ HR6.out).mono ?_
      rintro x w7 ⟨rfl, hred⟩
      have HB7 := Lib.hid (HB6.out.trans (red_below HR6.out HB6.out.size hred))
      obtain ⟨⟨a7, c7, hR7, _⟩, _⟩ := hred
      rw [rem8_next hlt] at hR7
      rw [rem8_val hlt]
      have HR7 := Lib.hid hR7
      clear hR7
      go_wp2
      go_roundw
      case rel => exact ⟨j + 1, a7, c7, by omega, by go_num, by
        show _ = Value.int .i64 ((256 * vn F j + F j : Nat) : Int)
        have h1 := HVJ.out; have h2 := HFJ.out
        exact congrArg (Value.int .i64) (by unfold wrap64; omega), HR7.out, HB7.out⟩
      case measure => simp [intOf]; omega
    · obtain rfl : j = z := by omega
      have i1 : ¬ (j : Int) < (j : Int) := by omega
      rw [VM.out]
      go_wp2
      go_ret
      exact ⟨by simp, HB6.out⟩
theorem packOne_any (m n z : Int) (w : World) :
    Calls Try.prog 7 #[.int .i64 m, .int .i64 n, .int .i64 z] w fun e w' => e = .returned (.bool true) ∧ Below w.heap.size w w' := by
  by_cases h : Fit m z ∧ Fit n z
  · have h1 := h.1.1; have h2 := h.1.2.2.1; have h3 := h.2.2.2.1
    obtain ⟨m, rfl⟩ : ∃ k : Nat, m = k := ⟨m.toNat, by omega⟩
    obtain ⟨n, rfl⟩ : ∃ k : Nat, n = k := ⟨n.toNat, by omega⟩
    obtain ⟨z, rfl⟩ : ∃ k : Nat, z = k := ⟨z.toNat, by omega⟩
    exact packOne_yes m n z h.1 h.2 w
  · exact packOne_no m n z h w
end Go.Proofs.Ytdjigbjheicfcaa
