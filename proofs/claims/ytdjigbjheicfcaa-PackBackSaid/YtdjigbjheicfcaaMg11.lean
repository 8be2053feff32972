import Derived.Laws.BytesArg
import Derived.Laws.Strings
import Derived.Test.YtdjigbjheicfcaaMg10
namespace Go.Proofs.Ytdjigbjheicfcaa
open Go.RowKit Go.Shelf

theorem vn_head (f : Nat → Nat) : ∀ k, vn f (k + 1) = f 0 * 256 ^ k + vn (fun i => f (i + 1)) k
  | 0 => by simp [vn]
  | k + 1 => by
    have h := vn_head f k
    show 256 * vn f (k + 1) + f (k + 1) = f 0 * 256 ^ (k + 1) + (256 * vn (fun i => f (i + 1)) k + f (k + 1))
    rw [h, Nat.pow_succ, Nat.mul_add, ← Nat.mul_assoc, ← Nat.mul_assoc, Nat.mul_comm 256 (f 0), Nat.mul_right_comm (f 0) 256]
    omega
theorem less_vn : ∀ (l : Nat) (f g : Nat → Nat), Pf.By f → Pf.By g → Op.bytesLess ((List.range l).map fun i => UInt8.ofNat (f i)) ((List.range l).map fun i => UInt8.ofNat (g i)) = decide (vn f l < vn g l)
  | 0, f, g, _, _ => by simp [vn, Op.bytesLess]
  | l + 1, f, g, hf, hg => by
    have ih := less_vn l (fun i => f (i + 1)) (fun i => g (i + 1)) (fun i => hf _) (fun i => hg _)
    rw [List.range_succ_eq_map, List.map_cons, List.map_cons, List.map_map, List.map_map]
    have e1 : ((fun i => UInt8.ofNat (f i)) ∘ Nat.succ) = fun i => UInt8.ofNat (f (i + 1)) := rfl
    have e2 : ((fun i => UInt8.ofNat (g i)) ∘ Nat.succ) = fun i => UInt8.ofNat (g (i + 1)) := rfl
    rw [e1, e2]
    unfold Op.bytesLess
    rw [ih, vn_head f l, vn_head g l]
    have h1 := hf 0; have h2 := hg 0
    have l1 := vn_lt (f := fun i => f (i + 1)) (fun i => hf _) l
    have l2 := vn_lt (f := fun i => g (i + 1)) (fun i => hg _) l
    have hlt : (UInt8.ofNat (f 0) < UInt8.ofNat (g 0)) ↔ f 0 < g 0 := by
      rw [UInt8.lt_iff_toNat_lt, UInt8.toNat_ofNat', UInt8.toNat_ofNat']; omega
    have heq : (UInt8.ofNat (f 0) == UInt8.ofNat (g 0)) = decide (f 0 = g 0) := by
      rw [Bool.eq_iff_iff, beq_iff_eq, decide_eq_true_iff, ← UInt8.toNat_inj, UInt8.toNat_ofNat', UInt8.toNat_ofNat']; omega
    rw [heq]
    generalize vn (fun i => f (i + 1)) l = x at *
    generalize vn (fun i => g (i + 1)) l = y at *
    rcases Nat.lt_trichotomy (f 0) (g 0) with h | h | h
    · have := Nat.mul_le_mul_right (256 ^ l) (show f 0 + 1 ≤ g 0 from h)
      rw [Nat.add_mul, Nat.one_mul] at this
      have h3 : f 0 * 256 ^ l + x < g 0 * 256 ^ l + y := by omega
      simp [hlt.2 h, h3]
    · have h3 : ¬ (UInt8.ofNat (f 0) < UInt8.ofNat (g 0)) := fun k => by have := hlt.1 k; omega
      rw [h] at h3 ⊢
      simp [h3]
    · have := Nat.mul_le_mul_right (256 ^ l) (show g 0 + 1 ≤ f 0 from h)
      rw [Nat.add_mul, Nat.one_mul] at this
      have h3 : ¬ (f 0 * 256 ^ l + x < g 0 * 256 ^ l + y) := by omega
      have h4 : ¬ (UInt8.ofNat (f 0) < UInt8.ofNat (g 0)) := fun k => by have := hlt.1 k; omega
      have h5 : ¬ f 0 = g 0 := by omega
      simp [h4, h5, h3]
theorem str_list (f : Nat → Nat) (l : Nat) : (strOfNums (ints f l)).toList = (List.range l).map fun i => UInt8.ofNat (f i) := by
  rw [ByteArray.toList_eq, strOfNums_data]
  unfold ints
  rw [List.map_map]
  rfl

def SameSays (l : Nat) (f g : Nat → Nat) (w : World) (e : Ending) (w' : World) : Prop := (∃ v : Bool, e = .returned (.bool v) ∧ (v = true ↔ ∀ i, i < l → f i = g i)) ∧ ∃ q, w' = w.drewN q
set_option maxHeartbeats 1000000 in
set_option maxRecDepth 100000 in
theorem same_dec (a a' : Option Addr) (l c c' : Nat) (f g : Nat → Nat) (hl : l ≤ 1000000000000) (w : World) (h1 : Sl w a l c f) (h2 : Sl w a' l c' g) :
    Calls Try.prog 22 #[.slice a l c, .slice a' l c'] w (SameSays l f g w) := by
  have H1 := Lib.hid h1; have H2 := Lib.hid h2; clear h1 h2
  have g1 : ((l : Int) != (l : Int)) = false := by simp
  go_enter Try.func22, Try.ntmps22
  go_wp2_with fail
  clear g1
  go_loopw [5] (fun i wr => ∃ k : Nat, k ≤ l ∧ i = .int .i64 k ∧ (∀ j, j < k → f j = g j) ∧ ∃ q, wr = w.drewN q) (fun i _ => l - (intOf i).toNat)
  case atStart => exact ⟨0, by omega, rfl, fun j hj => absurd hj (Nat.not_lt_zero j), 0, rfl⟩
  case round =>
    obtain ⟨k, hk, rfl, hall, q, rfl⟩ := hrel
    have HALL := Lib.hid hall; clear hall
    by_cases hlt : k < l
    · obtain ⟨b1, o1, e1, c1⟩ := H1.out.at_ hlt
      obtain ⟨b2, o2, e2, c2⟩ := H2.out.at_ hlt
      have E1 := Lib.hid (show a = some ⟨b1, o1, none⟩ from e1)
      have E2 := Lib.hid (show a' = some ⟨b2, o2, none⟩ from e2)
      subst e1 e2
      have i1 : (k : Int) < (l : Int) := by omega
      by_cases hfg : f k = g k
      · have g2 : (((f k : Nat) : Int) != ((g k : Nat) : Int)) = false := by rw [hfg]; simp
        have HFG := Lib.hid hfg; clear hfg
        go_wp2_with fail
        go_quiet (fail)
        go_wp2
        go_roundw
        case rel => exact ⟨k + 1, by omega, by go_num, fun j hj => by
          by_cases e : j = k
          · rw [e]; exact HFG.out
          · exact HALL.out j (by omega), q + nq, rfl⟩
        case measure => simp [intOf]; omega
      · have g2 : (((f k : Nat) : Int) != ((g k : Nat) : Int)) = true := by simp; omega
        have HFG := Lib.hid hfg; clear hfg
        go_wp2_with fail
        go_quiet (fail)
        go_wp2
        go_ret
        exact ⟨⟨false, rfl, ⟨fun h => (by cases h), fun h => absurd (h k hlt) HFG.out⟩⟩, q + nq, World.drewN_drewN _ _ _⟩
    · obtain rfl : k = l := by omega
      have i1 : ¬ (k : Int) < (k : Int) := by omega
      go_wp2
      go_ret
      exact ⟨⟨true, rfl, ⟨fun _ => HALL.out, fun _ => rfl⟩⟩, q, rfl⟩

set_option maxHeartbeats 1000000 in
theorem one_any (n z : Int) (w : World) :
    Calls Try.prog 35 #[.int .i64 n, .int .i64 z] w (Tells w (aw0.num n z).m (aw0.num n z).g (aw0.num n z).e) := by
  obtain ⟨S, hS⟩ : ∃ S, S = aw0.num n z := ⟨_, rfl⟩
  have hO : S.Ok := by rw [hS]; exact aw0_ok.num _ _
  have hl : S.l ≤ 4 := by rw [hS]; exact Bs.num_len aw0 n z
  rw [← hS]
  have HS := Lib.hid hS; have HO := Lib.hid hO; clear hS hO
  go_enter Try.func35, Try.ntmps35
  go_wp2_with fail
  refine (wnew_any _).mono ?_
  rintro x w1 ⟨p, s, rfl, hW, hB1⟩
  have HW := Lib.hid hW; have HB1 := Lib.hid hB1; clear hW hB1
  go_wp2_with fail
  refine (wnum_any w.heap.size p s none 0 aw0 n z (by decide) _ HB1.out.size HW.out).mono ?_
  rintro x w2 h
  have hB2 := wrote_below HW.out HB1.out.size h
  obtain ⟨a2, c2, rfl, hW2, _, _⟩ := h
  rw [← HS.out] at hW2
  have HW2 := Lib.hid hW2; have HB2 := Lib.hid (HB1.out.trans hB2)
  clear hW2 hB2
  go_wp2_with fail
  refine (wbytes_any w.heap.size p s a2 c2 S HO.out (by omega) _ HW2.out).mono ?_
  rintro x w3 ⟨a3, c3, rfl, hN, hB3⟩
  have HB3 := Lib.hid (HB2.out.trans (hB3.mono HB2.out.size)); have HN := Lib.hid (hN.mono HB2.out.size)
  clear hN hB3
  go_wp2
  go_ret2
  exact ⟨a3, c3, rfl, HN.out, HB3.out⟩
theorem aw_fit {n z : Nat} (h : Fit n z) : (aw0.num n z).m = z ∧ (aw0.num n z).g = dg n z ∧ (aw0.num n z).e = 0 := by
  have he : aw0.num n z = aw0.add z (dg n z) := by
    unfold Bs.num; rw [if_neg (by decide), if_pos h, Int.toNat_natCast, Int.toNat_natCast]
  rw [he]
  refine ⟨?_, ?_, rfl⟩
  · unfold Bs.m; rw [if_pos (show (aw0.add z (dg n z)).e = 0 from rfl)]; exact Nat.zero_add z
  · funext i
    unfold Bs.g; rw [if_pos (show (aw0.add z (dg n z)).e = 0 from rfl)]
    show cpy 0 z (dg n z) (fun _ => 0) i = dg n z i
    unfold cpy
    by_cases c : i < z
    · rw [if_pos (by omega), Nat.sub_zero]
    · rw [if_neg (by omega), dg_up n z i (by omega)]
theorem aw_unfit {n z : Int} (h : ¬ Fit n z) : (aw0.num n z).m = 0 ∧ (aw0.num n z).e = 2 := by
  have he : aw0.num n z = aw0.broke 2 := by
    unfold Bs.num; rw [if_neg (by decide), if_neg h]
  rw [he]
  exact ⟨rfl, rfl⟩
/-- what is left of a number's bytes. -/
def rem8 (f : Nat → Nat) (z i : Nat) : Bs := ⟨z - i, sub f i (z - i), 0⟩
theorem rem8_ok {f : Nat → Nat} (hf : Pf.By f) (z i : Nat) : (rem8 f z i).Ok := ⟨sub_by hf _ _, sub_up _ _ _⟩
theorem rem8_next {f : Nat → Nat} {z i : Nat} (hi : i < z) : (rem8 f z i).rnum 1 = rem8 f z (i + 1) := by
  have he : (rem8 f z i).rnum 1 = (rem8 f z i).cut 1 := by
    unfold Bs.rnum Bs.take
    rw [if_neg (fun h => h rfl), if_pos (by omega), if_neg (fun h => h rfl), if_neg (by omega), if_neg (by show ¬ (1 : Int) > ((z - i : Nat) : Int); omega)]; rfl
  rw [he]
  show (⟨z - i - 1, sub (sub f i (z - i)) 1 (z - i - 1), 0⟩ : Bs) = ⟨z - (i + 1), sub f (i + 1) (z - (i + 1)), 0⟩
  rw [Nat.sub_sub]
  congr 1
  funext j
  unfold sub
  by_cases c : j < z - (i + 1)
  · rw [if_pos c, if_pos (by omega), if_pos c, Nat.add_assoc]
  · rw [if_neg c, if_neg c]
theorem rem8_val {f : Nat → Nat} {z i : Nat} (hi : i < z) : (rem8 f z i).rval 1 = f i := by
  unfold Bs.rval
  rw [if_pos ⟨rfl, by omega, by show (1 : Int) ≤ ((z - i : Nat) : Int); omega⟩]
  show 256 * 0 + sub f i (z - i) 0 = f i
  unfold sub; rw [if_pos (by omega), Nat.add_zero, Nat.mul_zero, Nat.zero_add]
theorem rem8_zero {f : Nat → Nat} {z : Nat} (hu : Pf.Up f z) : rem8 f z 0 = ⟨z, f, 0⟩ := by
  show (⟨z - 0, sub f 0 (z - 0), 0⟩ : Bs) = _
  rw [Nat.sub_zero, sub_all hu]
end Go.Proofs.Ytdjigbjheicfcaa

namespace Go.Proofs.Ytdjigbjheicfcaa
open Go.RowKit Go.Shelf

/-- a writer's state behind a call. -/
def Bs.doo (S : Bs) (wh n z : Int) (l : Nat) (f : Nat → Nat) : Bs := if pkv wh 2 = 0 then S.num n z else S.put l f
set_option maxHeartbeats 1000000 in
theorem put_any (B p s : Nat) (a : Option Addr) (c : Nat) (S : Bs) (wh n z : Int) (ai : Option Addr) (li ci : Nat) (fi : Nat → Nat) (hl : S.l + li ≤ 800000000) (w : World) (hB : B ≤ w.heap.size) (hW : Wr w B p s a c S) (hS : Sl w ai li ci fi) :
    Calls Try.prog 34 #[.pointer (some ⟨p, 0, none⟩), .agg #[.int .i64 wh, .int .i64 n, .int .i64 z, .slice ai li ci]] w fun x w' => Wrote w B p s a (S.doo wh n z li fi) x w' := by
  have hB1 := (Below.refl w.heap.size w).alloc (Nat.le_refl _) (.cells #[.int .i64 wh, .int .i64 n, .int .i64 z, .slice ai li ci] 32)
  have HB1 := Lib.hid hB1; have HW := Lib.hid (hW.same hB1); have HS := Lib.hid (hS.same hB1)
  have HGO := Lib.hid (fun (T : Bs) (x : Ending) (w' : World) (h : Wrote (w.alloc (.cells #[.int .i64 wh, .int .i64 n, .int .i64 z, .slice ai li ci] 32)) B p s a T x w') => (by
    obtain ⟨a', c', rfl, h1, ⟨b, hb, hbut⟩, hold⟩ := h
    exact ⟨a', c', rfl, h1, ⟨b, hb, (But2.of hB1).trans hbut⟩, fun g e => (hold g e).imp id (fun k => Nat.le_trans hB1.size k)⟩ : Wrote w B p s a T x w'))
  have hbb : B ≤ (w.alloc (.cells #[.int .i64 wh, .int .i64 n, .int .i64 z, .slice ai li ci] 32)).heap.size := Nat.le_trans hB hB1.size
  clear hW hS hB1
  have hp := pkv_bd wh (n := 2) (by omega)
  go_enter Try.func34, Try.ntmps34
  go_wp2_with fail
  refine (pickv_any wh 2 (by omega) (by omega) _).mono ?_
  rintro x w4 ⟨rfl, rfl⟩
  by_cases h0 : pkv wh 2 = 0
  · have HE := Lib.hid (show S.doo wh n z li fi = S.num n z from if_pos h0)
    rw [h0]
    go_wp2_with fail
    refine (wnum_any B p s a c S n z (by omega) _ hbb HW.out).mono ?_
    rintro x w5 h
    have h := HGO.out _ _ _ h
    obtain ⟨_, _, rfl, _⟩ := id h
    have H := Lib.hid h; clear h
    go_wp2
    go_end0
    rw [HE.out]; exact H.out
  · have HE := Lib.hid (show S.doo wh n z li fi = S.put li fi from if_neg h0)
    have h1 : pkv wh 2 = 1 := by omega
    rw [h1]
    go_wp2_with fail
    refine (wput_any B p s a c S ai li ci fi (by omega) _ hbb HW.out HS.out).mono ?_
    rintro x w5 h
    have h := HGO.out _ _ _ h
    obtain ⟨_, _, rfl, _⟩ := id h
    have H := Lib.hid h; clear h
    go_wp2
    go_end0
    rw [HE.out]; exact H.out
theorem Bs.Ok.doo {S : Bs} (h : S.Ok) {wh n z : Int} {l : Nat} {f : Nat → Nat} (hf : Pf.By f) : (S.doo wh n z l f).Ok := by
  unfold Bs.doo; split
  · exact h.num n z
  · exact h.put hf
theorem Bs.doo_len (S : Bs) (wh n z : Int) (l : Nat) (f : Nat → Nat) : (S.doo wh n z l f).l ≤ S.l + 4 + l := by
  unfold Bs.doo; split
  · have := Bs.num_len S n z; omega
  · have := Bs.put_len S l f; omega
end Go.Proofs.Ytdjigbjheicfcaa

namespace Go.Proofs.Ytdjigbjheicfcaa
open Go.RowKit Go.Shelf

section
variable (wh nn zz : Nat → Int) (il : Nat → Nat) (fb : Nat → Nat → Nat)
/-- a writer's state behind so many calls. -/
def Wn : Nat → Bs
  | 0 => aw0
  | k + 1 => (Wn k).doo (wh k) (nn k) (zz k) (il k) (fb k)
/-- how many bytes a call writes, and which. -/
def dn (k : Nat) : Nat := if pkv (wh k) 2 = 0 then (zz k).toNat else il k
def hn (k : Nat) : Nat → Nat := if pkv (wh k) 2 = 0 then dg (nn k).toNat (zz k).toNat else fb k
variable {wh nn zz il fb}
theorem Wn_ok {m : Nat} (hf : ∀ k, k < m → Pf.By (fb k)) : ∀ k, k ≤ m → (Wn wh nn zz il fb k).Ok
  | 0, _ => aw0_ok
  | k + 1, h => (Wn_ok hf k (by omega)).doo (hf k (by omega))
theorem Wn_len {m : Nat} (hl : ∀ k, k < m → il k ≤ 2000) : ∀ k, k ≤ m → (Wn wh nn zz il fb k).l ≤ 2004 * k
  | 0, _ => Nat.le_refl _
  | k + 1, h => by
    have h1 := Wn_len hl k (by omega)
    have h2 := Bs.doo_len (Wn wh nn zz il fb k) (wh k) (nn k) (zz k) (il k) (fb k)
    have h3 := hl k (by omega)
    show ((Wn wh nn zz il fb k).doo _ _ _ _ _).l ≤ _
    omega
theorem Wn_e : ∀ k, (Wn wh nn zz il fb k).e = 0 ∨ (Wn wh nn zz il fb k).e = 2
  | 0 => Or.inl rfl
  | k + 1 => by
    show ((Wn wh nn zz il fb k).doo _ _ _ _ _).e = 0 ∨ ((Wn wh nn zz il fb k).doo _ _ _ _ _).e = 2
    have h := Wn_e k
    unfold Bs.doo Bs.num Bs.put
    (repeat' split)
    · exact h
    · exact h
    · exact Or.inr rfl
    · exact h
    · exact h
theorem Wn_step {k : Nat} (h : (Wn wh nn zz il fb (k + 1)).e = 0) : (Wn wh nn zz il fb k).e = 0 ∧ (pkv (wh k) 2 = 0 → Fit (nn k) (zz k)) ∧ Wn wh nn zz il fb (k + 1) = (Wn wh nn zz il fb k).add (dn wh zz il k) (hn wh nn zz fb k) := by
  have he : Wn wh nn zz il fb (k + 1) = (Wn wh nn zz il fb k).doo (wh k) (nn k) (zz k) (il k) (fb k) := rfl
  rw [he] at h ⊢
  unfold Bs.doo at h ⊢
  unfold dn hn
  by_cases c : pkv (wh k) 2 = 0
  · rw [if_pos c] at h ⊢
    rw [if_pos c, if_pos c]
    unfold Bs.num at h ⊢
    by_cases d : (Wn wh nn zz il fb k).e = 0
    · rw [if_neg (by simp [d])] at h ⊢
      by_cases f : Fit (nn k) (zz k)
      · rw [if_pos f]; exact ⟨d, fun _ => f, rfl⟩
      · rw [if_neg f] at h; exact absurd h (by show (2 : Int) ≠ 0; decide)
    · rw [if_pos d] at h; exact absurd h d
  · rw [if_neg c] at h ⊢
    rw [if_neg c, if_neg c]
    unfold Bs.put at h ⊢
    by_cases d : (Wn wh nn zz il fb k).e = 0
    · rw [if_neg (by simp [d])]; exact ⟨d, fun k => absurd k c, rfl⟩
    · rw [if_pos d] at h; exact absurd h d
theorem Wn_back {m : Nat} (h : (Wn wh nn zz il fb m).e = 0) : ∀ d, d ≤ m → (Wn wh nn zz il fb (m - d)).e = 0
  | 0, _ => h
  | d + 1, hd => by
    have := Wn_back h d (by omega)
    rw [show m - d = (m - (d + 1)) + 1 by omega] at this
    exact (Wn_step this).1
theorem Wn_e0 {m k : Nat} (h : (Wn wh nn zz il fb m).e = 0) (hk : k ≤ m) : (Wn wh nn zz il fb k).e = 0 := by
  have := Wn_back h (m - k) (by omega)
  rwa [show m - (m - k) = k by omega] at this
/-- what stands stays. -/
theorem Wn_stay {k : Nat} : ∀ d, (Wn wh nn zz il fb (k + d)).e = 0 → (Wn wh nn zz il fb k).l ≤ (Wn wh nn zz il fb (k + d)).l ∧ ∀ i, i < (Wn wh nn zz il fb k).l → (Wn wh nn zz il fb (k + d)).f i = (Wn wh nn zz il fb k).f i
  | 0, _ => ⟨Nat.le_refl _, fun _ _ => rfl⟩
  | d + 1, h => by
    obtain ⟨h1, _, h3⟩ := Wn_step (k := k + d) h
    obtain ⟨h4, h5⟩ := Wn_stay d h1
    have e : Wn wh nn zz il fb (k + (d + 1)) = _ := h3
    rw [e]
    refine ⟨Nat.le_trans h4 (Nat.le_add_right _ _), fun i hi => ?_⟩
    show cpy _ _ _ _ i = _
    unfold cpy; rw [if_neg (by omega)]; exact h5 i hi
theorem Wn_seg {m k : Nat} (h : (Wn wh nn zz il fb m).e = 0) (hk : k < m) :
    (Wn wh nn zz il fb (k + 1)).l = (Wn wh nn zz il fb k).l + dn wh zz il k ∧ (Wn wh nn zz il fb k).l + dn wh zz il k ≤ (Wn wh nn zz il fb m).l ∧ (∀ i, i < dn wh zz il k → (Wn wh nn zz il fb m).f ((Wn wh nn zz il fb k).l + i) = hn wh nn zz fb k i) ∧ (pkv (wh k) 2 = 0 → Fit (nn k) (zz k)) := by
  obtain ⟨h1, h2, h3⟩ := Wn_step (Wn_e0 h (show k + 1 ≤ m by omega))
  have hl : (Wn wh nn zz il fb (k + 1)).l = (Wn wh nn zz il fb k).l + dn wh zz il k := by rw [h3]; rfl
  have hs := Wn_stay (k := k + 1) (m - (k + 1)) (by rw [show k + 1 + (m - (k + 1)) = m by omega]; exact h)
  rw [show k + 1 + (m - (k + 1)) = m by omega, hl] at hs
  refine ⟨hl, hs.1, fun i hi => ?_, h2⟩
  rw [hs.2 _ (by omega), h3]
  show cpy _ _ _ _ _ = _
  unfold cpy; rw [if_pos (by omega), Nat.add_sub_cancel_left]
end

theorem rem8_cut {f : Nat → Nat} {L p n : Nat} (h : p + n ≤ L) : (rem8 f L p).cut n = rem8 f L (p + n) := by
  show (⟨L - p - n, sub (sub f p (L - p)) n (L - p - n), 0⟩ : Bs) = ⟨L - (p + n), sub f (p + n) (L - (p + n)), 0⟩
  rw [Nat.sub_sub]
  congr 1
  funext j
  unfold sub
  by_cases c : j < L - (p + n)
  · rw [if_pos c, if_pos (by omega), if_pos c, Nat.add_assoc]
  · rw [if_neg c, if_neg c]
theorem rem8_take {f : Nat → Nat} {L p n : Nat} (h : p + n ≤ L) : (rem8 f L p).take n = rem8 f L (p + n) ∧ (rem8 f L p).tm n = n ∧ ∀ i, i < n → (rem8 f L p).tf n i = f (p + i) := by
  have hl : (rem8 f L p).l = L - p := rfl
  refine ⟨?_, ?_, fun i hi => ?_⟩
  · unfold Bs.take
    rw [if_neg (fun k => k rfl), if_neg (by omega), if_neg (by rw [hl]; omega), Int.toNat_natCast]
    exact rem8_cut h
  · unfold Bs.tm; rw [if_pos ⟨rfl, by omega, by rw [hl]; omega⟩, Int.toNat_natCast]
  · unfold Bs.tf; rw [if_pos ⟨rfl, by omega, by rw [hl]; omega⟩, Int.toNat_natCast]
    show sub (sub f p (L - p)) 0 n i = _
    unfold sub; rw [if_pos hi, if_pos (by omega), Nat.zero_add]
theorem rem8_num {f : Nat → Nat} {L p : Nat} {z : Nat} (h : p + z ≤ L) (h1 : 1 ≤ z) (h4 : z ≤ 4) : (rem8 f L p).rnum z = rem8 f L (p + z) ∧ (rem8 f L p).rval z = vn (fun i => f (p + i)) z := by
  have hl : (rem8 f L p).l = L - p := rfl
  refine ⟨?_, ?_⟩
  · unfold Bs.rnum
    rw [if_neg (fun k => k rfl), if_pos (by omega)]
    exact (rem8_take h).1
  · unfold Bs.rval
    rw [if_pos ⟨rfl, by omega, by rw [hl]; omega⟩, Int.toNat_natCast]
    exact vn_congr z fun i hi => by show sub f p (L - p) i = _; unfold sub; rw [if_pos (by omega)]
theorem seg_num {wh nn zz : Nat → Int} {il : Nat → Nat} {fb : Nat → Nat → Nat} {m j : Nat} (h : (Wn wh nn zz il fb m).e = 0) (hj : j < m) (hp : pkv (wh j) 2 = 0) :
    ∃ z : Nat, zz j = z ∧ 1 ≤ z ∧ z ≤ 4 ∧ (Wn wh nn zz il fb (j + 1)).l = (Wn wh nn zz il fb j).l + z ∧ (Wn wh nn zz il fb j).l + z ≤ (Wn wh nn zz il fb m).l ∧
      (rem8 (Wn wh nn zz il fb m).f (Wn wh nn zz il fb m).l (Wn wh nn zz il fb j).l).rnum (zz j) = rem8 (Wn wh nn zz il fb m).f (Wn wh nn zz il fb m).l (Wn wh nn zz il fb (j + 1)).l ∧
      ((rem8 (Wn wh nn zz il fb m).f (Wn wh nn zz il fb m).l (Wn wh nn zz il fb j).l).rval (zz j) : Int) = nn j := by
  obtain ⟨h1, h2, h3, h4⟩ := Wn_seg h hj
  obtain ⟨f1, f2, f3, f4⟩ := h4 hp
  unfold dn at h1 h2 h3
  unfold hn at h3
  rw [if_pos hp] at h1 h2 h3
  rw [if_pos hp] at h3
  obtain ⟨z, hz⟩ : ∃ z : Nat, zz j = z := ⟨(zz j).toNat, by omega⟩
  obtain ⟨n, hnn⟩ : ∃ n : Nat, nn j = n := ⟨(nn j).toNat, by omega⟩
  rw [hz] at f1 f2 f4 h1 h2 h3 ⊢
  rw [hnn] at f4 h3 ⊢
  rw [Int.toNat_natCast] at f4 h1 h2 h3
  rw [Int.toNat_natCast] at h3
  have f5 : n < 256 ^ z := Int.ofNat_lt.1 (by rw [Int.natCast_pow 256 z]; exact f4)
  have hr := rem8_num (f := (Wn wh nn zz il fb m).f) h2 (by omega) (by omega)
  refine ⟨z, rfl, by omega, by omega, h1, h2, by rw [h1]; exact hr.1, ?_⟩
  rw [hr.2, vn_congr z (fun i hi => h3 i hi), vn_dg f5]
theorem seg_take {wh nn zz : Nat → Int} {il : Nat → Nat} {fb : Nat → Nat → Nat} {m j : Nat} (h : (Wn wh nn zz il fb m).e = 0) (hj : j < m) (hp : ¬ pkv (wh j) 2 = 0) (hu : Pf.Up (fb j) (il j)) :
    (Wn wh nn zz il fb (j + 1)).l = (Wn wh nn zz il fb j).l + il j ∧ (Wn wh nn zz il fb j).l + il j ≤ (Wn wh nn zz il fb m).l ∧
      (rem8 (Wn wh nn zz il fb m).f (Wn wh nn zz il fb m).l (Wn wh nn zz il fb j).l).take (il j : Nat) = rem8 (Wn wh nn zz il fb m).f (Wn wh nn zz il fb m).l (Wn wh nn zz il fb (j + 1)).l ∧
      (rem8 (Wn wh nn zz il fb m).f (Wn wh nn zz il fb m).l (Wn wh nn zz il fb j).l).tm (il j : Nat) = il j ∧
      (rem8 (Wn wh nn zz il fb m).f (Wn wh nn zz il fb m).l (Wn wh nn zz il fb j).l).tf (il j : Nat) = fb j := by
  obtain ⟨h1, h2, h3, _⟩ := Wn_seg h hj
  unfold dn at h1 h2 h3
  unfold hn at h3
  rw [if_neg hp] at h1 h2 h3
  rw [if_neg hp] at h3
  have hr := rem8_take (f := (Wn wh nn zz il fb m).f) h2
  refine ⟨h1, h2, by rw [h1]; exact hr.1, hr.2.1, funext fun i => ?_⟩
  by_cases c : i < il j
  · rw [hr.2.2 i c, h3 i c]
  · have := Bs.tfu (rem8 (Wn wh nn zz il fb m).f (Wn wh nn zz il fb m).l (Wn wh nn zz il fb j).l) (il j : Nat)
    rw [hr.2.1] at this
    rw [this i (by omega), hu i (by omega)]
theorem sl_head {w : World} {a : Option Addr} {l c n : Nat} {f : Nat → Nat} (h : Sl w a l c f) (hn : n ≤ l) : Sl w a n c (sub f 0 n) :=
  ⟨Nat.le_trans hn h.capOk, h.maxOk, sub_by h.bytes _ _, sub_up _ _ _, fun e => ⟨by have := (h.nil e).1; omega, (h.nil e).2⟩, fun ad e k => h.spot ad e (by omega), fun ad e i hi => by
    rw [h.cell ad e i (by omega)]; unfold sub; rw [if_pos hi, Nat.zero_add]⟩
/-- a reader of a part: its state, as far as it is asked. -/
def Cutt (S : Bs) (k p L : Nat) : Prop := S.Ok ∧ ((S.e = 0 ∧ S.l + p = k) ∨ (S.e = 4 ∧ S.l ≤ k ∧ k < L))
theorem Cutt.take {S : Bs} {k p L n : Nat} (h : Cutt S k p L) (hn : p + n ≤ L) : Cutt (S.take n) k (p + n) L := by
  obtain ⟨hO, h⟩ := h
  refine ⟨hO.take _, ?_⟩
  rcases h with ⟨h0, hl⟩ | ⟨h4, hlk, hl⟩
  · unfold Bs.take
    rw [if_neg (by simp [h0]), if_neg (by omega)]
    by_cases c : (n : Int) > (S.l : Int)
    · rw [if_pos c]; exact Or.inr ⟨rfl, by show S.l ≤ k; omega, by omega⟩
    · rw [if_neg c, Int.toNat_natCast]; exact Or.inl ⟨h0, by show S.l - n + (p + n) = k; omega⟩
  · unfold Bs.take; rw [if_pos (by omega)]; exact Or.inr ⟨h4, hlk, hl⟩
theorem Cutt.num {S : Bs} {k p L z : Nat} (h : Cutt S k p L) (hn : p + z ≤ L) (h1 : 1 ≤ z) (h4 : z ≤ 4) : Cutt (S.rnum z) k (p + z) L := by
  have ht := h.take hn
  obtain ⟨hO, h⟩ := h
  unfold Bs.rnum
  by_cases c : S.e ≠ 0
  · rw [if_pos c]
    refine ⟨hO, ?_⟩
    rcases h with ⟨h0, _⟩ | h
    · exact absurd h0 c
    · exact Or.inr h
  · rw [if_neg c, if_pos (by omega)]; exact ht
end Go.Proofs.Ytdjigbjheicfcaa
