import Derived.Test.YtkejabhjlflknaaGreatMg4
import Derived.Test.YtkejabhjlflknaaGreatMg8
namespace Go.Proofs.YtkejabhjlflknaaGreat
open Go.RowKit Go.Shelf

theorem Wr.ne_bl {w : World} {W fb g n cap m k : Nat} {a : Option Addr} {h : Nat → Nat} (hW : Wr w W fb a n cap) (hb : Bl w g m k h) : W ≠ g := by
  rintro rfl
  obtain ⟨vs, h1, _⟩ := hb
  rw [show w.heap[W]? = _ from hW] at h1
  injection h1 with h1
  injection h1 with _ h2
  exact absurd h2 (by decide)
theorem Wr.ne_gr {w : World} {W fb G B n cap m k : Nat} {a : Option Addr} {b l c : Nat → Nat} {f : Nat → Nat → Nat} (hW : Wr w W fb a n cap) (hb : Gr w B G m k b l c f) : W ≠ G := by
  rintro rfl
  obtain ⟨vs, h1, _⟩ := hb.blk
  rw [show w.heap[W]? = _ from hW] at h1
  injection h1 with h1
  injection h1 with _ h2
  exact absurd h2 (by decide)
/-- a row to which a part of another one was added, at k places from c on. -/
def addf (F S : Nat → Nat) (p c k j : Nat) : Nat := if c ≤ j ∧ j < c + k then F j ^^^ Gf.mul (S j) p else F j
theorem addf_by {F S : Nat → Nat} {p : Nat} (hF : Pf.By F) (hS : Pf.By S) (hp : p < 256) (c k : Nat) : Pf.By (addf F S p c k) := fun j => by
  unfold addf; split
  · exact Gf.xor_lt (hF j) (Gf.mul_lt (hS j) hp)
  · exact hF j
theorem addf_s (F S : Nat → Nat) (p c k j : Nat) : (if j = c + k then addf F S p c k (c + k) ^^^ Gf.mul (S (c + k)) p else addf F S p c k j) = addf F S p c (k + 1) j := by
  unfold addf
  by_cases e : j = c + k
  · subst e; rw [if_pos rfl, if_neg (by omega), if_pos (by omega)]
  · rw [if_neg e]
    by_cases h : c ≤ j ∧ j < c + k
    · rw [if_pos h, if_pos (by omega)]
    · rw [if_neg h, if_neg (by omega)]
theorem addf_at (F S : Nat → Nat) (p c k : Nat) : addf F S p c k (c + k) = F (c + k) := if_neg (by omega)

set_option maxHeartbeats 1000000 in
set_option maxRecDepth 100000 in
theorem wadd_any (W fb g g2 n cap c m p : Nat) (a : Option Addr) (F S : Nat → Nat) (w : World) (hW : Wr w W fb a n cap) (hFi : IsField fb w) (hb : Bl w g (c + m) (c + m) F) (hb2 : Bl w g2 (c + m) (c + m) S) (hF : Pf.By F) (hS : Pf.By S) (hne : g ≠ g2) (hnf : fb ≠ g) (hp : p < 256) (hm : c + m ≤ 1000000) :
    Calls Tryz.prog 149 #[.pointer (some ⟨W, 0, none⟩), .slice (some ⟨g, c, none⟩) m m, .slice (some ⟨g2, c, none⟩) m m, .int .u8 (p : Nat)] w fun e w' => e = .returned (.tuple #[]) ∧ w.grownBy w' (some g) ∧ Bl w' g (c + m) (c + m) (addf F S p c m) := by
  have hWg := hW.ne_bl hb
  have HW := Lib.hid hW; have HFi := Lib.hid hFi; have HB := Lib.hid hb; have HB2 := Lib.hid hb2; have HBF := Lib.hid hF; have HBS := Lib.hid hS
  have HST := Lib.hid (hb.congr (h' := addf F S p c 0) fun j _ => by unfold addf; rw [if_neg (by omega)])
  clear hW hFi hb hb2 hF hS
  have hgr0 : w.grownBy w (some g) := ⟨rfl, rfl, rfl, Nat.le_refl _, fun _ _ _ => rfl⟩
  have HGR0 := Lib.hid hgr0; clear hgr0
  go_enter Tryz.func149, Tryz.ntmps149
  go_wp2_with fail
  go_loopw [12] (fun i wr => ∃ k : Nat, k ≤ m ∧ i = .int .i64 k ∧ Bl wr g (c + m) (c + m) (addf F S p c k) ∧ w.grownBy wr (some g)) (fun i _ => m - (intOf i).toNat)
  case atStart => exact ⟨0, by omega, rfl, HST.out, HGR0.out⟩
  case round =>
    rename_i wr
    obtain ⟨k, hk, rfl, hBl, hGr⟩ := hrel
    by_cases hkm : k < m
    · have i1 : (k : Int) < (m : Int) := by omega
      have c1 := hBl.cell (i := c + k) (by omega)
      have f1 := hBl.free (c + k)
      rw [addf_at] at c1
      have c2 := (HB2.out.kept (hGr.block g2 HB2.out.lt (by simpa using fun e => hne e.symm))).cell (i := c + k) (by omega)
      have z0 := (HW.out.kept (hGr.block W HW.out.lt (by simpa using hWg))).c0
      have HFi2 := Lib.hid (HFi.out.grown hGr (by simpa using hnf))
      have HBl := Lib.hid hBl; have HGr := Lib.hid hGr
      clear hBl hGr
      have d1 := HBF.out (c + k)
      have d2 := HBS.out (c + k)
      have d3 := Gf.mul_lt d2 hp
      have HS' := Lib.hid (fun j => addf_s F S p c k j)
      have HAT := Lib.hid (addf_at F S p c k)
      go_wp2_with fail
      refine Rb.wp_region_quiet_tail 15 (by kernel_rfl) (by kernel_rfl) ?_
      simp only [List.take_succ_cons, List.take_zero, List.drop_succ_cons, List.drop_zero]
      repeat (go_big_quiet_step ((first | (go_at_call 121; exact Calls.quiet_of (mul_nat fb (S (c + k)) p d2 hp _ (HFi2.out.drewN _))) | (go_at_call 120; exact Calls.quiet_of_same (add_nat (F (c + k)) (Gf.mul (S (c + k)) p) d1 d3 _)))))
      refine wpQuiet_nil ?_
      rintro _ ⟨k2, rfl⟩
      go_wp2_with fail
      go_roundw
      case rel => exact ⟨k + 1, by omega, by go_num, ((HBl.out.drewN k2).set (j := c + k) (by omega) _).congr (fun j _ => by rw [← HS'.out j, HAT.out]), by
        have h1 := HGr.out
        have h2 := grownSet (wr.drewN k2) g (c + k) (.int .u8 ((F (c + k) ^^^ Gf.mul (S (c + k)) p : Nat) : Int))
        exact ⟨h2.os.trans h1.os, h2.tape.trans h1.tape, h2.output.trans h1.output, Nat.le_trans h1.size h2.size, fun q hq hne => (h2.block q (Nat.lt_of_lt_of_le hq h1.size) hne).trans (h1.block q hq hne)⟩⟩
      case measure => simp [intOf]; omega
    · obtain rfl : k = m := by omega
      have HBl := Lib.hid hBl; have HGr := Lib.hid hGr
      clear hBl hGr
      go_wp2
      go_end0
      exact ⟨rfl, HGr.out, HBl.out⟩
end Go.Proofs.YtkejabhjlflknaaGreat

namespace Go.Proofs.YtkejabhjlflknaaGreat
open Go.RowKit Go.Shelf

theorem ivN_iv (x : Nat) : ivN x = Mt.iv x := rfl
/-- a matrix at work: the worker, its field, its rows, from B on. -/
structure Job (w : World) (B W fb G n wi : Nat) (b : Nat → Nat) (M : Nat → Nat → Nat) : Prop where
  wk : Wr w W fb (some ⟨G, 0, none⟩) n n
  fi : IsField fb w
  gr : Gr w B G n n b (fun _ => wi) (fun _ => wi) M
  fG : fb ≠ G
  fB : ∀ i, i < n → fb ≠ b i
section
variable {w w' : World} {B W fb G n wi : Nat} {b : Nat → Nat} {M : Nat → Nat → Nat}
theorem Job.drewN (h : Job w B W fb G n wi b M) (q : Nat) : Job (w.drewN q) B W fb G n wi b M := ⟨h.wk, h.fi.drewN q, h.gr.drewN q, h.fG, h.fB⟩
theorem Job.congr (h : Job w B W fb G n wi b M) {M' : Nat → Nat → Nat} (hM : Mt.Bm M') (e : ∀ i j, i < n → M i j = M' i j) : Job w B W fb G n wi b M' := ⟨h.wk, h.fi, h.gr.congr hM e, h.fG, h.fB⟩
/-- a row written anew. -/
theorem Job.rowset (h : Job w B W fb G n wi b M) {r : Nat} (hr : r < n) (hg : w.grownBy w' (some (b r))) {x : Nat → Nat} (hx : Bl w' (b r) wi wi x) (hy : Pf.By x) (hu : Pf.Up x wi) : Job w' B W fb G n wi b (fun i j => if i = r then x j else M i j) :=
  ⟨h.wk.kept (hg.block W h.wk.lt (by simpa using h.wk.ne_bl (h.gr.row r hr))), h.fi.grown hg (by simpa using h.fB r hr), h.gr.rowset hr hg hx hy hu, h.fG, h.fB⟩
theorem Job.set (h : Job w B W fb G n wi b M) {r j : Nat} (hr : r < n) (hj : j < wi) {v : Nat} (hv : v < 256) : Job (w.setCell ⟨b r, j, none⟩ (.int .u8 (v : Nat))) B W fb G n wi b (fun i k => if i = r then (if k = j then v else M r k) else M i k) :=
  h.rowset hr (grownSet w (b r) j _) ((h.gr.row r hr).set hj v) (fun k => by
    show (if k = j then v else M r k) < 256
    split
    · exact hv
    · exact h.gr.bm r k) (fun k hk => by
    show (if k = j then v else M r k) = 0
    rw [if_neg (by omega)]; exact h.gr.up r hr k hk)
end

/-- a row by a byte, at k places from c on. -/
def sclf (F : Nat → Nat) (x c k j : Nat) : Nat := if c ≤ j ∧ j < c + k then Gf.mul (F j) x else F j
theorem sclf_by {F : Nat → Nat} {x : Nat} (hF : Pf.By F) (hx : x < 256) (c k : Nat) : Pf.By (sclf F x c k) := fun j => by
  unfold sclf; split
  · exact Gf.mul_lt (hF j) hx
  · exact hF j
theorem sclf_s (F : Nat → Nat) (x c k j : Nat) : (if j = c + k then Gf.mul (F (c + k)) x else sclf F x c k j) = sclf F x c (k + 1) j := by
  unfold sclf
  by_cases e : j = c + k
  · subst e; rw [if_pos rfl, if_pos (by omega)]
  · rw [if_neg e]
    by_cases h : c ≤ j ∧ j < c + k
    · rw [if_pos h, if_pos (by omega)]
    · rw [if_neg h, if_neg (by omega)]
theorem sclf_at (F : Nat → Nat) (x c k : Nat) : sclf F x c k (c + k) = F (c + k) := if_neg (by omega)
theorem sclf_end {F : Nat → Nat} {x c m : Nat} (hz : ∀ j, j < c → F j = 0) (hu : Pf.Up F (c + m)) (j : Nat) : sclf F x c m j = Gf.mul (F j) x := by
  unfold sclf
  by_cases h : c ≤ j ∧ j < c + m
  · rw [if_pos h]
  · rw [if_neg h]
    have : F j = 0 := by
      by_cases c1 : j < c
      · exact hz j c1
      · exact hu j (by omega)
    rw [this, Gf.zero_mul]
/-- of the first k rows, but for the row r, that row's part taken. -/
def ldk (M : Nat → Nat → Nat) (S : Nat → Nat) (r c k i j : Nat) : Nat := if i = r then S j else if i < k then M i j ^^^ Gf.mul (S j) (M i c) else M i j
theorem ldk_bm {M : Nat → Nat → Nat} {S : Nat → Nat} (hM : Mt.Bm M) (hS : Pf.By S) (r c k : Nat) : Mt.Bm (ldk M S r c k) := fun i j => by
  unfold ldk; split
  · exact hS j
  · split
    · exact Gf.xor_lt (hM i j) (Gf.mul_lt (hS j) (hM i c))
    · exact hM i j
theorem ldk_r (M : Nat → Nat → Nat) (S : Nat → Nat) (c k i j : Nat) : ldk M S k c (k + 1) i j = ldk M S k c k i j := by
  unfold ldk
  by_cases e : i = k
  · rw [if_pos e, if_pos e]
  · rw [if_neg e, if_neg e]
    by_cases h : i < k
    · rw [if_pos h, if_pos (by omega)]
    · rw [if_neg h, if_neg (by omega)]
theorem ldk_0 (M : Nat → Nat → Nat) (S : Nat → Nat) {r c k : Nat} (h0 : M k c = 0) (i j : Nat) : ldk M S r c k i j = ldk M S r c (k + 1) i j := by
  unfold ldk
  by_cases e : i = r
  · rw [if_pos e, if_pos e]
  · rw [if_neg e, if_neg e]
    by_cases h : i < k
    · rw [if_pos h, if_pos (by omega)]
    · rw [if_neg h]
      by_cases h2 : i = k
      · rw [if_pos (by omega), h2, h0, Gf.mul_zero, Nat.xor_zero]
      · rw [if_neg (by omega)]
theorem ldk_s (M : Nat → Nat → Nat) (S : Nat → Nat) {r c k : Nat} (hk : k ≠ r) (i j : Nat) : (if i = k then M k j ^^^ Gf.mul (S j) (M k c) else ldk M S r c k i j) = ldk M S r c (k + 1) i j := by
  unfold ldk
  by_cases e : i = k
  · rw [if_pos e, if_neg (by omega), if_pos (by omega), e]
  · rw [if_neg e]
    by_cases e2 : i = r
    · rw [if_pos e2, if_pos e2]
    · rw [if_neg e2, if_neg e2]
      by_cases h : i < k
      · rw [if_pos h, if_pos (by omega)]
      · rw [if_neg h, if_neg (by omega)]
theorem ldk_at (M : Nat → Nat → Nat) (S : Nat → Nat) {r c k : Nat} (hk : k ≠ r) (j : Nat) : ldk M S r c k k j = M k j := by
  unfold ldk; rw [if_neg hk, if_neg (by omega)]
theorem ldk_row (M : Nat → Nat → Nat) (S : Nat → Nat) (r c k : Nat) (j : Nat) : ldk M S r c k r j = S j := if_pos rfl
theorem addf_all {F S : Nat → Nat} {p c m : Nat} (hz : ∀ j, j < c → S j = 0) (hu : Pf.Up S (c + m)) (j : Nat) : addf F S p c m j = F j ^^^ Gf.mul (S j) p := by
  unfold addf
  by_cases h : c ≤ j ∧ j < c + m
  · rw [if_pos h]
  · rw [if_neg h]
    have : S j = 0 := by
      by_cases c1 : j < c
      · exact hz j c1
      · exact hu j (by omega)
    rw [this, Gf.zero_mul, Nat.xor_zero]

set_option maxHeartbeats 2000000 in
set_option maxRecDepth 100000 in
theorem lead_any (B W fb G n c m r : Nat) (b : Nat → Nat) (M : Nat → Nat → Nat) (w : World) (hJ : Job w B W fb G n (c + m) b M) (hr : r < n) (hm0 : 0 < m) (h0 : M r c ≠ 0) (hz : ∀ j, j < c → M r j = 0) (hB : B ≤ w.heap.size) (hn : n ≤ 1000000) (hcm : c + m ≤ 1000000) :
    Calls Tryz.prog 146 #[.pointer (some ⟨W, 0, none⟩), .int .i64 (r : Nat), .int .i64 (c : Nat)] w fun e w' => e = .returned (.tuple #[]) ∧ Job w' B W fb G n (c + m) b (Mt.ldd M r c) ∧ Below B w w' := by
  have HJ := Lib.hid hJ; have HZ := Lib.hid hz; have H0 := Lib.hid h0
  have z0 := hJ.wk.c0; have z1 := hJ.wk.c1
  have zr := hJ.gr.cell hr
  have zc := (hJ.gr.row r hr).cell (i := c) (by omega)
  have hx := hJ.gr.bm r c
  have HFI := Lib.hid hJ.fi
  clear hJ hz h0
  have i1 : (r : Int) < (n : Int) := by omega
  have i2 : (c : Int) ≤ (c : Int) + (m : Int) := by omega
  have i3 : ¬ c + m = c := by omega
  have i4 : ¬ m = 0 := by omega
  have i5 : (0 : Int) < (m : Int) := by omega
  have e6 : c + m - c = m := by omega
  have hiv := ivN_lt (M r c)
  have hXE : ∃ x, x = M r c := ⟨_, rfl⟩
  obtain ⟨x, hxe⟩ := hXE
  rw [← hxe] at zc hx hiv
  have HXE := Lib.hid hxe; clear hxe
  go_enter Tryz.func146, Tryz.ntmps146
  go_wp2_with fail
  go_quiet ((go_at_call 119; exact Calls.quiet_of (inv_nat fb x hx _ (HFI.out.drewN _))))
  go_wp2_with fail
  obtain ⟨w0, hw0⟩ : ∃ w0, w0 = w.drewN nq := ⟨_, rfl⟩
  have hj0 : Job w0 B W fb G n (c + m) b M := by rw [hw0]; exact HJ.out.drewN nq
  have hb0 : Below B w w0 := by rw [hw0]; exact below_dr (Below.refl _ _) nq
  rw [← hw0]
  have hsm : ∀ k, Mt.Bm (fun i j => if i = r then sclf (M r) (ivN x) c k j else M i j) := fun k i j => by
    show (if i = r then sclf (M r) (ivN x) c k j else M i j) < 256
    split
    · exact sclf_by (HJ.out.gr.bm r) hiv c k j
    · exact HJ.out.gr.bm i j
  have hj1 : Job w0 B W fb G n (c + m) b (fun i j => if i = r then sclf (M r) (ivN x) c 0 j else M i j) := hj0.congr (hsm 0) fun i j _ => by
    by_cases e : i = r
    · rw [if_pos e]; unfold sclf; rw [if_neg (by omega), e]
    · rw [if_neg e]
  have HJ1 := Lib.hid hj1; have HB0 := Lib.hid hb0; have HSM := Lib.hid hsm
  clear hw0 hj0 hb0 hj1 hsm z0 z1 zr zc
  go_loopw [36] (fun i wr => ∃ k : Nat, k ≤ m ∧ i = .int .i64 k ∧ Job wr B W fb G n (c + m) b (fun i j => if i = r then sclf (M r) (ivN x) c k j else M i j) ∧ Below B w wr) (fun i _ => m - (intOf i).toNat)
  case atStart => exact ⟨0, by omega, rfl, HJ1.out, HB0.out⟩
  case round =>
    rename_i wr
    obtain ⟨k, hk, rfl, hj, hb⟩ := hrel
    obtain ⟨wo, rfl⟩ : ∃ wo : World, wo = wr := ⟨_, rfl⟩
    have HJ2 := Lib.hid hj; have HB2 := Lib.hid hb
    by_cases hkm : k < m
    · have j1 : (k : Int) < (m : Int) := by omega
      have z0 := hj.wk.c0
      have zc := (hj.gr.row r hr).cell (i := c + k) (by omega)
      have zf := (hj.gr.row r hr).free (c + k)
      simp only [if_true] at zc
      rw [sclf_at] at zc
      have hd := HJ.out.gr.bm r (c + k)
      have hv := Gf.mul_lt hd hiv
      clear hj hb
      go_wp2_with fail
      refine (mul_nat fb (M r (c + k)) (ivN x) hd hiv _ HJ2.out.fi).mono ?_
      rintro e w2 ⟨rfl, q, hq⟩
      have hj3 : Job w2 B W fb G n (c + m) b (fun i j => if i = r then sclf (M r) (ivN x) c k j else M i j) := by rw [hq]; exact HJ2.out.drewN q
      have hb3 : Below B w w2 := by rw [hq]; exact below_dr HB2.out q
      have zc3 := (hj3.gr.row r hr).cell (i := c + k) (by omega)
      have zf3 := (hj3.gr.row r hr).free (c + k)
      have HJ3 := Lib.hid hj3; have HB3 := Lib.hid hb3
      clear hq hj3 hb3 z0 zc zf
      go_wp2_with fail
      go_roundw
      case rel => exact ⟨k + 1, by omega, by go_num, (HJ3.out.set hr (j := c + k) (by omega) hv).congr (HSM.out (k + 1)) (fun i j _ => by
        show (if i = r then (if j = c + k then _ else if r = r then sclf (M r) (ivN x) c k j else M r j) else if i = r then _ else M i j) = (if i = r then _ else _)
        by_cases e : i = r
        · rw [if_pos e, if_pos e, if_pos rfl]; exact sclf_s (M r) (ivN x) c k j
        · rw [if_neg e, if_neg e, if_neg e]), HB3.out.setCell (p := ⟨b r, c + k, none⟩) (HJ3.out.gr.lo.2 r hr) _⟩
      case measure => simp [intOf]; omega
    · obtain rfl : k = m := by omega
      have hS : ∃ S, S = fun j => Gf.mul (M r j) (ivN x) := ⟨_, rfl⟩
      obtain ⟨S, hS⟩ := hS
      have hSb : Pf.By S := by rw [hS]; exact fun j => Gf.mul_lt (HJ.out.gr.bm r j) hiv
      have hSu : Pf.Up S (c + k) := by rw [hS]; exact fun j hj => by show Gf.mul (M r j) _ = 0; rw [HJ.out.gr.up r hr j hj, Gf.zero_mul]
      have hSz : ∀ j, j < c → S j = 0 := by rw [hS]; exact fun j hj => by show Gf.mul (M r j) _ = 0; rw [HZ.out j hj, Gf.zero_mul]
      have hj4 : Job wo B W fb G n (c + k) b (ldk M S r c 0) := hj.congr (ldk_bm HJ.out.gr.bm hSb r c 0) fun i j _ => by
        unfold ldk
        by_cases e : i = r
        · rw [if_pos e, if_pos e, sclf_end HZ.out (HJ.out.gr.up r hr), hS]
        · rw [if_neg e, if_neg e, if_neg (by omega)]
      have HS := Lib.hid hS; have HSb := Lib.hid hSb; have HSu := Lib.hid hSu; have HSz := Lib.hid hSz; have HJ4 := Lib.hid hj4
      have z0 := hj.wk.c0; have z1 := hj.wk.c1
      clear hS hSb hSu hSz hj4 hj hb hkm
      go_wp2_with fail
      clear z0 z1
      go_loopw [57] (fun i wr => ∃ t : Nat, t ≤ n ∧ i = .int .i64 t ∧ Job wr B W fb G n (c + k) b (ldk M S r c t) ∧ Below B w wr) (fun i _ => n - (intOf i).toNat)
      case atStart => exact ⟨0, by omega, rfl, HJ4.out, HB2.out⟩
      case round =>
        rename_i wr
        obtain ⟨t, ht, rfl, hj, hb⟩ := hrel
        have HJ5 := Lib.hid hj; have HB5 := Lib.hid hb
        by_cases htn : t < n
        · have j1 : (t : Int) < (n : Int) := by omega
          have zt := hj.gr.cell htn
          have zc := (hj.gr.row t htn).cell (i := c) (by omega)
          by_cases htr : t = r
          · have hne := ne_no htr
            clear hj hb
            have HTR := Lib.hid htr; clear htr
            generalize ldk M S r c t t c = pt at zc
            go_wp2_with fail
            go_roundw
            case rel => exact ⟨t + 1, by omega, by go_num, HJ5.out.congr (ldk_bm HJ.out.gr.bm HSb.out r c (t + 1)) (fun i j _ => by rw [← HTR.out]; exact (ldk_r M S c t i j).symm), HB5.out⟩
            case measure => simp [intOf]; omega
          · rw [ldk_at M S htr] at zc
            have hne := ne_yes htr
            by_cases hp0 : M t c = 0
            · have hne2 : (((M t c : Nat) : Int) != 0) = false := by simp [hp0]
              have HP0 := Lib.hid hp0
              clear hj hb hp0 htr
              generalize M t c = pt at zc hne2
              go_wp2_with fail
              go_roundw
              case rel => exact ⟨t + 1, by omega, by go_num, HJ5.out.congr (ldk_bm HJ.out.gr.bm HSb.out r c (t + 1)) (fun i j _ => ldk_0 M S HP0.out i j), HB5.out⟩
              case measure => simp [intOf]; omega
            · have hne2 : (((M t c : Nat) : Int) != 0) = true := by simp; omega
              have hpl := HJ.out.gr.bm t c
              have HTR := Lib.hid htr
              clear hj hb hp0 htr
              obtain ⟨pt, hpt⟩ : ∃ pt, pt = M t c := ⟨_, rfl⟩
              rw [← hpt] at zc hne2 hpl
              have HPT := Lib.hid hpt; clear hpt
              go_wp2_with fail
              refine (wadd_any W fb (b t) (b r) n n c k pt _ (M t) S _ HJ5.out.wk HJ5.out.fi ((HJ5.out.gr.row t htn).congr fun j _ => ldk_at M S HTR.out j) ((HJ5.out.gr.row r hr).congr fun j _ => ldk_row M S r c t j) (HJ.out.gr.bm t) HSb.out (fun e => HTR.out (HJ5.out.gr.inj t r htn hr e)) (HJ5.out.fB t htn) hpl hcm).mono ?_
              rintro e w2 ⟨rfl, hg, hbl⟩
              have hbl2 := hbl.congr (h' := fun j => M t j ^^^ Gf.mul (S j) (M t c)) fun j _ => by rw [addf_all HSz.out HSu.out, HPT.out]
              have hxb : Pf.By (fun j => M t j ^^^ Gf.mul (S j) (M t c)) := fun j => Gf.xor_lt (HJ.out.gr.bm t j) (Gf.mul_lt (HSb.out j) (HJ.out.gr.bm t c))
              have hxu : Pf.Up (fun j => M t j ^^^ Gf.mul (S j) (M t c)) (c + k) := fun j hj => by
                show M t j ^^^ Gf.mul (S j) (M t c) = 0
                rw [HJ.out.gr.up t htn j hj, HSu.out j hj, Gf.zero_mul]; rfl
              have HJ6 := Lib.hid ((HJ5.out.rowset htn hg hbl2 hxb hxu).congr (ldk_bm HJ.out.gr.bm HSb.out r c (t + 1)) (fun i j _ => ldk_s M S HTR.out i j))
              have HB6 := Lib.hid (HB5.out.grown hg (Nat.le_trans hB HB5.out.size) (fun g e => by cases e; exact HJ5.out.gr.lo.2 t htn))
              clear hg hbl hbl2 hxb hxu
              go_wp2_with fail
              go_roundw
              case rel => exact ⟨t + 1, by omega, by go_num, HJ6.out, HB6.out⟩
              case measure => simp [intOf]; omega
        · obtain rfl : t = n := by omega
          clear hj hb
          go_wp2
          go_end0
          refine ⟨rfl, HJ5.out.congr (Mt.ldd_bm HJ.out.gr.bm r c) (fun i j hi => ?_), HB5.out⟩
          unfold ldk Mt.ldd
          rw [HS.out, HXE.out, ivN_iv]
          by_cases e : i = r
          · rw [if_pos e, if_pos e]
          · rw [if_neg e, if_neg e, if_pos hi]
end Go.Proofs.YtkejabhjlflknaaGreat

namespace Go.Proofs.YtkejabhjlflknaaGreat
open Go.RowKit Go.Shelf

/-- two rows in each other's place. -/
theorem Gr.swap {w : World} {B G n cap wi : Nat} {b : Nat → Nat} {M : Nat → Nat → Nat} (h : Gr w B G n cap b (fun _ => wi) (fun _ => wi) M) {p l : Nat} (hp : p < n) (hl : l < n) :
    Gr ((w.setCell ⟨G, l, none⟩ (.slice (some ⟨b p, 0, none⟩) wi wi)).setCell ⟨G, p, none⟩ (.slice (some ⟨b l, 0, none⟩) wi wi)) B G n cap (fun i => b (Mt.tau p l i)) (fun _ => wi) (fun _ => wi) (Mt.swp M p l) := by
  obtain ⟨vs, h1, h2, h3⟩ := h.blk
  have k1 := heap_setCell_same w G l vs 50 (.slice (some ⟨b p, 0, none⟩) wi wi) h1
  have k2 := heap_setCell_same (w.setCell ⟨G, l, none⟩ (.slice (some ⟨b p, 0, none⟩) wi wi)) G p _ 50 (.slice (some ⟨b l, 0, none⟩) wi wi) k1
  have hoth : ∀ k, k ≠ G → ((w.setCell ⟨G, l, none⟩ (.slice (some ⟨b p, 0, none⟩) wi wi)).setCell ⟨G, p, none⟩ (.slice (some ⟨b l, 0, none⟩) wi wi)).heap[k]? = w.heap[k]? := fun k hk =>
    (Below.heap_setCell _ ⟨G, p, none⟩ _ k hk).trans (Below.heap_setCell _ ⟨G, l, none⟩ _ k hk)
  have hs := h.nc.1
  refine ⟨⟨_, k2, by simpa using h2, fun i hi => ?_⟩, fun i hi => ?_, h.lc, h.nc, ⟨h.lo.1, fun i hi => h.lo.2 _ (Mt.tau_lt hp hl hi)⟩, fun i j hi hj e => ?_, Mt.swp_bm h.bm p l, fun i hi j hj => by rw [Mt.swp_tau]; exact h.up _ (Mt.tau_lt hp hl hi) j hj⟩
  · rw [Array.getElem?_setIfInBounds, Array.getElem?_setIfInBounds, Array.size_setIfInBounds]
    unfold Mt.tau
    by_cases e1 : p = i
    · subst e1
      rw [if_pos rfl, if_pos (by omega)]
      by_cases e2 : p = l
      · subst e2; rw [if_pos rfl]
      · rw [if_neg e2, if_pos rfl]
    · rw [if_neg e1]
      by_cases e2 : l = i
      · subst e2
        rw [if_pos rfl, if_pos (by omega), if_pos rfl]
      · rw [if_neg e2, if_neg (fun h => e2 h.symm), if_neg (fun h => e1 h.symm)]
        exact h3 i hi
  · have ht := Mt.tau_lt hp hl hi
    exact ((h.row _ ht).kept (hoth _ (h.ne ht))).congr fun j _ => by rw [Mt.swp_tau]
  · have := h.inj _ _ (Mt.tau_lt hp hl hi) (Mt.tau_lt hp hl hj) e
    rw [← Mt.tau_tau p l i, this, Mt.tau_tau]
theorem Job.swap {w : World} {B W fb G n wi : Nat} {b : Nat → Nat} {M : Nat → Nat → Nat} (h : Job w B W fb G n wi b M) {p l : Nat} (hp : p < n) (hl : l < n) :
    Job ((w.setCell ⟨G, l, none⟩ (.slice (some ⟨b p, 0, none⟩) wi wi)).setCell ⟨G, p, none⟩ (.slice (some ⟨b l, 0, none⟩) wi wi)) B W fb G n wi (fun i => b (Mt.tau p l i)) (Mt.swp M p l) := by
  have hoth : ∀ k, k ≠ G → ((w.setCell ⟨G, l, none⟩ (.slice (some ⟨b p, 0, none⟩) wi wi)).setCell ⟨G, p, none⟩ (.slice (some ⟨b l, 0, none⟩) wi wi)).heap[k]? = w.heap[k]? := fun k hk =>
    (Below.heap_setCell _ ⟨G, p, none⟩ _ k hk).trans (Below.heap_setCell _ ⟨G, l, none⟩ _ k hk)
  exact ⟨h.wk.kept (hoth _ (h.wk.ne_gr h.gr)), fun j hj => ⟨(World.cell?_of_block (a := ⟨fb, j, none⟩) (hoth fb h.fG)).trans (h.fi j hj).1, (World.frozen?_of_block (a := ⟨fb, j, none⟩) (hoth fb h.fG)).trans (h.fi j hj).2⟩, h.gr.swap hp hl, h.fG, fun i hi => h.fB _ (Mt.tau_lt hp hl hi)⟩

set_option maxHeartbeats 2000000 in
set_option maxRecDepth 100000 in
theorem raise_no (B W fb G n wi l c : Nat) (b : Nat → Nat) (M : Nat → Nat → Nat) (w : World) (hJ : Job w B W fb G n wi b M) (hl : l ≤ n) (hc : c < wi) (hp : ∀ j, l ≤ j → j < n → M j c = 0) (hn : n ≤ 1000000) (_hw : wi ≤ 1000000) :
    Calls Tryz.prog 145 #[.pointer (some ⟨W, 0, none⟩), .int .i64 (l : Nat), .int .i64 (c : Nat)] w fun e w' => e = .returned (.bool false) ∧ w' = w := by
  have HJ := Lib.hid hJ; have HP := Lib.hid hp
  have z1 := hJ.wk.c1
  clear hJ hp
  go_enter Tryz.func145, Tryz.ntmps145
  go_wp2_with fail
  go_loop [7] (fun i => ∃ k : Nat, l ≤ k ∧ k ≤ n ∧ i = .int .i64 k) (fun i => n - (intOf i).toNat)
  case atStart => exact ⟨l, by omega, hl, rfl⟩
  case round =>
    obtain ⟨k, hk1, hk, rfl⟩ := hrel
    by_cases hkn : k < n
    · have i1 : (k : Int) < (n : Int) := by omega
      have i2 : (c : Int) < (wi : Int) := by omega
      have zk := HJ.out.gr.cell hkn
      have zc := (HJ.out.gr.row k hkn).cell hc
      rw [HP.out k hk1 hkn] at zc
      go_wp2_with fail
      go_round
      case rel => exact ⟨k + 1, by omega, by omega, by go_num⟩
      case measure => simp [intOf]; omega
    · obtain rfl : k = n := by omega
      go_wp2
      go_ret
      exact ⟨rfl, rfl⟩

set_option maxHeartbeats 4000000 in
set_option maxRecDepth 100000 in
theorem raise_yes (B W fb G n wi l p c : Nat) (b : Nat → Nat) (M : Nat → Nat → Nat) (w : World) (hJ : Job w B W fb G n wi b M) (hlp : l ≤ p) (hpn : p < n) (hc : c < wi) (hp : ∀ j, l ≤ j → j < p → M j c = 0) (h0 : M p c ≠ 0) (hn : n ≤ 1000000) (_hw : wi ≤ 1000000) :
    Calls Tryz.prog 145 #[.pointer (some ⟨W, 0, none⟩), .int .i64 (l : Nat), .int .i64 (c : Nat)] w fun e w' => e = .returned (.bool true) ∧ Job w' B W fb G n wi (fun i => b (Mt.tau p l i)) (Mt.swp M p l) ∧ Below B w w' := by
  have HJ := Lib.hid hJ; have HP := Lib.hid hp; have H0 := Lib.hid h0
  have z1 := hJ.wk.c1
  clear hJ hp h0
  go_enter Tryz.func145, Tryz.ntmps145
  go_wp2_with fail
  go_loop [7] (fun i => ∃ k : Nat, l ≤ k ∧ k ≤ p ∧ i = .int .i64 k) (fun i => n - (intOf i).toNat)
  case atStart => exact ⟨l, by omega, hlp, rfl⟩
  case round =>
    obtain ⟨k, hk1, hk, rfl⟩ := hrel
    have hkn : k < n := by omega
    have i1 : (k : Int) < (n : Int) := by omega
    have i2 : (c : Int) < (wi : Int) := by omega
    have zk := HJ.out.gr.cell hkn
    have zc := (HJ.out.gr.row k hkn).cell hc
    by_cases hkp : k < p
    · rw [HP.out k hk1 hkp] at zc
      go_wp2_with fail
      go_round
      case rel => exact ⟨k + 1, by omega, by omega, by go_num⟩
      case measure => simp [intOf]; omega
    · obtain rfl : k = p := by omega
      have hne : (((M k c : Nat) : Int) != 0) = true := by have := H0.out; simp; omega
      have i3 : (l : Int) < (n : Int) := by omega
      have zl := HJ.out.gr.cell (i := l) (by omega)
      have fk := HJ.out.gr.free k
      have fl := HJ.out.gr.free l
      generalize M k c = pt at zc hne
      go_wp2_with fail
      clear zc
      by_cases hlk : l = k
      · subst hlk
        go_region
        go_wp2
        go_ret
        exact ⟨rfl, (HJ.out.swap hkn (by omega)).drewN 1, (((Below.refl B w).setCell (p := ⟨G, l, none⟩) HJ.out.gr.lo.1 _).setCell (p := ⟨G, _, none⟩) HJ.out.gr.lo.1 _).drew⟩
      · go_region
        go_wp2
        go_ret
        exact ⟨rfl, (HJ.out.swap hkn (by omega)).drewN 1, (((Below.refl B w).setCell (p := ⟨G, l, none⟩) HJ.out.gr.lo.1 _).setCell (p := ⟨G, _, none⟩) HJ.out.gr.lo.1 _).drew⟩
end Go.Proofs.YtkejabhjlflknaaGreat

namespace Go.Proofs.YtkejabhjlflknaaGreat
open Go.RowKit Go.Shelf

theorem lead_at (B W fb G n c wi r : Nat) (b : Nat → Nat) (M : Nat → Nat → Nat) (w : World) (hJ : Job w B W fb G n wi b M) (hr : r < n) (hc : c < wi) (h0 : M r c ≠ 0) (hz : ∀ j, j < c → M r j = 0) (hB : B ≤ w.heap.size) (hn : n ≤ 1000000) (hcm : wi ≤ 1000000) :
    Calls Tryz.prog 146 #[.pointer (some ⟨W, 0, none⟩), .int .i64 (r : Nat), .int .i64 (c : Nat)] w fun e w' => e = .returned (.tuple #[]) ∧ Job w' B W fb G n wi b (Mt.ldd M r c) ∧ Below B w w' := by
  obtain ⟨m, rfl⟩ : ∃ m, wi = c + m := ⟨wi - c, by omega⟩
  exact lead_any B W fb G n c m r b M w hJ hr (by omega) h0 hz hB hn hcm

set_option maxHeartbeats 2000000 in
set_option maxRecDepth 100000 in
theorem reduce_any (B W fb G n wi cols : Nat) (b : Nat → Nat) (M : Nat → Nat → Nat) (w : World) (hJ : Job w B W fb G n wi b M) (hcw : cols ≤ wi) (hB : B ≤ w.heap.size) (hn : n ≤ 1000000) (hw : wi ≤ 1000000) :
    Calls Tryz.prog 135 #[.pointer (some ⟨W, 0, none⟩), .int .i64 (cols : Nat)] w fun e w' => e = .returned (.int .i64 ((Mt.gj n M cols).1 : Nat)) ∧ (∃ b', Job w' B W fb G n wi b' (Mt.gj n M cols).2) ∧ Below B w w' := by
  have HJ := Lib.hid hJ; clear hJ
  have HM := Lib.hid HJ.out.gr.bm
  have hBr := Below.refl B w
  have HBr := Lib.hid hBr; clear hBr
  go_enter Tryz.func135, Tryz.ntmps135
  go_wp2_with fail
  go_loopw [5, 8] (fun t i wr => ∃ c : Nat, c ≤ cols ∧ i = .int .i64 c ∧ t = .int .i64 ((Mt.gj n M c).1 : Nat) ∧ (∃ b', Job wr B W fb G n wi b' (Mt.gj n M c).2) ∧ Below B w wr) (fun _ i _ => cols - (intOf i).toNat)
  case atStart => exact ⟨0, by omega, rfl, rfl, ⟨b, HJ.out⟩, HBr.out⟩
  case round =>
    rename_i wr
    obtain ⟨c, hc, rfl, rfl, ⟨b', hj⟩, hb⟩ := hrel
    have HE := Lib.hid (Mt.gj_ech HM.out n c)
    have HN := Lib.hid (show Mt.gj n M (c + 1) = Mt.stp n c (Mt.gj n M c) from rfl)
    have HJ2 := Lib.hid hj; have HB2 := Lib.hid hb
    clear hj hb
    by_cases hcc : c < cols
    · have j1 : (c : Int) < (cols : Int) := by omega
      generalize Mt.gj n M c = s at *
      have hlh := HE.out.lh
      obtain ⟨p1, p2, p3, p4⟩ := Mt.pv_spec (f := fun i => s.2 i c) hlh
      have hlc := HE.out.lc
      by_cases hpn : Mt.pv (fun i => s.2 i c) s.1 n = n
      · have HS := Lib.hid (HN.out.trans (Mt.stp_no hpn))
        have HP3 := Lib.hid p3
        rw [hpn] at HP3
        clear p1 p2 p3 p4 hpn
        go_wp2_with fail
        refine (raise_no B W fb G n wi s.1 c b' s.2 _ HJ2.out hlh (by omega) HP3.out hn hw).mono ?_
        rintro e w' ⟨rfl, rfl⟩
        go_wp2_with fail
        go_roundw
        case rel => exact ⟨c + 1, by omega, by go_num, by rw [HS.out], ⟨b', by rw [HS.out]; exact HJ2.out⟩, HB2.out⟩
        case measure => simp [intOf]; omega
      · have HS := Lib.hid (HN.out.trans (Mt.stp_yes rfl hpn))
        generalize Mt.pv (fun i => s.2 i c) s.1 n = p at *
        have HP0 := Lib.hid (show s.2 p c ≠ 0 from by rcases p4 with h | h; exact absurd h hpn; exact h)
        have HP3 := Lib.hid p3
        have hpn2 : p < n := by omega
        clear p3 p4 hpn p2
        go_wp2_with fail
        refine (raise_yes B W fb G n wi s.1 p c b' s.2 _ HJ2.out p1 hpn2 (by omega) HP3.out HP0.out hn hw).mono ?_
        rintro e w2 ⟨rfl, hj3, hb3⟩
        have HJ3 := Lib.hid hj3; have HB3 := Lib.hid (HB2.out.trans hb3)
        clear hj3 hb3
        go_wp2_with fail
        refine (lead_at B W fb G n c wi s.1 _ _ _ HJ3.out (by omega) (by omega) (by unfold Mt.swp; rw [if_pos rfl]; exact HP0.out) (fun j hj => by unfold Mt.swp; rw [if_pos rfl]; exact HE.out.low p j p1 hpn2 hj) (Nat.le_trans hB HB3.out.size) hn hw).mono ?_
        rintro e w4 ⟨rfl, hj4, hb4⟩
        have HJ4 := Lib.hid hj4; have HB4 := Lib.hid (HB3.out.trans hb4)
        clear hj4 hb4
        go_wp2_with fail
        go_roundw
        case rel => exact ⟨c + 1, by omega, by go_num, by rw [HS.out]; go_num, ⟨_, by rw [HS.out]; exact HJ4.out⟩, HB4.out⟩
        case measure => simp [intOf]; omega
    · obtain rfl : c = cols := by omega
      go_wp2
      go_ret
      exact ⟨rfl, ⟨b', HJ2.out⟩, HB2.out⟩
end Go.Proofs.YtkejabhjlflknaaGreat
