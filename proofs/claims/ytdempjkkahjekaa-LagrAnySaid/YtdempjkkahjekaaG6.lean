import Derived.Test.YtdempjkkahjekaaG5
import Derived.Test.YtdempjkkahjekaaRb
namespace Go.Proofs.Ytdempjkkahjekaa
open Go.RowKit Go.Shelf

theorem Wr.ne_bl {w : World} {W fb g n cap m k : Nat} {a : Option Addr} {h : Nat → Nat} (hW : Wr w W fb a n cap) (hb : Bl w g m k h) : W ≠ g := by
  rintro rfl
  obtain ⟨vs, h1, _⟩ := hb
  rw [show w.heap[W]? = _ from hW] at h1
  injection h1 with h1
  injection h1 with _ h2
  exact absurd h2 (by decide)
theorem Wr.ne_gr {w : World} {W fb G B n cap m k : Nat} {a : Option Addr} {b l c : Nat → Nat} {f : Nat → Nat → Nat} (hW : Wr w W fb a n cap) (hb : Gr w B G m k b l c f) : W ≠ G := by
  rintro rfl
  obtain ⟨vs, h1, _⟩ := hb.blk
  rw [show w.heap[W]? = _ from hW] at h1
  injection h1 with h1
  injection h1 with _ h2
  exact absurd h2 (by decide)
/-- a row to which a part of another one was added, at k places from c on. -/
def addf (F S : Nat → Nat) (p c k j : Nat) : Nat := if c ≤ j ∧ j < c + k then F j ^^^ Gf.mul (S j) p else F j
theorem addf_by {F S : Nat → Nat} {p : Nat} (hF : Pf.By F) (hS : Pf.By S) (hp : p < 256) (c k : Nat) : Pf.By (addf F S p c k) := fun j => by
  unfold addf; split
  · exact Gf.xor_lt (hF j) (Gf.mul_lt (hS j) hp)
  · exact hF j
theorem addf_s (F S : Nat → Nat) (p c k j : Nat) : (if j = c + k then addf F S p c k (c + k) ^^^ Gf.mul (S (c + k)) p else addf F S p c k j) = addf F S p c (k + 1) j := by
  unfold addf
  by_cases e : j = c + k
  · subst e; rw [if_pos rfl, if_neg (by omega), if_pos (by omega)]
  · rw [if_neg e]
    by_cases h : c ≤ j ∧ j < c + k
    · rw [if_pos h, if_pos (by omega)]
    · rw [if_neg h, if_neg (by omega)]
theorem addf_at (F S : Nat → Nat) (p c k : Nat) : addf F S p c k (c + k) = F (c + k) := if_neg (by omega)

set_option maxHeartbeats 1000000 in
set_option maxRecDepth 100000 in
theorem wadd_any (W fb g g2 n cap c m p : Nat) (a : Option Addr) (F S : Nat → Nat) (w : World) (hW : Wr w W fb a n cap) (hFi : IsField fb w) (hb : Bl w g (c + m) (c + m) F) (hb2 : Bl w g2 (c + m) (c + m) S) (hF : Pf.By F) (hS : Pf.By S) (hne : g ≠ g2) (hnf : fb ≠ g) (hp : p < 256) (hm : c + m ≤ 1000000) :
    Calls Try.prog 85 #[.pointer (some ⟨W, 0, none⟩), .slice (some ⟨g, c, none⟩) m m, .slice (some ⟨g2, c, none⟩) m m, .int .u8 (p : Nat)] w fun e w' => e = .returned (.tuple #[]) ∧ w.grownBy w' (some g) ∧ Bl w' g (c + m) (c + m) (addf F S p c m) := by
  have hWg := hW.ne_bl hb
  have HW := Lib.hid hW; have HFi := Lib.hid hFi; have HB := Lib.hid hb; have HB2 := Lib.hid hb2; have HBF := Lib.hid hF; have HBS := Lib.hid hS
  have HST := Lib.hid (hb.congr (h' := addf F S p c 0) fun j _ => by unfold addf; rw [if_neg (by omega)])
  clear hW hFi hb hb2 hF hS
  have hgr0 : w.grownBy w (some g) := ⟨rfl, rfl, rfl, Nat.le_refl _, fun _ _ _ => rfl⟩
  have HGR0 := Lib.hid hgr0; clear hgr0
  go_enter Try.func85, Try.ntmps85
  go_wp2_with fail
  go_loopw [12] (fun i wr => ∃ k : Nat, k ≤ m ∧ i = .int .i64 k ∧ Bl wr g (c + m) (c + m) (addf F S p c k) ∧ w.grownBy wr (some g)) (fun i _ => m - (intOf i).toNat)
  case atStart => exact ⟨0, by omega, rfl, HST.out, HGR0.out⟩
  case round =>
    rename_i wr
    obtain ⟨k, hk, rfl, hBl, hGr⟩ := hrel
    by_cases hkm : k < m
    · have i1 : (k : Int) < (m : Int) := by omega
      have c1 := hBl.cell (i := c + k) (by omega)
      have f1 := hBl.free (c + k)
      rw [addf_at] at c1
      have c2 := (HB2.out.kept (hGr.block g2 HB2.out.lt (by simpa using fun e => hne e.symm))).cell (i := c + k) (by omega)
      have z0 := (HW.out.kept (hGr.block W HW.out.lt (by simpa using hWg))).c0
      have HFi2 := Lib.hid (HFi.out.grown hGr (by simpa using hnf))
      have HBl := Lib.hid hBl; have HGr := Lib.hid hGr
      clear hBl hGr
      have d1 := HBF.out (c + k)
      have d2 := HBS.out (c + k)
      have d3 := Gf.mul_lt d2 hp
      have HS' := Lib.hid (fun j => addf_s F S p c k j)
      have HAT := Lib.hid (addf_at F S p c k)
      go_wp2_with fail
      refine Rb.wp_region_quiet_tail 15 (by kernel_rfl) (by kernel_rfl) ?_
      simp only [List.take_succ_cons, List.take_zero, List.drop_succ_cons, List.drop_zero]
      repeat (go_big_quiet_step ((first | (go_at_call 43; exact Calls.quiet_of (mul_nat fb (S (c + k)) p d2 hp _ (HFi2.out.drewN _))) | (go_at_call 24; exact Calls.quiet_of_same (add_nat (F (c + k)) (Gf.mul (S (c + k)) p) d1 d3 _)))))
      refine wpQuiet_nil ?_
      rintro _ ⟨k2, rfl⟩
      go_wp2_with fail
      go_roundw
      case rel => exact ⟨k + 1, by omega, by go_num, ((HBl.out.drewN k2).set (j := c + k) (by omega) _).congr (fun j _ => by rw [← HS'.out j, HAT.out]), by
        have h1 := HGr.out
        have h2 := grownSet (wr.drewN k2) g (c + k) (.int .u8 ((F (c + k) ^^^ Gf.mul (S (c + k)) p : Nat) : Int))
        exact ⟨h2.os.trans h1.os, h2.tape.trans h1.tape, h2.output.trans h1.output, Nat.le_trans h1.size h2.size, fun q hq hne => (h2.block q (Nat.lt_of_lt_of_le hq h1.size) hne).trans (h1.block q hq hne)⟩⟩
      case measure => simp [intOf]; omega
    · obtain rfl : k = m := by omega
      have HBl := Lib.hid hBl; have HGr := Lib.hid hGr
      clear hBl hGr
      go_wp2
      go_end0
      exact ⟨rfl, HGr.out, HBl.out⟩
end Go.Proofs.Ytdempjkkahjekaa
