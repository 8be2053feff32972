import Derived.Test.YtdempjkkahjekaaV6
import Derived.Test.YtdempjkkahjekaaHp
namespace Go.Proofs.Ytdempjkkahjekaa
open Go.RowKit Go.Shelf

set_option maxHeartbeats 4000000 in
set_option maxRecDepth 100000 in
theorem rTable_no (k n : Int) (h : k < 1 ∨ n < k ∨ 255 < n) (w : World) :
    Calls Try.prog 19 #[.int .i64 k, .int .i64 n] w fun e w' => e = .returned (.tuple #[.slice none 0 0, .int .i64 2]) ∧ Below w.heap.size w w' := by
  by_cases h1 : k < 1
  · clear h
    go_enter Try.func19, Try.ntmps19
    go_wp2
    go_ret2
    exact ⟨rfl, Below.refl _ _⟩
  · by_cases h2 : n < k
    · clear h
      go_enter Try.func19, Try.ntmps19
      go_wp2
      go_ret2
      exact ⟨rfl, Below.refl _ _⟩
    · have h3 : 255 < n := by omega
      clear h
      go_enter Try.func19, Try.ntmps19
      go_wp2
      go_ret2
      exact ⟨rfl, Below.refl _ _⟩

/-- the first K bytes, and no more. -/
def idk (K i : Nat) : Nat := if i < K then i else 0
theorem idk_by {K : Nat} (h : K ≤ 256) : Pf.By (idk K) := fun i => by unfold idk; split <;> omega
theorem idk_up (K : Nat) : Pf.Up (idk K) K := fun i hi => by unfold idk; rw [if_neg (by omega)]
theorem idk_idn {K : Nat} (h : K ≤ 256) (x : Nat) : Pf.lw (idk K) K x = Pf.lw Pf.idn K x := Pf.lw_congr (fun j hj => by unfold idk; rw [if_pos hj, Pf.idn_at (by omega)]) x
theorem idk_dst {K : Nat} : Pf.Dst (idk K) K := fun i j hi hj => by unfold idk; rw [if_pos (by omega), if_pos hj]; omega

/-- what the document's Table answers. -/
def TabR (w : World) (N K : Nat) (e : Ending) (w' : World) : Prop :=
  ∃ a cap b c, e = .returned (.tuple #[.slice a N cap, .int .i64 0]) ∧ Go_ w' w.heap.size a N cap b (fun _ => K) c (Pf.tbl K) ∧ Below w.heap.size w w'

set_option maxHeartbeats 4000000 in
set_option maxRecDepth 100000 in
theorem rTable_yes (K N : Nat) (h1 : 1 ≤ K) (h2 : K ≤ N) (h3 : N ≤ 255) (w : World) :
    Calls Try.prog 19 #[.int .i64 (K : Nat), .int .i64 (N : Nat)] w (TabR w N K) := by
  obtain ⟨i0, hi, hz0, hz1, hz2⟩ := info_parts Try.infoU8
  have HI := Lib.hid hi; have HZ0 := Lib.hid hz0; have HZ1 := Lib.hid hz1; have HZ2 := Lib.hid hz2
  obtain ⟨i1, hi', hz0', hz1', hz2'⟩ := info_parts Try.infoRow
  have HI' := Lib.hid hi'; have HZ0' := Lib.hid hz0'; have HZ1' := Lib.hid hz1'; have HZ2' := Lib.hid hz2'
  clear hi hz0 hz1 hz2 hi' hz0' hz1' hz2'
  have g1 : ¬ (K : Int) < 1 := by omega
  have g2 : ¬ (N : Int) < (K : Int) := by omega
  have g3 : ¬ 255 < (N : Int) := by omega
  go_enter Try.func19, Try.ntmps19
  go_wp2_with fail
  clear g1 g2 g3
  go_loopw [6, 7] (fun o i wr => ∃ (k : Nat) (pa : Option Addr) (pc : Nat), k ≤ K ∧ i = .int .i64 k ∧ o = .slice pa k pc ∧ Rq wr w.heap.size pa k pc (idk K) ∧ Below w.heap.size w wr) (fun _ i _ => K - (intOf i).toNat)
  case atStart => exact ⟨0, none, 0, by omega, rfl, rfl, Or.inl ⟨rfl, rfl, rfl⟩, Below.refl _ _⟩
  case round =>
    obtain ⟨k, pa, pc, hk, rfl, rfl, hR, hB⟩ := hrel
    have HR := Lib.hid hR; have HB := Lib.hid hB
    have hsz := hB.size
    by_cases hlt : k < K
    · have i2 : (k : Int) < (K : Int) := by omega
      have hcv : IntKind.u8.wrap (k : Int) = (k : Int) := IntWalk.u8_in _ (by omega)
      have HRO := Lib.hid (HR.out.same ((Below.refl _ wr).alloc (Nat.le_refl _) (.cells #[.int .u8 (k : Nat)] 5))).owns
      have hbb : w.heap.size ≤ (wr.alloc (.cells #[.int .u8 (k : Nat)] 5)).heap.size := by rw [World.size_alloc]; omega
      clear hR hB
      go_wp2_with (at_builtin; refine wpList_append_bag _ rfl _ _ 22 rfl w.heap.size 5 i0 (.int .u8 0) 1 Try.underlying22 HI.out HZ0.out HZ1.out HZ2.out rfl pa k pc _ rfl HRO.out _ 1 1 [.int .u8 (k : Nat)] rfl rfl (cell_new1 _ _ _) (one_single _ _) (by decide) (by unfold maxLen; omega) (by omega) hbb ?_; intro g6 c6 w6 hown6 hc6 hlt6; have HOWN6 := Lib.hid hown6; have HC6 := Lib.hid hc6; clear hown6 hc6 hlt6)
      have ho := HOWN6.out
      rw [show [Value.int .u8 ((k : Nat) : Int)] = [Value.int .u8 ((idk K k : Nat) : Int)] by unfold idk; rw [if_pos hlt], ← rowv_succ] at ho
      have hr6 := Rq.of_owns ho
      have hb6 := ((Below.refl w.heap.size wr).alloc hsz (.cells #[.int .u8 (k : Nat)] 5)).trans (bag_below HC6.out (hr6.lt g6 rfl).1 hbb)
      have HR7 := Lib.hid hr6; have HB7 := Lib.hid (HB.out.trans hb6)
      clear ho hr6 hb6 HOWN6 HC6
      go_wp2
      go_roundw
      case rel => exact ⟨k + 1, _, c6, by omega, by go_num, rfl, HR7.out, HB7.out⟩
      case measure => simp [intOf]; omega
    · obtain rfl : k = K := by omega
      obtain ⟨wo, rfl⟩ : ∃ wo : World, wo = wr := ⟨_, rfl⟩
      have hP := (HR.out.nw (idk_by (by omega)) (idk_up k)).sl
      have HP := Lib.hid hP
      clear hR hB hP hlt HR
      go_wp2_with fail
      go_loopw [8, 9] (fun o i wr => ∃ (t : Nat) (ta : Option Addr) (tc : Nat) (b c : Nat → Nat), t ≤ N ∧ i = .int .i64 t ∧ o = .slice ta t tc ∧ Pr wr wo.heap.size ta t tc b (fun _ => k) c (tbk k t) ∧ Below wo.heap.size wo wr) (fun _ i _ => N - (intOf i).toNat)
      case atStart => exact ⟨0, none, 0, _, _, by omega, rfl, rfl, (pr_none wo wo.heap.size (fun _ => 0) (fun _ => k) (fun _ => 0)).congr (fun _ _ => rfl) (fun _ _ => rfl) (tbk_bm k 0) (fun i j h => by omega), Below.refl _ _⟩
      case round =>
        obtain ⟨t, ta, tc, b, c, ht, rfl, rfl, hQ, hB2⟩ := hrel
        have HQ := Lib.hid hQ; have HB2 := Lib.hid hB2
        have hsz2 := hB2.size
        clear hQ hB2
        by_cases htn : t < N
        · have i2 : (t : Int) < (N : Int) := by omega
          have hcv : IntKind.u8.wrap (t : Int) = (t : Int) := IntWalk.u8_in _ (by omega)
          have HW := Lib.hid (rWeights_any pa k pc t (idk k) (by omega) (by omega) wr (HP.out.same HB2.out))
          go_wp2_with fail
          refine HW.out.mono ?_
          rw [show WgtSays wr k t (idk k) = fun e w' => (Pf.Dst (idk k) k ∧ GivesV wr k (Pf.lw Pf.idn k t) e w') ∨ (¬ Pf.Dst (idk k) k ∧ e = .returned (.tuple #[.slice none 0 0, .int .i64 9]) ∧ Below wr.heap.size wr w') by unfold WgtSays; rw [idk_idn (by omega)]]
          rintro e w3 (⟨_, ra, rc, rfl, hN, hB3⟩ | ⟨hnd, _⟩)
          · rcases hN.cond with ⟨_, h0, _⟩ | ⟨g, rfl, hg, hb⟩
            · omega
            have HN := Lib.hid hN; have HBL := Lib.hid hb; have HB3 := Lib.hid hB3
            have hal : Below w3.heap.size w3 (w3.alloc (.cells #[.slice (some ⟨g, 0, none⟩) k rc] 22)) := (Below.refl _ w3).alloc (Nat.le_refl _) _
            have HAL := Lib.hid hal
            have hs3 := hB3.size
            have hbb : wo.heap.size ≤ (w3.alloc (.cells #[.slice (some ⟨g, 0, none⟩) k rc] 22)).heap.size := by rw [World.size_alloc]; omega
            have HOW := Lib.hid (own_below HQ.out.own (HB3.out.trans (HAL.out.mono hs3)))
            clear hN hb hB3 hal
            go_wp2_with (at_builtin; refine wpList_append_bag _ rfl _ _ 33 rfl wo.heap.size 22 i1 (.slice none 0 0) 24 Try.underlying33 HI'.out HZ0'.out HZ1'.out HZ2'.out rfl ta t tc _ rfl HOW.out _ 1 1 [.slice (some ⟨g, 0, none⟩) k rc] rfl rfl (cell_new1 _ _ _) (by intro u hu; rcases List.mem_singleton.1 hu with rfl; rfl) (by decide) (by unfold maxLen; omega) (by omega) hbb ?_; intro g6 c6 w6 hown6 hc6 hlt6; have HOWN6 := Lib.hid hown6; have HC6 := Lib.hid hc6; clear hown6 hc6 hlt6)
            have hst := Pr.step HQ.out (HB3.out.trans (HAL.out.mono hs3)) (HBL.out.below HAL.out HBL.out.lt) hg hsz2 ⟨HN.out.sl.capOk, HN.out.sl.maxOk⟩ (Pf.lw_by Pf.idn_by k (by omega)) (Pf.lw_up k t) HOWN6.out HC6.out
            have hst2 := hst.congr (l' := fun _ => k) (c' := fun i => if i = t then rc else c i) (f' := tbk k (t + 1)) (fun i hi => by show (if i = t then k else k) = k; split <;> rfl) (fun i hi => rfl) (tbk_bm k (t + 1)) (fun i j hi => by
              show (if i = t then Pf.lw Pf.idn k t j else tbk k t i j) = tbk k (t + 1) i j
              unfold tbk
              by_cases e : i = t
              · subst e; rw [if_pos rfl, if_pos (by omega)]; unfold Pf.tbl; rw [Pf.idn_at (by omega)]
              · rw [if_neg e, if_pos (by omega), if_pos (by omega)])
            have hb6 := below_apn (B := wo.heap.size) (w0 := wo) (HB2.out.trans ((HB3.out.trans (HAL.out.mono hs3)).mono hsz2)) hbb HC6.out (fun g e => (HQ.out.own.lt g (by rw [e]; rfl)).1)
            have HST := Lib.hid hst2; have HB6 := Lib.hid hb6
            clear hst hst2 hb6 HOWN6 HC6
            go_wp2
            go_roundw
            case rel => exact ⟨t + 1, _, c6, _, _, by omega, by go_num, rfl, HST.out, HB6.out⟩
            case measure => simp [intOf]; omega
          · exact absurd idk_dst hnd
        · obtain rfl : t = N := by omega
          go_wp2
          go_ret2
          exact ⟨ta, tc, b, c, rfl, ((HQ.out.congr (l' := fun _ => k) (c' := c) (f' := Pf.tbl k) (fun _ _ => rfl) (fun _ _ => rfl) (Pf.tbl_bm k) (fun i j hi => by unfold tbk; rw [if_pos hi])).go).mono hsz, HB.out.trans (HB2.out.mono hsz)⟩
end Go.Proofs.Ytdempjkkahjekaa
