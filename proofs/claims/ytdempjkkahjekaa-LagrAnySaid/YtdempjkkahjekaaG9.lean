import Derived.Test.YtdempjkkahjekaaG8
namespace Go.Proofs.Ytdempjkkahjekaa
open Go.RowKit Go.Shelf

theorem lead_at (B W fb G n c wi r : Nat) (b : Nat → Nat) (M : Nat → Nat → Nat) (w : World) (hJ : Job w B W fb G n wi b M) (hr : r < n) (hc : c < wi) (h0 : M r c ≠ 0) (hz : ∀ j, j < c → M r j = 0) (hB : B ≤ w.heap.size) (hn : n ≤ 1000000) (hcm : wi ≤ 1000000) :
    Calls Try.prog 68 #[.pointer (some ⟨W, 0, none⟩), .int .i64 (r : Nat), .int .i64 (c : Nat)] w fun e w' => e = .returned (.tuple #[]) ∧ Job w' B W fb G n wi b (Mt.ldd M r c) ∧ Below B w w' := by
  obtain ⟨m, rfl⟩ : ∃ m, wi = c + m := ⟨wi - c, by omega⟩
  exact lead_any B W fb G n c m r b M w hJ hr (by omega) h0 hz hB hn hcm

set_option maxHeartbeats 2000000 in
set_option maxRecDepth 100000 in
theorem reduce_any (B W fb G n wi cols : Nat) (b : Nat → Nat) (M : Nat → Nat → Nat) (w : World) (hJ : Job w B W fb G n wi b M) (hcw : cols ≤ wi) (hB : B ≤ w.heap.size) (hn : n ≤ 1000000) (hw : wi ≤ 1000000) :
    Calls Try.prog 38 #[.pointer (some ⟨W, 0, none⟩), .int .i64 (cols : Nat)] w fun e w' => e = .returned (.int .i64 ((Mt.gj n M cols).1 : Nat)) ∧ (∃ b', Job w' B W fb G n wi b' (Mt.gj n M cols).2) ∧ Below B w w' := by
  have HJ := Lib.hid hJ; clear hJ
  have HM := Lib.hid HJ.out.gr.bm
  have hBr := Below.refl B w
  have HBr := Lib.hid hBr; clear hBr
  go_enter Try.func38, Try.ntmps38
  go_wp2_with fail
  go_loopw [5, 8] (fun t i wr => ∃ c : Nat, c ≤ cols ∧ i = .int .i64 c ∧ t = .int .i64 ((Mt.gj n M c).1 : Nat) ∧ (∃ b', Job wr B W fb G n wi b' (Mt.gj n M c).2) ∧ Below B w wr) (fun _ i _ => cols - (intOf i).toNat)
  case atStart => exact ⟨0, by omega, rfl, rfl, ⟨b, HJ.out⟩, HBr.out⟩
  case round =>
    rename_i wr
    obtain ⟨c, hc, rfl, rfl, ⟨b', hj⟩, hb⟩ := hrel
    have HE := Lib.hid (Mt.gj_ech HM.out n c)
    have HN := Lib.hid (show Mt.gj n M (c + 1) = Mt.stp n c (Mt.gj n M c) from rfl)
    have HJ2 := Lib.hid hj; have HB2 := Lib.hid hb
    clear hj hb
    by_cases hcc : c < cols
    · have j1 : (c : Int) < (cols : Int) := by omega
      generalize Mt.gj n M c = s at *
      have hlh := HE.out.lh
      obtain ⟨p1, p2, p3, p4⟩ := Mt.pv_spec (f := fun i => s.2 i c) hlh
      have hlc := HE.out.lc
      by_cases hpn : Mt.pv (fun i => s.2 i c) s.1 n = n
      · have HS := Lib.hid (HN.out.trans (Mt.stp_no hpn))
        have HP3 := Lib.hid p3
        rw [hpn] at HP3
        clear p1 p2 p3 p4 hpn
        go_wp2_with fail
        refine (raise_no B W fb G n wi s.1 c b' s.2 _ HJ2.out hlh (by omega) HP3.out hn hw).mono ?_
        rintro e w' ⟨rfl, rfl⟩
        go_wp2_with fail
        go_roundw
        case rel => exact ⟨c + 1, by omega, by go_num, by rw [HS.out], ⟨b', by rw [HS.out]; exact HJ2.out⟩, HB2.out⟩
        case measure => simp [intOf]; omega
      · have HS := Lib.hid (HN.out.trans (Mt.stp_yes rfl hpn))
        generalize Mt.pv (fun i => s.2 i c) s.1 n = p at *
        have HP0 := Lib.hid (show s.2 p c ≠ 0 from by rcases p4 with h | h; exact absurd h hpn; exact h)
        have HP3 := Lib.hid p3
        have hpn2 : p < n := by omega
        clear p3 p4 hpn p2
        go_wp2_with fail
        refine (raise_yes B W fb G n wi s.1 p c b' s.2 _ HJ2.out p1 hpn2 (by omega) HP3.out HP0.out hn hw).mono ?_
        rintro e w2 ⟨rfl, hj3, hb3⟩
        have HJ3 := Lib.hid hj3; have HB3 := Lib.hid (HB2.out.trans hb3)
        clear hj3 hb3
        go_wp2_with fail
        refine (lead_at B W fb G n c wi s.1 _ _ _ HJ3.out (by omega) (by omega) (by unfold Mt.swp; rw [if_pos rfl]; exact HP0.out) (fun j hj => by unfold Mt.swp; rw [if_pos rfl]; exact HE.out.low p j p1 hpn2 hj) (Nat.le_trans hB HB3.out.size) hn hw).mono ?_
        rintro e w4 ⟨rfl, hj4, hb4⟩
        have HJ4 := Lib.hid hj4; have HB4 := Lib.hid (HB3.out.trans hb4)
        clear hj4 hb4
        go_wp2_with fail
        go_roundw
        case rel => exact ⟨c + 1, by omega, by go_num, by rw [HS.out]; go_num, ⟨_, by rw [HS.out]; exact HJ4.out⟩, HB4.out⟩
        case measure => simp [intOf]; omega
    · obtain rfl : c = cols := by omega
      go_wp2
      go_ret
      exact ⟨rfl, ⟨b', HJ2.out⟩, HB2.out⟩
end Go.Proofs.Ytdempjkkahjekaa
