import Derived.Test.YtdempjkkahjekaaG7
namespace Go.Proofs.Ytdempjkkahjekaa
open Go.RowKit Go.Shelf

/-- two rows in each other's place. -/
theorem Gr.swap {w : World} {B G n cap wi : Nat} {b : Nat → Nat} {M : Nat → Nat → Nat} (h : Gr w B G n cap b (fun _ => wi) (fun _ => wi) M) {p l : Nat} (hp : p < n) (hl : l < n) :
    Gr ((w.setCell ⟨G, l, none⟩ (.slice (some ⟨b p, 0, none⟩) wi wi)).setCell ⟨G, p, none⟩ (.slice (some ⟨b l, 0, none⟩) wi wi)) B G n cap (fun i => b (Mt.tau p l i)) (fun _ => wi) (fun _ => wi) (Mt.swp M p l) := by
  obtain ⟨vs, h1, h2, h3⟩ := h.blk
  have k1 := heap_setCell_same w G l vs 22 (.slice (some ⟨b p, 0, none⟩) wi wi) h1
  have k2 := heap_setCell_same (w.setCell ⟨G, l, none⟩ (.slice (some ⟨b p, 0, none⟩) wi wi)) G p _ 22 (.slice (some ⟨b l, 0, none⟩) wi wi) k1
  have hoth : ∀ k, k ≠ G → ((w.setCell ⟨G, l, none⟩ (.slice (some ⟨b p, 0, none⟩) wi wi)).setCell ⟨G, p, none⟩ (.slice (some ⟨b l, 0, none⟩) wi wi)).heap[k]? = w.heap[k]? := fun k hk =>
    (Below.heap_setCell _ ⟨G, p, none⟩ _ k hk).trans (Below.heap_setCell _ ⟨G, l, none⟩ _ k hk)
  have hs := h.nc.1
  refine ⟨⟨_, k2, by simpa using h2, fun i hi => ?_⟩, fun i hi => ?_, h.lc, h.nc, ⟨h.lo.1, fun i hi => h.lo.2 _ (Mt.tau_lt hp hl hi)⟩, fun i j hi hj e => ?_, Mt.swp_bm h.bm p l, fun i hi j hj => by rw [Mt.swp_tau]; exact h.up _ (Mt.tau_lt hp hl hi) j hj⟩
  · rw [Array.getElem?_setIfInBounds, Array.getElem?_setIfInBounds, Array.size_setIfInBounds]
    unfold Mt.tau
    by_cases e1 : p = i
    · subst e1
      rw [if_pos rfl, if_pos (by omega)]
      by_cases e2 : p = l
      · subst e2; rw [if_pos rfl]
      · rw [if_neg e2, if_pos rfl]
    · rw [if_neg e1]
      by_cases e2 : l = i
      · subst e2
        rw [if_pos rfl, if_pos (by omega), if_pos rfl]
      · rw [if_neg e2, if_neg (fun h => e2 h.symm), if_neg (fun h => e1 h.symm)]
        exact h3 i hi
  · have ht := Mt.tau_lt hp hl hi
    exact ((h.row _ ht).kept (hoth _ (h.ne ht))).congr fun j _ => by rw [Mt.swp_tau]
  · have := h.inj _ _ (Mt.tau_lt hp hl hi) (Mt.tau_lt hp hl hj) e
    rw [← Mt.tau_tau p l i, this, Mt.tau_tau]
theorem Job.swap {w : World} {B W fb G n wi : Nat} {b : Nat → Nat} {M : Nat → Nat → Nat} (h : Job w B W fb G n wi b M) {p l : Nat} (hp : p < n) (hl : l < n) :
    Job ((w.setCell ⟨G, l, none⟩ (.slice (some ⟨b p, 0, none⟩) wi wi)).setCell ⟨G, p, none⟩ (.slice (some ⟨b l, 0, none⟩) wi wi)) B W fb G n wi (fun i => b (Mt.tau p l i)) (Mt.swp M p l) := by
  have hoth : ∀ k, k ≠ G → ((w.setCell ⟨G, l, none⟩ (.slice (some ⟨b p, 0, none⟩) wi wi)).setCell ⟨G, p, none⟩ (.slice (some ⟨b l, 0, none⟩) wi wi)).heap[k]? = w.heap[k]? := fun k hk =>
    (Below.heap_setCell _ ⟨G, p, none⟩ _ k hk).trans (Below.heap_setCell _ ⟨G, l, none⟩ _ k hk)
  exact ⟨h.wk.kept (hoth _ (h.wk.ne_gr h.gr)), fun j hj => ⟨(World.cell?_of_block (a := ⟨fb, j, none⟩) (hoth fb h.fG)).trans (h.fi j hj).1, (World.frozen?_of_block (a := ⟨fb, j, none⟩) (hoth fb h.fG)).trans (h.fi j hj).2⟩, h.gr.swap hp hl, h.fG, fun i hi => h.fB _ (Mt.tau_lt hp hl hi)⟩

set_option maxHeartbeats 2000000 in
set_option maxRecDepth 100000 in
theorem raise_no (B W fb G n wi l c : Nat) (b : Nat → Nat) (M : Nat → Nat → Nat) (w : World) (hJ : Job w B W fb G n wi b M) (hl : l ≤ n) (hc : c < wi) (hp : ∀ j, l ≤ j → j < n → M j c = 0) (hn : n ≤ 1000000) (_hw : wi ≤ 1000000) :
    Calls Try.prog 67 #[.pointer (some ⟨W, 0, none⟩), .int .i64 (l : Nat), .int .i64 (c : Nat)] w fun e w' => e = .returned (.bool false) ∧ w' = w := by
  have HJ := Lib.hid hJ; have HP := Lib.hid hp
  have z1 := hJ.wk.c1
  clear hJ hp
  go_enter Try.func67, Try.ntmps67
  go_wp2_with fail
  go_loop [7] (fun i => ∃ k : Nat, l ≤ k ∧ k ≤ n ∧ i = .int .i64 k) (fun i => n - (intOf i).toNat)
  case atStart => exact ⟨l, by omega, hl, rfl⟩
  case round =>
    obtain ⟨k, hk1, hk, rfl⟩ := hrel
    by_cases hkn : k < n
    · have i1 : (k : Int) < (n : Int) := by omega
      have i2 : (c : Int) < (wi : Int) := by omega
      have zk := HJ.out.gr.cell hkn
      have zc := (HJ.out.gr.row k hkn).cell hc
      rw [HP.out k hk1 hkn] at zc
      go_wp2_with fail
      go_round
      case rel => exact ⟨k + 1, by omega, by omega, by go_num⟩
      case measure => simp [intOf]; omega
    · obtain rfl : k = n := by omega
      go_wp2
      go_ret
      exact ⟨rfl, rfl⟩

set_option maxHeartbeats 4000000 in
set_option maxRecDepth 100000 in
theorem raise_yes (B W fb G n wi l p c : Nat) (b : Nat → Nat) (M : Nat → Nat → Nat) (w : World) (hJ : Job w B W fb G n wi b M) (hlp : l ≤ p) (hpn : p < n) (hc : c < wi) (hp : ∀ j, l ≤ j → j < p → M j c = 0) (h0 : M p c ≠ 0) (hn : n ≤ 1000000) (_hw : wi ≤ 1000000) :
    Calls Try.prog 67 #[.pointer (some ⟨W, 0, none⟩), .int .i64 (l : Nat), .int .i64 (c : Nat)] w fun e w' => e = .returned (.bool true) ∧ Job w' B W fb G n wi (fun i => b (Mt.tau p l i)) (Mt.swp M p l) ∧ Below B w w' := by
  have HJ := Lib.hid hJ; have HP := Lib.hid hp; have H0 := Lib.hid h0
  have z1 := hJ.wk.c1
  clear hJ hp h0
  go_enter Try.func67, Try.ntmps67
  go_wp2_with fail
  go_loop [7] (fun i => ∃ k : Nat, l ≤ k ∧ k ≤ p ∧ i = .int .i64 k) (fun i => n - (intOf i).toNat)
  case atStart => exact ⟨l, by omega, hlp, rfl⟩
  case round =>
    obtain ⟨k, hk1, hk, rfl⟩ := hrel
    have hkn : k < n := by omega
    have i1 : (k : Int) < (n : Int) := by omega
    have i2 : (c : Int) < (wi : Int) := by omega
    have zk := HJ.out.gr.cell hkn
    have zc := (HJ.out.gr.row k hkn).cell hc
    by_cases hkp : k < p
    · rw [HP.out k hk1 hkp] at zc
      go_wp2_with fail
      go_round
      case rel => exact ⟨k + 1, by omega, by omega, by go_num⟩
      case measure => simp [intOf]; omega
    · obtain rfl : k = p := by omega
      have hne : (((M k c : Nat) : Int) != 0) = true := by have := H0.out; simp; omega
      have i3 : (l : Int) < (n : Int) := by omega
      have zl := HJ.out.gr.cell (i := l) (by omega)
      have fk := HJ.out.gr.free k
      have fl := HJ.out.gr.free l
      generalize M k c = pt at zc hne
      go_wp2_with fail
      clear zc
      by_cases hlk : l = k
      · subst hlk
        go_region
        go_wp2
        go_ret
        exact ⟨rfl, (HJ.out.swap hkn (by omega)).drewN 1, (((Below.refl B w).setCell (p := ⟨G, l, none⟩) HJ.out.gr.lo.1 _).setCell (p := ⟨G, _, none⟩) HJ.out.gr.lo.1 _).drew⟩
      · go_region
        go_wp2
        go_ret
        exact ⟨rfl, (HJ.out.swap hkn (by omega)).drewN 1, (((Below.refl B w).setCell (p := ⟨G, l, none⟩) HJ.out.gr.lo.1 _).setCell (p := ⟨G, _, none⟩) HJ.out.gr.lo.1 _).drew⟩
end Go.Proofs.Ytdempjkkahjekaa
