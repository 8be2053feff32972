import Derived.Lib.QuietBelow
import Derived.Test.YtempgjollkdmnaaGreatMg51
namespace Go.Proofs.YtempgjollkdmnaaGreat.He
open Go.RowKit Go.Shelf
open Go.Proofs.YtempgjollkdmnaaGreat.Ly (TabOk RowOk off Tb tK tL)
open Go.Proofs.YtempgjollkdmnaaGreat.Wg (BoSays BoSays.no BoSays.yes)
attribute [local go_sem] Oper.semAt_some

theorem tb_ne {W : World} {x m g : Nat} {K L : Nat → Int} (hT : Tb W (some ⟨x, 0, none⟩) (m + 12) K L) (hg : HAt W g hz none 0) : x ≠ g := fun e => by
  obtain ⟨b, o, e1, _, h2⟩ := hT.cell 2 (by omega)
  cases e1
  have h5 := hg.c.2.2.2.2.2
  subst e
  rw [show 0 + 2 * 2 + 1 = 5 from rfl, h5] at h2
  cases h2
theorem bk_ne {W : World} {i g : Nat} {vs : List Value} (hb : Block W i vs 5) (hg : HAt W g hz none 0) : i ≠ g := fun e => by
  have h1 : W.heap[i]? = some (.cells vs.toArray 5 (0, 0)) := hb
  have h2 : W.heap[g]? = some (.cells #[.int .i64 0, .int .i64 0, .int .i64 0, .int .i64 0, .int .i64 0, .slice none 0 0] 24 (0, 0)) := hg
  rw [e, h2] at h1
  simp at h1
theorem bk_kept {W W' : World} {i : Nat} {vs : List Value} (hb : Block W i vs 5) (hk : W'.heap[i]? = W.heap[i]?) : Block W' i vs 5 := hk.trans hb
theorem bool_at {fn : FuncId} {args : Array Value} {W : World} {P : Prop} {x : Bool} (hx : x = true ↔ P) (h : Calls Tryz.prog fn args W fun e w' => BoSays P e ∧ Below W.heap.size W w') : Calls Tryz.prog fn args W fun e w' => e = .returned (.bool x) ∧ Below W.heap.size W w' :=
  h.mono fun e w' ⟨⟨v, he, hv⟩, hB⟩ => ⟨by
    rw [he]
    have : v = x := by rw [Bool.eq_iff_iff]; exact hv.trans hx.symm
    rw [this], hB⟩
open Classical in
/-- what Put tells, as far as bytes go. -/
noncomputable def qE (h : Hr) (n : Nat) : Int := if RH h ∧ n = off h.K h.L h.m then 0 else 2
open Classical in
noncomputable def qM (h : Hr) (n : Nat) : Nat := if RH h ∧ n = off h.K h.L h.m then 14 + 3 * h.m + n + 4 else 0
open Classical in
noncomputable def qF (h : Hr) (n : Nat) (f : Nat → Nat) : Nat → Nat := if RH h ∧ n = off h.K h.L h.m then Crc.sealed (pl h f) (14 + 3 * h.m + n) else fun _ => 0
theorem qM_le (h : Hr) {n : Nat} (hn : 3 * h.m + n ≤ 99000) : qM h n ≤ 100000 := by unfold qM; split <;> omega
theorem PutGoes.out {w w' : World} {h : Hr} {n : Nat} {f : Nat → Nat} {e : Ending} (q : PutGoes w h n f e w') (hb : Pf.By f) :
    ∃ pa pc, e = .returned (.tuple #[.slice pa (qM h n) pc, .int .i64 (qE h n)]) ∧ Oz.OzRow w' w.heap.size 5 1 (.slice pa (qM h n) pc) (qM h n) (rowv (qF h n f) (qM h n)) ∧ Sl w' pa (qM h n) pc (qF h n f) := by
  unfold qM qE qF
  rcases q with ⟨h1, h2, g, C, he, hg, hC, hbl⟩ | ⟨hno, he⟩
  · rw [if_pos ⟨h1, h2⟩, if_pos ⟨h1, h2⟩, if_pos ⟨h1, h2⟩]
    have hm8 : h.m ≤ 8 := h1.2.2.2.2.2.2.2.1
    have ho : off h.K h.L h.m ≤ h.m * 65535 := Ly.off_le _ _ _
    have hmx : 14 + 3 * h.m + n + 4 ≤ maxLen := by unfold maxLen; omega
    exact ⟨_, _, he, hbl.oz (Nat.le_refl _) hC hmx hg, hbl.sl2 (Nat.le_refl _) hmx (sealed_bytes (pl_by h hb) _) (sealed_upto _ _)⟩
  · rw [if_neg hno, if_neg hno, if_neg hno]
    exact ⟨none, 0, he, Oz.OzRow_nil _ _ _ _, Sl.none_ _ none 0 (Nat.zero_le _) (fun _ => rfl)⟩
theorem PutSays.out2 {w w' : World} {h : Hr} {n : Nat} {f : Nat → Nat} {e : Ending} (q : PutSays w h n f e w') :
    ∃ pa pc, e = .returned (.tuple #[.slice pa (qM h n) pc, .int .i64 (qE h n)]) ∧ Sl w' pa (qM h n) pc (qF h n f) := by
  unfold qM qE qF
  rcases q with ⟨h1, h2, a, c, he, hN⟩ | ⟨hno, he⟩
  · rw [if_pos ⟨h1, h2⟩, if_pos ⟨h1, h2⟩, if_pos ⟨h1, h2⟩]
    exact ⟨a, c, he, hN.sl⟩
  · rw [if_neg hno, if_neg hno, if_neg hno]
    exact ⟨none, 0, he, Sl.none_ _ none 0 (Nat.zero_le _) (fun _ => rfl)⟩
/-- two headers and bytes are lent, two boxes laid. -/
def Lent3 (w1 : World) (h g : Hr) (n : Nat) (f : Nat → Nat) (x y i g7 g8 : Nat) (W : World) : Prop :=
  Below w1.heap.size w1 W ∧ (w1.heap.size ≤ x ∧ Tb W (some ⟨x, 0, none⟩) (h.m + 12) (tK h.K h.m) (tL h.L h.m)) ∧ (w1.heap.size ≤ y ∧ Tb W (some ⟨y, 0, none⟩) (g.m + 12) (tK g.K g.m) (tL g.L g.m)) ∧
    (w1.heap.size ≤ i ∧ Block W i (lentC (ints f n) 12) 5) ∧ (w1.heap.size ≤ g7 ∧ HAt W g7 hz none 0) ∧ (w1.heap.size ≤ g8 ∧ HAt W g8 hz none 0) ∧ g7 ≠ g8
set_option maxHeartbeats 8000000 in
set_option maxRecDepth 100000 in
theorem headPuts_any (h g : Hr) (a b : Option Addr) (c d : Nat) (hn : h.m ≤ 8796093022208) (hm : g.m ≤ 8796093022208) (ba : Option Addr) (n bc : Nat) (f : Nat → Nat) (hnb : n ≤ 140737488355328) (hac : a = none → h.m = 0 ∧ c = 0) (hbd : b = none → g.m = 0 ∧ d = 0) (hcc : h.m ≤ c) (hdd : g.m ≤ d) (w : World) (hT : Tb w a h.m h.K h.L) (hU : Tb w b g.m g.K g.L) (hS : Sl w ba n bc f) :
    Calls Tryz.prog 3 #[hV h a c, hV g b d, .slice ba n bc] w fun e w' => e = .returned (.bool true) ∧ Below w.heap.size w w' := by
  obtain ⟨w0, hw0⟩ : ∃ w0, w0 = w.alloc (.cells #[.int .i64 h.S, .int .i64 h.F, .int .i64 h.I, .int .i64 h.N, .int .i64 h.D, .slice a h.m c] 24) := ⟨_, rfl⟩
  obtain ⟨w1, hw1⟩ : ∃ w1, w1 = w0.alloc (.cells #[.int .i64 g.S, .int .i64 g.F, .int .i64 g.I, .int .i64 g.N, .int .i64 g.D, .slice b g.m d] 24) := ⟨_, rfl⟩
  have hz0 : w0.heap.size = w.heap.size + 1 := by rw [hw0, World.size_alloc]
  have hb0 : Below w.heap.size w w0 := by rw [hw0]; exact (Below.refl _ w).alloc (Nat.le_refl _) _
  have hb1 : Below w0.heap.size w0 w1 := by rw [hw1]; exact (Below.refl _ w0).alloc (Nat.le_refl _) _
  have hq0 : HAt w0 w.heap.size h a c := by rw [hw0]; exact heap_alloc_new _ _
  have HX := Lib.hid (hq0.same hb1)
  have HY := Lib.hid (show HAt w1 (w.heap.size + 1) g b d by rw [hw1, ← hz0]; exact heap_alloc_new _ _)
  have HB := Lib.hid (hb0.trans (hb1.mono hb0.size))
  have HW := Lib.hid (show w1 = (w.alloc (.cells #[.int .i64 h.S, .int .i64 h.F, .int .i64 h.I, .int .i64 h.N, .int .i64 h.D, .slice a h.m c] 24)).alloc (.cells #[.int .i64 g.S, .int .i64 g.F, .int .i64 g.I, .int .i64 g.N, .int .i64 g.D, .slice b g.m d] 24) by rw [hw1, hw0])
  have HT := Lib.hid hT; have HU := Lib.hid hU; have HS := Lib.hid hS; have HCC := Lib.hid hcc; have HDD := Lib.hid hdd; have HAC := Lib.hid hac; have HBD := Lib.hid hbd
  obtain ⟨wg, hwg⟩ : ∃ wg, wg = w.heap.size := ⟨_, rfl⟩
  rw [← hwg] at HX HY
  have HWG := Lib.hid hwg
  unfold hV
  clear hw0 hw1 hz0 hb0 hb1 hq0 hT hU hS hac hbd hcc hdd
  go_enter Tryz.func3, Tryz.ntmps3
  go_upto_region 1 with fail
  rw [← HW.out, ← hwg]
  clear hwg HW
  obtain ⟨c0, c1, c2, c3, c4, c5⟩ := HX.out.c
  obtain ⟨d0, d1, d2, d3, d4, d5⟩ := HY.out.c
  by_cases hbig : h.m + g.m + n ≤ 20000
  rotate_left
  · have j1 : (20000 : Int) < (h.m : Int) + (g.m : Int) + (n : Int) := by omega
    go_wp2_with fail
    refine (awake14_any w1).mono ?_
    rintro e w2 ⟨rfl, hB2⟩
    have HB2 := Lib.hid (HB.out.trans (hB2.mono HB.out.size))
    clear hB2
    go_wp2
    go_ret
    exact ⟨rfl, HB2.out⟩
  have j1 : ¬ (20000 : Int) < (h.m : Int) + (g.m : Int) + (n : Int) := by omega
  have HBIG := Lib.hid hbig
  clear hbig
  go_upto_region 3 with fail
  clear c0 c1 c2 c3 c4 c5 d0 d1 d2 d3 d4 d5 j1 hn hm hnb
  have HXC := Lib.hid (fun W (hW : Below w1.heap.size w1 W) => (HX.out.same hW).c)
  have HYC := Lib.hid (fun W (hW : Below w1.heap.size w1 W) => (HY.out.same hW).c)
  have hl1 : h.m ≤ 1000000 := by have := HBIG.out; omega
  have hl2 : g.m ≤ 1000000 := by have := HBIG.out; omega
  have hl3 : n ≤ 1000000000000 := by have := HBIG.out; omega
  have HLX := Lib.hid (fun W (hW : Below w1.heap.size w1 W) => lentHead_any h a c HAC.out hl1 W (HT.out.same (HB.out.trans (hW.mono HB.out.size))))
  have HLY := Lib.hid (fun W (hW : Below w1.heap.size w1 W) => lentHead_any g b d HBD.out hl2 W (HU.out.same (HB.out.trans (hW.mono HB.out.size))))
  have HLS := Lib.hid (fun W (hW : Below w1.heap.size w1 W) => lentS_any ba n bc f W (HS.out.same (HB.out.trans (hW.mono HB.out.size))) hl3)
  unfold hV at HLX HLY
  refine wp_region_held_drew (S := fun W => Below w1.heap.size w1 W) (by kernel_rfl) ((Below.refl _ w1).drew) (fun hHeld => ?_)
  have hH0 := hHeld
  obtain ⟨V0, hV0⟩ : ∃ V0, V0 = w1.drew := ⟨_, rfl⟩
  rw [← hV0] at hHeld hH0 ⊢
  clear hV0
  refine wpAnyH_take (i := 0) (oi := ⟨some 27, _, _, _, _, none⟩) (v := (.agg #[.int .i64 h.S, .int .i64 h.F, .int .i64 h.I, .int .i64 h.N, .int .i64 h.D, .slice a h.m c])) rfl (by kernel_rfl) (by kernel_rfl) (by kernel_rfl) (fun _ _ _ h => h) (Or.inl ⟨by rfl, fun W hW => ?_⟩) (by assumption) ?_
  · (obtain ⟨c0, c1, c2, c3, c4, c5⟩ := HXC.out W hW; go_simp)
  simp only [Act.put, List.setIfInBounds_toArray, List.set_cons_zero, List.set_cons_succ]
  refine wpAnyH_take (i := 2) (oi := ⟨some 29, _, _, _, _, none⟩) (v := (.agg #[.int .i64 g.S, .int .i64 g.F, .int .i64 g.I, .int .i64 g.N, .int .i64 g.D, .slice b g.m d])) rfl (by kernel_rfl) (by kernel_rfl) (by kernel_rfl) (fun _ _ _ h => h) (Or.inl ⟨by rfl, fun W hW => ?_⟩) (by assumption) ?_
  · (obtain ⟨c0, c1, c2, c3, c4, c5⟩ := HYC.out W hW; go_simp)
  simp only [Act.put, List.setIfInBounds_toArray, List.set_cons_zero, List.set_cons_succ]
  refine wpAnyH_take (i := 4) (oi := ⟨some 31, _, _, _, _, none⟩) (v := (.slice ba n bc)) rfl (by kernel_rfl) (by kernel_rfl) (by kernel_rfl) (fun _ _ _ h => h) (Or.inl ⟨by rfl, fun W hW => ?_⟩) (by assumption) ?_
  · go_simp
  simp only [Act.put, List.setIfInBounds_toArray, List.set_cons_zero, List.set_cons_succ]
  clear hHeld
  refine @share14 _ ?shP (fun hG => ?shF) ?shG
  case shF =>
    have HGH := Lib.hid hG; clear hG
    refine wpAnyH_ready (rs := [1, 6, 7]) (by kernel_rfl) (by simp) (AllReadyH.cons rfl (fun KK hKK => ?_) (AllReadyH.cons rfl (fun KK hKK => ?_) (AllReadyH.cons rfl (fun KK hKK => ?_) AllReadyH.nil)))
    · go_simp
      refine (HLX.out V0 hH0).mono ?_
      rintro e V1 ⟨x, hx, rfl, hTx, hb1⟩
      dsimp only [hV]
      have hH1 : Below w1.heap.size w1 V1 := hH0.trans (hb1.mono hH0.size)
      refine hKK.out _ _ hH1 (fun hHeld => ?_)
      clear hKK KK
      try simp only [Act.put, List.setIfInBounds_toArray, List.set_cons_zero, List.set_cons_succ]
      refine wpAnyH_ready (rs := [3, 6, 7]) (by kernel_rfl) (by simp) (AllReadyH.cons rfl (fun KK hKK => ?_) (AllReadyH.cons rfl (fun KK hKK => ?_) (AllReadyH.cons rfl (fun KK hKK => ?_) AllReadyH.nil)))
      · go_simp
        refine (HLY.out V1 hH1).mono ?_
        rintro e V2 ⟨y, hy, rfl, hTy, hb2⟩
        dsimp only [hV]
        have hH2 : Below w1.heap.size w1 V2 := hH1.trans (hb2.mono hH1.size)
        refine hKK.out _ _ hH2 (fun hHeld => ?_)
        clear hKK KK
        try simp only [Act.put, List.setIfInBounds_toArray, List.set_cons_zero, List.set_cons_succ]
        refine wpAnyH_ready (rs := [5, 6, 7]) (by kernel_rfl) (by simp) (AllReadyH.cons rfl (fun KK hKK => ?_) (AllReadyH.cons rfl (fun KK hKK => ?_) (AllReadyH.cons rfl (fun KK hKK => ?_) AllReadyH.nil)))
        · go_simp
          refine (HLS.out V2 hH2).mono ?_
          rintro e V3 ⟨rfl, hbk, hb3⟩
          dsimp only
          obtain ⟨i, hi⟩ : ∃ G, G = V2.heap.size := ⟨_, rfl⟩
          rw [← hi] at hbk ⊢
          replace hi := Lib.hid hi
          have hH3 : Below w1.heap.size w1 V3 := hH2.trans (hb3.mono hH2.size)
          refine hKK.out _ _ hH3 (fun hHeld => ?_)
          clear hKK KK
          try simp only [Act.put, List.setIfInBounds_toArray, List.set_cons_zero, List.set_cons_succ]
          refine wpAnyH_ready (rs := [6, 7]) (by kernel_rfl) (by simp) (AllReadyH.cons rfl (fun KK hKK => ?_) (AllReadyH.cons rfl (fun KK hKK => ?_) AllReadyH.nil))
          · go_simp
            obtain ⟨g7, hg7⟩ : ∃ G, G = V3.heap.size := ⟨_, rfl⟩
            rw [← hg7]
            obtain ⟨V4, hV4⟩ : ∃ V, V = V3.alloc (.cells #[.int .i64 0, .int .i64 0, .int .i64 0, .int .i64 0, .int .i64 0, .slice none 0 0] 24) := ⟨_, rfl⟩
            rw [← hV4]
            have hb4 : Below V3.heap.size V3 V4 := by rw [hV4]; exact (Below.refl _ _).alloc (Nat.le_refl _) _
            have h7 : HAt V4 g7 hz none 0 := by rw [hV4, hg7]; exact heap_alloc_new _ _
            clear hV4
            replace hg7 := Lib.hid hg7
            have hH4 : Below w1.heap.size w1 V4 := hH3.trans (hb4.mono hH3.size)
            refine hKK.out _ _ hH4 (fun hHeld => ?_)
            clear hKK KK
            try simp only [Act.put, List.setIfInBounds_toArray, List.set_cons_zero, List.set_cons_succ]
            refine wpAnyH_ready (rs := [7]) (by kernel_rfl) (by simp) (AllReadyH.cons rfl (fun KK hKK => ?_) AllReadyH.nil)
            go_simp
            obtain ⟨g8, hg8⟩ : ∃ G, G = V4.heap.size := ⟨_, rfl⟩
            rw [← hg8]
            obtain ⟨V5, hV5⟩ : ∃ V, V = V4.alloc (.cells #[.int .i64 0, .int .i64 0, .int .i64 0, .int .i64 0, .int .i64 0, .slice none 0 0] 24) := ⟨_, rfl⟩
            rw [← hV5]
            have hb5 : Below V4.heap.size V4 V5 := by rw [hV5]; exact (Below.refl _ _).alloc (Nat.le_refl _) _
            have h8 : HAt V5 g8 hz none 0 := by rw [hV5, hg8]; exact heap_alloc_new _ _
            clear hV5
            replace hg8 := Lib.hid hg8
            have hH5 : Below w1.heap.size w1 V5 := hH4.trans (hb5.mono hH4.size)
            refine hKK.out _ _ hH5 (fun hHeld => ?_)
            clear hKK KK
            try simp only [Act.put, List.setIfInBounds_toArray, List.set_cons_zero, List.set_cons_succ]
            have HALL := Lib.hid (show Lent3 w1 h g n f x y i g7 g8 V5 from ⟨hH5, ⟨Nat.le_trans hH0.size hx, hTx.same (hb2.trans ((hb3.trans ((hb4.trans (hb5.mono hb4.size)).mono hb3.size)).mono hb2.size))⟩, ⟨Nat.le_trans hH1.size hy, hTy.same (hb3.trans ((hb4.trans (hb5.mono hb4.size)).mono hb3.size))⟩, ⟨Nat.le_trans hH2.size (Nat.le_of_eq hi.out.symm), hbk.same (hb4.trans (hb5.mono hb4.size))⟩, ⟨Nat.le_trans hH3.size (Nat.le_of_eq hg7.out.symm), h7.same hb5⟩, ⟨Nat.le_trans hH4.size (Nat.le_of_eq hg8.out.symm), h8.same (Below.refl V5.heap.size V5)⟩, Nat.ne_of_lt (Nat.lt_of_lt_of_le h7.lt (Nat.le_trans (Below.refl V4.heap.size V4).size (Nat.le_of_eq hg8.out.symm)))⟩)
            clear hHeld hH1 hH2 hH3 hH4 hH5 hb1 hb2 hb3 hb4 hb5 hx hy hi hg7 hg8 hTx hTy hbk h7 h8
            revert x y i g7 g8 V5 HALL
            exact HGH.out
          · go_simp
            obtain ⟨g8, hg8⟩ : ∃ G, G = V3.heap.size := ⟨_, rfl⟩
            rw [← hg8]
            obtain ⟨V4, hV4⟩ : ∃ V, V = V3.alloc (.cells #[.int .i64 0, .int .i64 0, .int .i64 0, .int .i64 0, .int .i64 0, .slice none 0 0] 24) := ⟨_, rfl⟩
            rw [← hV4]
            have hb4 : Below V3.heap.size V3 V4 := by rw [hV4]; exact (Below.refl _ _).alloc (Nat.le_refl _) _
            have h8 : HAt V4 g8 hz none 0 := by rw [hV4, hg8]; exact heap_alloc_new _ _
            clear hV4
            replace hg8 := Lib.hid hg8
            have hH4 : Below w1.heap.size w1 V4 := hH3.trans (hb4.mono hH3.size)
            refine hKK.out _ _ hH4 (fun hHeld => ?_)
            clear hKK KK
            try simp only [Act.put, List.setIfInBounds_toArray, List.set_cons_zero, List.set_cons_succ]
            refine wpAnyH_ready (rs := [6]) (by kernel_rfl) (by simp) (AllReadyH.cons rfl (fun KK hKK => ?_) AllReadyH.nil)
            go_simp
            obtain ⟨g7, hg7⟩ : ∃ G, G = V4.heap.size := ⟨_, rfl⟩
            rw [← hg7]
            obtain ⟨V5, hV5⟩ : ∃ V, V = V4.alloc (.cells #[.int .i64 0, .int .i64 0, .int .i64 0, .int .i64 0, .int .i64 0, .slice none 0 0] 24) := ⟨_, rfl⟩
            rw [← hV5]
            have hb5 : Below V4.heap.size V4 V5 := by rw [hV5]; exact (Below.refl _ _).alloc (Nat.le_refl _) _
            have h7 : HAt V5 g7 hz none 0 := by rw [hV5, hg7]; exact heap_alloc_new _ _
            clear hV5
            replace hg7 := Lib.hid hg7
            have hH5 : Below w1.heap.size w1 V5 := hH4.trans (hb5.mono hH4.size)
            refine hKK.out _ _ hH5 (fun hHeld => ?_)
            clear hKK KK
            try simp only [Act.put, List.setIfInBounds_toArray, List.set_cons_zero, List.set_cons_succ]
            exact HGH.out _ _ _ _ _ _ (Lib.hid ⟨hH5, ⟨Nat.le_trans hH0.size hx, hTx.same (hb2.trans ((hb3.trans ((hb4.trans (hb5.mono hb4.size)).mono hb3.size)).mono hb2.size))⟩, ⟨Nat.le_trans hH1.size hy, hTy.same (hb3.trans ((hb4.trans (hb5.mono hb4.size)).mono hb3.size))⟩, ⟨Nat.le_trans hH2.size (Nat.le_of_eq hi.out.symm), hbk.same (hb4.trans (hb5.mono hb4.size))⟩, ⟨Nat.le_trans hH4.size (Nat.le_of_eq hg7.out.symm), h7.same (Below.refl V5.heap.size V5)⟩, ⟨Nat.le_trans hH3.size (Nat.le_of_eq hg8.out.symm), h8.same hb5⟩, Nat.ne_of_gt (Nat.lt_of_lt_of_le h8.lt (Nat.le_trans (Below.refl V4.heap.size V4).size (Nat.le_of_eq hg7.out.symm)))⟩)
        · go_simp
          obtain ⟨g7, hg7⟩ : ∃ G, G = V2.heap.size := ⟨_, rfl⟩
          rw [← hg7]
          obtain ⟨V3, hV3⟩ : ∃ V, V = V2.alloc (.cells #[.int .i64 0, .int .i64 0, .int .i64 0, .int .i64 0, .int .i64 0, .slice none 0 0] 24) := ⟨_, rfl⟩
          rw [← hV3]
          have hb3 : Below V2.heap.size V2 V3 := by rw [hV3]; exact (Below.refl _ _).alloc (Nat.le_refl _) _
          have h7 : HAt V3 g7 hz none 0 := by rw [hV3, hg7]; exact heap_alloc_new _ _
          clear hV3
          replace hg7 := Lib.hid hg7
          have hH3 : Below w1.heap.size w1 V3 := hH2.trans (hb3.mono hH2.size)
          refine hKK.out _ _ hH3 (fun hHeld => ?_)
          clear hKK KK
          try simp only [Act.put, List.setIfInBounds_toArray, List.set_cons_zero, List.set_cons_succ]
          refine wpAnyH_ready (rs := [5, 7]) (by kernel_rfl) (by simp) (AllReadyH.cons rfl (fun KK hKK => ?_) (AllReadyH.cons rfl (fun KK hKK => ?_) AllReadyH.nil))
          · go_simp
            refine (HLS.out V3 hH3).mono ?_
            rintro e V4 ⟨rfl, hbk, hb4⟩
            dsimp only
            obtain ⟨i, hi⟩ : ∃ G, G = V3.heap.size := ⟨_, rfl⟩
            rw [← hi] at hbk ⊢
            replace hi := Lib.hid hi
            have hH4 : Below w1.heap.size w1 V4 := hH3.trans (hb4.mono hH3.size)
            refine hKK.out _ _ hH4 (fun hHeld => ?_)
            clear hKK KK
            try simp only [Act.put, List.setIfInBounds_toArray, List.set_cons_zero, List.set_cons_succ]
            refine wpAnyH_ready (rs := [7]) (by kernel_rfl) (by simp) (AllReadyH.cons rfl (fun KK hKK => ?_) AllReadyH.nil)
            go_simp
            obtain ⟨g8, hg8⟩ : ∃ G, G = V4.heap.size := ⟨_, rfl⟩
            rw [← hg8]
            obtain ⟨V5, hV5⟩ : ∃ V, V = V4.alloc (.cells #[.int .i64 0, .int .i64 0, .int .i64 0, .int .i64 0, .int .i64 0, .slice none 0 0] 24) := ⟨_, rfl⟩
            rw [← hV5]
            have hb5 : Below V4.heap.size V4 V5 := by rw [hV5]; exact (Below.refl _ _).alloc (Nat.le_refl _) _
            have h8 : HAt V5 g8 hz none 0 := by rw [hV5, hg8]; exact heap_alloc_new _ _
            clear hV5
            replace hg8 := Lib.hid hg8
            have hH5 : Below w1.heap.size w1 V5 := hH4.trans (hb5.mono hH4.size)
            refine hKK.out _ _ hH5 (fun hHeld => ?_)
            clear hKK KK
            try simp only [Act.put, List.setIfInBounds_toArray, List.set_cons_zero, List.set_cons_succ]
            exact HGH.out _ _ _ _ _ _ (Lib.hid ⟨hH5, ⟨Nat.le_trans hH0.size hx, hTx.same (hb2.trans ((hb3.trans ((hb4.trans (hb5.mono hb4.size)).mono hb3.size)).mono hb2.size))⟩, ⟨Nat.le_trans hH1.size hy, hTy.same (hb3.trans ((hb4.trans (hb5.mono hb4.size)).mono hb3.size))⟩, ⟨Nat.le_trans hH3.size (Nat.le_of_eq hi.out.symm), hbk.same hb5⟩, ⟨Nat.le_trans hH2.size (Nat.le_of_eq hg7.out.symm), h7.same (hb4.trans (hb5.mono hb4.size))⟩, ⟨Nat.le_trans hH4.size (Nat.le_of_eq hg8.out.symm), h8.same (Below.refl V5.heap.size V5)⟩, Nat.ne_of_lt (Nat.lt_of_lt_of_le h7.lt (Nat.le_trans hb4.size (Nat.le_of_eq hg8.out.symm)))⟩)
          · go_simp
            obtain ⟨g8, hg8⟩ : ∃ G, G = V3.heap.size := ⟨_, rfl⟩
            rw [← hg8]
            obtain ⟨V4, hV4⟩ : ∃ V, V = V3.alloc (.cells #[.int .i64 0, .int .i64 0, .int .i64 0, .int .i64 0, .int .i64 0, .slice none 0 0] 24) := ⟨_, rfl⟩
            rw [← hV4]
            have hb4 : Below V3.heap.size V3 V4 := by rw [hV4]; exact (Below.refl _ _).alloc (Nat.le_refl _) _
            have h8 : HAt V4 g8 hz none 0 := by rw [hV4, hg8]; exact heap_alloc_new _ _
            clear hV4
            replace hg8 := Lib.hid hg8
            have hH4 : Below w1.heap.size w1 V4 := hH3.trans (hb4.mono hH3.size)
            refine hKK.out _ _ hH4 (fun hHeld => ?_)
            clear hKK KK
            try simp only [Act.put, List.setIfInBounds_toArray, List.set_cons_zero, List.set_cons_succ]
            refine wpAnyH_ready (rs := [5]) (by kernel_rfl) (by simp) (AllReadyH.cons rfl (fun KK hKK => ?_) AllReadyH.nil)
            go_simp
            refine (HLS.out V4 hH4).mono ?_
            rintro e V5 ⟨rfl, hbk, hb5⟩
            dsimp only
            obtain ⟨i, hi⟩ : ∃ G, G = V4.heap.size := ⟨_, rfl⟩
            rw [← hi] at hbk ⊢
            replace hi := Lib.hid hi
            have hH5 : Below w1.heap.size w1 V5 := hH4.trans (hb5.mono hH4.size)
            refine hKK.out _ _ hH5 (fun hHeld => ?_)
            clear hKK KK
            try simp only [Act.put, List.setIfInBounds_toArray, List.set_cons_zero, List.set_cons_succ]
            exact HGH.out _ _ _ _ _ _ (Lib.hid ⟨hH5, ⟨Nat.le_trans hH0.size hx, hTx.same (hb2.trans ((hb3.trans ((hb4.trans (hb5.mono hb4.size)).mono hb3.size)).mono hb2.size))⟩, ⟨Nat.le_trans hH1.size hy, hTy.same (hb3.trans ((hb4.trans (hb5.mono hb4.size)).mono hb3.size))⟩, ⟨Nat.le_trans hH4.size (Nat.le_of_eq hi.out.symm), hbk.same (Below.refl V5.heap.size V5)⟩, ⟨Nat.le_trans hH2.size (Nat.le_of_eq hg7.out.symm), h7.same (hb4.trans (hb5.mono hb4.size))⟩, ⟨Nat.le_trans hH3.size (Nat.le_of_eq hg8.out.symm), h8.same hb5⟩, Nat.ne_of_lt (Nat.lt_of_lt_of_le h7.lt (Nat.le_trans (Below.refl V3.heap.size V3).size (Nat.le_of_eq hg8.out.symm)))⟩)
        · go_simp
          obtain ⟨g8, hg8⟩ : ∃ G, G = V2.heap.size := ⟨_, rfl⟩
          rw [← hg8]
          obtain ⟨V3, hV3⟩ : ∃ V, V = V2.alloc (.cells #[.int .i64 0, .int .i64 0, .int .i64 0, .int .i64 0, .int .i64 0, .slice none 0 0] 24) := ⟨_, rfl⟩
          rw [← hV3]
          have hb3 : Below V2.heap.size V2 V3 := by rw [hV3]; exact (Below.refl _ _).alloc (Nat.le_refl _) _
          have h8 : HAt V3 g8 hz none 0 := by rw [hV3, hg8]; exact heap_alloc_new _ _
          clear hV3
          replace hg8 := Lib.hid hg8
          have hH3 : Below w1.heap.size w1 V3 := hH2.trans (hb3.mono hH2.size)
          refine hKK.out _ _ hH3 (fun hHeld => ?_)
          clear hKK KK
          try simp only [Act.put, List.setIfInBounds_toArray, List.set_cons_zero, List.set_cons_succ]
          refine wpAnyH_ready (rs := [5, 6]) (by kernel_rfl) (by simp) (AllReadyH.cons rfl (fun KK hKK => ?_) (AllReadyH.cons rfl (fun KK hKK => ?_) AllReadyH.nil))
          · go_simp
            refine (HLS.out V3 hH3).mono ?_
            rintro e V4 ⟨rfl, hbk, hb4⟩
            dsimp only
            obtain ⟨i, hi⟩ : ∃ G, G = V3.heap.size := ⟨_, rfl⟩
            rw [← hi] at hbk ⊢
            replace hi := Lib.hid hi
            have hH4 : Below w1.heap.size w1 V4 := hH3.trans (hb4.mono hH3.size)
            refine hKK.out _ _ hH4 (fun hHeld => ?_)
            clear hKK KK
            try simp only [Act.put, List.setIfInBounds_toArray, List.set_cons_zero, List.set_cons_succ]
            refine wpAnyH_ready (rs := [6]) (by kernel_rfl) (by simp) (AllReadyH.cons rfl (fun KK hKK => ?_) AllReadyH.nil)
            go_simp
            obtain ⟨g7, hg7⟩ : ∃ G, G = V4.heap.size := ⟨_, rfl⟩
            rw [← hg7]
            obtain ⟨V5, hV5⟩ : ∃ V, V = V4.alloc (.cells #[.int .i64 0, .int .i64 0, .int .i64 0, .int .i64 0, .int .i64 0, .slice none 0 0] 24) := ⟨_, rfl⟩
            rw [← hV5]
            have hb5 : Below V4.heap.size V4 V5 := by rw [hV5]; exact (Below.refl _ _).alloc (Nat.le_refl _) _
            have h7 : HAt V5 g7 hz none 0 := by rw [hV5, hg7]; exact heap_alloc_new _ _
            clear hV5
            replace hg7 := Lib.hid hg7
            have hH5 : Below w1.heap.size w1 V5 := hH4.trans (hb5.mono hH4.size)
            refine hKK.out _ _ hH5 (fun hHeld => ?_)
            clear hKK KK
            try simp only [Act.put, List.setIfInBounds_toArray, List.set_cons_zero, List.set_cons_succ]
            exact HGH.out _ _ _ _ _ _ (Lib.hid ⟨hH5, ⟨Nat.le_trans hH0.size hx, hTx.same (hb2.trans ((hb3.trans ((hb4.trans (hb5.mono hb4.size)).mono hb3.size)).mono hb2.size))⟩, ⟨Nat.le_trans hH1.size hy, hTy.same (hb3.trans ((hb4.trans (hb5.mono hb4.size)).mono hb3.size))⟩, ⟨Nat.le_trans hH3.size (Nat.le_of_eq hi.out.symm), hbk.same hb5⟩, ⟨Nat.le_trans hH4.size (Nat.le_of_eq hg7.out.symm), h7.same (Below.refl V5.heap.size V5)⟩, ⟨Nat.le_trans hH2.size (Nat.le_of_eq hg8.out.symm), h8.same (hb4.trans (hb5.mono hb4.size))⟩, Nat.ne_of_gt (Nat.lt_of_lt_of_le h8.lt (Nat.le_trans hb4.size (Nat.le_of_eq hg7.out.symm)))⟩)
          · go_simp
            obtain ⟨g7, hg7⟩ : ∃ G, G = V3.heap.size := ⟨_, rfl⟩
            rw [← hg7]
            obtain ⟨V4, hV4⟩ : ∃ V, V = V3.alloc (.cells #[.int .i64 0, .int .i64 0, .int .i64 0, .int .i64 0, .int .i64 0, .slice none 0 0] 24) := ⟨_, rfl⟩
            rw [← hV4]
            have hb4 : Below V3.heap.size V3 V4 := by rw [hV4]; exact (Below.refl _ _).alloc (Nat.le_refl _) _
            have h7 : HAt V4 g7 hz none 0 := by rw [hV4, hg7]; exact heap_alloc_new _ _
            clear hV4
            replace hg7 := Lib.hid hg7
            have hH4 : Below w1.heap.size w1 V4 := hH3.trans (hb4.mono hH3.size)
            refine hKK.out _ _ hH4 (fun hHeld => ?_)
            clear hKK KK
            try simp only [Act.put, List.setIfInBounds_toArray, List.set_cons_zero, List.set_cons_succ]
            refine wpAnyH_ready (rs := [5]) (by kernel_rfl) (by simp) (AllReadyH.cons rfl (fun KK hKK => ?_) AllReadyH.nil)
            go_simp
            refine (HLS.out V4 hH4).mono ?_
            rintro e V5 ⟨rfl, hbk, hb5⟩
            dsimp only
            obtain ⟨i, hi⟩ : ∃ G, G = V4.heap.size := ⟨_, rfl⟩
            rw [← hi] at hbk ⊢
            replace hi := Lib.hid hi
            have hH5 : Below w1.heap.size w1 V5 := hH4.trans (hb5.mono hH4.size)
            refine hKK.out _ _ hH5 (fun hHeld => ?_)
            clear hKK KK
            try simp only [Act.put, List.setIfInBounds_toArray, List.set_cons_zero, List.set_cons_succ]
            exact HGH.out _ _ _ _ _ _ (Lib.hid ⟨hH5, ⟨Nat.le_trans hH0.size hx, hTx.same (hb2.trans ((hb3.trans ((hb4.trans (hb5.mono hb4.size)).mono hb3.size)).mono hb2.size))⟩, ⟨Nat.le_trans hH1.size hy, hTy.same (hb3.trans ((hb4.trans (hb5.mono hb4.size)).mono hb3.size))⟩, ⟨Nat.le_trans hH4.size (Nat.le_of_eq hi.out.symm), hbk.same (Below.refl V5.heap.size V5)⟩, ⟨Nat.le_trans hH3.size (Nat.le_of_eq hg7.out.symm), h7.same hb5⟩, ⟨Nat.le_trans hH2.size (Nat.le_of_eq hg8.out.symm), h8.same (hb4.trans (hb5.mono hb4.size))⟩, Nat.ne_of_gt (Nat.lt_of_lt_of_le h8.lt (Nat.le_trans (Below.refl V3.heap.size V3).size (Nat.le_of_eq hg7.out.symm)))⟩)
      · go_simp
        obtain ⟨g7, hg7⟩ : ∃ G, G = V1.heap.size := ⟨_, rfl⟩
        rw [← hg7]
        obtain ⟨V2, hV2⟩ : ∃ V, V = V1.alloc (.cells #[.int .i64 0, .int .i64 0, .int .i64 0, .int .i64 0, .int .i64 0, .slice none 0 0] 24) := ⟨_, rfl⟩
        rw [← hV2]
        have hb2 : Below V1.heap.size V1 V2 := by rw [hV2]; exact (Below.refl _ _).alloc (Nat.le_refl _) _
        have h7 : HAt V2 g7 hz none 0 := by rw [hV2, hg7]; exact heap_alloc_new _ _
        clear hV2
        replace hg7 := Lib.hid hg7
        have hH2 : Below w1.heap.size w1 V2 := hH1.trans (hb2.mono hH1.size)
        refine hKK.out _ _ hH2 (fun hHeld => ?_)
        clear hKK KK
        try simp only [Act.put, List.setIfInBounds_toArray, List.set_cons_zero, List.set_cons_succ]
        refine wpAnyH_ready (rs := [3, 7]) (by kernel_rfl) (by simp) (AllReadyH.cons rfl (fun KK hKK => ?_) (AllReadyH.cons rfl (fun KK hKK => ?_) AllReadyH.nil))
        · go_simp
          refine (HLY.out V2 hH2).mono ?_
          rintro e V3 ⟨y, hy, rfl, hTy, hb3⟩
          dsimp only [hV]
          have hH3 : Below w1.heap.size w1 V3 := hH2.trans (hb3.mono hH2.size)
          refine hKK.out _ _ hH3 (fun hHeld => ?_)
          clear hKK KK
          try simp only [Act.put, List.setIfInBounds_toArray, List.set_cons_zero, List.set_cons_succ]
          refine wpAnyH_ready (rs := [5, 7]) (by kernel_rfl) (by simp) (AllReadyH.cons rfl (fun KK hKK => ?_) (AllReadyH.cons rfl (fun KK hKK => ?_) AllReadyH.nil))
          · go_simp
            refine (HLS.out V3 hH3).mono ?_
            rintro e V4 ⟨rfl, hbk, hb4⟩
            dsimp only
            obtain ⟨i, hi⟩ : ∃ G, G = V3.heap.size := ⟨_, rfl⟩
            rw [← hi] at hbk ⊢
            replace hi := Lib.hid hi
            have hH4 : Below w1.heap.size w1 V4 := hH3.trans (hb4.mono hH3.size)
            refine hKK.out _ _ hH4 (fun hHeld => ?_)
            clear hKK KK
            try simp only [Act.put, List.setIfInBounds_toArray, List.set_cons_zero, List.set_cons_succ]
            refine wpAnyH_ready (rs := [7]) (by kernel_rfl) (by simp) (AllReadyH.cons rfl (fun KK hKK => ?_) AllReadyH.nil)
            go_simp
            obtain ⟨g8, hg8⟩ : ∃ G, G = V4.heap.size := ⟨_, rfl⟩
            rw [← hg8]
            obtain ⟨V5, hV5⟩ : ∃ V, V = V4.alloc (.cells #[.int .i64 0, .int .i64 0, .int .i64 0, .int .i64 0, .int .i64 0, .slice none 0 0] 24) := ⟨_, rfl⟩
            rw [← hV5]
            have hb5 : Below V4.heap.size V4 V5 := by rw [hV5]; exact (Below.refl _ _).alloc (Nat.le_refl _) _
            have h8 : HAt V5 g8 hz none 0 := by rw [hV5, hg8]; exact heap_alloc_new _ _
            clear hV5
            replace hg8 := Lib.hid hg8
            have hH5 : Below w1.heap.size w1 V5 := hH4.trans (hb5.mono hH4.size)
            refine hKK.out _ _ hH5 (fun hHeld => ?_)
            clear hKK KK
            try simp only [Act.put, List.setIfInBounds_toArray, List.set_cons_zero, List.set_cons_succ]
            exact HGH.out _ _ _ _ _ _ (Lib.hid ⟨hH5, ⟨Nat.le_trans hH0.size hx, hTx.same (hb2.trans ((hb3.trans ((hb4.trans (hb5.mono hb4.size)).mono hb3.size)).mono hb2.size))⟩, ⟨Nat.le_trans hH2.size hy, hTy.same (hb4.trans (hb5.mono hb4.size))⟩, ⟨Nat.le_trans hH3.size (Nat.le_of_eq hi.out.symm), hbk.same hb5⟩, ⟨Nat.le_trans hH1.size (Nat.le_of_eq hg7.out.symm), h7.same (hb3.trans ((hb4.trans (hb5.mono hb4.size)).mono hb3.size))⟩, ⟨Nat.le_trans hH4.size (Nat.le_of_eq hg8.out.symm), h8.same (Below.refl V5.heap.size V5)⟩, Nat.ne_of_lt (Nat.lt_of_lt_of_le h7.lt (Nat.le_trans (hb3.trans (hb4.mono hb3.size)).size (Nat.le_of_eq hg8.out.symm)))⟩)
          · go_simp
            obtain ⟨g8, hg8⟩ : ∃ G, G = V3.heap.size := ⟨_, rfl⟩
            rw [← hg8]
            obtain ⟨V4, hV4⟩ : ∃ V, V = V3.alloc (.cells #[.int .i64 0, .int .i64 0, .int .i64 0, .int .i64 0, .int .i64 0, .slice none 0 0] 24) := ⟨_, rfl⟩
            rw [← hV4]
            have hb4 : Below V3.heap.size V3 V4 := by rw [hV4]; exact (Below.refl _ _).alloc (Nat.le_refl _) _
            have h8 : HAt V4 g8 hz none 0 := by rw [hV4, hg8]; exact heap_alloc_new _ _
            clear hV4
            replace hg8 := Lib.hid hg8
            have hH4 : Below w1.heap.size w1 V4 := hH3.trans (hb4.mono hH3.size)
            refine hKK.out _ _ hH4 (fun hHeld => ?_)
            clear hKK KK
            try simp only [Act.put, List.setIfInBounds_toArray, List.set_cons_zero, List.set_cons_succ]
            refine wpAnyH_ready (rs := [5]) (by kernel_rfl) (by simp) (AllReadyH.cons rfl (fun KK hKK => ?_) AllReadyH.nil)
            go_simp
            refine (HLS.out V4 hH4).mono ?_
            rintro e V5 ⟨rfl, hbk, hb5⟩
            dsimp only
            obtain ⟨i, hi⟩ : ∃ G, G = V4.heap.size := ⟨_, rfl⟩
            rw [← hi] at hbk ⊢
            replace hi := Lib.hid hi
            have hH5 : Below w1.heap.size w1 V5 := hH4.trans (hb5.mono hH4.size)
            refine hKK.out _ _ hH5 (fun hHeld => ?_)
            clear hKK KK
            try simp only [Act.put, List.setIfInBounds_toArray, List.set_cons_zero, List.set_cons_succ]
            exact HGH.out _ _ _ _ _ _ (Lib.hid ⟨hH5, ⟨Nat.le_trans hH0.size hx, hTx.same (hb2.trans ((hb3.trans ((hb4.trans (hb5.mono hb4.size)).mono hb3.size)).mono hb2.size))⟩, ⟨Nat.le_trans hH2.size hy, hTy.same (hb4.trans (hb5.mono hb4.size))⟩, ⟨Nat.le_trans hH4.size (Nat.le_of_eq hi.out.symm), hbk.same (Below.refl V5.heap.size V5)⟩, ⟨Nat.le_trans hH1.size (Nat.le_of_eq hg7.out.symm), h7.same (hb3.trans ((hb4.trans (hb5.mono hb4.size)).mono hb3.size))⟩, ⟨Nat.le_trans hH3.size (Nat.le_of_eq hg8.out.symm), h8.same hb5⟩, Nat.ne_of_lt (Nat.lt_of_lt_of_le h7.lt (Nat.le_trans hb3.size (Nat.le_of_eq hg8.out.symm)))⟩)
        · go_simp
          obtain ⟨g8, hg8⟩ : ∃ G, G = V2.heap.size := ⟨_, rfl⟩
          rw [← hg8]
          obtain ⟨V3, hV3⟩ : ∃ V, V = V2.alloc (.cells #[.int .i64 0, .int .i64 0, .int .i64 0, .int .i64 0, .int .i64 0, .slice none 0 0] 24) := ⟨_, rfl⟩
          rw [← hV3]
          have hb3 : Below V2.heap.size V2 V3 := by rw [hV3]; exact (Below.refl _ _).alloc (Nat.le_refl _) _
          have h8 : HAt V3 g8 hz none 0 := by rw [hV3, hg8]; exact heap_alloc_new _ _
          clear hV3
          replace hg8 := Lib.hid hg8
          have hH3 : Below w1.heap.size w1 V3 := hH2.trans (hb3.mono hH2.size)
          refine hKK.out _ _ hH3 (fun hHeld => ?_)
          clear hKK KK
          try simp only [Act.put, List.setIfInBounds_toArray, List.set_cons_zero, List.set_cons_succ]
          refine wpAnyH_ready (rs := [3]) (by kernel_rfl) (by simp) (AllReadyH.cons rfl (fun KK hKK => ?_) AllReadyH.nil)
          go_simp
          refine (HLY.out V3 hH3).mono ?_
          rintro e V4 ⟨y, hy, rfl, hTy, hb4⟩
          dsimp only [hV]
          have hH4 : Below w1.heap.size w1 V4 := hH3.trans (hb4.mono hH3.size)
          refine hKK.out _ _ hH4 (fun hHeld => ?_)
          clear hKK KK
          try simp only [Act.put, List.setIfInBounds_toArray, List.set_cons_zero, List.set_cons_succ]
          refine wpAnyH_ready (rs := [5]) (by kernel_rfl) (by simp) (AllReadyH.cons rfl (fun KK hKK => ?_) AllReadyH.nil)
          go_simp
          refine (HLS.out V4 hH4).mono ?_
          rintro e V5 ⟨rfl, hbk, hb5⟩
          dsimp only
          obtain ⟨i, hi⟩ : ∃ G, G = V4.heap.size := ⟨_, rfl⟩
          rw [← hi] at hbk ⊢
          replace hi := Lib.hid hi
          have hH5 : Below w1.heap.size w1 V5 := hH4.trans (hb5.mono hH4.size)
          refine hKK.out _ _ hH5 (fun hHeld => ?_)
          clear hKK KK
          try simp only [Act.put, List.setIfInBounds_toArray, List.set_cons_zero, List.set_cons_succ]
          exact HGH.out _ _ _ _ _ _ (Lib.hid ⟨hH5, ⟨Nat.le_trans hH0.size hx, hTx.same (hb2.trans ((hb3.trans ((hb4.trans (hb5.mono hb4.size)).mono hb3.size)).mono hb2.size))⟩, ⟨Nat.le_trans hH3.size hy, hTy.same hb5⟩, ⟨Nat.le_trans hH4.size (Nat.le_of_eq hi.out.symm), hbk.same (Below.refl V5.heap.size V5)⟩, ⟨Nat.le_trans hH1.size (Nat.le_of_eq hg7.out.symm), h7.same (hb3.trans ((hb4.trans (hb5.mono hb4.size)).mono hb3.size))⟩, ⟨Nat.le_trans hH2.size (Nat.le_of_eq hg8.out.symm), h8.same (hb4.trans (hb5.mono hb4.size))⟩, Nat.ne_of_lt (Nat.lt_of_lt_of_le h7.lt (Nat.le_trans (Below.refl V2.heap.size V2).size (Nat.le_of_eq hg8.out.symm)))⟩)
      · go_simp
        obtain ⟨g8, hg8⟩ : ∃ G, G = V1.heap.size := ⟨_, rfl⟩
        rw [← hg8]
        obtain ⟨V2, hV2⟩ : ∃ V, V = V1.alloc (.cells #[.int .i64 0, .int .i64 0, .int .i64 0, .int .i64 0, .int .i64 0, .slice none 0 0] 24) := ⟨_, rfl⟩
        rw [← hV2]
        have hb2 : Below V1.heap.size V1 V2 := by rw [hV2]; exact (Below.refl _ _).alloc (Nat.le_refl _) _
        have h8 : HAt V2 g8 hz none 0 := by rw [hV2, hg8]; exact heap_alloc_new _ _
        clear hV2
        replace hg8 := Lib.hid hg8
        have hH2 : Below w1.heap.size w1 V2 := hH1.trans (hb2.mono hH1.size)
        refine hKK.out _ _ hH2 (fun hHeld => ?_)
        clear hKK KK
        try simp only [Act.put, List.setIfInBounds_toArray, List.set_cons_zero, List.set_cons_succ]
        refine wpAnyH_ready (rs := [3, 6]) (by kernel_rfl) (by simp) (AllReadyH.cons rfl (fun KK hKK => ?_) (AllReadyH.cons rfl (fun KK hKK => ?_) AllReadyH.nil))
        · go_simp
          refine (HLY.out V2 hH2).mono ?_
          rintro e V3 ⟨y, hy, rfl, hTy, hb3⟩
          dsimp only [hV]
          have hH3 : Below w1.heap.size w1 V3 := hH2.trans (hb3.mono hH2.size)
          refine hKK.out _ _ hH3 (fun hHeld => ?_)
          clear hKK KK
          try simp only [Act.put, List.setIfInBounds_toArray, List.set_cons_zero, List.set_cons_succ]
          refine wpAnyH_ready (rs := [5, 6]) (by kernel_rfl) (by simp) (AllReadyH.cons rfl (fun KK hKK => ?_) (AllReadyH.cons rfl (fun KK hKK => ?_) AllReadyH.nil))
          · go_simp
            refine (HLS.out V3 hH3).mono ?_
            rintro e V4 ⟨rfl, hbk, hb4⟩
            dsimp only
            obtain ⟨i, hi⟩ : ∃ G, G = V3.heap.size := ⟨_, rfl⟩
            rw [← hi] at hbk ⊢
            replace hi := Lib.hid hi
            have hH4 : Below w1.heap.size w1 V4 := hH3.trans (hb4.mono hH3.size)
            refine hKK.out _ _ hH4 (fun hHeld => ?_)
            clear hKK KK
            try simp only [Act.put, List.setIfInBounds_toArray, List.set_cons_zero, List.set_cons_succ]
            refine wpAnyH_ready (rs := [6]) (by kernel_rfl) (by simp) (AllReadyH.cons rfl (fun KK hKK => ?_) AllReadyH.nil)
            go_simp
            obtain ⟨g7, hg7⟩ : ∃ G, G = V4.heap.size := ⟨_, rfl⟩
            rw [← hg7]
            obtain ⟨V5, hV5⟩ : ∃ V, V = V4.alloc (.cells #[.int .i64 0, .int .i64 0, .int .i64 0, .int .i64 0, .int .i64 0, .slice none 0 0] 24) := ⟨_, rfl⟩
            rw [← hV5]
            have hb5 : Below V4.heap.size V4 V5 := by rw [hV5]; exact (Below.refl _ _).alloc (Nat.le_refl _) _
            have h7 : HAt V5 g7 hz none 0 := by rw [hV5, hg7]; exact heap_alloc_new _ _
            clear hV5
            replace hg7 := Lib.hid hg7
            have hH5 : Below w1.heap.size w1 V5 := hH4.trans (hb5.mono hH4.size)
            refine hKK.out _ _ hH5 (fun hHeld => ?_)
            clear hKK KK
            try simp only [Act.put, List.setIfInBounds_toArray, List.set_cons_zero, List.set_cons_succ]
            exact HGH.out _ _ _ _ _ _ (Lib.hid ⟨hH5, ⟨Nat.le_trans hH0.size hx, hTx.same (hb2.trans ((hb3.trans ((hb4.trans (hb5.mono hb4.size)).mono hb3.size)).mono hb2.size))⟩, ⟨Nat.le_trans hH2.size hy, hTy.same (hb4.trans (hb5.mono hb4.size))⟩, ⟨Nat.le_trans hH3.size (Nat.le_of_eq hi.out.symm), hbk.same hb5⟩, ⟨Nat.le_trans hH4.size (Nat.le_of_eq hg7.out.symm), h7.same (Below.refl V5.heap.size V5)⟩, ⟨Nat.le_trans hH1.size (Nat.le_of_eq hg8.out.symm), h8.same (hb3.trans ((hb4.trans (hb5.mono hb4.size)).mono hb3.size))⟩, Nat.ne_of_gt (Nat.lt_of_lt_of_le h8.lt (Nat.le_trans (hb3.trans (hb4.mono hb3.size)).size (Nat.le_of_eq hg7.out.symm)))⟩)
          · go_simp
            obtain ⟨g7, hg7⟩ : ∃ G, G = V3.heap.size := ⟨_, rfl⟩
            rw [← hg7]
            obtain ⟨V4, hV4⟩ : ∃ V, V = V3.alloc (.cells #[.int .i64 0, .int .i64 0, .int .i64 0, .int .i64 0, .int .i64 0, .slice none 0 0] 24) := ⟨_, rfl⟩
            rw [← hV4]
            have hb4 : Below V3.heap.size V3 V4 := by rw [hV4]; exact (Below.refl _ _).alloc (Nat.le_refl _) _
            have h7 : HAt V4 g7 hz none 0 := by rw [hV4, hg7]; exact heap_alloc_new _ _
            clear hV4
            replace hg7 := Lib.hid hg7
            have hH4 : Below w1.heap.size w1 V4 := hH3.trans (hb4.mono hH3.size)
            refine hKK.out _ _ hH4 (fun hHeld => ?_)
            clear hKK KK
            try simp only [Act.put, List.setIfInBounds_toArray, List.set_cons_zero, List.set_cons_succ]
            refine wpAnyH_ready (rs := [5]) (by kernel_rfl) (by simp) (AllReadyH.cons rfl (fun KK hKK => ?_) AllReadyH.nil)
            go_simp
            refine (HLS.out V4 hH4).mono ?_
            rintro e V5 ⟨rfl, hbk, hb5⟩
            dsimp only
            obtain ⟨i, hi⟩ : ∃ G, G = V4.heap.size := ⟨_, rfl⟩
            rw [← hi] at hbk ⊢
            replace hi := Lib.hid hi
            have hH5 : Below w1.heap.size w1 V5 := hH4.trans (hb5.mono hH4.size)
            refine hKK.out _ _ hH5 (fun hHeld => ?_)
            clear hKK KK
            try simp only [Act.put, List.setIfInBounds_toArray, List.set_cons_zero, List.set_cons_succ]
            exact HGH.out _ _ _ _ _ _ (Lib.hid ⟨hH5, ⟨Nat.le_trans hH0.size hx, hTx.same (hb2.trans ((hb3.trans ((hb4.trans (hb5.mono hb4.size)).mono hb3.size)).mono hb2.size))⟩, ⟨Nat.le_trans hH2.size hy, hTy.same (hb4.trans (hb5.mono hb4.size))⟩, ⟨Nat.le_trans hH4.size (Nat.le_of_eq hi.out.symm), hbk.same (Below.refl V5.heap.size V5)⟩, ⟨Nat.le_trans hH3.size (Nat.le_of_eq hg7.out.symm), h7.same hb5⟩, ⟨Nat.le_trans hH1.size (Nat.le_of_eq hg8.out.symm), h8.same (hb3.trans ((hb4.trans (hb5.mono hb4.size)).mono hb3.size))⟩, Nat.ne_of_gt (Nat.lt_of_lt_of_le h8.lt (Nat.le_trans hb3.size (Nat.le_of_eq hg7.out.symm)))⟩)
        · go_simp
          obtain ⟨g7, hg7⟩ : ∃ G, G = V2.heap.size := ⟨_, rfl⟩
          rw [← hg7]
          obtain ⟨V3, hV3⟩ : ∃ V, V = V2.alloc (.cells #[.int .i64 0, .int .i64 0, .int .i64 0, .int .i64 0, .int .i64 0, .slice none 0 0] 24) := ⟨_, rfl⟩
          rw [← hV3]
          have hb3 : Below V2.heap.size V2 V3 := by rw [hV3]; exact (Below.refl _ _).alloc (Nat.le_refl _) _
          have h7 : HAt V3 g7 hz none 0 := by rw [hV3, hg7]; exact heap_alloc_new _ _
          clear hV3
          replace hg7 := Lib.hid hg7
          have hH3 : Below w1.heap.size w1 V3 := hH2.trans (hb3.mono hH2.size)
          refine hKK.out _ _ hH3 (fun hHeld => ?_)
          clear hKK KK
          try simp only [Act.put, List.setIfInBounds_toArray, List.set_cons_zero, List.set_cons_succ]
          refine wpAnyH_ready (rs := [3]) (by kernel_rfl) (by simp) (AllReadyH.cons rfl (fun KK hKK => ?_) AllReadyH.nil)
          go_simp
          refine (HLY.out V3 hH3).mono ?_
          rintro e V4 ⟨y, hy, rfl, hTy, hb4⟩
          dsimp only [hV]
          have hH4 : Below w1.heap.size w1 V4 := hH3.trans (hb4.mono hH3.size)
          refine hKK.out _ _ hH4 (fun hHeld => ?_)
          clear hKK KK
          try simp only [Act.put, List.setIfInBounds_toArray, List.set_cons_zero, List.set_cons_succ]
          refine wpAnyH_ready (rs := [5]) (by kernel_rfl) (by simp) (AllReadyH.cons rfl (fun KK hKK => ?_) AllReadyH.nil)
          go_simp
          refine (HLS.out V4 hH4).mono ?_
          rintro e V5 ⟨rfl, hbk, hb5⟩
          dsimp only
          obtain ⟨i, hi⟩ : ∃ G, G = V4.heap.size := ⟨_, rfl⟩
          rw [← hi] at hbk ⊢
          replace hi := Lib.hid hi
          have hH5 : Below w1.heap.size w1 V5 := hH4.trans (hb5.mono hH4.size)
          refine hKK.out _ _ hH5 (fun hHeld => ?_)
          clear hKK KK
          try simp only [Act.put, List.setIfInBounds_toArray, List.set_cons_zero, List.set_cons_succ]
          exact HGH.out _ _ _ _ _ _ (Lib.hid ⟨hH5, ⟨Nat.le_trans hH0.size hx, hTx.same (hb2.trans ((hb3.trans ((hb4.trans (hb5.mono hb4.size)).mono hb3.size)).mono hb2.size))⟩, ⟨Nat.le_trans hH3.size hy, hTy.same hb5⟩, ⟨Nat.le_trans hH4.size (Nat.le_of_eq hi.out.symm), hbk.same (Below.refl V5.heap.size V5)⟩, ⟨Nat.le_trans hH2.size (Nat.le_of_eq hg7.out.symm), h7.same (hb4.trans (hb5.mono hb4.size))⟩, ⟨Nat.le_trans hH1.size (Nat.le_of_eq hg8.out.symm), h8.same (hb3.trans ((hb4.trans (hb5.mono hb4.size)).mono hb3.size))⟩, Nat.ne_of_gt (Nat.lt_of_lt_of_le h8.lt (Nat.le_trans (Below.refl V2.heap.size V2).size (Nat.le_of_eq hg7.out.symm)))⟩)
    · go_simp
      obtain ⟨g7, hg7⟩ : ∃ G, G = V0.heap.size := ⟨_, rfl⟩
      rw [← hg7]
      obtain ⟨V1, hV1⟩ : ∃ V, V = V0.alloc (.cells #[.int .i64 0, .int .i64 0, .int .i64 0, .int .i64 0, .int .i64 0, .slice none 0 0] 24) := ⟨_, rfl⟩
      rw [← hV1]
      have hb1 : Below V0.heap.size V0 V1 := by rw [hV1]; exact (Below.refl _ _).alloc (Nat.le_refl _) _
      have h7 : HAt V1 g7 hz none 0 := by rw [hV1, hg7]; exact heap_alloc_new _ _
      clear hV1
      replace hg7 := Lib.hid hg7
      have hH1 : Below w1.heap.size w1 V1 := hH0.trans (hb1.mono hH0.size)
      refine hKK.out _ _ hH1 (fun hHeld => ?_)
      clear hKK KK
      try simp only [Act.put, List.setIfInBounds_toArray, List.set_cons_zero, List.set_cons_succ]
      refine wpAnyH_ready (rs := [1, 7]) (by kernel_rfl) (by simp) (AllReadyH.cons rfl (fun KK hKK => ?_) (AllReadyH.cons rfl (fun KK hKK => ?_) AllReadyH.nil))
      · go_simp
        refine (HLX.out V1 hH1).mono ?_
        rintro e V2 ⟨x, hx, rfl, hTx, hb2⟩
        dsimp only [hV]
        have hH2 : Below w1.heap.size w1 V2 := hH1.trans (hb2.mono hH1.size)
        refine hKK.out _ _ hH2 (fun hHeld => ?_)
        clear hKK KK
        try simp only [Act.put, List.setIfInBounds_toArray, List.set_cons_zero, List.set_cons_succ]
        refine wpAnyH_ready (rs := [3, 7]) (by kernel_rfl) (by simp) (AllReadyH.cons rfl (fun KK hKK => ?_) (AllReadyH.cons rfl (fun KK hKK => ?_) AllReadyH.nil))
        · go_simp
          refine (HLY.out V2 hH2).mono ?_
          rintro e V3 ⟨y, hy, rfl, hTy, hb3⟩
          dsimp only [hV]
          have hH3 : Below w1.heap.size w1 V3 := hH2.trans (hb3.mono hH2.size)
          refine hKK.out _ _ hH3 (fun hHeld => ?_)
          clear hKK KK
          try simp only [Act.put, List.setIfInBounds_toArray, List.set_cons_zero, List.set_cons_succ]
          refine wpAnyH_ready (rs := [5, 7]) (by kernel_rfl) (by simp) (AllReadyH.cons rfl (fun KK hKK => ?_) (AllReadyH.cons rfl (fun KK hKK => ?_) AllReadyH.nil))
          · go_simp
            refine (HLS.out V3 hH3).mono ?_
            rintro e V4 ⟨rfl, hbk, hb4⟩
            dsimp only
            obtain ⟨i, hi⟩ : ∃ G, G = V3.heap.size := ⟨_, rfl⟩
            rw [← hi] at hbk ⊢
            replace hi := Lib.hid hi
            have hH4 : Below w1.heap.size w1 V4 := hH3.trans (hb4.mono hH3.size)
            refine hKK.out _ _ hH4 (fun hHeld => ?_)
            clear hKK KK
            try simp only [Act.put, List.setIfInBounds_toArray, List.set_cons_zero, List.set_cons_succ]
            refine wpAnyH_ready (rs := [7]) (by kernel_rfl) (by simp) (AllReadyH.cons rfl (fun KK hKK => ?_) AllReadyH.nil)
            go_simp
            obtain ⟨g8, hg8⟩ : ∃ G, G = V4.heap.size := ⟨_, rfl⟩
            rw [← hg8]
            obtain ⟨V5, hV5⟩ : ∃ V, V = V4.alloc (.cells #[.int .i64 0, .int .i64 0, .int .i64 0, .int .i64 0, .int .i64 0, .slice none 0 0] 24) := ⟨_, rfl⟩
            rw [← hV5]
            have hb5 : Below V4.heap.size V4 V5 := by rw [hV5]; exact (Below.refl _ _).alloc (Nat.le_refl _) _
            have h8 : HAt V5 g8 hz none 0 := by rw [hV5, hg8]; exact heap_alloc_new _ _
            clear hV5
            replace hg8 := Lib.hid hg8
            have hH5 : Below w1.heap.size w1 V5 := hH4.trans (hb5.mono hH4.size)
            refine hKK.out _ _ hH5 (fun hHeld => ?_)
            clear hKK KK
            try simp only [Act.put, List.setIfInBounds_toArray, List.set_cons_zero, List.set_cons_succ]
            exact HGH.out _ _ _ _ _ _ (Lib.hid ⟨hH5, ⟨Nat.le_trans hH1.size hx, hTx.same (hb3.trans ((hb4.trans (hb5.mono hb4.size)).mono hb3.size))⟩, ⟨Nat.le_trans hH2.size hy, hTy.same (hb4.trans (hb5.mono hb4.size))⟩, ⟨Nat.le_trans hH3.size (Nat.le_of_eq hi.out.symm), hbk.same hb5⟩, ⟨Nat.le_trans hH0.size (Nat.le_of_eq hg7.out.symm), h7.same (hb2.trans ((hb3.trans ((hb4.trans (hb5.mono hb4.size)).mono hb3.size)).mono hb2.size))⟩, ⟨Nat.le_trans hH4.size (Nat.le_of_eq hg8.out.symm), h8.same (Below.refl V5.heap.size V5)⟩, Nat.ne_of_lt (Nat.lt_of_lt_of_le h7.lt (Nat.le_trans (hb2.trans ((hb3.trans (hb4.mono hb3.size)).mono hb2.size)).size (Nat.le_of_eq hg8.out.symm)))⟩)
          · go_simp
            obtain ⟨g8, hg8⟩ : ∃ G, G = V3.heap.size := ⟨_, rfl⟩
            rw [← hg8]
            obtain ⟨V4, hV4⟩ : ∃ V, V = V3.alloc (.cells #[.int .i64 0, .int .i64 0, .int .i64 0, .int .i64 0, .int .i64 0, .slice none 0 0] 24) := ⟨_, rfl⟩
            rw [← hV4]
            have hb4 : Below V3.heap.size V3 V4 := by rw [hV4]; exact (Below.refl _ _).alloc (Nat.le_refl _) _
            have h8 : HAt V4 g8 hz none 0 := by rw [hV4, hg8]; exact heap_alloc_new _ _
            clear hV4
            replace hg8 := Lib.hid hg8
            have hH4 : Below w1.heap.size w1 V4 := hH3.trans (hb4.mono hH3.size)
            refine hKK.out _ _ hH4 (fun hHeld => ?_)
            clear hKK KK
            try simp only [Act.put, List.setIfInBounds_toArray, List.set_cons_zero, List.set_cons_succ]
            refine wpAnyH_ready (rs := [5]) (by kernel_rfl) (by simp) (AllReadyH.cons rfl (fun KK hKK => ?_) AllReadyH.nil)
            go_simp
            refine (HLS.out V4 hH4).mono ?_
            rintro e V5 ⟨rfl, hbk, hb5⟩
            dsimp only
            obtain ⟨i, hi⟩ : ∃ G, G = V4.heap.size := ⟨_, rfl⟩
            rw [← hi] at hbk ⊢
            replace hi := Lib.hid hi
            have hH5 : Below w1.heap.size w1 V5 := hH4.trans (hb5.mono hH4.size)
            refine hKK.out _ _ hH5 (fun hHeld => ?_)
            clear hKK KK
            try simp only [Act.put, List.setIfInBounds_toArray, List.set_cons_zero, List.set_cons_succ]
            exact HGH.out _ _ _ _ _ _ (Lib.hid ⟨hH5, ⟨Nat.le_trans hH1.size hx, hTx.same (hb3.trans ((hb4.trans (hb5.mono hb4.size)).mono hb3.size))⟩, ⟨Nat.le_trans hH2.size hy, hTy.same (hb4.trans (hb5.mono hb4.size))⟩, ⟨Nat.le_trans hH4.size (Nat.le_of_eq hi.out.symm), hbk.same (Below.refl V5.heap.size V5)⟩, ⟨Nat.le_trans hH0.size (Nat.le_of_eq hg7.out.symm), h7.same (hb2.trans ((hb3.trans ((hb4.trans (hb5.mono hb4.size)).mono hb3.size)).mono hb2.size))⟩, ⟨Nat.le_trans hH3.size (Nat.le_of_eq hg8.out.symm), h8.same hb5⟩, Nat.ne_of_lt (Nat.lt_of_lt_of_le h7.lt (Nat.le_trans (hb2.trans (hb3.mono hb2.size)).size (Nat.le_of_eq hg8.out.symm)))⟩)
        · go_simp
          obtain ⟨g8, hg8⟩ : ∃ G, G = V2.heap.size := ⟨_, rfl⟩
          rw [← hg8]
          obtain ⟨V3, hV3⟩ : ∃ V, V = V2.alloc (.cells #[.int .i64 0, .int .i64 0, .int .i64 0, .int .i64 0, .int .i64 0, .slice none 0 0] 24) := ⟨_, rfl⟩
          rw [← hV3]
          have hb3 : Below V2.heap.size V2 V3 := by rw [hV3]; exact (Below.refl _ _).alloc (Nat.le_refl _) _
          have h8 : HAt V3 g8 hz none 0 := by rw [hV3, hg8]; exact heap_alloc_new _ _
          clear hV3
          replace hg8 := Lib.hid hg8
          have hH3 : Below w1.heap.size w1 V3 := hH2.trans (hb3.mono hH2.size)
          refine hKK.out _ _ hH3 (fun hHeld => ?_)
          clear hKK KK
          try simp only [Act.put, List.setIfInBounds_toArray, List.set_cons_zero, List.set_cons_succ]
          refine wpAnyH_ready (rs := [3]) (by kernel_rfl) (by simp) (AllReadyH.cons rfl (fun KK hKK => ?_) AllReadyH.nil)
          go_simp
          refine (HLY.out V3 hH3).mono ?_
          rintro e V4 ⟨y, hy, rfl, hTy, hb4⟩
          dsimp only [hV]
          have hH4 : Below w1.heap.size w1 V4 := hH3.trans (hb4.mono hH3.size)
          refine hKK.out _ _ hH4 (fun hHeld => ?_)
          clear hKK KK
          try simp only [Act.put, List.setIfInBounds_toArray, List.set_cons_zero, List.set_cons_succ]
          refine wpAnyH_ready (rs := [5]) (by kernel_rfl) (by simp) (AllReadyH.cons rfl (fun KK hKK => ?_) AllReadyH.nil)
          go_simp
          refine (HLS.out V4 hH4).mono ?_
          rintro e V5 ⟨rfl, hbk, hb5⟩
          dsimp only
          obtain ⟨i, hi⟩ : ∃ G, G = V4.heap.size := ⟨_, rfl⟩
          rw [← hi] at hbk ⊢
          replace hi := Lib.hid hi
          have hH5 : Below w1.heap.size w1 V5 := hH4.trans (hb5.mono hH4.size)
          refine hKK.out _ _ hH5 (fun hHeld => ?_)
          clear hKK KK
          try simp only [Act.put, List.setIfInBounds_toArray, List.set_cons_zero, List.set_cons_succ]
          exact HGH.out _ _ _ _ _ _ (Lib.hid ⟨hH5, ⟨Nat.le_trans hH1.size hx, hTx.same (hb3.trans ((hb4.trans (hb5.mono hb4.size)).mono hb3.size))⟩, ⟨Nat.le_trans hH3.size hy, hTy.same hb5⟩, ⟨Nat.le_trans hH4.size (Nat.le_of_eq hi.out.symm), hbk.same (Below.refl V5.heap.size V5)⟩, ⟨Nat.le_trans hH0.size (Nat.le_of_eq hg7.out.symm), h7.same (hb2.trans ((hb3.trans ((hb4.trans (hb5.mono hb4.size)).mono hb3.size)).mono hb2.size))⟩, ⟨Nat.le_trans hH2.size (Nat.le_of_eq hg8.out.symm), h8.same (hb4.trans (hb5.mono hb4.size))⟩, Nat.ne_of_lt (Nat.lt_of_lt_of_le h7.lt (Nat.le_trans hb2.size (Nat.le_of_eq hg8.out.symm)))⟩)
      · go_simp
        obtain ⟨g8, hg8⟩ : ∃ G, G = V1.heap.size := ⟨_, rfl⟩
        rw [← hg8]
        obtain ⟨V2, hV2⟩ : ∃ V, V = V1.alloc (.cells #[.int .i64 0, .int .i64 0, .int .i64 0, .int .i64 0, .int .i64 0, .slice none 0 0] 24) := ⟨_, rfl⟩
        rw [← hV2]
        have hb2 : Below V1.heap.size V1 V2 := by rw [hV2]; exact (Below.refl _ _).alloc (Nat.le_refl _) _
        have h8 : HAt V2 g8 hz none 0 := by rw [hV2, hg8]; exact heap_alloc_new _ _
        clear hV2
        replace hg8 := Lib.hid hg8
        have hH2 : Below w1.heap.size w1 V2 := hH1.trans (hb2.mono hH1.size)
        refine hKK.out _ _ hH2 (fun hHeld => ?_)
        clear hKK KK
        try simp only [Act.put, List.setIfInBounds_toArray, List.set_cons_zero, List.set_cons_succ]
        refine wpAnyH_ready (rs := [1]) (by kernel_rfl) (by simp) (AllReadyH.cons rfl (fun KK hKK => ?_) AllReadyH.nil)
        go_simp
        refine (HLX.out V2 hH2).mono ?_
        rintro e V3 ⟨x, hx, rfl, hTx, hb3⟩
        dsimp only [hV]
        have hH3 : Below w1.heap.size w1 V3 := hH2.trans (hb3.mono hH2.size)
        refine hKK.out _ _ hH3 (fun hHeld => ?_)
        clear hKK KK
        try simp only [Act.put, List.setIfInBounds_toArray, List.set_cons_zero, List.set_cons_succ]
        refine wpAnyH_ready (rs := [3]) (by kernel_rfl) (by simp) (AllReadyH.cons rfl (fun KK hKK => ?_) AllReadyH.nil)
        go_simp
        refine (HLY.out V3 hH3).mono ?_
        rintro e V4 ⟨y, hy, rfl, hTy, hb4⟩
        dsimp only [hV]
        have hH4 : Below w1.heap.size w1 V4 := hH3.trans (hb4.mono hH3.size)
        refine hKK.out _ _ hH4 (fun hHeld => ?_)
        clear hKK KK
        try simp only [Act.put, List.setIfInBounds_toArray, List.set_cons_zero, List.set_cons_succ]
        refine wpAnyH_ready (rs := [5]) (by kernel_rfl) (by simp) (AllReadyH.cons rfl (fun KK hKK => ?_) AllReadyH.nil)
        go_simp
        refine (HLS.out V4 hH4).mono ?_
        rintro e V5 ⟨rfl, hbk, hb5⟩
        dsimp only
        obtain ⟨i, hi⟩ : ∃ G, G = V4.heap.size := ⟨_, rfl⟩
        rw [← hi] at hbk ⊢
        replace hi := Lib.hid hi
        have hH5 : Below w1.heap.size w1 V5 := hH4.trans (hb5.mono hH4.size)
        refine hKK.out _ _ hH5 (fun hHeld => ?_)
        clear hKK KK
        try simp only [Act.put, List.setIfInBounds_toArray, List.set_cons_zero, List.set_cons_succ]
        exact HGH.out _ _ _ _ _ _ (Lib.hid ⟨hH5, ⟨Nat.le_trans hH2.size hx, hTx.same (hb4.trans (hb5.mono hb4.size))⟩, ⟨Nat.le_trans hH3.size hy, hTy.same hb5⟩, ⟨Nat.le_trans hH4.size (Nat.le_of_eq hi.out.symm), hbk.same (Below.refl V5.heap.size V5)⟩, ⟨Nat.le_trans hH0.size (Nat.le_of_eq hg7.out.symm), h7.same (hb2.trans ((hb3.trans ((hb4.trans (hb5.mono hb4.size)).mono hb3.size)).mono hb2.size))⟩, ⟨Nat.le_trans hH1.size (Nat.le_of_eq hg8.out.symm), h8.same (hb3.trans ((hb4.trans (hb5.mono hb4.size)).mono hb3.size))⟩, Nat.ne_of_lt (Nat.lt_of_lt_of_le h7.lt (Nat.le_trans (Below.refl V1.heap.size V1).size (Nat.le_of_eq hg8.out.symm)))⟩)
    · go_simp
      obtain ⟨g8, hg8⟩ : ∃ G, G = V0.heap.size := ⟨_, rfl⟩
      rw [← hg8]
      obtain ⟨V1, hV1⟩ : ∃ V, V = V0.alloc (.cells #[.int .i64 0, .int .i64 0, .int .i64 0, .int .i64 0, .int .i64 0, .slice none 0 0] 24) := ⟨_, rfl⟩
      rw [← hV1]
      have hb1 : Below V0.heap.size V0 V1 := by rw [hV1]; exact (Below.refl _ _).alloc (Nat.le_refl _) _
      have h8 : HAt V1 g8 hz none 0 := by rw [hV1, hg8]; exact heap_alloc_new _ _
      clear hV1
      replace hg8 := Lib.hid hg8
      have hH1 : Below w1.heap.size w1 V1 := hH0.trans (hb1.mono hH0.size)
      refine hKK.out _ _ hH1 (fun hHeld => ?_)
      clear hKK KK
      try simp only [Act.put, List.setIfInBounds_toArray, List.set_cons_zero, List.set_cons_succ]
      refine wpAnyH_ready (rs := [1, 6]) (by kernel_rfl) (by simp) (AllReadyH.cons rfl (fun KK hKK => ?_) (AllReadyH.cons rfl (fun KK hKK => ?_) AllReadyH.nil))
      · go_simp
        refine (HLX.out V1 hH1).mono ?_
        rintro e V2 ⟨x, hx, rfl, hTx, hb2⟩
        dsimp only [hV]
        have hH2 : Below w1.heap.size w1 V2 := hH1.trans (hb2.mono hH1.size)
        refine hKK.out _ _ hH2 (fun hHeld => ?_)
        clear hKK KK
        try simp only [Act.put, List.setIfInBounds_toArray, List.set_cons_zero, List.set_cons_succ]
        refine wpAnyH_ready (rs := [3, 6]) (by kernel_rfl) (by simp) (AllReadyH.cons rfl (fun KK hKK => ?_) (AllReadyH.cons rfl (fun KK hKK => ?_) AllReadyH.nil))
        · go_simp
          refine (HLY.out V2 hH2).mono ?_
          rintro e V3 ⟨y, hy, rfl, hTy, hb3⟩
          dsimp only [hV]
          have hH3 : Below w1.heap.size w1 V3 := hH2.trans (hb3.mono hH2.size)
          refine hKK.out _ _ hH3 (fun hHeld => ?_)
          clear hKK KK
          try simp only [Act.put, List.setIfInBounds_toArray, List.set_cons_zero, List.set_cons_succ]
          refine wpAnyH_ready (rs := [5, 6]) (by kernel_rfl) (by simp) (AllReadyH.cons rfl (fun KK hKK => ?_) (AllReadyH.cons rfl (fun KK hKK => ?_) AllReadyH.nil))
          · go_simp
            refine (HLS.out V3 hH3).mono ?_
            rintro e V4 ⟨rfl, hbk, hb4⟩
            dsimp only
            obtain ⟨i, hi⟩ : ∃ G, G = V3.heap.size := ⟨_, rfl⟩
            rw [← hi] at hbk ⊢
            replace hi := Lib.hid hi
            have hH4 : Below w1.heap.size w1 V4 := hH3.trans (hb4.mono hH3.size)
            refine hKK.out _ _ hH4 (fun hHeld => ?_)
            clear hKK KK
            try simp only [Act.put, List.setIfInBounds_toArray, List.set_cons_zero, List.set_cons_succ]
            refine wpAnyH_ready (rs := [6]) (by kernel_rfl) (by simp) (AllReadyH.cons rfl (fun KK hKK => ?_) AllReadyH.nil)
            go_simp
            obtain ⟨g7, hg7⟩ : ∃ G, G = V4.heap.size := ⟨_, rfl⟩
            rw [← hg7]
            obtain ⟨V5, hV5⟩ : ∃ V, V = V4.alloc (.cells #[.int .i64 0, .int .i64 0, .int .i64 0, .int .i64 0, .int .i64 0, .slice none 0 0] 24) := ⟨_, rfl⟩
            rw [← hV5]
            have hb5 : Below V4.heap.size V4 V5 := by rw [hV5]; exact (Below.refl _ _).alloc (Nat.le_refl _) _
            have h7 : HAt V5 g7 hz none 0 := by rw [hV5, hg7]; exact heap_alloc_new _ _
            clear hV5
            replace hg7 := Lib.hid hg7
            have hH5 : Below w1.heap.size w1 V5 := hH4.trans (hb5.mono hH4.size)
            refine hKK.out _ _ hH5 (fun hHeld => ?_)
            clear hKK KK
            try simp only [Act.put, List.setIfInBounds_toArray, List.set_cons_zero, List.set_cons_succ]
            exact HGH.out _ _ _ _ _ _ (Lib.hid ⟨hH5, ⟨Nat.le_trans hH1.size hx, hTx.same (hb3.trans ((hb4.trans (hb5.mono hb4.size)).mono hb3.size))⟩, ⟨Nat.le_trans hH2.size hy, hTy.same (hb4.trans (hb5.mono hb4.size))⟩, ⟨Nat.le_trans hH3.size (Nat.le_of_eq hi.out.symm), hbk.same hb5⟩, ⟨Nat.le_trans hH4.size (Nat.le_of_eq hg7.out.symm), h7.same (Below.refl V5.heap.size V5)⟩, ⟨Nat.le_trans hH0.size (Nat.le_of_eq hg8.out.symm), h8.same (hb2.trans ((hb3.trans ((hb4.trans (hb5.mono hb4.size)).mono hb3.size)).mono hb2.size))⟩, Nat.ne_of_gt (Nat.lt_of_lt_of_le h8.lt (Nat.le_trans (hb2.trans ((hb3.trans (hb4.mono hb3.size)).mono hb2.size)).size (Nat.le_of_eq hg7.out.symm)))⟩)
          · go_simp
            obtain ⟨g7, hg7⟩ : ∃ G, G = V3.heap.size := ⟨_, rfl⟩
            rw [← hg7]
            obtain ⟨V4, hV4⟩ : ∃ V, V = V3.alloc (.cells #[.int .i64 0, .int .i64 0, .int .i64 0, .int .i64 0, .int .i64 0, .slice none 0 0] 24) := ⟨_, rfl⟩
            rw [← hV4]
            have hb4 : Below V3.heap.size V3 V4 := by rw [hV4]; exact (Below.refl _ _).alloc (Nat.le_refl _) _
            have h7 : HAt V4 g7 hz none 0 := by rw [hV4, hg7]; exact heap_alloc_new _ _
            clear hV4
            replace hg7 := Lib.hid hg7
            have hH4 : Below w1.heap.size w1 V4 := hH3.trans (hb4.mono hH3.size)
            refine hKK.out _ _ hH4 (fun hHeld => ?_)
            clear hKK KK
            try simp only [Act.put, List.setIfInBounds_toArray, List.set_cons_zero, List.set_cons_succ]
            refine wpAnyH_ready (rs := [5]) (by kernel_rfl) (by simp) (AllReadyH.cons rfl (fun KK hKK => ?_) AllReadyH.nil)
            go_simp
            refine (HLS.out V4 hH4).mono ?_
            rintro e V5 ⟨rfl, hbk, hb5⟩
            dsimp only
            obtain ⟨i, hi⟩ : ∃ G, G = V4.heap.size := ⟨_, rfl⟩
            rw [← hi] at hbk ⊢
            replace hi := Lib.hid hi
            have hH5 : Below w1.heap.size w1 V5 := hH4.trans (hb5.mono hH4.size)
            refine hKK.out _ _ hH5 (fun hHeld => ?_)
            clear hKK KK
            try simp only [Act.put, List.setIfInBounds_toArray, List.set_cons_zero, List.set_cons_succ]
            exact HGH.out _ _ _ _ _ _ (Lib.hid ⟨hH5, ⟨Nat.le_trans hH1.size hx, hTx.same (hb3.trans ((hb4.trans (hb5.mono hb4.size)).mono hb3.size))⟩, ⟨Nat.le_trans hH2.size hy, hTy.same (hb4.trans (hb5.mono hb4.size))⟩, ⟨Nat.le_trans hH4.size (Nat.le_of_eq hi.out.symm), hbk.same (Below.refl V5.heap.size V5)⟩, ⟨Nat.le_trans hH3.size (Nat.le_of_eq hg7.out.symm), h7.same hb5⟩, ⟨Nat.le_trans hH0.size (Nat.le_of_eq hg8.out.symm), h8.same (hb2.trans ((hb3.trans ((hb4.trans (hb5.mono hb4.size)).mono hb3.size)).mono hb2.size))⟩, Nat.ne_of_gt (Nat.lt_of_lt_of_le h8.lt (Nat.le_trans (hb2.trans (hb3.mono hb2.size)).size (Nat.le_of_eq hg7.out.symm)))⟩)
        · go_simp
          obtain ⟨g7, hg7⟩ : ∃ G, G = V2.heap.size := ⟨_, rfl⟩
          rw [← hg7]
          obtain ⟨V3, hV3⟩ : ∃ V, V = V2.alloc (.cells #[.int .i64 0, .int .i64 0, .int .i64 0, .int .i64 0, .int .i64 0, .slice none 0 0] 24) := ⟨_, rfl⟩
          rw [← hV3]
          have hb3 : Below V2.heap.size V2 V3 := by rw [hV3]; exact (Below.refl _ _).alloc (Nat.le_refl _) _
          have h7 : HAt V3 g7 hz none 0 := by rw [hV3, hg7]; exact heap_alloc_new _ _
          clear hV3
          replace hg7 := Lib.hid hg7
          have hH3 : Below w1.heap.size w1 V3 := hH2.trans (hb3.mono hH2.size)
          refine hKK.out _ _ hH3 (fun hHeld => ?_)
          clear hKK KK
          try simp only [Act.put, List.setIfInBounds_toArray, List.set_cons_zero, List.set_cons_succ]
          refine wpAnyH_ready (rs := [3]) (by kernel_rfl) (by simp) (AllReadyH.cons rfl (fun KK hKK => ?_) AllReadyH.nil)
          go_simp
          refine (HLY.out V3 hH3).mono ?_
          rintro e V4 ⟨y, hy, rfl, hTy, hb4⟩
          dsimp only [hV]
          have hH4 : Below w1.heap.size w1 V4 := hH3.trans (hb4.mono hH3.size)
          refine hKK.out _ _ hH4 (fun hHeld => ?_)
          clear hKK KK
          try simp only [Act.put, List.setIfInBounds_toArray, List.set_cons_zero, List.set_cons_succ]
          refine wpAnyH_ready (rs := [5]) (by kernel_rfl) (by simp) (AllReadyH.cons rfl (fun KK hKK => ?_) AllReadyH.nil)
          go_simp
          refine (HLS.out V4 hH4).mono ?_
          rintro e V5 ⟨rfl, hbk, hb5⟩
          dsimp only
          obtain ⟨i, hi⟩ : ∃ G, G = V4.heap.size := ⟨_, rfl⟩
          rw [← hi] at hbk ⊢
          replace hi := Lib.hid hi
          have hH5 : Below w1.heap.size w1 V5 := hH4.trans (hb5.mono hH4.size)
          refine hKK.out _ _ hH5 (fun hHeld => ?_)
          clear hKK KK
          try simp only [Act.put, List.setIfInBounds_toArray, List.set_cons_zero, List.set_cons_succ]
          exact HGH.out _ _ _ _ _ _ (Lib.hid ⟨hH5, ⟨Nat.le_trans hH1.size hx, hTx.same (hb3.trans ((hb4.trans (hb5.mono hb4.size)).mono hb3.size))⟩, ⟨Nat.le_trans hH3.size hy, hTy.same hb5⟩, ⟨Nat.le_trans hH4.size (Nat.le_of_eq hi.out.symm), hbk.same (Below.refl V5.heap.size V5)⟩, ⟨Nat.le_trans hH2.size (Nat.le_of_eq hg7.out.symm), h7.same (hb4.trans (hb5.mono hb4.size))⟩, ⟨Nat.le_trans hH0.size (Nat.le_of_eq hg8.out.symm), h8.same (hb2.trans ((hb3.trans ((hb4.trans (hb5.mono hb4.size)).mono hb3.size)).mono hb2.size))⟩, Nat.ne_of_gt (Nat.lt_of_lt_of_le h8.lt (Nat.le_trans hb2.size (Nat.le_of_eq hg7.out.symm)))⟩)
      · go_simp
        obtain ⟨g7, hg7⟩ : ∃ G, G = V1.heap.size := ⟨_, rfl⟩
        rw [← hg7]
        obtain ⟨V2, hV2⟩ : ∃ V, V = V1.alloc (.cells #[.int .i64 0, .int .i64 0, .int .i64 0, .int .i64 0, .int .i64 0, .slice none 0 0] 24) := ⟨_, rfl⟩
        rw [← hV2]
        have hb2 : Below V1.heap.size V1 V2 := by rw [hV2]; exact (Below.refl _ _).alloc (Nat.le_refl _) _
        have h7 : HAt V2 g7 hz none 0 := by rw [hV2, hg7]; exact heap_alloc_new _ _
        clear hV2
        replace hg7 := Lib.hid hg7
        have hH2 : Below w1.heap.size w1 V2 := hH1.trans (hb2.mono hH1.size)
        refine hKK.out _ _ hH2 (fun hHeld => ?_)
        clear hKK KK
        try simp only [Act.put, List.setIfInBounds_toArray, List.set_cons_zero, List.set_cons_succ]
        refine wpAnyH_ready (rs := [1]) (by kernel_rfl) (by simp) (AllReadyH.cons rfl (fun KK hKK => ?_) AllReadyH.nil)
        go_simp
        refine (HLX.out V2 hH2).mono ?_
        rintro e V3 ⟨x, hx, rfl, hTx, hb3⟩
        dsimp only [hV]
        have hH3 : Below w1.heap.size w1 V3 := hH2.trans (hb3.mono hH2.size)
        refine hKK.out _ _ hH3 (fun hHeld => ?_)
        clear hKK KK
        try simp only [Act.put, List.setIfInBounds_toArray, List.set_cons_zero, List.set_cons_succ]
        refine wpAnyH_ready (rs := [3]) (by kernel_rfl) (by simp) (AllReadyH.cons rfl (fun KK hKK => ?_) AllReadyH.nil)
        go_simp
        refine (HLY.out V3 hH3).mono ?_
        rintro e V4 ⟨y, hy, rfl, hTy, hb4⟩
        dsimp only [hV]
        have hH4 : Below w1.heap.size w1 V4 := hH3.trans (hb4.mono hH3.size)
        refine hKK.out _ _ hH4 (fun hHeld => ?_)
        clear hKK KK
        try simp only [Act.put, List.setIfInBounds_toArray, List.set_cons_zero, List.set_cons_succ]
        refine wpAnyH_ready (rs := [5]) (by kernel_rfl) (by simp) (AllReadyH.cons rfl (fun KK hKK => ?_) AllReadyH.nil)
        go_simp
        refine (HLS.out V4 hH4).mono ?_
        rintro e V5 ⟨rfl, hbk, hb5⟩
        dsimp only
        obtain ⟨i, hi⟩ : ∃ G, G = V4.heap.size := ⟨_, rfl⟩
        rw [← hi] at hbk ⊢
        replace hi := Lib.hid hi
        have hH5 : Below w1.heap.size w1 V5 := hH4.trans (hb5.mono hH4.size)
        refine hKK.out _ _ hH5 (fun hHeld => ?_)
        clear hKK KK
        try simp only [Act.put, List.setIfInBounds_toArray, List.set_cons_zero, List.set_cons_succ]
        exact HGH.out _ _ _ _ _ _ (Lib.hid ⟨hH5, ⟨Nat.le_trans hH2.size hx, hTx.same (hb4.trans (hb5.mono hb4.size))⟩, ⟨Nat.le_trans hH3.size hy, hTy.same hb5⟩, ⟨Nat.le_trans hH4.size (Nat.le_of_eq hi.out.symm), hbk.same (Below.refl V5.heap.size V5)⟩, ⟨Nat.le_trans hH1.size (Nat.le_of_eq hg7.out.symm), h7.same (hb3.trans ((hb4.trans (hb5.mono hb4.size)).mono hb3.size))⟩, ⟨Nat.le_trans hH0.size (Nat.le_of_eq hg8.out.symm), h8.same (hb2.trans ((hb3.trans ((hb4.trans (hb5.mono hb4.size)).mono hb3.size)).mono hb2.size))⟩, Nat.ne_of_gt (Nat.lt_of_lt_of_le h8.lt (Nat.le_trans (Below.refl V1.heap.size V1).size (Nat.le_of_eq hg7.out.symm)))⟩)
  case shG =>
    intro x y i g7 g8 W9 HALL
    obtain ⟨hH5, ⟨hx, hTx⟩, ⟨hy, hTy⟩, ⟨hi, hbk⟩, ⟨hg7, h7⟩, ⟨hg8, h8⟩, hne⟩ := HALL.out
    clear HALL
    have HX7 := Lib.hid (tb_ne hTx h7); have HX8 := Lib.hid (tb_ne hTx h8); have HY7 := Lib.hid (tb_ne hTy h7); have HY8 := Lib.hid (tb_ne hTy h8)
    have HI7 := Lib.hid (bk_ne hbk h7); have HI8 := Lib.hid (bk_ne hbk h8); have HNE := Lib.hid hne
    have HTX := Lib.hid hTx; have HTY := Lib.hid hTy; have HBK := Lib.hid hbk; have H7 := Lib.hid h7; have H8 := Lib.hid h8; have HG7 := Lib.hid hg7; have HG8 := Lib.hid hg8; have HXW := Lib.hid hx; have HYW := Lib.hid hy; have HIW := Lib.hid hi; have HH5 := Lib.hid hH5
    clear hTx hTy hbk h7 h8 hg7 hg8 hx hy hi hH5 hne hH0 HLX HLY HLS HXC HYC
    obtain ⟨z0, z1, z2, z3, z4, z5⟩ := H7.out.c
    have f0 := H7.out.free 0
    have f1 := H7.out.free 1
    have f2 := H7.out.free 2
    have f3 := H7.out.free 3
    have f4 := H7.out.free 4
    have f5 := H7.out.free 5
    refine wpAnyH_ready (rs := [8]) (by kernel_rfl) (by simp) (AllReadyH.cons rfl (fun KK hKK => ?_) AllReadyH.nil)
    go_simp
    obtain ⟨Wa, hW⟩ : ∃ W, W = ((((((W9.setCell ⟨g7, 0, none⟩ (.int .i64 h.S)).setCell ⟨g7, 1, none⟩ (.int .i64 h.F)).setCell ⟨g7, 2, none⟩ (.int .i64 h.I)).setCell ⟨g7, 3, none⟩ (.int .i64 h.N)).setCell ⟨g7, 4, none⟩ (.int .i64 h.D)).setCell ⟨g7, 5, none⟩ (.slice (some ⟨x, 0, none⟩) h.m (h.m + 12))) := ⟨_, rfl⟩
    rw [← hW]
    have hoth : ∀ j, j ≠ g7 → Wa.heap[j]? = W9.heap[j]? := fun j hj => by rw [hW]; exact kept6 hj _ _ _ _ _ _
    have HH6 := Lib.hid (show Below w1.heap.size w1 Wa by rw [hW]; exact below6 HH5.out HG7.out _ _ _ _ _ _)
    have H7' := Lib.hid (show HAt Wa g7 h (some ⟨x, 0, none⟩) (h.m + 12) by rw [hW]; exact put6 H7.out _ _ _ _ _ _)
    have HTX1 := Lib.hid (Tb.blk HTX.out (hoth x HX7.out))
    have HTY1 := Lib.hid (Tb.blk HTY.out (hoth y HY7.out))
    have HBK1 := Lib.hid (bk_kept HBK.out (hoth i HI7.out))
    have H81 := Lib.hid (H8.out.oth (hoth g8 (Ne.symm HNE.out)))
    clear hW hoth z0 z1 z2 z3 z4 z5 f0 f1 f2 f3 f4 f5
    refine hKK.out _ _ HH6.out (fun hHeld => ?_)
    clear hKK KK HH5
    try simp only [Act.put, List.setIfInBounds_toArray, List.set_cons_zero, List.set_cons_succ]
    have HH5 := HH6
    clear HH6
    clear H7 H8 HTX HTY HBK
    have H8 := H81
    clear H81
    obtain ⟨z0, z1, z2, z3, z4, z5⟩ := H8.out.c
    have f0 := H8.out.free 0
    have f1 := H8.out.free 1
    have f2 := H8.out.free 2
    have f3 := H8.out.free 3
    have f4 := H8.out.free 4
    have f5 := H8.out.free 5
    refine wpAnyH_ready (rs := [9]) (by kernel_rfl) (by simp) (AllReadyH.cons rfl (fun KK hKK => ?_) AllReadyH.nil)
    go_simp
    obtain ⟨Wb, hW⟩ : ∃ W, W = ((((((Wa.setCell ⟨g8, 0, none⟩ (.int .i64 g.S)).setCell ⟨g8, 1, none⟩ (.int .i64 g.F)).setCell ⟨g8, 2, none⟩ (.int .i64 g.I)).setCell ⟨g8, 3, none⟩ (.int .i64 g.N)).setCell ⟨g8, 4, none⟩ (.int .i64 g.D)).setCell ⟨g8, 5, none⟩ (.slice (some ⟨y, 0, none⟩) g.m (g.m + 12))) := ⟨_, rfl⟩
    rw [← hW]
    have hoth : ∀ j, j ≠ g8 → Wb.heap[j]? = Wa.heap[j]? := fun j hj => by rw [hW]; exact kept6 hj _ _ _ _ _ _
    have HH6 := Lib.hid (show Below w1.heap.size w1 Wb by rw [hW]; exact below6 HH5.out HG8.out _ _ _ _ _ _)
    have H8' := Lib.hid (show HAt Wb g8 g (some ⟨y, 0, none⟩) (g.m + 12) by rw [hW]; exact put6 H8.out _ _ _ _ _ _)
    have HTX := Lib.hid (Tb.blk HTX1.out (hoth x HX8.out))
    have HTY := Lib.hid (Tb.blk HTY1.out (hoth y HY8.out))
    have HBK := Lib.hid (bk_kept HBK1.out (hoth i HI8.out))
    have H72 := Lib.hid (H7'.out.oth (hoth g7 HNE.out))
    clear hW hoth z0 z1 z2 z3 z4 z5 f0 f1 f2 f3 f4 f5
    refine hKK.out _ _ HH6.out (fun hHeld => ?_)
    clear hKK KK HH5
    try simp only [Act.put, List.setIfInBounds_toArray, List.set_cons_zero, List.set_cons_succ]
    have HH5 := HH6
    clear HH6
    clear H7' H8 HTX1 HTY1 HBK1
    have H7 := H72; have H8 := H8'
    clear H72 H8'
    refine wpAnyH_take (i := 10) (oi := ⟨some 9, _, _, _, _, none⟩) (v := (.slice (some ⟨i, 0, none⟩) n (n + 12))) rfl (by kernel_rfl) (by kernel_rfl) (by kernel_rfl) (fun _ _ _ h => h) (Or.inl ⟨by rfl, fun W hW => ?_⟩) (by assumption) ?_
    · go_simp
    simp only [Act.put, List.setIfInBounds_toArray, List.set_cons_zero, List.set_cons_succ]
    refine wpAnyH_done (by kernel_rfl) ?_ _
    have HBb := Lib.hid (HB.out.trans (HH5.out.mono HB.out.size))
    have HSI := Lib.hid ((HBK.out.nw (Nat.zero_le _) HS.out.bytes HS.out.up hl3).sl)
    have HXb := Lib.hid (HX.out.same HH5.out); have HYb := Lib.hid (HY.out.same HH5.out)
    have HGOOD := Lib.hid (show n ≤ 1000000 by have := HBIG.out; omega)
    have HPU := Lib.hid ((phput_any h (some ⟨x, 0, none⟩) (some ⟨i, 0, none⟩) (h.m + 12) n (n + 12) f HGOOD.out Wb (Tb.orig HTX.out) HSI.out).mono (R' := fun e w' => (∃ pa pc, e = .returned (.tuple #[.slice pa (qM h n) pc, .int .i64 (qE h n)]) ∧ Oz.OzRow w' Wb.heap.size 5 1 (.slice pa (qM h n) pc) (qM h n) (rowv (qF h n f) (qM h n)) ∧ Sl w' pa (qM h n) pc (qF h n f)) ∧ Below Wb.heap.size Wb w') (fun e w' ⟨q, hB⟩ => ⟨q.out HS.out.bytes, hB⟩))
    obtain ⟨M, hM⟩ : ∃ M, M = qM h n := ⟨_, rfl⟩
    obtain ⟨er, her⟩ : ∃ er, er = qE h n := ⟨_, rfl⟩
    obtain ⟨F, hF⟩ : ∃ F, F = qF h n f := ⟨_, rfl⟩
    rw [← hM, ← her, ← hF] at HPU
    have HRU := Lib.hid (fun W (hT : Tb W a h.m h.K h.L) (hb : Sl W ba n bc f) => (rput_any h a ba c n bc f HGOOD.out (by have := HBIG.out; omega) W hT hb).mono (R' := fun e w' => (∃ pa pc, e = .returned (.tuple #[.slice pa M pc, .int .i64 er]) ∧ Sl w' pa M pc F) ∧ Below W.heap.size W w') (fun e w' ⟨q, hB⟩ => ⟨by rw [hM, her, hF]; exact q.out2, hB⟩))
    have HMB := Lib.hid (show M ≤ 100000 by rw [hM]; exact qM_le h (by have := HBIG.out; omega))
    unfold hV at HPU HRU
    clear hM her hF hl1 hl2
    obtain ⟨c0, c1, c2, c3, c4, c5⟩ := H7.out.c
    go_wp2_with fail
    clear c0 c1 c2 c3 c4 c5
    refine HPU.out.mono ?_
    rintro e Wc ⟨⟨pa, pc, rfl, hoz, hsl⟩, hBc⟩
    have HOZ := Lib.hid hoz; have HSL := Lib.hid hsl; have HWB := Lib.hid (show w1.heap.size ≤ Wb.heap.size from HH5.out.size)
    have HIB := Lib.hid (show i < Wb.heap.size from (Array.getElem?_eq_some_iff.1 HBK.out).1)
    have HTX' := Lib.hid (HTX.out.same hBc)
    have HTY' := Lib.hid (HTY.out.same hBc)
    have HBK' := Lib.hid (HBK.out.same hBc)
    have H7' := Lib.hid (H7.out.same hBc)
    have H8' := Lib.hid (H8.out.same hBc)
    have HXb' := Lib.hid (HXb.out.same hBc)
    have HYb' := Lib.hid (HYb.out.same hBc)
    have HBb' := Lib.hid (HBb.out.trans (hBc.mono HBb.out.size))
    clear HTX HTY HBK H7 H8 HXb HYb HBb
    have HTX := HTX'
    have HTY := HTY'
    have HBK := HBK'
    have H7 := H7'
    have H8 := H8'
    have HXb := HXb'
    have HYb := HYb'
    have HBb := HBb'
    clear HTX' HTY' HBK' H7' H8' HXb' HYb' HBb'
    clear hoz hsl hBc HPU HH5
    obtain ⟨c0, c1, c2, c3, c4, c5⟩ := HXb.out.c
    go_wp2_with fail
    clear c0 c1 c2 c3 c4 c5
    refine (HRU.out Wc (HT.out.same HBb.out) (HS.out.same HBb.out)).mono ?_
    rintro e Wd ⟨⟨qa, qc, rfl, hsl⟩, hBd⟩
    have HSQ := Lib.hid hsl
    have HTX' := Lib.hid (HTX.out.same hBd)
    have HTY' := Lib.hid (HTY.out.same hBd)
    have HBK' := Lib.hid (HBK.out.same hBd)
    have H7' := Lib.hid (H7.out.same hBd)
    have H8' := Lib.hid (H8.out.same hBd)
    have HXb' := Lib.hid (HXb.out.same hBd)
    have HYb' := Lib.hid (HYb.out.same hBd)
    have HOZ' := Lib.hid (Oz.own_below HOZ.out hBd)
    have HSL' := Lib.hid (HSL.out.same hBd)
    have HBb' := Lib.hid (HBb.out.trans (hBd.mono HBb.out.size))
    clear HTX HTY HBK H7 H8 HXb HYb HOZ HSL HBb
    have HTX := HTX'
    have HTY := HTY'
    have HBK := HBK'
    have H7 := H7'
    have H8 := H8'
    have HXb := HXb'
    have HYb := HYb'
    have HOZ := HOZ'
    have HSL := HSL'
    have HBb := HBb'
    clear HTX' HTY' HBK' H7' H8' HXb' HYb' HOZ' HSL' HBb'
    clear hsl hBd HRU
    obtain ⟨xr, hxr⟩ : ∃ q : Bool, q = true ↔ RH h := by
      by_cases q : RH h
      · exact ⟨true, by simp [q]⟩
      · exact ⟨false, by simp [q]⟩
    obtain ⟨xl, hxl⟩ : ∃ q : Bool, q = true ↔ LH h g := by
      by_cases q : LH h g
      · exact ⟨true, by simp [q]⟩
      · exact ⟨false, by simp [q]⟩
    have b1 : h.m ≤ 140737488355328 := by have := HBIG.out; omega
    have b2 : g.m ≤ 140737488355328 := by have := HBIG.out; omega
    have HC1 := Lib.hid (fun W (hW : Below Wd.heap.size Wd W) => (same_any pa qa M pc qc F (by have := HMB.out; omega) W (HSL.out.same hW) (HSQ.out.same hW)).mono (R' := fun e w' => e = .returned (.bool true) ∧ Below W.heap.size W w') (fun e w' ⟨q, r, hr⟩ => ⟨q, by rw [hr]; exact below_dr (Below.refl _ _) r⟩))
    have HC2 := Lib.hid (fun W (hW : Below Wd.heap.size Wd W) => bool_at hxr (phright_any h (some ⟨x, 0, none⟩) (h.m + 12) W ((Tb.orig HTX.out).same hW)))
    have HC3 := Lib.hid (fun W (hW : Below Wd.heap.size Wd W) => bool_at hxr (rhright_any h a c W ((HT.out.same HBb.out).same hW)))
    have HC4 := Lib.hid (fun W (hW : Below Wd.heap.size Wd W) => bool_at hxl (phlike_any h g (some ⟨x, 0, none⟩) (some ⟨y, 0, none⟩) (h.m + 12) (g.m + 12) b1 b2 W ((Tb.orig HTX.out).same hW) ((Tb.orig HTY.out).same hW)))
    have HC5 := Lib.hid (fun W (hW : Below Wd.heap.size Wd W) => bool_at hxl (rlike_any h g a b c d b1 b2 W ((HT.out.same HBb.out).same hW) ((HU.out.same HBb.out).same hW)))
    unfold hV at HC2 HC3 HC4 HC5
    clear hxr hxl b1 b2
    obtain ⟨c0, c1, c2, c3, c4, c5⟩ := H7.out.c
    have yc0 := fun d os => cell_regrown c0 d os
    have yc1 := fun d os => cell_regrown c1 d os
    have yc2 := fun d os => cell_regrown c2 d os
    have yc3 := fun d os => cell_regrown c3 d os
    have yc4 := fun d os => cell_regrown c4 d os
    have yc5 := fun d os => cell_regrown c5 d os
    obtain ⟨d0, d1, d2, d3, d4, d5⟩ := H8.out.c
    have yd0 := fun d os => cell_regrown d0 d os
    have yd1 := fun d os => cell_regrown d1 d os
    have yd2 := fun d os => cell_regrown d2 d os
    have yd3 := fun d os => cell_regrown d3 d os
    have yd4 := fun d os => cell_regrown d4 d os
    have yd5 := fun d os => cell_regrown d5 d os
    obtain ⟨p0, p1, p2, p3, p4, p5⟩ := HXb.out.c
    have yp0 := fun d os => cell_regrown p0 d os
    have yp1 := fun d os => cell_regrown p1 d os
    have yp2 := fun d os => cell_regrown p2 d os
    have yp3 := fun d os => cell_regrown p3 d os
    have yp4 := fun d os => cell_regrown p4 d os
    have yp5 := fun d os => cell_regrown p5 d os
    obtain ⟨r0, r1, r2, r3, r4, r5⟩ := HYb.out.c
    have yr0 := fun d os => cell_regrown r0 d os
    have yr1 := fun d os => cell_regrown r1 d os
    have yr2 := fun d os => cell_regrown r2 d os
    have yr3 := fun d os => cell_regrown r3 d os
    have yr4 := fun d os => cell_regrown r4 d os
    have yr5 := fun d os => cell_regrown r5 d os
    have ge : (er == er) = true := by simp
    have gr : (xr == xr) = true := by cases xr <;> rfl
    have gl : (xl == xl) = true := by cases xl <;> rfl
    go_upto_region 6 with fail
    refine wp_region_quiet_below (by kernel_rfl) (by kernel_rfl) ?_
    repeat (go_big_quiet_step ((first | (go_at_call 11; exact Calls.regrown_of (HC1.out _ (below_regrown _ _ _))) | (go_at_call 12; exact Calls.regrown_of (HC2.out _ (below_regrown _ _ _))) | (go_at_call 13; exact Calls.regrown_of (HC3.out _ (below_regrown _ _ _))) | (go_at_call 14; exact Calls.regrown_of (HC4.out _ (below_regrown _ _ _))) | (go_at_call 15; exact Calls.regrown_of (HC5.out _ (below_regrown _ _ _))))))
    refine wpQuiet_nil ?_
    rintro We ⟨pq, hWe⟩
    have hBe : Below Wd.heap.size Wd We := by rw [hWe]; exact below_regrown _ _ _
    clear hWe yc0 c0 yc1 c1 yc2 c2 yc3 c3 yc4 c4 yc5 c5 yd0 d0 yd1 d1 yd2 d2 yd3 d3 yd4 d4 yd5 d5 yp0 p0 yp1 p1 yp2 p2 yp3 p3 yp4 p4 yp5 p5 yr0 r0 yr1 r1 yr2 r2 yr3 r3 yr4 r4 yr5 r5 ge gr gl HC1 HC2 HC3 HC4 HC5
    have HTX' := Lib.hid (HTX.out.same hBe)
    have HTY' := Lib.hid (HTY.out.same hBe)
    have HBK' := Lib.hid (HBK.out.same hBe)
    have H7' := Lib.hid (H7.out.same hBe)
    have H8' := Lib.hid (H8.out.same hBe)
    have HXb' := Lib.hid (HXb.out.same hBe)
    have HYb' := Lib.hid (HYb.out.same hBe)
    have HOZ' := Lib.hid (Oz.own_below HOZ.out hBe)
    have HBb' := Lib.hid (HBb.out.trans (hBe.mono HBb.out.size))
    clear HTX HTY HBK H7 H8 HXb HYb HOZ HBb
    have HTX := HTX'
    have HTY := HTY'
    have HBK := HBK'
    have H7 := H7'
    have H8 := H8'
    have HXb := HXb'
    have HYb := HYb'
    have HOZ := HOZ'
    have HBb := HBb'
    clear HTX' HTY' HBK' H7' H8' HXb' HYb' HOZ' HBb'
    clear hBe HSL HSQ
    have HKX := Lib.hid (keptHead_any h x a c HCC.out (by have := HBIG.out; omega) We (HT.out.same HBb.out) HTX.out)
    unfold hV at HKX
    obtain ⟨c0, c1, c2, c3, c4, c5⟩ := H7.out.c
    obtain ⟨p0, p1, p2, p3, p4, p5⟩ := HXb.out.c
    go_wp2_with fail
    clear c0 c1 c2 c3 c4 c5 p0 p1 p2 p3 p4 p5
    refine HKX.out.mono ?_
    rintro e Wf ⟨rfl, hBf⟩
    have HTX' := Lib.hid (HTX.out.same hBf)
    have HTY' := Lib.hid (HTY.out.same hBf)
    have HBK' := Lib.hid (HBK.out.same hBf)
    have H7' := Lib.hid (H7.out.same hBf)
    have H8' := Lib.hid (H8.out.same hBf)
    have HXb' := Lib.hid (HXb.out.same hBf)
    have HYb' := Lib.hid (HYb.out.same hBf)
    have HOZ' := Lib.hid (Oz.own_below HOZ.out hBf)
    have HBb' := Lib.hid (HBb.out.trans (hBf.mono HBb.out.size))
    clear HTX HTY HBK H7 H8 HXb HYb HOZ HBb
    have HTX := HTX'
    have HTY := HTY'
    have HBK := HBK'
    have H7 := H7'
    have H8 := H8'
    have HXb := HXb'
    have HYb := HYb'
    have HOZ := HOZ'
    have HBb := HBb'
    clear HTX' HTY' HBK' H7' H8' HXb' HYb' HOZ' HBb'
    clear hBf HKX
    have HKY := Lib.hid (keptHead_any g y b d HDD.out (by have := HBIG.out; omega) Wf (HU.out.same HBb.out) HTY.out)
    unfold hV at HKY
    obtain ⟨c0, c1, c2, c3, c4, c5⟩ := H8.out.c
    obtain ⟨p0, p1, p2, p3, p4, p5⟩ := HYb.out.c
    go_wp2_with fail
    clear c0 c1 c2 c3 c4 c5 p0 p1 p2 p3 p4 p5
    refine HKY.out.mono ?_
    rintro e Wg2 ⟨rfl, hBg⟩
    have HTX' := Lib.hid (HTX.out.same hBg)
    have HTY' := Lib.hid (HTY.out.same hBg)
    have HBK' := Lib.hid (HBK.out.same hBg)
    have H7' := Lib.hid (H7.out.same hBg)
    have H8' := Lib.hid (H8.out.same hBg)
    have HXb' := Lib.hid (HXb.out.same hBg)
    have HYb' := Lib.hid (HYb.out.same hBg)
    have HOZ' := Lib.hid (Oz.own_below HOZ.out hBg)
    have HBb' := Lib.hid (HBb.out.trans (hBg.mono HBb.out.size))
    clear HTX HTY HBK H7 H8 HXb HYb HOZ HBb
    have HTX := HTX'
    have HTY := HTY'
    have HBK := HBK'
    have H7 := H7'
    have H8 := H8'
    have HXb := HXb'
    have HYb := HYb'
    have HOZ := HOZ'
    have HBb := HBb'
    clear HTX' HTY' HBK' H7' H8' HXb' HYb' HOZ' HBb'
    clear hBg HKY
    go_wp2_with fail
    refine (keptS_any i ba n bc f Wg2 (HS.out.same HBb.out) HBK.out (by have := HBIG.out; omega)).mono ?_
    rintro e Wh ⟨rfl, qh, hqh⟩
    have hBh : Below Wg2.heap.size Wg2 Wh := by rw [hqh]; exact below_dr (Below.refl _ _) qh
    have HTX' := Lib.hid (HTX.out.same hBh)
    have HTY' := Lib.hid (HTY.out.same hBh)
    have HBK' := Lib.hid (HBK.out.same hBh)
    have H7' := Lib.hid (H7.out.same hBh)
    have H8' := Lib.hid (H8.out.same hBh)
    have HXb' := Lib.hid (HXb.out.same hBh)
    have HYb' := Lib.hid (HYb.out.same hBh)
    have HOZ' := Lib.hid (Oz.own_below HOZ.out hBh)
    have HBb' := Lib.hid (HBb.out.trans (hBh.mono HBb.out.size))
    clear HTX HTY HBK H7 H8 HXb HYb HOZ HBb
    have HTX := HTX'
    have HTY := HTY'
    have HBK := HBK'
    have H7 := H7'
    have H8 := H8'
    have HXb := HXb'
    have HYb := HYb'
    have HOZ := HOZ'
    have HBb := HBb'
    clear HTX' HTY' HBK' H7' H8' HXb' HYb' HOZ' HBb'
    clear hqh hBh
    go_wp2_with fail
    have HAP := Lib.hid (apart_pair w.heap.size (some ⟨i, 0, none⟩) pa n M (n + 12) pc f F Wh HBb.out.size (HBK.out.bl.oz (by omega) (Nat.le_refl _) (by unfold maxLen; have := HBIG.out; omega) (Nat.le_trans HB.out.size HIW.out)) (HOZ.out.mono (Nat.le_trans HB.out.size HWB.out)) (by
      cases pa with
      | none => simp [Oz.blk]
      | some ad =>
        have h1 := (HOZ.out.lt ad.block rfl).1
        simp [Oz.blk]
        have := HIB.out
        omega) (by have := HBIG.out; omega) (by have := HMB.out; omega))
    refine HAP.out.mono ?_
    rintro e Wi ⟨rfl, hBi⟩
    have HBi := Lib.hid (HBb.out.trans hBi)
    clear hBi HAP
    go_wp2_with fail
    refine (awake14_any Wi).mono ?_
    rintro e Wj ⟨rfl, hBj⟩
    have HBj := Lib.hid (HBi.out.trans (hBj.mono HBi.out.size))
    clear hBj
    go_wp2
    go_ret
    exact ⟨rfl, HBj.out⟩
end Go.Proofs.YtempgjollkdmnaaGreat.He
