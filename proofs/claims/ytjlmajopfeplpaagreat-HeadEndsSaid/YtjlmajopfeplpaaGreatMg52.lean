import Derived.Lib.QuietBelow
import Derived.Laws.AppendOwnNone
import Derived.BigFrame
import Derived.Test.YtjlmajopfeplpaaGreatMg51
namespace Go.Proofs.YtjlmajopfeplpaaGreat.He
open Go.RowKit Go.Shelf
open Go.Proofs.YtjlmajopfeplpaaGreat.Ly (TabOk RowOk off Tb tK tL)
open Go.Proofs.YtjlmajopfeplpaaGreat.Wg (BoSays BoSays.no BoSays.yes)
attribute [local go_sem] Oper.semAt_some

theorem tb_ne {W : World} {x m g : Nat} {K L : Nat → Int} (hT : Tb W (some ⟨x, 0, none⟩) (m + 12) K L) (hg : HAt W g hz none 0) : x ≠ g := fun e => by
  obtain ⟨b, o, e1, _, h2⟩ := hT.cell 2 (by omega)
  cases e1
  have h5 := hg.c.2.2.2.2.2
  subst e
  rw [show 0 + 2 * 2 + 1 = 5 from rfl, h5] at h2
  cases h2
theorem bk_ne {W : World} {i g : Nat} {vs : List Value} (hb : Block W i vs 5) (hg : HAt W g hz none 0) : i ≠ g := fun e => by
  have h1 : W.heap[i]? = some (.cells vs.toArray 5 (0, 0)) := hb
  have h2 : W.heap[g]? = some (.cells #[.int .i64 0, .int .i64 0, .int .i64 0, .int .i64 0, .int .i64 0, .slice none 0 0] 27 (0, 0)) := hg
  rw [e, h2] at h1
  simp at h1
theorem bk_kept {W W' : World} {i : Nat} {vs : List Value} (hb : Block W i vs 5) (hk : W'.heap[i]? = W.heap[i]?) : Block W' i vs 5 := hk.trans hb
theorem bool_at {fn : FuncId} {args : Array Value} {W : World} {P : Prop} {x : Bool} (hx : x = true ↔ P) (h : Calls Tryz.prog fn args W fun e w' => BoSays P e ∧ Below W.heap.size W w') : Calls Tryz.prog fn args W fun e w' => e = .returned (.bool x) ∧ Below W.heap.size W w' :=
  h.mono fun e w' ⟨⟨v, he, hv⟩, hB⟩ => ⟨by
    rw [he]
    have : v = x := by rw [Bool.eq_iff_iff]; exact hv.trans hx.symm
    rw [this], hB⟩
open Classical in
/-- what Put tells, as far as bytes go. -/
noncomputable def qE (h : Hr) (n : Nat) : Int := if RH h ∧ n = off h.K h.L h.m then 0 else 2
open Classical in
noncomputable def qM (h : Hr) (n : Nat) : Nat := if RH h ∧ n = off h.K h.L h.m then 14 + 3 * h.m + n + 4 else 0
open Classical in
noncomputable def qF (h : Hr) (n : Nat) (f : Nat → Nat) : Nat → Nat := if RH h ∧ n = off h.K h.L h.m then Crc.sealed (pl h f) (14 + 3 * h.m + n) else fun _ => 0
theorem qM_le (h : Hr) {n : Nat} (hn : 3 * h.m + n ≤ 99000) : qM h n ≤ 100000 := by unfold qM; split <;> omega
theorem PutGoes.out {w w' : World} {h : Hr} {n : Nat} {f : Nat → Nat} {e : Ending} (q : PutGoes w h n f e w') (hb : Pf.By f) :
    ∃ pa pc, e = .returned (.tuple #[.slice pa (qM h n) pc, .int .i64 (qE h n)]) ∧ Oz.OzRow w' w.heap.size 5 1 (.slice pa (qM h n) pc) (qM h n) (rowv (qF h n f) (qM h n)) ∧ Sl w' pa (qM h n) pc (qF h n f) := by
  unfold qM qE qF
  rcases q with ⟨h1, h2, g, C, he, hg, hC, hbl⟩ | ⟨hno, he⟩
  · rw [if_pos ⟨h1, h2⟩, if_pos ⟨h1, h2⟩, if_pos ⟨h1, h2⟩]
    have hm8 : h.m ≤ 8 := h1.2.2.2.2.2.2.2.1
    have ho : off h.K h.L h.m ≤ h.m * 65535 := Ly.off_le _ _ _
    have hmx : 14 + 3 * h.m + n + 4 ≤ maxLen := by unfold maxLen; omega
    exact ⟨_, _, he, hbl.oz (Nat.le_refl _) hC hmx hg, hbl.sl2 (Nat.le_refl _) hmx (sealed_bytes (pl_by h hb) _) (sealed_upto _ _)⟩
  · rw [if_neg hno, if_neg hno, if_neg hno]
    exact ⟨none, 0, he, Oz.OzRow_nil _ _ _ _, Sl.none_ _ none 0 (Nat.zero_le _) (fun _ => rfl)⟩
theorem PutSays.out2 {w w' : World} {h : Hr} {n : Nat} {f : Nat → Nat} {e : Ending} (q : PutSays w h n f e w') :
    ∃ pa pc, e = .returned (.tuple #[.slice pa (qM h n) pc, .int .i64 (qE h n)]) ∧ Sl w' pa (qM h n) pc (qF h n f) := by
  unfold qM qE qF
  rcases q with ⟨h1, h2, a, c, he, hN⟩ | ⟨hno, he⟩
  · rw [if_pos ⟨h1, h2⟩, if_pos ⟨h1, h2⟩, if_pos ⟨h1, h2⟩]
    exact ⟨a, c, he, hN.sl⟩
  · rw [if_neg hno, if_neg hno, if_neg hno]
    exact ⟨none, 0, he, Sl.none_ _ none 0 (Nat.zero_le _) (fun _ => rfl)⟩
/-- two headers and bytes are lent, two boxes laid. -/
def Lent3 (w1 : World) (h g : Hr) (n : Nat) (f : Nat → Nat) (x y i g7 g8 : Nat) (W : World) : Prop :=
  Below w1.heap.size w1 W ∧ (w1.heap.size ≤ x ∧ Tb W (some ⟨x, 0, none⟩) (h.m + 12) (tK h.K h.m) (tL h.L h.m)) ∧ (w1.heap.size ≤ y ∧ Tb W (some ⟨y, 0, none⟩) (g.m + 12) (tK g.K g.m) (tL g.L g.m)) ∧
    (w1.heap.size ≤ i ∧ Block W i (lentC (ints f n) 12) 5) ∧ (w1.heap.size ≤ g7 ∧ HAt W g7 hz none 0) ∧ (w1.heap.size ≤ g8 ∧ HAt W g8 hz none 0) ∧ g7 ≠ g8
set_option maxHeartbeats 8000000 in
set_option maxRecDepth 100000 in
theorem headPuts_any (h g : Hr) (a b : Option Addr) (c d : Nat) (hn : h.m ≤ 8796093022208) (hm : g.m ≤ 8796093022208) (ba : Option Addr) (n bc : Nat) (f : Nat → Nat) (hnb : n ≤ 140737488355328) (hac : a = none → h.m = 0 ∧ c = 0) (hbd : b = none → g.m = 0 ∧ d = 0) (hcc : h.m ≤ c) (hdd : g.m ≤ d) (w : World) (hT : Tb w a h.m h.K h.L) (hU : Tb w b g.m g.K g.L) (hS : Sl w ba n bc f) :
    Calls Tryz.prog 5 #[hV h a c, hV g b d, .slice ba n bc] w fun e w' => e = .returned (.bool true) ∧ Below w.heap.size w w' := by
  obtain ⟨w0, hw0⟩ : ∃ w0, w0 = w.alloc (.cells #[.int .i64 h.S, .int .i64 h.F, .int .i64 h.I, .int .i64 h.N, .int .i64 h.D, .slice a h.m c] 27) := ⟨_, rfl⟩
  obtain ⟨w1, hw1⟩ : ∃ w1, w1 = w0.alloc (.cells #[.int .i64 g.S, .int .i64 g.F, .int .i64 g.I, .int .i64 g.N, .int .i64 g.D, .slice b g.m d] 27) := ⟨_, rfl⟩
  have hz0 : w0.heap.size = w.heap.size + 1 := by rw [hw0, World.size_alloc]
  have hb0 : Below w.heap.size w w0 := by rw [hw0]; exact (Below.refl _ w).alloc (Nat.le_refl _) _
  have hb1 : Below w0.heap.size w0 w1 := by rw [hw1]; exact (Below.refl _ w0).alloc (Nat.le_refl _) _
  have hq0 : HAt w0 w.heap.size h a c := by rw [hw0]; exact heap_alloc_new _ _
  have HX := Lib.hid (hq0.same hb1)
  have HY := Lib.hid (show HAt w1 (w.heap.size + 1) g b d by rw [hw1, ← hz0]; exact heap_alloc_new _ _)
  have HB := Lib.hid (hb0.trans (hb1.mono hb0.size))
  have HW := Lib.hid (show w1 = (w.alloc (.cells #[.int .i64 h.S, .int .i64 h.F, .int .i64 h.I, .int .i64 h.N, .int .i64 h.D, .slice a h.m c] 27)).alloc (.cells #[.int .i64 g.S, .int .i64 g.F, .int .i64 g.I, .int .i64 g.N, .int .i64 g.D, .slice b g.m d] 27) by rw [hw1, hw0])
  have HT := Lib.hid hT; have HU := Lib.hid hU; have HS := Lib.hid hS; have HCC := Lib.hid hcc; have HDD := Lib.hid hdd; have HAC := Lib.hid hac; have HBD := Lib.hid hbd
  obtain ⟨wg, hwg⟩ : ∃ wg, wg = w.heap.size := ⟨_, rfl⟩
  rw [← hwg] at HX HY
  have HWG := Lib.hid hwg
  unfold hV
  clear hw0 hw1 hz0 hb0 hb1 hq0 hT hU hS hac hbd hcc hdd
  go_enter Tryz.func5, Tryz.ntmps5
  go_upto_region 1 with fail
  rw [← HW.out, ← hwg]
  clear hwg HW
  obtain ⟨c0, c1, c2, c3, c4, c5⟩ := HX.out.c
  obtain ⟨d0, d1, d2, d3, d4, d5⟩ := HY.out.c
  by_cases hbig : h.m + g.m + n ≤ 20000
  rotate_left
  · have j1 : (20000 : Int) < (h.m : Int) + (g.m : Int) + (n : Int) := by omega
    go_wp2_with fail
    refine (awake14_any w1).mono ?_
    rintro e w2 ⟨rfl, hB2⟩
    have HB2 := Lib.hid (HB.out.trans (hB2.mono HB.out.size))
    clear hB2
    go_wp2
    go_ret
    exact ⟨rfl, HB2.out⟩
  have j1 : ¬ (20000 : Int) < (h.m : Int) + (g.m : Int) + (n : Int) := by omega
  have HBIG := Lib.hid hbig
  clear hbig
  go_upto_region 3 with fail
  clear c0 c1 c2 c3 c4 c5 d0 d1 d2 d3 d4 d5 j1 hn hm hnb
  have HXC := Lib.hid (fun W (hW : Below w1.heap.size w1 W) => (HX.out.same hW).c)
  have HYC := Lib.hid (fun W (hW : Below w1.heap.size w1 W) => (HY.out.same hW).c)
  have hl1 : h.m ≤ 1000000 := by have := HBIG.out; omega
  have hl2 : g.m ≤ 1000000 := by have := HBIG.out; omega
  have hl3 : n ≤ 1000000000000 := by have := HBIG.out; omega
  have HLX := Lib.hid (fun W (hW : Below w1.heap.size w1 W) => lentHead_any h a c HAC.out hl1 W (HT.out.same (HB.out.trans (hW.mono HB.out.size))))
  have HLY := Lib.hid (fun W (hW : Below w1.heap.size w1 W) => lentHead_any g b d HBD.out hl2 W (HU.out.same (HB.out.trans (hW.mono HB.out.size))))
  have HLS := Lib.hid (fun W (hW : Below w1.heap.size w1 W) => lentS_any ba n bc f W (HS.out.same (HB.out.trans (hW.mono HB.out.size))) hl3)
  unfold hV at HLX HLY
  refine wp_region_held_drew (S := fun W => Below w1.heap.size w1 W) (by kernel_rfl) ((Below.refl _ w1).drew) (fun hHeld => ?_)
  have hH0 := hHeld
  obtain ⟨V0, hV0⟩ : ∃ V0, V0 = w1.drew := ⟨_, rfl⟩
  rw [← hV0] at hHeld hH0 ⊢
  clear hV0
  refine wpAnyH_take (i := 0) (oi := ⟨some 27, _, _, _, _, none⟩) (v := (.agg #[.int .i64 h.S, .int .i64 h.F, .int .i64 h.I, .int .i64 h.N, .int .i64 h.D, .slice a h.m c])) rfl (by kernel_rfl) (by kernel_rfl) (by kernel_rfl) (fun _ _ _ h => h) (Or.inl ⟨by rfl, fun W hW => ?_⟩) (by assumption) ?_
  · (obtain ⟨c0, c1, c2, c3, c4, c5⟩ := HXC.out W hW; go_simp)
  simp only [Act.put, List.setIfInBounds_toArray, List.set_cons_zero, List.set_cons_succ]
  refine wpAnyH_take (i := 2) (oi := ⟨some 29, _, _, _, _, none⟩) (v := (.agg #[.int .i64 g.S, .int .i64 g.F, .int .i64 g.I, .int .i64 g.N, .int .i64 g.D, .slice b g.m d])) rfl (by kernel_rfl) (by kernel_rfl) (by kernel_rfl) (fun _ _ _ h => h) (Or.inl ⟨by rfl, fun W hW => ?_⟩) (by assumption) ?_
  · (obtain ⟨c0, c1, c2, c3, c4, c5⟩ := HYC.out W hW; go_simp)
  simp only [Act.put, List.setIfInBounds_toArray, List.set_cons_zero, List.set_cons_succ]
  refine wpAnyH_take (i := 4) (oi := ⟨some 31, _, _, _, _, none⟩) (v := (.slice ba n bc)) rfl (by kernel_rfl) (by kernel_rfl) (by kernel_rfl) (fun _ _ _ h => h) (Or.inl ⟨by rfl, fun W hW => ?_⟩) (by assumption) ?_
  · go_simp
  simp only [Act.put, List.setIfInBounds_toArray, List.set_cons_zero, List.set_cons_succ]
  clear hHeld
  refine @share14 _ ?shP (fun hG => ?shF) ?shG
  case shF =>
    have HGH := Lib.hid hG; clear hG
    refine wpAnyH_ready (rs := [1, 6, 7]) (by kernel_rfl) (by simp) (AllReadyH.cons rfl (fun KK hKK => ?_) (AllReadyH.cons rfl (fun KK hKK => ?_) (AllReadyH.cons rfl (fun KK hKK => ?_) AllReadyH.nil)))
    · go_simp
      refine (HLX.out V0 hH0).mono ?_
      rintro e V1 ⟨x, hx, rfl, hTx, hb1⟩
      dsimp only [hV]
      have hH1 : Below w1.heap.size w1 V1 := hH0.trans (hb1.mono hH0.size)
      refine hKK.out _ _ hH1 (fun hHeld => ?_)
      clear hKK KK
      try simp only [Act.put, List.setIfInBounds_toArray, List.set_cons_zero, List.set_cons_succ]
      refine wpAnyH_ready (rs := [3, 6, 7]) (by kernel_rfl) (by simp) (AllReadyH.cons rfl (fun KK hKK => ?_) (AllReadyH.cons rfl (fun KK hKK => ?_) (AllReadyH.cons rfl (fun KK hKK => ?_) AllReadyH.nil)))
      · go_simp
        refine (HLY.out V1 hH1).mono ?_
        rintro e V2 ⟨y, hy, rfl, hTy, hb2⟩
        dsimp only [hV]
        have hH2 : Below w1.heap.size w1 V2 := hH1.trans (hb2.mono hH1.size)
        refine hKK.out _ _ hH2 (fun hHeld => ?_)
        clear hKK KK
        try simp only [Act.put, List.setIfInBounds_toArray, List.set_cons_zero, List.set_cons_succ]
        refine wpAnyH_ready (rs := [5, 6, 7]) (by kernel_rfl) (by simp) (AllReadyH.cons rfl (fun KK hKK => ?_) (AllReadyH.cons rfl (fun KK hKK => ?_) (AllReadyH.cons rfl (fun KK hKK => ?_) AllReadyH.nil)))
        · go_simp
          refine (HLS.out V2 hH2).mono ?_
          rintro e V3 ⟨rfl, hbk, hb3⟩
          dsimp only
          obtain ⟨i, hi⟩ : ∃ G, G = V2.heap.size := ⟨_, rfl⟩
          rw [← hi] at hbk ⊢
          replace hi := Lib.hid hi
          have hH3 : Below w1.heap.size w1 V3 := hH2.trans (hb3.mono hH2.size)
          refine hKK.out _ _ hH3 (fun hHeld => ?_)
          clear hKK KK
          try simp only [Act.put, List.setIfInBounds_toArray, List.set_cons_zero, List.set_cons_succ]
          refine wpAnyH_ready (rs := [6, 7]) (by kernel_rfl) (by simp) (AllReadyH.cons rfl (fun KK hKK => ?_) (AllReadyH.cons rfl (fun KK hKK => ?_) AllReadyH.nil))
          · go_simp
            obtain ⟨g7, hg7⟩ : ∃ G, G = V3.heap.size := ⟨_, rfl⟩
            rw [← hg7]
            obtain ⟨V4, hV4⟩ : ∃ V, V = V3.alloc (.cells #[.int .i64 0, .int .i64 0, .int .i64 0, .int .i64 0, .int .i64 0, .slice none 0 0] 27) := ⟨_, rfl⟩
            rw [← hV4]
            have hb4 : Below V3.heap.size V3 V4 := by rw [hV4]; exact (Below.refl _ _).alloc (Nat.le_refl _) _
            have h7 : HAt V4 g7 hz none 0 := by rw [hV4, hg7]; exact heap_alloc_new _ _
            clear hV4
            replace hg7 := Lib.hid hg7
            have hH4 : Below w1.heap.size w1 V4 := hH3.trans (hb4.mono hH3.size)
            refine hKK.out _ _ hH4 (fun hHeld => ?_)
            clear hKK KK
            try simp only [Act.put, List.setIfInBounds_toArray, List.set_cons_zero, List.set_cons_succ]
            refine wpAnyH_ready (rs := [7]) (by kernel_rfl) (by simp) (AllReadyH.cons rfl (fun KK hKK => ?_) AllReadyH.nil)
            go_simp
            obtain ⟨g8, hg8⟩ : ∃ G, G = V4.heap.size := ⟨_, rfl⟩
            rw [← hg8]
            obtain ⟨V5, hV5⟩ : ∃ V, V = V4.alloc (.cells #[.int .i64 0, .int .i64 0, .int .i64 0, .int .i64 0, .int .i64 0, .slice none 0 0] 27) := ⟨_, rfl⟩
            rw [← hV5]
            have hb5 : Below V4.heap.size V4 V5 := by rw [hV5]; exact (Below.refl _ _).alloc (Nat.le_refl _) _
            have h8 : HAt V5 g8 hz none 0 := by rw [hV5, hg8]; exact heap_alloc_new _ _
            clear hV5
            replace hg8 := Lib.hid hg8
            have hH5 : Below w1.heap.size w1 V5 := hH4.trans (hb5.mono hH4.size)
            refine hKK.out _ _ hH5 (fun hHeld => ?_)
            clear hKK KK
            try simp only [Act.put, List.setIfInBounds_toArray, List.set_cons_zero, List.set_cons_succ]
            have HALL := Lib.hid (show Lent3 w1 h g n f x y i g7 g8 V5 from ⟨hH5, ⟨Nat.le_trans hH0.size hx, hTx.same (hb2.trans ((hb3.trans ((hb4.trans (hb5.mono hb4.size)).mono hb3.size)).mono hb2.size))⟩, ⟨Nat.le_trans hH1.size hy, hTy.same (hb3.trans ((hb4.trans (hb5.mono hb4.size)).mono hb3.size))⟩, ⟨Nat.le_trans hH2.size (Nat.le_of_eq hi.out.symm), hbk.same (hb4.trans (hb5.mono hb4.size))⟩, ⟨Nat.le_trans hH3.size (Nat.le_of_eq hg7.out.symm), h7.same hb5⟩, ⟨Nat.le_trans hH4.size (Nat.le_of_eq hg8.out.symm), h8.same (Below.refl V5.heap.size V5)⟩, Nat.ne_of_lt (Nat.lt_of_lt_of_le h7.lt (Nat.le_trans (Below.refl V4.heap.size V4).size (Nat.le_of_eq hg8.out.symm)))⟩)
            clear hHeld hH1 hH2 hH3 hH4 hH5 hb1 hb2 hb3 hb4 hb5 hx hy hi hg7 hg8 hTx hTy hbk h7 h8
            revert x y i g7 g8 V5 HALL
            exact HGH.out
          · go_simp
            obtain ⟨g8, hg8⟩ : ∃ G, G = V3.heap.size := ⟨_, rfl⟩
            rw [← hg8]
            obtain ⟨V4, hV4⟩ : ∃ V, V = V3.alloc (.cells #[.int .i64 0, .int .i64 0, .int .i64 0, .int .i64 0, .int .i64 0, .slice none 0 0] 27) := ⟨_, rfl⟩
            rw [← hV4]
            have hb4 : Below V3.heap.size V3 V4 := by rw [hV4]; exact (Below.refl _ _).alloc (Nat.le_refl _) _
            have h8 : HAt V4 g8 hz none 0 := by rw [hV4, hg8]; exact heap_alloc_new _ _
            clear hV4
            replace hg8 := Lib.hid hg8
            have hH4 : Below w1.heap.size w1 V4 := hH3.trans (hb4.mono hH3.size)
            refine hKK.out _ _ hH4 (fun hHeld => ?_)
            clear hKK KK
            try simp only [Act.put, List.setIfInBounds_toArray, List.set_cons_zero, List.set_cons_succ]
            refine wpAnyH_ready (rs := [6]) (by kernel_rfl) (by simp) (AllReadyH.cons rfl (fun KK hKK => ?_) AllReadyH.nil)
            go_simp
            obtain ⟨g7, hg7⟩ : ∃ G, G = V4.heap.size := ⟨_, rfl⟩
            rw [← hg7]
            obtain ⟨V5, hV5⟩ : ∃ V, V = V4.alloc (.cells #[.int .i64 0, .int .i64 0, .int .i64 0, .int .i64 0, .int .i64 0, .slice none 0 0] 27) := ⟨_, rfl⟩
            rw [← hV5]
            have hb5 : Below V4.heap.size V4 V5 := by rw [hV5]; exact (Below.refl _ _).alloc (Nat.le_refl _) _
            have h7 : HAt V5 g7 hz none 0 := by rw [hV5, hg7]; exact heap_alloc_new _ _
            clear hV5
            replace hg7 := Lib.hid hg7
            have hH5 : Below w1.heap.size w1 V5 := hH4.trans (hb5.mono hH4.size)
            refine hKK.out _ _ hH5 (fun hHeld => ?_)
            clear hKK KK
            try simp only [Act.put, List.setIfInBounds_toArray, List.set_cons_zero, List.set_cons_succ]
            exact HGH.out _ _ _ _ _ _ (Lib.hid ⟨hH5, ⟨Nat.le_trans hH0.size hx, hTx.same (hb2.trans ((hb3.trans ((hb4.trans (hb5.mono hb4.size)).mono hb3.size)).mono hb2.size))⟩, ⟨Nat.le_trans hH1.size hy, hTy.same (hb3.trans ((hb4.trans (hb5.mono hb4.size)).mono hb3.size))⟩, ⟨Nat.le_trans hH2.size (Nat.le_of_eq hi.out.symm), hbk.same (hb4.trans (hb5.mono hb4.size))⟩, ⟨Nat.le_trans hH4.size (Nat.le_of_eq hg7.out.symm), h7.same (Below.refl V5.heap.size V5)⟩, ⟨Nat.le_trans hH3.size (Nat.le_of_eq hg8.out.symm), h8.same hb5⟩, Nat.ne_of_gt (Nat.lt_of_lt_of_le h8.lt (Nat.le_trans (Below.refl V4.heap.size V4).size (Nat.le_of_eq hg7.out.symm)))⟩)
        · go_simp
          obtain ⟨g7, hg7⟩ : ∃ G, G = V2.heap.size := ⟨_, rfl⟩
          rw [← hg7]
          obtain ⟨V3, hV3⟩ : ∃ V, V = V2.alloc (.cells #[.int .i64 0, .int .i64 0, .int .i64 0, .int .i64 0, .int .i64 0, .slice none 0 0] 27) := ⟨_, rfl⟩
          rw [← hV3]
          have hb3 : Below V2.heap.size V2 V3 := by rw [hV3]; exact (Below.refl _ _).alloc (Nat.le_refl _) _
          have h7 : HAt V3 g7 hz none 0 := by rw [hV3, hg7]; exact heap_alloc_new _ _
          clear hV3
          replace hg7 := Lib.hid hg7
          have hH3 : Below w1.heap.size w1 V3 := hH2.trans (hb3.mono hH2.size)
          refine hKK.out _ _ hH3 (fun hHeld => ?_)
          clear hKK KK
          try simp only [Act.put, List.setIfInBounds_toArray, List.set_cons_zero, List.set_cons_succ]
          refine wpAnyH_ready (rs := [5, 7]) (by kernel_rfl) (by simp) (AllReadyH.cons rfl (fun KK hKK => ?_) (AllReadyH.cons rfl (fun KK hKK => ?_) AllReadyH.nil))
          · go_simp
            refine (HLS.out V3 hH3).mono ?_
            rintro e V4 ⟨rfl, hbk, hb4⟩
            dsimp only
            obtain ⟨i, hi⟩ : ∃ G, G = V3.heap.size := ⟨_, rfl⟩
            rw [← hi] at hbk ⊢
            replace hi := Lib.hid hi
            have hH4 : Below w1.heap.size w1 V4 := hH3.trans (hb4.mono hH3.size)
            refine hKK.out _ _ hH4 (fun hHeld => ?_)
            clear hKK KK
            try simp only [Act.put, List.setIfInBounds_toArray, List.set_cons_zero, List.set_cons_succ]
            refine wpAnyH_ready (rs := [7]) (by kernel_rfl) (by simp) (AllReadyH.cons rfl (fun KK hKK => ?_) AllReadyH.nil)
            go_simp
            obtain ⟨g8, hg8⟩ : ∃ G, G = V4.heap.size := ⟨_, rfl⟩
            rw [← hg8]
            obtain ⟨V5, hV5⟩ : ∃ V, V = V4.alloc (.cells #[.int .i64 0, .int .i64 0, .int .i64 0, .int .i64 0, .int .i64 0, .slice none 0 0] 27) := ⟨_, rfl⟩
            rw [← hV5]
            have hb5 : Below V4.heap.size V4 V5 := by rw [hV5]; exact (Below.refl _ _).alloc (Nat.le_refl _) _
            have h8 : HAt V5 g8 hz none 0 := by rw [hV5, hg8]; exact heap_alloc_new _ _
            clear hV5
            replace hg8 := Lib.hid hg8
            have hH5 : Below w1.heap.size w1 V5 := hH4.trans (hb5.mono hH4.size)
            refine hKK.out _ _ hH5 (fun hHeld => ?_)
            clear hKK KK
            try simp only [Act.put, List.setIfInBounds_toArray, List.set_cons_zero, List.set_cons_succ]
            exact HGH.out _ _ _ _ _ _ (Lib.hid ⟨hH5, ⟨Nat.le_trans hH0.size hx, hTx.same (hb2.trans ((hb3.trans ((hb4.trans (hb5.mono hb4.size)).mono hb3.size)).mono hb2.size))⟩, ⟨Nat.le_trans hH1.size hy, hTy.same (hb3.trans ((hb4.trans (hb5.mono hb4.size)).mono hb3.size))⟩, ⟨Nat.le_trans hH3.size (Nat.le_of_eq hi.out.symm), hbk.same hb5⟩, ⟨Nat.le_trans hH2.size (Nat.le_of_eq hg7.out.symm), h7.same (hb4.trans (hb5.mono hb4.size))⟩, ⟨Nat.le_trans hH4.size (Nat.le_of_eq hg8.out.symm), h8.same (Below.refl V5.heap.size V5)⟩, Nat.ne_of_lt (Nat.lt_of_lt_of_le h7.lt (Nat.le_trans hb4.size (Nat.le_of_eq hg8.out.symm)))⟩)
          · go_simp
            obtain ⟨g8, hg8⟩ : ∃ G, G = V3.heap.size := ⟨_, rfl⟩
            rw [← hg8]
            obtain ⟨V4, hV4⟩ : ∃ V, V = V3.alloc (.cells #[.int .i64 0, .int .i64 0, .int .i64 0, .int .i64 0, .int .i64 0, .slice none 0 0] 27) := ⟨_, rfl⟩
            rw [← hV4]
            have hb4 : Below V3.heap.size V3 V4 := by rw [hV4]; exact (Below.refl _ _).alloc (Nat.le_refl _) _
            have h8 : HAt V4 g8 hz none 0 := by rw [hV4, hg8]; exact heap_alloc_new _ _
            clear hV4
            replace hg8 := Lib.hid hg8
            have hH4 : Below w1.heap.size w1 V4 := hH3.trans (hb4.mono hH3.size)
            refine hKK.out _ _ hH4 (fun hHeld => ?_)
            clear hKK KK
            try simp only [Act.put, List.setIfInBounds_toArray, List.set_cons_zero, List.set_cons_succ]
            refine wpAnyH_ready (rs := [5]) (by kernel_rfl) (by simp) (AllReadyH.cons rfl (fun KK hKK => ?_) AllReadyH.nil)
            go_simp
            refine (HLS.out V4 hH4).mono ?_
            rintro e V5 ⟨rfl, hbk, hb5⟩
            dsimp only
            obtain ⟨i, hi⟩ : ∃ G, G = V4.heap.size := ⟨_, rfl⟩
            rw [← hi] at hbk ⊢
            replace hi := Lib.hid hi
            have hH5 : Below w1.heap.size w1 V5 := hH4.trans (hb5.mono hH4.size)
            refine hKK.out _ _ hH5 (fun hHeld => ?_)
            clear hKK KK
            try simp only [Act.put, List.setIfInBounds_toArray, List.set_cons_zero, List.set_cons_succ]
            exact HGH.out _ _ _ _ _ _ (Lib.hid ⟨hH5, ⟨Nat.le_trans hH0.size hx, hTx.same (hb2.trans ((hb3.trans ((hb4.trans (hb5.mono hb4.size)).mono hb3.size)).mono hb2.size))⟩, ⟨Nat.le_trans hH1.size hy, hTy.same (hb3.trans ((hb4.trans (hb5.mono hb4.size)).mono hb3.size))⟩, ⟨Nat.le_trans hH4.size (Nat.le_of_eq hi.out.symm), hbk.same (Below.refl V5.heap.size V5)⟩, ⟨Nat.le_trans hH2.size (Nat.le_of_eq hg7.out.symm), h7.same (hb4.trans (hb5.mono hb4.size))⟩, ⟨Nat.le_trans hH3.size (Nat.le_of_eq hg8.out.symm), h8.same hb5⟩, Nat.ne_of_lt (Nat.lt_of_lt_of_le h7.lt (Nat.le_trans (Below.refl V3.heap.size V3).size (Nat.le_of_eq hg8.out.symm)))⟩)
        · go_simp
          obtain ⟨g8, hg8⟩ : ∃ G, G = V2.heap.size := ⟨_, rfl⟩
          rw [← hg8]
          obtain ⟨V3, hV3⟩ : ∃ V, V = V2.alloc (.cells #[.int .i64 0, .int .i64 0, .int .i64 0, .int .i64 0, .int .i64 0, .slice none 0 0] 27) := ⟨_, rfl⟩
          rw [← hV3]
          have hb3 : Below V2.heap.size V2 V3 := by rw [hV3]; exact (Below.refl _ _).alloc (Nat.le_refl _) _
          have h8 : HAt V3 g8 hz none 0 := by rw [hV3, hg8]; exact heap_alloc_new _ _
          clear hV3
          replace hg8 := Lib.hid hg8
          have hH3 : Below w1.heap.size w1 V3 := hH2.trans (hb3.mono hH2.size)
          refine hKK.out _ _ hH3 (fun hHeld => ?_)
          clear hKK KK
          try simp only [Act.put, List.setIfInBounds_toArray, List.set_cons_zero, List.set_cons_succ]
          refine wpAnyH_ready (rs := [5, 6]) (by kernel_rfl) (by simp) (AllReadyH.cons rfl (fun KK hKK => ?_) (AllReadyH.cons rfl (fun KK hKK => ?_) AllReadyH.nil))
          · go_simp
            refine (HLS.out V3 hH3).mono ?_
            rintro e V4 ⟨rfl, hbk, hb4⟩
            dsimp only
            obtain ⟨i, hi⟩ : ∃ G, G = V3.heap.size := ⟨_, rfl⟩
            rw [← hi] at hbk ⊢
            replace hi := Lib.hid hi
            have hH4 : Below w1.heap.size w1 V4 := hH3.trans (hb4.mono hH3.size)
            refine hKK.out _ _ hH4 (fun hHeld => ?_)
            clear hKK KK
            try simp only [Act.put, List.setIfInBounds_toArray, List.set_cons_zero, List.set_cons_succ]
            refine wpAnyH_ready (rs := [6]) (by kernel_rfl) (by simp) (AllReadyH.cons rfl (fun KK hKK => ?_) AllReadyH.nil)
            go_simp
            obtain ⟨g7, hg7⟩ : ∃ G, G = V4.heap.size := ⟨_, rfl⟩
            rw [← hg7]
            obtain ⟨V5, hV5⟩ : ∃ V, V = V4.alloc (.cells #[.int .i64 0, .int .i64 0, .int .i64 0, .int .i64 0, .int .i64 0, .slice none 0 0] 27) := ⟨_, rfl⟩
            rw [← hV5]
            have hb5 : Below V4.heap.size V4 V5 := by rw [hV5]; exact (Below.refl _ _).alloc (Nat.le_refl _) _
            have h7 : HAt V5 g7 hz none 0 := by rw [hV5, hg7]; exact heap_alloc_new _ _
            clear hV5
            replace hg7 := Lib.hid hg7
            have hH5 : Below w1.heap.size w1 V5 := hH4.trans (hb5.mono hH4.size)
            refine hKK.out _ _ hH5 (fun hHeld => ?_)
            clear hKK KK
            try simp only [Act.put, List.setIfInBounds_toArray, List.set_cons_zero, List.set_cons_succ]
            exact HGH.out _ _ _ _ _ _ (Lib.hid ⟨hH5, ⟨Nat.le_trans hH0.size hx, hTx.same (hb2.trans ((hb3.trans ((hb4.trans (hb5.mono hb4.size)).mono hb3.size)).mono hb2.size))⟩, ⟨Nat.le_trans hH1.size hy, hTy.same (hb3.trans ((hb4.trans (hb5.mono hb4.size)).mono hb3.size))⟩, ⟨Nat.le_trans hH3.size (Nat.le_of_eq hi.out.symm), hbk.same hb5⟩, ⟨Nat.le_trans hH4.size (Nat.le_of_eq hg7.out.symm), h7.same (Below.refl V5.heap.size V5)⟩, ⟨Nat.le_trans hH2.size (Nat.le_of_eq hg8.out.symm), h8.same (hb4.trans (hb5.mono hb4.size))⟩, Nat.ne_of_gt (Nat.lt_of_lt_of_le h8.lt (Nat.le_trans hb4.size (Nat.le_of_eq hg7.out.symm)))⟩)
          · go_simp
            obtain ⟨g7, hg7⟩ : ∃ G, G = V3.heap.size := ⟨_, rfl⟩
            rw [← hg7]
            obtain ⟨V4, hV4⟩ : ∃ V, V = V3.alloc (.cells #[.int .i64 0, .int .i64 0, .int .i64 0, .int .i64 0, .int .i64 0, .slice none 0 0] 27) := ⟨_, rfl⟩
            rw [← hV4]
            have hb4 : Below V3.heap.size V3 V4 := by rw [hV4]; exact (Below.refl _ _).alloc (Nat.le_refl _) _
            have h7 : HAt V4 g7 hz none 0 := by rw [hV4, hg7]; exact heap_alloc_new _ _
            clear hV4
            replace hg7 := Lib.hid hg7
            have hH4 : Below w1.heap.size w1 V4 := hH3.trans (hb4.mono hH3.size)
            refine hKK.out _ _ hH4 (fun hHeld => ?_)
            clear hKK KK
            try simp only [Act.put, List.setIfInBounds_toArray, List.set_cons_zero, List.set_cons_succ]
            refine wpAnyH_ready (rs := [5]) (by kernel_rfl) (by simp) (AllReadyH.cons rfl (fun KK hKK => ?_) AllReadyH.nil)
            go_simp
            refine (HLS.out V4 hH4).mono ?_
            rintro e V5 ⟨rfl, hbk, hb5⟩
            dsimp only
            obtain ⟨i, hi⟩ : ∃ G, G = V4.heap.size := ⟨_, rfl⟩
            rw [← hi] at hbk ⊢
            replace hi := Lib.hid hi
            have hH5 : Below w1.heap.size w1 V5 := hH4.trans (hb5.mono hH4.size)
            refine hKK.out _ _ hH5 (fun hHeld => ?_)
            clear hKK KK
            try simp only [Act.put, List.setIfInBounds_toArray, List.set_cons_zero, List.set_cons_succ]
            exact HGH.out _ _ _ _ _ _ (Lib.hid ⟨hH5, ⟨Nat.le_trans hH0.size hx, hTx.same (hb2.trans ((hb3.trans ((hb4.trans (hb5.mono hb4.size)).mono hb3.size)).mono hb2.size))⟩, ⟨Nat.le_trans hH1.size hy, hTy.same (hb3.trans ((hb4.trans (hb5.mono hb4.size)).mono hb3.size))⟩, ⟨Nat.le_trans hH4.size (Nat.le_of_eq hi.out.symm), hbk.same (Below.refl V5.heap.size V5)⟩, ⟨Nat.le_trans hH3.size (Nat.le_of_eq hg7.out.symm), h7.same hb5⟩, ⟨Nat.le_trans hH2.size (Nat.le_of_eq hg8.out.symm), h8.same (hb4.trans (hb5.mono hb4.size))⟩, Nat.ne_of_gt (Nat.lt_of_lt_of_le h8.lt (Nat.le_trans (Below.refl V3.heap.size V3).size (Nat.le_of_eq hg7.out.symm)))⟩)
      · go_simp
        obtain ⟨g7, hg7⟩ : ∃ G, G = V1.heap.size := ⟨_, rfl⟩
        rw [← hg7]
        obtain ⟨V2, hV2⟩ : ∃ V, V = V1.alloc (.cells #[.int .i64 0, .int .i64 0, .int .i64 0, .int .i64 0, .int .i64 0, .slice none 0 0] 27) := ⟨_, rfl⟩
        rw [← hV2]
        have hb2 : Below V1.heap.size V1 V2 := by rw [hV2]; exact (Below.refl _ _).alloc (Nat.le_refl _) _
        have h7 : HAt V2 g7 hz none 0 := by rw [hV2, hg7]; exact heap_alloc_new _ _
        clear hV2
        replace hg7 := Lib.hid hg7
        have hH2 : Below w1.heap.size w1 V2 := hH1.trans (hb2.mono hH1.size)
        refine hKK.out _ _ hH2 (fun hHeld => ?_)
        clear hKK KK
        try simp only [Act.put, List.setIfInBounds_toArray, List.set_cons_zero, List.set_cons_succ]
        refine wpAnyH_ready (rs := [3, 7]) (by kernel_rfl) (by simp) (AllReadyH.cons rfl (fun KK hKK => ?_) (AllReadyH.cons rfl (fun KK hKK => ?_) AllReadyH.nil))
        · go_simp
          refine (HLY.out V2 hH2).mono ?_
          rintro e V3 ⟨y, hy, rfl, hTy, hb3⟩
          dsimp only [hV]
          have hH3 : Below w1.heap.size w1 V3 := hH2.trans (hb3.mono hH2.size)
          refine hKK.out _ _ hH3 (fun hHeld => ?_)
          clear hKK KK
          try simp only [Act.put, List.setIfInBounds_toArray, List.set_cons_zero, List.set_cons_succ]
          refine wpAnyH_ready (rs := [5, 7]) (by kernel_rfl) (by simp) (AllReadyH.cons rfl (fun KK hKK => ?_) (AllReadyH.cons rfl (fun KK hKK => ?_) AllReadyH.nil))
          · go_simp
            refine (HLS.out V3 hH3).mono ?_
            rintro e V4 ⟨rfl, hbk, hb4⟩
            dsimp only
            obtain ⟨i, hi⟩ : ∃ G, G = V3.heap.size := ⟨_, rfl⟩
            rw [← hi] at hbk ⊢
            replace hi := Lib.hid hi
            have hH4 : Below w1.heap.size w1 V4 := hH3.trans (hb4.mono hH3.size)
            refine hKK.out _ _ hH4 (fun hHeld => ?_)
            clear hKK KK
            try simp only [Act.put, List.setIfInBounds_toArray, List.set_cons_zero, List.set_cons_succ]
            refine wpAnyH_ready (rs := [7]) (by kernel_rfl) (by simp) (AllReadyH.cons rfl (fun KK hKK => ?_) AllReadyH.nil)
            go_simp
            obtain ⟨g8, hg8⟩ : ∃ G, G = V4.heap.size := ⟨_, rfl⟩
            rw [← hg8]
            obtain ⟨V5, hV5⟩ : ∃ V, V = V4.alloc (.cells #[.int .i64 0, .int .i64 0, .int .i64 0, .int .i64 0, .int .i64 0, .slice none 0 0] 27) := ⟨_, rfl⟩
            rw [← hV5]
            have hb5 : Below V4.heap.size V4 V5 := by rw [hV5]; exact (Below.refl _ _).alloc (Nat.le_refl _) _
            have h8 : HAt V5 g8 hz none 0 := by rw [hV5, hg8]; exact heap_alloc_new _ _
            clear hV5
            replace hg8 := Lib.hid hg8
            have hH5 : Below w1.heap.size w1 V5 := hH4.trans (hb5.mono hH4.size)
            refine hKK.out _ _ hH5 (fun hHeld => ?_)
            clear hKK KK
            try simp only [Act.put, List.setIfInBounds_toArray, List.set_cons_zero, List.set_cons_succ]
            exact HGH.out _ _ _ _ _ _ (Lib.hid ⟨hH5, ⟨Nat.le_trans hH0.size hx, hTx.same (hb2.trans ((hb3.trans ((hb4.trans (hb5.mono hb4.size)).mono hb3.size)).mono hb2.size))⟩, ⟨Nat.le_trans hH2.size hy, hTy.same (hb4.trans (hb5.mono hb4.size))⟩, ⟨Nat.le_trans hH3.size (Nat.le_of_eq hi.out.symm), hbk.same hb5⟩, ⟨Nat.le_trans hH1.size (Nat.le_of_eq hg7.out.symm), h7.same (hb3.trans ((hb4.trans (hb5.mono hb4.size)).mono hb3.size))⟩, ⟨Nat.le_trans hH4.size (Nat.le_of_eq hg8.out.symm), h8.same (Below.refl V5.heap.size V5)⟩, Nat.ne_of_lt (Nat.lt_of_lt_of_le h7.lt (Nat.le_trans (hb3.trans (hb4.mono hb3.size)).size (Nat.le_of_eq hg8.out.symm)))⟩)
          · go_simp
            obtain ⟨g8, hg8⟩ : ∃ G, G = V3.heap.size := ⟨_, rfl⟩
            rw [← hg8]
            obtain ⟨V4, hV4⟩ : ∃ V, V = V3.alloc (.cells #[.int .i64 0, .int .i64 0, .int .i64 0, .int .i64 0, .int .i64 0, .slice none 0 0] 27) := ⟨_, rfl⟩
            rw [← hV4]
            have hb4 : Below V3.heap.size V3 V4 := by rw [hV4]; exact (Below.refl _ _).alloc (Nat.le_refl _) _
            have h8 : HAt V4 g8 hz none 0 := by rw [hV4, hg8]; exact heap_alloc_new _ _
            clear hV4
            replace hg8 := Lib.hid hg8
            have hH4 : Below w1.heap.size w1 V4 := hH3.trans (hb4.mono hH3.size)
            refine hKK.out _ _ hH4 (fun hHeld => ?_)
            clear hKK KK
            try simp only [Act.put, List.setIfInBounds_toArray, List.set_cons_zero, List.set_cons_succ]
            refine wpAnyH_ready (rs := [5]) (by kernel_rfl) (by simp) (AllReadyH.cons rfl (fun KK hKK => ?_) AllReadyH.nil)
            go_simp
            refine (HLS.out V4 hH4).mono ?_
            rintro e V5 ⟨rfl, hbk, hb5⟩
            dsimp only
            obtain ⟨i, hi⟩ : ∃ G, G = V4.heap.size := ⟨_, rfl⟩
            rw [← hi] at hbk ⊢
            replace hi := Lib.hid hi
            have hH5 : Below w1.heap.size w1 V5 := hH4.trans (hb5.mono hH4.size)
            refine hKK.out _ _ hH5 (fun hHeld => ?_)
            clear hKK KK
            try simp only [Act.put, List.setIfInBounds_toArray, List.set_cons_zero, List.set_cons_succ]
            exact HGH.out _ _ _ _ _ _ (Lib.hid ⟨hH5, ⟨Nat.le_trans hH0.size hx, hTx.same (hb2.trans ((hb3.trans ((hb4.trans (hb5.mono hb4.size)).mono hb3.size)).mono hb2.size))⟩, ⟨Nat.le_trans hH2.size hy, hTy.same (hb4.trans (hb5.mono hb4.size))⟩, ⟨Nat.le_trans hH4.size (Nat.le_of_eq hi.out.symm), hbk.same (Below.refl V5.heap.size V5)⟩, ⟨Nat.le_trans hH1.size (Nat.le_of_eq hg7.out.symm), h7.same (hb3.trans ((hb4.trans (hb5.mono hb4.size)).mono hb3.size))⟩, ⟨Nat.le_trans hH3.size (Nat.le_of_eq hg8.out.symm), h8.same hb5⟩, Nat.ne_of_lt (Nat.lt_of_lt_of_le h7.lt (Nat.le_trans hb3.size (Nat.le_of_eq hg8.out.symm)))⟩)
        · go_simp
          obtain ⟨g8, hg8⟩ : ∃ G, G = V2.heap.size := ⟨_, rfl⟩
          rw [← hg8]
          obtain ⟨V3, hV3⟩ : ∃ V, V = V2.alloc (.cells #[.int .i64 0, .int .i64 0, .int .i64 0, .int .i64 0, .int .i64 0, .slice none 0 0] 27) := ⟨_, rfl⟩
          rw [← hV3]
          have hb3 : Below V2.heap.size V2 V3 := by rw [hV3]; exact (Below.refl _ _).alloc (Nat.le_refl _) _
          have h8 : HAt V3 g8 hz none 0 := by rw [hV3, hg8]; exact heap_alloc_new _ _
          clear hV3
          replace hg8 := Lib.hid hg8
          have hH3 : Below w1.heap.size w1 V3 := hH2.trans (hb3.mono hH2.size)
          refine hKK.out _ _ hH3 (fun hHeld => ?_)
          clear hKK KK
          try simp only [Act.put, List.setIfInBounds_toArray, List.set_cons_zero, List.set_cons_succ]
          refine wpAnyH_ready (rs := [3]) (by kernel_rfl) (by simp) (AllReadyH.cons rfl (fun KK hKK => ?_) AllReadyH.nil)
          go_simp
          refine (HLY.out V3 hH3).mono ?_
          rintro e V4 ⟨y, hy, rfl, hTy, hb4⟩
          dsimp only [hV]
          have hH4 : Below w1.heap.size w1 V4 := hH3.trans (hb4.mono hH3.size)
          refine hKK.out _ _ hH4 (fun hHeld => ?_)
          clear hKK KK
          try simp only [Act.put, List.setIfInBounds_toArray, List.set_cons_zero, List.set_cons_succ]
          refine wpAnyH_ready (rs := [5]) (by kernel_rfl) (by simp) (AllReadyH.cons rfl (fun KK hKK => ?_) AllReadyH.nil)
          go_simp
          refine (HLS.out V4 hH4).mono ?_
          rintro e V5 ⟨rfl, hbk, hb5⟩
          dsimp only
          obtain ⟨i, hi⟩ : ∃ G, G = V4.heap.size := ⟨_, rfl⟩
          rw [← hi] at hbk ⊢
          replace hi := Lib.hid hi
          have hH5 : Below w1.heap.size w1 V5 := hH4.trans (hb5.mono hH4.size)
          refine hKK.out _ _ hH5 (fun hHeld => ?_)
          clear hKK KK
          try simp only [Act.put, List.setIfInBounds_toArray, List.set_cons_zero, List.set_cons_succ]
          exact HGH.out _ _ _ _ _ _ (Lib.hid ⟨hH5, ⟨Nat.le_trans hH0.size hx, hTx.same (hb2.trans ((hb3.trans ((hb4.trans (hb5.mono hb4.size)).mono hb3.size)).mono hb2.size))⟩, ⟨Nat.le_trans hH3.size hy, hTy.same hb5⟩, ⟨Nat.le_trans hH4.size (Nat.le_of_eq hi.out.symm), hbk.same (Below.refl V5.heap.size V5)⟩, ⟨Nat.le_trans hH1.size (Nat.le_of_eq hg7.out.symm), h7.same (hb3.trans ((hb4.trans (hb5.mono hb4.size)).mono hb3.size))⟩, ⟨Nat.le_trans hH2.size (Nat.le_of_eq hg8.out.symm), h8.same (hb4.trans (hb5.mono hb4.size))⟩, Nat.ne_of_lt (Nat.lt_of_lt_of_le h7.lt (Nat.le_trans (Below.refl V2.heap.size V2).size (Nat.le_of_eq hg8.out.symm)))⟩)
      · go_simp
        obtain ⟨g8, hg8⟩ : ∃ G, G = V1.heap.size := ⟨_, rfl⟩
        rw [← hg8]
        obtain ⟨V2, hV2⟩ : ∃ V, V = V1.alloc (.cells #[.int .i64 0, .int .i64 0, .int .i64 0, .int .i64 0, .int .i64 0, .slice none 0 0] 27) := ⟨_, rfl⟩
        rw [← hV2]
        have hb2 : Below V1.heap.size V1 V2 := by rw [hV2]; exact (Below.refl _ _).alloc (Nat.le_refl _) _
        have h8 : HAt V2 g8 hz none 0 := by rw [hV2, hg8]; exact heap_alloc_new _ _
        clear hV2
        replace hg8 := Lib.hid hg8
        have hH2 : Below w1.heap.size w1 V2 := hH1.trans (hb2.mono hH1.size)
        refine hKK.out _ _ hH2 (fun hHeld => ?_)
        clear hKK KK
        try simp only [Act.put, List.setIfInBounds_toArray, List.set_cons_zero, List.set_cons_succ]
        refine wpAnyH_ready (rs := [3, 6]) (by kernel_rfl) (by simp) (AllReadyH.cons rfl (fun KK hKK => ?_) (AllReadyH.cons rfl (fun KK hKK => ?_) AllReadyH.nil))
        · go_simp
          refine (HLY.out V2 hH2).mono ?_
          rintro e V3 ⟨y, hy, rfl, hTy, hb3⟩
          dsimp only [hV]
          have hH3 : Below w1.heap.size w1 V3 := hH2.trans (hb3.mono hH2.size)
          refine hKK.out _ _ hH3 (fun hHeld => ?_)
          clear hKK KK
          try simp only [Act.put, List.setIfInBounds_toArray, List.set_cons_zero, List.set_cons_succ]
          refine wpAnyH_ready (rs := [5, 6]) (by kernel_rfl) (by simp) (AllReadyH.cons rfl (fun KK hKK => ?_) (AllReadyH.cons rfl (fun KK hKK => ?_) AllReadyH.nil))
          · go_simp
            refine (HLS.out V3 hH3).mono ?_
            rintro e V4 ⟨rfl, hbk, hb4⟩
            dsimp only
            obtain ⟨i, hi⟩ : ∃ G, G = V3.heap.size := ⟨_, rfl⟩
            rw [← hi] at hbk ⊢
            replace hi := Lib.hid hi
            have hH4 : Below w1.heap.size w1 V4 := hH3.trans (hb4.mono hH3.size)
            refine hKK.out _ _ hH4 (fun hHeld => ?_)
            clear hKK KK
            try simp only [Act.put, List.setIfInBounds_toArray, List.set_cons_zero, List.set_cons_succ]
            refine wpAnyH_ready (rs := [6]) (by kernel_rfl) (by simp) (AllReadyH.cons rfl (fun KK hKK => ?_) AllReadyH.nil)
            go_simp
            obtain ⟨g7, hg7⟩ : ∃ G, G = V4.heap.size := ⟨_, rfl⟩
            rw [← hg7]
            obtain ⟨V5, hV5⟩ : ∃ V, V = V4.alloc (.cells #[.int .i64 0, .int .i64 0, .int .i64 0, .int .i64 0, .int .i64 0, .slice none 0 0] 27) := ⟨_, rfl⟩
            rw [← hV5]
            have hb5 : Below V4.heap.size V4 V5 := by rw [hV5]; exact (Below.refl _ _).alloc (Nat.le_refl _) _
            have h7 : HAt V5 g7 hz none 0 := by rw [hV5, hg7]; exact heap_alloc_new _ _
            clear hV5
            replace hg7 := Lib.hid hg7
            have hH5 : Below w1.heap.size w1 V5 := hH4.trans (hb5.mono hH4.size)
            refine hKK.out _ _ hH5 (fun hHeld => ?_)
            clear hKK KK
            try simp only [Act.put, List.setIfInBounds_toArray, List.set_cons_zero, List.set_cons_succ]
            exact HGH.out _ _ _ _ _ _ (Lib.hid ⟨hH5, ⟨Nat.le_trans hH0.size hx, hTx.same (hb2.trans ((hb3.trans ((hb4.trans (hb5.mono hb4.size)).mono hb3.size)).mono hb2.size))⟩, ⟨Nat.le_trans hH2.size hy, hTy.same (hb4.trans (hb5.mono hb4.size))⟩, ⟨Nat.le_trans hH3.size (Nat.le_of_eq hi.out.symm), hbk.same hb5⟩, ⟨Nat.le_trans hH4.size (Nat.le_of_eq hg7.out.symm), h7.same (Below.refl V5.heap.size V5)⟩, ⟨Nat.le_trans hH1.size (Nat.le_of_eq hg8.out.symm), h8.same (hb3.trans ((hb4.trans (hb5.mono hb4.size)).mono hb3.size))⟩, Nat.ne_of_gt (Nat.lt_of_lt_of_le h8.lt (Nat.le_trans (hb3.trans (hb4.mono hb3.size)).size (Nat.le_of_eq hg7.out.symm)))⟩)
          · go_simp
            obtain ⟨g7, hg7⟩ : ∃ G, G = V3.heap.size := ⟨_, rfl⟩
            rw [← hg7]
            obtain ⟨V4, hV4⟩ : ∃ V, V = V3.alloc (.cells #[.int .i64 0, .int .i64 0, .int .i64 0, .int .i64 0, .int .i64 0, .slice none 0 0] 27) := ⟨_, rfl⟩
            rw [← hV4]
            have hb4 : Below V3.heap.size V3 V4 := by rw [hV4]; exact (Below.refl _ _).alloc (Nat.le_refl _) _
            have h7 : HAt V4 g7 hz none 0 := by rw [hV4, hg7]; exact heap_alloc_new _ _
            clear hV4
            replace hg7 := Lib.hid hg7
            have hH4 : Below w1.heap.size w1 V4 := hH3.trans (hb4.mono hH3.size)
            refine hKK.out _ _ hH4 (fun hHeld => ?_)
            clear hKK KK
            try simp only [Act.put, List.setIfInBounds_toArray, List.set_cons_zero, List.set_cons_succ]
            refine wpAnyH_ready (rs := [5]) (by kernel_rfl) (by simp) (AllReadyH.cons rfl (fun KK hKK => ?_) AllReadyH.nil)
            go_simp
            refine (HLS.out V4 hH4).mono ?_
            rintro e V5 ⟨rfl, hbk, hb5⟩
            dsimp only
            obtain ⟨i, hi⟩ : ∃ G, G = V4.heap.size := ⟨_, rfl⟩
            rw [← hi] at hbk ⊢
            replace hi := Lib.hid hi
            have hH5 : Below w1.heap.size w1 V5 := hH4.trans (hb5.mono hH4.size)
            refine hKK.out _ _ hH5 (fun hHeld => ?_)
            clear hKK KK
            try simp only [Act.put, List.setIfInBounds_toArray, List.set_cons_zero, List.set_cons_succ]
            exact HGH.out _ _ _ _ _ _ (Lib.hid ⟨hH5, ⟨Nat.le_trans hH0.size hx, hTx.same (hb2.trans ((hb3.trans ((hb4.trans (hb5.mono hb4.size)).mono hb3.size)).mono hb2.size))⟩, ⟨Nat.le_trans hH2.size hy, hTy.same (hb4.trans (hb5.mono hb4.size))⟩, ⟨Nat.le_trans hH4.size (Nat.le_of_eq hi.out.symm), hbk.same (Below.refl V5.heap.size V5)⟩, ⟨Nat.le_trans hH3.size (Nat.le_of_eq hg7.out.symm), h7.same hb5⟩, ⟨Nat.le_trans hH1.size (Nat.le_of_eq hg8.out.symm), h8.same (hb3.trans ((hb4.trans (hb5.mono hb4.size)).mono hb3.size))⟩, Nat.ne_of_gt (Nat.lt_of_lt_of_le h8.lt (Nat.le_trans hb3.size (Nat.le_of_eq hg7.out.symm)))⟩)
        · go_simp
          obtain ⟨g7, hg7⟩ : ∃ G, G = V2.heap.size := ⟨_, rfl⟩
          rw [← hg7]
          obtain ⟨V3, hV3⟩ : ∃ V, V = V2.alloc (.cells #[.int .i64 0, .int .i64 0, .int .i64 0, .int .i64 0, .int .i64 0, .slice none 0 0] 27) := ⟨_, rfl⟩
          rw [← hV3]
          have hb3 : Below V2.heap.size V2 V3 := by rw [hV3]; exact (Below.refl _ _).alloc (Nat.le_refl _) _
          have h7 : HAt V3 g7 hz none 0 := by rw [hV3, hg7]; exact heap_alloc_new _ _
          clear hV3
          replace hg7 := Lib.hid hg7
          have hH3 : Below w1.heap.size w1 V3 := hH2.trans (hb3.mono hH2.size)
          refine hKK.out _ _ hH3 (fun hHeld => ?_)
          clear hKK KK
          try simp only [Act.put, List.setIfInBounds_toArray, List.set_cons_zero, List.set_cons_succ]
          refine wpAnyH_ready (rs := [3]) (by kernel_rfl) (by simp) (AllReadyH.cons rfl (fun KK hKK => ?_) AllReadyH.nil)
          go_simp
          refine (HLY.out V3 hH3).mono ?_
          rintro e V4 ⟨y, hy, rfl, hTy, hb4⟩
          dsimp only [hV]
          have hH4 : Below w1.heap.size w1 V4 := hH3.trans (hb4.mono hH3.size)
          refine hKK.out _ _ hH4 (fun hHeld => ?_)
          clear hKK KK
          try simp only [Act.put, List.setIfInBounds_toArray, List.set_cons_zero, List.set_cons_succ]
          refine wpAnyH_ready (rs := [5]) (by kernel_rfl) (by simp) (AllReadyH.cons rfl (fun KK hKK => ?_) AllReadyH.nil)
          go_simp
          refine (HLS.out V4 hH4).mono ?_
          rintro e V5 ⟨rfl, hbk, hb5⟩
          dsimp only
          obtain ⟨i, hi⟩ : ∃ G, G = V4.heap.size := ⟨_, rfl⟩
          rw [← hi] at hbk ⊢
          replace hi := Lib.hid hi
          have hH5 : Below w1.heap.size w1 V5 := hH4.trans (hb5.mono hH4.size)
          refine hKK.out _ _ hH5 (fun hHeld => ?_)
          clear hKK KK
          try simp only [Act.put, List.setIfInBounds_toArray, List.set_cons_zero, List.set_cons_succ]
          exact HGH.out _ _ _ _ _ _ (Lib.hid ⟨hH5, ⟨Nat.le_trans hH0.size hx, hTx.same (hb2.trans ((hb3.trans ((hb4.trans (hb5.mono hb4.size)).mono hb3.size)).mono hb2.size))⟩, ⟨Nat.le_trans hH3.size hy, hTy.same hb5⟩, ⟨Nat.le_trans hH4.size (Nat.le_of_eq hi.out.symm), hbk.same (Below.refl V5.heap.size V5)⟩, ⟨Nat.le_trans hH2.size (Nat.le_of_eq hg7.out.symm), h7.same (hb4.trans (hb5.mono hb4.size))⟩, ⟨Nat.le_trans hH1.size (Nat.le_of_eq hg8.out.symm), h8.same (hb3.trans ((hb4.trans (hb5.mono hb4.size)).mono hb3.size))⟩, Nat.ne_of_gt (Nat.lt_of_lt_of_le h8.lt (Nat.le_trans (Below.refl V2.heap.size V2).size (Nat.le_of_eq hg7.out.symm)))⟩)
    · go_simp
      obtain ⟨g7, hg7⟩ : ∃ G, G = V0.heap.size := ⟨_, rfl⟩
      rw [← hg7]
      obtain ⟨V1, hV1⟩ : ∃ V, V = V0.alloc (.cells #[.int .i64 0, .int .i64 0, .int .i64 0, .int .i64 0, .int .i64 0, .slice none 0 0] 27) := ⟨_, rfl⟩
      rw [← hV1]
      have hb1 : Below V0.heap.size V0 V1 := by rw [hV1]; exact (Below.refl _ _).alloc (Nat.le_refl _) _
      have h7 : HAt V1 g7 hz none 0 := by rw [hV1, hg7]; exact heap_alloc_new _ _
      clear hV1
      replace hg7 := Lib.hid hg7
      have hH1 : Below w1.heap.size w1 V1 := hH0.trans (hb1.mono hH0.size)
      refine hKK.out _ _ hH1 (fun hHeld => ?_)
      clear hKK KK
      try simp only [Act.put, List.setIfInBounds_toArray, List.set_cons_zero, List.set_cons_succ]
      refine wpAnyH_ready (rs := [1, 7]) (by kernel_rfl) (by simp) (AllReadyH.cons rfl (fun KK hKK => ?_) (AllReadyH.cons rfl (fun KK hKK => ?_) AllReadyH.nil))
      · go_simp
        refine (HLX.out V1 hH1).mono ?_
        rintro e V2 ⟨x, hx, rfl, hTx, hb2⟩
        dsimp only [hV]
        have hH2 : Below w1.heap.size w1 V2 := hH1.trans (hb2.mono hH1.size)
        refine hKK.out _ _ hH2 (fun hHeld => ?_)
        clear hKK KK
        try simp only [Act.put, List.setIfInBounds_toArray, List.set_cons_zero, List.set_cons_succ]
        refine wpAnyH_ready (rs := [3, 7]) (by kernel_rfl) (by simp) (AllReadyH.cons rfl (fun KK hKK => ?_) (AllReadyH.cons rfl (fun KK hKK => ?_) AllReadyH.nil))
        · go_simp
          refine (HLY.out V2 hH2).mono ?_
          rintro e V3 ⟨y, hy, rfl, hTy, hb3⟩
          dsimp only [hV]
          have hH3 : Below w1.heap.size w1 V3 := hH2.trans (hb3.mono hH2.size)
          refine hKK.out _ _ hH3 (fun hHeld => ?_)
          clear hKK KK
          try simp only [Act.put, List.setIfInBounds_toArray, List.set_cons_zero, List.set_cons_succ]
          refine wpAnyH_ready (rs := [5, 7]) (by kernel_rfl) (by simp) (AllReadyH.cons rfl (fun KK hKK => ?_) (AllReadyH.cons rfl (fun KK hKK => ?_) AllReadyH.nil))
          · go_simp
            refine (HLS.out V3 hH3).mono ?_
            rintro e V4 ⟨rfl, hbk, hb4⟩
            dsimp only
            obtain ⟨i, hi⟩ : ∃ G, G = V3.heap.size := ⟨_, rfl⟩
            rw [← hi] at hbk ⊢
            replace hi := Lib.hid hi
            have hH4 : Below w1.heap.size w1 V4 := hH3.trans (hb4.mono hH3.size)
            refine hKK.out _ _ hH4 (fun hHeld => ?_)
            clear hKK KK
            try simp only [Act.put, List.setIfInBounds_toArray, List.set_cons_zero, List.set_cons_succ]
            refine wpAnyH_ready (rs := [7]) (by kernel_rfl) (by simp) (AllReadyH.cons rfl (fun KK hKK => ?_) AllReadyH.nil)
            go_simp
            obtain ⟨g8, hg8⟩ : ∃ G, G = V4.heap.size := ⟨_, rfl⟩
            rw [← hg8]
            obtain ⟨V5, hV5⟩ : ∃ V, V = V4.alloc (.cells #[.int .i64 0, .int .i64 0, .int .i64 0, .int .i64 0, .int .i64 0, .slice none 0 0] 27) := ⟨_, rfl⟩
            rw [← hV5]
            have hb5 : Below V4.heap.size V4 V5 := by rw [hV5]; exact (Below.refl _ _).alloc (Nat.le_refl _) _
            have h8 : HAt V5 g8 hz none 0 := by rw [hV5, hg8]; exact heap_alloc_new _ _
            clear hV5
            replace hg8 := Lib.hid hg8
            have hH5 : Below w1.heap.size w1 V5 := hH4.trans (hb5.mono hH4.size)
            refine hKK.out _ _ hH5 (fun hHeld => ?_)
            clear hKK KK
            try simp only [Act.put, List.setIfInBounds_toArray, List.set_cons_zero, List.set_cons_succ]
            exact HGH.out _ _ _ _ _ _ (Lib.hid ⟨hH5, ⟨Nat.le_trans hH1.size hx, hTx.same (hb3.trans ((hb4.trans (hb5.mono hb4.size)).mono hb3.size))⟩, ⟨Nat.le_trans hH2.size hy, hTy.same (hb4.trans (hb5.mono hb4.size))⟩, ⟨Nat.le_trans hH3.size (Nat.le_of_eq hi.out.symm), hbk.same hb5⟩, ⟨Nat.le_trans hH0.size (Nat.le_of_eq hg7.out.symm), h7.same (hb2.trans ((hb3.trans ((hb4.trans (hb5.mono hb4.size)).mono hb3.size)).mono hb2.size))⟩, ⟨Nat.le_trans hH4.size (Nat.le_of_eq hg8.out.symm), h8.same (Below.refl V5.heap.size V5)⟩, Nat.ne_of_lt (Nat.lt_of_lt_of_le h7.lt (Nat.le_trans (hb2.trans ((hb3.trans (hb4.mono hb3.size)).mono hb2.size)).size (Nat.le_of_eq hg8.out.symm)))⟩)
          · go_simp
            obtain ⟨g8, hg8⟩ : ∃ G, G = V3.heap.size := ⟨_, rfl⟩
            rw [← hg8]
            obtain ⟨V4, hV4⟩ : ∃ V, V = V3.alloc (.cells #[.int .i64 0, .int .i64 0, .int .i64 0, .int .i64 0, .int .i64 0, .slice none 0 0] 27) := ⟨_, rfl⟩
            rw [← hV4]
            have hb4 : Below V3.heap.size V3 V4 := by rw [hV4]; exact (Below.refl _ _).alloc (Nat.le_refl _) _
            have h8 : HAt V4 g8 hz none 0 := by rw [hV4, hg8]; exact heap_alloc_new _ _
            clear hV4
            replace hg8 := Lib.hid hg8
            have hH4 : Below w1.heap.size w1 V4 := hH3.trans (hb4.mono hH3.size)
            refine hKK.out _ _ hH4 (fun hHeld => ?_)
            clear hKK KK
            try simp only [Act.put, List.setIfInBounds_toArray, List.set_cons_zero, List.set_cons_succ]
            refine wpAnyH_ready (rs := [5]) (by kernel_rfl) (by simp) (AllReadyH.cons rfl (fun KK hKK => ?_) AllReadyH.nil)
            go_simp
            refine (HLS.out V4 hH4).mono ?_
            rintro e V5 ⟨rfl, hbk, hb5⟩
            dsimp only
            obtain ⟨i, hi⟩ : ∃ G, G = V4.heap.size := ⟨_, rfl⟩
            rw [← hi] at hbk ⊢
            replace hi := Lib.hid hi
            have hH5 : Below w1.heap.size w1 V5 := hH4.trans (hb5.mono hH4.size)
            refine hKK.out _ _ hH5 (fun hHeld => ?_)
            clear hKK KK
            try simp only [Act.put, List.setIfInBounds_toArray, List.set_cons_zero, List.set_cons_succ]
            exact HGH.out _ _ _ _ _ _ (Lib.hid ⟨hH5, ⟨Nat.le_trans hH1.size hx, hTx.same (hb3.trans ((hb4.trans (hb5.mono hb4.size)).mono hb3.size))⟩, ⟨Nat.le_trans hH2.size hy, hTy.same (hb4.trans (hb5.mono hb4.size))⟩, ⟨Nat.le_trans hH4.size (Nat.le_of_eq hi.out.symm), hbk.same (Below.refl V5.heap.size V5)⟩, ⟨Nat.le_trans hH0.size (Nat.le_of_eq hg7.out.symm), h7.same (hb2.trans ((hb3.trans ((hb4.trans (hb5.mono hb4.size)).mono hb3.size)).mono hb2.size))⟩, ⟨Nat.le_trans hH3.size (Nat.le_of_eq hg8.out.symm), h8.same hb5⟩, Nat.ne_of_lt (Nat.lt_of_lt_of_le h7.lt (Nat.le_trans (hb2.trans (hb3.mono hb2.size)).size (Nat.le_of_eq hg8.out.symm)))⟩)
        · go_simp
          obtain ⟨g8, hg8⟩ : ∃ G, G = V2.heap.size := ⟨_, rfl⟩
          rw [← hg8]
          obtain ⟨V3, hV3⟩ : ∃ V, V = V2.alloc (.cells #[.int .i64 0, .int .i64 0, .int .i64 0, .int .i64 0, .int .i64 0, .slice none 0 0] 27) := ⟨_, rfl⟩
          rw [← hV3]
          have hb3 : Below V2.heap.size V2 V3 := by rw [hV3]; exact (Below.refl _ _).alloc (Nat.le_refl _) _
          have h8 : HAt V3 g8 hz none 0 := by rw [hV3, hg8]; exact heap_alloc_new _ _
          clear hV3
          replace hg8 := Lib.hid hg8
          have hH3 : Below w1.heap.size w1 V3 := hH2.trans (hb3.mono hH2.size)
          refine hKK.out _ _ hH3 (fun hHeld => ?_)
          clear hKK KK
          try simp only [Act.put, List.setIfInBounds_toArray, List.set_cons_zero, List.set_cons_succ]
          refine wpAnyH_ready (rs := [3]) (by kernel_rfl) (by simp) (AllReadyH.cons rfl (fun KK hKK => ?_) AllReadyH.nil)
          go_simp
          refine (HLY.out V3 hH3).mono ?_
          rintro e V4 ⟨y, hy, rfl, hTy, hb4⟩
          dsimp only [hV]
          have hH4 : Below w1.heap.size w1 V4 := hH3.trans (hb4.mono hH3.size)
          refine hKK.out _ _ hH4 (fun hHeld => ?_)
          clear hKK KK
          try simp only [Act.put, List.setIfInBounds_toArray, List.set_cons_zero, List.set_cons_succ]
          refine wpAnyH_ready (rs := [5]) (by kernel_rfl) (by simp) (AllReadyH.cons rfl (fun KK hKK => ?_) AllReadyH.nil)
          go_simp
          refine (HLS.out V4 hH4).mono ?_
          rintro e V5 ⟨rfl, hbk, hb5⟩
          dsimp only
          obtain ⟨i, hi⟩ : ∃ G, G = V4.heap.size := ⟨_, rfl⟩
          rw [← hi] at hbk ⊢
          replace hi := Lib.hid hi
          have hH5 : Below w1.heap.size w1 V5 := hH4.trans (hb5.mono hH4.size)
          refine hKK.out _ _ hH5 (fun hHeld => ?_)
          clear hKK KK
          try simp only [Act.put, List.setIfInBounds_toArray, List.set_cons_zero, List.set_cons_succ]
          exact HGH.out _ _ _ _ _ _ (Lib.hid ⟨hH5, ⟨Nat.le_trans hH1.size hx, hTx.same (hb3.trans ((hb4.trans (hb5.mono hb4.size)).mono hb3.size))⟩, ⟨Nat.le_trans hH3.size hy, hTy.same hb5⟩, ⟨Nat.le_trans hH4.size (Nat.le_of_eq hi.out.symm), hbk.same (Below.refl V5.heap.size V5)⟩, ⟨Nat.le_trans hH0.size (Nat.le_of_eq hg7.out.symm), h7.same (hb2.trans ((hb3.trans ((hb4.trans (hb5.mono hb4.size)).mono hb3.size)).mono hb2.size))⟩, ⟨Nat.le_trans hH2.size (Nat.le_of_eq hg8.out.symm), h8.same (hb4.trans (hb5.mono hb4.size))⟩, Nat.ne_of_lt (Nat.lt_of_lt_of_le h7.lt (Nat.le_trans hb2.size (Nat.le_of_eq hg8.out.symm)))⟩)
      · go_simp
        obtain ⟨g8, hg8⟩ : ∃ G, G = V1.heap.size := ⟨_, rfl⟩
        rw [← hg8]
        obtain ⟨V2, hV2⟩ : ∃ V, V = V1.alloc (.cells #[.int .i64 0, .int .i64 0, .int .i64 0, .int .i64 0, .int .i64 0, .slice none 0 0] 27) := ⟨_, rfl⟩
        rw [← hV2]
        have hb2 : Below V1.heap.size V1 V2 := by rw [hV2]; exact (Below.refl _ _).alloc (Nat.le_refl _) _
        have h8 : HAt V2 g8 hz none 0 := by rw [hV2, hg8]; exact heap_alloc_new _ _
        clear hV2
        replace hg8 := Lib.hid hg8
        have hH2 : Below w1.heap.size w1 V2 := hH1.trans (hb2.mono hH1.size)
        refine hKK.out _ _ hH2 (fun hHeld => ?_)
        clear hKK KK
        try simp only [Act.put, List.setIfInBounds_toArray, List.set_cons_zero, List.set_cons_succ]
        refine wpAnyH_ready (rs := [1]) (by kernel_rfl) (by simp) (AllReadyH.cons rfl (fun KK hKK => ?_) AllReadyH.nil)
        go_simp
        refine (HLX.out V2 hH2).mono ?_
        rintro e V3 ⟨x, hx, rfl, hTx, hb3⟩
        dsimp only [hV]
        have hH3 : Below w1.heap.size w1 V3 := hH2.trans (hb3.mono hH2.size)
        refine hKK.out _ _ hH3 (fun hHeld => ?_)
        clear hKK KK
        try simp only [Act.put, List.setIfInBounds_toArray, List.set_cons_zero, List.set_cons_succ]
        refine wpAnyH_ready (rs := [3]) (by kernel_rfl) (by simp) (AllReadyH.cons rfl (fun KK hKK => ?_) AllReadyH.nil)
        go_simp
        refine (HLY.out V3 hH3).mono ?_
        rintro e V4 ⟨y, hy, rfl, hTy, hb4⟩
        dsimp only [hV]
        have hH4 : Below w1.heap.size w1 V4 := hH3.trans (hb4.mono hH3.size)
        refine hKK.out _ _ hH4 (fun hHeld => ?_)
        clear hKK KK
        try simp only [Act.put, List.setIfInBounds_toArray, List.set_cons_zero, List.set_cons_succ]
        refine wpAnyH_ready (rs := [5]) (by kernel_rfl) (by simp) (AllReadyH.cons rfl (fun KK hKK => ?_) AllReadyH.nil)
        go_simp
        refine (HLS.out V4 hH4).mono ?_
        rintro e V5 ⟨rfl, hbk, hb5⟩
        dsimp only
        obtain ⟨i, hi⟩ : ∃ G, G = V4.heap.size := ⟨_, rfl⟩
        rw [← hi] at hbk ⊢
        replace hi := Lib.hid hi
        have hH5 : Below w1.heap.size w1 V5 := hH4.trans (hb5.mono hH4.size)
        refine hKK.out _ _ hH5 (fun hHeld => ?_)
        clear hKK KK
        try simp only [Act.put, List.setIfInBounds_toArray, List.set_cons_zero, List.set_cons_succ]
        exact HGH.out _ _ _ _ _ _ (Lib.hid ⟨hH5, ⟨Nat.le_trans hH2.size hx, hTx.same (hb4.trans (hb5.mono hb4.size))⟩, ⟨Nat.le_trans hH3.size hy, hTy.same hb5⟩, ⟨Nat.le_trans hH4.size (Nat.le_of_eq hi.out.symm), hbk.same (Below.refl V5.heap.size V5)⟩, ⟨Nat.le_trans hH0.size (Nat.le_of_eq hg7.out.symm), h7.same (hb2.trans ((hb3.trans ((hb4.trans (hb5.mono hb4.size)).mono hb3.size)).mono hb2.size))⟩, ⟨Nat.le_trans hH1.size (Nat.le_of_eq hg8.out.symm), h8.same (hb3.trans ((hb4.trans (hb5.mono hb4.size)).mono hb3.size))⟩, Nat.ne_of_lt (Nat.lt_of_lt_of_le h7.lt (Nat.le_trans (Below.refl V1.heap.size V1).size (Nat.le_of_eq hg8.out.symm)))⟩)
    · go_simp
      obtain ⟨g8, hg8⟩ : ∃ G, G = V0.heap.size := ⟨_, rfl⟩
      rw [← hg8]
      obtain ⟨V1, hV1⟩ : ∃ V, V = V0.alloc (.cells #[.int .i64 0, .int .i64 0, .int .i64 0, .int .i64 0, .int .i64 0, .slice none 0 0] 27) := ⟨_, rfl⟩
      rw [← hV1]
      have hb1 : Below V0.heap.size V0 V1 := by rw [hV1]; exact (Below.refl _ _).alloc (Nat.le_refl _) _
      have h8 : HAt V1 g8 hz none 0 := by rw [hV1, hg8]; exact heap_alloc_new _ _
      clear hV1
      replace hg8 := Lib.hid hg8
      have hH1 : Below w1.heap.size w1 V1 := hH0.trans (hb1.mono hH0.size)
      refine hKK.out _ _ hH1 (fun hHeld => ?_)
      clear hKK KK
      try simp only [Act.put, List.setIfInBounds_toArray, List.set_cons_zero, List.set_cons_succ]
      refine wpAnyH_ready (rs := [1, 6]) (by kernel_rfl) (by simp) (AllReadyH.cons rfl (fun KK hKK => ?_) (AllReadyH.cons rfl (fun KK hKK => ?_) AllReadyH.nil))
      · go_simp
        refine (HLX.out V1 hH1).mono ?_
        rintro e V2 ⟨x, hx, rfl, hTx, hb2⟩
        dsimp only [hV]
        have hH2 : Below w1.heap.size w1 V2 := hH1.trans (hb2.mono hH1.size)
        refine hKK.out _ _ hH2 (fun hHeld => ?_)
        clear hKK KK
        try simp only [Act.put, List.setIfInBounds_toArray, List.set_cons_zero, List.set_cons_succ]
        refine wpAnyH_ready (rs := [3, 6]) (by kernel_rfl) (by simp) (AllReadyH.cons rfl (fun KK hKK => ?_) (AllReadyH.cons rfl (fun KK hKK => ?_) AllReadyH.nil))
        · go_simp
          refine (HLY.out V2 hH2).mono ?_
          rintro e V3 ⟨y, hy, rfl, hTy, hb3⟩
          dsimp only [hV]
          have hH3 : Below w1.heap.size w1 V3 := hH2.trans (hb3.mono hH2.size)
          refine hKK.out _ _ hH3 (fun hHeld => ?_)
          clear hKK KK
          try simp only [Act.put, List.setIfInBounds_toArray, List.set_cons_zero, List.set_cons_succ]
          refine wpAnyH_ready (rs := [5, 6]) (by kernel_rfl) (by simp) (AllReadyH.cons rfl (fun KK hKK => ?_) (AllReadyH.cons rfl (fun KK hKK => ?_) AllReadyH.nil))
          · go_simp
            refine (HLS.out V3 hH3).mono ?_
            rintro e V4 ⟨rfl, hbk, hb4⟩
            dsimp only
            obtain ⟨i, hi⟩ : ∃ G, G = V3.heap.size := ⟨_, rfl⟩
            rw [← hi] at hbk ⊢
            replace hi := Lib.hid hi
            have hH4 : Below w1.heap.size w1 V4 := hH3.trans (hb4.mono hH3.size)
            refine hKK.out _ _ hH4 (fun hHeld => ?_)
            clear hKK KK
            try simp only [Act.put, List.setIfInBounds_toArray, List.set_cons_zero, List.set_cons_succ]
            refine wpAnyH_ready (rs := [6]) (by kernel_rfl) (by simp) (AllReadyH.cons rfl (fun KK hKK => ?_) AllReadyH.nil)
            go_simp
            obtain ⟨g7, hg7⟩ : ∃ G, G = V4.heap.size := ⟨_, rfl⟩
            rw [← hg7]
            obtain ⟨V5, hV5⟩ : ∃ V, V = V4.alloc (.cells #[.int .i64 0, .int .i64 0, .int .i64 0, .int .i64 0, .int .i64 0, .slice none 0 0] 27) := ⟨_, rfl⟩
            rw [← hV5]
            have hb5 : Below V4.heap.size V4 V5 := by rw [hV5]; exact (Below.refl _ _).alloc (Nat.le_refl _) _
            have h7 : HAt V5 g7 hz none 0 := by rw [hV5, hg7]; exact heap_alloc_new _ _
            clear hV5
            replace hg7 := Lib.hid hg7
            have hH5 : Below w1.heap.size w1 V5 := hH4.trans (hb5.mono hH4.size)
            refine hKK.out _ _ hH5 (fun hHeld => ?_)
            clear hKK KK
            try simp only [Act.put, List.setIfInBounds_toArray, List.set_cons_zero, List.set_cons_succ]
            exact HGH.out _ _ _ _ _ _ (Lib.hid ⟨hH5, ⟨Nat.le_trans hH1.size hx, hTx.same (hb3.trans ((hb4.trans (hb5.mono hb4.size)).mono hb3.size))⟩, ⟨Nat.le_trans hH2.size hy, hTy.same (hb4.trans (hb5.mono hb4.size))⟩, ⟨Nat.le_trans hH3.size (Nat.le_of_eq hi.out.symm), hbk.same hb5⟩, ⟨Nat.le_trans hH4.size (Nat.le_of_eq hg7.out.symm), h7.same (Below.refl V5.heap.size V5)⟩, ⟨Nat.le_trans hH0.size (Nat.le_of_eq hg8.out.symm), h8.same (hb2.trans ((hb3.trans ((hb4.trans (hb5.mono hb4.size)).mono hb3.size)).mono hb2.size))⟩, Nat.ne_of_gt (Nat.lt_of_lt_of_le h8.lt (Nat.le_trans (hb2.trans ((hb3.trans (hb4.mono hb3.size)).mono hb2.size)).size (Nat.le_of_eq hg7.out.symm)))⟩)
          · go_simp
            obtain ⟨g7, hg7⟩ : ∃ G, G = V3.heap.size := ⟨_, rfl⟩
            rw [← hg7]
            obtain ⟨V4, hV4⟩ : ∃ V, V = V3.alloc (.cells #[.int .i64 0, .int .i64 0, .int .i64 0, .int .i64 0, .int .i64 0, .slice none 0 0] 27) := ⟨_, rfl⟩
            rw [← hV4]
            have hb4 : Below V3.heap.size V3 V4 := by rw [hV4]; exact (Below.refl _ _).alloc (Nat.le_refl _) _
            have h7 : HAt V4 g7 hz none 0 := by rw [hV4, hg7]; exact heap_alloc_new _ _
            clear hV4
            replace hg7 := Lib.hid hg7
            have hH4 : Below w1.heap.size w1 V4 := hH3.trans (hb4.mono hH3.size)
            refine hKK.out _ _ hH4 (fun hHeld => ?_)
            clear hKK KK
            try simp only [Act.put, List.setIfInBounds_toArray, List.set_cons_zero, List.set_cons_succ]
            refine wpAnyH_ready (rs := [5]) (by kernel_rfl) (by simp) (AllReadyH.cons rfl (fun KK hKK => ?_) AllReadyH.nil)
            go_simp
            refine (HLS.out V4 hH4).mono ?_
            rintro e V5 ⟨rfl, hbk, hb5⟩
            dsimp only
            obtain ⟨i, hi⟩ : ∃ G, G = V4.heap.size := ⟨_, rfl⟩
            rw [← hi] at hbk ⊢
            replace hi := Lib.hid hi
            have hH5 : Below w1.heap.size w1 V5 := hH4.trans (hb5.mono hH4.size)
            refine hKK.out _ _ hH5 (fun hHeld => ?_)
            clear hKK KK
            try simp only [Act.put, List.setIfInBounds_toArray, List.set_cons_zero, List.set_cons_succ]
            exact HGH.out _ _ _ _ _ _ (Lib.hid ⟨hH5, ⟨Nat.le_trans hH1.size hx, hTx.same (hb3.trans ((hb4.trans (hb5.mono hb4.size)).mono hb3.size))⟩, ⟨Nat.le_trans hH2.size hy, hTy.same (hb4.trans (hb5.mono hb4.size))⟩, ⟨Nat.le_trans hH4.size (Nat.le_of_eq hi.out.symm), hbk.same (Below.refl V5.heap.size V5)⟩, ⟨Nat.le_trans hH3.size (Nat.le_of_eq hg7.out.symm), h7.same hb5⟩, ⟨Nat.le_trans hH0.size (Nat.le_of_eq hg8.out.symm), h8.same (hb2.trans ((hb3.trans ((hb4.trans (hb5.mono hb4.size)).mono hb3.size)).mono hb2.size))⟩, Nat.ne_of_gt (Nat.lt_of_lt_of_le h8.lt (Nat.le_trans (hb2.trans (hb3.mono hb2.size)).size (Nat.le_of_eq hg7.out.symm)))⟩)
        · go_simp
          obtain ⟨g7, hg7⟩ : ∃ G, G = V2.heap.size := ⟨_, rfl⟩
          rw [← hg7]
          obtain ⟨V3, hV3⟩ : ∃ V, V = V2.alloc (.cells #[.int .i64 0, .int .i64 0, .int .i64 0, .int .i64 0, .int .i64 0, .slice none 0 0] 27) := ⟨_, rfl⟩
          rw [← hV3]
          have hb3 : Below V2.heap.size V2 V3 := by rw [hV3]; exact (Below.refl _ _).alloc (Nat.le_refl _) _
          have h7 : HAt V3 g7 hz none 0 := by rw [hV3, hg7]; exact heap_alloc_new _ _
          clear hV3
          replace hg7 := Lib.hid hg7
          have hH3 : Below w1.heap.size w1 V3 := hH2.trans (hb3.mono hH2.size)
          refine hKK.out _ _ hH3 (fun hHeld => ?_)
          clear hKK KK
          try simp only [Act.put, List.setIfInBounds_toArray, List.set_cons_zero, List.set_cons_succ]
          refine wpAnyH_ready (rs := [3]) (by kernel_rfl) (by simp) (AllReadyH.cons rfl (fun KK hKK => ?_) AllReadyH.nil)
          go_simp
          refine (HLY.out V3 hH3).mono ?_
          rintro e V4 ⟨y, hy, rfl, hTy, hb4⟩
          dsimp only [hV]
          have hH4 : Below w1.heap.size w1 V4 := hH3.trans (hb4.mono hH3.size)
          refine hKK.out _ _ hH4 (fun hHeld => ?_)
          clear hKK KK
          try simp only [Act.put, List.setIfInBounds_toArray, List.set_cons_zero, List.set_cons_succ]
          refine wpAnyH_ready (rs := [5]) (by kernel_rfl) (by simp) (AllReadyH.cons rfl (fun KK hKK => ?_) AllReadyH.nil)
          go_simp
          refine (HLS.out V4 hH4).mono ?_
          rintro e V5 ⟨rfl, hbk, hb5⟩
          dsimp only
          obtain ⟨i, hi⟩ : ∃ G, G = V4.heap.size := ⟨_, rfl⟩
          rw [← hi] at hbk ⊢
          replace hi := Lib.hid hi
          have hH5 : Below w1.heap.size w1 V5 := hH4.trans (hb5.mono hH4.size)
          refine hKK.out _ _ hH5 (fun hHeld => ?_)
          clear hKK KK
          try simp only [Act.put, List.setIfInBounds_toArray, List.set_cons_zero, List.set_cons_succ]
          exact HGH.out _ _ _ _ _ _ (Lib.hid ⟨hH5, ⟨Nat.le_trans hH1.size hx, hTx.same (hb3.trans ((hb4.trans (hb5.mono hb4.size)).mono hb3.size))⟩, ⟨Nat.le_trans hH3.size hy, hTy.same hb5⟩, ⟨Nat.le_trans hH4.size (Nat.le_of_eq hi.out.symm), hbk.same (Below.refl V5.heap.size V5)⟩, ⟨Nat.le_trans hH2.size (Nat.le_of_eq hg7.out.symm), h7.same (hb4.trans (hb5.mono hb4.size))⟩, ⟨Nat.le_trans hH0.size (Nat.le_of_eq hg8.out.symm), h8.same (hb2.trans ((hb3.trans ((hb4.trans (hb5.mono hb4.size)).mono hb3.size)).mono hb2.size))⟩, Nat.ne_of_gt (Nat.lt_of_lt_of_le h8.lt (Nat.le_trans hb2.size (Nat.le_of_eq hg7.out.symm)))⟩)
      · go_simp
        obtain ⟨g7, hg7⟩ : ∃ G, G = V1.heap.size := ⟨_, rfl⟩
        rw [← hg7]
        obtain ⟨V2, hV2⟩ : ∃ V, V = V1.alloc (.cells #[.int .i64 0, .int .i64 0, .int .i64 0, .int .i64 0, .int .i64 0, .slice none 0 0] 27) := ⟨_, rfl⟩
        rw [← hV2]
        have hb2 : Below V1.heap.size V1 V2 := by rw [hV2]; exact (Below.refl _ _).alloc (Nat.le_refl _) _
        have h7 : HAt V2 g7 hz none 0 := by rw [hV2, hg7]; exact heap_alloc_new _ _
        clear hV2
        replace hg7 := Lib.hid hg7
        have hH2 : Below w1.heap.size w1 V2 := hH1.trans (hb2.mono hH1.size)
        refine hKK.out _ _ hH2 (fun hHeld => ?_)
        clear hKK KK
        try simp only [Act.put, List.setIfInBounds_toArray, List.set_cons_zero, List.set_cons_succ]
        refine wpAnyH_ready (rs := [1]) (by kernel_rfl) (by simp) (AllReadyH.cons rfl (fun KK hKK => ?_) AllReadyH.nil)
        go_simp
        refine (HLX.out V2 hH2).mono ?_
        rintro e V3 ⟨x, hx, rfl, hTx, hb3⟩
        dsimp only [hV]
        have hH3 : Below w1.heap.size w1 V3 := hH2.trans (hb3.mono hH2.size)
        refine hKK.out _ _ hH3 (fun hHeld => ?_)
        clear hKK KK
        try simp only [Act.put, List.setIfInBounds_toArray, List.set_cons_zero, List.set_cons_succ]
        refine wpAnyH_ready (rs := [3]) (by kernel_rfl) (by simp) (AllReadyH.cons rfl (fun KK hKK => ?_) AllReadyH.nil)
        go_simp
        refine (HLY.out V3 hH3).mono ?_
        rintro e V4 ⟨y, hy, rfl, hTy, hb4⟩
        dsimp only [hV]
        have hH4 : Below w1.heap.size w1 V4 := hH3.trans (hb4.mono hH3.size)
        refine hKK.out _ _ hH4 (fun hHeld => ?_)
        clear hKK KK
        try simp only [Act.put, List.setIfInBounds_toArray, List.set_cons_zero, List.set_cons_succ]
        refine wpAnyH_ready (rs := [5]) (by kernel_rfl) (by simp) (AllReadyH.cons rfl (fun KK hKK => ?_) AllReadyH.nil)
        go_simp
        refine (HLS.out V4 hH4).mono ?_
        rintro e V5 ⟨rfl, hbk, hb5⟩
        dsimp only
        obtain ⟨i, hi⟩ : ∃ G, G = V4.heap.size := ⟨_, rfl⟩
        rw [← hi] at hbk ⊢
        replace hi := Lib.hid hi
        have hH5 : Below w1.heap.size w1 V5 := hH4.trans (hb5.mono hH4.size)
        refine hKK.out _ _ hH5 (fun hHeld => ?_)
        clear hKK KK
        try simp only [Act.put, List.setIfInBounds_toArray, List.set_cons_zero, List.set_cons_succ]
        exact HGH.out _ _ _ _ _ _ (Lib.hid ⟨hH5, ⟨Nat.le_trans hH2.size hx, hTx.same (hb4.trans (hb5.mono hb4.size))⟩, ⟨Nat.le_trans hH3.size hy, hTy.same hb5⟩, ⟨Nat.le_trans hH4.size (Nat.le_of_eq hi.out.symm), hbk.same (Below.refl V5.heap.size V5)⟩, ⟨Nat.le_trans hH1.size (Nat.le_of_eq hg7.out.symm), h7.same (hb3.trans ((hb4.trans (hb5.mono hb4.size)).mono hb3.size))⟩, ⟨Nat.le_trans hH0.size (Nat.le_of_eq hg8.out.symm), h8.same (hb2.trans ((hb3.trans ((hb4.trans (hb5.mono hb4.size)).mono hb3.size)).mono hb2.size))⟩, Nat.ne_of_gt (Nat.lt_of_lt_of_le h8.lt (Nat.le_trans (Below.refl V1.heap.size V1).size (Nat.le_of_eq hg7.out.symm)))⟩)
  case shG =>
    intro x y i g7 g8 W9 HALL
    obtain ⟨hH5, ⟨hx, hTx⟩, ⟨hy, hTy⟩, ⟨hi, hbk⟩, ⟨hg7, h7⟩, ⟨hg8, h8⟩, hne⟩ := HALL.out
    clear HALL
    have HX7 := Lib.hid (tb_ne hTx h7); have HX8 := Lib.hid (tb_ne hTx h8); have HY7 := Lib.hid (tb_ne hTy h7); have HY8 := Lib.hid (tb_ne hTy h8)
    have HI7 := Lib.hid (bk_ne hbk h7); have HI8 := Lib.hid (bk_ne hbk h8); have HNE := Lib.hid hne
    have HTX := Lib.hid hTx; have HTY := Lib.hid hTy; have HBK := Lib.hid hbk; have H7 := Lib.hid h7; have H8 := Lib.hid h8; have HG7 := Lib.hid hg7; have HG8 := Lib.hid hg8; have HXW := Lib.hid hx; have HYW := Lib.hid hy; have HIW := Lib.hid hi; have HH5 := Lib.hid hH5
    clear hTx hTy hbk h7 h8 hg7 hg8 hx hy hi hH5 hne hH0 HLX HLY HLS HXC HYC
    obtain ⟨z0, z1, z2, z3, z4, z5⟩ := H7.out.c
    have f0 := H7.out.free 0
    have f1 := H7.out.free 1
    have f2 := H7.out.free 2
    have f3 := H7.out.free 3
    have f4 := H7.out.free 4
    have f5 := H7.out.free 5
    refine wpAnyH_ready (rs := [8]) (by kernel_rfl) (by simp) (AllReadyH.cons rfl (fun KK hKK => ?_) AllReadyH.nil)
    go_simp
    obtain ⟨Wa, hW⟩ : ∃ W, W = ((((((W9.setCell ⟨g7, 0, none⟩ (.int .i64 h.S)).setCell ⟨g7, 1, none⟩ (.int .i64 h.F)).setCell ⟨g7, 2, none⟩ (.int .i64 h.I)).setCell ⟨g7, 3, none⟩ (.int .i64 h.N)).setCell ⟨g7, 4, none⟩ (.int .i64 h.D)).setCell ⟨g7, 5, none⟩ (.slice (some ⟨x, 0, none⟩) h.m (h.m + 12))) := ⟨_, rfl⟩
    rw [← hW]
    have hoth : ∀ j, j ≠ g7 → Wa.heap[j]? = W9.heap[j]? := fun j hj => by rw [hW]; exact kept6 hj _ _ _ _ _ _
    have HH6 := Lib.hid (show Below w1.heap.size w1 Wa by rw [hW]; exact below6 HH5.out HG7.out _ _ _ _ _ _)
    have H7' := Lib.hid (show HAt Wa g7 h (some ⟨x, 0, none⟩) (h.m + 12) by rw [hW]; exact put6 H7.out _ _ _ _ _ _)
    have HTX1 := Lib.hid (Tb.blk HTX.out (hoth x HX7.out))
    have HTY1 := Lib.hid (Tb.blk HTY.out (hoth y HY7.out))
    have HBK1 := Lib.hid (bk_kept HBK.out (hoth i HI7.out))
    have H81 := Lib.hid (H8.out.oth (hoth g8 (Ne.symm HNE.out)))
    clear hW hoth z0 z1 z2 z3 z4 z5 f0 f1 f2 f3 f4 f5
    refine hKK.out _ _ HH6.out (fun hHeld => ?_)
    clear hKK KK HH5
    try simp only [Act.put, List.setIfInBounds_toArray, List.set_cons_zero, List.set_cons_succ]
    have HH5 := HH6
    clear HH6
    clear H7 H8 HTX HTY HBK
    have H8 := H81
    clear H81
    obtain ⟨z0, z1, z2, z3, z4, z5⟩ := H8.out.c
    have f0 := H8.out.free 0
    have f1 := H8.out.free 1
    have f2 := H8.out.free 2
    have f3 := H8.out.free 3
    have f4 := H8.out.free 4
    have f5 := H8.out.free 5
    refine wpAnyH_ready (rs := [9]) (by kernel_rfl) (by simp) (AllReadyH.cons rfl (fun KK hKK => ?_) AllReadyH.nil)
    go_simp
    obtain ⟨Wb, hW⟩ : ∃ W, W = ((((((Wa.setCell ⟨g8, 0, none⟩ (.int .i64 g.S)).setCell ⟨g8, 1, none⟩ (.int .i64 g.F)).setCell ⟨g8, 2, none⟩ (.int .i64 g.I)).setCell ⟨g8, 3, none⟩ (.int .i64 g.N)).setCell ⟨g8, 4, none⟩ (.int .i64 g.D)).setCell ⟨g8, 5, none⟩ (.slice (some ⟨y, 0, none⟩) g.m (g.m + 12))) := ⟨_, rfl⟩
    rw [← hW]
    have hoth : ∀ j, j ≠ g8 → Wb.heap[j]? = Wa.heap[j]? := fun j hj => by rw [hW]; exact kept6 hj _ _ _ _ _ _
    have HH6 := Lib.hid (show Below w1.heap.size w1 Wb by rw [hW]; exact below6 HH5.out HG8.out _ _ _ _ _ _)
    have H8' := Lib.hid (show HAt Wb g8 g (some ⟨y, 0, none⟩) (g.m + 12) by rw [hW]; exact put6 H8.out _ _ _ _ _ _)
    have HTX := Lib.hid (Tb.blk HTX1.out (hoth x HX8.out))
    have HTY := Lib.hid (Tb.blk HTY1.out (hoth y HY8.out))
    have HBK := Lib.hid (bk_kept HBK1.out (hoth i HI8.out))
    have H72 := Lib.hid (H7'.out.oth (hoth g7 HNE.out))
    clear hW hoth z0 z1 z2 z3 z4 z5 f0 f1 f2 f3 f4 f5
    refine hKK.out _ _ HH6.out (fun hHeld => ?_)
    clear hKK KK HH5
    try simp only [Act.put, List.setIfInBounds_toArray, List.set_cons_zero, List.set_cons_succ]
    have HH5 := HH6
    clear HH6
    clear H7' H8 HTX1 HTY1 HBK1
    have H7 := H72; have H8 := H8'
    clear H72 H8'
    refine wpAnyH_take (i := 10) (oi := ⟨some 9, _, _, _, _, none⟩) (v := (.slice (some ⟨i, 0, none⟩) n (n + 12))) rfl (by kernel_rfl) (by kernel_rfl) (by kernel_rfl) (fun _ _ _ h => h) (Or.inl ⟨by rfl, fun W hW => ?_⟩) (by assumption) ?_
    · go_simp
    simp only [Act.put, List.setIfInBounds_toArray, List.set_cons_zero, List.set_cons_succ]
    refine wpAnyH_done (by kernel_rfl) ?_ _
    have HBb := Lib.hid (HB.out.trans (HH5.out.mono HB.out.size))
    have HSI := Lib.hid ((HBK.out.nw (Nat.zero_le _) HS.out.bytes HS.out.up hl3).sl)
    have HXb := Lib.hid (HX.out.same HH5.out); have HYb := Lib.hid (HY.out.same HH5.out)
    have HGOOD := Lib.hid (show n ≤ 1000000 by have := HBIG.out; omega)
    have HPU := Lib.hid ((phput_any h (some ⟨x, 0, none⟩) (some ⟨i, 0, none⟩) (h.m + 12) n (n + 12) f HGOOD.out Wb (Tb.orig HTX.out) HSI.out).mono (R' := fun e w' => (∃ pa pc, e = .returned (.tuple #[.slice pa (qM h n) pc, .int .i64 (qE h n)]) ∧ Oz.OzRow w' Wb.heap.size 5 1 (.slice pa (qM h n) pc) (qM h n) (rowv (qF h n f) (qM h n)) ∧ Sl w' pa (qM h n) pc (qF h n f)) ∧ Below Wb.heap.size Wb w') (fun e w' ⟨q, hB⟩ => ⟨q.out HS.out.bytes, hB⟩))
    obtain ⟨M, hM⟩ : ∃ M, M = qM h n := ⟨_, rfl⟩
    obtain ⟨er, her⟩ : ∃ er, er = qE h n := ⟨_, rfl⟩
    obtain ⟨F, hF⟩ : ∃ F, F = qF h n f := ⟨_, rfl⟩
    rw [← hM, ← her, ← hF] at HPU
    have HRU := Lib.hid (fun W (hT : Tb W a h.m h.K h.L) (hb : Sl W ba n bc f) => (rput_any h a ba c n bc f HGOOD.out (by have := HBIG.out; omega) W hT hb).mono (R' := fun e w' => (∃ pa pc, e = .returned (.tuple #[.slice pa M pc, .int .i64 er]) ∧ Sl w' pa M pc F) ∧ Below W.heap.size W w') (fun e w' ⟨q, hB⟩ => ⟨by rw [hM, her, hF]; exact q.out2, hB⟩))
    have HMB := Lib.hid (show M ≤ 100000 by rw [hM]; exact qM_le h (by have := HBIG.out; omega))
    unfold hV at HPU HRU
    clear hM her hF hl1 hl2
    obtain ⟨c0, c1, c2, c3, c4, c5⟩ := H7.out.c
    go_wp2_with fail
    clear c0 c1 c2 c3 c4 c5
    refine HPU.out.mono ?_
    rintro e Wc ⟨⟨pa, pc, rfl, hoz, hsl⟩, hBc⟩
    have HOZ := Lib.hid hoz; have HSL := Lib.hid hsl; have HWB := Lib.hid (show w1.heap.size ≤ Wb.heap.size from HH5.out.size)
    have HIB := Lib.hid (show i < Wb.heap.size from (Array.getElem?_eq_some_iff.1 HBK.out).1)
    have HTX' := Lib.hid (HTX.out.same hBc)
    have HTY' := Lib.hid (HTY.out.same hBc)
    have HBK' := Lib.hid (HBK.out.same hBc)
    have H7' := Lib.hid (H7.out.same hBc)
    have H8' := Lib.hid (H8.out.same hBc)
    have HXb' := Lib.hid (HXb.out.same hBc)
    have HYb' := Lib.hid (HYb.out.same hBc)
    have HBb' := Lib.hid (HBb.out.trans (hBc.mono HBb.out.size))
    clear HTX HTY HBK H7 H8 HXb HYb HBb
    have HTX := HTX'
    have HTY := HTY'
    have HBK := HBK'
    have H7 := H7'
    have H8 := H8'
    have HXb := HXb'
    have HYb := HYb'
    have HBb := HBb'
    clear HTX' HTY' HBK' H7' H8' HXb' HYb' HBb'
    clear hoz hsl hBc HPU HH5
    obtain ⟨c0, c1, c2, c3, c4, c5⟩ := HXb.out.c
    go_wp2_with fail
    clear c0 c1 c2 c3 c4 c5
    refine (HRU.out Wc (HT.out.same HBb.out) (HS.out.same HBb.out)).mono ?_
    rintro e Wd ⟨⟨qa, qc, rfl, hsl⟩, hBd⟩
    have HSQ := Lib.hid hsl
    have HTX' := Lib.hid (HTX.out.same hBd)
    have HTY' := Lib.hid (HTY.out.same hBd)
    have HBK' := Lib.hid (HBK.out.same hBd)
    have H7' := Lib.hid (H7.out.same hBd)
    have H8' := Lib.hid (H8.out.same hBd)
    have HXb' := Lib.hid (HXb.out.same hBd)
    have HYb' := Lib.hid (HYb.out.same hBd)
    have HOZ' := Lib.hid (Oz.own_below HOZ.out hBd)
    have HSL' := Lib.hid (HSL.out.same hBd)
    have HBb' := Lib.hid (HBb.out.trans (hBd.mono HBb.out.size))
    clear HTX HTY HBK H7 H8 HXb HYb HOZ HSL HBb
    have HTX := HTX'
    have HTY := HTY'
    have HBK := HBK'
    have H7 := H7'
    have H8 := H8'
    have HXb := HXb'
    have HYb := HYb'
    have HOZ := HOZ'
    have HSL := HSL'
    have HBb := HBb'
    clear HTX' HTY' HBK' H7' H8' HXb' HYb' HOZ' HSL' HBb'
    clear hsl hBd HRU
    obtain ⟨xr, hxr⟩ : ∃ q : Bool, q = true ↔ RH h := by
      by_cases q : RH h
      · exact ⟨true, by simp [q]⟩
      · exact ⟨false, by simp [q]⟩
    obtain ⟨xl, hxl⟩ : ∃ q : Bool, q = true ↔ LH h g := by
      by_cases q : LH h g
      · exact ⟨true, by simp [q]⟩
      · exact ⟨false, by simp [q]⟩
    have b1 : h.m ≤ 140737488355328 := by have := HBIG.out; omega
    have b2 : g.m ≤ 140737488355328 := by have := HBIG.out; omega
    have HC1 := Lib.hid (fun W (hW : Below Wd.heap.size Wd W) => (same_any pa qa M pc qc F (by have := HMB.out; omega) W (HSL.out.same hW) (HSQ.out.same hW)).mono (R' := fun e w' => e = .returned (.bool true) ∧ Below W.heap.size W w') (fun e w' ⟨q, r, hr⟩ => ⟨q, by rw [hr]; exact below_dr (Below.refl _ _) r⟩))
    have HC2 := Lib.hid (fun W (hW : Below Wd.heap.size Wd W) => bool_at hxr (phright_any h (some ⟨x, 0, none⟩) (h.m + 12) W ((Tb.orig HTX.out).same hW)))
    have HC3 := Lib.hid (fun W (hW : Below Wd.heap.size Wd W) => bool_at hxr (rhright_any h a c W ((HT.out.same HBb.out).same hW)))
    have HC4 := Lib.hid (fun W (hW : Below Wd.heap.size Wd W) => bool_at hxl (phlike_any h g (some ⟨x, 0, none⟩) (some ⟨y, 0, none⟩) (h.m + 12) (g.m + 12) b1 b2 W ((Tb.orig HTX.out).same hW) ((Tb.orig HTY.out).same hW)))
    have HC5 := Lib.hid (fun W (hW : Below Wd.heap.size Wd W) => bool_at hxl (rlike_any h g a b c d b1 b2 W ((HT.out.same HBb.out).same hW) ((HU.out.same HBb.out).same hW)))
    unfold hV at HC2 HC3 HC4 HC5
    clear hxr hxl b1 b2
    obtain ⟨c0, c1, c2, c3, c4, c5⟩ := H7.out.c
    have yc0 := fun d os => cell_regrown c0 d os
    have yc1 := fun d os => cell_regrown c1 d os
    have yc2 := fun d os => cell_regrown c2 d os
    have yc3 := fun d os => cell_regrown c3 d os
    have yc4 := fun d os => cell_regrown c4 d os
    have yc5 := fun d os => cell_regrown c5 d os
    obtain ⟨d0, d1, d2, d3, d4, d5⟩ := H8.out.c
    have yd0 := fun d os => cell_regrown d0 d os
    have yd1 := fun d os => cell_regrown d1 d os
    have yd2 := fun d os => cell_regrown d2 d os
    have yd3 := fun d os => cell_regrown d3 d os
    have yd4 := fun d os => cell_regrown d4 d os
    have yd5 := fun d os => cell_regrown d5 d os
    obtain ⟨p0, p1, p2, p3, p4, p5⟩ := HXb.out.c
    have yp0 := fun d os => cell_regrown p0 d os
    have yp1 := fun d os => cell_regrown p1 d os
    have yp2 := fun d os => cell_regrown p2 d os
    have yp3 := fun d os => cell_regrown p3 d os
    have yp4 := fun d os => cell_regrown p4 d os
    have yp5 := fun d os => cell_regrown p5 d os
    obtain ⟨r0, r1, r2, r3, r4, r5⟩ := HYb.out.c
    have yr0 := fun d os => cell_regrown r0 d os
    have yr1 := fun d os => cell_regrown r1 d os
    have yr2 := fun d os => cell_regrown r2 d os
    have yr3 := fun d os => cell_regrown r3 d os
    have yr4 := fun d os => cell_regrown r4 d os
    have yr5 := fun d os => cell_regrown r5 d os
    have ge : (er == er) = true := by simp
    have gr : (xr == xr) = true := by cases xr <;> rfl
    have gl : (xl == xl) = true := by cases xl <;> rfl
    go_upto_region 6 with fail
    refine wp_region_quiet_below (by kernel_rfl) (by kernel_rfl) ?_
    repeat (go_big_quiet_step ((first | (go_at_call 14; exact Calls.regrown_of (HC1.out _ (below_regrown _ _ _))) | (go_at_call 15; exact Calls.regrown_of (HC2.out _ (below_regrown _ _ _))) | (go_at_call 16; exact Calls.regrown_of (HC3.out _ (below_regrown _ _ _))) | (go_at_call 17; exact Calls.regrown_of (HC4.out _ (below_regrown _ _ _))) | (go_at_call 18; exact Calls.regrown_of (HC5.out _ (below_regrown _ _ _))))))
    refine wpQuiet_nil ?_
    rintro We ⟨pq, hWe⟩
    have hBe : Below Wd.heap.size Wd We := by rw [hWe]; exact below_regrown _ _ _
    clear hWe yc0 c0 yc1 c1 yc2 c2 yc3 c3 yc4 c4 yc5 c5 yd0 d0 yd1 d1 yd2 d2 yd3 d3 yd4 d4 yd5 d5 yp0 p0 yp1 p1 yp2 p2 yp3 p3 yp4 p4 yp5 p5 yr0 r0 yr1 r1 yr2 r2 yr3 r3 yr4 r4 yr5 r5 ge gr gl HC1 HC2 HC3 HC4 HC5
    have HTX' := Lib.hid (HTX.out.same hBe)
    have HTY' := Lib.hid (HTY.out.same hBe)
    have HBK' := Lib.hid (HBK.out.same hBe)
    have H7' := Lib.hid (H7.out.same hBe)
    have H8' := Lib.hid (H8.out.same hBe)
    have HXb' := Lib.hid (HXb.out.same hBe)
    have HYb' := Lib.hid (HYb.out.same hBe)
    have HOZ' := Lib.hid (Oz.own_below HOZ.out hBe)
    have HBb' := Lib.hid (HBb.out.trans (hBe.mono HBb.out.size))
    clear HTX HTY HBK H7 H8 HXb HYb HOZ HBb
    have HTX := HTX'
    have HTY := HTY'
    have HBK := HBK'
    have H7 := H7'
    have H8 := H8'
    have HXb := HXb'
    have HYb := HYb'
    have HOZ := HOZ'
    have HBb := HBb'
    clear HTX' HTY' HBK' H7' H8' HXb' HYb' HOZ' HBb'
    clear hBe HSL HSQ
    have HKX := Lib.hid (keptHead_any h x a c HCC.out (by have := HBIG.out; omega) We (HT.out.same HBb.out) HTX.out)
    unfold hV at HKX
    obtain ⟨c0, c1, c2, c3, c4, c5⟩ := H7.out.c
    obtain ⟨p0, p1, p2, p3, p4, p5⟩ := HXb.out.c
    go_wp2_with fail
    clear c0 c1 c2 c3 c4 c5 p0 p1 p2 p3 p4 p5
    refine HKX.out.mono ?_
    rintro e Wf ⟨rfl, hBf⟩
    have HTX' := Lib.hid (HTX.out.same hBf)
    have HTY' := Lib.hid (HTY.out.same hBf)
    have HBK' := Lib.hid (HBK.out.same hBf)
    have H7' := Lib.hid (H7.out.same hBf)
    have H8' := Lib.hid (H8.out.same hBf)
    have HXb' := Lib.hid (HXb.out.same hBf)
    have HYb' := Lib.hid (HYb.out.same hBf)
    have HOZ' := Lib.hid (Oz.own_below HOZ.out hBf)
    have HBb' := Lib.hid (HBb.out.trans (hBf.mono HBb.out.size))
    clear HTX HTY HBK H7 H8 HXb HYb HOZ HBb
    have HTX := HTX'
    have HTY := HTY'
    have HBK := HBK'
    have H7 := H7'
    have H8 := H8'
    have HXb := HXb'
    have HYb := HYb'
    have HOZ := HOZ'
    have HBb := HBb'
    clear HTX' HTY' HBK' H7' H8' HXb' HYb' HOZ' HBb'
    clear hBf HKX
    have HKY := Lib.hid (keptHead_any g y b d HDD.out (by have := HBIG.out; omega) Wf (HU.out.same HBb.out) HTY.out)
    unfold hV at HKY
    obtain ⟨c0, c1, c2, c3, c4, c5⟩ := H8.out.c
    obtain ⟨p0, p1, p2, p3, p4, p5⟩ := HYb.out.c
    go_wp2_with fail
    clear c0 c1 c2 c3 c4 c5 p0 p1 p2 p3 p4 p5
    refine HKY.out.mono ?_
    rintro e Wg2 ⟨rfl, hBg⟩
    have HTX' := Lib.hid (HTX.out.same hBg)
    have HTY' := Lib.hid (HTY.out.same hBg)
    have HBK' := Lib.hid (HBK.out.same hBg)
    have H7' := Lib.hid (H7.out.same hBg)
    have H8' := Lib.hid (H8.out.same hBg)
    have HXb' := Lib.hid (HXb.out.same hBg)
    have HYb' := Lib.hid (HYb.out.same hBg)
    have HOZ' := Lib.hid (Oz.own_below HOZ.out hBg)
    have HBb' := Lib.hid (HBb.out.trans (hBg.mono HBb.out.size))
    clear HTX HTY HBK H7 H8 HXb HYb HOZ HBb
    have HTX := HTX'
    have HTY := HTY'
    have HBK := HBK'
    have H7 := H7'
    have H8 := H8'
    have HXb := HXb'
    have HYb := HYb'
    have HOZ := HOZ'
    have HBb := HBb'
    clear HTX' HTY' HBK' H7' H8' HXb' HYb' HOZ' HBb'
    clear hBg HKY
    go_wp2_with fail
    refine (keptS_any i ba n bc f Wg2 (HS.out.same HBb.out) HBK.out (by have := HBIG.out; omega)).mono ?_
    rintro e Wh ⟨rfl, qh, hqh⟩
    have hBh : Below Wg2.heap.size Wg2 Wh := by rw [hqh]; exact below_dr (Below.refl _ _) qh
    have HTX' := Lib.hid (HTX.out.same hBh)
    have HTY' := Lib.hid (HTY.out.same hBh)
    have HBK' := Lib.hid (HBK.out.same hBh)
    have H7' := Lib.hid (H7.out.same hBh)
    have H8' := Lib.hid (H8.out.same hBh)
    have HXb' := Lib.hid (HXb.out.same hBh)
    have HYb' := Lib.hid (HYb.out.same hBh)
    have HOZ' := Lib.hid (Oz.own_below HOZ.out hBh)
    have HBb' := Lib.hid (HBb.out.trans (hBh.mono HBb.out.size))
    clear HTX HTY HBK H7 H8 HXb HYb HOZ HBb
    have HTX := HTX'
    have HTY := HTY'
    have HBK := HBK'
    have H7 := H7'
    have H8 := H8'
    have HXb := HXb'
    have HYb := HYb'
    have HOZ := HOZ'
    have HBb := HBb'
    clear HTX' HTY' HBK' H7' H8' HXb' HYb' HOZ' HBb'
    clear hqh hBh
    go_wp2_with fail
    have HAP := Lib.hid (apart_pair w.heap.size (some ⟨i, 0, none⟩) pa n M (n + 12) pc f F Wh HBb.out.size (HBK.out.bl.oz (by omega) (Nat.le_refl _) (by unfold maxLen; have := HBIG.out; omega) (Nat.le_trans HB.out.size HIW.out)) (HOZ.out.mono (Nat.le_trans HB.out.size HWB.out)) (by
      cases pa with
      | none => simp [Oz.blk]
      | some ad =>
        have h1 := (HOZ.out.lt ad.block rfl).1
        simp [Oz.blk]
        have := HIB.out
        omega) (by have := HBIG.out; omega) (by have := HMB.out; omega))
    refine HAP.out.mono ?_
    rintro e Wi ⟨rfl, hBi⟩
    have HBi := Lib.hid (HBb.out.trans hBi)
    clear hBi HAP
    go_wp2_with fail
    refine (awake14_any Wi).mono ?_
    rintro e Wj ⟨rfl, hBj⟩
    have HBj := Lib.hid (HBi.out.trans (hBj.mono HBi.out.size))
    clear hBj
    go_wp2
    go_ret
    exact ⟨rfl, HBj.out⟩
end Go.Proofs.YtjlmajopfeplpaaGreat.He

namespace Go.Proofs.YtjlmajopfeplpaaGreat.He
open Go.RowKit Go.Shelf
open Go.Proofs.YtjlmajopfeplpaaGreat.Ly (TabOk RowOk off Tb tdl tdl_len tdl_at tdl_tb tdl_ones tb_news cell_new2 int_ones tK tL)
open Go.Proofs.YtjlmajopfeplpaaGreat.Wg (BoSays BoSays.no BoSays.yes)
attribute [local go_sem] Oper.semAt_some

/-- how many rows a header of the list has. -/
def mm (m k : Nat) : Nat := if k = 8 then m else 2
/-- rows of numbers in a block. -/
def Ri (W : World) (B r c : Nat) : Prop := B ≤ r ∧ ∃ us : Array Value, W.heap[r]? = some (.cells us 24 (0, 0)) ∧ ∀ j, j < 2 * c → ∃ z, us[j]? = some (.int .i64 z)
/-- a list of nine headers: numbers, rows of their own. -/
def Ls (W : World) (B g m : Nat) : Prop := B ≤ g ∧ ∃ vs : Array Value, W.heap[g]? = some (.cells vs 27 (0, 0)) ∧
  (∀ k j, k < 9 → j < 5 → ∃ z, vs[k * 6 + j]? = some (.int .i64 z)) ∧ ∀ k, k < 9 → ∃ r c, vs[k * 6 + 5]? = some (.slice (some ⟨r, 0, none⟩) (mm m k) c) ∧ mm m k ≤ c ∧ Ri W B r (mm m k)
section
variable {W W' : World} {B g m r c : Nat}
theorem Ri.kept (h : Ri W B r c) (hk : W'.heap[r]? = W.heap[r]?) : Ri W' B r c := by
  obtain ⟨h0, us, h1, h2⟩ := h
  exact ⟨h0, us, hk.trans h1, h2⟩
theorem Ri.lt (h : Ri W B r c) : r < W.heap.size := by
  obtain ⟨h0, us, h1, h2⟩ := h
  exact (Array.getElem?_eq_some_iff.1 h1).1
theorem Ri.set (h : Ri W B r c) {q i : Nat} {z : Int} : Ri (W.setCell ⟨q, i, none⟩ (.int .i64 z)) B r c := by
  obtain ⟨h0, us, h1, h2⟩ := h
  by_cases e : r = q
  · subst e
    refine ⟨h0, us.setIfInBounds i (.int .i64 z), heap_setCell_same W r i _ _ _ h1, fun j hj => ?_⟩
    obtain ⟨y, hy⟩ := h2 j hj
    by_cases e2 : j = i
    · subst e2
      exact ⟨z, by rw [Array.getElem?_setIfInBounds_self_of_lt ((Array.getElem?_eq_some_iff.1 hy).1)]⟩
    · exact ⟨y, by rw [Array.getElem?_setIfInBounds_ne (by omega)]; exact hy⟩
  · exact ⟨h0, us, (heap_setCell_other _ _ _ _ e).trans h1, h2⟩
theorem Ri.ne (h : Ri W B r c) {vs : Array Value} {q : Nat} (hq : W.heap[q]? = some (.cells vs 27 (0, 0))) : r ≠ q := fun e => by
  obtain ⟨h0, us, h1, h2⟩ := h
  rw [e, hq] at h1
  simp at h1
theorem Ri.cell (h : Ri W B r c) {j : Nat} (hj : j < 2 * c) : ∃ z, W.cell? ⟨r, j, none⟩ = some (.int .i64 z) := by
  obtain ⟨h0, us, h1, h2⟩ := h
  obtain ⟨z, hz⟩ := h2 j hj
  exact ⟨z, by rw [cell_of_row W r j _ _ _ h1]; exact hz⟩
theorem Ri.free (h : Ri W B r c) (j : Nat) : W.frozen? ⟨r, j, none⟩ = false := by
  obtain ⟨h0, us, h1, h2⟩ := h
  exact frozen_of_row W r j _ _ h1
open Classical in
theorem Ri.tb (h : Ri W B r c) : ∃ K L, Tb W (some ⟨r, 0, none⟩) c K L := by
  have hz : ∀ j, ∃ z, j < 2 * c → W.cell? ⟨r, j, none⟩ = some (.int .i64 z) := fun j => by
    by_cases hj : j < 2 * c
    · obtain ⟨z, q⟩ := h.cell hj
      exact ⟨z, fun _ => q⟩
    · exact ⟨0, fun q => absurd q hj⟩
  refine ⟨fun i => Classical.choose (hz (i * 2)), fun i => Classical.choose (hz (i * 2 + 1)), ⟨fun i hi => ⟨r, 0, rfl, ?_, ?_⟩⟩⟩
  · rw [Nat.zero_add]; exact Classical.choose_spec (hz (i * 2)) (by omega)
  · rw [Nat.zero_add]; exact Classical.choose_spec (hz (i * 2 + 1)) (by omega)
theorem Ls.lt (h : Ls W B g m) : g < W.heap.size := by
  obtain ⟨h0, vs, h1, _⟩ := h
  exact (Array.getElem?_eq_some_iff.1 h1).1
theorem Ls.same (h : Ls W B g m) (hB : Below W.heap.size W W') : Ls W' B g m := by
  obtain ⟨h0, vs, h1, h2, h3⟩ := h
  refine ⟨h0, vs, (hB.block g (Array.getElem?_eq_some_iff.1 h1).1).trans h1, h2, fun k hk => ?_⟩
  obtain ⟨r, c, q1, q2, q3⟩ := h3 k hk
  exact ⟨r, c, q1, q2, q3.kept (hB.block r q3.lt)⟩
theorem Ls.free (h : Ls W B g m) (i : Nat) : W.frozen? ⟨g, i, none⟩ = false := by
  obtain ⟨h0, vs, h1, _⟩ := h
  exact frozen_of_row W g i _ _ h1
theorem Ls.num (h : Ls W B g m) {k j : Nat} (hk : k < 9) (hj : j < 5) : ∃ z, W.cell? ⟨g, k * 6 + j, none⟩ = some (.int .i64 z) := by
  obtain ⟨h0, vs, h1, h2, h3⟩ := h
  obtain ⟨z, hz⟩ := h2 k j hk hj
  exact ⟨z, by rw [cell_of_row W g _ _ _ _ h1]; exact hz⟩
theorem Ls.row (h : Ls W B g m) {k : Nat} (hk : k < 9) : ∃ r c, W.cell? ⟨g, k * 6 + 5, none⟩ = some (.slice (some ⟨r, 0, none⟩) (mm m k) c) ∧ mm m k ≤ c ∧ Ri W B r (mm m k) := by
  obtain ⟨h0, vs, h1, h2, h3⟩ := h
  obtain ⟨r, c, q1, q2, q3⟩ := h3 k hk
  exact ⟨r, c, by rw [cell_of_row W g _ _ _ _ h1]; exact q1, q2, q3⟩
/-- a number of a header is stored. -/
theorem Ls.setN (h : Ls W B g m) {k j : Nat} (hk : k < 9) (hj : j < 5) (z : Int) : Ls (W.setCell ⟨g, k * 6 + j, none⟩ (.int .i64 z)) B g m := by
  obtain ⟨h0, vs, h1, h2, h3⟩ := h
  refine ⟨h0, vs.setIfInBounds (k * 6 + j) (.int .i64 z), heap_setCell_same W g _ _ _ _ h1, fun k' j' hk' hj' => ?_, fun k' hk' => ?_⟩
  · obtain ⟨y, hy⟩ := h2 k' j' hk' hj'
    by_cases e : k' * 6 + j' = k * 6 + j
    · rw [e] at hy ⊢
      exact ⟨z, by rw [Array.getElem?_setIfInBounds_self_of_lt ((Array.getElem?_eq_some_iff.1 hy).1)]⟩
    · exact ⟨y, by rw [Array.getElem?_setIfInBounds_ne (by omega)]; exact hy⟩
  · obtain ⟨r, c, q1, q2, q3⟩ := h3 k' hk'
    exact ⟨r, c, by rw [Array.getElem?_setIfInBounds_ne (by omega)]; exact q1, q2, q3.set⟩
/-- a number of a row is stored. -/
theorem Ls.setR (h : Ls W B g m) {q i : Nat} (hq : q ≠ g) (z : Int) : Ls (W.setCell ⟨q, i, none⟩ (.int .i64 z)) B g m := by
  obtain ⟨h0, vs, h1, h2, h3⟩ := h
  refine ⟨h0, vs, (heap_setCell_other _ _ _ _ (Ne.symm hq)).trans h1, h2, fun k' hk' => ?_⟩
  obtain ⟨r, c, q1, q2, q3⟩ := h3 k' hk'
  exact ⟨r, c, q1, q2, q3.set⟩
/-- rows are laid anew. -/
theorem Ls.setS (h : Ls W B g m) {r' m' c' : Nat} (hr : Ri W B r' m') (hc : m' ≤ c') : Ls (W.setCell ⟨g, 8 * 6 + 5, none⟩ (.slice (some ⟨r', 0, none⟩) m' c')) B g m' := by
  obtain ⟨h0, vs, h1, h2, h3⟩ := h
  have hoth : ∀ r c, Ri W B r c → Ri (W.setCell ⟨g, 8 * 6 + 5, none⟩ (.slice (some ⟨r', 0, none⟩) m' c')) B r c := fun r c q => q.kept (heap_setCell_other _ _ _ _ (q.ne h1))
  refine ⟨h0, vs.setIfInBounds (8 * 6 + 5) (.slice (some ⟨r', 0, none⟩) m' c'), heap_setCell_same W g _ _ _ _ h1, fun k' j' hk' hj' => ?_, fun k' hk' => ?_⟩
  · obtain ⟨y, hy⟩ := h2 k' j' hk' hj'
    exact ⟨y, by rw [Array.getElem?_setIfInBounds_ne (by omega)]; exact hy⟩
  · by_cases e : k' = 8
    · subst e
      obtain ⟨r, c, q1, q2, q3⟩ := h3 8 hk'
      refine ⟨r', c', ?_, by unfold mm; rw [if_pos rfl]; exact hc, ?_⟩
      · rw [Array.getElem?_setIfInBounds_self_of_lt ((Array.getElem?_eq_some_iff.1 q1).1)]
        unfold mm; rw [if_pos rfl]
      · unfold mm; rw [if_pos rfl]; exact hoth _ _ hr
    · obtain ⟨r, c, q1, q2, q3⟩ := h3 k' hk'
      have em : mm m' k' = mm m k' := by unfold mm; rw [if_neg e, if_neg e]
      refine ⟨r, c, ?_, by rw [em]; exact q2, by rw [em]; exact hoth _ _ q3⟩
      rw [Array.getElem?_setIfInBounds_ne (by omega), em]; exact q1
/-- a header of the list, as it is read. -/
theorem Ls.head (h : Ls W B g m) {k : Nat} (hk : k < 9) : ∃ (x : Hr) (r c : Nat), x.m = mm m k ∧ x.m ≤ c ∧ Tb W (some ⟨r, 0, none⟩) x.m x.K x.L ∧
    W.cell? ⟨g, k * 6, none⟩ = some (.int .i64 x.S) ∧ W.cell? ⟨g, k * 6 + 1, none⟩ = some (.int .i64 x.F) ∧ W.cell? ⟨g, k * 6 + 2, none⟩ = some (.int .i64 x.I) ∧ W.cell? ⟨g, k * 6 + 3, none⟩ = some (.int .i64 x.N) ∧ W.cell? ⟨g, k * 6 + 4, none⟩ = some (.int .i64 x.D) ∧ W.cell? ⟨g, k * 6 + 5, none⟩ = some (.slice (some ⟨r, 0, none⟩) x.m c) := by
  obtain ⟨r, c, q1, q2, q3⟩ := h.row hk
  obtain ⟨K, L, hT⟩ := q3.tb
  obtain ⟨z0, h0⟩ := h.num hk (j := 0) (by decide)
  obtain ⟨z1, h1⟩ := h.num hk (j := 1) (by decide)
  obtain ⟨z2, h2⟩ := h.num hk (j := 2) (by decide)
  obtain ⟨z3, h3⟩ := h.num hk (j := 3) (by decide)
  obtain ⟨z4, h4⟩ := h.num hk (j := 4) (by decide)
  exact ⟨⟨z0, z1, z2, z3, z4, mm m k, K, L⟩, r, c, rfl, q2, hT, h0, h1, h2, h3, h4, q1⟩
end
/-- as many headers in a list of one's own, as far as k: each the same but for its rows. -/
def hdl (x : Hr) (R C : Nat → Nat) : Nat → List Value
  | 0 => []
  | k + 1 => hdl x R C k ++ [.int .i64 x.S, .int .i64 x.F, .int .i64 x.I, .int .i64 x.N, .int .i64 x.D, .slice (some ⟨R k, 0, none⟩) x.m (C k)]
theorem hdl_len (x : Hr) (R C : Nat → Nat) : ∀ k, (hdl x R C k).length = k * 6
  | 0 => rfl
  | k + 1 => by unfold hdl; rw [List.length_append, hdl_len x R C k]; simp; omega
theorem hdl_congr (x : Hr) {R C R' C' : Nat → Nat} : ∀ k, (∀ i, i < k → R i = R' i ∧ C i = C' i) → hdl x R C k = hdl x R' C' k
  | 0, _ => rfl
  | k + 1, h => by unfold hdl; rw [hdl_congr x k (fun i hi => h i (by omega)), (h k (by omega)).1, (h k (by omega)).2]
theorem hdl_at (x : Hr) (R C : Nat → Nat) : ∀ k i, i < k → (∀ j, j < 5 → ∃ z, (hdl x R C k)[i * 6 + j]? = some (.int .i64 z)) ∧ (hdl x R C k)[i * 6 + 5]? = some (.slice (some ⟨R i, 0, none⟩) x.m (C i))
  | 0, i, h => absurd h (Nat.not_lt_zero i)
  | k + 1, i, h => by
    unfold hdl
    have hl := hdl_len x R C k
    by_cases e : i = k
    · subst e
      constructor
      · intro j hj
        rw [List.getElem?_append_right (by omega), hl, Nat.add_sub_cancel_left]
        rcases (show j = 0 ∨ j = 1 ∨ j = 2 ∨ j = 3 ∨ j = 4 by omega) with rfl | rfl | rfl | rfl | rfl <;> exact ⟨_, rfl⟩
      · rw [List.getElem?_append_right (by omega), hl, Nat.add_sub_cancel_left]; rfl
    · obtain ⟨h1, h2⟩ := hdl_at x R C k i (by omega)
      constructor
      · intro j hj
        rw [List.getElem?_append_left (by omega)]; exact h1 j hj
      · rw [List.getElem?_append_left (by omega)]; exact h2
end Go.Proofs.YtjlmajopfeplpaaGreat.He

namespace Go.Proofs.YtjlmajopfeplpaaGreat.He
open Go.RowKit Go.Shelf
open Go.Proofs.YtjlmajopfeplpaaGreat.Ly (TabOk RowOk off off_le widI Tb tdl tdl_len tdl_at tdl_tb tdl_ones tb_news cell_new2 int_ones)
open Go.Proofs.YtjlmajopfeplpaaGreat.Wg (BoSays BoSays.no BoSays.yes)
attribute [local go_sem] Oper.semAt_some

set_option maxHeartbeats 1000000 in
theorem copyTable_any (a : Option Addr) (n cap : Nat) (K L : Nat → Int) (hn : n ≤ 1000000) (w : World) (hT : Tb w a n K L) (hnil : a = none → n = 0 ∧ cap = 0) :
    Calls Tryz.prog 10 #[.slice a n cap] w fun e w' => ∃ a' c', e = .returned (.slice a' n c') ∧ w'.ownsRow w.heap.size 24 2 (.slice a' n c') n (tdl K L n) ∧ Below w.heap.size w w' := by
  obtain ⟨i0, hi, hz0, hz1, hz2⟩ := info_parts Tryz.infoRowL
  have HI := Lib.hid hi; have HZ0 := Lib.hid hz0; have HZ1 := Lib.hid hz1; have HZ2 := Lib.hid hz2; have HT := Lib.hid hT
  clear hi hz0 hz1 hz2 hT
  go_enter Tryz.func10, Tryz.ntmps10
  cases a with
  | none =>
    obtain ⟨rfl, rfl⟩ := hnil rfl
    clear hnil
    go_wp2_with (at_builtin; refine wpList_append_own_none rfl _ _ 25 rfl w.heap.size 24 i0 2 Tryz.underlying25 HI.out HZ1.out _ 0 [] rfl (World.ownsRow_nil w w.heap.size 24 2) rfl ?_)
    go_ret
    exact ⟨none, 0, rfl, World.ownsRow_nil w w.heap.size 24 2, Below.refl _ _⟩
  | some ad =>
    clear hnil
    go_wp2_with (at_builtin; refine wpList_append_own _ rfl _ _ 25 rfl w.heap.size 24 i0 (.agg #[.int .i64 0, .int .i64 0]) 2 16 Tryz.underlying25 HI.out HZ0.out HZ1.out HZ2.out rfl (by decide) _ 0 [] rfl (World.ownsRow_nil w w.heap.size 24 2) ad n cap (tdl K L n) rfl (tdl_len K L n) (tb_news HT.out ad rfl) (tdl_ones K L n) (by unfold maxLen; omega) (by omega) (Nat.le_refl _) ?_; intro v' w2 hown hg _; have HO := Lib.hid hown; have HG := Lib.hid hg; clear hown hg)
    have ho := HO.out
    obtain ⟨a', c', he⟩ := own_sl ho
    rw [Nat.zero_add, List.nil_append] at ho
    rw [Nat.zero_add] at he
    subst he
    go_ret
    exact ⟨a', c', rfl, ho, (Below.refl _ w).grown HG.out (Nat.le_refl _) (fun r e => by cases e)⟩
theorem own_oth {w w' : World} {B s n : Nat} {e : TypeId} {v : Value} {xs : List Value} (h : w.ownsRow B e s v n xs) (hk : ∀ g, B ≤ g → g < w.heap.size → w'.heap[g]? = w.heap[g]?) : w'.ownsRow B e s v n xs := by
  obtain ⟨h1, h2 | ⟨g, cap, cur, q1, q2, q3, q4⟩⟩ := h
  · exact ⟨h1, Or.inl h2⟩
  · exact ⟨h1, Or.inr ⟨g, cap, cur, q1, q2, (hk g q2 (Array.getElem?_eq_some_iff.1 q3).1).trans q3, q4⟩⟩
theorem own_mono {w : World} {B B' s n : Nat} {e : TypeId} {v : Value} {xs : List Value} (h : w.ownsRow B e s v n xs) (hB : B' ≤ B) : w.ownsRow B' e s v n xs := by
  obtain ⟨h1, h2 | ⟨g, cap, cur, q1, q2, q3⟩⟩ := h
  · exact ⟨h1, Or.inl h2⟩
  · exact ⟨h1, Or.inr ⟨g, cap, cur, q1, Nat.le_trans hB q2, q3⟩⟩
set_option maxHeartbeats 4000000 in
set_option maxRecDepth 100000 in
theorem copyHead_any (h : Hr) (a : Option Addr) (c : Nat) (hn : h.m ≤ 1000000) (w : World) (hT : Tb w a h.m h.K h.L) (hnil : a = none → h.m = 0 ∧ c = 0) :
    Calls Tryz.prog 4 #[hV h a c] w fun e w' => ∃ a' c', e = .returned (hV h a' c') ∧ w'.ownsRow w.heap.size 24 2 (.slice a' h.m c') h.m (tdl h.K h.L h.m) ∧ Below w.heap.size w w' := by
  obtain ⟨w0, hw0⟩ : ∃ w0, w0 = w.alloc (.cells #[.int .i64 h.S, .int .i64 h.F, .int .i64 h.I, .int .i64 h.N, .int .i64 h.D, .slice a h.m c] 27) := ⟨_, rfl⟩
  obtain ⟨w1, hw1⟩ : ∃ w1, w1 = w0.alloc (.cells #[.int .i64 0, .int .i64 0, .int .i64 0, .int .i64 0, .int .i64 0, .slice none 0 0] 27) := ⟨_, rfl⟩
  have hz0 : w0.heap.size = w.heap.size + 1 := by rw [hw0, World.size_alloc]
  have hb0 : Below w.heap.size w w0 := by rw [hw0]; exact (Below.refl _ w).alloc (Nat.le_refl _) _
  have hb1 : Below w0.heap.size w0 w1 := by rw [hw1]; exact (Below.refl _ w0).alloc (Nat.le_refl _) _
  have hq0 : HAt w0 w.heap.size h a c := by rw [hw0]; exact heap_alloc_new _ _
  have HX := Lib.hid (hq0.same hb1)
  have HY := Lib.hid (show HAt w1 (w.heap.size + 1) hz none 0 by rw [hw1, ← hz0]; exact heap_alloc_new _ _)
  have HB := Lib.hid (hb0.trans (hb1.mono hb0.size))
  have HT := Lib.hid (hT.same HB.out)
  have HCT := Lib.hid (copyTable_any a h.m c h.K h.L hn w1 HT.out hnil)
  have HSZ := Lib.hid (show w.heap.size + 1 < w1.heap.size from HY.out.lt)
  have HW := Lib.hid (show w1 = (w.alloc (.cells #[.int .i64 h.S, .int .i64 h.F, .int .i64 h.I, .int .i64 h.N, .int .i64 h.D, .slice a h.m c] 27)).alloc (.cells #[.int .i64 0, .int .i64 0, .int .i64 0, .int .i64 0, .int .i64 0, .slice none 0 0] 27) by rw [hw1, hw0])
  obtain ⟨wg, hwg⟩ : ∃ wg, wg = w.heap.size := ⟨_, rfl⟩
  rw [← hwg] at HX HY HSZ
  have HWG := Lib.hid hwg
  unfold hV
  clear hw0 hw1 hz0 hb0 hb1 hq0 hT hnil
  go_enter Tryz.func4, Tryz.ntmps4
  go_upto_region 1 with fail
  rw [← HW.out, ← hwg]
  clear hwg HW
  obtain ⟨c0, c1, c2, c3, c4, c5⟩ := HX.out.c
  go_wp2_with fail
  clear c0 c1 c2 c3 c4 c5
  refine HCT.out.mono ?_
  rintro e w2 ⟨a', c', rfl, ho, hB2⟩
  have HX2 := Lib.hid (HX.out.same hB2)
  have HY2 := Lib.hid (HY.out.same hB2)
  have HO2 := Lib.hid ho
  have HB2 := Lib.hid (HB.out.trans (hB2.mono HB.out.size))
  clear ho hB2 HCT
  obtain ⟨c0, c1, c2, c3, c4, c5⟩ := HX2.out.c
  have f0 := HX2.out.free 5
  go_upto_region 2 with fail
  obtain ⟨w3, hw3⟩ : ∃ w3, w3 = w2.setCell ⟨wg, 5, none⟩ (.slice a' h.m c') := ⟨_, rfl⟩
  rw [← hw3]
  have HX3 := Lib.hid (show HAt w3 wg h a' c' by rw [hw3]; exact HX2.out.s5 _ _ _ _ _)
  have HY3 := Lib.hid (show HAt w3 (wg + 1) hz none 0 from HY2.out.oth (by rw [hw3]; exact heap_setCell_other _ _ _ _ (fun e => by have e2 : wg + 1 = wg := e; omega)))
  have HO3 := Lib.hid (own_oth (w' := w3) HO2.out (fun g hg _ => by rw [hw3]; exact heap_setCell_other _ _ _ _ (fun e => by have e2 : g = wg := e; have := HSZ.out; omega)))
  have HB3 := Lib.hid (show Below w.heap.size w w3 by rw [hw3]; exact HB2.out.setCell (by have := HWG.out; show w.heap.size ≤ wg; omega) _)
  clear hw3 c0 c1 c2 c3 c4 c5 f0 HX2 HY2 HO2 HB2
  have HRW := Lib.hid (show w3.heap[wg + 1]? = some (.cells #[.int .i64 0, .int .i64 0, .int .i64 0, .int .i64 0, .int .i64 0, .slice none 0 0] 27 (0, 0)) from HY3.out)
  obtain ⟨c0, c1, c2, c3, c4, c5⟩ := HX3.out.c
  go_wp2_with (show wpList _ _ _ (⟨none, _, _, _, _, _⟩ :: _) _ _; refine wpList_store_row rfl 27 _ _ rfl (wg + 1) #[.int .i64 h.S, .int .i64 h.F, .int .i64 h.I, .int .i64 h.N, .int .i64 h.D, .slice a' h.m c'] rfl rfl 27 _ HRW.out (by kernel_rfl) rfl (by simp [Value.oneCell']) ?_)
  have hset : w3.heap[wg + 1]? = some (.cells #[.int .i64 0, .int .i64 0, .int .i64 0, .int .i64 0, .int .i64 0, .slice none 0 0] 27 (0, 0)) := HRW.out
  refine bodyPost_ret (results_cell_row rfl _ _ (wg + 1) _ _ (0, 0) _ rfl (setRow_heap _ _ _ _ _ _ hset) Tryz.underlying27 rfl (by kernel_rfl)) rfl ⟨a', c', rfl, ?_, ?_⟩
  · exact own_mono (own_oth HO3.out fun g hg _ => setRow_other w3 (wg + 1) g _ (by have := HSZ.out; omega)) HB.out.size
  · exact HB3.out.trans ⟨rfl, rfl, rfl, by simp, fun k hk => setRow_other w3 (wg + 1) k _ (by have := HWG.out; omega)⟩
theorem xor_one_ne (S : Int) : bits .xor .i64 S 1 ≠ S := by
  intro h
  have h2 : IntKind.i64.wrap ((BitVec.ofInt 64 S ^^^ BitVec.ofInt 64 1).toNat : Int) = S := h
  have h3 : (BitVec.ofInt 64 S).toNat = (S % 2 ^ 64).toNat := BitVec.toNat_ofInt ..
  have h1 : (BitVec.ofInt 64 1).toNat = 1 := by decide
  rw [IntKind.wrap_i64, BitVec.toNat_xor, h1, h3] at h2
  obtain ⟨n, hn⟩ : ∃ n, n = (S % 2 ^ 64).toNat := ⟨_, rfl⟩
  rw [← hn] at h2
  obtain ⟨m, hm⟩ : ∃ m, m = n ^^^ 1 := ⟨_, rfl⟩
  rw [← hm] at h2
  have hb : (n ^^^ 1).testBit 0 = (n.testBit 0 ^^ (1 : Nat).testBit 0) := Nat.testBit_xor ..
  rw [← hm, Nat.testBit_zero, Nat.testBit_zero, Nat.testBit_zero] at hb
  have hp : m % 2 ≠ n % 2 := fun e => by
    rw [e] at hb
    cases hd : decide (n % 2 = 1) <;> rw [hd] at hb <;> simp at hb
  omega
/-- a row's length that is stored anew. -/
theorem tb_setL {w : World} {B g n c k : Nat} {K L : Nat → Int} {y : Int} (ho : w.ownsRow B 24 2 (.slice (some ⟨g, 0, none⟩) n c) n (tdl K L n)) (hk : k < n) :
    Tb (w.setCell ⟨g, k * 2 + 1, none⟩ (.int .i64 y)) (some ⟨g, 0, none⟩) n K (fun i => if i = k then y else L i) := ⟨fun i hi => by
  have hs := (ho.stored (k * 2 + 1) (.int .i64 y)).1
  obtain ⟨t1, t2⟩ := tdl_at K L n i hi
  refine ⟨g, 0, rfl, ?_, ?_⟩
  · rw [Nat.zero_add, hs.cellAt _ (by omega), List.getElem?_set_ne (by omega)]; exact t1
  · rw [Nat.zero_add, hs.cellAt _ (by omega)]
    by_cases e : i = k
    · subst e
      rw [List.getElem?_set_self (by rw [tdl_len]; omega), if_pos rfl]
    · rw [List.getElem?_set_ne (by omega), if_neg e]; exact t2⟩
theorem tb_gr {w w' : World} {a : Option Addr} {n : Nat} {K L : Nat → Int} (h : Tb w a n K L) (hk : ∀ ad, a = some ad → w'.heap[ad.block]? = w.heap[ad.block]?) : Tb w' a n K L := ⟨fun i hi => by
  obtain ⟨b, o, e, h1, h2⟩ := h.cell i hi
  have hb := hk _ e
  refine ⟨b, o, e, ?_, ?_⟩
  · unfold World.cell? at h1 ⊢
    simp only at h1 hb ⊢
    rw [hb]; exact h1
  · unfold World.cell? at h2 ⊢
    simp only at h2 hb ⊢
    rw [hb]; exact h2⟩
theorem HAt.grow {w w' : World} {g c : Nat} {h : Hr} {a : Option Addr} {row : Option Nat} (x : HAt w g h a c) (hg : w.grownBy w' row) (hr : some g ≠ row) : HAt w' g h a c := x.oth (hg.block g x.lt hr)
theorem ownNe {w : World} {B s n g : Nat} {e : TypeId} {v : Value} {xs : List Value} (h : w.ownsRow B e s v n xs) (hg : g < B) : some g ≠ v.ownBlock := fun q => by
  have := (h.lt g q.symm).1
  omega
theorem ownNe9 {a : Option Addr} {n c g : Nat} (h : ∀ q : Addr, a = some q → q.block ≠ g) : some g ≠ (Value.slice a n c).ownBlock := fun q => by
  cases a with
  | none => cases q
  | some ad => exact h ad rfl (Option.some.inj q).symm
theorem lh_refl (h : Hr) : LH h h := ⟨rfl, rfl, rfl, rfl, rfl, fun _ _ => ⟨rfl, rfl⟩⟩
theorem lh_symm {h g : Hr} (e : LH h g) : LH g h := by
  obtain ⟨e1, e2, e3, e4, e5, e6⟩ := e
  exact ⟨e1.symm, e2.symm, e3.symm, e4.symm, e5.symm, fun i hi => ⟨(e6 i (by omega)).1.symm, (e6 i (by omega)).2.symm⟩⟩
/-- what Like tells of two that lie in this world. -/
theorem like_at {wb : World} {h g : Hr} {a b : Option Addr} {c d : Nat} {x : Bool} (hx : x = true ↔ LH h g) (hn : h.m ≤ 140737488355328) (hm : g.m ≤ 140737488355328) (hT : Tb wb a h.m h.K h.L) (hU : Tb wb b g.m g.K g.L) (W : World) (hW : Below wb.heap.size wb W) :
    Calls Tryz.prog 17 #[hV h a c, hV g b d] W fun e w' => e = .returned (.bool x) ∧ Below W.heap.size W w' :=
  (phlike_any h g a b c d hn hm W (hT.same hW) (hU.same hW)).mono fun e w' ⟨⟨v, he, hv⟩, hB⟩ => ⟨by
    rw [he]
    have : v = x := by rw [Bool.eq_iff_iff]; exact hv.trans hx.symm
    rw [this], hB⟩
end Go.Proofs.YtjlmajopfeplpaaGreat.He

namespace Go.Proofs.YtjlmajopfeplpaaGreat.He
open Go.RowKit Go.Shelf
open Go.Proofs.YtjlmajopfeplpaaGreat.Ly (TabOk RowOk off Tb tdl tdl_len tdl_at tdl_tb tdl_ones tb_news cell_new2 int_ones tK tL)
open Go.Proofs.YtjlmajopfeplpaaGreat.Wg (BoSays BoSays.no BoSays.yes)
attribute [local go_sem] Oper.semAt_some

/-- the ends. -/
def endL : List Int := [(-9223372036854775808), (-1), 0, 1, 2, 7, 8, 9, 254, 255, 256, 65535, 65536, 2147483647, 2147483648, 4294967296, 9223372036854775807]
theorem end_cell {W : World} {g : Nat} (h : W.heap[g]? = some (.cells (endL.map (Value.int .i64)).toArray 3 (0, 0))) {i : Nat} (hi : i < 17) : ∃ z, W.cell? ⟨g, i, none⟩ = some (.int .i64 z) := by
  refine ⟨endL[i]'(by show i < 17; exact hi), ?_⟩
  rw [cell_of_row W g i _ _ _ h, List.getElem?_toArray, List.getElem?_map, List.getElem?_eq_getElem (show i < endL.length from hi)]
  rfl
/-- the good one. -/
def gH : Hr := ⟨5, 77, 2, 4, 99, 2, fun i => if i = 0 then 1 else 3, fun i => if i = 0 then 2 else 7⟩
def gB : List Nat := [1, 2, 3, 4, 5]
/-- what stands at the begin. -/
structure St0 (w W : World) (ge gr g2 gb : Nat) : Prop where
  be : Below w.heap.size w W
  ends : W.heap[ge]? = some (.cells (endL.map (Value.int .i64)).toArray 3 (0, 0))
  good : HAt W g2 gH (some ⟨gr, 0, none⟩) 2
  rows : Tb W (some ⟨gr, 0, none⟩) 2 gH.K gH.L
  body : Sl W (some ⟨gb, 0, none⟩) 5 5 (fun i => gB.getD i 0)
theorem St0.same {w W W' : World} {ge gr g2 gb : Nat} (s : St0 w W ge gr g2 gb) (hB : Below W.heap.size W W') : St0 w W' ge gr g2 gb :=
  ⟨s.be.trans (hB.mono s.be.size), (hB.block ge (Array.getElem?_eq_some_iff.1 s.ends).1).trans s.ends, s.good.same hB, s.rows.same hB, s.body.same hB⟩
theorem Tryz.infoHeadE : (Tryz.prog.info? 27).map (fun i => (i.zero, i.size, i.bytes)) = some (some (.agg #[.int .i64 0, .int .i64 0, .int .i64 0, .int .i64 0, .int .i64 0, .slice none 0 0]), 6, 64) := by kernel_rfl
theorem cell_new6 (w : World) (a b c d e f : Value) (t : TypeId) : ∀ j x, [a, b, c, d, e, f][j]? = some x → (w.alloc (.cells #[a, b, c, d, e, f] t)).cell? ((⟨w.heap.size, 0, none⟩ : Addr).add j) = some x := by
  intro j x hx
  have hj : j < 6 := by
    have := (List.getElem?_eq_some_iff.1 hx).1
    simpa using this
  rw [Addr.add_lit, World.cell?_alloc_new, ← hx]
  rcases (show j = 0 ∨ j = 1 ∨ j = 2 ∨ j = 3 ∨ j = 4 ∨ j = 5 by omega) with rfl | rfl | rfl | rfl | rfl | rfl <;> rfl
theorem ones6 (a b c d e : Int) (f : Option Addr) (m n : Nat) : ∀ u ∈ [Value.int .i64 a, .int .i64 b, .int .i64 c, .int .i64 d, .int .i64 e, .slice f m n], u.oneCell' = true := by
  intro u hu
  simp only [List.mem_cons, List.not_mem_nil, or_false] at hu
  rcases hu with rfl | rfl | rfl | rfl | rfl | rfl <;> rfl
theorem own_ne_ri {w : World} {B B' s n r c : Nat} {v : Value} {xs : List Value} (h : w.ownsRow B 27 s v n xs) (hr : Ri w B' r c) : some r ≠ v.ownBlock := fun e => by
  obtain ⟨h1, ⟨h2, _⟩ | ⟨g, cap, cur, q1, q2, q3, _⟩⟩ := h
  · rw [h2] at e; cases e
  · rw [q1] at e
    have e2 : r = g := Option.some.inj e
    exact hr.ne q3 e2
theorem made_two (m : Nat) {j : Nat} (hj : j < m * 2) : (madeCells #[Value.int .i64 0, .int .i64 0] (m * 2))[j]? = some (.int .i64 0) := by
  unfold madeCells
  rw [Array.getElem?_map, Array.getElem?_range, if_pos hj]
  rcases Nat.mod_two_eq_zero_or_one j with h | h
  · show some (#[Value.int .i64 0, Value.int .i64 0][j % 2]!) = _
    rw [h]; rfl
  · show some (#[Value.int .i64 0, Value.int .i64 0][j % 2]!) = _
    rw [h]; rfl
theorem ri_made (w : World) (m : Nat) {B : Nat} (hB : B ≤ w.heap.size) : Ri (w.alloc (.cells (madeCells #[.int .i64 0, .int .i64 0] (m * 2)) 24)) B w.heap.size m :=
  ⟨hB, _, heap_alloc_new w _, fun j hj => ⟨0, made_two m (by omega)⟩⟩
theorem app0 {F : Nat → Nat} (h : Pf.Up F 25) {j : Nat} (hj : j < 1) : (fun i => [0].getD i 0) j = F (25 + j) := by
  obtain rfl : j = 0 := by omega
  rw [h 25 (Nat.le_refl _)]; rfl
/-- bytes are appended to a row of one's own, under a guard. -/
theorem wpList_app_g {w : World} {ops : Array Oper} {rest : List Oper} {o : Oper} {act : Act} {Q : Exit → Act → World → Prop} (hgd : Region.wanted o (yielded ops act.tmps) = true) (s x : Operand)
    (ho : o.op = .call { callee := .builtin .append, args := #[s, x], argTypes := #[28, 28] })
    (B : Nat) (a : Option Addr) (n cap : Nat) (F : Nat → Nat) (hs : act.eval s = .slice a n cap) (hown : w.ownsRow B 5 1 (.slice a n cap) n (bl F n)) (ad : Addr) (m c : Nat) (g : Nat → Nat) (hx : act.eval x = .slice (some ad) m c) (hS : Sl w (some ad) m c g) (hF : ∀ j, j < m → g j = F (n + j)) (hm0 : 0 < m) (hm : n + m ≤ 100000000) (hbase : B ≤ w.heap.size)
    (h : ∀ q cap' w', w'.ownsRow B 5 1 (.slice (some ⟨q, 0, none⟩) (n + m) cap') (n + m) (bl F (n + m)) → Below B w w' → wpList Tryz.prog ops Q rest (act.put o.dst (.slice (some ⟨q, 0, none⟩) (n + m) cap')) w') : wpList Tryz.prog ops Q (o :: rest) act w := by
  obtain ⟨i0, hi, hz0, hz1, hz2⟩ := info_parts Tryz.infoU8
  refine BigFrame.wpList_want hgd fun _ hK => ?_
  obtain ⟨q, cap', w', hr, h2, h3, h4⟩ := run_append_bag (P := Tryz.prog) w 28 o.type B 5 i0 (.int .u8 0) 1 Tryz.underlying28 hi hz0 hz1 hz2 rfl a n cap _ hown ad m c (bl g m) (by rw [bl_len]) (hS.reads _ rfl) (bl_ones g m) hm0 (by unfold maxLen; omega) (by omega) hbase
  unfold Oper.wp execOp
  simp only [ho, resolve, invoke, builtin, Sem.run_bind, Sem.run_pure, Result.andThen_ok, List.map_toArray, List.map_cons, List.map_nil, hs, hx, hr]
  rw [bl_app hF] at h2
  refine hK _ _ (h q cap' w' h2 ?_)
  rcases h3 with ⟨e, _, h3⟩ | ⟨_, h3⟩
  · subst e
    exact (Below.refl B w).grown h3 hbase (fun r e => by cases e; exact (hown.lt q rfl).1)
  · exact (Below.refl B w).grown h3 hbase (fun r e => by cases e)
def eH : Hr := ⟨0, 1, 254, 255, 0, 8, fun _ => 0, fun _ => 0⟩
theorem gH_off : off gH.K gH.L gH.m = 5 := by decide
theorem gH_right : RH gH := by
  unfold RH TabOk RowOk
  refine ⟨by decide, by decide, by decide, by decide, by decide, by decide, by decide, by decide, fun i hi => ?_⟩
  have h2 : i < 2 := hi
  rcases (show i = 0 ∨ i = 1 by omega) with rfl | rfl
  · exact ⟨by decide, by decide, by decide, by decide, fun h => absurd h (by decide)⟩
  · exact ⟨by decide, by decide, by decide, by decide, fun _ => by decide⟩
/-- the list of nine. -/
theorem ls_of {w : World} {B lc : Nat} {la : Option Addr} {R C : Nat → Nat} (h : w.ownsRow B 27 6 (.slice la 9 lc) 9 (hdl gH R C 9)) (hR : ∀ j, j < 9 → 2 ≤ C j ∧ Ri w B (R j) 2) : ∃ g, la = some ⟨g, 0, none⟩ ∧ 9 ≤ lc ∧ Ls w B g 2 := by
  obtain ⟨h1, ⟨_, h2⟩ | ⟨g, cap, cur, q1, q2, q3, q4, q5, q6, q7⟩⟩ := h
  · omega
  · simp only [Value.slice.injEq, true_and] at q1
    obtain ⟨rfl, rfl⟩ := q1
    have hat : ∀ j, j < 54 → cur[j]? = (hdl gH R C 9)[j]? := fun j hj => by
      have ht : (cur.toList.take (9 * 6))[j]? = (hdl gH R C 9)[j]? := by rw [q7]
      rw [List.getElem?_take_of_lt (by omega), Array.getElem?_toList] at ht
      exact ht
    refine ⟨g, rfl, q4, q2, cur, q3, fun k j hk hj => ?_, fun k hk => ?_⟩
    · obtain ⟨z, hz⟩ := (hdl_at gH R C 9 k hk).1 j hj
      exact ⟨z, by rw [hat _ (by omega)]; exact hz⟩
    · have em : mm 2 k = 2 := by unfold mm; split <;> rfl
      rw [em]
      exact ⟨R k, C k, by rw [hat _ (by omega)]; exact (hdl_at gH R C 9 k hk).2, (hR k hk).1, (hR k hk).2⟩
/-- rows of one's own, some of them. -/
theorem own_row {w : World} {B B' n c : Nat} {a : Option Addr} {K L : Nat → Int} (h : w.ownsRow B 24 2 (.slice a n c) n (tdl K L n)) (hn : 0 < n) (hB : B' ≤ B) : ∃ r, a = some ⟨r, 0, none⟩ ∧ n ≤ c ∧ Ri w B' r n := by
  obtain ⟨h1, ⟨_, h2⟩ | ⟨g, cap, cur, q1, q2, q3, q4, q5, q6, q7⟩⟩ := h
  · omega
  · simp only [Value.slice.injEq, true_and] at q1
    obtain ⟨rfl, rfl⟩ := q1
    refine ⟨g, rfl, q4, Nat.le_trans hB q2, cur, q3, fun j hj => ?_⟩
    have ht : (cur.toList.take (n * 2))[j]? = (tdl K L n)[j]? := by rw [q7]
    rw [List.getElem?_take_of_lt (by omega), Array.getElem?_toList] at ht
    obtain ⟨t1, t2⟩ := tdl_at K L n (j / 2) (by omega)
    rcases (show j = j / 2 * 2 ∨ j = j / 2 * 2 + 1 by omega) with e | e
    · exact ⟨_, by rw [ht, e, t1]⟩
    · exact ⟨_, by rw [ht, e, t2]⟩
set_option maxHeartbeats 8000000 in
set_option maxRecDepth 100000 in
theorem headEnds_any (w : World) :
    Calls Tryz.prog 3 #[] w fun e w' => e = .returned (.bool true) ∧ Below w.heap.size w w' := by
  go_enter Tryz.func3, Tryz.ntmps3
  go_upto_region 2 with fail
  obtain ⟨w1, hw1⟩ : ∃ w1, w1 = w.alloc (.cells #[.int .i64 (-9223372036854775808), .int .i64 (-1), .int .i64 0, .int .i64 1, .int .i64 2, .int .i64 7, .int .i64 8, .int .i64 9, .int .i64 254, .int .i64 255, .int .i64 256, .int .i64 65535, .int .i64 65536, .int .i64 2147483647, .int .i64 2147483648, .int .i64 4294967296, .int .i64 9223372036854775807] 3) := ⟨_, rfl⟩
  rw [← hw1]
  have hb1 : Below w.heap.size w w1 := by rw [hw1]; exact (Below.refl _ w).alloc (Nat.le_refl _) _
  have h1 : w1.heap[w.heap.size]? = some (.cells (endL.map (Value.int .i64)).toArray 3 (0, 0)) := by rw [hw1]; exact heap_alloc_new _ _
  have H1 := Lib.hid h1; have HB1 := Lib.hid hb1
  obtain ⟨ge, hge⟩ : ∃ ge, ge = w.heap.size := ⟨_, rfl⟩
  rw [← hge] at H1 ⊢
  clear hw1 h1 hb1 hge
  go_upto_region 3 with fail
  obtain ⟨w2, hw2⟩ : ∃ w2, w2 = w1.alloc (.cells #[.int .i64 1, .int .i64 2, .int .i64 3, .int .i64 7] 24) := ⟨_, rfl⟩
  have hb2 : Below w1.heap.size w1 w2 := by rw [hw2]; exact (Below.refl _ w1).alloc (Nat.le_refl _) _
  have h2 : w2.heap[w1.heap.size]? = some (.cells #[.int .i64 1, .int .i64 2, .int .i64 3, .int .i64 7] 24 (0, 0)) := by rw [hw2]; exact heap_alloc_new _ _
  rw [← hw2]
  have hz2 : w2.heap.size = w1.heap.size + 1 := by rw [hw2, World.size_alloc]
  obtain ⟨wr0, hwr⟩ : ∃ wr0, wr0 = w1.heap.size := ⟨_, rfl⟩
  rw [← hwr] at h2 hz2 ⊢
  have HZ2 := Lib.hid hz2
  clear hw2 hwr hz2
  obtain ⟨w3, hw3⟩ : ∃ w3, w3 = w2.alloc (.cells #[.int .i64 5, .int .i64 77, .int .i64 2, .int .i64 4, .int .i64 99, .slice (some ⟨wr0, 0, none⟩) 2 2] 27) := ⟨_, rfl⟩
  have hb3 : Below w2.heap.size w2 w3 := by rw [hw3]; exact (Below.refl _ w2).alloc (Nat.le_refl _) _
  have h3 : w3.heap[w2.heap.size]? = some (.cells #[.int .i64 5, .int .i64 77, .int .i64 2, .int .i64 4, .int .i64 99, .slice (some ⟨wr0, 0, none⟩) 2 2] 27 (0, 0)) := by rw [hw3]; exact heap_alloc_new _ _
  rw [← hw3]
  obtain ⟨g2, hg2⟩ : ∃ g2, g2 = wr0 + 1 := ⟨_, rfl⟩
  rw [← hg2]
  have HG2 := Lib.hid (show g2 = w2.heap.size by rw [HZ2.out]; exact hg2)
  rw [← HG2.out] at h3
  have H2 := Lib.hid h2; have H3 := Lib.hid h3; have HB3 := Lib.hid (HB1.out.trans ((hb2.trans (hb3.mono hb2.size)).mono HB1.out.size)); have HE1 := Lib.hid ((hb2.trans (hb3.mono hb2.size)).block ge (Array.getElem?_eq_some_iff.1 H1.out).1 |>.trans H1.out); have HR3 := Lib.hid ((hb3.block wr0 (Array.getElem?_eq_some_iff.1 h2).1).trans h2)
  clear hw3 hb2 hb3 h2 h3 hg2 H1 H2 HB1 HZ2 HG2
  go_upto_region 4 with fail
  obtain ⟨w4, hw4⟩ : ∃ w4, w4 = w3.alloc (.cells #[.int .u8 1, .int .u8 2, .int .u8 3, .int .u8 4, .int .u8 5] 5) := ⟨_, rfl⟩
  rw [← hw4]
  have hb4 : Below w3.heap.size w3 w4 := by rw [hw4]; exact (Below.refl _ w3).alloc (Nat.le_refl _) _
  have HST := Lib.hid (show St0 w w4 ge wr0 g2 w3.heap.size from ⟨HB3.out.trans (hb4.mono HB3.out.size), (hb4.block ge (Array.getElem?_eq_some_iff.1 HE1.out).1).trans HE1.out, HAt.same (h := gH) (a := some ⟨wr0, 0, none⟩) (cc := 2) H3.out hb4, ⟨fun i hi => ⟨wr0, 0, rfl, by
    have hr := (hb4.block wr0 (Array.getElem?_eq_some_iff.1 HR3.out).1).trans HR3.out
    rcases (show i = 0 ∨ i = 1 by omega) with rfl | rfl
    · exact ⟨by rw [cell_of_row _ _ _ _ _ _ hr]; rfl, by rw [cell_of_row _ _ _ _ _ _ hr]; rfl⟩
    · exact ⟨by rw [cell_of_row _ _ _ _ _ _ hr]; rfl, by rw [cell_of_row _ _ _ _ _ _ hr]; rfl⟩⟩⟩, by rw [hw4]; exact sl_lit w3 gB (by decide) (by decide)⟩)
  generalize w3.heap.size = gb at *
  clear hw4 hb4 H3 HB3 HE1 HR3
  go_wp2_with fail
  go_loopw [4] (fun i wr => ∃ (n : Nat) (W : World), W = wr ∧ n ≤ 17 ∧ i = .int .i64 (n : Nat) ∧ Below w4.heap.size w4 wr) (fun i _ => 17 - (intOf i).toNat)
  case atStart => exact ⟨0, _, rfl, by omega, rfl, Below.refl _ _⟩
  case round =>
    obtain ⟨n, wx, rfl, hn, rfl, hBx⟩ := hrel
    have HBX := Lib.hid hBx
    clear hBx
    by_cases hlt : n < 17
    · have i1 : (n : Int) < 17 := by omega
      have HLT := Lib.hid hlt
      clear hlt
      obtain ⟨j0, hi, hz0, hz1, hz2⟩ := info_parts Tryz.infoHeadE
      have HI := Lib.hid hi; have HZ0 := Lib.hid hz0; have HZ1 := Lib.hid hz1; have HZ2 := Lib.hid hz2
      clear hi hz0 hz1 hz2
      go_wp2_with fail
      go_loopw [5, 6] (fun v i wr => ∃ (k : Nat) (la : Option Addr) (lc : Nat) (R C : Nat → Nat) (W : World), W = wr ∧ k ≤ 9 ∧ i = .int .i64 (k : Nat) ∧ v = .slice la k lc ∧ wr.ownsRow w4.heap.size 27 6 (.slice la k lc) k (hdl gH R C k) ∧ (∀ j, j < k → 2 ≤ C j ∧ Ri wr w4.heap.size (R j) 2) ∧ Below w4.heap.size w4 wr) (fun _ i _ => 9 - (intOf i).toNat)
      case atStart => exact ⟨0, none, 0, fun _ => 0, fun _ => 0, _, rfl, by omega, rfl, rfl, World.ownsRow_nil _ _ _ _, fun j hj => absurd hj (Nat.not_lt_zero j), HBX.out⟩
      case round =>
        obtain ⟨k, la, lc, R, C, wy, rfl, hk, rfl, rfl, hO, hR, hBy⟩ := hrel
        have HO := Lib.hid hO; have HR := Lib.hid hR; have HBY := Lib.hid hBy
        have HSY := Lib.hid (HST.out.same hBy)
        clear hO hR hBy
        by_cases hk9 : k < 9
        · have i2 : (k : Int) < 9 := by omega
          have HK9 := Lib.hid hk9
          have HCH := Lib.hid (copyHead_any gH (some ⟨wr0, 0, none⟩) 2 (by decide) wy HSY.out.rows (fun e => by cases e))
          unfold hV at HCH
          obtain ⟨c0, c1, c2, c3, c4, c5⟩ := HSY.out.good.c
          go_wp2_with fail
          clear c0 c1 c2 c3 c4 c5
          refine HCH.out.mono ?_
          rintro e wz ⟨a', c', rfl, ho, hBz⟩
          have HOZ := Lib.hid (own_be HO.out hBz)
          have HSZ := Lib.hid (HSY.out.same hBz)
          have HBZ := Lib.hid (HBY.out.trans (hBz.mono HBY.out.size))
          have HRZ := Lib.hid (fun j (hj : j < k) => (⟨(HR.out j hj).1, (HR.out j hj).2.kept (hBz.block _ (HR.out j hj).2.lt)⟩ : 2 ≤ C j ∧ Ri wz w4.heap.size (R j) 2))
          have HNW := Lib.hid (own_row ho (by decide) (show w4.heap.size ≤ wy.heap.size from HBY.out.size))
          obtain ⟨r', rfl, hr1, hr2⟩ := HNW.out
          have HR1 := Lib.hid hr1; have HR2 := Lib.hid hr2
          clear ho hBz HCH HNW HO HR HBY HSY hr1 hr2
          have hba : Below wz.heap.size wz (wz.alloc (.cells #[.int .i64 gH.S, .int .i64 gH.F, .int .i64 gH.I, .int .i64 gH.N, .int .i64 gH.D, .slice (some ⟨r', 0, none⟩) gH.m c'] 27)) := (Below.refl _ wz).alloc (Nat.le_refl _) _
          have HOA := Lib.hid (own_be HOZ.out hba)
          have HBA := Lib.hid hba
          have HWA := Lib.hid (show w4.heap.size ≤ (wz.alloc (.cells #[.int .i64 gH.S, .int .i64 gH.F, .int .i64 gH.I, .int .i64 gH.N, .int .i64 gH.D, .slice (some ⟨r', 0, none⟩) gH.m c'] 27)).heap.size from Nat.le_trans HBZ.out.size hba.size)
          clear hba
          have hk9 := HK9.out
          go_wp2_with (at_builtin; refine wpList_append_own _ rfl _ _ 29 rfl w4.heap.size 27 j0 (.agg #[.int .i64 0, .int .i64 0, .int .i64 0, .int .i64 0, .int .i64 0, .slice none 0 0]) 6 64 Tryz.underlying29 HI.out HZ0.out HZ1.out HZ2.out rfl (by decide) (.slice la k lc) k _ rfl HOA.out ⟨wz.heap.size, 0, none⟩ 1 1 [.int .i64 gH.S, .int .i64 gH.F, .int .i64 gH.I, .int .i64 gH.N, .int .i64 gH.D, .slice (some ⟨r', 0, none⟩) gH.m c'] rfl rfl (cell_new6 wz _ _ _ _ _ _ _) (ones6 _ _ _ _ _ _ _ _) (by unfold maxLen; omega) (by omega) HWA.out ?_; intro v' wq hown hg _; obtain ⟨l2, lc2, rfl⟩ := own_sl hown; have HOQ := Lib.hid hown; have HGQ := Lib.hid hg; clear hown hg)
          have HRQ := Lib.hid (show ∀ j, j < k + 1 → 2 ≤ (if j = k then c' else C j) ∧ Ri wq w4.heap.size (if j = k then r' else R j) 2 from fun j hj => by
            by_cases e : j = k
            · rw [if_pos e, if_pos e]
              have hr := HR2.out.kept (HBA.out.block _ HR2.out.lt)
              exact ⟨HR1.out, hr.kept (HGQ.out.block _ hr.lt (own_ne_ri HOA.out hr))⟩
            · rw [if_neg e, if_neg e]
              have h0 := HRZ.out j (by omega)
              have hr := h0.2.kept (HBA.out.block _ h0.2.lt)
              exact ⟨h0.1, hr.kept (HGQ.out.block _ hr.lt (own_ne_ri HOA.out hr))⟩)
          have HOR := Lib.hid (show wq.ownsRow w4.heap.size 27 6 (.slice l2 (k + 1) lc2) (k + 1) (hdl gH (fun j => if j = k then r' else R j) (fun j => if j = k then c' else C j) (k + 1)) by
            have e : hdl gH (fun j => if j = k then r' else R j) (fun j => if j = k then c' else C j) (k + 1) = hdl gH R C k ++ [Value.int .i64 gH.S, .int .i64 gH.F, .int .i64 gH.I, .int .i64 gH.N, .int .i64 gH.D, .slice (some ⟨r', 0, none⟩) gH.m c'] := by
              show hdl _ _ _ k ++ [_, _, _, _, _, _] = _
              rw [hdl_congr gH (R' := R) (C' := C) k (fun i hi => ⟨if_neg (by omega), if_neg (by omega)⟩)]
              simp
            rw [e]; exact HOQ.out)
          have HBQ := Lib.hid (HBZ.out.trans ((HBA.out.mono HBZ.out.size).trans ((Below.refl w4.heap.size _).grown HGQ.out HWA.out (fun r e => (HOA.out.lt r e).1))))
          clear HOQ HGQ HOA HBA HWA HOZ HBZ HRZ HR1 HR2 HSZ
          go_wp2
          go_roundw
          case rel => exact ⟨k + 1, l2, lc2, _, _, _, rfl, by omega, by go_num, rfl, HOR.out, HRQ.out, HBQ.out⟩
          case measure => simp [intOf]; omega
        · obtain rfl : k = 9 := by omega
          have i2 : ¬ ((9 : Nat) : Int) < 9 := by omega
          obtain ⟨g, rfl, HLC, hls⟩ := ls_of HO.out HR.out
          have HLS := Lib.hid hls
          have hlc := HLC
          clear HO HR hls HBX
          have i1 : (n : Int) < 17 := by have := HLT.out; omega
          go_upto_region 12 with fail
          obtain ⟨z, hz⟩ := end_cell HSY.out.ends HLT.out
          obtain ⟨zz, hc⟩ := HLS.out.num (k := 0) (j := 0) (by decide) (by decide)
          have ff := HLS.out.free 0
          replace hc : wy.cell? ⟨g, 0, none⟩ = some (.int .i64 zz) := hc
          have i1 : (n : Int) < 17 := by have := HLT.out; omega
          go_upto_region 13 with fail
          obtain ⟨wy', hwy⟩ : ∃ W, W = wy.setCell ⟨g, 0, none⟩ (.int .i64 z) := ⟨_, rfl⟩
          rw [← hwy]
          have HLS' := Lib.hid (show Ls wy' w4.heap.size g 2 by rw [hwy]; exact HLS.out.setN (k := 0) (j := 0) (by decide) (by decide) z)
          have HBY' := Lib.hid (show Below w4.heap.size w4 wy' by rw [hwy]; exact HBY.out.setCell (show w4.heap.size ≤ g from HLS.out.1) _)
          clear hwy hz hc ff HLS HBY HSY
          obtain ⟨wy, ewy⟩ : ∃ W, W = wy' := ⟨_, rfl⟩
          rw [← ewy] at HLS' HBY' ⊢
          clear ewy wy'
          have HLS := HLS'; have HBY := HBY'
          have HSY := Lib.hid (HST.out.same HBY.out)
          clear HLS' HBY'
          obtain ⟨z, hz⟩ := end_cell HSY.out.ends HLT.out
          obtain ⟨zz, hc⟩ := HLS.out.num (k := 1) (j := 1) (by decide) (by decide)
          have ff := HLS.out.free 7
          replace hc : wy.cell? ⟨g, 7, none⟩ = some (.int .i64 zz) := hc
          have i1 : (n : Int) < 17 := by have := HLT.out; omega
          go_upto_region 14 with fail
          obtain ⟨wy', hwy⟩ : ∃ W, W = wy.setCell ⟨g, 7, none⟩ (.int .i64 z) := ⟨_, rfl⟩
          rw [← hwy]
          have HLS' := Lib.hid (show Ls wy' w4.heap.size g 2 by rw [hwy]; exact HLS.out.setN (k := 1) (j := 1) (by decide) (by decide) z)
          have HBY' := Lib.hid (show Below w4.heap.size w4 wy' by rw [hwy]; exact HBY.out.setCell (show w4.heap.size ≤ g from HLS.out.1) _)
          clear hwy hz hc ff HLS HBY HSY
          obtain ⟨wy, ewy⟩ : ∃ W, W = wy' := ⟨_, rfl⟩
          rw [← ewy] at HLS' HBY' ⊢
          clear ewy wy'
          have HLS := HLS'; have HBY := HBY'
          have HSY := Lib.hid (HST.out.same HBY.out)
          clear HLS' HBY'
          obtain ⟨z, hz⟩ := end_cell HSY.out.ends HLT.out
          obtain ⟨zz, hc⟩ := HLS.out.num (k := 2) (j := 2) (by decide) (by decide)
          have ff := HLS.out.free 14
          replace hc : wy.cell? ⟨g, 14, none⟩ = some (.int .i64 zz) := hc
          have i1 : (n : Int) < 17 := by have := HLT.out; omega
          go_upto_region 15 with fail
          obtain ⟨wy', hwy⟩ : ∃ W, W = wy.setCell ⟨g, 14, none⟩ (.int .i64 z) := ⟨_, rfl⟩
          rw [← hwy]
          have HLS' := Lib.hid (show Ls wy' w4.heap.size g 2 by rw [hwy]; exact HLS.out.setN (k := 2) (j := 2) (by decide) (by decide) z)
          have HBY' := Lib.hid (show Below w4.heap.size w4 wy' by rw [hwy]; exact HBY.out.setCell (show w4.heap.size ≤ g from HLS.out.1) _)
          clear hwy hz hc ff HLS HBY HSY
          obtain ⟨wy, ewy⟩ : ∃ W, W = wy' := ⟨_, rfl⟩
          rw [← ewy] at HLS' HBY' ⊢
          clear ewy wy'
          have HLS := HLS'; have HBY := HBY'
          have HSY := Lib.hid (HST.out.same HBY.out)
          clear HLS' HBY'
          obtain ⟨z, hz⟩ := end_cell HSY.out.ends HLT.out
          obtain ⟨zz, hc⟩ := HLS.out.num (k := 3) (j := 3) (by decide) (by decide)
          have ff := HLS.out.free 21
          replace hc : wy.cell? ⟨g, 21, none⟩ = some (.int .i64 zz) := hc
          have i1 : (n : Int) < 17 := by have := HLT.out; omega
          go_upto_region 16 with fail
          obtain ⟨wy', hwy⟩ : ∃ W, W = wy.setCell ⟨g, 21, none⟩ (.int .i64 z) := ⟨_, rfl⟩
          rw [← hwy]
          have HLS' := Lib.hid (show Ls wy' w4.heap.size g 2 by rw [hwy]; exact HLS.out.setN (k := 3) (j := 3) (by decide) (by decide) z)
          have HBY' := Lib.hid (show Below w4.heap.size w4 wy' by rw [hwy]; exact HBY.out.setCell (show w4.heap.size ≤ g from HLS.out.1) _)
          clear hwy hz hc ff HLS HBY HSY
          obtain ⟨wy, ewy⟩ : ∃ W, W = wy' := ⟨_, rfl⟩
          rw [← ewy] at HLS' HBY' ⊢
          clear ewy wy'
          have HLS := HLS'; have HBY := HBY'
          have HSY := Lib.hid (HST.out.same HBY.out)
          clear HLS' HBY'
          obtain ⟨z, hz⟩ := end_cell HSY.out.ends HLT.out
          obtain ⟨zz, hc⟩ := HLS.out.num (k := 4) (j := 4) (by decide) (by decide)
          have ff := HLS.out.free 28
          replace hc : wy.cell? ⟨g, 28, none⟩ = some (.int .i64 zz) := hc
          have i1 : (n : Int) < 17 := by have := HLT.out; omega
          go_upto_region 17 with fail
          obtain ⟨wy', hwy⟩ : ∃ W, W = wy.setCell ⟨g, 28, none⟩ (.int .i64 z) := ⟨_, rfl⟩
          rw [← hwy]
          have HLS' := Lib.hid (show Ls wy' w4.heap.size g 2 by rw [hwy]; exact HLS.out.setN (k := 4) (j := 4) (by decide) (by decide) z)
          have HBY' := Lib.hid (show Below w4.heap.size w4 wy' by rw [hwy]; exact HBY.out.setCell (show w4.heap.size ≤ g from HLS.out.1) _)
          clear hwy hz hc ff HLS HBY HSY
          obtain ⟨wy, ewy⟩ : ∃ W, W = wy' := ⟨_, rfl⟩
          rw [← ewy] at HLS' HBY' ⊢
          clear ewy wy'
          have HLS := HLS'; have HBY := HBY'
          have HSY := Lib.hid (HST.out.same HBY.out)
          clear HLS' HBY'
          obtain ⟨z, hz⟩ := end_cell HSY.out.ends HLT.out
          obtain ⟨r, c, hrw, hrc, hri⟩ := HLS.out.row (k := 5) (by decide)
          replace hrw : wy.cell? ⟨g, 35, none⟩ = some (.slice (some ⟨r, 0, none⟩) 2 c) := hrw
          replace hrc : 2 ≤ c := hrc
          have HRI := Lib.hid hri
          have HNG := Lib.hid (show r ≠ g from by
            obtain ⟨_, vs, hv, _⟩ := HLS.out
            exact hri.ne hv)
          obtain ⟨zz, hc⟩ := hri.cell (j := 0) (by unfold mm; decide)
          have ff := hri.free 0
          have i1 : (n : Int) < 17 := by have := HLT.out; omega
          clear hri
          go_upto_region 17 with fail
          refine Rb.wp_region_quiet_tail 10 (by kernel_rfl) (by kernel_rfl) ?_
          simp only [List.take_succ_cons, List.take_zero, List.drop_succ_cons, List.drop_zero]
          repeat (go_big_quiet_step (fail))
          refine wpQuiet_nil ?_
          rintro _ ⟨kk, rfl⟩
          go_upto_region 18 with fail
          obtain ⟨wy', hwy⟩ : ∃ W, W = (wy.drewN kk).setCell ⟨r, 0, none⟩ (.int .i64 z) := ⟨_, rfl⟩
          rw [← hwy]
          have hdr : Below wy.heap.size wy (wy.drewN kk) := below_dr (Below.refl _ _) kk
          have HLS' := Lib.hid (show Ls wy' w4.heap.size g 2 by rw [hwy]; exact (HLS.out.same hdr).setR HNG.out z)
          have HBY' := Lib.hid (show Below w4.heap.size w4 wy' by rw [hwy]; exact (HBY.out.trans (hdr.mono HBY.out.size)).setCell (show w4.heap.size ≤ r from HRI.out.1) _)
          clear hwy hz hc ff hrw hrc HRI HNG hdr HLS HBY HSY
          obtain ⟨wy, ewy⟩ : ∃ W, W = wy' := ⟨_, rfl⟩
          rw [← ewy] at HLS' HBY' ⊢
          clear ewy wy'
          have HLS := HLS'; have HBY := HBY'
          have HSY := Lib.hid (HST.out.same HBY.out)
          clear HLS' HBY'
          obtain ⟨z, hz⟩ := end_cell HSY.out.ends HLT.out
          obtain ⟨r, c, hrw, hrc, hri⟩ := HLS.out.row (k := 6) (by decide)
          replace hrw : wy.cell? ⟨g, 41, none⟩ = some (.slice (some ⟨r, 0, none⟩) 2 c) := hrw
          replace hrc : 2 ≤ c := hrc
          have HRI := Lib.hid hri
          have HNG := Lib.hid (show r ≠ g from by
            obtain ⟨_, vs, hv, _⟩ := HLS.out
            exact hri.ne hv)
          obtain ⟨zz, hc⟩ := hri.cell (j := 2) (by unfold mm; decide)
          have ff := hri.free 2
          have i1 : (n : Int) < 17 := by have := HLT.out; omega
          clear hri
          go_upto_region 18 with fail
          refine Rb.wp_region_quiet_tail 10 (by kernel_rfl) (by kernel_rfl) ?_
          simp only [List.take_succ_cons, List.take_zero, List.drop_succ_cons, List.drop_zero]
          repeat (go_big_quiet_step (fail))
          refine wpQuiet_nil ?_
          rintro _ ⟨kk, rfl⟩
          go_upto_region 19 with fail
          obtain ⟨wy', hwy⟩ : ∃ W, W = (wy.drewN kk).setCell ⟨r, 2, none⟩ (.int .i64 z) := ⟨_, rfl⟩
          rw [← hwy]
          have hdr : Below wy.heap.size wy (wy.drewN kk) := below_dr (Below.refl _ _) kk
          have HLS' := Lib.hid (show Ls wy' w4.heap.size g 2 by rw [hwy]; exact (HLS.out.same hdr).setR HNG.out z)
          have HBY' := Lib.hid (show Below w4.heap.size w4 wy' by rw [hwy]; exact (HBY.out.trans (hdr.mono HBY.out.size)).setCell (show w4.heap.size ≤ r from HRI.out.1) _)
          clear hwy hz hc ff hrw hrc HRI HNG hdr HLS HBY HSY
          obtain ⟨wy, ewy⟩ : ∃ W, W = wy' := ⟨_, rfl⟩
          rw [← ewy] at HLS' HBY' ⊢
          clear ewy wy'
          have HLS := HLS'; have HBY := HBY'
          have HSY := Lib.hid (HST.out.same HBY.out)
          clear HLS' HBY'
          obtain ⟨z, hz⟩ := end_cell HSY.out.ends HLT.out
          obtain ⟨r, c, hrw, hrc, hri⟩ := HLS.out.row (k := 7) (by decide)
          replace hrw : wy.cell? ⟨g, 47, none⟩ = some (.slice (some ⟨r, 0, none⟩) 2 c) := hrw
          replace hrc : 2 ≤ c := hrc
          have HRI := Lib.hid hri
          have HNG := Lib.hid (show r ≠ g from by
            obtain ⟨_, vs, hv, _⟩ := HLS.out
            exact hri.ne hv)
          obtain ⟨zz, hc⟩ := hri.cell (j := 1) (by unfold mm; decide)
          have ff := hri.free 1
          have i1 : (n : Int) < 17 := by have := HLT.out; omega
          clear hri
          go_upto_region 19 with fail
          refine Rb.wp_region_quiet_tail 10 (by kernel_rfl) (by kernel_rfl) ?_
          simp only [List.take_succ_cons, List.take_zero, List.drop_succ_cons, List.drop_zero]
          repeat (go_big_quiet_step (fail))
          refine wpQuiet_nil ?_
          rintro _ ⟨kk, rfl⟩
          go_upto_region 20 with fail
          obtain ⟨wy', hwy⟩ : ∃ W, W = (wy.drewN kk).setCell ⟨r, 1, none⟩ (.int .i64 z) := ⟨_, rfl⟩
          rw [← hwy]
          have hdr : Below wy.heap.size wy (wy.drewN kk) := below_dr (Below.refl _ _) kk
          have HLS' := Lib.hid (show Ls wy' w4.heap.size g 2 by rw [hwy]; exact (HLS.out.same hdr).setR HNG.out z)
          have HBY' := Lib.hid (show Below w4.heap.size w4 wy' by rw [hwy]; exact (HBY.out.trans (hdr.mono HBY.out.size)).setCell (show w4.heap.size ≤ r from HRI.out.1) _)
          clear hwy hz hc ff hrw hrc HRI HNG hdr HLS HBY HSY
          obtain ⟨wy, ewy⟩ : ∃ W, W = wy' := ⟨_, rfl⟩
          rw [← ewy] at HLS' HBY' ⊢
          clear ewy wy'
          have HLS := HLS'; have HBY := HBY'
          have HSY := Lib.hid (HST.out.same HBY.out)
          clear HLS' HBY'
          obtain ⟨z, hz⟩ := end_cell HSY.out.ends HLT.out
          obtain ⟨mN, hmN⟩ : ∃ mN : Nat, max (min z 12) 0 = (mN : Int) := ⟨(max (min z 12) 0).toNat, by omega⟩
          have hm12 : mN ≤ 12 := by omega
          have hmk := hmkR mN (by omega)
          have i1 : (n : Int) < 17 := by have := HLT.out; omega
          have hal : Below wy.heap.size wy (wy.alloc (.cells (madeCells #[.int .i64 0, .int .i64 0] (mN * 2)) 24)) := (Below.refl _ _).alloc (Nat.le_refl _) _
          have hLA := HLS.out.same hal
          obtain ⟨r8, c8, hrw, _, _⟩ := hLA.row (k := 8) (by decide)
          replace hrw : (wy.alloc (.cells (madeCells #[.int .i64 0, .int .i64 0] (mN * 2)) 24)).cell? ⟨g, 53, none⟩ = some (.slice (some ⟨r8, 0, none⟩) (mm 2 8) c8) := hrw
          have ff := hLA.free 53
          have HRA := Lib.hid (ri_made wy mN (show w4.heap.size ≤ wy.heap.size from HBY.out.size))
          have HLA := Lib.hid hLA; have HAL := Lib.hid hal
          clear hLA hal
          go_upto_region 21 with fail
          obtain ⟨wy', hwy⟩ : ∃ W, W = (wy.alloc (.cells (madeCells #[.int .i64 0, .int .i64 0] (mN * 2)) 24)).setCell ⟨g, 53, none⟩ (.slice (some ⟨wy.heap.size, 0, none⟩) mN mN) := ⟨_, rfl⟩
          rw [← hwy]
          have HLS' := Lib.hid (show Ls wy' w4.heap.size g mN by rw [hwy]; exact HLA.out.setS HRA.out (Nat.le_refl _))
          have HBY' := Lib.hid (show Below w4.heap.size w4 wy' by rw [hwy]; exact (HBY.out.trans (HAL.out.mono HBY.out.size)).setCell (show w4.heap.size ≤ g from HLS.out.1) _)
          have HMN := Lib.hid hm12
          have HSY' := Lib.hid (HST.out.same HBY'.out)
          clear hwy hz hrw ff HRA HLA HAL HLS HBY HSY hmN hmk hm12 i1
          go_wp2_with fail
          go_loopw [7] (fun i wr => ∃ (k : Nat) (W : World), W = wr ∧ k ≤ 9 ∧ i = .int .i64 (k : Nat) ∧ Below wy'.heap.size wy' wr) (fun i _ => 9 - (intOf i).toNat)
          case atStart => exact ⟨0, _, rfl, by omega, rfl, Below.refl _ _⟩
          case round =>
            obtain ⟨k, wv, rfl, hk, rfl, hBv⟩ := hrel
            have HBV := Lib.hid hBv
            clear hBv
            by_cases hk9 : k < 9
            · have i2 : (k : Int) < 9 := by omega
              have HK9 := Lib.hid hk9
              have HLV := Lib.hid (HLS'.out.same HBV.out)
              have HSV := Lib.hid (HSY'.out.same HBV.out)
              obtain ⟨x, rx, cx, hxm, hxc, hxT, e0, e1, e2, e3, e4, e5⟩ := HLV.out.head hk9
              have hxm12 : x.m ≤ 12 := by rw [hxm]; unfold mm; have := HMN.out; split <;> omega
              have HXT := Lib.hid hxT; have HXC := Lib.hid hxc
              obtain ⟨n6, hn6⟩ : ∃ n6 : Nat, (n : Int).tmod 6 = (n6 : Int) := ⟨n % 6, rfl⟩
              have h6 : n6 ≤ 5 := by
                have h := Int.tmod_lt_of_pos (n : Int) (show (0 : Int) < 6 by decide)
                omega
              have hsl := slice_h (some ⟨gb, 0, none⟩) 5 5 n6 h6
              have HP1 := Lib.hid (fun W (hW : Below wv.heap.size wv W) => headPuts_any x gH (some ⟨rx, 0, none⟩) (some ⟨wr0, 0, none⟩) cx 2 (by omega) (by decide) (some ⟨gb, 0, none⟩) 5 5 (fun i => gB.getD i 0) (by decide) (fun e => by cases e) (fun e => by cases e) HXC.out (by decide) W (HXT.out.same hW) (HSV.out.rows.same hW) (HSV.out.body.same hW))
              have HP2 := Lib.hid (fun W (hW : Below wv.heap.size wv W) => headPuts_any gH x (some ⟨wr0, 0, none⟩) (some ⟨rx, 0, none⟩) 2 cx (by decide) (by omega) (some ⟨gb, 0, none⟩) n6 5 _ (by omega) (fun e => by cases e) (fun e => by cases e) (by decide) HXC.out W (HSV.out.rows.same hW) (HXT.out.same hW) (sl_cutH (HSV.out.body.same hW) h6))
              unfold hV at HP1 HP2
              clear hxm hxc hxT
              obtain ⟨c0, c1, c2, c3, c4, c5⟩ := HSV.out.good.c
              have yc0 := fun d os => cell_regrown c0 d os
              have ye0 := fun d os => cell_regrown e0 d os
              have yc1 := fun d os => cell_regrown c1 d os
              have ye1 := fun d os => cell_regrown e1 d os
              have yc2 := fun d os => cell_regrown c2 d os
              have ye2 := fun d os => cell_regrown e2 d os
              have yc3 := fun d os => cell_regrown c3 d os
              have ye3 := fun d os => cell_regrown e3 d os
              have yc4 := fun d os => cell_regrown c4 d os
              have ye4 := fun d os => cell_regrown e4 d os
              have yc5 := fun d os => cell_regrown c5 d os
              have ye5 := fun d os => cell_regrown e5 d os
              go_upto_region 24 with fail
              refine wp_region_quiet_below (by kernel_rfl) (by kernel_rfl) ?_
              repeat (go_big_quiet_step ((go_at_call 5; first
                | (with_reducible exact Calls.regrown_of (HP1.out _ (below_regrown _ _ _)))
                | (with_reducible exact Calls.regrown_of (HP2.out _ (below_regrown _ _ _))))))
              refine wpQuiet_nil ?_
              rintro W1 ⟨pq, hW1⟩
              have hB1 : Below wv.heap.size wv W1 := by rw [hW1]; exact below_regrown _ _ _
              have HB1 := Lib.hid (HBV.out.trans (hB1.mono HBV.out.size))
              clear hW1 hB1 HP1 HP2 HSV HLV HXT HXC hsl hn6 h6 hxm12 yc0 ye0 c0 e0 yc1 ye1 c1 e1 yc2 ye2 c2 e2 yc3 ye3 c3 e3 yc4 ye4 c4 e4 yc5 ye5 c5 e5
              have hk9 := HK9.out
              go_wp2
              go_roundw
              case rel => exact ⟨k + 1, _, rfl, by omega, by go_num, HB1.out⟩
              case measure => simp [intOf]; omega
            · obtain rfl : k = 9 := by omega
              have i2 : ¬ ((9 : Nat) : Int) < 9 := by omega
              have HBW := Lib.hid (HBY'.out.trans (HBV.out.mono HBY'.out.size))
              clear HBV
              have hlt17 := HLT.out
              go_wp2
              go_roundw
              case rel => exact ⟨n + 1, _, rfl, by omega, by go_num, HBW.out⟩
              case measure => simp [intOf]; omega
    · obtain rfl : n = 17 := by omega
      have i1 : ¬ ((17 : Nat) : Int) < 17 := by omega
      go_upto_region 26 with fail
      have HSX := Lib.hid (HST.out.same HBX.out)
      clear HST HBX
      have HRP := Lib.hid (rput_any gH (some ⟨wr0, 0, none⟩) (some ⟨gb, 0, none⟩) 2 5 5 (fun i => gB.getD i 0) (by decide) (by decide) wx HSX.out.rows HSX.out.body)
      unfold hV at HRP
      obtain ⟨c0, c1, c2, c3, c4, c5⟩ := HSX.out.good.c
      go_wp2_with fail
      clear c0 c1 c2 c3 c4 c5
      refine HRP.out.mono ?_
      rintro e wb ⟨hput, hBb⟩
      have HSB := Lib.hid (HSX.out.same hBb)
      clear hBb HRP HSX
      rcases hput with ⟨hq1, hq2, pa, pc, he, hN⟩ | ⟨hno, _⟩
      rotate_left
      · exact absurd ⟨gH_right, gH_off.symm⟩ hno
      obtain rfl : e = .returned (.tuple #[.slice pa 29 pc, .int .i64 0]) := he
      obtain ⟨F, hF⟩ : ∃ F, F = Crc.sealed (pl gH fun i => gB.getD i 0) 25 := ⟨_, rfl⟩
      have HSP := Lib.hid (show Sl wb pa 29 pc F by rw [hF]; exact hN.sl)
      have HPC := Lib.hid (show 29 ≤ pc from HSP.out.capOk)
      have HPM := Lib.hid (show pc ≤ maxLen from HSP.out.maxOk)
      clear hq1 hq2 hN hF
      have hsl : ∀ W, (Instr.slice 28 (.slice pa 29 pc) none (some (.int .i64 25)) none).run Tryz.prog W = .ok (.slice pa 25 pc) W := fun W => slice_h pa 29 pc 25 (by have := HPC.out; omega) W
      go_upto_region 28 with fail
      clear hsl
      go_wp2_with fail
      go_loopw [11] (fun i wr => ∃ (n : Nat) (W : World), W = wr ∧ n ≤ 26 ∧ i = .int .i64 (n : Nat) ∧ Below wb.heap.size wb wr) (fun i _ => 26 - (intOf i).toNat)
      case atStart => exact ⟨0, _, rfl, by omega, rfl, Below.refl _ _⟩
      case round =>
        obtain ⟨n, wx, rfl, hn, rfl, hBx⟩ := hrel
        have HBX := Lib.hid hBx
        clear hBx
        by_cases hlt : n ≤ 25
        · have i1 : (n : Int) ≤ 25 := by omega
          have HLT := Lib.hid hlt
          have hsl := slice_h pa 25 pc n (by have := HPC.out; omega)
          go_wp2_with fail
          clear hsl
          refine (headParses_any pa n pc _ wx (sl_cutH (HSP.out.same HBX.out) (show n ≤ 29 by omega))).mono ?_
          rintro e wy ⟨rfl, hBy⟩
          have HBY := Lib.hid (HBX.out.trans (hBy.mono HBX.out.size))
          clear hBy HBX
          go_wp2_with fail
          go_loopw [12] (fun i wr => ∃ (k : Nat) (W : World), W = wr ∧ k ≤ 8 ∧ i = .int .i64 (k : Nat) ∧ Below wb.heap.size wb wr) (fun i _ => 8 - (intOf i).toNat)
          case atStart => exact ⟨0, _, rfl, by omega, rfl, HBY.out⟩
          case round =>
            obtain ⟨k, wv, rfl, hk, rfl, hBv⟩ := hrel
            have HBV := Lib.hid hBv
            clear hBv
            by_cases hgo : k < 8 ∧ n < 25
            · have d1 : decide ((k : Int) < 8) = true := by simp; omega
              have d2 : (n : Int) < 25 := by omega
              have d3 : (k : Int) < 8 := by omega
              have HGO := Lib.hid hgo
              have HAL := Lib.hid (show Below wv.heap.size wv (wv.alloc (.cells #[] 5)) from (Below.refl _ _).alloc (Nat.le_refl _) _)
              have HSC := Lib.hid (show Sl (wv.alloc (.cells #[] 5)) pa 25 pc (sub F 0 25) from (sl_cutH (HSP.out.same HBV.out) (by decide)).same HAL.out)
              go_upto_region 37 with (at_builtin; refine wpList_app rfl _ _ rfl wv.heap.size 0 25 pc (sub F 0 25) (sub F 0 25) (.slice (some ⟨wv.heap.size, 0, none⟩) 0 0) rfl (World.ownsRow_made wv #[] 0 (Nat.le_refl _) (by unfold maxLen; omega) rfl) pa rfl HSC.out (fun j hj => by rw [Nat.zero_add]) (by omega) HAL.out.size ?_; intro ta tc w8 hown8 hg8; rw [Nat.zero_add] at hown8; have HO8 := Lib.hid hown8; have HG8 := Lib.hid hg8; clear hown8 hg8)
              have hFb : Pf.By (sub F 0 25) := sub_by HSP.out.bytes 0 25
              obtain ⟨ta', tc', hv', hN8⟩ := owns_new HO8.out hFb (sub_up F 0 25)
              simp only [Value.slice.injEq, true_and] at hv'
              obtain ⟨rfl, rfl⟩ := hv'
              have hB8 : Below wb.heap.size wb w8 := HBV.out.trans ((HAL.out.trans ((Below.refl wv.heap.size _).grown HG8.out HAL.out.size (fun r e => by cases e; exact Nat.le_refl _))).mono HBV.out.size)
              rcases hN8.cond with ⟨_, h0, _⟩ | ⟨q, rfl, hq, hbl⟩
              · omega
              have htc : 25 ≤ tc ∧ tc ≤ maxLen := ⟨hN8.sl.capOk, hN8.sl.maxOk⟩
              have hb9 : Below w8.heap.size w8 (w8.alloc (.cells #[.int .u8 0, .int .u8 1, .int .u8 2, .int .u8 3, .int .u8 4, .int .u8 9, .int .u8 128, .int .u8 255] 5)) := (Below.refl _ _).alloc (Nat.le_refl _) _
              have hl9 := sl_lit w8 [0, 1, 2, 3, 4, 9, 128, 255] (by decide) (by decide)
              obtain ⟨v, hv⟩ : ∃ v, v = [0, 1, 2, 3, 4, 9, 128, 255].getD k 0 := ⟨_, rfl⟩
              have hvb : v < 256 := by rw [hv]; exact hl9.bytes k
              have cl : (w8.alloc (.cells #[.int .u8 0, .int .u8 1, .int .u8 2, .int .u8 3, .int .u8 4, .int .u8 9, .int .u8 128, .int .u8 255] 5)).cell? ⟨w8.heap.size, k, none⟩ = some (.int .u8 (v : Nat)) := by
                have h := hl9.cell _ rfl k (by show k < 8; omega)
                rw [hv]
                simpa using h
              have hb9' : Bl (w8.alloc (.cells #[.int .u8 0, .int .u8 1, .int .u8 2, .int .u8 3, .int .u8 4, .int .u8 9, .int .u8 128, .int .u8 255] 5)) q 25 tc (sub F 0 25) := hbl.kept (hb9.block q hbl.lt)
              have HBL := Lib.hid hb9'
              have cq := hb9'.cell (i := n) (by omega)
              have fq := hb9'.free n
              have HB8 := Lib.hid hB8; have HB9 := Lib.hid hb9; have HTC := Lib.hid htc; have HVB := Lib.hid hvb; have HFB := Lib.hid hFb
              have HQB := Lib.hid (show wb.heap.size ≤ q from Nat.le_trans HBV.out.size hq)
              clear hv hl9 hb9' hb9 hB8 hN8 hbl htc hvb hFb HO8 HG8 HSC HAL hq
              go_upto_region 38 with fail
              obtain ⟨wA, hwA⟩ : ∃ W, W = (w8.alloc (.cells #[.int .u8 0, .int .u8 1, .int .u8 2, .int .u8 3, .int .u8 4, .int .u8 9, .int .u8 128, .int .u8 255] 5)).setCell ⟨q, n, none⟩ (.int .u8 (v : Nat)) := ⟨_, rfl⟩
              rw [← hwA]
              have HBA := Lib.hid (show Below wb.heap.size wb wA by rw [hwA]; exact (HB8.out.trans (HB9.out.mono HB8.out.size)).setCell (show wb.heap.size ≤ q from HQB.out) _)
              have HSA := Lib.hid (show ∃ G, Sl wA (some ⟨q, 0, none⟩) 25 tc G from ⟨fun j => if j = n then v else sub F 0 25 j, by
                rw [hwA]
                refine (HBL.out.set (show n < 25 by have := HGO.out.2; omega) v).sl HTC.out.1 HTC.out.2 (fun j => ?_) (fun j hj => ?_)
                · show (if _ then _ else _) < 256
                  split
                  · exact HVB.out
                  · exact HFB.out j
                · show (if _ then _ else _) = 0
                  rw [if_neg (by have := HGO.out.2; omega)]
                  exact sub_up F 0 25 j hj⟩)
              obtain ⟨G, hsG⟩ := HSA.out
              have HSG := Lib.hid hsG
              clear hwA hsG HSA HBL cl cq fq HB8 HB9
              go_wp2_with fail
              refine (headParses_any (some ⟨q, 0, none⟩) 25 tc G wA HSG.out).mono ?_
              rintro e wC ⟨rfl, hBC⟩
              have HBC := Lib.hid (HBA.out.trans (hBC.mono HBA.out.size))
              clear hBC HBA HSG
              have hk8 := HGO.out.1
              go_wp2
              go_roundw
              case rel => exact ⟨k + 1, _, rfl, by omega, by go_num, HBC.out⟩
              case measure => simp [intOf]; omega
            · by_cases hk8 : k < 8
              · have d3 : (k : Int) < 8 := by omega
                have d2 : ¬ (n : Int) < 25 := by omega
                have hlt := HLT.out
                clear hgo
                go_wp2
                go_roundw
                case rel => exact ⟨n + 1, _, rfl, by omega, by go_num, HBV.out⟩
                case measure => simp [intOf]; omega
              · have d3 : ¬ (k : Int) < 8 := by omega
                have hlt := HLT.out
                clear hgo
                go_wp2
                go_roundw
                case rel => exact ⟨n + 1, _, rfl, by omega, by go_num, HBV.out⟩
                case measure => simp [intOf]; omega
        · obtain rfl : n = 26 := by omega
          have i1 : ¬ ((26 : Nat) : Int) ≤ 25 := by omega
          go_upto_region 40 with fail
          have hmk8 : ∀ W : World, (Instr.makeSlice 25 (.int .i64 8) (.int .i64 8)).run Tryz.prog W = .ok (.slice (some ⟨W.heap.size, 0, none⟩) 8 8) (W.alloc (.cells (madeCells #[.int .i64 0, .int .i64 0] 16) 24)) := fun W => hmkR 8 (by omega) W
          go_upto_region 41 with fail
          obtain ⟨w5, hw5⟩ : ∃ W, W = wx.alloc (.cells (madeCells #[.int .i64 0, .int .i64 0] 16) 24) := ⟨_, rfl⟩
          rw [← hw5]
          have hb5 : Below wx.heap.size wx w5 := by rw [hw5]; exact (Below.refl _ _).alloc (Nat.le_refl _) _
          have hr5 : Ri w5 wb.heap.size wx.heap.size 8 := by rw [hw5]; exact ri_made wx 8 HBX.out.size
          have hz5 : w5.heap.size = wx.heap.size + 1 := by rw [hw5, World.size_alloc]
          obtain ⟨r8, hr8⟩ : ∃ r8, r8 = wx.heap.size := ⟨_, rfl⟩
          rw [← hr8] at hr5 hz5 ⊢
          obtain ⟨w6, hw6⟩ : ∃ W, W = w5.alloc (.cells #[.int .i64 0, .int .i64 1, .int .i64 254, .int .i64 255, .int .i64 0, .slice (some ⟨r8, 0, none⟩) 8 8] 27) := ⟨_, rfl⟩
          rw [← hw6]
          have hb6 : Below w5.heap.size w5 w6 := by rw [hw6]; exact (Below.refl _ _).alloc (Nat.le_refl _) _
          have HE6 := Lib.hid (show HAt w6 (r8 + 1) eH (some ⟨r8, 0, none⟩) 8 by rw [← hz5, hw6]; exact heap_alloc_new _ _)
          have HR6 := Lib.hid (hr5.kept (hb6.block r8 hr5.lt))
          have HB6 := Lib.hid (HBX.out.trans ((hb5.trans (hb6.mono hb5.size)).mono HBX.out.size))
          obtain ⟨g14, hg14⟩ : ∃ g, g = r8 + 1 := ⟨_, rfl⟩
          rw [← hg14] at HE6 ⊢
          clear hw5 hw6 hb5 hb6 hr5 hz5 hr8 hg14 hmk8 HBX
          go_wp2_with fail
          go_loopw [15] (fun i wr => ∃ (k : Nat) (W : World), W = wr ∧ k ≤ 8 ∧ i = .int .i64 (k : Nat) ∧ HAt wr g14 eH (some ⟨r8, 0, none⟩) 8 ∧ Ri wr wb.heap.size r8 8 ∧ Below wb.heap.size wb wr) (fun i _ => 8 - (intOf i).toNat)
          case atStart => exact ⟨0, _, rfl, by omega, rfl, HE6.out, HR6.out, HB6.out⟩
          case round =>
            obtain ⟨k, wv, rfl, hk, rfl, hE, hR, hBv⟩ := hrel
            have HEV := Lib.hid hE; have HRV := Lib.hid hR; have HBV := Lib.hid hBv
            clear hE hR hBv HE6 HR6 HB6
            by_cases hk8 : k < 8
            · have i2 : (k : Int) < 8 := by omega
              have HK8 := Lib.hid hk8
              obtain ⟨c0, c1, c2, c3, c4, c5⟩ := HEV.out.c
              replace c5 : wv.cell? ⟨g14, 5, none⟩ = some (.slice (some ⟨r8, 0, none⟩) 8 8) := c5
              obtain ⟨zz, hc⟩ := HRV.out.cell (j := k * 2) (by omega)
              have ff := HRV.out.free (k * 2)
              have u1 : 30 * (k : Int) ≤ 1000 := by omega
              go_upto_region 43 with fail
              obtain ⟨wy, hwy⟩ : ∃ W, W = wv.setCell ⟨r8, k * 2, none⟩ (.int .i64 (1 + 30 * (k : Int))) := ⟨_, rfl⟩
              rw [← hwy]
              have HNE := Lib.hid (show r8 ≠ g14 from HRV.out.ne HEV.out)
              have HEY := Lib.hid (show HAt wy g14 eH (some ⟨r8, 0, none⟩) 8 from HEV.out.oth (by rw [hwy]; exact heap_setCell_other _ _ _ _ (Ne.symm HNE.out)))
              have HRY := Lib.hid (show Ri wy wb.heap.size r8 8 by rw [hwy]; exact HRV.out.set)
              have HBY := Lib.hid (show Below wb.heap.size wb wy by rw [hwy]; exact HBV.out.setCell (show wb.heap.size ≤ r8 from HRV.out.1) _)
              clear hwy c0 c1 c2 c3 c4 c5 hc ff u1 HEV HRV HBV
              go_wp2
              go_roundw
              case rel => exact ⟨k + 1, _, rfl, by omega, by go_num, HEY.out, HRY.out, HBY.out⟩
              case measure => simp [intOf]; omega
            · obtain rfl : k = 8 := by omega
              have i2 : ¬ ((8 : Nat) : Int) < 8 := by omega
              obtain ⟨K, L, hKL⟩ := HRV.out.tb
              have HSV := Lib.hid (HSB.out.same HBV.out)
              have HPU := Lib.hid (headPuts_any ⟨0, 1, 254, 255, 0, 8, K, L⟩ gH (some ⟨r8, 0, none⟩) (some ⟨wr0, 0, none⟩) 8 2 (by show (8 : Nat) ≤ 8796093022208; omega) (by decide) none 0 0 (fun _ => 0) (by decide) (fun e => by cases e) (fun e => by cases e) (by show (8 : Nat) ≤ 8; omega) (by decide) wv hKL HSV.out.rows (Sl.none_ _ none 0 (Nat.zero_le _) (fun _ => rfl)))
              unfold hV at HPU
              obtain ⟨c0, c1, c2, c3, c4, c5⟩ := HEV.out.c
              obtain ⟨d0, d1, d2, d3, d4, d5⟩ := HSV.out.good.c
              go_wp2_with fail
              clear c0 c1 c2 c3 c4 c5 d0 d1 d2 d3 d4 d5
              refine HPU.out.mono ?_
              rintro e wy ⟨rfl, hBy⟩
              have HBY := Lib.hid (HBV.out.trans (hBy.mono HBV.out.size))
              clear hBy HPU hKL HEV HRV HBV HSV
              obtain ⟨F25, hF25⟩ : ∃ F25, F25 = sub F 0 25 := ⟨_, rfl⟩
              have HFB := Lib.hid (show Pf.By F25 by rw [hF25]; exact sub_by HSP.out.bytes 0 25)
              have HFU := Lib.hid (show Pf.Up F25 25 by rw [hF25]; exact sub_up F 0 25)
              have HA1 := Lib.hid (show Below wy.heap.size wy (wy.alloc (.cells #[] 5)) from (Below.refl _ _).alloc (Nat.le_refl _) _)
              have HSC := Lib.hid (show Sl (wy.alloc (.cells #[] 5)) pa 25 pc F25 from by rw [hF25]; exact (sl_cutH (HSP.out.same HBY.out) (by decide)).same HA1.out)
              obtain ⟨qp, rfl⟩ : ∃ qp, pa = some qp := by
                cases pa with
                | none => exact absurd (HSP.out.nil rfl).1 (by decide)
                | some qp => exact ⟨qp, rfl⟩
              have HPS := Lib.hid (HSP.out.same HBY.out)
              clear hF25 HSP
              go_wp2_with (first
                | (show wpList _ _ _ (⟨some 202, _, _, _, _, _⟩ :: _) _ _; refine wpList_app_g rfl _ _ rfl wy.heap.size (some ⟨wy.heap.size, 0, none⟩) 0 0 F25 rfl (World.ownsRow_made wy #[] 0 (Nat.le_refl _) (by unfold maxLen; omega) rfl) qp 25 pc F25 rfl HSC.out (fun j hj => by rw [Nat.zero_add]) (by omega) (by omega) HA1.out.size ?_; intro q1 k1 w7 hown7 hB7; rw [Nat.zero_add] at hown7; have HO7 := Lib.hid hown7; have HB7 := Lib.hid hB7; have HA2 := Lib.hid (show Below w7.heap.size w7 (w7.alloc (.cells #[.int .u8 0] 5)) from (Below.refl _ _).alloc (Nat.le_refl _) _); have HO7' := Lib.hid (own_be HO7.out HA2.out); have HSZ7 := Lib.hid (show wy.heap.size ≤ (w7.alloc (.cells #[.int .u8 0] 5)).heap.size from Nat.le_trans (Nat.le_trans HA1.out.size HB7.out.size) HA2.out.size); have HS0 := Lib.hid (sl_lit w7 [0] (by decide) (by decide)); clear hown7 hB7)
                | (show wpList _ _ _ (⟨some 204, _, _, _, _, _⟩ :: _) _ _; refine wpList_app_g rfl _ _ rfl wy.heap.size (some ⟨q1, 0, none⟩) 25 k1 F25 rfl HO7'.out ⟨w7.heap.size, 0, none⟩ 1 1 (fun i => [0].getD i 0) rfl HS0.out (fun j hj => app0 HFU.out hj) (by omega) (by omega) HSZ7.out ?_; intro q2 k2 w8 hown8 hB8; have HO8 := Lib.hid hown8; have HB8 := Lib.hid hB8; clear hown8 hB8))
              obtain ⟨a8, c8, hv8, hN8⟩ := owns_new HO8.out HFB.out (fun j hj => HFU.out j (by omega))
              simp only [Value.slice.injEq, true_and] at hv8
              obtain ⟨rfl, rfl⟩ := hv8
              have HS8 := Lib.hid hN8.sl
              have hB8w : Below wy.heap.size wy w8 := (((HA1.out.trans (HB7.out)).trans (HA2.out.mono (Nat.le_trans HA1.out.size HB7.out.size))).trans HB8.out)
              have HBW8 := Lib.hid (HBY.out.trans (hB8w.mono HBY.out.size))
              have HPS8 := Lib.hid (HPS.out.same hB8w)
              clear hN8 hB8w HO8 HB8 HS0 HSZ7 HO7' HA2 HB7 HO7 HSC HA1 HPS HBY
              refine (headParses_any (some ⟨q2, 0, none⟩) 26 k2 F25 w8 HS8.out).mono ?_
              rintro e w9 ⟨rfl, hB9⟩
              have HPS9 := Lib.hid (HPS8.out.same hB9)
              have HBW9 := Lib.hid (HBW8.out.trans (hB9.mono HBW8.out.size))
              clear hB9 HPS8 HBW8 HS8
              have hsl : ∀ W, (Instr.slice 28 (.slice (some qp) 29 pc) (some (.int .i64 1)) none none).run Tryz.prog W = .ok (.slice (cutA (some qp) 1 pc) 28 (pc - 1)) W := fun W => slice_l (some qp) 29 pc 1 (by decide) W
              go_wp2_with fail
              clear hsl
              refine (headParses_any (cutA (some qp) 1 pc) 28 (pc - 1) _ w9 (sl_cutA (l := 1) (m := 28) HPS9.out (by decide))).mono ?_
              rintro e wA ⟨rfl, hBA⟩
              have HPSA := Lib.hid (HPS9.out.same hBA)
              have HBWA := Lib.hid (HBW9.out.trans (hBA.mono HBW9.out.size))
              clear hBA HPS9 HBW9
              go_wp2_with fail
              refine (parses_any (some qp) 29 pc F (by decide) wA HPSA.out).mono ?_
              rintro e wB ⟨rfl, hBB⟩
              have HBWB := Lib.hid (HBWA.out.trans (hBB.mono HBWA.out.size))
              clear hBB HPSA HBWA
              go_wp2_with fail
              refine (awake14_any wB).mono ?_
              rintro e wC ⟨rfl, hBC⟩
              have HBWC := Lib.hid (HSB.out.be.trans ((HBWB.out.trans (hBC.mono HBWB.out.size)).mono HSB.out.be.size))
              clear hBC HBWB
              go_wp2
              go_ret
              exact ⟨rfl, HBWC.out⟩
end Go.Proofs.YtjlmajopfeplpaaGreat.He
