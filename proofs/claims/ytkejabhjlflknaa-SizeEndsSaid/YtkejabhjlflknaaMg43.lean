import Derived.Test.YtkejabhjlflknaaMg42
namespace Go.Proofs.Ytkejabhjlflknaa.Sz
open Go.RowKit Go.Shelf
open Go.Proofs.Ytkejabhjlflknaa.Ly (TabOk RowOk off off_le off_mono widI widE widI_le width_any lst Tb tdl tdl_tb step_apd int_ones cell_new2)
open Go.Proofs.Ytkejabhjlflknaa.Sp (Bad)
attribute [local go_sem] Oper.semAt_some

theorem share {X G : Prop} (f : G → X) (g : G) : X := f g
section
variable {Pg : Program}
/-- an append of all of a list, nil or not, as one step of a region. -/
theorem step_app_any {ops : Array Oper} {o : Oper} {act : Act} {w : World} {K : Act → World → Prop} {Q : Exit → Act → World → Prop} {E : Prop} (hgd : o.guard = none) (s x : Operand) (t : TypeId)
    (ho : o.op = .call { callee := .builtin .append, args := #[s, x], argTypes := #[t, t] })
    (base : Nat) (e : TypeId) (i : TypeInfo) (z : Value) (bytes : Nat) (ht : Pg.underlying t = some (.slice e)) (hi : Pg.info? e = some i) (hz : i.zero = some z)
    (hsize : i.size = 1) (hby : i.bytes = bytes) (hzs : z.cells.size = 1)
    (v : Value) (n : Nat) (xs : List Value) (hs : act.eval s = v) (hown : w.ownsRow base e 1 v n xs)
    (la : Option Addr) (m lc : Nat) (news : List Value) (hx : act.eval x = .slice la m lc) (hl : news.length = m) (hnil : la = none → m = 0 ∧ lc = 0)
    (hnews : ∀ ad, la = some ad → ∀ j u, news[j]? = some u → w.cell? (ad.add j) = some u) (h1 : ∀ u ∈ news, u.oneCell' = true)
    (h63 : n + m ≤ maxLen) (hbytes : (n + m) * bytes ≤ 140737488355328) (hbase : base ≤ w.heap.size)
    (h : ∀ v' w', w'.ownsRow base e 1 v' (n + m) (xs ++ news) → w.grownBy w' v.ownBlock → K (act.put o.dst v') w') :
    if Region.wanted o (yielded ops act.tmps) = true then Oper.wp Pg o act w K Q else E := by
  cases la with
  | none =>
    obtain ⟨rfl, rfl⟩ := hnil rfl
    have hn : news = [] := List.length_eq_zero_iff.1 hl
    subst hn
    have hw : Region.wanted o (yielded ops act.tmps) = true := by simp [Region.wanted, hgd]
    rw [if_pos hw]
    have hrun := run_append_owned_none (P := Pg) (w := w) base t o.type e i 1 ht hi v n xs hown
    unfold Oper.wp
    simp [execOp, ho, resolve, invoke, builtin, hs, hx, hrun, Result.andThen]
    refine h _ _ ?_ ⟨rfl, rfl, rfl, Nat.le_refl _, fun _ _ _ => rfl⟩
    rw [Nat.add_zero, List.append_nil]; exact hown
  | some ad => exact step_apd hgd s x t ho base e i z 1 bytes ht hi hz hsize hby hzs (by decide) v n xs hs hown ad m lc news hx (by omega) (hnews ad rfl) h1 h63 hbytes hbase h
end
theorem cell_blk1 {w : World} {g : Nat} {v : Value} {t : TypeId} (h : w.heap[g]? = some (.cells #[v] t (0, 0))) : ∀ j u, [v][j]? = some u → w.cell? ((⟨g, 0, none⟩ : Addr).add j) = some u := by
  intro j u hu
  have hj : j < 1 := by
    have := (List.getElem?_eq_some_iff.1 hu).1
    simpa using this
  obtain rfl : j = 0 := by omega
  rw [Addr.add_lit, cell_of_row w g _ _ _ _ h]
  simpa using hu
/-- the bounds in their box, all else as it was. -/
def Sb (w W : World) (N M B : Int) : Prop := W.heap[w.heap.size]? = some (.cells #[.int .i64 N, .int .i64 M, .int .i64 B] 34 (0, 0)) ∧ Below w.heap.size w W
theorem Sb.same {w W W' : World} {N M B : Int} (s : Sb w W N M B) (hB : Below W.heap.size W W') : Sb w W' N M B := ⟨(hB.block _ (Array.getElem?_eq_some_iff.1 s.1).1).trans s.1, s.2.trans (hB.mono s.2.size)⟩
theorem Sb.lt {w W : World} {N M B : Int} (s : Sb w W N M B) : w.heap.size < W.heap.size := (Array.getElem?_eq_some_iff.1 s.1).1
theorem Sb.grown {w W W' : World} {N M B : Int} {row : Option Nat} (s : Sb w W N M B) (hg : W.grownBy W' row) (hr : ∀ k, row = some k → w.heap.size < k) : Sb w W' N M B :=
  ⟨(hg.block _ s.lt (fun e => by have := hr _ e.symm; omega)).trans s.1, s.2.grown hg s.2.size (fun k e => Nat.le_of_lt (hr k e))⟩

theorem off_cong {K K' L : Nat → Int} : ∀ n, (∀ i, i < n → K i = K' i) → off K L n = off K' L n
  | 0, _ => rfl
  | n + 1, h => by
    show off K L n + widI (L n) (K n) = off K' L n + widI (L n) (K' n)
    rw [off_cong n (fun i hi => h i (by omega)), h n (by omega)]
theorem fit_cong {N M B : Int} {n : Nat} {K K' L : Nat → Int} (h : ∀ i, i < n → K i = K' i) (f : FitP N M B n K L) : FitP N M B n K' L := by
  refine ⟨f.1, ⟨f.2.1.1, f.2.1.2.1, f.2.1.2.2.1, f.2.1.2.2.2.1, fun i hi => ?_⟩, by rw [← off_cong n h]; exact f.2.2⟩
  have h1 := f.2.1.2.2.2.2 i hi
  unfold RowOk at h1 ⊢
  rw [← h i hi]
  exact ⟨h1.1, h1.2.1, h1.2.2.1, h1.2.2.2.1, fun h0 => by rw [← h (i - 1) (by omega)]; exact h1.2.2.2.2 h0⟩
theorem hi_own {w : World} {B n c : Nat} {a : Option Addr} {h : Nat → Int} (ho : w.ownsRow B 3 1 (.slice a n c) n (inh h n)) : Hi w a n c h := by
  have hc : n ≤ c ∧ c ≤ maxLen := Ly.hdl_cap ho
  have hs := inh_si ho
  refine ⟨hc.1, hc.2, fun e => ?_, fun ad e hne => ?_, fun ad e i hi => ?_⟩
  · rcases ho.2 with ⟨e1, _⟩ | ⟨g, cap, cur, e1, _⟩
    · simp only [Value.slice.injEq] at e1; exact ⟨e1.2.1, e1.2.2⟩
    · simp only [Value.slice.injEq] at e1; rw [e] at e1; cases e1.1
  · obtain ⟨b, o, e2, _⟩ := hs.cell 0 (by omega)
    rw [e] at e2; cases e2; rfl
  · obtain ⟨b, o, e2, hc2⟩ := hs.cell i hi
    rw [e] at e2; cases e2; exact hc2
/-- some thresholds fit that begin so. -/
def SomeP (N M B : Int) (n m : Nat) (K L : Nat → Int) : Prop := ∃ K' : Nat → Int, (∀ i, i < m → K' i = K i) ∧ FitP N M B n K' L
def SomeSays (N M B : Int) (n m : Nat) (K L : Nat → Int) (e : Ending) : Prop := ∃ v : Bool, e = .returned (.bool v) ∧ (v = true ↔ SomeP N M B n m K L)
def upd (K : Nat → Int) (m : Nat) (x : Int) (i : Nat) : Int := if i = m then x else K i
theorem inh_upd (K : Nat → Int) (m : Nat) (x : Int) : inh K m ++ [.int .i64 x] = inh (upd K m x) (m + 1) := by
  rw [inh_s]
  have h1 : upd K m x m = x := if_pos rfl
  rw [h1]
  congr 1
  unfold inh
  exact List.map_congr_left fun i hi => by
    have := List.mem_range.1 hi
    show Value.int .i64 (K i) = Value.int .i64 (if i = m then x else K i)
    rw [if_neg (by omega)]
theorem some_step {N M B : Int} {n m : Nat} {K L : Nat → Int} (hm : m < n) : SomeP N M B n m K L ↔ ∃ x, lst K m ≤ x ∧ x ≤ N ∧ SomeP N M B n (m + 1) (upd K m x) L := by
  constructor
  · rintro ⟨K', h1, h2⟩
    have hr := h2.2.1.2.2.2.2 m hm
    refine ⟨K' m, ?_, hr.2.1, K', fun i hi => ?_, h2⟩
    · cases m with
      | zero => exact hr.1
      | succ j =>
        show K j ≤ K' (j + 1)
        rw [← h1 j (by omega)]
        exact hr.2.2.2.2 (by omega)
    · unfold upd
      by_cases e : i = m
      · rw [if_pos e, e]
      · rw [if_neg e]; exact h1 i (by omega)
  · rintro ⟨x, _, _, K', h1, h2⟩
    exact ⟨K', fun i hi => by rw [h1 i (by omega)]; exact if_neg (by omega), h2⟩

set_option maxHeartbeats 8000000 in
set_option maxRecDepth 100000 in
theorem rsome_any (d : Nat) : ∀ (N M B : Int) (la ka : Option Addr) (n lc m kc : Nat) (K L : Nat → Int) (w : World), n = m + d → n ≤ 8 → 1 ≤ N → N ≤ 255 → (∀ i, i < m → 1 ≤ K i ∧ K i ≤ N) → Si w la n L → Hi w ka m kc K →
    Calls Try.prog 41 #[bV N M B, .slice la n lc, .slice ka m kc] w fun e w' => SomeSays N M B n m K L e ∧ Below w.heap.size w w' := by
  induction d with
  | zero =>
    intro N M B la ka n lc m kc K L w hnm hn8 hN1 hN2 hK1 hL hK
    obtain rfl : n = m := by omega
    clear hnm
    have hb0 := (Below.refl w.heap.size w).alloc (Nat.le_refl _) (.cells #[.int .i64 N, .int .i64 M, .int .i64 B] 34)
    have HS0 := Lib.hid (show Sb w (w.alloc (.cells #[.int .i64 N, .int .i64 M, .int .i64 B] 34)) N M B from ⟨heap_alloc_new w _, hb0⟩)
    have HL := Lib.hid (hL.same hb0); have HK := Lib.hid (hK.same hb0)
    have HRF := Lib.hid rfits_any
    unfold bV at HRF ⊢
    clear hb0 hL hK hK1
    go_enter Try.func41, Try.ntmps41
    have g1 : ((n : Int) == (n : Int)) = true := by simp
    go_wp2_with fail
    refine (HRF.out N M B la ka n lc n kc K L (by omega) (by omega) _ HL.out HK.out.si).mono ?_
    rintro e w1 ⟨⟨v, rfl, hv⟩, hB1⟩
    have HV := Lib.hid hv; have HB1 := Lib.hid (HS0.out.same hB1).2
    clear hv hB1
    go_wp2
    go_ret
    exact ⟨⟨v, rfl, fun h => ⟨K, fun _ _ => rfl, (HV.out.1 h).2⟩, fun ⟨K', h1, h2⟩ => HV.out.2 ⟨by first | rfl | trivial, fit_cong h1 h2⟩⟩, HB1.out⟩
  | succ d ih =>
    intro N M B la ka n lc m kc K L w hnm hn8 hN1 hN2 hK1 hL hK
    obtain ⟨i3, hi, hz0, hz1, hz2⟩ := info_parts Try.infoInt2
    have HI := Lib.hid hi; have HZ0 := Lib.hid hz0; have HZ1 := Lib.hid hz1; have HZ2 := Lib.hid hz2
    have hb0 := (Below.refl w.heap.size w).alloc (Nat.le_refl _) (.cells #[.int .i64 N, .int .i64 M, .int .i64 B] 34)
    have HS0 := Lib.hid (show Sb w (w.alloc (.cells #[.int .i64 N, .int .i64 M, .int .i64 B] 34)) N M B from ⟨heap_alloc_new w _, hb0⟩)
    have HL := Lib.hid hL; have HK := Lib.hid hK; have HK1 := Lib.hid hK1; have HIH := Lib.hid ih; have HKN := Lib.hid hK.nil
    have hmn : m < n := by omega
    have HNM := Lib.hid hnm; clear hnm
    have HST := Lib.hid (some_step (N := N) (M := M) (B := B) (K := K) (L := L) hmn)
    clear hb0 hL hK hK1 ih hi hz0 hz1 hz2
    have HL0 := Lib.hid (HL.out.same HS0.out.2); have HK0 := Lib.hid (HK.out.same HS0.out.2)
    unfold bV
    go_enter Try.func41, Try.ntmps41
    have g1 : ((m : Int) == (n : Int)) = false := by simp; omega
    have hlst : lst K m ≤ N ∧ 1 ≤ lst K m := by
      cases m with
      | zero => exact ⟨hN1, Int.le_refl _⟩
      | succ j => exact ⟨(HK1.out j (by omega)).2, (HK1.out j (by omega)).1⟩
    obtain ⟨l0, hl0⟩ : ∃ l0, l0 = lst K m := ⟨_, rfl⟩
    have HL9 := Lib.hid hl0
    rw [← hl0] at hlst
    have key : (m = 0 ∧ l0 = 1) ∨ (0 < m ∧ ∃ b o, ka = some ⟨b, o, none⟩ ∧ ∀ W, Below w.heap.size w W → W.cell? ⟨b, o + (m - 1), none⟩ = some (.int .i64 l0)) := by
      cases m with
      | zero => exact Or.inl ⟨rfl, hl0⟩
      | succ j =>
        obtain ⟨b, o, e, _⟩ := HK.out.si.cell j (by omega)
        refine Or.inr ⟨by omega, b, o, e, fun W hW => ?_⟩
        obtain ⟨b', o', e', hc⟩ := (HK.out.same hW).si.cell j (by omega)
        rw [e] at e'
        cases e'
        rw [hl0]; exact hc
    have KEY := Lib.hid key
    clear key hl0
    have rest : True := trivial
    rcases KEY.out with ⟨hm0, hl1⟩ | ⟨hm0, b, o, ea, hc⟩
    · have i1 : ¬ (0 : Int) < (m : Int) := by omega
      have HL1 := Lib.hid hl1
      clear hl1 hm0
      go_wp2_with fail
      go_loopw [8] (fun i wr => ∃ (x : Int) (W : World), W = wr ∧ l0 ≤ x ∧ x ≤ N + 1 ∧ i = .int .i64 x ∧ (∀ y, l0 ≤ y → y < x → ¬ SomeP N M B n (m + 1) (upd K m y) L) ∧ Sb w wr N M B) (fun i _ => (N + 1 - intOf i).toNat)
      case atStart => exact ⟨l0, _, rfl, Int.le_refl _, by omega, by first | rfl | rw [HL1.out], fun y h1 h2 => by omega, HS0.out⟩
      case round =>
        obtain ⟨x, wx, rfl, hx1, hx2, rfl, hno, hS⟩ := hrel
        have HNO := Lib.hid hno; have HSx := Lib.hid hS
        obtain ⟨c0, c1, c2⟩ := box3 hS.1
        clear hno hS
        by_cases hxN : x ≤ N
        · have HW := Lib.hid (show Sb w wx.drew N M B from HSx.out.same ((Below.refl _ wx).drew))
          have HWL := Lib.hid HSx.out.lt
          have HKH := Lib.hid (fun (W : World) (s : Sb w W N M B) => HK.out.same s.2)
          have IH := fun (g7 : Option Addr) (c7 : Nat) (w7 : World) (s : Sb w w7 N M B) (o : w7.ownsRow wx.heap.size 3 1 (.slice g7 (m + 1) c7) (m + 1) (inh K m ++ [.int .i64 x])) => HIH.out N M B la g7 n lc (m + 1) c7 (upd K m x) L w7 (by have := HNM.out; omega) hn8 hN1 hN2 (fun i hi => by
            unfold upd
            split
            · omega
            · exact HK1.out i (by omega)) (HL.out.same s.2) (by rw [inh_upd] at o; exact hi_own o)
          have IHH := Lib.hid IH
          clear IH
          go_wp2_with fail
          refine wp_region_held_drew (S := fun W => Sb w W N M B) (by kernel_rfl) (HW.out) (fun hHeld => ?_)
          have hdz : wx.drew.heap.size = wx.heap.size := rfl
          have wdS := HW
          generalize wx.drew = wd at *
          have HDZ := Lib.hid hdz; clear hdz
          refine wpAnyH_take (i := 0) (oi := ⟨some 34, _, _, _, _, none⟩) (v := (bV N M B)) rfl (by kernel_rfl) (by kernel_rfl) (by kernel_rfl) (fun _ _ _ h => h) (Or.inl ⟨by rfl, fun W hW => ?_⟩) (by assumption) ?_
          · (obtain ⟨c0, c1, c2⟩ := box3 hW.1; go_simp; try rfl)
          simp only [Act.put, List.setIfInBounds_toArray, List.set_cons_zero, List.set_cons_succ]
          refine wpAnyH_take (i := 1) (oi := ⟨some 35, _, _, _, _, none⟩) (v := (.slice la n lc)) rfl (by kernel_rfl) (by kernel_rfl) (by kernel_rfl) (fun _ _ _ h => h) (Or.inl ⟨by rfl, fun W hW => ?_⟩) (by assumption) ?_
          · go_simp
          simp only [Act.put, List.setIfInBounds_toArray, List.set_cons_zero, List.set_cons_succ]
          refine wpAnyH_take (i := 3) (oi := ⟨some 37, _, _, _, _, none⟩) (v := (.slice ka m kc)) rfl (by kernel_rfl) (by kernel_rfl) (by kernel_rfl) (fun _ _ _ h => h) (Or.inl ⟨by rfl, fun W hW => ?_⟩) (by assumption) ?_
          · go_simp
          simp only [Act.put, List.setIfInBounds_toArray, List.set_cons_zero, List.set_cons_succ]
          refine wpAnyH_take (i := 5) (oi := ⟨some 39, _, _, _, _, none⟩) (v := (.int .i64 x)) rfl (by kernel_rfl) (by kernel_rfl) (by kernel_rfl) (fun _ _ _ h => h) (Or.inl ⟨by rfl, fun W hW => ?_⟩) (by assumption) ?_
          · go_simp
          simp only [Act.put, List.setIfInBounds_toArray, List.set_cons_zero, List.set_cons_succ]
          refine @share _ ?shP1 (fun hG => ?shF1) ?shG1
          case shF1 =>
            have HGH := Lib.hid hG; clear hG
            refine wpAnyH_ready (rs := [2, 6]) (by kernel_rfl) (by simp) (AllReadyH.cons rfl (fun KK hKK => ?_) (AllReadyH.cons rfl (fun KK hKK => ?_) AllReadyH.nil))
            · go_simp
              have hl : Below wd.heap.size wd (wd.alloc (.cells #[] 3)) := (Below.refl _ _).alloc (Nat.le_refl _) _
              have weS := Lib.hid (wdS.out.same hl); have weL := Lib.hid hl
              clear hl
              refine hKK.out _ _ weS.out (fun hHeld => ?_)
              clear hKK KK
              try simp only [Act.put, List.setIfInBounds_toArray, List.set_cons_zero, List.set_cons_succ]
              refine wpAnyH_ready (rs := [4, 6]) (by kernel_rfl) (by simp) (AllReadyH.cons rfl (fun KK hKK => ?_) (AllReadyH.cons rfl (fun KK hKK => ?_) AllReadyH.nil))
              · have HOE := Lib.hid (World.ownsRow_made (base := wx.heap.size) (e := 3) (size := 1) wd #[] 0 (by rw [HDZ.out]; exact Nat.le_refl _) (by unfold maxLen; omega) rfl); have HKx := Lib.hid (HKH.out _ weS.out)
                have HSZ := Lib.hid (show wx.heap.size ≤ (wd.alloc (.cells #[] 3)).heap.size from by rw [World.size_alloc, HDZ.out]; omega)
                refine step_app_any rfl (.tmp 36) (.tmp 37) 25 rfl wx.heap.size 3 i3 (.int .i64 0) 8 Try.underlying25 HI.out HZ0.out HZ1.out HZ2.out rfl (.slice (some ⟨wd.heap.size, 0, none⟩) 0 0) 0 [] rfl HOE.out ka m kc (inh K m) rfl (inh_len _ _) HKN.out (HKx.out.news) (inh_ones _ _) (by unfold maxLen; omega) (by omega) HSZ.out ?_
                intro v4 w4 hown4 hgr4
                rw [List.nil_append, Nat.zero_add] at hown4
                obtain ⟨g4, c4, rfl⟩ := own_slice hown4
                have HO4 := Lib.hid hown4; have HG4 := Lib.hid hgr4
                have W4S := Lib.hid (weS.out.grown hgr4 (fun k e => Nat.lt_of_lt_of_le HWL.out (HOE.out.lt k e).1))
                clear hown4 hgr4
                refine hKK.out _ _ W4S.out (fun hHeld => ?_)
                clear hKK KK
                try simp only [Act.put, List.setIfInBounds_toArray]
                refine wpAnyH_ready (rs := [6]) (by kernel_rfl) (by simp) (AllReadyH.cons rfl (fun KK hKK => ?_) AllReadyH.nil)
                go_simp
                have hl : Below w4.heap.size w4 (w4.alloc (.cells #[.int .i64 x] 3)) := (Below.refl _ _).alloc (Nat.le_refl _) _
                have W6S := Lib.hid (W4S.out.same hl); have HO6 := Lib.hid (own_below HO4.out hl)
                have hz6 : wx.heap.size ≤ (w4.alloc (.cells #[.int .i64 x] 3)).heap.size := by have h1 := HSZ.out; have h2 := HG4.out.size; have h3 := hl.size; omega
                refine hKK.out _ _ W6S.out (fun hHeld => ?_)
                clear hKK KK hl
                try simp only [Act.put, List.setIfInBounds_toArray, List.set_cons_zero, List.set_cons_succ]
                refine wpAnyH_ready (rs := [7]) (by kernel_rfl) (by simp) (AllReadyH.cons rfl (fun KK hKK => ?_) AllReadyH.nil)
                refine step_apd rfl (.tmp 38) (.tmp 40) 25 rfl wx.heap.size 3 i3 (.int .i64 0) 1 8 Try.underlying25 HI.out HZ0.out HZ1.out HZ2.out rfl (by decide) (.slice g4 m c4) m _ rfl HO6.out ⟨w4.heap.size, 0, none⟩ 1 1 [.int .i64 x] rfl rfl (cell_new1 w4 _ _) (by intro u hu; rw [List.mem_singleton.1 hu]; rfl) (by unfold maxLen; omega) (by omega) (hz6) ?_
                intro v7 w7 hown7 hgr7
                obtain ⟨g7, c7, rfl⟩ := own_slice hown7
                have W7S := Lib.hid (W6S.out.grown hgr7 (fun k e => Nat.lt_of_lt_of_le HWL.out ((HO6.out).lt k e).1))
                have HALL := Lib.hid (show _ ∧ _ from ⟨hown7, W7S.out⟩)
                clear hown7 hgr7
                refine hKK.out _ _ W7S.out (fun hHeld => ?_)
                clear hKK KK
                try simp only [Act.put, List.setIfInBounds_toArray]
                clear W7S HO6 HO4 HG4 W6S W4S hz6 HSZ HKx HOE
                generalize wd.heap.size = eA
                generalize w4.heap.size = xA
                revert HALL
                revert c7
                revert g7
                revert w7
                revert c4
                revert g4
                revert xA
                revert eA
                exact HGH.out
              · go_simp
                have hl : Below (wd.alloc (.cells #[] 3)).heap.size (wd.alloc (.cells #[] 3)) ((wd.alloc (.cells #[] 3)).alloc (.cells #[.int .i64 x] 3)) := (Below.refl _ _).alloc (Nat.le_refl _) _
                have wfS := Lib.hid (weS.out.same hl)
                have HXX := Lib.hid (heap_alloc_new (wd.alloc (.cells #[] 3)) (.cells #[.int .i64 x] 3))
                have hoe := own_below (World.ownsRow_made (base := wx.heap.size) (e := 3) (size := 1) wd #[] 0 (by rw [HDZ.out]; exact Nat.le_refl _) (by unfold maxLen; omega) rfl) hl
                have HOE := Lib.hid hoe; have HKx := Lib.hid (HKH.out _ wfS.out)
                have HSZ := Lib.hid (show wx.heap.size ≤ ((wd.alloc (.cells #[] 3)).alloc (.cells #[.int .i64 x] 3)).heap.size from by rw [World.size_alloc, World.size_alloc, HDZ.out]; omega)
                refine hKK.out _ _ wfS.out (fun hHeld => ?_)
                clear hKK KK hl hoe
                try simp only [Act.put, List.setIfInBounds_toArray, List.set_cons_zero, List.set_cons_succ]
                refine wpAnyH_ready (rs := [4]) (by kernel_rfl) (by simp) (AllReadyH.cons rfl (fun KK hKK => ?_) AllReadyH.nil)
                refine step_app_any rfl (.tmp 36) (.tmp 37) 25 rfl wx.heap.size 3 i3 (.int .i64 0) 8 Try.underlying25 HI.out HZ0.out HZ1.out HZ2.out rfl (.slice (some ⟨wd.heap.size, 0, none⟩) 0 0) 0 [] rfl HOE.out ka m kc (inh K m) rfl (inh_len _ _) HKN.out (HKx.out.news) (inh_ones _ _) (by unfold maxLen; omega) (by omega) HSZ.out ?_
                intro v4 w4 hown4 hgr4
                rw [List.nil_append, Nat.zero_add] at hown4
                obtain ⟨g4, c4, rfl⟩ := own_slice hown4
                have HO4 := Lib.hid hown4; have HG4 := Lib.hid hgr4
                have W4S := Lib.hid (wfS.out.grown hgr4 (fun k e => Nat.lt_of_lt_of_le HWL.out (HOE.out.lt k e).1))
                clear hown4 hgr4
                refine hKK.out _ _ W4S.out (fun hHeld => ?_)
                clear hKK KK
                try simp only [Act.put, List.setIfInBounds_toArray]
                have hX4 : w4.heap[(wd.alloc (.cells #[] 3)).heap.size]? = some (.cells #[.int .i64 x] 3 (0, 0)) := (HG4.out.block _ (by simp) (by simp [Value.ownBlock])).trans HXX.out
                rw [World.size_alloc] at hX4
                have hz6 : wx.heap.size ≤ w4.heap.size := Nat.le_trans HSZ.out HG4.out.size
                refine wpAnyH_ready (rs := [7]) (by kernel_rfl) (by simp) (AllReadyH.cons rfl (fun KK hKK => ?_) AllReadyH.nil)
                refine step_apd rfl (.tmp 38) (.tmp 40) 25 rfl wx.heap.size 3 i3 (.int .i64 0) 1 8 Try.underlying25 HI.out HZ0.out HZ1.out HZ2.out rfl (by decide) (.slice g4 m c4) m _ rfl HO4.out ⟨wd.heap.size + 1, 0, none⟩ 1 1 [.int .i64 x] rfl rfl (cell_blk1 hX4) (by intro u hu; rw [List.mem_singleton.1 hu]; rfl) (by unfold maxLen; omega) (by omega) (hz6) ?_
                intro v7 w7 hown7 hgr7
                obtain ⟨g7, c7, rfl⟩ := own_slice hown7
                have W7S := Lib.hid (W4S.out.grown hgr7 (fun k e => Nat.lt_of_lt_of_le HWL.out ((HO4.out).lt k e).1))
                have HALL := Lib.hid (show _ ∧ _ from ⟨hown7, W7S.out⟩)
                clear hown7 hgr7
                refine hKK.out _ _ W7S.out (fun hHeld => ?_)
                clear hKK KK
                try simp only [Act.put]
                exact HGH.out _ _ _ _ _ hHeld _ _ HALL
            · go_simp
              have hl : Below wd.heap.size wd (wd.alloc (.cells #[.int .i64 x] 3)) := (Below.refl _ _).alloc (Nat.le_refl _) _
              have weS := Lib.hid (wdS.out.same hl); have weL := Lib.hid hl
              clear hl
              refine hKK.out _ _ weS.out (fun hHeld => ?_)
              clear hKK KK
              try simp only [Act.put, List.setIfInBounds_toArray, List.set_cons_zero, List.set_cons_succ]
              refine wpAnyH_ready (rs := [2]) (by kernel_rfl) (by simp) (AllReadyH.cons rfl (fun KK hKK => ?_) AllReadyH.nil)
              go_simp
              have hl : Below (wd.alloc (.cells #[.int .i64 x] 3)).heap.size (wd.alloc (.cells #[.int .i64 x] 3)) ((wd.alloc (.cells #[.int .i64 x] 3)).alloc (.cells #[] 3)) := (Below.refl _ _).alloc (Nat.le_refl _) _
              have wfS := Lib.hid (weS.out.same hl)
              have HXX := Lib.hid ((hl.block wd.heap.size (by simp)).trans (heap_alloc_new wd (.cells #[.int .i64 x] 3)))
              have hoe := World.ownsRow_made (base := wx.heap.size) (e := 3) (size := 1) (wd.alloc (.cells #[.int .i64 x] 3)) #[] 0 (by rw [World.size_alloc, HDZ.out]; omega) (by unfold maxLen; omega) rfl
              rw [World.size_alloc] at hoe
              have HOE := Lib.hid hoe; have HKx := Lib.hid (HKH.out _ wfS.out)
              have HSZ := Lib.hid (show wx.heap.size ≤ ((wd.alloc (.cells #[.int .i64 x] 3)).alloc (.cells #[] 3)).heap.size from by rw [World.size_alloc, World.size_alloc, HDZ.out]; omega)
              refine hKK.out _ _ wfS.out (fun hHeld => ?_)
              clear hKK KK hl hoe
              try simp only [Act.put, List.setIfInBounds_toArray, List.set_cons_zero, List.set_cons_succ]
              refine wpAnyH_ready (rs := [4]) (by kernel_rfl) (by simp) (AllReadyH.cons rfl (fun KK hKK => ?_) AllReadyH.nil)
              refine step_app_any rfl (.tmp 36) (.tmp 37) 25 rfl wx.heap.size 3 i3 (.int .i64 0) 8 Try.underlying25 HI.out HZ0.out HZ1.out HZ2.out rfl (.slice (some ⟨wd.heap.size + 1, 0, none⟩) 0 0) 0 [] rfl HOE.out ka m kc (inh K m) rfl (inh_len _ _) HKN.out (HKx.out.news) (inh_ones _ _) (by unfold maxLen; omega) (by omega) HSZ.out ?_
              intro v4 w4 hown4 hgr4
              rw [List.nil_append, Nat.zero_add] at hown4
              obtain ⟨g4, c4, rfl⟩ := own_slice hown4
              have HO4 := Lib.hid hown4; have HG4 := Lib.hid hgr4
              have W4S := Lib.hid (wfS.out.grown hgr4 (fun k e => Nat.lt_of_lt_of_le HWL.out (HOE.out.lt k e).1))
              clear hown4 hgr4
              refine hKK.out _ _ W4S.out (fun hHeld => ?_)
              clear hKK KK
              try simp only [Act.put, List.setIfInBounds_toArray]
              have hX4 : w4.heap[wd.heap.size]? = some (.cells #[.int .i64 x] 3 (0, 0)) := (HG4.out.block _ (by simp; omega) (by simp [Value.ownBlock])).trans HXX.out
              have hz6 : wx.heap.size ≤ w4.heap.size := Nat.le_trans HSZ.out HG4.out.size
              refine wpAnyH_ready (rs := [7]) (by kernel_rfl) (by simp) (AllReadyH.cons rfl (fun KK hKK => ?_) AllReadyH.nil)
              refine step_apd rfl (.tmp 38) (.tmp 40) 25 rfl wx.heap.size 3 i3 (.int .i64 0) 1 8 Try.underlying25 HI.out HZ0.out HZ1.out HZ2.out rfl (by decide) (.slice g4 m c4) m _ rfl HO4.out ⟨wd.heap.size, 0, none⟩ 1 1 [.int .i64 x] rfl rfl (cell_blk1 hX4) (by intro u hu; rw [List.mem_singleton.1 hu]; rfl) (by unfold maxLen; omega) (by omega) (hz6) ?_
              intro v7 w7 hown7 hgr7
              obtain ⟨g7, c7, rfl⟩ := own_slice hown7
              have W7S := Lib.hid (W4S.out.grown hgr7 (fun k e => Nat.lt_of_lt_of_le HWL.out ((HO4.out).lt k e).1))
              have HALL := Lib.hid (show _ ∧ _ from ⟨hown7, W7S.out⟩)
              clear hown7 hgr7
              refine hKK.out _ _ W7S.out (fun hHeld => ?_)
              clear hKK KK
              try simp only [Act.put]
              exact HGH.out _ _ _ _ _ hHeld _ _ HALL
          case shG1 =>
            intro eA xA g4 c4 w7 hHeld g7 c7 HALL
            obtain ⟨ho7, hs7⟩ := HALL.out
            have HO7 := Lib.hid ho7; have HS7 := Lib.hid hs7
            clear HALL ho7 hs7
            refine wpAnyH_ready (rs := [8]) (by kernel_rfl) (by simp) (AllReadyH.cons rfl (fun KK hKK => ?_) AllReadyH.nil)
            go_simp
            refine (IHH.out g7 c7 w7 HS7.out HO7.out).mono ?_
            rintro e w8 ⟨⟨v, rfl, hv⟩, hb8⟩
            dsimp only
            have HV := Lib.hid hv; have HS8 := Lib.hid (HS7.out.same hb8)
            clear hv hb8
            refine hKK.out _ _ (HS8.out) (fun hHeld => ?_)
            clear hKK KK
            try simp only [Act.put, List.setIfInBounds_toArray, List.set_cons_zero, List.set_cons_succ]
            refine wpAnyH_done (by kernel_rfl) ?_ _
            have HYES := Lib.hid HV.out.1; have HNOT := Lib.hid HV.out.2
            clear HV HS7 HO7 wdS HW
            cases v
            · have HN2 := Lib.hid (show ¬ SomeP N M B n (m + 1) (upd K m x) L from fun h => by have := HNOT.out h; first | exact this | cases this)
              go_wp2_with fail
              go_roundw
              case rel => exact ⟨x + 1, _, rfl, by omega, by omega, by go_num, fun y h1 h2 => by
                by_cases e : y = x
                · rw [e]; exact HN2.out
                · exact HNO.out y h1 (by omega), HS8.out⟩
              case measure => simp [intOf]; omega
            · have HY2 := Lib.hid (show SomeP N M B n (m + 1) (upd K m x) L from by first | exact HYES.out rfl | exact HYES.out trivial)
              go_wp2
              go_ret
              exact ⟨⟨true, rfl, fun _ => HST.out.2 ⟨x, by rw [← HL9.out]; exact hx1, hxN, HY2.out⟩, fun _ => rfl⟩, HS8.out.2⟩
        · have HX := Lib.hid (show ¬ SomeP N M B n m K L from fun h => by
            obtain ⟨y, h1, h2, h3⟩ := HST.out.1 h
            exact HNO.out y (by rw [HL9.out]; exact h1) (by omega) h3)
          go_wp2
          go_ret
          exact ⟨⟨false, rfl, fun h => (by cases h), fun h => absurd h HX.out⟩, HSx.out.2⟩
    · have i1 : (0 : Int) < (m : Int) := by omega
      have x1 : (m : Int) - 1 = ((m - 1 : Nat) : Int) := by omega
      have x2 : ((m - 1 : Nat) : Int) < (m : Int) := by omega
      have c9 := hc _ HS0.out.2
      have EA := Lib.hid ea
      subst ea
      clear hc
      go_wp2_with fail
      go_loopw [8] (fun i wr => ∃ (x : Int) (W : World), W = wr ∧ l0 ≤ x ∧ x ≤ N + 1 ∧ i = .int .i64 x ∧ (∀ y, l0 ≤ y → y < x → ¬ SomeP N M B n (m + 1) (upd K m y) L) ∧ Sb w wr N M B) (fun i _ => (N + 1 - intOf i).toNat)
      case atStart => exact ⟨l0, _, rfl, Int.le_refl _, by omega, by first | rfl | rw [HL1.out], fun y h1 h2 => by omega, HS0.out⟩
      case round =>
        obtain ⟨x, wx, rfl, hx1, hx2, rfl, hno, hS⟩ := hrel
        have HNO := Lib.hid hno; have HSx := Lib.hid hS
        obtain ⟨c0, c1, c2⟩ := box3 hS.1
        clear hno hS
        by_cases hxN : x ≤ N
        · have HW := Lib.hid (show Sb w wx.drew N M B from HSx.out.same ((Below.refl _ wx).drew))
          have HWL := Lib.hid HSx.out.lt
          have HKH := Lib.hid (fun (W : World) (s : Sb w W N M B) => HK.out.same s.2)
          have IH := fun (g7 : Option Addr) (c7 : Nat) (w7 : World) (s : Sb w w7 N M B) (o : w7.ownsRow wx.heap.size 3 1 (.slice g7 (m + 1) c7) (m + 1) (inh K m ++ [.int .i64 x])) => HIH.out N M B la g7 n lc (m + 1) c7 (upd K m x) L w7 (by have := HNM.out; omega) hn8 hN1 hN2 (fun i hi => by
            unfold upd
            split
            · omega
            · exact HK1.out i (by omega)) (HL.out.same s.2) (by rw [inh_upd] at o; exact hi_own o)
          have IHH := Lib.hid IH
          clear IH
          go_wp2_with fail
          refine wp_region_held_drew (S := fun W => Sb w W N M B) (by kernel_rfl) (HW.out) (fun hHeld => ?_)
          have hdz : wx.drew.heap.size = wx.heap.size := rfl
          have wdS := HW
          generalize wx.drew = wd at *
          have HDZ := Lib.hid hdz; clear hdz
          refine wpAnyH_take (i := 0) (oi := ⟨some 34, _, _, _, _, none⟩) (v := (bV N M B)) rfl (by kernel_rfl) (by kernel_rfl) (by kernel_rfl) (fun _ _ _ h => h) (Or.inl ⟨by rfl, fun W hW => ?_⟩) (by assumption) ?_
          · (obtain ⟨c0, c1, c2⟩ := box3 hW.1; go_simp; try rfl)
          simp only [Act.put, List.setIfInBounds_toArray, List.set_cons_zero, List.set_cons_succ]
          refine wpAnyH_take (i := 1) (oi := ⟨some 35, _, _, _, _, none⟩) (v := (.slice la n lc)) rfl (by kernel_rfl) (by kernel_rfl) (by kernel_rfl) (fun _ _ _ h => h) (Or.inl ⟨by rfl, fun W hW => ?_⟩) (by assumption) ?_
          · go_simp
          simp only [Act.put, List.setIfInBounds_toArray, List.set_cons_zero, List.set_cons_succ]
          refine wpAnyH_take (i := 3) (oi := ⟨some 37, _, _, _, _, none⟩) (v := (.slice (some ⟨b, o, none⟩) m kc)) rfl (by kernel_rfl) (by kernel_rfl) (by kernel_rfl) (fun _ _ _ h => h) (Or.inl ⟨by rfl, fun W hW => ?_⟩) (by assumption) ?_
          · go_simp
          simp only [Act.put, List.setIfInBounds_toArray, List.set_cons_zero, List.set_cons_succ]
          refine wpAnyH_take (i := 5) (oi := ⟨some 39, _, _, _, _, none⟩) (v := (.int .i64 x)) rfl (by kernel_rfl) (by kernel_rfl) (by kernel_rfl) (fun _ _ _ h => h) (Or.inl ⟨by rfl, fun W hW => ?_⟩) (by assumption) ?_
          · go_simp
          simp only [Act.put, List.setIfInBounds_toArray, List.set_cons_zero, List.set_cons_succ]
          refine @share _ ?shP2 (fun hG => ?shF2) ?shG2
          case shF2 =>
            have HGH := Lib.hid hG; clear hG
            refine wpAnyH_ready (rs := [2, 6]) (by kernel_rfl) (by simp) (AllReadyH.cons rfl (fun KK hKK => ?_) (AllReadyH.cons rfl (fun KK hKK => ?_) AllReadyH.nil))
            · go_simp
              have hl : Below wd.heap.size wd (wd.alloc (.cells #[] 3)) := (Below.refl _ _).alloc (Nat.le_refl _) _
              have weS := Lib.hid (wdS.out.same hl); have weL := Lib.hid hl
              clear hl
              refine hKK.out _ _ weS.out (fun hHeld => ?_)
              clear hKK KK
              try simp only [Act.put, List.setIfInBounds_toArray, List.set_cons_zero, List.set_cons_succ]
              refine wpAnyH_ready (rs := [4, 6]) (by kernel_rfl) (by simp) (AllReadyH.cons rfl (fun KK hKK => ?_) (AllReadyH.cons rfl (fun KK hKK => ?_) AllReadyH.nil))
              · have HOE := Lib.hid (World.ownsRow_made (base := wx.heap.size) (e := 3) (size := 1) wd #[] 0 (by rw [HDZ.out]; exact Nat.le_refl _) (by unfold maxLen; omega) rfl); have HKx := Lib.hid (HKH.out _ weS.out)
                have HSZ := Lib.hid (show wx.heap.size ≤ (wd.alloc (.cells #[] 3)).heap.size from by rw [World.size_alloc, HDZ.out]; omega)
                refine step_app_any rfl (.tmp 36) (.tmp 37) 25 rfl wx.heap.size 3 i3 (.int .i64 0) 8 Try.underlying25 HI.out HZ0.out HZ1.out HZ2.out rfl (.slice (some ⟨wd.heap.size, 0, none⟩) 0 0) 0 [] rfl HOE.out (some ⟨b, o, none⟩) m kc (inh K m) rfl (inh_len _ _) HKN.out (HKx.out.news) (inh_ones _ _) (by unfold maxLen; omega) (by omega) HSZ.out ?_
                intro v4 w4 hown4 hgr4
                rw [List.nil_append, Nat.zero_add] at hown4
                obtain ⟨g4, c4, rfl⟩ := own_slice hown4
                have HO4 := Lib.hid hown4; have HG4 := Lib.hid hgr4
                have W4S := Lib.hid (weS.out.grown hgr4 (fun k e => Nat.lt_of_lt_of_le HWL.out (HOE.out.lt k e).1))
                clear hown4 hgr4
                refine hKK.out _ _ W4S.out (fun hHeld => ?_)
                clear hKK KK
                try simp only [Act.put, List.setIfInBounds_toArray]
                refine wpAnyH_ready (rs := [6]) (by kernel_rfl) (by simp) (AllReadyH.cons rfl (fun KK hKK => ?_) AllReadyH.nil)
                go_simp
                have hl : Below w4.heap.size w4 (w4.alloc (.cells #[.int .i64 x] 3)) := (Below.refl _ _).alloc (Nat.le_refl _) _
                have W6S := Lib.hid (W4S.out.same hl); have HO6 := Lib.hid (own_below HO4.out hl)
                have hz6 : wx.heap.size ≤ (w4.alloc (.cells #[.int .i64 x] 3)).heap.size := by have h1 := HSZ.out; have h2 := HG4.out.size; have h3 := hl.size; omega
                refine hKK.out _ _ W6S.out (fun hHeld => ?_)
                clear hKK KK hl
                try simp only [Act.put, List.setIfInBounds_toArray, List.set_cons_zero, List.set_cons_succ]
                refine wpAnyH_ready (rs := [7]) (by kernel_rfl) (by simp) (AllReadyH.cons rfl (fun KK hKK => ?_) AllReadyH.nil)
                refine step_apd rfl (.tmp 38) (.tmp 40) 25 rfl wx.heap.size 3 i3 (.int .i64 0) 1 8 Try.underlying25 HI.out HZ0.out HZ1.out HZ2.out rfl (by decide) (.slice g4 m c4) m _ rfl HO6.out ⟨w4.heap.size, 0, none⟩ 1 1 [.int .i64 x] rfl rfl (cell_new1 w4 _ _) (by intro u hu; rw [List.mem_singleton.1 hu]; rfl) (by unfold maxLen; omega) (by omega) (hz6) ?_
                intro v7 w7 hown7 hgr7
                obtain ⟨g7, c7, rfl⟩ := own_slice hown7
                have W7S := Lib.hid (W6S.out.grown hgr7 (fun k e => Nat.lt_of_lt_of_le HWL.out ((HO6.out).lt k e).1))
                have HALL := Lib.hid (show _ ∧ _ from ⟨hown7, W7S.out⟩)
                clear hown7 hgr7
                refine hKK.out _ _ W7S.out (fun hHeld => ?_)
                clear hKK KK
                try simp only [Act.put, List.setIfInBounds_toArray]
                clear W7S HO6 HO4 HG4 W6S W4S hz6 HSZ HKx HOE
                generalize wd.heap.size = eA
                generalize w4.heap.size = xA
                revert HALL
                revert c7
                revert g7
                revert w7
                revert c4
                revert g4
                revert xA
                revert eA
                exact HGH.out
              · go_simp
                have hl : Below (wd.alloc (.cells #[] 3)).heap.size (wd.alloc (.cells #[] 3)) ((wd.alloc (.cells #[] 3)).alloc (.cells #[.int .i64 x] 3)) := (Below.refl _ _).alloc (Nat.le_refl _) _
                have wfS := Lib.hid (weS.out.same hl)
                have HXX := Lib.hid (heap_alloc_new (wd.alloc (.cells #[] 3)) (.cells #[.int .i64 x] 3))
                have hoe := own_below (World.ownsRow_made (base := wx.heap.size) (e := 3) (size := 1) wd #[] 0 (by rw [HDZ.out]; exact Nat.le_refl _) (by unfold maxLen; omega) rfl) hl
                have HOE := Lib.hid hoe; have HKx := Lib.hid (HKH.out _ wfS.out)
                have HSZ := Lib.hid (show wx.heap.size ≤ ((wd.alloc (.cells #[] 3)).alloc (.cells #[.int .i64 x] 3)).heap.size from by rw [World.size_alloc, World.size_alloc, HDZ.out]; omega)
                refine hKK.out _ _ wfS.out (fun hHeld => ?_)
                clear hKK KK hl hoe
                try simp only [Act.put, List.setIfInBounds_toArray, List.set_cons_zero, List.set_cons_succ]
                refine wpAnyH_ready (rs := [4]) (by kernel_rfl) (by simp) (AllReadyH.cons rfl (fun KK hKK => ?_) AllReadyH.nil)
                refine step_app_any rfl (.tmp 36) (.tmp 37) 25 rfl wx.heap.size 3 i3 (.int .i64 0) 8 Try.underlying25 HI.out HZ0.out HZ1.out HZ2.out rfl (.slice (some ⟨wd.heap.size, 0, none⟩) 0 0) 0 [] rfl HOE.out (some ⟨b, o, none⟩) m kc (inh K m) rfl (inh_len _ _) HKN.out (HKx.out.news) (inh_ones _ _) (by unfold maxLen; omega) (by omega) HSZ.out ?_
                intro v4 w4 hown4 hgr4
                rw [List.nil_append, Nat.zero_add] at hown4
                obtain ⟨g4, c4, rfl⟩ := own_slice hown4
                have HO4 := Lib.hid hown4; have HG4 := Lib.hid hgr4
                have W4S := Lib.hid (wfS.out.grown hgr4 (fun k e => Nat.lt_of_lt_of_le HWL.out (HOE.out.lt k e).1))
                clear hown4 hgr4
                refine hKK.out _ _ W4S.out (fun hHeld => ?_)
                clear hKK KK
                try simp only [Act.put, List.setIfInBounds_toArray]
                have hX4 : w4.heap[(wd.alloc (.cells #[] 3)).heap.size]? = some (.cells #[.int .i64 x] 3 (0, 0)) := (HG4.out.block _ (by simp) (by simp [Value.ownBlock])).trans HXX.out
                rw [World.size_alloc] at hX4
                have hz6 : wx.heap.size ≤ w4.heap.size := Nat.le_trans HSZ.out HG4.out.size
                refine wpAnyH_ready (rs := [7]) (by kernel_rfl) (by simp) (AllReadyH.cons rfl (fun KK hKK => ?_) AllReadyH.nil)
                refine step_apd rfl (.tmp 38) (.tmp 40) 25 rfl wx.heap.size 3 i3 (.int .i64 0) 1 8 Try.underlying25 HI.out HZ0.out HZ1.out HZ2.out rfl (by decide) (.slice g4 m c4) m _ rfl HO4.out ⟨wd.heap.size + 1, 0, none⟩ 1 1 [.int .i64 x] rfl rfl (cell_blk1 hX4) (by intro u hu; rw [List.mem_singleton.1 hu]; rfl) (by unfold maxLen; omega) (by omega) (hz6) ?_
                intro v7 w7 hown7 hgr7
                obtain ⟨g7, c7, rfl⟩ := own_slice hown7
                have W7S := Lib.hid (W4S.out.grown hgr7 (fun k e => Nat.lt_of_lt_of_le HWL.out ((HO4.out).lt k e).1))
                have HALL := Lib.hid (show _ ∧ _ from ⟨hown7, W7S.out⟩)
                clear hown7 hgr7
                refine hKK.out _ _ W7S.out (fun hHeld => ?_)
                clear hKK KK
                try simp only [Act.put]
                exact HGH.out _ _ _ _ _ hHeld _ _ HALL
            · go_simp
              have hl : Below wd.heap.size wd (wd.alloc (.cells #[.int .i64 x] 3)) := (Below.refl _ _).alloc (Nat.le_refl _) _
              have weS := Lib.hid (wdS.out.same hl); have weL := Lib.hid hl
              clear hl
              refine hKK.out _ _ weS.out (fun hHeld => ?_)
              clear hKK KK
              try simp only [Act.put, List.setIfInBounds_toArray, List.set_cons_zero, List.set_cons_succ]
              refine wpAnyH_ready (rs := [2]) (by kernel_rfl) (by simp) (AllReadyH.cons rfl (fun KK hKK => ?_) AllReadyH.nil)
              go_simp
              have hl : Below (wd.alloc (.cells #[.int .i64 x] 3)).heap.size (wd.alloc (.cells #[.int .i64 x] 3)) ((wd.alloc (.cells #[.int .i64 x] 3)).alloc (.cells #[] 3)) := (Below.refl _ _).alloc (Nat.le_refl _) _
              have wfS := Lib.hid (weS.out.same hl)
              have HXX := Lib.hid ((hl.block wd.heap.size (by simp)).trans (heap_alloc_new wd (.cells #[.int .i64 x] 3)))
              have hoe := World.ownsRow_made (base := wx.heap.size) (e := 3) (size := 1) (wd.alloc (.cells #[.int .i64 x] 3)) #[] 0 (by rw [World.size_alloc, HDZ.out]; omega) (by unfold maxLen; omega) rfl
              rw [World.size_alloc] at hoe
              have HOE := Lib.hid hoe; have HKx := Lib.hid (HKH.out _ wfS.out)
              have HSZ := Lib.hid (show wx.heap.size ≤ ((wd.alloc (.cells #[.int .i64 x] 3)).alloc (.cells #[] 3)).heap.size from by rw [World.size_alloc, World.size_alloc, HDZ.out]; omega)
              refine hKK.out _ _ wfS.out (fun hHeld => ?_)
              clear hKK KK hl hoe
              try simp only [Act.put, List.setIfInBounds_toArray, List.set_cons_zero, List.set_cons_succ]
              refine wpAnyH_ready (rs := [4]) (by kernel_rfl) (by simp) (AllReadyH.cons rfl (fun KK hKK => ?_) AllReadyH.nil)
              refine step_app_any rfl (.tmp 36) (.tmp 37) 25 rfl wx.heap.size 3 i3 (.int .i64 0) 8 Try.underlying25 HI.out HZ0.out HZ1.out HZ2.out rfl (.slice (some ⟨wd.heap.size + 1, 0, none⟩) 0 0) 0 [] rfl HOE.out (some ⟨b, o, none⟩) m kc (inh K m) rfl (inh_len _ _) HKN.out (HKx.out.news) (inh_ones _ _) (by unfold maxLen; omega) (by omega) HSZ.out ?_
              intro v4 w4 hown4 hgr4
              rw [List.nil_append, Nat.zero_add] at hown4
              obtain ⟨g4, c4, rfl⟩ := own_slice hown4
              have HO4 := Lib.hid hown4; have HG4 := Lib.hid hgr4
              have W4S := Lib.hid (wfS.out.grown hgr4 (fun k e => Nat.lt_of_lt_of_le HWL.out (HOE.out.lt k e).1))
              clear hown4 hgr4
              refine hKK.out _ _ W4S.out (fun hHeld => ?_)
              clear hKK KK
              try simp only [Act.put, List.setIfInBounds_toArray]
              have hX4 : w4.heap[wd.heap.size]? = some (.cells #[.int .i64 x] 3 (0, 0)) := (HG4.out.block _ (by simp; omega) (by simp [Value.ownBlock])).trans HXX.out
              have hz6 : wx.heap.size ≤ w4.heap.size := Nat.le_trans HSZ.out HG4.out.size
              refine wpAnyH_ready (rs := [7]) (by kernel_rfl) (by simp) (AllReadyH.cons rfl (fun KK hKK => ?_) AllReadyH.nil)
              refine step_apd rfl (.tmp 38) (.tmp 40) 25 rfl wx.heap.size 3 i3 (.int .i64 0) 1 8 Try.underlying25 HI.out HZ0.out HZ1.out HZ2.out rfl (by decide) (.slice g4 m c4) m _ rfl HO4.out ⟨wd.heap.size, 0, none⟩ 1 1 [.int .i64 x] rfl rfl (cell_blk1 hX4) (by intro u hu; rw [List.mem_singleton.1 hu]; rfl) (by unfold maxLen; omega) (by omega) (hz6) ?_
              intro v7 w7 hown7 hgr7
              obtain ⟨g7, c7, rfl⟩ := own_slice hown7
              have W7S := Lib.hid (W4S.out.grown hgr7 (fun k e => Nat.lt_of_lt_of_le HWL.out ((HO4.out).lt k e).1))
              have HALL := Lib.hid (show _ ∧ _ from ⟨hown7, W7S.out⟩)
              clear hown7 hgr7
              refine hKK.out _ _ W7S.out (fun hHeld => ?_)
              clear hKK KK
              try simp only [Act.put]
              exact HGH.out _ _ _ _ _ hHeld _ _ HALL
          case shG2 =>
            intro eA xA g4 c4 w7 hHeld g7 c7 HALL
            obtain ⟨ho7, hs7⟩ := HALL.out
            have HO7 := Lib.hid ho7; have HS7 := Lib.hid hs7
            clear HALL ho7 hs7
            refine wpAnyH_ready (rs := [8]) (by kernel_rfl) (by simp) (AllReadyH.cons rfl (fun KK hKK => ?_) AllReadyH.nil)
            go_simp
            refine (IHH.out g7 c7 w7 HS7.out HO7.out).mono ?_
            rintro e w8 ⟨⟨v, rfl, hv⟩, hb8⟩
            dsimp only
            have HV := Lib.hid hv; have HS8 := Lib.hid (HS7.out.same hb8)
            clear hv hb8
            refine hKK.out _ _ (HS8.out) (fun hHeld => ?_)
            clear hKK KK
            try simp only [Act.put, List.setIfInBounds_toArray, List.set_cons_zero, List.set_cons_succ]
            refine wpAnyH_done (by kernel_rfl) ?_ _
            have HYES := Lib.hid HV.out.1; have HNOT := Lib.hid HV.out.2
            clear HV HS7 HO7 wdS HW
            cases v
            · have HN2 := Lib.hid (show ¬ SomeP N M B n (m + 1) (upd K m x) L from fun h => by have := HNOT.out h; first | exact this | cases this)
              go_wp2_with fail
              go_roundw
              case rel => exact ⟨x + 1, _, rfl, by omega, by omega, by go_num, fun y h1 h2 => by
                by_cases e : y = x
                · rw [e]; exact HN2.out
                · exact HNO.out y h1 (by omega), HS8.out⟩
              case measure => simp [intOf]; omega
            · have HY2 := Lib.hid (show SomeP N M B n (m + 1) (upd K m x) L from by first | exact HYES.out rfl | exact HYES.out trivial)
              go_wp2
              go_ret
              exact ⟨⟨true, rfl, fun _ => HST.out.2 ⟨x, by rw [← HL9.out]; exact hx1, hxN, HY2.out⟩, fun _ => rfl⟩, HS8.out.2⟩
        · have HX := Lib.hid (show ¬ SomeP N M B n m K L from fun h => by
            obtain ⟨y, h1, h2, h3⟩ := HST.out.1 h
            exact HNO.out y (by rw [HL9.out]; exact h1) (by omega) h3)
          go_wp2
          go_ret
          exact ⟨⟨false, rfl, fun h => (by cases h), fun h => absurd h HX.out⟩, HSx.out.2⟩
/-- the document's Can. -/
theorem rcan_any (N M B : Int) (la : Option Addr) (n lc : Nat) (L : Nat → Int) (hn : n ≤ 140737488355328) (w : World) (hL : Si w la n L) :
    Calls Try.prog 32 #[bV N M B, .slice la n lc] w fun e w' => SomeSays N M B n 0 (fun _ => 0) L e ∧ Below w.heap.size w w' := by
  have hb0 := (Below.refl w.heap.size w).alloc (Nat.le_refl _) (.cells #[.int .i64 N, .int .i64 M, .int .i64 B] 34)
  have HS0 := Lib.hid (show Sb w (w.alloc (.cells #[.int .i64 N, .int .i64 M, .int .i64 B] 34)) N M B from ⟨heap_alloc_new w _, hb0⟩)
  have HL := Lib.hid hL
  have HRR := Lib.hid rright_any; have HSO := Lib.hid rsome_any
  unfold bV at HRR HSO ⊢
  clear hb0 hL
  go_enter Try.func32, Try.ntmps32
  obtain ⟨c0, c1, c2⟩ := box3 HS0.out.1
  go_wp2_with fail
  refine (HRR.out N M B _).mono ?_
  rintro e w1 ⟨⟨v, rfl, hv⟩, hB1⟩
  have HV := Lib.hid hv; have HS1 := Lib.hid (HS0.out.same hB1)
  clear hv hB1 c0 c1 c2
  cases v
  · have HX := Lib.hid (show ¬ SomeP N M B n 0 (fun _ => 0) L from fun ⟨K', _, h⟩ => absurd (HV.out.2 h.1) (by simp))
    go_wp2
    go_ret
    exact ⟨⟨false, rfl, fun h => (by cases h), fun h => absurd h HX.out⟩, HS1.out.2⟩
  have HRB := Lib.hid (show RB N M B from by first | exact HV.out.1 rfl | exact HV.out.1 trivial)
  go_wp2_with fail
  refine (rlengths_any la n lc L hn _ (HL.out.same HS1.out.2)).mono ?_
  rintro e w2 ⟨⟨v, rfl, hv⟩, rfl⟩
  have HV2 := Lib.hid hv; clear hv
  cases v
  · have HX := Lib.hid (show ¬ SomeP N M B n 0 (fun _ => 0) L from fun ⟨K', _, h⟩ => absurd (HV2.out.2 (lenP_of h.2.1)) (by simp))
    go_wp2
    go_ret
    exact ⟨⟨false, rfl, fun h => (by cases h), fun h => absurd h HX.out⟩, HS1.out.2⟩
  have hlp := (show LenP n L from by first | exact HV2.out.1 rfl | exact HV2.out.1 trivial)
  have hn8 := hlp.2.1
  have hN := HRB.out.1
  obtain ⟨c0, c1, c2⟩ := box3 HS1.out.1
  clear hlp
  go_wp2_with fail
  refine (HSO.out n N M B la none n lc 0 0 (fun _ => 0) L _ (by omega) hn8 hN.1 hN.2 (fun i hi => absurd hi (Nat.not_lt_zero i)) (HL.out.same HS1.out.2) ⟨Nat.le_refl _, Nat.zero_le _, fun _ => ⟨rfl, rfl⟩, fun _ e => (by cases e), fun _ e => (by cases e)⟩).mono ?_
  rintro e w3 ⟨⟨v, rfl, hv⟩, hB3⟩
  have HV3 := Lib.hid hv; have HS3 := Lib.hid (HS1.out.same hB3)
  clear hv hB3
  go_wp2
  go_ret
  exact ⟨⟨v, rfl, HV3.out⟩, HS3.out.2⟩
theorem some_all {N M B : Int} {n : Nat} {L : Nat → Int} : SomeP N M B n 0 (fun _ => 0) L ↔ FitP N M B n (fun _ => N) L :=
  ⟨fun ⟨_, _, h⟩ => fit_all h, fun h => ⟨fun _ => N, fun i hi => absurd hi (Nat.not_lt_zero i), h⟩⟩
end Go.Proofs.Ytkejabhjlflknaa.Sz

namespace Go.Proofs.Ytkejabhjlflknaa.Sz
open Go.RowKit Go.Shelf
attribute [local go_sem] Oper.semAt_some

set_option maxHeartbeats 8000000 in
set_option maxRecDepth 100000 in
theorem sizeCan_any (N M B : Int) (la : Option Addr) (nl lc : Nat) (L : Nat → Int) (hnl : nl ≤ 140737488355328) (w : World) (hL : Hi w la nl lc L) :
    Calls Try.prog 21 #[bV N M B, .slice la nl lc] w fun e w' => e = .returned (.bool true) ∧ Below w.heap.size w w' := by
  have hb0 := (Below.refl w.heap.size w).alloc (Nat.le_refl _) (.cells #[.int .i64 N, .int .i64 M, .int .i64 B] 23)
  have hh0 := heap_alloc_new w (.cells #[.int .i64 N, .int .i64 M, .int .i64 B] 23)
  have HL := Lib.hid hL
  have HB0 := Lib.hid hb0; have HX0 := Lib.hid hh0
  have hl0 : w.heap.size < (w.alloc (.cells #[.int .i64 N, .int .i64 M, .int .i64 B] 23)).heap.size := by simp
  have HAW := Lib.hid (fun (W : World) (q : Below w.heap.size w W) => (awake11_any W).mono fun e w' (h : e = .returned (.bool true) ∧ Below W.heap.size W w') => (⟨h.1, q.trans (h.2.mono q.size)⟩ : e = .returned (.bool true) ∧ Below w.heap.size w w'))
  unfold bV
  clear hb0 hh0 hL
  go_enter Try.func21, Try.ntmps21
  have hN : (9 < N ∧ N ≤ 255) ∨ (9 < N ∧ ¬ N ≤ 255) ∨ ¬ 9 < N := by omega
  rcases hN with ⟨h1, h2⟩ | hN
  · have g1 : decide (9 < N) = true := by simp [h1]
    have g2 : decide (N ≤ 255) = true := by simp [h2]
    clear h1 h2
    go_wp2_with fail
    refine (HAW.out _ HB0.out).mono ?_
    rintro e w1 ⟨rfl, hB⟩
    have HB := Lib.hid hB; clear hB
    go_wp2
    go_ret
    exact ⟨rfl, HB.out⟩
  have hn : ((4 : Int) < nl ∧ (nl : Int) < 9) ∨ ((4 : Int) < nl ∧ ¬ (nl : Int) < 9) ∨ ¬ (4 : Int) < nl := by omega
  have hc : (300 : Int) < nl ∨ ¬ (300 : Int) < nl := by omega
  rcases hN with ⟨h1, h2⟩ | h1
  rotate_left
  · have g1 : decide (9 < N) = false := by simp; omega
    clear h1
    rcases hn with ⟨h3, h4⟩ | hn
    · have g3 : decide ((4 : Int) < nl) = true := by simp; omega
      have g4 : decide ((nl : Int) < 9) = true := by simp; omega
      clear h3 h4 hc
      go_wp2_with fail
      refine (HAW.out _ HB0.out).mono ?_
      rintro e w1 ⟨rfl, hB⟩
      have HB := Lib.hid hB; clear hB
      go_wp2
      go_ret
      exact ⟨rfl, HB.out⟩
    rcases hn with ⟨h3, h4⟩ | h3
    rotate_left
    · have g3 : decide ((4 : Int) < nl) = false := by simp; omega
      clear h3
      rcases hc with h5 | h5
      · have g5 : decide ((300 : Int) < nl) = true := by simp; omega
        clear h5
        go_wp2_with fail
        refine (HAW.out _ HB0.out).mono ?_
        rintro e w1 ⟨rfl, hB⟩
        have HB := Lib.hid hB; clear hB
        go_wp2
        go_ret
        exact ⟨rfl, HB.out⟩
      have g5 : decide ((300 : Int) < nl) = false := by simp; omega
      go_wp2_with fail
      generalize w.alloc (.cells #[.int .i64 N, .int .i64 M, .int .i64 B] 23) = w0 at *
      have hs0 := HB0.out.size
      refine (lentInts_any la nl lc L _ (HL.out.same HB0.out) (by omega)).mono ?_
      rintro e w7 ⟨rfl, hG, hB7⟩
      have HL7 := Lib.hid hG; have HB7 := Lib.hid (HB0.out.trans (hB7.mono hs0)); have HX7 := Lib.hid ((hB7.block _ hl0).trans HX0.out)
      have hs7 := HB7.out.size
      clear hG hB7
      generalize w0.heap.size = gl at *
      have HSL := Lib.hid (fun (W : World) (q : Below w7.heap.size w7 W) => blk_si W (HL7.out.same q)); have HLL := Lib.hid (fun (W : World) (q : Below w7.heap.size w7 W) => HL7.out.same q)
      have HHL := Lib.hid (fun (W : World) (q : Below w7.heap.size w7 W) => HL.out.same (HB7.out.trans (q.mono hs7)))
      have HRL := Lib.hid (fun (W : World) (q : Below w7.heap.size w7 W) => (HL.out.same (HB7.out.trans (q.mono hs7))).si)
      have HW := Lib.hid (show (fun W => Below w7.heap.size w7 W) w7.drew from (Below.refl _ w7).drew)
      have q5 : ∀ v : Bool, (v == v) = true := fun v => by simp
      go_wp2_with fail
      refine wp_region_held_drew (S := fun W => Below w7.heap.size w7 W) (by kernel_rfl) (HW.out) (fun hHeld => ?_)
      refine wpAnyH_take (i := 0) (oi := ⟨some 32, _, _, _, _, none⟩) (v := (bV N M B)) rfl (by kernel_rfl) (by kernel_rfl) (by kernel_rfl) (fun _ _ _ h => h) (Or.inl ⟨by rfl, fun W hW => ?_⟩) (by assumption) ?_
      · (obtain ⟨c0, c1, c2⟩ := box3 ((hW.block _ (Array.getElem?_eq_some_iff.1 HX7.out).1).trans HX7.out); go_simp; try rfl)
      simp only [Act.put, List.setIfInBounds_toArray, List.set_cons_zero, List.set_cons_succ]
      refine wpAnyH_take (i := 1) (oi := ⟨some 33, _, _, _, _, none⟩) (v := (.slice (some ⟨gl, 0, none⟩) nl (nl + 12))) rfl (by kernel_rfl) (by kernel_rfl) (by kernel_rfl) (fun _ _ _ h => h) (Or.inl ⟨by rfl, fun W hW => ?_⟩) (by assumption) ?_
      · go_simp
      simp only [Act.put, List.setIfInBounds_toArray, List.set_cons_zero, List.set_cons_succ]
      refine wpAnyH_take (i := 3) (oi := ⟨some 35, _, _, _, _, none⟩) (v := (bV N M B)) rfl (by kernel_rfl) (by kernel_rfl) (by kernel_rfl) (fun _ _ _ h => h) (Or.inl ⟨by rfl, fun W hW => ?_⟩) (by assumption) ?_
      · (obtain ⟨c0, c1, c2⟩ := box3 ((hW.block _ (Array.getElem?_eq_some_iff.1 HX7.out).1).trans HX7.out); go_simp; try rfl)
      simp only [Act.put, List.setIfInBounds_toArray, List.set_cons_zero, List.set_cons_succ]
      refine wpAnyH_take (i := 5) (oi := ⟨some 37, _, _, _, _, none⟩) (v := (.slice la nl lc)) rfl (by kernel_rfl) (by kernel_rfl) (by kernel_rfl) (fun _ _ _ h => h) (Or.inl ⟨by rfl, fun W hW => ?_⟩) (by assumption) ?_
      · go_simp
      simp only [Act.put, List.setIfInBounds_toArray, List.set_cons_zero, List.set_cons_succ]
      refine wpAnyH_ready (rs := [2]) (by kernel_rfl) (by simp) (AllReadyH.cons rfl (fun KK hKK => ?_) AllReadyH.nil)
      go_simp
      refine (can_any N M B _ nl _ L (by omega) _ (HSL.out _ HW.out)).mono ?_
      rintro e W1 ⟨⟨v1, rfl, hv1⟩, hb1⟩
      dsimp only
      have hW0 := HW.out
      have HW := Lib.hid (show (fun W => Below w7.heap.size w7 W) W1 from hW0.trans (hb1.mono hW0.size))
      clear hW0 hb1
      refine hKK.out _ _ (HW.out) (fun hHeld => ?_)
      clear hKK KK
      try simp only [Act.put, List.setIfInBounds_toArray, List.set_cons_zero, List.set_cons_succ]
      refine wpAnyH_ready (rs := [4]) (by kernel_rfl) (by simp) (AllReadyH.cons rfl (fun KK hKK => ?_) AllReadyH.nil)
      go_simp
      refine (theirs_any N M B _).mono ?_
      rintro e W2 ⟨rfl, hb2⟩
      dsimp only
      have hW0 := HW.out
      have HW := Lib.hid (show (fun W => Below w7.heap.size w7 W) W2 from hW0.trans (hb2.mono hW0.size))
      clear hW0 hb2
      refine hKK.out _ _ (HW.out) (fun hHeld => ?_)
      clear hKK KK
      try simp only [Act.put, List.setIfInBounds_toArray, List.set_cons_zero, List.set_cons_succ]
      refine wpAnyH_ready (rs := [6]) (by kernel_rfl) (by simp) (AllReadyH.cons rfl (fun KK hKK => ?_) AllReadyH.nil)
      go_simp
      refine (rcan_any N M B la nl lc L (by omega) _ (HRL.out _ HW.out)).mono ?_
      rintro e W3 ⟨⟨v2, rfl, hv2⟩, hb3⟩
      dsimp only
      have hW0 := HW.out
      have HW := Lib.hid (show (fun W => Below w7.heap.size w7 W) W3 from hW0.trans (hb3.mono hW0.size))
      clear hW0 hb3
      obtain rfl := bool_same hv1 ⟨fun h => some_all.1 (hv2.1 h), fun h => hv2.2 (some_all.2 h)⟩
      clear hv1 hv2
      refine hKK.out _ _ (HW.out) (fun hHeld => ?_)
      clear hKK KK
      try simp only [Act.put, List.setIfInBounds_toArray, List.set_cons_zero, List.set_cons_succ]
      refine wpAnyH_take (i := 7) (oi := ⟨some 39, _, _, _, _, none⟩) (v := (.bool true)) rfl (by kernel_rfl) (by kernel_rfl) (by kernel_rfl) (fun _ _ _ h => h) (Or.inl ⟨by rfl, fun W hW => ?_⟩) (by assumption) ?_
      · go_simp
      simp only [Act.put, List.setIfInBounds_toArray, List.set_cons_zero, List.set_cons_succ]
      refine wpAnyH_take (i := 8) (oi := ⟨some 40, _, _, _, _, none⟩) (v := (.bool true)) rfl (by kernel_rfl) (by kernel_rfl) (by kernel_rfl) (fun _ _ _ h => h) (Or.inl ⟨by rfl, fun W hW => ?_⟩) (by assumption) ?_
      · go_simp
      simp only [Act.put, List.setIfInBounds_toArray, List.set_cons_zero, List.set_cons_succ]
      refine wpAnyH_take (i := 9) (oi := ⟨some 41, _, _, _, _, some (8, true)⟩) (v := (.slice (some ⟨gl, 0, none⟩) nl (nl + 12))) rfl (by kernel_rfl) (by kernel_rfl) (by kernel_rfl) (fun _ _ _ h => h) (Or.inl ⟨by rfl, fun W hW => ?_⟩) (by assumption) ?_
      · go_simp
      simp only [Act.put, List.setIfInBounds_toArray, List.set_cons_zero, List.set_cons_succ]
      refine wpAnyH_take (i := 10) (oi := ⟨some 42, _, _, _, _, some (8, true)⟩) (v := (.slice la nl lc)) rfl (by kernel_rfl) (by kernel_rfl) (by kernel_rfl) (fun _ _ _ h => h) (Or.inl ⟨by rfl, fun W hW => ?_⟩) (by assumption) ?_
      · go_simp
      simp only [Act.put, List.setIfInBounds_toArray, List.set_cons_zero, List.set_cons_succ]
      refine wpAnyH_ready (rs := [11]) (by kernel_rfl) (by simp) (AllReadyH.cons rfl (fun KK hKK => ?_) AllReadyH.nil)
      go_simp
      refine (keptInts_any gl la nl lc L _ (HHL.out _ HW.out) (HLL.out _ HW.out) (by omega)).mono ?_
      rintro e W4 ⟨rfl, qq, hqq⟩
      dsimp only
      have hb4 := quiet_b hqq
      have hW0 := HW.out
      have HW := Lib.hid (show (fun W => Below w7.heap.size w7 W) W4 from hW0.trans (hb4.mono hW0.size))
      clear hW0 hb4 hqq
      refine hKK.out _ _ (HW.out) (fun hHeld => ?_)
      clear hKK KK
      try simp only [Act.put, List.setIfInBounds_toArray, List.set_cons_zero, List.set_cons_succ]
      refine wpAnyH_take (i := 12) (oi := ⟨some 44, _, _, _, _, none⟩) (v := (.bool true)) rfl (by kernel_rfl) (by kernel_rfl) (by kernel_rfl) (fun _ _ _ h => h) (Or.inl ⟨by rfl, fun W hW => ?_⟩) (by assumption) ?_
      · go_simp
      simp only [Act.put, List.setIfInBounds_toArray, List.set_cons_zero, List.set_cons_succ]
      refine wpAnyH_take (i := 13) (oi := ⟨some 45, _, _, _, _, none⟩) (v := (.bool true)) rfl (by kernel_rfl) (by kernel_rfl) (by kernel_rfl) (fun _ _ _ h => h) (Or.inl ⟨by rfl, fun W hW => ?_⟩) (by assumption) ?_
      · go_simp
      simp only [Act.put, List.setIfInBounds_toArray, List.set_cons_zero, List.set_cons_succ]
      refine wpAnyH_ready (rs := [14]) (by kernel_rfl) (by simp) (AllReadyH.cons rfl (fun KK hKK => ?_) AllReadyH.nil)
      go_simp
      refine (awake11_any _).mono ?_
      rintro e W5 ⟨rfl, hb5⟩
      dsimp only
      have hW0 := HW.out
      have HW := Lib.hid (show (fun W => Below w7.heap.size w7 W) W5 from hW0.trans (hb5.mono hW0.size))
      clear hW0 hb5
      refine hKK.out _ _ (HW.out) (fun hHeld => ?_)
      clear hKK KK
      try simp only [Act.put, List.setIfInBounds_toArray, List.set_cons_zero, List.set_cons_succ]
      refine wpAnyH_take (i := 15) (oi := ⟨some 47, _, _, _, _, none⟩) (v := (.bool true)) rfl (by kernel_rfl) (by kernel_rfl) (by kernel_rfl) (fun _ _ _ h => h) (Or.inl ⟨by rfl, fun W hW => ?_⟩) (by assumption) ?_
      · go_simp
      simp only [Act.put, List.setIfInBounds_toArray, List.set_cons_zero, List.set_cons_succ]
      refine wpAnyH_ready (rs := [16]) (by kernel_rfl) (by simp) (AllReadyH.cons rfl (fun KK hKK => ?_) AllReadyH.nil)
      go_simp
      refine hKK.out _ _ (HW.out) (fun hHeld => ?_)
      clear hKK KK
      try simp only [Act.put, List.setIfInBounds_toArray, List.set_cons_zero, List.set_cons_succ]
      refine wpAnyH_done (by kernel_rfl) ?_ _
      have HB8 := Lib.hid (HB7.out.trans (HW.out.mono hs7))
      go_wp2
      go_ret
      exact ⟨rfl, HB8.out⟩
    · have g3 : decide ((4 : Int) < nl) = true := by simp; omega
      have g4 : decide ((nl : Int) < 9) = false := by simp; omega
      clear h3 h4
      rcases hc with h5 | h5
      · have g5 : decide ((300 : Int) < nl) = true := by simp; omega
        clear h5
        go_wp2_with fail
        refine (HAW.out _ HB0.out).mono ?_
        rintro e w1 ⟨rfl, hB⟩
        have HB := Lib.hid hB; clear hB
        go_wp2
        go_ret
        exact ⟨rfl, HB.out⟩
      have g5 : decide ((300 : Int) < nl) = false := by simp; omega
      go_wp2_with fail
      generalize w.alloc (.cells #[.int .i64 N, .int .i64 M, .int .i64 B] 23) = w0 at *
      have hs0 := HB0.out.size
      refine (lentInts_any la nl lc L _ (HL.out.same HB0.out) (by omega)).mono ?_
      rintro e w7 ⟨rfl, hG, hB7⟩
      have HL7 := Lib.hid hG; have HB7 := Lib.hid (HB0.out.trans (hB7.mono hs0)); have HX7 := Lib.hid ((hB7.block _ hl0).trans HX0.out)
      have hs7 := HB7.out.size
      clear hG hB7
      generalize w0.heap.size = gl at *
      have HSL := Lib.hid (fun (W : World) (q : Below w7.heap.size w7 W) => blk_si W (HL7.out.same q)); have HLL := Lib.hid (fun (W : World) (q : Below w7.heap.size w7 W) => HL7.out.same q)
      have HHL := Lib.hid (fun (W : World) (q : Below w7.heap.size w7 W) => HL.out.same (HB7.out.trans (q.mono hs7)))
      have HRL := Lib.hid (fun (W : World) (q : Below w7.heap.size w7 W) => (HL.out.same (HB7.out.trans (q.mono hs7))).si)
      have HW := Lib.hid (show (fun W => Below w7.heap.size w7 W) w7.drew from (Below.refl _ w7).drew)
      have q5 : ∀ v : Bool, (v == v) = true := fun v => by simp
      go_wp2_with fail
      refine wp_region_held_drew (S := fun W => Below w7.heap.size w7 W) (by kernel_rfl) (HW.out) (fun hHeld => ?_)
      refine wpAnyH_take (i := 0) (oi := ⟨some 32, _, _, _, _, none⟩) (v := (bV N M B)) rfl (by kernel_rfl) (by kernel_rfl) (by kernel_rfl) (fun _ _ _ h => h) (Or.inl ⟨by rfl, fun W hW => ?_⟩) (by assumption) ?_
      · (obtain ⟨c0, c1, c2⟩ := box3 ((hW.block _ (Array.getElem?_eq_some_iff.1 HX7.out).1).trans HX7.out); go_simp; try rfl)
      simp only [Act.put, List.setIfInBounds_toArray, List.set_cons_zero, List.set_cons_succ]
      refine wpAnyH_take (i := 1) (oi := ⟨some 33, _, _, _, _, none⟩) (v := (.slice (some ⟨gl, 0, none⟩) nl (nl + 12))) rfl (by kernel_rfl) (by kernel_rfl) (by kernel_rfl) (fun _ _ _ h => h) (Or.inl ⟨by rfl, fun W hW => ?_⟩) (by assumption) ?_
      · go_simp
      simp only [Act.put, List.setIfInBounds_toArray, List.set_cons_zero, List.set_cons_succ]
      refine wpAnyH_take (i := 3) (oi := ⟨some 35, _, _, _, _, none⟩) (v := (bV N M B)) rfl (by kernel_rfl) (by kernel_rfl) (by kernel_rfl) (fun _ _ _ h => h) (Or.inl ⟨by rfl, fun W hW => ?_⟩) (by assumption) ?_
      · (obtain ⟨c0, c1, c2⟩ := box3 ((hW.block _ (Array.getElem?_eq_some_iff.1 HX7.out).1).trans HX7.out); go_simp; try rfl)
      simp only [Act.put, List.setIfInBounds_toArray, List.set_cons_zero, List.set_cons_succ]
      refine wpAnyH_take (i := 5) (oi := ⟨some 37, _, _, _, _, none⟩) (v := (.slice la nl lc)) rfl (by kernel_rfl) (by kernel_rfl) (by kernel_rfl) (fun _ _ _ h => h) (Or.inl ⟨by rfl, fun W hW => ?_⟩) (by assumption) ?_
      · go_simp
      simp only [Act.put, List.setIfInBounds_toArray, List.set_cons_zero, List.set_cons_succ]
      refine wpAnyH_ready (rs := [2]) (by kernel_rfl) (by simp) (AllReadyH.cons rfl (fun KK hKK => ?_) AllReadyH.nil)
      go_simp
      refine (can_any N M B _ nl _ L (by omega) _ (HSL.out _ HW.out)).mono ?_
      rintro e W1 ⟨⟨v1, rfl, hv1⟩, hb1⟩
      dsimp only
      have hW0 := HW.out
      have HW := Lib.hid (show (fun W => Below w7.heap.size w7 W) W1 from hW0.trans (hb1.mono hW0.size))
      clear hW0 hb1
      refine hKK.out _ _ (HW.out) (fun hHeld => ?_)
      clear hKK KK
      try simp only [Act.put, List.setIfInBounds_toArray, List.set_cons_zero, List.set_cons_succ]
      refine wpAnyH_ready (rs := [4]) (by kernel_rfl) (by simp) (AllReadyH.cons rfl (fun KK hKK => ?_) AllReadyH.nil)
      go_simp
      refine (theirs_any N M B _).mono ?_
      rintro e W2 ⟨rfl, hb2⟩
      dsimp only
      have hW0 := HW.out
      have HW := Lib.hid (show (fun W => Below w7.heap.size w7 W) W2 from hW0.trans (hb2.mono hW0.size))
      clear hW0 hb2
      refine hKK.out _ _ (HW.out) (fun hHeld => ?_)
      clear hKK KK
      try simp only [Act.put, List.setIfInBounds_toArray, List.set_cons_zero, List.set_cons_succ]
      refine wpAnyH_ready (rs := [6]) (by kernel_rfl) (by simp) (AllReadyH.cons rfl (fun KK hKK => ?_) AllReadyH.nil)
      go_simp
      refine (rcan_any N M B la nl lc L (by omega) _ (HRL.out _ HW.out)).mono ?_
      rintro e W3 ⟨⟨v2, rfl, hv2⟩, hb3⟩
      dsimp only
      have hW0 := HW.out
      have HW := Lib.hid (show (fun W => Below w7.heap.size w7 W) W3 from hW0.trans (hb3.mono hW0.size))
      clear hW0 hb3
      obtain rfl := bool_same hv1 ⟨fun h => some_all.1 (hv2.1 h), fun h => hv2.2 (some_all.2 h)⟩
      clear hv1 hv2
      refine hKK.out _ _ (HW.out) (fun hHeld => ?_)
      clear hKK KK
      try simp only [Act.put, List.setIfInBounds_toArray, List.set_cons_zero, List.set_cons_succ]
      refine wpAnyH_take (i := 7) (oi := ⟨some 39, _, _, _, _, none⟩) (v := (.bool true)) rfl (by kernel_rfl) (by kernel_rfl) (by kernel_rfl) (fun _ _ _ h => h) (Or.inl ⟨by rfl, fun W hW => ?_⟩) (by assumption) ?_
      · go_simp
      simp only [Act.put, List.setIfInBounds_toArray, List.set_cons_zero, List.set_cons_succ]
      refine wpAnyH_take (i := 8) (oi := ⟨some 40, _, _, _, _, none⟩) (v := (.bool true)) rfl (by kernel_rfl) (by kernel_rfl) (by kernel_rfl) (fun _ _ _ h => h) (Or.inl ⟨by rfl, fun W hW => ?_⟩) (by assumption) ?_
      · go_simp
      simp only [Act.put, List.setIfInBounds_toArray, List.set_cons_zero, List.set_cons_succ]
      refine wpAnyH_take (i := 9) (oi := ⟨some 41, _, _, _, _, some (8, true)⟩) (v := (.slice (some ⟨gl, 0, none⟩) nl (nl + 12))) rfl (by kernel_rfl) (by kernel_rfl) (by kernel_rfl) (fun _ _ _ h => h) (Or.inl ⟨by rfl, fun W hW => ?_⟩) (by assumption) ?_
      · go_simp
      simp only [Act.put, List.setIfInBounds_toArray, List.set_cons_zero, List.set_cons_succ]
      refine wpAnyH_take (i := 10) (oi := ⟨some 42, _, _, _, _, some (8, true)⟩) (v := (.slice la nl lc)) rfl (by kernel_rfl) (by kernel_rfl) (by kernel_rfl) (fun _ _ _ h => h) (Or.inl ⟨by rfl, fun W hW => ?_⟩) (by assumption) ?_
      · go_simp
      simp only [Act.put, List.setIfInBounds_toArray, List.set_cons_zero, List.set_cons_succ]
      refine wpAnyH_ready (rs := [11]) (by kernel_rfl) (by simp) (AllReadyH.cons rfl (fun KK hKK => ?_) AllReadyH.nil)
      go_simp
      refine (keptInts_any gl la nl lc L _ (HHL.out _ HW.out) (HLL.out _ HW.out) (by omega)).mono ?_
      rintro e W4 ⟨rfl, qq, hqq⟩
      dsimp only
      have hb4 := quiet_b hqq
      have hW0 := HW.out
      have HW := Lib.hid (show (fun W => Below w7.heap.size w7 W) W4 from hW0.trans (hb4.mono hW0.size))
      clear hW0 hb4 hqq
      refine hKK.out _ _ (HW.out) (fun hHeld => ?_)
      clear hKK KK
      try simp only [Act.put, List.setIfInBounds_toArray, List.set_cons_zero, List.set_cons_succ]
      refine wpAnyH_take (i := 12) (oi := ⟨some 44, _, _, _, _, none⟩) (v := (.bool true)) rfl (by kernel_rfl) (by kernel_rfl) (by kernel_rfl) (fun _ _ _ h => h) (Or.inl ⟨by rfl, fun W hW => ?_⟩) (by assumption) ?_
      · go_simp
      simp only [Act.put, List.setIfInBounds_toArray, List.set_cons_zero, List.set_cons_succ]
      refine wpAnyH_take (i := 13) (oi := ⟨some 45, _, _, _, _, none⟩) (v := (.bool true)) rfl (by kernel_rfl) (by kernel_rfl) (by kernel_rfl) (fun _ _ _ h => h) (Or.inl ⟨by rfl, fun W hW => ?_⟩) (by assumption) ?_
      · go_simp
      simp only [Act.put, List.setIfInBounds_toArray, List.set_cons_zero, List.set_cons_succ]
      refine wpAnyH_ready (rs := [14]) (by kernel_rfl) (by simp) (AllReadyH.cons rfl (fun KK hKK => ?_) AllReadyH.nil)
      go_simp
      refine (awake11_any _).mono ?_
      rintro e W5 ⟨rfl, hb5⟩
      dsimp only
      have hW0 := HW.out
      have HW := Lib.hid (show (fun W => Below w7.heap.size w7 W) W5 from hW0.trans (hb5.mono hW0.size))
      clear hW0 hb5
      refine hKK.out _ _ (HW.out) (fun hHeld => ?_)
      clear hKK KK
      try simp only [Act.put, List.setIfInBounds_toArray, List.set_cons_zero, List.set_cons_succ]
      refine wpAnyH_take (i := 15) (oi := ⟨some 47, _, _, _, _, none⟩) (v := (.bool true)) rfl (by kernel_rfl) (by kernel_rfl) (by kernel_rfl) (fun _ _ _ h => h) (Or.inl ⟨by rfl, fun W hW => ?_⟩) (by assumption) ?_
      · go_simp
      simp only [Act.put, List.setIfInBounds_toArray, List.set_cons_zero, List.set_cons_succ]
      refine wpAnyH_ready (rs := [16]) (by kernel_rfl) (by simp) (AllReadyH.cons rfl (fun KK hKK => ?_) AllReadyH.nil)
      go_simp
      refine hKK.out _ _ (HW.out) (fun hHeld => ?_)
      clear hKK KK
      try simp only [Act.put, List.setIfInBounds_toArray, List.set_cons_zero, List.set_cons_succ]
      refine wpAnyH_done (by kernel_rfl) ?_ _
      have HB8 := Lib.hid (HB7.out.trans (HW.out.mono hs7))
      go_wp2
      go_ret
      exact ⟨rfl, HB8.out⟩
  · have g1 : decide (9 < N) = true := by simp [h1]
    have g2 : decide (N ≤ 255) = false := by simp; omega
    clear h1 h2
    rcases hn with ⟨h3, h4⟩ | hn
    · have g3 : decide ((4 : Int) < nl) = true := by simp; omega
      have g4 : decide ((nl : Int) < 9) = true := by simp; omega
      clear h3 h4 hc
      go_wp2_with fail
      refine (HAW.out _ HB0.out).mono ?_
      rintro e w1 ⟨rfl, hB⟩
      have HB := Lib.hid hB; clear hB
      go_wp2
      go_ret
      exact ⟨rfl, HB.out⟩
    rcases hn with ⟨h3, h4⟩ | h3
    rotate_left
    · have g3 : decide ((4 : Int) < nl) = false := by simp; omega
      clear h3
      rcases hc with h5 | h5
      · have g5 : decide ((300 : Int) < nl) = true := by simp; omega
        clear h5
        go_wp2_with fail
        refine (HAW.out _ HB0.out).mono ?_
        rintro e w1 ⟨rfl, hB⟩
        have HB := Lib.hid hB; clear hB
        go_wp2
        go_ret
        exact ⟨rfl, HB.out⟩
      have g5 : decide ((300 : Int) < nl) = false := by simp; omega
      go_wp2_with fail
      generalize w.alloc (.cells #[.int .i64 N, .int .i64 M, .int .i64 B] 23) = w0 at *
      have hs0 := HB0.out.size
      refine (lentInts_any la nl lc L _ (HL.out.same HB0.out) (by omega)).mono ?_
      rintro e w7 ⟨rfl, hG, hB7⟩
      have HL7 := Lib.hid hG; have HB7 := Lib.hid (HB0.out.trans (hB7.mono hs0)); have HX7 := Lib.hid ((hB7.block _ hl0).trans HX0.out)
      have hs7 := HB7.out.size
      clear hG hB7
      generalize w0.heap.size = gl at *
      have HSL := Lib.hid (fun (W : World) (q : Below w7.heap.size w7 W) => blk_si W (HL7.out.same q)); have HLL := Lib.hid (fun (W : World) (q : Below w7.heap.size w7 W) => HL7.out.same q)
      have HHL := Lib.hid (fun (W : World) (q : Below w7.heap.size w7 W) => HL.out.same (HB7.out.trans (q.mono hs7)))
      have HRL := Lib.hid (fun (W : World) (q : Below w7.heap.size w7 W) => (HL.out.same (HB7.out.trans (q.mono hs7))).si)
      have HW := Lib.hid (show (fun W => Below w7.heap.size w7 W) w7.drew from (Below.refl _ w7).drew)
      have q5 : ∀ v : Bool, (v == v) = true := fun v => by simp
      go_wp2_with fail
      refine wp_region_held_drew (S := fun W => Below w7.heap.size w7 W) (by kernel_rfl) (HW.out) (fun hHeld => ?_)
      refine wpAnyH_take (i := 0) (oi := ⟨some 32, _, _, _, _, none⟩) (v := (bV N M B)) rfl (by kernel_rfl) (by kernel_rfl) (by kernel_rfl) (fun _ _ _ h => h) (Or.inl ⟨by rfl, fun W hW => ?_⟩) (by assumption) ?_
      · (obtain ⟨c0, c1, c2⟩ := box3 ((hW.block _ (Array.getElem?_eq_some_iff.1 HX7.out).1).trans HX7.out); go_simp; try rfl)
      simp only [Act.put, List.setIfInBounds_toArray, List.set_cons_zero, List.set_cons_succ]
      refine wpAnyH_take (i := 1) (oi := ⟨some 33, _, _, _, _, none⟩) (v := (.slice (some ⟨gl, 0, none⟩) nl (nl + 12))) rfl (by kernel_rfl) (by kernel_rfl) (by kernel_rfl) (fun _ _ _ h => h) (Or.inl ⟨by rfl, fun W hW => ?_⟩) (by assumption) ?_
      · go_simp
      simp only [Act.put, List.setIfInBounds_toArray, List.set_cons_zero, List.set_cons_succ]
      refine wpAnyH_take (i := 3) (oi := ⟨some 35, _, _, _, _, none⟩) (v := (bV N M B)) rfl (by kernel_rfl) (by kernel_rfl) (by kernel_rfl) (fun _ _ _ h => h) (Or.inl ⟨by rfl, fun W hW => ?_⟩) (by assumption) ?_
      · (obtain ⟨c0, c1, c2⟩ := box3 ((hW.block _ (Array.getElem?_eq_some_iff.1 HX7.out).1).trans HX7.out); go_simp; try rfl)
      simp only [Act.put, List.setIfInBounds_toArray, List.set_cons_zero, List.set_cons_succ]
      refine wpAnyH_take (i := 5) (oi := ⟨some 37, _, _, _, _, none⟩) (v := (.slice la nl lc)) rfl (by kernel_rfl) (by kernel_rfl) (by kernel_rfl) (fun _ _ _ h => h) (Or.inl ⟨by rfl, fun W hW => ?_⟩) (by assumption) ?_
      · go_simp
      simp only [Act.put, List.setIfInBounds_toArray, List.set_cons_zero, List.set_cons_succ]
      refine wpAnyH_ready (rs := [2]) (by kernel_rfl) (by simp) (AllReadyH.cons rfl (fun KK hKK => ?_) AllReadyH.nil)
      go_simp
      refine (can_any N M B _ nl _ L (by omega) _ (HSL.out _ HW.out)).mono ?_
      rintro e W1 ⟨⟨v1, rfl, hv1⟩, hb1⟩
      dsimp only
      have hW0 := HW.out
      have HW := Lib.hid (show (fun W => Below w7.heap.size w7 W) W1 from hW0.trans (hb1.mono hW0.size))
      clear hW0 hb1
      refine hKK.out _ _ (HW.out) (fun hHeld => ?_)
      clear hKK KK
      try simp only [Act.put, List.setIfInBounds_toArray, List.set_cons_zero, List.set_cons_succ]
      refine wpAnyH_ready (rs := [4]) (by kernel_rfl) (by simp) (AllReadyH.cons rfl (fun KK hKK => ?_) AllReadyH.nil)
      go_simp
      refine (theirs_any N M B _).mono ?_
      rintro e W2 ⟨rfl, hb2⟩
      dsimp only
      have hW0 := HW.out
      have HW := Lib.hid (show (fun W => Below w7.heap.size w7 W) W2 from hW0.trans (hb2.mono hW0.size))
      clear hW0 hb2
      refine hKK.out _ _ (HW.out) (fun hHeld => ?_)
      clear hKK KK
      try simp only [Act.put, List.setIfInBounds_toArray, List.set_cons_zero, List.set_cons_succ]
      refine wpAnyH_ready (rs := [6]) (by kernel_rfl) (by simp) (AllReadyH.cons rfl (fun KK hKK => ?_) AllReadyH.nil)
      go_simp
      refine (rcan_any N M B la nl lc L (by omega) _ (HRL.out _ HW.out)).mono ?_
      rintro e W3 ⟨⟨v2, rfl, hv2⟩, hb3⟩
      dsimp only
      have hW0 := HW.out
      have HW := Lib.hid (show (fun W => Below w7.heap.size w7 W) W3 from hW0.trans (hb3.mono hW0.size))
      clear hW0 hb3
      obtain rfl := bool_same hv1 ⟨fun h => some_all.1 (hv2.1 h), fun h => hv2.2 (some_all.2 h)⟩
      clear hv1 hv2
      refine hKK.out _ _ (HW.out) (fun hHeld => ?_)
      clear hKK KK
      try simp only [Act.put, List.setIfInBounds_toArray, List.set_cons_zero, List.set_cons_succ]
      refine wpAnyH_take (i := 7) (oi := ⟨some 39, _, _, _, _, none⟩) (v := (.bool true)) rfl (by kernel_rfl) (by kernel_rfl) (by kernel_rfl) (fun _ _ _ h => h) (Or.inl ⟨by rfl, fun W hW => ?_⟩) (by assumption) ?_
      · go_simp
      simp only [Act.put, List.setIfInBounds_toArray, List.set_cons_zero, List.set_cons_succ]
      refine wpAnyH_take (i := 8) (oi := ⟨some 40, _, _, _, _, none⟩) (v := (.bool true)) rfl (by kernel_rfl) (by kernel_rfl) (by kernel_rfl) (fun _ _ _ h => h) (Or.inl ⟨by rfl, fun W hW => ?_⟩) (by assumption) ?_
      · go_simp
      simp only [Act.put, List.setIfInBounds_toArray, List.set_cons_zero, List.set_cons_succ]
      refine wpAnyH_take (i := 9) (oi := ⟨some 41, _, _, _, _, some (8, true)⟩) (v := (.slice (some ⟨gl, 0, none⟩) nl (nl + 12))) rfl (by kernel_rfl) (by kernel_rfl) (by kernel_rfl) (fun _ _ _ h => h) (Or.inl ⟨by rfl, fun W hW => ?_⟩) (by assumption) ?_
      · go_simp
      simp only [Act.put, List.setIfInBounds_toArray, List.set_cons_zero, List.set_cons_succ]
      refine wpAnyH_take (i := 10) (oi := ⟨some 42, _, _, _, _, some (8, true)⟩) (v := (.slice la nl lc)) rfl (by kernel_rfl) (by kernel_rfl) (by kernel_rfl) (fun _ _ _ h => h) (Or.inl ⟨by rfl, fun W hW => ?_⟩) (by assumption) ?_
      · go_simp
      simp only [Act.put, List.setIfInBounds_toArray, List.set_cons_zero, List.set_cons_succ]
      refine wpAnyH_ready (rs := [11]) (by kernel_rfl) (by simp) (AllReadyH.cons rfl (fun KK hKK => ?_) AllReadyH.nil)
      go_simp
      refine (keptInts_any gl la nl lc L _ (HHL.out _ HW.out) (HLL.out _ HW.out) (by omega)).mono ?_
      rintro e W4 ⟨rfl, qq, hqq⟩
      dsimp only
      have hb4 := quiet_b hqq
      have hW0 := HW.out
      have HW := Lib.hid (show (fun W => Below w7.heap.size w7 W) W4 from hW0.trans (hb4.mono hW0.size))
      clear hW0 hb4 hqq
      refine hKK.out _ _ (HW.out) (fun hHeld => ?_)
      clear hKK KK
      try simp only [Act.put, List.setIfInBounds_toArray, List.set_cons_zero, List.set_cons_succ]
      refine wpAnyH_take (i := 12) (oi := ⟨some 44, _, _, _, _, none⟩) (v := (.bool true)) rfl (by kernel_rfl) (by kernel_rfl) (by kernel_rfl) (fun _ _ _ h => h) (Or.inl ⟨by rfl, fun W hW => ?_⟩) (by assumption) ?_
      · go_simp
      simp only [Act.put, List.setIfInBounds_toArray, List.set_cons_zero, List.set_cons_succ]
      refine wpAnyH_take (i := 13) (oi := ⟨some 45, _, _, _, _, none⟩) (v := (.bool true)) rfl (by kernel_rfl) (by kernel_rfl) (by kernel_rfl) (fun _ _ _ h => h) (Or.inl ⟨by rfl, fun W hW => ?_⟩) (by assumption) ?_
      · go_simp
      simp only [Act.put, List.setIfInBounds_toArray, List.set_cons_zero, List.set_cons_succ]
      refine wpAnyH_ready (rs := [14]) (by kernel_rfl) (by simp) (AllReadyH.cons rfl (fun KK hKK => ?_) AllReadyH.nil)
      go_simp
      refine (awake11_any _).mono ?_
      rintro e W5 ⟨rfl, hb5⟩
      dsimp only
      have hW0 := HW.out
      have HW := Lib.hid (show (fun W => Below w7.heap.size w7 W) W5 from hW0.trans (hb5.mono hW0.size))
      clear hW0 hb5
      refine hKK.out _ _ (HW.out) (fun hHeld => ?_)
      clear hKK KK
      try simp only [Act.put, List.setIfInBounds_toArray, List.set_cons_zero, List.set_cons_succ]
      refine wpAnyH_take (i := 15) (oi := ⟨some 47, _, _, _, _, none⟩) (v := (.bool true)) rfl (by kernel_rfl) (by kernel_rfl) (by kernel_rfl) (fun _ _ _ h => h) (Or.inl ⟨by rfl, fun W hW => ?_⟩) (by assumption) ?_
      · go_simp
      simp only [Act.put, List.setIfInBounds_toArray, List.set_cons_zero, List.set_cons_succ]
      refine wpAnyH_ready (rs := [16]) (by kernel_rfl) (by simp) (AllReadyH.cons rfl (fun KK hKK => ?_) AllReadyH.nil)
      go_simp
      refine hKK.out _ _ (HW.out) (fun hHeld => ?_)
      clear hKK KK
      try simp only [Act.put, List.setIfInBounds_toArray, List.set_cons_zero, List.set_cons_succ]
      refine wpAnyH_done (by kernel_rfl) ?_ _
      have HB8 := Lib.hid (HB7.out.trans (HW.out.mono hs7))
      go_wp2
      go_ret
      exact ⟨rfl, HB8.out⟩
    · have g3 : decide ((4 : Int) < nl) = true := by simp; omega
      have g4 : decide ((nl : Int) < 9) = false := by simp; omega
      clear h3 h4
      rcases hc with h5 | h5
      · have g5 : decide ((300 : Int) < nl) = true := by simp; omega
        clear h5
        go_wp2_with fail
        refine (HAW.out _ HB0.out).mono ?_
        rintro e w1 ⟨rfl, hB⟩
        have HB := Lib.hid hB; clear hB
        go_wp2
        go_ret
        exact ⟨rfl, HB.out⟩
      have g5 : decide ((300 : Int) < nl) = false := by simp; omega
      go_wp2_with fail
      generalize w.alloc (.cells #[.int .i64 N, .int .i64 M, .int .i64 B] 23) = w0 at *
      have hs0 := HB0.out.size
      refine (lentInts_any la nl lc L _ (HL.out.same HB0.out) (by omega)).mono ?_
      rintro e w7 ⟨rfl, hG, hB7⟩
      have HL7 := Lib.hid hG; have HB7 := Lib.hid (HB0.out.trans (hB7.mono hs0)); have HX7 := Lib.hid ((hB7.block _ hl0).trans HX0.out)
      have hs7 := HB7.out.size
      clear hG hB7
      generalize w0.heap.size = gl at *
      have HSL := Lib.hid (fun (W : World) (q : Below w7.heap.size w7 W) => blk_si W (HL7.out.same q)); have HLL := Lib.hid (fun (W : World) (q : Below w7.heap.size w7 W) => HL7.out.same q)
      have HHL := Lib.hid (fun (W : World) (q : Below w7.heap.size w7 W) => HL.out.same (HB7.out.trans (q.mono hs7)))
      have HRL := Lib.hid (fun (W : World) (q : Below w7.heap.size w7 W) => (HL.out.same (HB7.out.trans (q.mono hs7))).si)
      have HW := Lib.hid (show (fun W => Below w7.heap.size w7 W) w7.drew from (Below.refl _ w7).drew)
      have q5 : ∀ v : Bool, (v == v) = true := fun v => by simp
      go_wp2_with fail
      refine wp_region_held_drew (S := fun W => Below w7.heap.size w7 W) (by kernel_rfl) (HW.out) (fun hHeld => ?_)
      refine wpAnyH_take (i := 0) (oi := ⟨some 32, _, _, _, _, none⟩) (v := (bV N M B)) rfl (by kernel_rfl) (by kernel_rfl) (by kernel_rfl) (fun _ _ _ h => h) (Or.inl ⟨by rfl, fun W hW => ?_⟩) (by assumption) ?_
      · (obtain ⟨c0, c1, c2⟩ := box3 ((hW.block _ (Array.getElem?_eq_some_iff.1 HX7.out).1).trans HX7.out); go_simp; try rfl)
      simp only [Act.put, List.setIfInBounds_toArray, List.set_cons_zero, List.set_cons_succ]
      refine wpAnyH_take (i := 1) (oi := ⟨some 33, _, _, _, _, none⟩) (v := (.slice (some ⟨gl, 0, none⟩) nl (nl + 12))) rfl (by kernel_rfl) (by kernel_rfl) (by kernel_rfl) (fun _ _ _ h => h) (Or.inl ⟨by rfl, fun W hW => ?_⟩) (by assumption) ?_
      · go_simp
      simp only [Act.put, List.setIfInBounds_toArray, List.set_cons_zero, List.set_cons_succ]
      refine wpAnyH_take (i := 3) (oi := ⟨some 35, _, _, _, _, none⟩) (v := (bV N M B)) rfl (by kernel_rfl) (by kernel_rfl) (by kernel_rfl) (fun _ _ _ h => h) (Or.inl ⟨by rfl, fun W hW => ?_⟩) (by assumption) ?_
      · (obtain ⟨c0, c1, c2⟩ := box3 ((hW.block _ (Array.getElem?_eq_some_iff.1 HX7.out).1).trans HX7.out); go_simp; try rfl)
      simp only [Act.put, List.setIfInBounds_toArray, List.set_cons_zero, List.set_cons_succ]
      refine wpAnyH_take (i := 5) (oi := ⟨some 37, _, _, _, _, none⟩) (v := (.slice la nl lc)) rfl (by kernel_rfl) (by kernel_rfl) (by kernel_rfl) (fun _ _ _ h => h) (Or.inl ⟨by rfl, fun W hW => ?_⟩) (by assumption) ?_
      · go_simp
      simp only [Act.put, List.setIfInBounds_toArray, List.set_cons_zero, List.set_cons_succ]
      refine wpAnyH_ready (rs := [2]) (by kernel_rfl) (by simp) (AllReadyH.cons rfl (fun KK hKK => ?_) AllReadyH.nil)
      go_simp
      refine (can_any N M B _ nl _ L (by omega) _ (HSL.out _ HW.out)).mono ?_
      rintro e W1 ⟨⟨v1, rfl, hv1⟩, hb1⟩
      dsimp only
      have hW0 := HW.out
      have HW := Lib.hid (show (fun W => Below w7.heap.size w7 W) W1 from hW0.trans (hb1.mono hW0.size))
      clear hW0 hb1
      refine hKK.out _ _ (HW.out) (fun hHeld => ?_)
      clear hKK KK
      try simp only [Act.put, List.setIfInBounds_toArray, List.set_cons_zero, List.set_cons_succ]
      refine wpAnyH_ready (rs := [4]) (by kernel_rfl) (by simp) (AllReadyH.cons rfl (fun KK hKK => ?_) AllReadyH.nil)
      go_simp
      refine (theirs_any N M B _).mono ?_
      rintro e W2 ⟨rfl, hb2⟩
      dsimp only
      have hW0 := HW.out
      have HW := Lib.hid (show (fun W => Below w7.heap.size w7 W) W2 from hW0.trans (hb2.mono hW0.size))
      clear hW0 hb2
      refine hKK.out _ _ (HW.out) (fun hHeld => ?_)
      clear hKK KK
      try simp only [Act.put, List.setIfInBounds_toArray, List.set_cons_zero, List.set_cons_succ]
      refine wpAnyH_ready (rs := [6]) (by kernel_rfl) (by simp) (AllReadyH.cons rfl (fun KK hKK => ?_) AllReadyH.nil)
      go_simp
      refine (rcan_any N M B la nl lc L (by omega) _ (HRL.out _ HW.out)).mono ?_
      rintro e W3 ⟨⟨v2, rfl, hv2⟩, hb3⟩
      dsimp only
      have hW0 := HW.out
      have HW := Lib.hid (show (fun W => Below w7.heap.size w7 W) W3 from hW0.trans (hb3.mono hW0.size))
      clear hW0 hb3
      obtain rfl := bool_same hv1 ⟨fun h => some_all.1 (hv2.1 h), fun h => hv2.2 (some_all.2 h)⟩
      clear hv1 hv2
      refine hKK.out _ _ (HW.out) (fun hHeld => ?_)
      clear hKK KK
      try simp only [Act.put, List.setIfInBounds_toArray, List.set_cons_zero, List.set_cons_succ]
      refine wpAnyH_take (i := 7) (oi := ⟨some 39, _, _, _, _, none⟩) (v := (.bool true)) rfl (by kernel_rfl) (by kernel_rfl) (by kernel_rfl) (fun _ _ _ h => h) (Or.inl ⟨by rfl, fun W hW => ?_⟩) (by assumption) ?_
      · go_simp
      simp only [Act.put, List.setIfInBounds_toArray, List.set_cons_zero, List.set_cons_succ]
      refine wpAnyH_take (i := 8) (oi := ⟨some 40, _, _, _, _, none⟩) (v := (.bool true)) rfl (by kernel_rfl) (by kernel_rfl) (by kernel_rfl) (fun _ _ _ h => h) (Or.inl ⟨by rfl, fun W hW => ?_⟩) (by assumption) ?_
      · go_simp
      simp only [Act.put, List.setIfInBounds_toArray, List.set_cons_zero, List.set_cons_succ]
      refine wpAnyH_take (i := 9) (oi := ⟨some 41, _, _, _, _, some (8, true)⟩) (v := (.slice (some ⟨gl, 0, none⟩) nl (nl + 12))) rfl (by kernel_rfl) (by kernel_rfl) (by kernel_rfl) (fun _ _ _ h => h) (Or.inl ⟨by rfl, fun W hW => ?_⟩) (by assumption) ?_
      · go_simp
      simp only [Act.put, List.setIfInBounds_toArray, List.set_cons_zero, List.set_cons_succ]
      refine wpAnyH_take (i := 10) (oi := ⟨some 42, _, _, _, _, some (8, true)⟩) (v := (.slice la nl lc)) rfl (by kernel_rfl) (by kernel_rfl) (by kernel_rfl) (fun _ _ _ h => h) (Or.inl ⟨by rfl, fun W hW => ?_⟩) (by assumption) ?_
      · go_simp
      simp only [Act.put, List.setIfInBounds_toArray, List.set_cons_zero, List.set_cons_succ]
      refine wpAnyH_ready (rs := [11]) (by kernel_rfl) (by simp) (AllReadyH.cons rfl (fun KK hKK => ?_) AllReadyH.nil)
      go_simp
      refine (keptInts_any gl la nl lc L _ (HHL.out _ HW.out) (HLL.out _ HW.out) (by omega)).mono ?_
      rintro e W4 ⟨rfl, qq, hqq⟩
      dsimp only
      have hb4 := quiet_b hqq
      have hW0 := HW.out
      have HW := Lib.hid (show (fun W => Below w7.heap.size w7 W) W4 from hW0.trans (hb4.mono hW0.size))
      clear hW0 hb4 hqq
      refine hKK.out _ _ (HW.out) (fun hHeld => ?_)
      clear hKK KK
      try simp only [Act.put, List.setIfInBounds_toArray, List.set_cons_zero, List.set_cons_succ]
      refine wpAnyH_take (i := 12) (oi := ⟨some 44, _, _, _, _, none⟩) (v := (.bool true)) rfl (by kernel_rfl) (by kernel_rfl) (by kernel_rfl) (fun _ _ _ h => h) (Or.inl ⟨by rfl, fun W hW => ?_⟩) (by assumption) ?_
      · go_simp
      simp only [Act.put, List.setIfInBounds_toArray, List.set_cons_zero, List.set_cons_succ]
      refine wpAnyH_take (i := 13) (oi := ⟨some 45, _, _, _, _, none⟩) (v := (.bool true)) rfl (by kernel_rfl) (by kernel_rfl) (by kernel_rfl) (fun _ _ _ h => h) (Or.inl ⟨by rfl, fun W hW => ?_⟩) (by assumption) ?_
      · go_simp
      simp only [Act.put, List.setIfInBounds_toArray, List.set_cons_zero, List.set_cons_succ]
      refine wpAnyH_ready (rs := [14]) (by kernel_rfl) (by simp) (AllReadyH.cons rfl (fun KK hKK => ?_) AllReadyH.nil)
      go_simp
      refine (awake11_any _).mono ?_
      rintro e W5 ⟨rfl, hb5⟩
      dsimp only
      have hW0 := HW.out
      have HW := Lib.hid (show (fun W => Below w7.heap.size w7 W) W5 from hW0.trans (hb5.mono hW0.size))
      clear hW0 hb5
      refine hKK.out _ _ (HW.out) (fun hHeld => ?_)
      clear hKK KK
      try simp only [Act.put, List.setIfInBounds_toArray, List.set_cons_zero, List.set_cons_succ]
      refine wpAnyH_take (i := 15) (oi := ⟨some 47, _, _, _, _, none⟩) (v := (.bool true)) rfl (by kernel_rfl) (by kernel_rfl) (by kernel_rfl) (fun _ _ _ h => h) (Or.inl ⟨by rfl, fun W hW => ?_⟩) (by assumption) ?_
      · go_simp
      simp only [Act.put, List.setIfInBounds_toArray, List.set_cons_zero, List.set_cons_succ]
      refine wpAnyH_ready (rs := [16]) (by kernel_rfl) (by simp) (AllReadyH.cons rfl (fun KK hKK => ?_) AllReadyH.nil)
      go_simp
      refine hKK.out _ _ (HW.out) (fun hHeld => ?_)
      clear hKK KK
      try simp only [Act.put, List.setIfInBounds_toArray, List.set_cons_zero, List.set_cons_succ]
      refine wpAnyH_done (by kernel_rfl) ?_ _
      have HB8 := Lib.hid (HB7.out.trans (HW.out.mono hs7))
      go_wp2
      go_ret
      exact ⟨rfl, HB8.out⟩
end Go.Proofs.Ytkejabhjlflknaa.Sz

namespace Go.Proofs.Ytkejabhjlflknaa.Sz
open Go.RowKit Go.Shelf
open Go.Proofs.Ytkejabhjlflknaa.Ly (TabOk Tb)
attribute [local go_sem] Oper.semAt_some

theorem threeB (w : World) (a b c : Obj) : (((w.alloc a).alloc b).alloc c).heap[w.heap.size]? = some a ∧ (((w.alloc a).alloc b).alloc c).heap[w.heap.size + 1]? = some b ∧ (((w.alloc a).alloc b).alloc c).heap[w.heap.size + 1 + 1]? = some c ∧ Below w.heap.size w (((w.alloc a).alloc b).alloc c) := by
  have b1 : ∀ (v : World) (o : Obj), Below v.heap.size v (v.alloc o) := fun v o => (Below.refl _ v).alloc (Nat.le_refl _) o
  have z : ∀ (v : World) (o : Obj), (v.alloc o).heap.size = v.heap.size + 1 := fun v o => World.size_alloc _ _
  have n : ∀ (v : World) (o : Obj), (v.alloc o).heap[v.heap.size]? = some o := fun v o => heap_alloc_new v o
  refine ⟨?_, ?_, ?_, ?_⟩
  · rw [(b1 ((w.alloc a).alloc b) c).block _ (by rw [z, z]; omega), (b1 (w.alloc a) b).block _ (by rw [z]; omega)]; exact n _ _
  · rw [(b1 ((w.alloc a).alloc b) c).block _ (by rw [z, z]; omega)]
    have := n (w.alloc a) b; rwa [z] at this
  · have := n ((w.alloc a).alloc b) c; rwa [z, z] at this
  · exact ((b1 _ _).trans ((b1 _ _).mono (by rw [z]; omega))).trans ((b1 _ _).mono (by rw [z, z]; omega))
theorem fourB (w : World) (a b c d : Obj) : ((((w.alloc a).alloc b).alloc c).alloc d).heap[w.heap.size]? = some a ∧ ((((w.alloc a).alloc b).alloc c).alloc d).heap[w.heap.size + 1]? = some b ∧ ((((w.alloc a).alloc b).alloc c).alloc d).heap[w.heap.size + 1 + 1]? = some c ∧ ((((w.alloc a).alloc b).alloc c).alloc d).heap[w.heap.size + 1 + 1 + 1]? = some d ∧ Below w.heap.size w ((((w.alloc a).alloc b).alloc c).alloc d) := by
  have b1 : ∀ (v : World) (o : Obj), Below v.heap.size v (v.alloc o) := fun v o => (Below.refl _ v).alloc (Nat.le_refl _) o
  have z : ∀ (v : World) (o : Obj), (v.alloc o).heap.size = v.heap.size + 1 := fun v o => World.size_alloc _ _
  have n : ∀ (v : World) (o : Obj), (v.alloc o).heap[v.heap.size]? = some o := fun v o => heap_alloc_new v o
  obtain ⟨h1, h2, h3, h4⟩ := threeB w a b c
  have hb := b1 (((w.alloc a).alloc b).alloc c) d
  refine ⟨(hb.block _ (by rw [z, z, z]; omega)).trans h1, (hb.block _ (by rw [z, z, z]; omega)).trans h2, (hb.block _ (by rw [z, z, z]; omega)).trans h3, ?_, h4.trans (hb.mono (by rw [z, z, z]; omega))⟩
  have := n (((w.alloc a).alloc b).alloc c) d; rwa [z, z, z] at this
theorem twoB (w : World) (a b : Obj) : ((w.alloc a).alloc b).heap[w.heap.size]? = some a ∧ ((w.alloc a).alloc b).heap[w.heap.size + 1]? = some b ∧ Below w.heap.size w ((w.alloc a).alloc b) := by
  have b1 : ∀ (v : World) (o : Obj), Below v.heap.size v (v.alloc o) := fun v o => (Below.refl _ v).alloc (Nat.le_refl _) o
  have z : ∀ (v : World) (o : Obj), (v.alloc o).heap.size = v.heap.size + 1 := fun v o => World.size_alloc _ _
  have n : ∀ (v : World) (o : Obj), (v.alloc o).heap[v.heap.size]? = some o := fun v o => heap_alloc_new v o
  refine ⟨?_, ?_, ?_⟩
  · rw [(b1 (w.alloc a) b).block _ (by rw [z]; omega)]; exact n _ _
  · have := n (w.alloc a) b; rwa [z] at this
  · exact (b1 _ _).trans ((b1 _ _).mono (by rw [z]; omega))
theorem hi_lit2 (w : World) (x : Nat) (vs : List Int) (n : Nat) (hn : n ≤ vs.length) (hl : vs.length ≤ 1000) (hx : w.heap[x]? = some (.cells (vs.map (Value.int .i64)).toArray 3 (0, 0))) : Hi w (some ⟨x, 0, none⟩) n vs.length (fun i => vs.getD i 0) := by
  refine ⟨hn, by unfold maxLen; omega, fun e => (by cases e), fun ad e _ => (by cases e; rfl), fun ad e i hi => ?_⟩
  cases e
  show World.cell? _ ⟨_, 0 + i, none⟩ = _
  rw [Nat.zero_add, cell_of_row _ _ i _ _ _ hx]
  simp [show i < vs.length by omega]
theorem hi_nine {w : World} {x : Nat} (hx : w.heap[x]? = some (.cells (madeCells #[.int .i64 0] 9) 3 (0, 0))) : Hi w (some ⟨x, 0, none⟩) 9 9 (fun _ => 0) := by
  refine ⟨Nat.le_refl _, by unfold maxLen; omega, fun e => (by cases e), fun ad e _ => (by cases e; rfl), fun ad e i hi => ?_⟩
  cases e
  show World.cell? _ ⟨_, 0 + i, none⟩ = _
  rw [Nat.zero_add, cell_of_row _ _ i _ _ _ hx]
  simp [madeCells, hi, show i % 1 = 0 by omega]
theorem hi_none {w : World} : Hi w none 0 0 (fun _ => 0) := ⟨Nat.le_refl _, Nat.zero_le _, fun _ => ⟨rfl, rfl⟩, fun _ e => (by cases e), fun _ e => (by cases e)⟩
theorem hmkI (N : Nat) (hN : N ≤ 1000000000) : ∀ W : World, (Instr.makeSlice 25 (.int .i64 (N : Nat)) (.int .i64 (N : Nat))).run Try.prog W = .ok (.slice (some ⟨W.heap.size, 0, none⟩) N N) (W.alloc (.cells (madeCells #[.int .i64 0] N) 3)) := fun W => by
  obtain ⟨i0, hi, hz0, hz1, hz2⟩ := info_parts Try.infoInt2
  have := run_make (P := Try.prog) W 25 3 i0 (.int .i64 0) Try.underlying25 hi hz0 .i64 .i64 (N : Int) (N : Int) (by omega) (Int.le_refl _) (by rw [hz2]; omega) (by omega)
  have e : (Value.int .i64 0).cells = #[.int .i64 0] := rfl
  rw [hz1, e, Int.toNat_natCast, Nat.mul_one] at this; exact this
theorem tb_one {w : World} {g : Nat} {x y : Int} (h : w.heap[g]? = some (.cells #[.int .i64 x, .int .i64 y] 44 (0, 0))) : Tb w (some ⟨g, 0, none⟩) 1 (fun _ => x) (fun _ => y) :=
  ⟨fun i hi => ⟨g, 0, rfl, by
    obtain rfl : i = 0 := by omega
    rw [Nat.zero_add, cell_of_row w g _ _ _ _ h]; rfl, by
    obtain rfl : i = 0 := by omega
    rw [Nat.zero_add, cell_of_row w g _ _ _ _ h]; rfl⟩⟩
/-- the wide bounds in their box, all else as it was. -/
def Sd (w W : World) (G : Nat) : Prop := W.heap[G]? = some (.cells #[.int .i64 255, .int .i64 1500, .int .i64 524288] 23 (0, 0)) ∧ Below w.heap.size w W
theorem Sd.same {w W W' : World} {G : Nat} (s : Sd w W G) (hB : Below W.heap.size W W') : Sd w W' G := ⟨(hB.block _ (Array.getElem?_eq_some_iff.1 s.1).1).trans s.1, s.2.trans (hB.mono s.2.size)⟩

set_option maxHeartbeats 16000000 in
set_option maxRecDepth 100000 in
theorem sizeEnds_any (w : World) :
    Calls Try.prog 4 #[] w fun e w' => e = .returned (.bool true) ∧ Below w.heap.size w w' := by
  have HD := Lib.hid sizeDoes_any; have HC := Lib.hid sizeCan_any
  unfold bV at HD HC
  obtain ⟨t1, t2, t3, t4⟩ := threeB w (.cells #[.int .i64 (-1), .int .i64 0, .int .i64 1, .int .i64 2, .int .i64 255, .int .i64 256] 3) (.cells #[.int .i64 0, .int .i64 63, .int .i64 64, .int .i64 65, .int .i64 1500, .int .i64 1501] 3) (.cells #[.int .i64 0, .int .i64 1, .int .i64 20, .int .i64 21, .int .i64 64, .int .i64 200, .int .i64 524288, .int .i64 524289] 3)
  have H1 := Lib.hid (hi_lit2 _ _ [-1, 0, 1, 2, 255, 256] 6 (by decide) (by decide) t1); have H2 := Lib.hid (hi_lit2 _ _ [0, 63, 64, 65, 1500, 1501] 6 (by decide) (by decide) t2); have H3 := Lib.hid (hi_lit2 _ _ [0, 1, 20, 21, 64, 200, 524288, 524289] 8 (by decide) (by decide) t3)
  have HB0 := Lib.hid t4
  clear t1 t2 t3 t4
  go_enter Try.func4, Try.ntmps4
  go_wp2_with fail
  generalize (((w.alloc (.cells #[.int .i64 (-1), .int .i64 0, .int .i64 1, .int .i64 2, .int .i64 255, .int .i64 256] 3)).alloc (.cells #[.int .i64 0, .int .i64 63, .int .i64 64, .int .i64 65, .int .i64 1500, .int .i64 1501] 3)).alloc (.cells #[.int .i64 0, .int .i64 1, .int .i64 20, .int .i64 21, .int .i64 64, .int .i64 200, .int .i64 524288, .int .i64 524289] 3)) = w0 at *
  have hs0 := HB0.out.size
  go_loopw [4] (fun i wr => ∃ (k : Nat) (W : World), W = wr ∧ k ≤ 288 ∧ i = .int .i64 k ∧ Below w0.heap.size w0 wr) (fun i _ => 288 - (intOf i).toNat)
  case atStart => exact ⟨0, _, rfl, by omega, rfl, Below.refl _ _⟩
  case round =>
    obtain ⟨k, wx, rfl, hk, rfl, hB⟩ := hrel
    have HB := Lib.hid hB
    have hsx := hB.size
    clear hB
    by_cases hk8 : k < 288
    · have i1 : (k : Int) < 288 := by omega
      obtain ⟨r6, hr6⟩ : ∃ r, r = k % 6 := ⟨_, rfl⟩
      obtain ⟨q6, hq6⟩ : ∃ r, r = k / 6 := ⟨_, rfl⟩
      obtain ⟨s6, hs6⟩ : ∃ r, r = q6 % 6 := ⟨_, rfl⟩
      obtain ⟨q36, hq36⟩ : ∃ r, r = k / 36 := ⟨_, rfl⟩
      have k1 : (k : Int) % 6 = (r6 : Int) := by omega
      have k2 : (k : Int).tmod 6 = (r6 : Int) := by rw [hr6]; rfl
      have k3 : (k : Int) / 6 = (q6 : Int) := by omega
      have k4 : (k : Int).tdiv 6 = (q6 : Int) := by rw [hq6]; rfl
      have k5 : (q6 : Int) % 6 = (s6 : Int) := by omega
      have k6 : (q6 : Int).tmod 6 = (s6 : Int) := by rw [hs6]; rfl
      have k7 : (k : Int) / 36 = (q36 : Int) := by omega
      have k8 : (k : Int).tdiv 36 = (q36 : Int) := by rw [hq36]; rfl
      have k9 : IntKind.i64.wrap (q6 : Int) = (q6 : Int) := IntWalk.i64_in _ (by omega)
      have k10 : IntKind.i64.wrap (q36 : Int) = (q36 : Int) := IntWalk.i64_in _ (by omega)
      have y1 : (r6 : Int) < 6 := by omega
      have y2 : (s6 : Int) < 6 := by omega
      have y3 : (q36 : Int) < 8 := by omega
      have z1 : r6 < 6 := by omega
      have z2 : s6 < 6 := by omega
      have z3 : q36 < 8 := by omega
      clear hr6 hq6 hs6 hq36
      have HBx := Lib.hid (show Below wx.heap.size wx wx.drew from (Below.refl _ wx).drew)
      have f1 : ∀ W, Below wx.heap.size wx W → W.cell? ⟨w.heap.size, r6, none⟩ = some (.int .i64 (([-1, 0, 1, 2, 255, 256] : List Int).getD r6 0)) := fun W hW => by
        obtain ⟨_, _, e, h⟩ := ((H1.out.same HB.out).same hW).si.cell r6 z1
        cases e; rw [Nat.zero_add] at h; exact h
      have f2 : ∀ W, Below wx.heap.size wx W → W.cell? ⟨w.heap.size + 1, s6, none⟩ = some (.int .i64 (([0, 63, 64, 65, 1500, 1501] : List Int).getD s6 0)) := fun W hW => by
        obtain ⟨_, _, e, h⟩ := ((H2.out.same HB.out).same hW).si.cell s6 z2
        cases e; rw [Nat.zero_add] at h; exact h
      have f3 : ∀ W, Below wx.heap.size wx W → W.cell? ⟨w.heap.size + 1 + 1, q36, none⟩ = some (.int .i64 (([0, 1, 20, 21, 64, 200, 524288, 524289] : List Int).getD q36 0)) := fun W hW => by
        obtain ⟨_, _, e, h⟩ := ((H3.out.same HB.out).same hW).si.cell q36 z3
        cases e; rw [Nat.zero_add] at h; exact h
      generalize ([-1, 0, 1, 2, 255, 256] : List Int).getD r6 0 = N at *
      generalize ([0, 63, 64, 65, 1500, 1501] : List Int).getD s6 0 = M at *
      generalize ([0, 1, 20, 21, 64, 200, 524288, 524289] : List Int).getD q36 0 = B at *
      have F1 := Lib.hid f1; have F2 := Lib.hid f2; have F3 := Lib.hid f3
      clear f1 f2 f3
      go_wp2_with fail
      refine wp_region_held_drew (S := fun W => Below wx.heap.size wx W) (by kernel_rfl) (HBx.out) (fun hHeld => ?_)
      refine wpAnyH_take (i := 0) (oi := ⟨some 28, _, _, _, _, none⟩) (v := (.slice (some ⟨w.heap.size, 0, none⟩) 6 6)) rfl (by kernel_rfl) (by kernel_rfl) (by kernel_rfl) (fun _ _ _ h => h) (Or.inl ⟨by rfl, fun W hW => ?_⟩) (by assumption) ?_
      · go_simp
      simp only [Act.put, List.setIfInBounds_toArray, List.set_cons_zero, List.set_cons_succ]
      refine wpAnyH_take (i := 1) (oi := ⟨some 29, _, _, _, _, none⟩) (v := (.int .i64 (k : Nat))) rfl (by kernel_rfl) (by kernel_rfl) (by kernel_rfl) (fun _ _ _ h => h) (Or.inl ⟨by rfl, fun W hW => ?_⟩) (by assumption) ?_
      · go_simp
      simp only [Act.put, List.setIfInBounds_toArray, List.set_cons_zero, List.set_cons_succ]
      refine wpAnyH_take (i := 2) (oi := ⟨some 30, _, _, _, _, none⟩) (v := (.int .i64 (r6 : Nat))) rfl (by kernel_rfl) (by kernel_rfl) (by kernel_rfl) (fun _ _ _ h => h) (Or.inl ⟨by rfl, fun W hW => ?_⟩) (by assumption) ?_
      · go_simp
      simp only [Act.put, List.setIfInBounds_toArray, List.set_cons_zero, List.set_cons_succ]
      refine wpAnyH_take (i := 3) (oi := ⟨some 31, _, _, _, _, none⟩) (v := (.pointer (some ⟨w.heap.size, r6, none⟩))) rfl (by kernel_rfl) (by kernel_rfl) (by kernel_rfl) (fun _ _ _ h => h) (Or.inl ⟨by rfl, fun W hW => ?_⟩) (by assumption) ?_
      · go_simp
      simp only [Act.put, List.setIfInBounds_toArray, List.set_cons_zero, List.set_cons_succ]
      refine wpAnyH_take (i := 4) (oi := ⟨some 32, _, _, _, _, none⟩) (v := (.int .i64 N)) rfl (by kernel_rfl) (by kernel_rfl) (by kernel_rfl) (fun _ _ _ h => h) (Or.inl ⟨by rfl, fun W hW => ?_⟩) (by assumption) ?_
      · (have h := F1.out W hW; go_simp)
      simp only [Act.put, List.setIfInBounds_toArray, List.set_cons_zero, List.set_cons_succ]
      refine wpAnyH_take (i := 5) (oi := ⟨some 33, _, _, _, _, none⟩) (v := (.slice (some ⟨w.heap.size + 1, 0, none⟩) 6 6)) rfl (by kernel_rfl) (by kernel_rfl) (by kernel_rfl) (fun _ _ _ h => h) (Or.inl ⟨by rfl, fun W hW => ?_⟩) (by assumption) ?_
      · go_simp
      simp only [Act.put, List.setIfInBounds_toArray, List.set_cons_zero, List.set_cons_succ]
      refine wpAnyH_take (i := 6) (oi := ⟨some 34, _, _, _, _, none⟩) (v := (.int .i64 (k : Nat))) rfl (by kernel_rfl) (by kernel_rfl) (by kernel_rfl) (fun _ _ _ h => h) (Or.inl ⟨by rfl, fun W hW => ?_⟩) (by assumption) ?_
      · go_simp
      simp only [Act.put, List.setIfInBounds_toArray, List.set_cons_zero, List.set_cons_succ]
      refine wpAnyH_take (i := 7) (oi := ⟨some 35, _, _, _, _, none⟩) (v := (.int .i64 (q6 : Nat))) rfl (by kernel_rfl) (by kernel_rfl) (by kernel_rfl) (fun _ _ _ h => h) (Or.inl ⟨by rfl, fun W hW => ?_⟩) (by assumption) ?_
      · go_simp
      simp only [Act.put, List.setIfInBounds_toArray, List.set_cons_zero, List.set_cons_succ]
      refine wpAnyH_take (i := 8) (oi := ⟨some 36, _, _, _, _, none⟩) (v := (.int .i64 (s6 : Nat))) rfl (by kernel_rfl) (by kernel_rfl) (by kernel_rfl) (fun _ _ _ h => h) (Or.inl ⟨by rfl, fun W hW => ?_⟩) (by assumption) ?_
      · go_simp
      simp only [Act.put, List.setIfInBounds_toArray, List.set_cons_zero, List.set_cons_succ]
      refine wpAnyH_take (i := 9) (oi := ⟨some 37, _, _, _, _, none⟩) (v := (.pointer (some ⟨w.heap.size + 1, s6, none⟩))) rfl (by kernel_rfl) (by kernel_rfl) (by kernel_rfl) (fun _ _ _ h => h) (Or.inl ⟨by rfl, fun W hW => ?_⟩) (by assumption) ?_
      · go_simp
      simp only [Act.put, List.setIfInBounds_toArray, List.set_cons_zero, List.set_cons_succ]
      refine wpAnyH_take (i := 10) (oi := ⟨some 38, _, _, _, _, none⟩) (v := (.int .i64 M)) rfl (by kernel_rfl) (by kernel_rfl) (by kernel_rfl) (fun _ _ _ h => h) (Or.inl ⟨by rfl, fun W hW => ?_⟩) (by assumption) ?_
      · (have h := F2.out W hW; go_simp)
      simp only [Act.put, List.setIfInBounds_toArray, List.set_cons_zero, List.set_cons_succ]
      refine wpAnyH_take (i := 11) (oi := ⟨some 39, _, _, _, _, none⟩) (v := (.slice (some ⟨w.heap.size + 1 + 1, 0, none⟩) 8 8)) rfl (by kernel_rfl) (by kernel_rfl) (by kernel_rfl) (fun _ _ _ h => h) (Or.inl ⟨by rfl, fun W hW => ?_⟩) (by assumption) ?_
      · go_simp
      simp only [Act.put, List.setIfInBounds_toArray, List.set_cons_zero, List.set_cons_succ]
      refine wpAnyH_take (i := 12) (oi := ⟨some 40, _, _, _, _, none⟩) (v := (.int .i64 (k : Nat))) rfl (by kernel_rfl) (by kernel_rfl) (by kernel_rfl) (fun _ _ _ h => h) (Or.inl ⟨by rfl, fun W hW => ?_⟩) (by assumption) ?_
      · go_simp
      simp only [Act.put, List.setIfInBounds_toArray, List.set_cons_zero, List.set_cons_succ]
      refine wpAnyH_take (i := 13) (oi := ⟨some 41, _, _, _, _, none⟩) (v := (.int .i64 (q36 : Nat))) rfl (by kernel_rfl) (by kernel_rfl) (by kernel_rfl) (fun _ _ _ h => h) (Or.inl ⟨by rfl, fun W hW => ?_⟩) (by assumption) ?_
      · go_simp
      simp only [Act.put, List.setIfInBounds_toArray, List.set_cons_zero, List.set_cons_succ]
      refine wpAnyH_take (i := 14) (oi := ⟨some 42, _, _, _, _, none⟩) (v := (.pointer (some ⟨w.heap.size + 1 + 1, q36, none⟩))) rfl (by kernel_rfl) (by kernel_rfl) (by kernel_rfl) (fun _ _ _ h => h) (Or.inl ⟨by rfl, fun W hW => ?_⟩) (by assumption) ?_
      · go_simp
      simp only [Act.put, List.setIfInBounds_toArray, List.set_cons_zero, List.set_cons_succ]
      refine wpAnyH_take (i := 15) (oi := ⟨some 43, _, _, _, _, none⟩) (v := (.int .i64 B)) rfl (by kernel_rfl) (by kernel_rfl) (by kernel_rfl) (fun _ _ _ h => h) (Or.inl ⟨by rfl, fun W hW => ?_⟩) (by assumption) ?_
      · (have h := F3.out W hW; go_simp)
      simp only [Act.put, List.setIfInBounds_toArray, List.set_cons_zero, List.set_cons_succ]
      refine wpAnyH_take (i := 16) (oi := ⟨some 44, _, _, _, _, none⟩) (v := (.agg #[.int .i64 N, .int .i64 M, .int .i64 B])) rfl (by kernel_rfl) (by kernel_rfl) (by kernel_rfl) (fun _ _ _ h => h) (Or.inl ⟨by rfl, fun W hW => ?_⟩) (by assumption) ?_
      · (go_simp; try rfl)
      simp only [Act.put, List.setIfInBounds_toArray, List.set_cons_zero, List.set_cons_succ]
      clear k1 k2 k3 k4 k5 k6 k7 k8 k9 k10 y1 y2 y3 z1 z2 z3 F1 F2 F3
      refine wpAnyH_ready (rs := [17]) (by kernel_rfl) (by simp) (AllReadyH.cons rfl (fun KK hKK => ?_) AllReadyH.nil)
      go_simp
      refine hKK.out _ _ ((hHeld).alloc (Below.size hHeld) _) (fun hHeld => ?_)
      clear hKK KK
      try simp only [Act.put, List.setIfInBounds_toArray, List.set_cons_zero, List.set_cons_succ]
      refine wpAnyH_ready (rs := [18]) (by kernel_rfl) (by simp) (AllReadyH.cons rfl (fun KK hKK => ?_) AllReadyH.nil)
      go_simp
      refine hKK.out _ _ ((Below.refl _ wx).alloc (Nat.le_refl _) _).drew (fun hHeld => ?_)
      clear hKK KK
      try simp only [Act.put, List.setIfInBounds_toArray, List.set_cons_zero, List.set_cons_succ]
      refine wpAnyH_done (by kernel_rfl) ?_ _
      go_wp2_with fail
      obtain ⟨t1, t2, t3, t4, t5⟩ := fourB wx (.cells #[.int .i64 N, .int .i64 M, .int .i64 B] 23) (.cells #[.int .i64 (1 + (k : Int) % 3), .int .i64 k] 44) (.cells #[.int .i64 ((k : Int) % 50), .int .i64 ((k : Int) % 7)] 3) (.cells #[.int .i64 (1 + (k : Int) % 2), .int .i64 (1 + (k : Int) % 3)] 3)
      have HX1 := Lib.hid t1; have HT1 := Lib.hid (tb_one t2); have HL1 := Lib.hid (hi_lit2 _ _ [(k : Int) % 50, (k : Int) % 7] 2 (by simp) (by simp) t3); have HK1 := Lib.hid (hi_lit2 _ _ [1 + (k : Int) % 2, 1 + (k : Int) % 3] 2 (by simp) (by simp) t4); have HBw := Lib.hid t5.drew
      clear t1 t2 t3 t4 t5
      refine (HD.out N M B ((k : Int) % 4) ((k : Int) % 11 - 1) (some ⟨wx.heap.size + 1, 0, none⟩) (some ⟨wx.heap.size + 1 + 1, 0, none⟩) (some ⟨wx.heap.size + 1 + 1 + 1, 0, none⟩) 1 1 2 2 2 2 _ _ _ _ (fun h => (by cases h)) (Nat.le_refl _) (by omega) (by omega) (by omega) _ (HT1.out.same (Below.refl _ _).drew) (HL1.out.same (Below.refl _ _).drew) (HK1.out.same (Below.refl _ _).drew)).mono ?_
      rintro e w2 ⟨rfl, hB2⟩
      have hX2 := (hB2.block _ (Array.getElem?_eq_some_iff.1 HX1.out).1).trans HX1.out
      have HB2 := Lib.hid (HBw.out.trans (hB2.mono HBw.out.size))
      have hs2 := HB2.out.size
      obtain ⟨c0, c1, c2⟩ := box3 hX2
      clear HX1 HT1 HL1 HK1 HBw hB2 hX2
      have HBz := Lib.hid (HB.out.trans (HB2.out.mono hsx))
      by_cases h3 : (k : Int) % 3 = 0
      · obtain ⟨t1, t2⟩ := (show _ ∧ _ from ⟨heap_alloc_new w2 (.cells #[.int .i64 ((k : Int) % 70), .int .i64 ((k : Int) % 9)] 3), (Below.refl _ w2).alloc (Nat.le_refl _) (.cells #[.int .i64 ((k : Int) % 70), .int .i64 ((k : Int) % 9)] 3)⟩)
        have HL2 := Lib.hid (hi_lit2 _ _ [(k : Int) % 70, (k : Int) % 9] 2 (by simp) (by simp) t1); have HBw := Lib.hid t2
        clear t1 t2
        go_wp2_with fail
        refine (HC.out N M B (some ⟨w2.heap.size, 0, none⟩) 2 2 _ (by omega) _ HL2.out).mono ?_
        rintro e w3 ⟨rfl, hB3⟩
        have HB3 := Lib.hid (HBz.out.trans ((HBw.out.trans (hB3.mono HBw.out.size)).mono (Nat.le_trans hsx hs2)))
        clear hB3 HBw HL2
        go_wp2_with fail
        go_roundw
        case rel => exact ⟨k + 1, _, rfl, by omega, by go_num, HB3.out⟩
        case measure => simp [intOf]; omega
      · go_wp2_with fail
        go_roundw
        case rel => exact ⟨k + 1, _, rfl, by omega, by go_num, HBz.out⟩
        case measure => simp [intOf]; omega
    · have hk9 : ¬ (k : Int) < 288 := by omega
      have HBl := Lib.hid (HB0.out.trans (HB.out.mono hs0))
      go_wp2_with fail
      clear H1 H2 H3 HB0 HB hsx hk hk8 hk9 hs0
      go_loopw [6] (fun i wr => ∃ (r : Nat) (W : World), W = wr ∧ r ≤ 6 ∧ i = .int .i64 r ∧ Below w.heap.size w wr) (fun i _ => 6 - (intOf i).toNat)
      case atStart => exact ⟨0, _, rfl, by omega, rfl, HBl.out⟩
      case round =>
        obtain ⟨r, wy, rfl, hr, rfl, hB⟩ := hrel
        have HBy := Lib.hid hB
        have hsy := hB.size
        clear hB
        by_cases hr6 : r < 6
        · have i1 : (r : Int) < 6 := by omega
          obtain ⟨t1, t2, t3⟩ := twoB wy (.cells #[.int .i64 3, .int .i64 64, .int .i64 (3 * (24 + (r : Int)))] 23) (.cells #[.int .i64 3, .int .i64 64, .int .i64 (3 * (24 + (r : Int)) + 2)] 23)
          have HX1 := Lib.hid t1; have HX2 := Lib.hid t2; have HBz := Lib.hid (HBy.out.trans (t3.mono hsy))
          clear t1 t2 t3
          go_wp2_with fail
          generalize (wy.alloc (.cells #[.int .i64 3, .int .i64 64, .int .i64 (3 * (24 + (r : Int)))] 23)).alloc (.cells #[.int .i64 3, .int .i64 64, .int .i64 (3 * (24 + (r : Int)) + 2)] 23) = wz at *
          have hsz := HBz.out.size
          go_loopw [9] (fun i wr => ∃ (m : Nat) (W : World), W = wr ∧ m ≤ 27 ∧ i = .int .i64 m ∧ Below wz.heap.size wz wr) (fun i _ => 27 - (intOf i).toNat)
          case atStart => exact ⟨0, _, rfl, by omega, rfl, Below.refl _ _⟩
          case round =>
            obtain ⟨m, wm, rfl, hm, rfl, hB⟩ := hrel
            have hsm := hB.size
            have hX1 := (hB.block _ (Array.getElem?_eq_some_iff.1 HX1.out).1).trans HX1.out
            have hX2 := (hB.block _ (Array.getElem?_eq_some_iff.1 HX2.out).1).trans HX2.out
            have HY1 := Lib.hid hX1; have HY2 := Lib.hid hX2
            have HBm := Lib.hid hB
            clear hB hX1 hX2
            by_cases hm7 : m < 27
            · have i2 : (m : Int) < 27 := by omega
              obtain ⟨t1, t2, t3⟩ := twoB wm (.cells #[.int .i64 (1 + (m : Int) % 3), .int .i64 (1 + (m : Int) / 3 % 3)] 3) (.cells #[.int .i64 ((r : Int) + (m : Int) / 9), .int .i64 (2 * (r : Int) - (m : Int) / 9)] 3)
              have HK1 := Lib.hid (hi_lit2 _ _ [1 + (m : Int) % 3, 1 + (m : Int) / 3 % 3] 2 (by simp) (by simp) t1); have HL1 := Lib.hid (hi_lit2 _ _ [(r : Int) + (m : Int) / 9, 2 * (r : Int) - (m : Int) / 9] 2 (by simp) (by simp) t2); have HBw := Lib.hid t3
              obtain ⟨c0, c1, c2⟩ := box3 ((t3.block _ (Array.getElem?_eq_some_iff.1 HY1.out).1).trans HY1.out)
              have hZ1 := (t3.block _ (Array.getElem?_eq_some_iff.1 HY1.out).1).trans HY1.out
              have hZ2 := (t3.block _ (Array.getElem?_eq_some_iff.1 HY2.out).1).trans HY2.out
              have HZ1 := Lib.hid hZ1; have HZ2 := Lib.hid hZ2
              clear t1 t2 t3 hZ1 hZ2
              go_wp2_with fail
              generalize (wm.alloc (.cells #[.int .i64 (1 + (m : Int) % 3), .int .i64 (1 + (m : Int) / 3 % 3)] 3)).alloc (.cells #[.int .i64 ((r : Int) + (m : Int) / 9), .int .i64 (2 * (r : Int) - (m : Int) / 9)] 3) = wl at *
              have hsl := HBw.out.size
              refine (HD.out 3 64 (3 * (24 + (r : Int))) 3 2 none (some ⟨wm.heap.size + 1, 0, none⟩) (some ⟨wm.heap.size, 0, none⟩) 0 0 2 2 2 2 (fun _ => 0) (fun _ => 0) _ _ (fun _ => ⟨rfl, rfl⟩) (Nat.le_refl _) (by omega) (by omega) (by omega) _ ⟨fun i hi => absurd hi (Nat.not_lt_zero i)⟩ HL1.out HK1.out).mono ?_
              rintro e w1 ⟨rfl, hB1⟩
              clear c0 c1 c2
              obtain ⟨c0, c1, c2⟩ := box3 ((hB1.block _ (Array.getElem?_eq_some_iff.1 HZ2.out).1).trans HZ2.out)
              have HB1 := Lib.hid hB1; clear hB1
              go_wp2_with fail
              refine (HD.out 3 64 (3 * (24 + (r : Int)) + 2) 3 2 none (some ⟨wm.heap.size + 1, 0, none⟩) (some ⟨wm.heap.size, 0, none⟩) 0 0 2 2 2 2 (fun _ => 0) (fun _ => 0) _ _ (fun _ => ⟨rfl, rfl⟩) (Nat.le_refl _) (by omega) (by omega) (by omega) _ ⟨fun i hi => absurd hi (Nat.not_lt_zero i)⟩ (HL1.out.same HB1.out) (HK1.out.same HB1.out)).mono ?_
              rintro e w2 ⟨rfl, hB2⟩
              have HB2 := Lib.hid (HB1.out.trans (hB2.mono HB1.out.size)); clear hB2
              clear c0 c1 c2
              obtain ⟨c0, c1, c2⟩ := box3 ((HB2.out.block _ (Array.getElem?_eq_some_iff.1 HZ1.out).1).trans HZ1.out)
              go_wp2_with fail
              refine (HC.out 3 64 (3 * (24 + (r : Int))) (some ⟨wm.heap.size + 1, 0, none⟩) 2 2 _ (by omega) _ (HL1.out.same HB2.out)).mono ?_
              rintro e w3 ⟨rfl, hB3⟩
              have HB3 := Lib.hid (HBm.out.trans ((HBw.out.trans ((HB2.out.trans (hB3.mono HB2.out.size)).mono hsl)).mono hsm)); clear hB3
              clear c0 c1 c2
              go_wp2_with fail
              go_roundw
              case rel => exact ⟨m + 1, _, rfl, by omega, by go_num, HB3.out⟩
              case measure => simp [intOf]; omega
            · have hm8 : ¬ (m : Int) < 27 := by omega
              have HBe := Lib.hid (HBz.out.trans (HBm.out.mono hsz))
              go_wp2_with fail
              go_roundw
              case rel => exact ⟨r + 1, _, rfl, by omega, by go_num, HBe.out⟩
              case measure => simp [intOf]; omega
        · have hr7 : ¬ (r : Int) < 6 := by omega
          have hG := heap_alloc_new wy (.cells #[.int .i64 255, .int .i64 1500, .int .i64 524288] 23)
          have hBG := (Below.refl wy.heap.size wy).alloc (Nat.le_refl _) (.cells #[.int .i64 255, .int .i64 1500, .int .i64 524288] 23)
          go_wp2_with fail
          generalize wy.alloc (.cells #[.int .i64 255, .int .i64 1500, .int .i64 524288] 23) = w12 at *
          generalize wy.heap.size = G at hG ⊢
          have HS := Lib.hid (show Sd w w12.drew G from Sd.same (show Sd w w12 G from ⟨hG, HBy.out.trans (hBG.mono hsy)⟩) (Below.refl _ _).drew)
          clear hG hBG HBl HBy hsy hr hr6 hr7
          have hmk9 : ∀ W : World, (Instr.makeSlice 25 (.int .i64 9) (.int .i64 9)).run Try.prog W = .ok (.slice (some ⟨W.heap.size, 0, none⟩) 9 9) (W.alloc (.cells (madeCells #[.int .i64 0] 9) 3)) := hmkI 9 (by decide)
          refine wp_region_held_drew (S := fun W => Sd w W G) (by kernel_rfl) (HS.out) (fun hHeld => ?_)
          generalize w12.drew = wd at *
          refine wpAnyH_take (i := 0) (oi := ⟨some 138, _, _, _, _, none⟩) (v := (bV 255 1500 524288)) rfl (by kernel_rfl) (by kernel_rfl) (by kernel_rfl) (fun _ _ _ h => h) (Or.inl ⟨by rfl, fun W hW => ?_⟩) (by assumption) ?_
          · (obtain ⟨c0, c1, c2⟩ := box3 hW.1; go_simp; try rfl)
          simp only [Act.put, List.setIfInBounds_toArray, List.set_cons_zero, List.set_cons_succ]
          refine @share _ ?shP1 (fun hG => ?shF1) ?shG1
          case shF1 =>
            have HGH := Lib.hid hG; clear hG
            refine wpAnyH_ready (rs := [1, 2]) (by kernel_rfl) (by simp) (AllReadyH.cons rfl (fun KK hKK => ?_) (AllReadyH.cons rfl (fun KK hKK => ?_) AllReadyH.nil))
            · go_simp
              have hl1 : Below wd.heap.size wd (wd.alloc (.cells #[.int .i64 65535] 3)) := (Below.refl _ _).alloc (Nat.le_refl _) _
              refine hKK.out _ _ (HS.out.same hl1) (fun hHeld => ?_)
              clear hKK KK hl1
              try simp only [Act.put, List.setIfInBounds_toArray, List.set_cons_zero, List.set_cons_succ]
              refine wpAnyH_ready (rs := [2]) (by kernel_rfl) (by simp) (AllReadyH.cons rfl (fun KK hKK => ?_) AllReadyH.nil)
              go_simp
              refine hKK.out _ _ (HS.out.same (twoB wd (.cells #[.int .i64 65535] 3) (.cells #[.int .i64 255] 3)).2.2) (fun hHeld => ?_)
              clear hKK KK
              try simp only [Act.put, List.setIfInBounds_toArray, List.set_cons_zero, List.set_cons_succ]
              have HALL := Lib.hid (show _ ∧ _ ∧ _ from ⟨(hi_lit2 _ _ [65535] 1 (by decide) (by decide) (twoB wd (.cells #[.int .i64 65535] 3) (.cells #[.int .i64 255] 3)).1), (hi_lit2 _ _ [255] 1 (by decide) (by decide) (twoB wd (.cells #[.int .i64 65535] 3) (.cells #[.int .i64 255] 3)).2.1), HS.out.same (twoB wd (.cells #[.int .i64 65535] 3) (.cells #[.int .i64 255] 3)).2.2⟩)
              generalize (wd.alloc (.cells #[.int .i64 65535] 3)).alloc (.cells #[.int .i64 255] 3) = W5 at HALL hHeld ⊢
              generalize wd.heap.size + 1 = xq at HALL ⊢
              generalize wd.heap.size = xp at HALL ⊢
              revert HALL
              revert hHeld
              revert xp
              revert xq
              revert W5
              exact HGH.out
            · go_simp
              have hl1 : Below wd.heap.size wd (wd.alloc (.cells #[.int .i64 255] 3)) := (Below.refl _ _).alloc (Nat.le_refl _) _
              refine hKK.out _ _ (HS.out.same hl1) (fun hHeld => ?_)
              clear hKK KK hl1
              try simp only [Act.put, List.setIfInBounds_toArray, List.set_cons_zero, List.set_cons_succ]
              refine wpAnyH_ready (rs := [1]) (by kernel_rfl) (by simp) (AllReadyH.cons rfl (fun KK hKK => ?_) AllReadyH.nil)
              go_simp
              refine hKK.out _ _ (HS.out.same (twoB wd (.cells #[.int .i64 255] 3) (.cells #[.int .i64 65535] 3)).2.2) (fun hHeld => ?_)
              clear hKK KK
              try simp only [Act.put, List.setIfInBounds_toArray, List.set_cons_zero, List.set_cons_succ]
              exact HGH.out _ _ _ hHeld (Lib.hid ⟨(hi_lit2 _ _ [65535] 1 (by decide) (by decide) (twoB wd (.cells #[.int .i64 255] 3) (.cells #[.int .i64 65535] 3)).2.1), (hi_lit2 _ _ [255] 1 (by decide) (by decide) (twoB wd (.cells #[.int .i64 255] 3) (.cells #[.int .i64 65535] 3)).1), HS.out.same (twoB wd (.cells #[.int .i64 255] 3) (.cells #[.int .i64 65535] 3)).2.2⟩)
          case shG1 =>
            intro W1 xq1 xp1 hHeld HALL
            obtain ⟨hp1, hq1, hs1⟩ := HALL.out
            have HP := Lib.hid hp1; have HQ := Lib.hid hq1; have HS := Lib.hid hs1
            clear HALL hp1 hq1 hs1
            refine wpAnyH_ready (rs := [3]) (by kernel_rfl) (by simp) (AllReadyH.cons rfl (fun KK hKK => ?_) AllReadyH.nil)
            go_simp
            refine (sizeDoes_any 255 1500 524288 255 8 none (some ⟨xp1, 0, none⟩) (some ⟨xq1, 0, none⟩) 0 0 1 1 1 1 (fun _ => 0) (fun _ => 0) _ _ (fun _ => ⟨rfl, rfl⟩) (by omega) (by omega) (by omega) (by omega) _ ⟨fun i hi => absurd hi (Nat.not_lt_zero i)⟩ HP.out HQ.out).mono ?_
            rintro e V1 ⟨rfl, hb1⟩
            dsimp only
            have hS0 := HS.out
            have HS := Lib.hid (show Sd w V1 G from hS0.same hb1)
            clear hS0 hb1
            refine hKK.out _ _ (HS.out) (fun hHeld => ?_)
            clear hKK KK
            try simp only [Act.put, List.setIfInBounds_toArray, List.set_cons_zero, List.set_cons_succ]
            refine wpAnyH_take (i := 4) (oi := ⟨some 142, _, _, _, _, none⟩) (v := (.bool true)) rfl (by kernel_rfl) (by kernel_rfl) (by kernel_rfl) (fun _ _ _ h => h) (Or.inl ⟨by rfl, fun W hW => ?_⟩) (by assumption) ?_
            · go_simp
            simp only [Act.put, List.setIfInBounds_toArray, List.set_cons_zero, List.set_cons_succ]
            refine wpAnyH_take (i := 5) (oi := ⟨some 143, _, _, _, _, some (4, true)⟩) (v := (bV 255 1500 524288)) rfl (by kernel_rfl) (by kernel_rfl) (by kernel_rfl) (fun _ _ _ h => h) (Or.inl ⟨by rfl, fun W hW => ?_⟩) (by assumption) ?_
            · (obtain ⟨c0, c1, c2⟩ := box3 hW.1; go_simp; try rfl)
            simp only [Act.put, List.setIfInBounds_toArray, List.set_cons_zero, List.set_cons_succ]
            refine @share _ ?shP2 (fun hG => ?shF2) ?shG2
            case shF2 =>
              have HGH := Lib.hid hG; clear hG
              refine wpAnyH_ready (rs := [6, 7]) (by kernel_rfl) (by simp) (AllReadyH.cons rfl (fun KK hKK => ?_) (AllReadyH.cons rfl (fun KK hKK => ?_) AllReadyH.nil))
              · go_simp
                have hl1 : Below V1.heap.size V1 (V1.alloc (.cells #[.int .i64 65536] 3)) := (Below.refl _ _).alloc (Nat.le_refl _) _
                refine hKK.out _ _ (HS.out.same hl1) (fun hHeld => ?_)
                clear hKK KK hl1
                try simp only [Act.put, List.setIfInBounds_toArray, List.set_cons_zero, List.set_cons_succ]
                refine wpAnyH_ready (rs := [7]) (by kernel_rfl) (by simp) (AllReadyH.cons rfl (fun KK hKK => ?_) AllReadyH.nil)
                go_simp
                refine hKK.out _ _ (HS.out.same (twoB V1 (.cells #[.int .i64 65536] 3) (.cells #[.int .i64 1] 3)).2.2) (fun hHeld => ?_)
                clear hKK KK
                try simp only [Act.put, List.setIfInBounds_toArray, List.set_cons_zero, List.set_cons_succ]
                have HALL := Lib.hid (show _ ∧ _ ∧ _ from ⟨(hi_lit2 _ _ [65536] 1 (by decide) (by decide) (twoB V1 (.cells #[.int .i64 65536] 3) (.cells #[.int .i64 1] 3)).1), (hi_lit2 _ _ [1] 1 (by decide) (by decide) (twoB V1 (.cells #[.int .i64 65536] 3) (.cells #[.int .i64 1] 3)).2.1), HS.out.same (twoB V1 (.cells #[.int .i64 65536] 3) (.cells #[.int .i64 1] 3)).2.2⟩)
                generalize (V1.alloc (.cells #[.int .i64 65536] 3)).alloc (.cells #[.int .i64 1] 3) = W5 at HALL hHeld ⊢
                generalize V1.heap.size + 1 = xq at HALL ⊢
                generalize V1.heap.size = xp at HALL ⊢
                revert HALL
                revert hHeld
                revert xp
                revert xq
                revert W5
                exact HGH.out
              · go_simp
                have hl1 : Below V1.heap.size V1 (V1.alloc (.cells #[.int .i64 1] 3)) := (Below.refl _ _).alloc (Nat.le_refl _) _
                refine hKK.out _ _ (HS.out.same hl1) (fun hHeld => ?_)
                clear hKK KK hl1
                try simp only [Act.put, List.setIfInBounds_toArray, List.set_cons_zero, List.set_cons_succ]
                refine wpAnyH_ready (rs := [6]) (by kernel_rfl) (by simp) (AllReadyH.cons rfl (fun KK hKK => ?_) AllReadyH.nil)
                go_simp
                refine hKK.out _ _ (HS.out.same (twoB V1 (.cells #[.int .i64 1] 3) (.cells #[.int .i64 65536] 3)).2.2) (fun hHeld => ?_)
                clear hKK KK
                try simp only [Act.put, List.setIfInBounds_toArray, List.set_cons_zero, List.set_cons_succ]
                exact HGH.out _ _ _ hHeld (Lib.hid ⟨(hi_lit2 _ _ [65536] 1 (by decide) (by decide) (twoB V1 (.cells #[.int .i64 1] 3) (.cells #[.int .i64 65536] 3)).2.1), (hi_lit2 _ _ [1] 1 (by decide) (by decide) (twoB V1 (.cells #[.int .i64 1] 3) (.cells #[.int .i64 65536] 3)).1), HS.out.same (twoB V1 (.cells #[.int .i64 1] 3) (.cells #[.int .i64 65536] 3)).2.2⟩)
            case shG2 =>
              intro W2 xq2 xp2 hHeld HALL
              obtain ⟨hp2, hq2, hs2⟩ := HALL.out
              have HP := Lib.hid hp2; have HQ := Lib.hid hq2; have HS := Lib.hid hs2
              clear HALL hp2 hq2 hs2
              refine wpAnyH_ready (rs := [8]) (by kernel_rfl) (by simp) (AllReadyH.cons rfl (fun KK hKK => ?_) AllReadyH.nil)
              go_simp
              refine (sizeDoes_any 255 1500 524288 1 1 none (some ⟨xp2, 0, none⟩) (some ⟨xq2, 0, none⟩) 0 0 1 1 1 1 (fun _ => 0) (fun _ => 0) _ _ (fun _ => ⟨rfl, rfl⟩) (by omega) (by omega) (by omega) (by omega) _ ⟨fun i hi => absurd hi (Nat.not_lt_zero i)⟩ HP.out HQ.out).mono ?_
              rintro e V2 ⟨rfl, hb2⟩
              dsimp only
              have hS0 := HS.out
              have HS := Lib.hid (show Sd w V2 G from hS0.same hb2)
              clear hS0 hb2
              refine hKK.out _ _ (HS.out) (fun hHeld => ?_)
              clear hKK KK
              try simp only [Act.put, List.setIfInBounds_toArray, List.set_cons_zero, List.set_cons_succ]
              refine wpAnyH_take (i := 9) (oi := ⟨some 147, _, _, _, _, none⟩) (v := (.bool true)) rfl (by kernel_rfl) (by kernel_rfl) (by kernel_rfl) (fun _ _ _ h => h) (Or.inl ⟨by rfl, fun W hW => ?_⟩) (by assumption) ?_
              · go_simp
              simp only [Act.put, List.setIfInBounds_toArray, List.set_cons_zero, List.set_cons_succ]
              refine wpAnyH_take (i := 10) (oi := ⟨some 148, _, _, _, _, none⟩) (v := (.bool true)) rfl (by kernel_rfl) (by kernel_rfl) (by kernel_rfl) (fun _ _ _ h => h) (Or.inl ⟨by rfl, fun W hW => ?_⟩) (by assumption) ?_
              · go_simp
              simp only [Act.put, List.setIfInBounds_toArray, List.set_cons_zero, List.set_cons_succ]
              refine wpAnyH_take (i := 11) (oi := ⟨some 149, _, _, _, _, some (10, true)⟩) (v := (bV 255 1500 524288)) rfl (by kernel_rfl) (by kernel_rfl) (by kernel_rfl) (fun _ _ _ h => h) (Or.inl ⟨by rfl, fun W hW => ?_⟩) (by assumption) ?_
              · (obtain ⟨c0, c1, c2⟩ := box3 hW.1; go_simp; try rfl)
              simp only [Act.put, List.setIfInBounds_toArray, List.set_cons_zero, List.set_cons_succ]
              refine wpAnyH_ready (rs := [12]) (by kernel_rfl) (by simp) (AllReadyH.cons rfl (fun KK hKK => ?_) AllReadyH.nil)
              go_simp
              refine (sizeDoes_any 255 1500 524288 1 1 none none none 0 0 0 0 0 0 (fun _ => 0) (fun _ => 0) _ _ (fun _ => ⟨rfl, rfl⟩) (by omega) (by omega) (by omega) (by omega) _ ⟨fun i hi => absurd hi (Nat.not_lt_zero i)⟩ hi_none hi_none).mono ?_
              rintro e V3 ⟨rfl, hb3⟩
              dsimp only
              have hS0 := HS.out
              have HS := Lib.hid (show Sd w V3 G from hS0.same hb3)
              clear hS0 hb3
              refine hKK.out _ _ (HS.out) (fun hHeld => ?_)
              clear hKK KK
              try simp only [Act.put, List.setIfInBounds_toArray, List.set_cons_zero, List.set_cons_succ]
              refine wpAnyH_take (i := 13) (oi := ⟨some 151, _, _, _, _, none⟩) (v := (.bool true)) rfl (by kernel_rfl) (by kernel_rfl) (by kernel_rfl) (fun _ _ _ h => h) (Or.inl ⟨by rfl, fun W hW => ?_⟩) (by assumption) ?_
              · go_simp
              simp only [Act.put, List.setIfInBounds_toArray, List.set_cons_zero, List.set_cons_succ]
              refine wpAnyH_take (i := 14) (oi := ⟨some 152, _, _, _, _, none⟩) (v := (.bool true)) rfl (by kernel_rfl) (by kernel_rfl) (by kernel_rfl) (fun _ _ _ h => h) (Or.inl ⟨by rfl, fun W hW => ?_⟩) (by assumption) ?_
              · go_simp
              simp only [Act.put, List.setIfInBounds_toArray, List.set_cons_zero, List.set_cons_succ]
              refine wpAnyH_take (i := 15) (oi := ⟨some 153, _, _, _, _, some (14, true)⟩) (v := (bV 255 1500 524288)) rfl (by kernel_rfl) (by kernel_rfl) (by kernel_rfl) (fun _ _ _ h => h) (Or.inl ⟨by rfl, fun W hW => ?_⟩) (by assumption) ?_
              · (obtain ⟨c0, c1, c2⟩ := box3 hW.1; go_simp; try rfl)
              simp only [Act.put, List.setIfInBounds_toArray, List.set_cons_zero, List.set_cons_succ]
              refine @share _ ?shP3 (fun hG => ?shF3) ?shG3
              case shF3 =>
                have HGH := Lib.hid hG; clear hG
                refine wpAnyH_ready (rs := [16, 17]) (by kernel_rfl) (by simp) (AllReadyH.cons rfl (fun KK hKK => ?_) (AllReadyH.cons rfl (fun KK hKK => ?_) AllReadyH.nil))
                · go_simp
                  have hl1 : Below V3.heap.size V3 (V3.alloc (.cells (madeCells #[.int .i64 0] 9) 3)) := (Below.refl _ _).alloc (Nat.le_refl _) _
                  refine hKK.out _ _ (HS.out.same hl1) (fun hHeld => ?_)
                  clear hKK KK hl1
                  try simp only [Act.put, List.setIfInBounds_toArray, List.set_cons_zero, List.set_cons_succ]
                  refine wpAnyH_ready (rs := [17]) (by kernel_rfl) (by simp) (AllReadyH.cons rfl (fun KK hKK => ?_) AllReadyH.nil)
                  go_simp
                  refine hKK.out _ _ (HS.out.same (twoB V3 (.cells (madeCells #[.int .i64 0] 9) 3) (.cells (madeCells #[.int .i64 0] 9) 3)).2.2) (fun hHeld => ?_)
                  clear hKK KK
                  try simp only [Act.put, List.setIfInBounds_toArray, List.set_cons_zero, List.set_cons_succ]
                  have HALL := Lib.hid (show _ ∧ _ ∧ _ from ⟨(hi_nine (twoB V3 (.cells (madeCells #[.int .i64 0] 9) 3) (.cells (madeCells #[.int .i64 0] 9) 3)).1), (hi_nine (twoB V3 (.cells (madeCells #[.int .i64 0] 9) 3) (.cells (madeCells #[.int .i64 0] 9) 3)).2.1), HS.out.same (twoB V3 (.cells (madeCells #[.int .i64 0] 9) 3) (.cells (madeCells #[.int .i64 0] 9) 3)).2.2⟩)
                  generalize (V3.alloc (.cells (madeCells #[.int .i64 0] 9) 3)).alloc (.cells (madeCells #[.int .i64 0] 9) 3) = W5 at HALL hHeld ⊢
                  generalize V3.heap.size + 1 = xq at HALL ⊢
                  generalize V3.heap.size = xp at HALL ⊢
                  revert HALL
                  revert hHeld
                  revert xp
                  revert xq
                  revert W5
                  exact HGH.out
                · go_simp
                  have hl1 : Below V3.heap.size V3 (V3.alloc (.cells (madeCells #[.int .i64 0] 9) 3)) := (Below.refl _ _).alloc (Nat.le_refl _) _
                  refine hKK.out _ _ (HS.out.same hl1) (fun hHeld => ?_)
                  clear hKK KK hl1
                  try simp only [Act.put, List.setIfInBounds_toArray, List.set_cons_zero, List.set_cons_succ]
                  refine wpAnyH_ready (rs := [16]) (by kernel_rfl) (by simp) (AllReadyH.cons rfl (fun KK hKK => ?_) AllReadyH.nil)
                  go_simp
                  refine hKK.out _ _ (HS.out.same (twoB V3 (.cells (madeCells #[.int .i64 0] 9) 3) (.cells (madeCells #[.int .i64 0] 9) 3)).2.2) (fun hHeld => ?_)
                  clear hKK KK
                  try simp only [Act.put, List.setIfInBounds_toArray, List.set_cons_zero, List.set_cons_succ]
                  exact HGH.out _ _ _ hHeld (Lib.hid ⟨(hi_nine (twoB V3 (.cells (madeCells #[.int .i64 0] 9) 3) (.cells (madeCells #[.int .i64 0] 9) 3)).2.1), (hi_nine (twoB V3 (.cells (madeCells #[.int .i64 0] 9) 3) (.cells (madeCells #[.int .i64 0] 9) 3)).1), HS.out.same (twoB V3 (.cells (madeCells #[.int .i64 0] 9) 3) (.cells (madeCells #[.int .i64 0] 9) 3)).2.2⟩)
              case shG3 =>
                intro W3 xq3 xp3 hHeld HALL
                obtain ⟨hp3, hq3, hs3⟩ := HALL.out
                have HP := Lib.hid hp3; have HQ := Lib.hid hq3; have HS := Lib.hid hs3
                clear HALL hp3 hq3 hs3
                refine wpAnyH_ready (rs := [18]) (by kernel_rfl) (by simp) (AllReadyH.cons rfl (fun KK hKK => ?_) AllReadyH.nil)
                go_simp
                refine (sizeDoes_any 255 1500 524288 1 1 none (some ⟨xp3, 0, none⟩) (some ⟨xq3, 0, none⟩) 0 0 9 9 9 9 (fun _ => 0) (fun _ => 0) _ _ (fun _ => ⟨rfl, rfl⟩) (by omega) (by omega) (by omega) (by omega) _ ⟨fun i hi => absurd hi (Nat.not_lt_zero i)⟩ HP.out HQ.out).mono ?_
                rintro e V4 ⟨rfl, hb4⟩
                dsimp only
                have hS0 := HS.out
                have HS := Lib.hid (show Sd w V4 G from hS0.same hb4)
                clear hS0 hb4
                refine hKK.out _ _ (HS.out) (fun hHeld => ?_)
                clear hKK KK
                try simp only [Act.put, List.setIfInBounds_toArray, List.set_cons_zero, List.set_cons_succ]
                refine wpAnyH_take (i := 19) (oi := ⟨some 157, _, _, _, _, none⟩) (v := (.bool true)) rfl (by kernel_rfl) (by kernel_rfl) (by kernel_rfl) (fun _ _ _ h => h) (Or.inl ⟨by rfl, fun W hW => ?_⟩) (by assumption) ?_
                · go_simp
                simp only [Act.put, List.setIfInBounds_toArray, List.set_cons_zero, List.set_cons_succ]
                refine wpAnyH_take (i := 20) (oi := ⟨some 158, _, _, _, _, none⟩) (v := (.bool true)) rfl (by kernel_rfl) (by kernel_rfl) (by kernel_rfl) (fun _ _ _ h => h) (Or.inl ⟨by rfl, fun W hW => ?_⟩) (by assumption) ?_
                · go_simp
                simp only [Act.put, List.setIfInBounds_toArray, List.set_cons_zero, List.set_cons_succ]
                refine wpAnyH_take (i := 21) (oi := ⟨some 159, _, _, _, _, some (20, true)⟩) (v := (bV 255 1500 524288)) rfl (by kernel_rfl) (by kernel_rfl) (by kernel_rfl) (fun _ _ _ h => h) (Or.inl ⟨by rfl, fun W hW => ?_⟩) (by assumption) ?_
                · (obtain ⟨c0, c1, c2⟩ := box3 hW.1; go_simp; try rfl)
                simp only [Act.put, List.setIfInBounds_toArray, List.set_cons_zero, List.set_cons_succ]
                refine @share _ ?shP4 (fun hG => ?shF4) ?shG4
                case shF4 =>
                  have HGH := Lib.hid hG; clear hG
                  refine wpAnyH_ready (rs := [22, 23]) (by kernel_rfl) (by simp) (AllReadyH.cons rfl (fun KK hKK => ?_) (AllReadyH.cons rfl (fun KK hKK => ?_) AllReadyH.nil))
                  · go_simp
                    have hl1 : Below V4.heap.size V4 (V4.alloc (.cells #[.int .i64 0, .int .i64 0] 3)) := (Below.refl _ _).alloc (Nat.le_refl _) _
                    refine hKK.out _ _ (HS.out.same hl1) (fun hHeld => ?_)
                    clear hKK KK hl1
                    try simp only [Act.put, List.setIfInBounds_toArray, List.set_cons_zero, List.set_cons_succ]
                    refine wpAnyH_ready (rs := [23]) (by kernel_rfl) (by simp) (AllReadyH.cons rfl (fun KK hKK => ?_) AllReadyH.nil)
                    go_simp
                    refine hKK.out _ _ (HS.out.same (twoB V4 (.cells #[.int .i64 0, .int .i64 0] 3) (.cells #[.int .i64 1] 3)).2.2) (fun hHeld => ?_)
                    clear hKK KK
                    try simp only [Act.put, List.setIfInBounds_toArray, List.set_cons_zero, List.set_cons_succ]
                    have HALL := Lib.hid (show _ ∧ _ ∧ _ from ⟨(hi_lit2 _ _ [0, 0] 2 (by decide) (by decide) (twoB V4 (.cells #[.int .i64 0, .int .i64 0] 3) (.cells #[.int .i64 1] 3)).1), (hi_lit2 _ _ [1] 1 (by decide) (by decide) (twoB V4 (.cells #[.int .i64 0, .int .i64 0] 3) (.cells #[.int .i64 1] 3)).2.1), HS.out.same (twoB V4 (.cells #[.int .i64 0, .int .i64 0] 3) (.cells #[.int .i64 1] 3)).2.2⟩)
                    generalize (V4.alloc (.cells #[.int .i64 0, .int .i64 0] 3)).alloc (.cells #[.int .i64 1] 3) = W5 at HALL hHeld ⊢
                    generalize V4.heap.size + 1 = xq at HALL ⊢
                    generalize V4.heap.size = xp at HALL ⊢
                    revert HALL
                    revert hHeld
                    revert xp
                    revert xq
                    revert W5
                    exact HGH.out
                  · go_simp
                    have hl1 : Below V4.heap.size V4 (V4.alloc (.cells #[.int .i64 1] 3)) := (Below.refl _ _).alloc (Nat.le_refl _) _
                    refine hKK.out _ _ (HS.out.same hl1) (fun hHeld => ?_)
                    clear hKK KK hl1
                    try simp only [Act.put, List.setIfInBounds_toArray, List.set_cons_zero, List.set_cons_succ]
                    refine wpAnyH_ready (rs := [22]) (by kernel_rfl) (by simp) (AllReadyH.cons rfl (fun KK hKK => ?_) AllReadyH.nil)
                    go_simp
                    refine hKK.out _ _ (HS.out.same (twoB V4 (.cells #[.int .i64 1] 3) (.cells #[.int .i64 0, .int .i64 0] 3)).2.2) (fun hHeld => ?_)
                    clear hKK KK
                    try simp only [Act.put, List.setIfInBounds_toArray, List.set_cons_zero, List.set_cons_succ]
                    exact HGH.out _ _ _ hHeld (Lib.hid ⟨(hi_lit2 _ _ [0, 0] 2 (by decide) (by decide) (twoB V4 (.cells #[.int .i64 1] 3) (.cells #[.int .i64 0, .int .i64 0] 3)).2.1), (hi_lit2 _ _ [1] 1 (by decide) (by decide) (twoB V4 (.cells #[.int .i64 1] 3) (.cells #[.int .i64 0, .int .i64 0] 3)).1), HS.out.same (twoB V4 (.cells #[.int .i64 1] 3) (.cells #[.int .i64 0, .int .i64 0] 3)).2.2⟩)
                case shG4 =>
                  intro W4 xq4 xp4 hHeld HALL
                  obtain ⟨hp4, hq4, hs4⟩ := HALL.out
                  have HP := Lib.hid hp4; have HQ := Lib.hid hq4; have HS := Lib.hid hs4
                  clear HALL hp4 hq4 hs4
                  refine wpAnyH_ready (rs := [24]) (by kernel_rfl) (by simp) (AllReadyH.cons rfl (fun KK hKK => ?_) AllReadyH.nil)
                  go_simp
                  refine (sizeDoes_any 255 1500 524288 1 1 none (some ⟨xp4, 0, none⟩) (some ⟨xq4, 0, none⟩) 0 0 2 2 1 1 (fun _ => 0) (fun _ => 0) _ _ (fun _ => ⟨rfl, rfl⟩) (by omega) (by omega) (by omega) (by omega) _ ⟨fun i hi => absurd hi (Nat.not_lt_zero i)⟩ HP.out HQ.out).mono ?_
                  rintro e V5 ⟨rfl, hb5⟩
                  dsimp only
                  have hS0 := HS.out
                  have HS := Lib.hid (show Sd w V5 G from hS0.same hb5)
                  clear hS0 hb5
                  refine hKK.out _ _ (HS.out) (fun hHeld => ?_)
                  clear hKK KK
                  try simp only [Act.put, List.setIfInBounds_toArray, List.set_cons_zero, List.set_cons_succ]
                  refine wpAnyH_take (i := 25) (oi := ⟨some 163, _, _, _, _, none⟩) (v := (.bool true)) rfl (by kernel_rfl) (by kernel_rfl) (by kernel_rfl) (fun _ _ _ h => h) (Or.inl ⟨by rfl, fun W hW => ?_⟩) (by assumption) ?_
                  · go_simp
                  simp only [Act.put, List.setIfInBounds_toArray, List.set_cons_zero, List.set_cons_succ]
                  refine wpAnyH_take (i := 26) (oi := ⟨some 164, _, _, _, _, none⟩) (v := (.bool true)) rfl (by kernel_rfl) (by kernel_rfl) (by kernel_rfl) (fun _ _ _ h => h) (Or.inl ⟨by rfl, fun W hW => ?_⟩) (by assumption) ?_
                  · go_simp
                  simp only [Act.put, List.setIfInBounds_toArray, List.set_cons_zero, List.set_cons_succ]
                  refine wpAnyH_ready (rs := [27]) (by kernel_rfl) (by simp) (AllReadyH.cons rfl (fun KK hKK => ?_) AllReadyH.nil)
                  go_simp
                  refine (awake11_any _).mono ?_
                  rintro e V6 ⟨rfl, hb6⟩
                  dsimp only
                  have hS0 := HS.out
                  have HS := Lib.hid (show Sd w V6 G from hS0.same hb6)
                  clear hS0 hb6
                  refine hKK.out _ _ (HS.out) (fun hHeld => ?_)
                  clear hKK KK
                  try simp only [Act.put, List.setIfInBounds_toArray, List.set_cons_zero, List.set_cons_succ]
                  refine wpAnyH_take (i := 28) (oi := ⟨some 166, _, _, _, _, none⟩) (v := (.bool true)) rfl (by kernel_rfl) (by kernel_rfl) (by kernel_rfl) (fun _ _ _ h => h) (Or.inl ⟨by rfl, fun W hW => ?_⟩) (by assumption) ?_
                  · go_simp
                  simp only [Act.put, List.setIfInBounds_toArray, List.set_cons_zero, List.set_cons_succ]
                  refine wpAnyH_ready (rs := [29]) (by kernel_rfl) (by simp) (AllReadyH.cons rfl (fun KK hKK => ?_) AllReadyH.nil)
                  go_simp
                  refine hKK.out _ _ (HS.out) (fun hHeld => ?_)
                  clear hKK KK
                  try simp only [Act.put, List.setIfInBounds_toArray, List.set_cons_zero, List.set_cons_succ]
                  refine wpAnyH_done (by kernel_rfl) ?_ _
                  go_wp2
                  go_ret
                  exact ⟨rfl, HS.out.2⟩
end Go.Proofs.Ytkejabhjlflknaa.Sz
