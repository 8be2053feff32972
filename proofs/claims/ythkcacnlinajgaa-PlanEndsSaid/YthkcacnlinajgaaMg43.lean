import Derived.BigQuiet
import Derived.Deep.RegionWith
import Derived.Deep.RegionLaw
import Derived.Lib.QuietBelow
import Derived.Deep.RegionHeld3
import Derived.Test.YthkcacnlinajgaaMg42
namespace Go.Proofs.Ythkcacnlinajgaa.Pn
open Go.RowKit Go.Shelf
attribute [local go_sem] Oper.semAt_some

/-- a layer, as it is handed on. -/
def lyV (cf cg : Nat) (ca cb : Array Value) : Value := .agg #[.func (.func cf) #[] ca, .func (.func cg) #[] cb]
/-- the rows of two tables. -/
def SS (n : Nat) (b z : Nat → Nat) (k : Nat) : Prop := (∃ i, i < n ∧ k = b i) ∨ (∃ i, i < n ∧ k = z i)
/-- what is behind a layer, at one of the thresholds. -/
def rnF (l : Ly) (cb : Nat → Nat → Int × Nat) (n k r : Nat) : Int × Nat := run l cb r k (n + 1 - k)
theorem rnF_down {l : Ly} {cb : Nat → Nat → Int × Nat} {n k : Nat} (hk : k ≤ n) (hv : ∀ j, k ≤ j → j ≤ n → 0 ≤ l.v j) (r : Nat) :
    rnF l cb n k r = if (l.wd k ≤ r ∧ 0 ≤ (cb k (r - l.wd k)).1) ∧ (rnF l cb n (k + 1) r).1 ≤ l.v k + (cb k (r - l.wd k)).1 then (l.v k + (cb k (r - l.wd k)).1, k) else rnF l cb n (k + 1) r := run_down' l cb r hk hv
theorem rnF_last (l : Ly) (cb : Nat → Nat → Int × Nat) (n r : Nat) : rnF l cb n (n + 1) r = (-1, 0) := by
  unfold rnF; rw [Nat.sub_self]; rfl
set_option maxHeartbeats 8000000 in
set_option maxRecDepth 100000 in
theorem lead_any (n R : Nat) (hn1 : 1 ≤ n) (hn : n ≤ 255) (hR : R ≤ 2000) (l : Ly) (cb : Nat → Nat → Int × Nat) (hcb : ∀ k r, -1 ≤ (cb k r).1 ∧ (cb k r).1 ≤ 549755813888) (hl : ∀ k, 1 ≤ k → k ≤ n → 0 ≤ l.v k ∧ l.v k ≤ 68719476736 ∧ l.wd k ≤ 65535)
    (cf cg : Nat) (ca cc : Array Value) (G Z : Nat) (b z : Nat → Nat) (F : Nat → Nat → Int) (hF : ∀ k r, 1 ≤ k → k ≤ n → F k r = (cb k r).1) (hN : ∀ r, F (n + 1) r = -1) (w : World)
    (hs : Tab 24 3 .i64 w G (n + 2) (R + 1) b F) (hz : Tab 139 5 .u8 w Z (n + 2) (R + 1) z (fun _ _ => 0))
    (he1 : ∀ (args : Array Value) (W : World), (callFunc cf args).run Try.prog W = .ok (.enter cf args) W) (he2 : ∀ (args : Array Value) (W : World), (callFunc cg args).run Try.prog W = .ok (.enter cg args) W)
    (hw : ∀ W, Fr (SS (n + 2) b z) w W → ∀ k : Nat, 1 ≤ k → k ≤ n → Calls Try.prog cf (#[.int .i64 (k : Nat)] ++ ca) W fun e W' => e = .returned (.int .i64 (l.wd k : Nat)) ∧ W' = W)
    (hv : ∀ W, Fr (SS (n + 2) b z) w W → ∀ k : Nat, 1 ≤ k → k ≤ n → Calls Try.prog cg (#[.int .i64 (k : Nat)] ++ cc) W fun e W' => e = .returned (.int .i64 (l.v k)) ∧ ∃ q, W' = W.drewN q) :
    Calls Try.prog 54 #[lyV cf cg ca cc, .int .i64 (n : Nat), .slice (some ⟨G, 0, none⟩) (n + 2) (n + 2), .slice (some ⟨Z, 0, none⟩) (n + 2) (n + 2)] w fun e w' => e = .returned (.tuple #[]) ∧
      Tab 24 3 .i64 w' G (n + 2) (R + 1) b (fun k r => if k = 0 then F 0 r else (rnF l cb n k r).1) ∧ Tab 139 5 .u8 w' Z (n + 2) (R + 1) z (fun k r => if k = 0 then 0 else ((rnF l cb n k r).2 : Nat)) ∧ Fr (SS (n + 2) b z) w w' := by
  obtain ⟨T, hT⟩ : ∃ T, T = n + 2 := ⟨_, rfl⟩
  obtain ⟨Q, hQ⟩ : ∃ Q, Q = R + 1 := ⟨_, rfl⟩
  have hT2 : T ≤ 257 := by omega
  have hQ2 : Q ≤ 2001 := by omega
  have HT := Lib.hid hT; have HQ := Lib.hid hQ
  have HCB := Lib.hid hcb; have HL := Lib.hid hl; have HF := Lib.hid hF; have HW := Lib.hid hw; have HV := Lib.hid hv
  rw [← hT] at hs hz HW HV ⊢
  rw [← hQ] at hs hz ⊢
  have HNL := Lib.hid (fun j r (hj : j = n + 1) => show F j r = (rnF l cb n j r).1 by rw [hj, rnF_last]; exact hN r)
  have HNL2 := Lib.hid (fun r => rnF_last l cb n r)
  have HDN := Lib.hid (fun k (h1 : 1 ≤ k) (h2 : k ≤ n) r => rnF_down (cb := cb) h2 (fun j h3 h4 => (hl j (by omega) h4).1) r)
  have HS := Lib.hid hs; have HZ := Lib.hid hz
  obtain ⟨rn, hrn⟩ : ∃ rn, rn = rnF l cb n := ⟨_, rfl⟩
  rw [← hrn] at HNL HNL2 HDN ⊢
  clear hs hz hcb hl hF hN hw hv hT hQ hrn
  -- the box and the row behind
  have hmk := Wg.hmkI Q (by omega)
  have hB0 : Below w.heap.size w ((w.alloc (.cells #[.func (.func cf) #[] ca, .func (.func cg) #[] cc] 109)).alloc (.cells (madeCells #[.int .i64 0] Q) 3)) := ((Below.refl _ w).alloc (Nat.le_refl _) _).alloc (by simp) _
  have hx0 : ((w.alloc (.cells #[.func (.func cf) #[] ca, .func (.func cg) #[] cc] 109)).alloc (.cells (madeCells #[.int .i64 0] Q) 3)).heap[w.heap.size]? = some (.cells #[.func (.func cf) #[] ca, .func (.func cg) #[] cc] 109 (0, 0)) := by
    rw [Below.heap_alloc _ _ _ (by simp)]; exact heap_alloc_new _ _
  have hr0 := Nr.made (w.alloc (.cells #[.func (.func cf) #[] ca, .func (.func cg) #[] cc] 109)) 3 .i64 Q
  rw [World.size_alloc] at hr0
  have hz0 : ((w.alloc (.cells #[.func (.func cf) #[] ca, .func (.func cg) #[] cc] 109)).alloc (.cells (madeCells #[.int .i64 0] Q) 3)).heap.size = w.heap.size + 1 + 1 := by rw [World.size_alloc, World.size_alloc]
  have c1 : (w.alloc (.cells #[.func (.func cf) #[] ca, .func (.func cg) #[] cc] 109)).cell? ⟨G, n, none⟩ = some (.slice (some ⟨b n, 0, none⟩) Q Q) := by
    rw [World.cell?_alloc_lt _ _ _ HS.out.lt]; exact HS.out.cell (by have := HT.out; omega)
  have i0 : (n : Int) < (T : Int) := by have := HT.out; omega
  have HB0 := Lib.hid hB0; have HX0 := Lib.hid hx0; have HR0 := Lib.hid hr0; have HZ0 := Lib.hid hz0
  clear hB0 hx0 hr0 hz0
  unfold lyV
  go_enter Try.func54, Try.ntmps54
  go_wp2_with fail
  generalize (w.alloc (.cells #[.func (.func cf) #[] ca, .func (.func cg) #[] cc] 109)).alloc (.cells (madeCells #[.int .i64 0] Q) 3) = w0 at *
  obtain ⟨bh, hbh⟩ : ∃ bh, bh = w.heap.size + 1 := ⟨_, rfl⟩
  rw [← hbh] at HR0 HZ0 ⊢
  have HBH := Lib.hid hbh
  clear hmk c1 hbh
  obtain ⟨S, hSd⟩ : ∃ S : Nat → Prop, S = fun k => SS T b z k ∨ k = bh := ⟨_, rfl⟩
  have HSb := Lib.hid (show ∀ i, i < T → S (b i) from fun i hi => by rw [hSd]; exact Or.inl (Or.inl ⟨i, hi, rfl⟩))
  have HSz := Lib.hid (show ∀ i, i < T → S (z i) from fun i hi => by rw [hSd]; exact Or.inl (Or.inr ⟨i, hi, rfl⟩))
  have HSh := Lib.hid (show S bh by rw [hSd]; exact Or.inr rfl)
  have hblt : ∀ i, i < T → b i < w.heap.size := fun i hi => (HS.out.rw i hi).lt
  have hzlt : ∀ i, i < T → z i < w.heap.size := fun i hi => (HZ.out.rw i hi).lt
  have HSx := Lib.hid (show ¬ S w.heap.size by
    rw [hSd]; rintro ((⟨i, hi, e⟩ | ⟨i, hi, e⟩) | e)
    · have := hblt i hi; omega
    · have := hzlt i hi; omega
    · have := HBH.out; omega)
  have HFW := Lib.hid (show ∀ W, Fr S w0 W → Fr (SS T b z) w W from fun W h => ⟨h.os.trans HB0.out.os, h.tape.trans HB0.out.tape, h.output.trans HB0.out.output, Nat.le_trans HB0.out.size h.size, fun k hk hn => by
    rw [h.block k (by have := HB0.out.size; omega) (by rw [hSd]; rintro (e | e); exact hn e; have := HBH.out; omega)]
    exact HB0.out.block k hk⟩)
  have HBL := Lib.hid hblt; have HZL := Lib.hid hzlt
  have HS0 := Lib.hid (HS.out.same HB0.out); have HZZ := Lib.hid (HZ.out.same HB0.out)
  clear hSd hblt hzlt HS HZ
  go_loopw [9] (fun i wr => ∃ k : Nat, k ≤ n ∧ i = .int .i64 (k : Nat) ∧ Tab 24 3 .i64 wr G T Q b (fun j r => if j ≤ k then F j r else (rn j r).1) ∧ Tab 139 5 .u8 wr Z T Q z (fun j r => if j ≤ k then 0 else ((rn j r).2 : Nat)) ∧ (∃ hh, Nr 3 .i64 wr bh Q hh) ∧ Fr S w0 wr) (fun i _ => (intOf i).toNat)
  case atStart => exact ⟨n, Nat.le_refl _, rfl, HS0.out.congr (fun j r hj hr => by
      by_cases e : j ≤ n
      · rw [if_pos e]
      · rw [if_neg e]; exact HNL.out j r (by have := HT.out; omega)), HZZ.out.congr (fun j r hj hr => by
      by_cases e : j ≤ n
      · rw [if_pos e]
      · rw [if_neg e, show j = n + 1 by have := HT.out; omega, HNL2.out]; rfl), ⟨_, HR0.out⟩, Fr.refl _ _⟩
  case round =>
    obtain ⟨k, hk, rfl, hsk, hzk, ⟨hh, hhk⟩, hf⟩ := hrel
    have HSk := Lib.hid hsk; have HZk := Lib.hid hzk; have HHk := Lib.hid hhk; have HFk := Lib.hid hf
    clear hsk hzk hhk hf
    by_cases hk1 : 1 ≤ k
    · have i1 : (1 : Int) ≤ (k : Int) := by omega
      have hkT : k + 1 < T := by have := HT.out; omega
      have i2 : (k : Int) < (T : Int) := by omega
      have c1 := HSk.out.cell (i := k) (by omega)
      obtain ⟨w1, hrun, hr1, hg1⟩ := run_copy_nr 24 3 3 .i64 Try.underlying24 Try.sizeInt1 wr bh (b k) Q _ _ HHk.out (HSk.out.rw k (by omega))
      have HR1 := Lib.hid (hr1.congr (h := fun r => (cb k r).1) (fun r hr => by rw [if_pos (Nat.le_refl _)]; exact HF.out k r hk1 hk))
      have HF1 := Lib.hid (HFk.out.trans (Fr.of_grown hg1 HSh.out))
      have hGb : G ≠ bh := by
        have := HS0.out.lt
        intro e
        obtain ⟨vs, h1, _⟩ := HS0.out.ls
        exact (HS0.out.ne_row h1 (by decide) (i := 0) (by omega)) (by
          exfalso
          obtain ⟨us, h2⟩ := HR0.out.obj
          rw [e, h2] at h1
          injection h1 with h1; injection h1 with _ h1
          exact absurd h1 (by decide))
      have HS1 := Lib.hid (HSk.out.kept (hg1.block G HSk.out.lt (by intro e; injection e with e; exact hGb e)) (fun i hi => hg1.block _ (HSk.out.rw i hi).lt (by intro e; injection e with e; have := HBL.out i hi; have := HBH.out; omega)))
      have hZb : Z ≠ bh := by
        intro e
        obtain ⟨vs, h1, _⟩ := HZZ.out.ls
        obtain ⟨us, h2⟩ := HR0.out.obj
        rw [e, h2] at h1
        injection h1 with h1; injection h1 with _ h1
        exact absurd h1 (by decide)
      have HZ1 := Lib.hid (HZk.out.kept (hg1.block Z HZk.out.lt (by intro e; injection e with e; exact hZb e)) (fun i hi => hg1.block _ (HZk.out.rw i hi).lt (by intro e; injection e with e; have := HZL.out i hi; have := HBH.out; omega)))
      clear hr1 hg1 hGb hZb HSk HZk HHk HFk
      go_wp2_with fail
      clear hrun c1
      refine (inheritI_any G T Q k b _ hkT (by omega) w1 HS1.out).mono ?_
      rintro e w2 ⟨rfl, hr2, hg2⟩
      have HS2 := Lib.hid (HS1.out.rowset (by decide) (by omega) hr2 hg2)
      have hbk : b k ≠ bh := by have := HBL.out k (by omega); have := HBH.out; omega
      have HR2 := Lib.hid (HR1.out.kept (hg2.block bh HR1.out.lt (by intro e; injection e with e; exact hbk e.symm)))
      have HF2 := Lib.hid (HF1.out.trans (Fr.of_grown hg2 (HSb.out k (by omega))))
      have HZ2 := Lib.hid (HZ1.out.kept (hg2.block Z HZ1.out.lt (by
        intro e; injection e with e
        obtain ⟨vs, h1, _⟩ := HZ1.out.ls
        exact HS1.out.ne_row h1 (by decide) (by omega) e)) (fun i hi => hg2.block _ (HZ1.out.rw i hi).lt (by
        intro e; injection e with e
        obtain ⟨vs, h1⟩ := (HZ1.out.rw i hi).obj
        exact HS1.out.ne_row h1 (by decide) (by omega) e)))
      clear hr2 hg2 hbk HS1 HR1 HF1 HZ1
      go_wp2_with fail
      refine (inheritB_any Z T Q k z _ hkT (by omega) w2 HZ2.out).mono ?_
      rintro e w3 ⟨rfl, hr3, hg3⟩
      have HZ3 := Lib.hid (HZ2.out.rowset (by decide) (by omega) hr3 hg3)
      have hzk : z k ≠ bh := by have := HZL.out k (by omega); have := HBH.out; omega
      have HR3 := Lib.hid (HR2.out.kept (hg3.block bh HR2.out.lt (by intro e; injection e with e; exact hzk e.symm)))
      have HF3 := Lib.hid (HF2.out.trans (Fr.of_grown hg3 (HSz.out k (by omega))))
      have HS3 := Lib.hid (HS2.out.kept (hg3.block G HS2.out.lt (by
        intro e; injection e with e
        obtain ⟨vs, h1, _⟩ := HS2.out.ls
        exact HZ2.out.ne_row h1 (by decide) (by omega) e)) (fun i hi => hg3.block _ (HS2.out.rw i hi).lt (by
        intro e; injection e with e
        obtain ⟨vs, h1⟩ := (HS2.out.rw i hi).obj
        exact HZ2.out.ne_row h1 (by decide) (by omega) e)))
      clear hr3 hg3 hzk HS2 HR2 HF2 HZ2
      have HS3 := Lib.hid (HS3.out.congr (H := fun j r => if j ≤ k - 1 then F j r else if j = k then (rn (k + 1) r).1 else (rn j r).1) (fun j r hj hr => by
        by_cases e : j = k
        · rw [if_pos e, if_neg (by omega), if_neg (by omega), if_pos e]
        · rw [if_neg e]
          by_cases e2 : j ≤ k
          · rw [if_pos e2, if_pos (by omega)]
          · rw [if_neg e2, if_neg (by omega), if_neg e]))
      have HZ3 := Lib.hid (HZ3.out.congr (H := fun j r => if j ≤ k - 1 then 0 else if j = k then ((rn (k + 1) r).2 : Nat) else ((rn j r).2 : Nat)) (fun j r hj hr => by
        by_cases e : j = k
        · rw [if_pos e, if_neg (by omega), if_neg (by omega), if_pos e]
        · rw [if_neg e]
          by_cases e2 : j ≤ k
          · rw [if_pos e2, if_pos (by omega)]
          · rw [if_neg e2, if_neg (by omega), if_neg e]))
      have hx3 : ∀ y, (w3.drewN y).heap[w.heap.size]? = some (.cells #[.func (.func cf) #[] ca, .func (.func cg) #[] cc] 109 (0, 0)) := fun y => (HF3.out.block _ (by have := HZ0.out; have := HBH.out; omega) HSx.out).trans HX0.out
      have D0 : ∀ y, (w3.drewN y).cell? ⟨w.heap.size, 0, none⟩ = some (.func (.func cf) #[] ca) := fun y => by rw [cell_of_row _ _ 0 _ _ _ (hx3 y)]; rfl
      have D1 : ∀ y, (w3.drewN y).cell? ⟨w.heap.size, 1, none⟩ = some (.func (.func cg) #[] cc) := fun y => by rw [cell_of_row _ _ 1 _ _ _ (hx3 y)]; rfl
      have HCW := Lib.hid (fun y => HW.out (w3.drewN y) (HFW.out _ (HF3.out.trans (Fr.of_below (below_dr (Below.refl _ w3) y)))) k hk1 hk)
      have HCV := Lib.hid (fun y => HV.out (w3.drewN y) (HFW.out _ (HF3.out.trans (Fr.of_below (below_dr (Below.refl _ w3) y)))) k hk1 hk)
      have hd := HL.out k hk1 hk
      have HDk := Lib.hid (HDN.out k hk1 hk)
      generalize l.wd k = wd at *
      generalize l.v k = v at *
      obtain ⟨v0, v1, d1⟩ := hd
      clear hx3
      go_wp2_with fail
      go_quiet ((first | exact Calls.quiet_of_same (HCW.out _) | exact Calls.quiet_of (HCV.out _)))
      have hbq := below_dr (Below.refl w3.heap.size w3) nq
      have HS4 := Lib.hid (HS3.out.same hbq); have HZ4 := Lib.hid (HZ3.out.same hbq); have HR4 := Lib.hid (HR3.out.same hbq); have HF4 := Lib.hid (HF3.out.trans (Fr.of_below hbq))
      generalize w3.drewN nq = w4 at *
      clear hbq D0 D1 HCW HCV HS3 HZ3 HR3 HF3
      go_wp2_with fail
      go_loopw [12] (fun i wr => ∃ q : Nat, wd ≤ q ∧ q ≤ 70000 ∧ i = .int .i64 (q : Nat) ∧ Tab 24 3 .i64 wr G T Q b (fun j r => if j ≤ k - 1 then F j r else if j = k ∧ q ≤ r then (rn (k + 1) r).1 else (rn j r).1) ∧ Tab 139 5 .u8 wr Z T Q z (fun j r => if j ≤ k - 1 then 0 else if j = k ∧ q ≤ r then ((rn (k + 1) r).2 : Nat) else ((rn j r).2 : Nat)) ∧ Nr 3 .i64 wr bh Q (fun r => (cb k r).1) ∧ Fr S w0 wr) (fun i _ => Q - (intOf i).toNat)
      case atStart =>
        have hlow : ∀ r, r < wd → rn k r = rn (k + 1) r := fun r hr => by rw [HDk.out r, if_neg (fun h => by have := h.1.1; omega)]
        refine ⟨wd, Nat.le_refl _, by omega, rfl, HS4.out.congr (fun j r hj hr => ?_), HZ4.out.congr (fun j r hj hr => ?_), HR4.out, HF4.out⟩
        · by_cases e : j ≤ k - 1
          · rw [if_pos e, if_pos e]
          · rw [if_neg e, if_neg e]
            by_cases e2 : j = k
            · rw [if_pos e2]
              by_cases e3 : wd ≤ r
              · rw [if_pos ⟨e2, e3⟩]
              · rw [if_neg (fun h => e3 h.2), e2, hlow r (by omega)]
            · rw [if_neg e2, if_neg (fun h => e2 h.1)]
        · by_cases e : j ≤ k - 1
          · rw [if_pos e, if_pos e]
          · rw [if_neg e, if_neg e]
            by_cases e2 : j = k
            · rw [if_pos e2]
              by_cases e3 : wd ≤ r
              · rw [if_pos ⟨e2, e3⟩]
              · rw [if_neg (fun h => e3 h.2), e2, hlow r (by omega)]
            · rw [if_neg e2, if_neg (fun h => e2 h.1)]
      case round =>
        clear HS4 HZ4 HR4 HF4
        obtain ⟨q, hq1, hq2, rfl, hsq, hzq, hrq, hfq⟩ := hrel
        have HSq := Lib.hid hsq; have HZq := Lib.hid hzq; have HRq := Lib.hid hrq; have HFq := Lib.hid hfq
        clear hsq hzq hrq hfq
        by_cases hqQ : q < Q
        · have i3 : (q : Int) < (Q : Int) := by omega
          obtain ⟨x, hx⟩ : ∃ x, x = q - wd := ⟨_, rfl⟩
          have j1 : (q : Int) - (wd : Int) = (x : Int) := by omega
          have hxQ : x < Q := by omega
          have j2 : (x : Int) < (Q : Int) := by omega
          have e1 := HRq.out.cell hxQ
          have hcbx := HCB.out k x
          have hDq := HDk.out q
          rw [← hx] at hDq
          obtain ⟨s0, hs0⟩ : ∃ s0, s0 = (cb k x).1 := ⟨_, rfl⟩
          rw [← hs0] at e1 hcbx hDq
          obtain ⟨s1, s2⟩ := hcbx
          obtain ⟨p, hp⟩ : ∃ p, p = rn (k + 1) q := ⟨_, rfl⟩
          have c1 := HSq.out.cell (i := k) (by omega)
          have c2 := HZq.out.cell (i := k) (by omega)
          have c3 := (HSq.out.rw k (by omega)).cell hqQ
          have f3 := (HSq.out.rw k (by omega)).free q
          have c4 := (HZq.out.rw k (by omega)).cell hqQ
          have f4 := (HZq.out.rw k (by omega)).free q
          rw [if_neg (by omega), if_pos ⟨rfl, Nat.le_refl _⟩, ← hp] at c3 c4
          rw [← hp] at hDq
          have HDq := Lib.hid hDq; have HP := Lib.hid hp
          clear hDq hp hx hs0
          by_cases hno : s0 = -1
          · have g1 : (s0 != -1) = false := by simp [hno]
            have HE := Lib.hid (show rn k q = p by rw [HDq.out, if_neg (fun h => by have := h.1.2; omega)])
            clear hno
            go_wp2
            go_roundw
            case rel => exact ⟨q + 1, by omega, by omega, by go_num, HSq.out.congr (fun j r hj hr => by
                by_cases e : j ≤ k - 1
                · rw [if_pos e, if_pos e]
                · rw [if_neg e, if_neg e]
                  by_cases e2 : j = k ∧ q + 1 ≤ r
                  · rw [if_pos e2, if_pos ⟨e2.1, by omega⟩]
                  · rw [if_neg e2]
                    by_cases e3 : j = k ∧ q ≤ r
                    · obtain ⟨rfl, e4⟩ := e3
                      obtain rfl : r = q := by omega
                      rw [if_pos ⟨rfl, e4⟩, ← HP.out, HE.out]
                    · rw [if_neg e3]), HZq.out.congr (fun j r hj hr => by
                by_cases e : j ≤ k - 1
                · rw [if_pos e, if_pos e]
                · rw [if_neg e, if_neg e]
                  by_cases e2 : j = k ∧ q + 1 ≤ r
                  · rw [if_pos e2, if_pos ⟨e2.1, by omega⟩]
                  · rw [if_neg e2]
                    by_cases e3 : j = k ∧ q ≤ r
                    · obtain ⟨rfl, e4⟩ := e3
                      obtain rfl : r = q := by omega
                      rw [if_pos ⟨rfl, e4⟩, ← HP.out, HE.out]
                    · rw [if_neg e3]), HRq.out, HFq.out⟩
            case measure => simp [intOf]; omega
          have g1 : (s0 != -1) = true := by simp [hno]
          have s3 : 0 ≤ s0 := by omega
          by_cases hge : p.1 ≤ s0 + v
          · have g2 : decide (p.1 ≤ s0 + v) = true := by simp [hge]
            have HE := Lib.hid (show rn k q = (s0 + v, k) by rw [HDq.out, if_pos ⟨⟨hq1, s3⟩, by omega⟩, Int.add_comm])
            clear hno
            have hne : z k ≠ b k := by
              obtain ⟨vs, h1⟩ := (HZq.out.rw k (by omega)).obj
              exact HSq.out.ne_row h1 (by decide) (by omega)
            have hbG : b k ≠ G := by
              obtain ⟨vs, h1⟩ := (HSq.out.rw k (by omega)).obj
              exact HSq.out.ne_list h1 (by decide)
            have hbZ : b k ≠ Z := by
              obtain ⟨vs, h1⟩ := (HSq.out.rw k (by omega)).obj
              exact HZq.out.ne_list h1 (by decide)
            have hbz : ∀ i, i < T → b k ≠ z i := fun i hi => by
              obtain ⟨vs, h1⟩ := (HSq.out.rw k (by omega)).obj
              exact HZq.out.ne_row h1 (by decide) hi
            have hzG : z k ≠ G := by
              obtain ⟨vs, h1⟩ := (HZq.out.rw k (by omega)).obj
              exact HSq.out.ne_list h1 (by decide)
            have hzb : ∀ i, i < T → z k ≠ b i := fun i hi => by
              obtain ⟨vs, h1⟩ := (HZq.out.rw k (by omega)).obj
              exact HSq.out.ne_row h1 (by decide) hi
            have hbb : bh ≠ b k ∧ bh ≠ z k := by have := HBL.out k (by omega); have := HZL.out k (by omega); have := HBH.out; omega
            obtain ⟨wa, hwa⟩ : ∃ wa, wa = wr.setCell ⟨b k, q, none⟩ (.int .i64 (s0 + v)) := ⟨_, rfl⟩
            have hoa : ∀ j, j ≠ b k → wa.heap[j]? = wr.heap[j]? := fun j hj => by rw [hwa]; exact Below.heap_setCell wr ⟨b k, q, none⟩ _ j hj
            have r1 := (HSq.out.rw k (by omega)).set hqQ (s0 + v)
            have gr1 := grownSet wr (b k) q (.int .i64 (s0 + v))
            rw [← hwa] at r1 gr1
            have ta := HSq.out.rowset (by decide) (by omega) r1 gr1
            have za := HZq.out.kept (hoa Z hbZ.symm) (fun i hi => hoa _ (hbz i hi).symm)
            have ra := HRq.out.kept (hoa bh hbb.1)
            obtain ⟨wb, hwb⟩ : ∃ wb, wb = wa.setCell ⟨z k, q, none⟩ (.int .u8 (k : Nat)) := ⟨_, rfl⟩
            have hob : ∀ j, j ≠ z k → wb.heap[j]? = wa.heap[j]? := fun j hj => by rw [hwb]; exact Below.heap_setCell wa ⟨z k, q, none⟩ _ j hj
            have r2 := (za.rw k (by omega)).set hqQ ((k : Nat) : Int)
            have gr2 := grownSet wa (z k) q (.int .u8 (k : Nat))
            rw [← hwb] at r2 gr2
            have zb := za.rowset (by decide) (by omega) r2 gr2
            have tb := ta.kept (hob G hzG.symm) (fun i hi => hob _ (hzb i hi).symm)
            have rb := ra.kept (hob bh hbb.2)
            have hfb := (HFq.out.trans (Fr.of_grown gr1 (HSb.out k (by omega)))).trans (Fr.of_grown gr2 (HSz.out k (by omega)))
            have hdr := (Below.refl wb.heap.size wb).drew
            have HT5 := Lib.hid ((tb.same hdr).congr (H := fun j r => if j ≤ k - 1 then F j r else if j = k ∧ q + 1 ≤ r then (rn (k + 1) r).1 else (rn j r).1) (fun j r hj hr => by
              by_cases e : j = k
              · subst e
                have hjj : ¬ j ≤ j - 1 := by omega
                by_cases e2 : r = q
                · simp only [hjj, e2, if_false, if_true, true_and]
                  rw [if_neg (by omega), HE.out]
                · simp only [hjj, e2, if_false, if_true, true_and]
                  by_cases e3 : q ≤ r
                  · rw [if_pos e3, if_pos (by omega)]
                  · rw [if_neg e3, if_neg (by omega)]
              · rw [if_neg e]
                by_cases e2 : j ≤ k - 1
                · rw [if_pos e2, if_pos e2]
                · rw [if_neg e2, if_neg e2, if_neg (fun h => e h.1), if_neg (fun h => e h.1)]))
            have HZ5 := Lib.hid ((zb.same hdr).congr (H := fun j r => if j ≤ k - 1 then 0 else if j = k ∧ q + 1 ≤ r then ((rn (k + 1) r).2 : Nat) else ((rn j r).2 : Nat)) (fun j r hj hr => by
              by_cases e : j = k
              · subst e
                have hjj : ¬ j ≤ j - 1 := by omega
                by_cases e2 : r = q
                · simp only [hjj, e2, if_false, if_true, true_and]
                  rw [if_neg (by omega), HE.out]
                · simp only [hjj, e2, if_false, if_true, true_and]
                  by_cases e3 : q ≤ r
                  · rw [if_pos e3, if_pos (by omega)]
                  · rw [if_neg e3, if_neg (by omega)]
              · rw [if_neg e]
                by_cases e2 : j ≤ k - 1
                · rw [if_pos e2, if_pos e2]
                · rw [if_neg e2, if_neg e2, if_neg (fun h => e h.1), if_neg (fun h => e h.1)]))
            have HR5 := Lib.hid (rb.same hdr)
            have HF5 := Lib.hid (hfb.trans (Fr.of_below hdr))
            rw [hwb, hwa] at HT5 HZ5 HR5 HF5
            clear hdr rb tb zb gr2 r2 hob hwb ra za ta gr1 r1 hoa hwa hfb hbG hbZ hbz hzG hzb hbb
            go_wp2_with fail
            go_region
            go_wp2
            go_roundw
            case rel => exact ⟨q + 1, by omega, by omega, by go_num, HT5.out, HZ5.out, HR5.out, HF5.out⟩
            case measure => simp [intOf]; omega
          · have g2 : decide (p.1 ≤ s0 + v) = false := by simp [hge]
            have HE := Lib.hid (show rn k q = p by rw [HDq.out, if_neg (fun h => hge (by have := h.2; omega))])
            clear hno
            go_wp2
            go_roundw
            case rel => exact ⟨q + 1, by omega, by omega, by go_num, HSq.out.congr (fun j r hj hr => by
                by_cases e : j ≤ k - 1
                · rw [if_pos e, if_pos e]
                · rw [if_neg e, if_neg e]
                  by_cases e2 : j = k ∧ q + 1 ≤ r
                  · rw [if_pos e2, if_pos ⟨e2.1, by omega⟩]
                  · rw [if_neg e2]
                    by_cases e3 : j = k ∧ q ≤ r
                    · obtain ⟨rfl, e4⟩ := e3
                      obtain rfl : r = q := by omega
                      rw [if_pos ⟨rfl, e4⟩, ← HP.out, HE.out]
                    · rw [if_neg e3]), HZq.out.congr (fun j r hj hr => by
                by_cases e : j ≤ k - 1
                · rw [if_pos e, if_pos e]
                · rw [if_neg e, if_neg e]
                  by_cases e2 : j = k ∧ q + 1 ≤ r
                  · rw [if_pos e2, if_pos ⟨e2.1, by omega⟩]
                  · rw [if_neg e2]
                    by_cases e3 : j = k ∧ q ≤ r
                    · obtain ⟨rfl, e4⟩ := e3
                      obtain rfl : r = q := by omega
                      rw [if_pos ⟨rfl, e4⟩, ← HP.out, HE.out]
                    · rw [if_neg e3]), HRq.out, HFq.out⟩
            case measure => simp [intOf]; omega
        · have i3 : ¬ (q : Int) < (Q : Int) := by omega
          go_wp2
          go_roundw
          case rel => exact ⟨k - 1, by omega, by go_num, HSq.out.congr (fun j r hj hr => by
              by_cases e : j ≤ k - 1
              · rw [if_pos e, if_pos e]
              · rw [if_neg e, if_neg e, if_neg (fun h => by have := h.2; omega)]), HZq.out.congr (fun j r hj hr => by
              by_cases e : j ≤ k - 1
              · rw [if_pos e, if_pos e]
              · rw [if_neg e, if_neg e, if_neg (fun h => by have := h.2; omega)]), ⟨_, HRq.out⟩, HFq.out⟩
          case measure => simp [intOf]; omega
    · obtain rfl : k = 0 := by omega
      have i1 : ¬ (1 : Int) ≤ ((0 : Nat) : Int) := by omega
      go_wp2
      go_end0
      exact ⟨rfl, HSk.out.congr (fun j r hj hr => by
          by_cases e : j = 0
          · rw [if_pos e, if_pos (by omega), e]
          · rw [if_neg e, if_neg (by omega)]), HZk.out.congr (fun j r hj hr => by
          by_cases e : j = 0
          · rw [if_pos e, if_pos (by omega)]
          · rw [if_neg e, if_neg (by omega)]), HFW.out _ HFk.out⟩
end Go.Proofs.Ythkcacnlinajgaa.Pn

namespace Go.Proofs.Ythkcacnlinajgaa.Pn
open Go.RowKit Go.Shelf
open Go.Proofs.Ythkcacnlinajgaa.Ly (widI widE widI_le width_any)
attribute [local go_sem] Oper.semAt_some

theorem rsf {P : Program} {w : World} {a : Addr} {m : Mode} (fn : Fn) (first captured : Array Value) : (store a (.func fn first captured) m).run P w = stored P w a (.func fn first captured) m := run_store P w a _ m rfl
attribute [local go_sem] rsf

set_option maxHeartbeats 1000000 in
theorem wcl_any (x : Int) (q k : Nat) (w : World) (hq : Boxed w q 3 (.int .i64 x)) :
    Calls Try.prog 56 #[.int .i64 (k : Nat), .pointer (some ⟨q, 0, none⟩)] w fun e w' => e = .returned (.int .i64 (widI x (k : Nat) : Nat)) ∧ w' = w := by
  have c1 := hq.cell
  have hwl := widI_le x (k : Nat)
  have HWI := Lib.hid (width_any x (k : Nat) w)
  clear hq
  generalize widI x (k : Nat) = wd at *
  go_enter Try.func56, Try.ntmps56
  go_wp2_with fail
  refine HWI.out.mono ?_
  rintro e w' ⟨rfl, rfl⟩
  go_wp2
  go_ret
  exact ⟨rfl, rfl⟩
set_option maxHeartbeats 2000000 in
theorem gcl_any (N M B : Int) (la va wa : Option Addr) (nl lc nv vc nm wc tb p i k : Nat) (V W : Nat → Int) (hi : i < nv) (hk : k < nm) (h0 : 0 ≤ V i) (h1 : V i ≤ 1048576) (h2 : 0 ≤ W k) (h3 : W k ≤ 65536) (w : World) (ht : TAt w tb 26 N M B la nl lc va nv vc wa nm wc) (hp : Boxed w p 3 (.int .i64 (i : Nat))) (hV : Si w va nv V) (hW : Si w wa nm W) :
    Calls Try.prog 58 #[.int .i64 (k : Nat), .pointer (some ⟨tb, 0, none⟩), .pointer (some ⟨p, 0, none⟩)] w fun e w' => e = .returned (.int .i64 (V i * W k)) ∧ ∃ q, w' = w.drewN q := by
  obtain ⟨b3, o3, ea3, d3⟩ := hV.cell i hi
  obtain ⟨b4, o4, ea4, d4⟩ := hW.cell k hk
  subst ea3 ea4
  obtain ⟨pb1, pb2⟩ := Wg.prod_bd h0 h1 h2 h3
  have i1 : (i : Int) < (nv : Int) := by omega
  have i2 : (k : Int) < (nm : Int) := by omega
  have D1 : ∀ q, (w.drewN q).cell? ⟨tb, 4, none⟩ = some (.slice (some ⟨b3, o3, none⟩) nv vc) := fun q => ht.c.2.2.2.2.1
  have D2 : ∀ q, (w.drewN q).cell? ⟨tb, 5, none⟩ = some (.slice (some ⟨b4, o4, none⟩) nm wc) := fun q => ht.c.2.2.2.2.2
  have D3 : ∀ q, (w.drewN q).cell? ⟨p, 0, none⟩ = some (.int .i64 (i : Nat)) := fun q => hp.cell
  have D4 : ∀ q, (w.drewN q).cell? ⟨b3, o3 + i, none⟩ = some (.int .i64 (V i)) := fun q => d3
  have D5 : ∀ q, (w.drewN q).cell? ⟨b4, o4 + k, none⟩ = some (.int .i64 (W k)) := fun q => d4
  generalize V i = x at *
  generalize W k = y at *
  obtain ⟨pw, hpw⟩ : ∃ pw, x * y = pw := ⟨_, rfl⟩
  rw [hpw] at pb1 pb2 ⊢
  clear ht hp hV hW d3 d4 h0 h1 h2 h3
  go_enter Try.func58, Try.ntmps58
  go_wp2_with fail
  go_quiet (fail)
  go_wp2
  go_ret
  exact ⟨rfl, _, rfl⟩
/-- the closures of a layer. -/
def lyQ (tb p q : Nat) : Value := lyV 56 58 #[.pointer (some ⟨q, 0, none⟩)] #[.pointer (some ⟨tb, 0, none⟩), .pointer (some ⟨p, 0, none⟩)]
theorem Try.infoLayer : (Try.prog.info? 109).map (fun i => (i.zero, i.size, i.bytes)) = some (some (.agg #[.nilFunc, .nilFunc]), 2, 16) := by kernel_rfl
theorem hmkLy (N : Nat) (hN : N ≤ 1000000000) : ∀ W : World, (Instr.makeSlice 61 (.int .i64 (N : Nat)) (.int .i64 (N : Nat))).run Try.prog W = .ok (.slice (some ⟨W.heap.size, 0, none⟩) N N) (W.alloc (.cells (madeCells #[.nilFunc, .nilFunc] (N * 2)) 109)) := fun W => by
  obtain ⟨i0, hi, hz0, hz1, hz2⟩ := info_parts Try.infoLayer
  have := run_make (P := Try.prog) W 61 109 i0 (.agg #[.nilFunc, .nilFunc]) Try.underlying61 hi hz0 .i64 .i64 (N : Int) (N : Int) (by omega) (Int.le_refl _) (by rw [hz2]; omega) (by omega)
  have e : (Value.agg #[.nilFunc, .nilFunc]).cells = #[.nilFunc, .nilFunc] := rfl
  rw [hz1, e, Int.toNat_natCast] at this; exact this
/-- a list of layers, the first d of which are told. -/
def Lls (w : World) (A m d tb : Nat) (pl ql : Nat → Nat) : Prop := ∃ vs : Array Value, w.heap[A]? = some (.cells vs 109 (0, 0)) ∧ vs.size = m * 2 ∧ ∀ i, i < d → vs[i * 2]? = some (.func (.func 56) #[] #[.pointer (some ⟨ql i, 0, none⟩)]) ∧ vs[i * 2 + 1]? = some (.func (.func 58) #[] #[.pointer (some ⟨tb, 0, none⟩), .pointer (some ⟨pl i, 0, none⟩)])
section
variable {w w' : World} {A m d tb : Nat} {pl ql : Nat → Nat}
theorem Lls.lt (s : Lls w A m d tb pl ql) : A < w.heap.size := by
  obtain ⟨vs, h1, _⟩ := s
  exact (Array.getElem?_eq_some_iff.1 h1).1
theorem Lls.kept (s : Lls w A m d tb pl ql) (hk : w'.heap[A]? = w.heap[A]?) : Lls w' A m d tb pl ql := by
  obtain ⟨vs, h1, h2⟩ := s
  exact ⟨vs, hk.trans h1, h2⟩
theorem Lls.same (s : Lls w A m d tb pl ql) (hB : Below w.heap.size w w') : Lls w' A m d tb pl ql := s.kept (hB.block A s.lt)
theorem Lls.new (w : World) (m tb : Nat) (pl ql : Nat → Nat) : Lls (w.alloc (.cells (madeCells #[.nilFunc, .nilFunc] (m * 2)) 109)) w.heap.size m 0 tb pl ql :=
  ⟨_, heap_alloc_new w _, by rw [size_madeCells], fun i hi => absurd hi (Nat.not_lt_zero i)⟩
theorem Lls.any (s : Lls w A m d tb pl ql) {j : Nat} (hj : j < m * 2) : ∃ v, w.cell? ⟨A, j, none⟩ = some v := by
  obtain ⟨vs, h1, h2, _⟩ := s
  refine ⟨vs[j]'(by omega), ?_⟩
  rw [cell_of_row w A j vs _ _ h1]
  simp [show j < vs.size by omega]
theorem Lls.free (s : Lls w A m d tb pl ql) (j : Nat) : w.frozen? ⟨A, j, none⟩ = false := by
  obtain ⟨vs, h1, _⟩ := s
  exact frozen_of_row w A j vs _ h1
theorem Lls.c (s : Lls w A m d tb pl ql) {i : Nat} (hi : i < d) : w.cell? ⟨A, i * 2, none⟩ = some (.func (.func 56) #[] #[.pointer (some ⟨ql i, 0, none⟩)]) ∧ w.cell? ⟨A, i * 2 + 1, none⟩ = some (.func (.func 58) #[] #[.pointer (some ⟨tb, 0, none⟩), .pointer (some ⟨pl i, 0, none⟩)]) := by
  obtain ⟨vs, h1, h2, h3⟩ := s
  exact ⟨by rw [cell_of_row w A _ vs _ _ h1]; exact (h3 i hi).1, by rw [cell_of_row w A _ vs _ _ h1]; exact (h3 i hi).2⟩
theorem Lls.put (s : Lls w A m d tb pl ql) (hd : d < m) (p q : Nat) : Lls ((w.setCell ⟨A, d * 2, none⟩ (.func (.func 56) #[] #[.pointer (some ⟨q, 0, none⟩)])).setCell ⟨A, d * 2 + 1, none⟩ (.func (.func 58) #[] #[.pointer (some ⟨tb, 0, none⟩), .pointer (some ⟨p, 0, none⟩)])) A m (d + 1) tb (fun i => if i = d then p else pl i) (fun i => if i = d then q else ql i) := by
  obtain ⟨vs, h1, h2, h3⟩ := s
  refine ⟨_, heap_setCell_same _ A (d * 2 + 1) _ _ _ (heap_setCell_same w A (d * 2) vs _ _ h1), by simpa using h2, fun i hi => ?_⟩
  dsimp only
  by_cases e : i = d
  · subst e
    constructor
    · rw [Array.getElem?_setIfInBounds_ne (by omega), Array.getElem?_setIfInBounds_self_of_lt (by omega), if_pos rfl]
    · rw [Array.getElem?_setIfInBounds_self_of_lt (by simp; omega), if_pos rfl]
  · rw [Array.getElem?_setIfInBounds_ne (by omega), Array.getElem?_setIfInBounds_ne (by omega), Array.getElem?_setIfInBounds_ne (by omega), Array.getElem?_setIfInBounds_ne (by omega), if_neg e, if_neg e]
    exact h3 i (by omega)
end
/-- the layers of a task: their list, their boxes. -/
structure LyAt (W : World) (A m tb : Nat) (pl ql : Nat → Nat) (N M B : Int) (la : Option Addr) (lc : Nat) (va : Option Addr) (vc : Nat) (wa : Option Addr) (nm wc : Nat) (L V Wt : Nat → Int) : Prop where
  ls : Lls W A m m tb pl ql
  tk : TAt W tb 26 N M B la m lc va m vc wa nm wc
  pb : ∀ i, i < m → Boxed W (pl i) 3 (.int .i64 (i : Nat))
  qb : ∀ i, i < m → Boxed W (ql i) 3 (.int .i64 (L i))
  sv : Si W va m V
  sw : Si W wa nm Wt
theorem LyAt.same {W W' : World} {A m tb : Nat} {pl ql : Nat → Nat} {N M B : Int} {la : Option Addr} {lc : Nat} {va : Option Addr} {vc : Nat} {wa : Option Addr} {nm wc : Nat} {L V Wt : Nat → Int} (h : LyAt W A m tb pl ql N M B la lc va vc wa nm wc L V Wt) (hB : Below W.heap.size W W') : LyAt W' A m tb pl ql N M B la lc va vc wa nm wc L V Wt :=
  ⟨h.ls.same hB, h.tk.same hB, fun i hi => (hB.block _ (h.pb i hi).lt).trans (h.pb i hi), fun i hi => (hB.block _ (h.qb i hi).lt).trans (h.qb i hi), h.sv.same hB, h.sw.same hB⟩
/-- what the layers are told as. -/
def LysSays (m : Nat) (N M B : Int) (la : Option Addr) (lc : Nat) (va : Option Addr) (vc : Nat) (wa : Option Addr) (nm wc : Nat) (L V Wt : Nat → Int) (e : Ending) (w' : World) : Prop :=
  ∃ A tb pl ql, e = .returned (.slice (some ⟨A, 0, none⟩) m m) ∧ LyAt w' A m tb pl ql N M B la lc va vc wa nm wc L V Wt
set_option maxHeartbeats 4000000 in
set_option maxRecDepth 100000 in
theorem layers_any (N M B : Int) (la va wa : Option Addr) (m lc vc nm wc : Nat) (L V Wt : Nat → Int) (hm : m ≤ 1000) (w : World) (hL : Si w la m L) (hV : Si w va m V) (hW : Si w wa nm Wt) :
    Calls Try.prog 29 #[tV N M B la m lc va m vc wa nm wc] w fun e w' => LysSays m N M B la lc va vc wa nm wc L V Wt e w' ∧ Below w.heap.size w w' := by
  have hmf : ∀ (fn : Fn) (first cap : Array Value) (w : World), (Instr.makeFunc fn first cap).run Try.prog w = .ok (.func fn first cap) w := fun _ _ _ _ => rfl
  have hmk := hmkLy m (by omega)
  obtain ⟨w0, hw0⟩ : ∃ w0, w0 = w.alloc (.cells #[.int .i64 N, .int .i64 M, .int .i64 B, .slice la m lc, .slice va m vc, .slice wa nm wc] 26) := ⟨_, rfl⟩
  have hx0 : TAt w0 w.heap.size 26 N M B la m lc va m vc wa nm wc := by rw [hw0]; exact heap_alloc_new _ _
  have hb0 : Below w.heap.size w w0 := by rw [hw0]; exact (Below.refl w.heap.size w).alloc (Nat.le_refl _) _
  have hz0 : w0.heap.size = w.heap.size + 1 := by rw [hw0, World.size_alloc]
  obtain ⟨w1, hw1⟩ : ∃ w1, w1 = w0.alloc (.cells (madeCells #[.nilFunc, .nilFunc] (m * 2)) 109) := ⟨_, rfl⟩
  have hb01 : Below w0.heap.size w0 w1 := by rw [hw1]; exact (Below.refl _ w0).alloc (Nat.le_refl _) _
  have hl1 : Lls w1 (w.heap.size + 1) m 0 w.heap.size (fun _ => 0) (fun _ => 0) := by rw [hw1, ← hz0]; exact Lls.new w0 m _ _ _
  have HX0 := Lib.hid hx0; have HX1 := Lib.hid (hx0.same hb01); have HB1 := Lib.hid (hb0.trans (hb01.mono hb0.size)); have HL1 := Lib.hid hl1
  have HZ1 := Lib.hid (show w1.heap.size = w.heap.size + 1 + 1 by rw [hw1, World.size_alloc, hz0])
  have HW1 := Lib.hid (show w1 = (w.alloc (.cells #[.int .i64 N, .int .i64 M, .int .i64 B, .slice la m lc, .slice va m vc, .slice wa nm wc] 26)).alloc (.cells (madeCells #[.nilFunc, .nilFunc] (m * 2)) 109) by rw [hw1, hw0])
  have HLL := Lib.hid hL; have HVV := Lib.hid hV; have HWW := Lib.hid hW
  obtain ⟨c0, c1, c2, c3, c4, c5⟩ := hx0.c
  obtain ⟨e0, e1, e2, e3, e4, e5⟩ := HX1.out.c
  rw [hw0] at c3
  rw [HW1.out] at e3
  clear hx0 hb0 hz0 hb01 hl1 hw1 hw0 hL hV hW c0 c1 c2 c4 c5 e0 e1 e2 e4 e5
  unfold tV
  go_enter Try.func29, Try.ntmps29
  go_wp2_with fail
  rw [← HW1.out]
  clear c3 e3 hmk
  go_loopw [13] (fun i wr => ∃ (d : Nat) (pl ql : Nat → Nat), d ≤ m ∧ i = .int .i64 (d : Nat) ∧ Lls wr (w.heap.size + 1) m d w.heap.size pl ql ∧ (∀ j, j < d → Boxed wr (pl j) 3 (.int .i64 (j : Nat)) ∧ Boxed wr (ql j) 3 (.int .i64 (L j))) ∧ TAt wr w.heap.size 26 N M B la m lc va m vc wa nm wc ∧ Below w.heap.size w wr) (fun i _ => m - (intOf i).toNat)
  case atStart => exact ⟨0, fun _ => 0, fun _ => 0, by omega, rfl, HL1.out, fun j hj => absurd hj (Nat.not_lt_zero j), HX1.out, HB1.out⟩
  case round =>
    obtain ⟨d, pl, ql, hd, rfl, hls, hbx, htk, hB⟩ := hrel
    have HLS := Lib.hid hls; have HBX := Lib.hid hbx; have HTK := Lib.hid htk; have HB := Lib.hid hB
    clear hls hbx htk hB
    by_cases hdm : d < m
    · have i1 : (d : Int) < (m : Int) := by omega
      obtain ⟨b1, o1, ea1, d1⟩ := (HLL.out.same HB.out).cell d hdm
      have EA := Lib.hid ea1
      subst ea1
      have hal := ((Below.refl wr.heap.size wr).alloc (Nat.le_refl _) (.cells #[.int .i64 (d : Nat)] 3)).alloc (by simp) (.cells #[.int .i64 (L d)] 3)
      have hls2 := HLS.out.same hal
      obtain ⟨x0, hx0⟩ := HLS.out.any (j := d * 2) (by omega)
      obtain ⟨x1, hx1⟩ := HLS.out.any (j := d * 2 + 1) (by omega)
      have f0 := HLS.out.free (d * 2)
      have f1 := HLS.out.free (d * 2 + 1)
      obtain ⟨y0, hy0⟩ := hls2.any (j := d * 2) (by omega)
      obtain ⟨y1, hy1⟩ := hls2.any (j := d * 2 + 1) (by omega)
      have g0 := hls2.free (d * 2)
      have g1 := hls2.free (d * 2 + 1)
      have hp1 : Boxed ((wr.alloc (.cells #[.int .i64 (d : Nat)] 3)).alloc (.cells #[.int .i64 (L d)] 3)) wr.heap.size 3 (.int .i64 (d : Nat)) := (Boxed.new wr 3 (.int .i64 (d : Nat))).alloc _
      have hq1 := Boxed.new (wr.alloc (.cells #[.int .i64 (d : Nat)] 3)) 3 (.int .i64 (L d))
      rw [World.size_alloc] at hq1
      have hlt := HLS.out.lt
      obtain ⟨wf, hwf⟩ : ∃ wf, wf = (((wr.alloc (.cells #[.int .i64 (d : Nat)] 3)).alloc (.cells #[.int .i64 (L d)] 3)).setCell ⟨w.heap.size + 1, d * 2, none⟩ (.func (.func 56) #[] #[.pointer (some ⟨wr.heap.size + 1, 0, none⟩)])).setCell ⟨w.heap.size + 1, d * 2 + 1, none⟩ (.func (.func 58) #[] #[.pointer (some ⟨w.heap.size, 0, none⟩), .pointer (some ⟨wr.heap.size, 0, none⟩)]) := ⟨_, rfl⟩
      have HPUT := Lib.hid (show Lls wf (w.heap.size + 1) m (d + 1) w.heap.size (fun i => if i = d then wr.heap.size else pl i) (fun i => if i = d then wr.heap.size + 1 else ql i) by rw [hwf]; exact hls2.put hdm _ _)
      have hof : ∀ j, j ≠ w.heap.size + 1 → wf.heap[j]? = ((wr.alloc (.cells #[.int .i64 (d : Nat)] 3)).alloc (.cells #[.int .i64 (L d)] 3)).heap[j]? := fun j hj => by
        rw [hwf, Below.heap_setCell _ ⟨w.heap.size + 1, d * 2 + 1, none⟩ _ j hj, Below.heap_setCell _ ⟨w.heap.size + 1, d * 2, none⟩ _ j hj]
      have HBf := Lib.hid (show Below w.heap.size w wf by
        rw [hwf]
        exact (((HB.out.trans (hal.mono HB.out.size)).setCell (p := ⟨w.heap.size + 1, d * 2, none⟩) (by show _ ≤ w.heap.size + 1; omega) _).setCell (p := ⟨w.heap.size + 1, d * 2 + 1, none⟩) (by show _ ≤ w.heap.size + 1; omega) _))
      have HTf := Lib.hid (show TAt wf w.heap.size 26 N M B (some ⟨b1, o1, none⟩) m lc va m vc wa nm wc from (hof _ (by omega)).trans ((HTK.out.same hal)))
      have HXf := Lib.hid (show ∀ j, j < d + 1 → Boxed wf (if j = d then wr.heap.size else pl j) 3 (.int .i64 (j : Nat)) ∧ Boxed wf (if j = d then wr.heap.size + 1 else ql j) 3 (.int .i64 (L j)) from fun j hj => by
        by_cases e : j = d
        · subst e
          rw [if_pos rfl, if_pos rfl]
          exact ⟨(hof _ (by omega)).trans hp1, (hof _ (by omega)).trans hq1⟩
        · rw [if_neg e, if_neg e]
          obtain ⟨h1, h2⟩ := HBX.out j (by omega)
          have n1 : pl j ≠ w.heap.size + 1 := fun q => by
            obtain ⟨vs, h3, h4, _⟩ := HLS.out
            have h5 : wr.heap[pl j]? = _ := h1
            rw [q, h3] at h5
            injection h5 with h5; injection h5 with _ h5
            exact absurd h5 (by decide)
          have n2 : ql j ≠ w.heap.size + 1 := fun q => by
            obtain ⟨vs, h3, h4, _⟩ := HLS.out
            have h5 : wr.heap[ql j]? = _ := h2
            rw [q, h3] at h5
            injection h5 with h5; injection h5 with _ h5
            exact absurd h5 (by decide)
          exact ⟨(hof _ n1).trans ((hal.block _ h1.lt).trans h1), (hof _ n2).trans ((hal.block _ h2.lt).trans h2)⟩)
      have HWF := Lib.hid hwf
      clear hal hls2 hp1 hq1 hwf hof
      go_wp2_with fail
      rw [← HWF.out]
      refine ⟨⟨d + 1, _, _, by omega, rfl, HPUT.out, HXf.out, HTf.out, HBf.out⟩, ?_⟩
      simp [intOf]; omega
    · obtain rfl : d = m := by omega
      have i1 : ¬ (d : Int) < (d : Int) := by omega
      go_wp2
      go_ret
      exact ⟨⟨_, _, pl, ql, rfl, ⟨HLS.out, HTK.out, fun i hi => (HBX.out i hi).1, fun i hi => (HBX.out i hi).2, HVV.out.same HB.out, HWW.out.same HB.out⟩⟩, HB.out⟩
end Go.Proofs.Ythkcacnlinajgaa.Pn

namespace Go.Proofs.Ythkcacnlinajgaa.Pn
open Go.RowKit Go.Shelf
open Go.Proofs.Ythkcacnlinajgaa.Ly (widI widE widI_le width_any)
open Go.Proofs.Ythkcacnlinajgaa.Sz (RB)
open Go.Proofs.Ythkcacnlinajgaa.Wg (RW hmkI)
attribute [local go_sem] Oper.semAt_some
attribute [local go_sem] rsf

set_option maxHeartbeats 8000000 in
set_option maxRecDepth 100000 in
theorem follow_any (N M B : Int) (la va wa : Option Addr) (m lc vc nm wc n R A tb Fb : Nat) (pl ql Zs : Nat → Nat) (z : Nat → Nat → Nat) (L V Wt : Nat → Int) (hm : m ≤ 8) (hn1 : 1 ≤ n) (hn : n ≤ 255) (hR : R ≤ 2000)
    (hv : ∀ i, i < m → ∀ k, 1 ≤ k → k ≤ n → 0 ≤ V i * Wt k) (w : World) (hA : LyAt w A m tb pl ql N M B la lc va vc wa nm wc L V Wt)
    (hF : ∀ i, i < m → w.cell? ⟨Fb, i, none⟩ = some (.slice (some ⟨Zs i, 0, none⟩) (n + 2) (n + 2)))
    (hZ : ∀ i, i < m → Tab 139 5 .u8 w (Zs i) (n + 2) (R + 1) (z i) (fun k r => if k = 0 then 0 else ((cel n (lys L V Wt i (m - i)) k r).2 : Nat)))
    (h0 : 0 ≤ (cel n (lys L V Wt 0 m) 1 R).1) :
    Calls Try.prog 55 #[.int .i64 (R : Nat), .slice (some ⟨A, 0, none⟩) m m, .slice (some ⟨Fb, 0, none⟩) m m] w fun e w' => (∃ kb, w.heap.size ≤ kb ∧ e = .returned (.slice (some ⟨kb, 0, none⟩) m m) ∧ Nr 3 .i64 w' kb m (at0 (best n (lys L V Wt 0 m) 1 R))) ∧ Below w.heap.size w w' := by
  obtain ⟨T, hT⟩ : ∃ T, T = n + 2 := ⟨_, rfl⟩
  obtain ⟨Q, hQ⟩ : ∃ Q, Q = R + 1 := ⟨_, rfl⟩
  have hTn : T ≤ 257 := by omega
  have hQn : Q ≤ 2001 := by omega
  have HT := Lib.hid hT; have HQ := Lib.hid hQ
  rw [← hT] at hF hZ
  rw [← hQ] at hZ
  obtain ⟨bs, hbs⟩ : ∃ bs, bs = best n (lys L V Wt 0 m) 1 R := ⟨_, rfl⟩
  rw [← hbs]
  have HBS := Lib.hid hbs; have H0 := Lib.hid h0; have HA := Lib.hid hA; have HF := Lib.hid hF; have HZ := Lib.hid hZ; have HV := Lib.hid hv
  have hmk := hmkI m (by omega)
  have HN0 := Lib.hid (Nr.made w 3 .i64 m)
  have HB0 := Lib.hid ((Below.refl w.heap.size w).alloc (Nat.le_refl _) (.cells (madeCells #[.int .i64 0] m) 3))
  clear hT hQ hbs h0 hA hF hZ hv
  go_enter Try.func55, Try.ntmps55
  go_wp2_with fail
  obtain ⟨kb, hkb⟩ : ∃ kb, kb = w.heap.size := ⟨_, rfl⟩
  rw [← hkb] at HN0 ⊢
  have HKB := Lib.hid hkb
  clear hkb hmk
  generalize w.alloc (.cells (madeCells #[.int .i64 0] m) 3) = w0 at *
  go_loopw [0, 8, 16] (fun room least i wr => ∃ q k r : Nat, q ≤ m ∧ i = .int .i64 (q : Nat) ∧ least = .int .i64 (k : Nat) ∧ room = .int .i64 (r : Nat) ∧ 1 ≤ k ∧ k ≤ n ∧ r ≤ R ∧ bs.drop q = best n (lys L V Wt q (m - q)) k r ∧ 0 ≤ (cel n (lys L V Wt q (m - q)) k r).1 ∧ Nr 3 .i64 wr kb m (fun j => if j < q then at0 bs j else 0) ∧ Below w.heap.size w wr) (fun _ _ i _ => m - (intOf i).toNat)
  case atStart => exact ⟨0, 1, R, by omega, rfl, rfl, rfl, Nat.le_refl _, hn1, Nat.le_refl _, HBS.out, H0.out, HN0.out.congr (fun j hj => by rw [if_neg (by omega)]), HB0.out⟩
  case round =>
    obtain ⟨q, k, r, hq, rfl, rfl, rfl, hk1, hkn, hrR, hdr, hc, hnr, hB⟩ := hrel
    have HNR := Lib.hid hnr; have HB := Lib.hid hB; have HDR := Lib.hid hdr; have HC := Lib.hid hc
    clear hnr hB hdr hc
    by_cases hqm : q < m
    · have i1 : (q : Int) < (m : Int) := by omega
      obtain ⟨e, he⟩ : ∃ e, m - q = e + 1 := ⟨m - q - 1, by omega⟩
      have he2 : m - (q + 1) = e := by omega
      have hst := cel_step (N := n) (l := ly L V Wt q) (ls := lys L V Wt (q + 1) e) (f := k) (r := r) hk1 (fun k h1 h2 => HV.out q hqm k h1 h2) (by have h := HC.out; rw [he] at h; exact h)
      have hbe : best n (lys L V Wt q (m - q)) k r = (cel n (ly L V Wt q :: lys L V Wt (q + 1) e) k r).2 :: best n (lys L V Wt (q + 1) e) (cel n (ly L V Wt q :: lys L V Wt (q + 1) e) k r).2 (r - widI (L q) ((cel n (ly L V Wt q :: lys L V Wt (q + 1) e) k r).2 : Nat)) := by rw [he]; rfl
      have hbe := HDR.out.trans hbe
      have hc4 := ((HZ.out q hqm).same HB.out).cell (i := k) (by have := HT.out; omega)
      have hc5a := (((HZ.out q hqm).same HB.out).rw k (by have := HT.out; omega)).cell (i := r) (by have := HQ.out; omega)
      rw [if_neg (by omega), he] at hc5a
      obtain ⟨kk, hkk⟩ : ∃ kk, kk = (cel n (ly L V Wt q :: lys L V Wt (q + 1) e) k r).2 := ⟨_, rfl⟩
      rw [← hkk] at hst hbe
      have hc5 : wr.cell? ⟨z q k, r, none⟩ = some (.int .u8 (kk : Nat)) := by rw [hkk]; exact hc5a
      obtain ⟨p1, p2, p3, p4⟩ := hst
      obtain ⟨hat, hdr⟩ := drop_cons hbe
      have HAT := Lib.hid hat; have HDR2 := Lib.hid hdr; have HC2 := Lib.hid p4
      have hcF : wr.cell? ⟨Fb, q, none⟩ = some (.slice (some ⟨Zs q, 0, none⟩) T T) := by
        have h := HF.out q hqm
        rw [HB.out.cell (World.block_lt_of_cell? _ _ h)]; exact h
      obtain ⟨l1, l2⟩ := (HA.out.same HB.out).ls.c hqm
      have hwl := widI_le (L q) (kk : Nat)
      obtain ⟨wd, hwd⟩ : ∃ wd, wd = widI (L q) (kk : Nat) := ⟨_, rfl⟩
      have p3' : wd ≤ r := by rw [hwd]; exact p3
      obtain ⟨r2, hr2⟩ : ∃ r2, r2 = r - wd := ⟨_, rfl⟩
      have HDR3 := Lib.hid (show bs.drop (q + 1) = best n (lys L V Wt (q + 1) e) kk r2 by rw [hr2, hwd]; exact hdr)
      have HC3 := Lib.hid (show 0 ≤ (cel n (lys L V Wt (q + 1) e) kk r2).1 by rw [hr2, hwd]; exact p4)
      have j1 : (r : Int) - (wd : Int) = (r2 : Int) := by omega
      have hqQ := HNR.out.cell hqm
      have hfr := HNR.out.free q
      have hset := HNR.out.set hqm ((kk : Nat) : Int)
      obtain ⟨w1, hw1⟩ : ∃ w1, w1 = wr.setCell ⟨kb, q, none⟩ (.int .i64 (kk : Nat)) := ⟨_, rfl⟩
      rw [← hw1] at hset
      have hb1 : Below w.heap.size w w1 := by rw [hw1]; exact HB.out.setCell (p := ⟨kb, q, none⟩) (by show _ ≤ kb; rw [HKB.out]; exact Nat.le_refl _) _
      have hN1 : Nr 3 .i64 w1 kb m (fun j => if j < q + 1 then at0 bs j else 0) := hset.congr (fun j hj => by
        by_cases e : j = q
        · rw [if_pos e, if_pos (by omega), e, HAT.out]
        · rw [if_neg e]
          by_cases e2 : j < q
          · rw [if_pos e2, if_pos (by omega)]
          · rw [if_neg e2, if_neg (by omega)])
      obtain ⟨wf, hwf⟩ : ∃ wf, wf = w1.alloc (.cells #[.func (.func 56) #[] #[.pointer (some ⟨ql q, 0, none⟩)], .func (.func 58) #[] #[.pointer (some ⟨tb, 0, none⟩), .pointer (some ⟨pl q, 0, none⟩)]] 109) := ⟨_, rfl⟩
      have hal : Below w1.heap.size w1 wf := by rw [hwf]; exact (Below.refl _ w1).alloc (Nat.le_refl _) _
      have HNf := Lib.hid (hN1.same hal)
      have HBf := Lib.hid (hb1.trans (hal.mono hb1.size))
      have HWI := Lib.hid (show Calls Try.prog 56 #[.int .i64 (kk : Nat), .pointer (some ⟨ql q, 0, none⟩)] wf fun e w' => e = .returned (.int .i64 (wd : Nat)) ∧ w' = wf from by
        rw [hwd]; exact wcl_any (L q) (ql q) kk wf ((HA.out.same HBf.out).qb q hqm))
      have HWF := Lib.hid (show wf = (wr.setCell ⟨kb, q, none⟩ (.int .i64 (kk : Nat))).alloc (.cells #[.func (.func 56) #[] #[.pointer (some ⟨ql q, 0, none⟩)], .func (.func 58) #[] #[.pointer (some ⟨tb, 0, none⟩), .pointer (some ⟨pl q, 0, none⟩)]] 109) by rw [hwf, hw1])
      have hkl := HNR.out.lt
      have hl1 : Fb < wr.heap.size := World.block_lt_of_cell? _ _ hcF
      have hl2 : Zs q < wr.heap.size := World.block_lt_of_cell? _ _ hc4
      have hl3 : z q k < wr.heap.size := World.block_lt_of_cell? _ _ hc5
      have i2 : (k : Int) < (T : Int) := by have := HT.out; omega
      have i3 : (r : Int) < (Q : Int) := by have := HQ.out; omega
      have i4 : (kk : Int) ≤ 255 := by omega
      clear hc5a hal hN1 hset hb1 hwf hw1 hwd hr2 hkk hbe hat hdr p3 p4
      go_wp2_with fail
      rw [← HWF.out]
      refine HWI.out.mono ?_
      rintro e w' ⟨rfl, rfl⟩
      go_wp2
      go_roundw
      case rel => exact ⟨q + 1, kk, r2, by omega, by go_num, rfl, rfl, by omega, p2, by omega, by rw [he2]; exact HDR3.out, by rw [he2]; exact HC3.out, HNf.out, HBf.out⟩
      case measure => simp [intOf]; omega
    · obtain rfl : q = m := by omega
      have i1 : ¬ (q : Int) < (q : Int) := by omega
      go_wp2
      go_ret
      exact ⟨⟨kb, by rw [HKB.out]; exact Nat.le_refl _, rfl, HNR.out.congr (fun j hj => by rw [if_pos hj])⟩, HB.out⟩
end Go.Proofs.Ythkcacnlinajgaa.Pn

namespace Go.Proofs.Ythkcacnlinajgaa.Pn
open Go.RowKit Go.Shelf
attribute [local go_sem] Oper.semAt_some

/-- one of the layers that come from the end: its place. -/
structure Bi (m : Nat) where
  i : Nat
  hi : i < m
def Bi.enc {m : Nat} (tb : Nat) (pl ql : Nat → Nat) (x : Bi m) : Array Value := #[.int .i64 (x.i : Nat), lyQ tb (pl x.i) (ql x.i)]
/-- what is read from the end: the slice in its box, and the layers. -/
def GdL (Bs A m tb : Nat) (pl ql : Nat → Nat) (W : World) : Prop := Boxed W Bs 61 (.slice (some ⟨A, 0, none⟩) m m) ∧ Lls W A m m tb pl ql
theorem GdL.c {Bs A m tb : Nat} {pl ql : Nat → Nat} {W : World} (h : GdL Bs A m tb pl ql W) : W.cell? ⟨Bs, 0, none⟩ = some (.slice (some ⟨A, 0, none⟩) m m) := h.1.cell
theorem GdL.same {Bs A m tb : Nat} {pl ql : Nat → Nat} {W W' : World} (h : GdL Bs A m tb pl ql W) (hB : Below W.heap.size W W') : GdL Bs A m tb pl ql W' := ⟨(hB.block _ h.1.lt).trans h.1, h.2.same hB⟩
theorem Lls.kep {X Y : World} {row : Option Nat} {A m d tb : Nat} {pl ql : Nat → Nat} (s : Lls X A m d tb pl ql) (hg : X.grownBy Y row) (hr : ∀ r, row = some r → ∃ o : Obj, X.heap[r]? = some o ∧ o.isCells = false) : Lls Y A m d tb pl ql := by
  obtain ⟨vs, h1, h2⟩ := s
  exact ⟨vs, heap_kep h1 hg hr, h2⟩
theorem GdL.kep {X Y : World} {row : Option Nat} {Bs A m tb : Nat} {pl ql : Nat → Nat} (s : GdL Bs A m tb pl ql X) (hg : X.grownBy Y row) (hr : ∀ r, row = some r → ∃ o : Obj, X.heap[r]? = some o ∧ o.isCells = false) : GdL Bs A m tb pl ql Y := ⟨heap_kep s.1 hg hr, s.2.kep hg hr⟩
def KpL (Bs A m tb : Nat) (pl ql : Nat → Nat) (W W' : World) : Prop := GdL Bs A m tb pl ql W → GdL Bs A m tb pl ql W'
theorem kpL_t {Bs A m tb : Nat} {pl ql : Nat → Nat} {X Y Z : World} (h : KpL Bs A m tb pl ql X Y) (k : KpL Bs A m tb pl ql Y Z) : KpL Bs A m tb pl ql X Z := fun g => k (h g)
theorem kpL_b {Bs A m tb : Nat} {pl ql : Nat → Nat} {w : World} (W : World) (l : Nat) (o o' : Obj) (_ : w.heap.size ≤ l) (h : W.heap[l]? = some o) (hc : o.isCells = false) (_ : o.isWalk = false) : KpL Bs A m tb pl ql W (W.putObj l o') :=
  fun g => g.kep (grownBy_putObj' W l o') (fun r e => by cases e; exact ⟨o, h, hc⟩)

set_option maxRecDepth 100000 in
set_option maxHeartbeats 2000000 in
/-- slices.Backward's closure, of layers. -/
theorem backL1_in (n : Nat) (hn : 1 ≤ n) (l Bs A m tb : Nat) (pl ql : Nat → Nat) (hm : m ≤ 1000000000000) (J Jx : List (Bi m) → World → Prop)
    (hY : ∀ pre x W, J pre W → pre.length < m → YieldAt Fence.wide (n - 1) Try.prog l (Bi.enc tb pl ql x) W fun e W' =>
      (e = .returned (.bool true) ∧ J (pre ++ [x]) W' ∧ KpL Bs A m tb pl ql W W') ∨ (e = .returned (.bool false) ∧ Jx (pre ++ [x]) W'))
    (W : World) (hG : GdL Bs A m tb pl ql W) (h0 : J [] W) :
    CallsIn Fence.wide n Try.prog 84 #[.func (.yield l) #[] #[], .pointer (some ⟨Bs, 0, none⟩)] W fun e W' => (∃ v, e = .returned v) ∧
      ((∃ ys : List (Bi m), ys.map Bi.i = dnl m m ∧ J ys W') ∨ (∃ pre : List (Bi m), (∃ k, k ≤ m ∧ pre.map Bi.i = dnl m k) ∧ Jx pre W')) := by
  have hW : ∀ k, Fence.wide.fn k := fun _ => trivial
  have hD : Fence.wide.depth = none := rfl
  have hb0 := hG.c
  have HG := Lib.hid hG; clear hG
  refine callsIn_of_wp Try.func84 rfl trivial ?_ rfl
  simp only [Try.ntmps84, List.size_toArray, List.length_cons, List.length_nil, Nat.reduceAdd, Nat.reduceSub, Array.replicate_succ, Array.replicate_zero, List.push_toArray, List.append_toArray, List.nil_append, List.cons_append]
  gi_wp2
  gi_loopw [3] (fun i wr => ∃ d : Nat, d ≤ m ∧ i = .int .i64 ((d : Int) - 1) ∧ (∃ pre : List (Bi m), pre.map Bi.i = dnl m (m - d) ∧ J pre wr) ∧ GdL Bs A m tb pl ql wr)
    (fun i _ => ((intOf i) + 1).toNat)
  case atStart => exact ⟨m, Nat.le_refl _, rfl, ⟨[], by simp [dnl], h0⟩, HG.out⟩
  case round =>
    rename_i wr
    obtain ⟨d, hm1, rfl, ⟨pre, hp, hJs⟩, hG⟩ := hrel
    have hP := Lib.hid hp
    have hlen : pre.length = m - d := by have := congrArg List.length hp; rwa [List.length_map, dnl_len] at this
    have HL := Lib.hid hlen
    clear hp hb0
    cases d with
    | zero =>
      clear hlen
      gi_wp2
      go_end0
      exact ⟨⟨_, rfl⟩, .inl ⟨pre, hP.out, hJs⟩⟩
    | succ d =>
      rw [show (((d + 1 : Nat) : Int) - 1) = (d : Int) by omega]
      obtain ⟨fn, tmps, assign, body, hy, hR⟩ := hY pre ⟨d, by omega⟩ wr hJs (by omega)
      unfold Bi.enc lyQ lyV at hy
      dsimp only at hy
      have hb1 := hG.c
      obtain ⟨l1, l2⟩ := hG.2.c (i := d) (by omega)
      have HG1 := Lib.hid hG
      clear hG hlen
      have i2 : (d : Int) < (m : Int) := by omega
      gi_wp2
      refine hR.mono ?_
      rintro e W3 (⟨rfl, hJ3, hk3⟩ | ⟨rfl, hJx3⟩)
      · have HG3 := Lib.hid (hk3 HG1.out)
        gi_wp2
        go_roundw
        case rel => exact ⟨d, by omega, rfl, ⟨_, by rw [dnl_succ (m := d) (by omega), List.map_append, hP.out]; rfl, hJ3⟩, HG3.out⟩
        case measure => simp [intOf]
      · gi_wp2
        refine bodyPost_ret (results_none rfl _ _ _) rfl ?_
        exact ⟨⟨_, rfl⟩, .inr ⟨_, ⟨m - d, by omega, by rw [dnl_succ (m := d) (by omega), List.map_append, hP.out]; rfl⟩, hJx3⟩⟩

/-- slices.Backward's value. -/
theorem backL_stops (n : Nat) (hn : 1 ≤ n) (Bs A m tb : Nat) (pl ql : Nat → Nat) (hm : m ≤ 1000000000000) (w : World) (hG : GdL Bs A m tb pl ql w) :
    SeqStopsK Fence.wide n Try.prog 84 #[.pointer (some ⟨Bs, 0, none⟩)] (Bi.enc (m := m) tb pl ql) (KpL Bs A m tb pl ql) (fun ys => ys.map Bi.i = dnl m m) (fun pre => ∃ k, k ≤ m ∧ pre.map Bi.i = dnl m k) m w := fun l J Jx W hW _ _ hY h0 => by
  exact backL1_in n hn l Bs A m tb pl ql hm J Jx hY W (hG.same hW) h0

set_option maxHeartbeats 1000000 in
/-- slices.Backward: the slice is boxed. -/
theorem backL_in (n : Nat) (a : Option Addr) (len cap : Nat) (w : World) :
    CallsIn Fence.wide n Try.prog 52 #[.slice a len cap] w fun e w' => e = .returned (.func (.func 84) #[] #[.pointer (some ⟨w.heap.size, 0, none⟩)]) ∧ w' = w.alloc (.cells #[.slice a len cap] 61) := by
  refine callsIn_wide.2 ?_
  go_enter Try.func52, Try.ntmps52
  go_wp2
  go_ret
  exact ⟨rfl, rfl⟩
end Go.Proofs.Ythkcacnlinajgaa.Pn

namespace Go.Proofs.Ythkcacnlinajgaa.Pn
open Go.RowKit Go.Shelf

theorem run_ge (l : Ly) (cb : Nat → Nat → Int × Nat) (r f : Nat) : ∀ j, -1 ≤ (run l cb r f j).1
  | 0 => by show (-1 : Int) ≤ -1; omega
  | j + 1 => by
    have ih := run_ge l cb r f j
    unfold run
    split
    · rename_i h; show -1 ≤ sum l cb r (f + j); have := h.2; omega
    · exact ih
theorem cel_ge (N : Nat) : ∀ (ls : List Ly) f r, -1 ≤ (cel N ls f r).1
  | [], _, _ => by show (-1 : Int) ≤ 0; omega
  | _ :: _, _, _ => run_ge _ _ _ _ _
/-- layers, the last one of them gone through first. -/
def lsB (L V Wt : Nat → Int) {m : Nat} : List (Bi m) → List Ly
  | [] => []
  | y :: rs => ly L V Wt y.i :: lsB L V Wt rs
/-- the layers of which a table was made. -/
def zlB (L V Wt : Nat → Int) {m : Nat} : List (Bi m) → Nat → List Ly
  | [], _ => []
  | y :: rs, i => if i = y.i then ly L V Wt y.i :: lsB L V Wt rs else zlB L V Wt rs i
theorem lsB_lys {L V Wt : Nat → Int} {m : Nat} : ∀ (rs : List (Bi m)) (a : Nat), rs.map Bi.i = (List.range rs.length).map (fun j => a + j) → lsB L V Wt rs = lys L V Wt a rs.length ∧ ∀ i, a ≤ i → i < a + rs.length → zlB L V Wt rs i = lys L V Wt i (a + rs.length - i)
  | [], a, _ => ⟨rfl, fun i h1 h2 => absurd h2 (by simp; omega)⟩
  | y :: rs, a, h => by
    rw [List.length_cons, List.range_succ_eq_map, List.map_cons, List.map_cons, List.map_map] at h
    injection h with h1 h2
    have h2' : rs.map Bi.i = (List.range rs.length).map (fun j => (a + 1) + j) := by
      rw [h2]
      apply List.map_congr_left
      intro j _
      show a + (j + 1) = a + 1 + j
      omega
    obtain ⟨h3, h4⟩ := lsB_lys (L := L) (V := V) (Wt := Wt) rs (a + 1) h2'
    have h1' : y.i = a := h1
    have e1 : ly L V Wt y.i :: lsB L V Wt rs = lys L V Wt a (rs.length + 1) := by
      rw [h3, h1']; rfl
    refine ⟨e1, fun i i1 i2 => ?_⟩
    rw [List.length_cons] at i2 ⊢
    show (if i = y.i then ly L V Wt y.i :: lsB L V Wt rs else zlB L V Wt rs i) = _
    by_cases e : i = y.i
    · rw [if_pos e, e1, show i = a by omega, show a + (rs.length + 1) - a = rs.length + 1 by omega]
    · rw [if_neg e, h4 i (by omega) (by omega), show a + 1 + rs.length = a + (rs.length + 1) by omega]
theorem dnl_rev (m : Nat) : ∀ ys : List (Bi m), ys.map Bi.i = dnl m m → ys.reverse.map Bi.i = (List.range ys.reverse.length).map (fun j => 0 + j) := fun ys h => by
  have hl : ys.length = m := by have := congrArg List.length h; rwa [List.length_map, dnl_len] at this
  rw [List.map_reverse, h, List.length_reverse, hl]
  apply List.ext_getElem?
  intro j
  unfold dnl
  by_cases hj : j < m
  · rw [List.getElem?_reverse (by simp; omega)]
    simp [hj]
    rw [List.getElem?_range (by omega)]
    simp
    omega
  · rw [List.getElem?_eq_none (by simp; omega), List.getElem?_eq_none (by simp; omega)]
theorem cel_le2 {N : Nat} : ∀ (ls : List Ly) f r, (∀ l ∈ ls, ∀ k, k ≤ N → l.v k ≤ 68719476736) → (cel N ls f r).1 ≤ ls.length * 68719476736
  | [], _, _, _ => by show (0 : Int) ≤ _; simp
  | l :: ls, f, r, h => by
    have ih := fun k x => cel_le2 ls k x (fun y hy => h y (List.mem_cons_of_mem _ hy))
    refine run_le (by rw [List.length_cons]; omega) _ (fun k h1 h2 => ?_)
    have h3 := h l (List.mem_cons_self ..) k (by omega)
    have h4 := ih k (r - l.wd k)
    show l.v k + (cel N ls k (r - l.wd k)).1 ≤ _
    rw [List.length_cons]
    omega
theorem lsB_mem {L V Wt : Nat → Int} {m : Nat} : ∀ (rs : List (Bi m)), ∀ l ∈ lsB L V Wt rs, ∃ i, i < m ∧ l = ly L V Wt i
  | [], l, h => absurd h (by simp [lsB])
  | y :: rs, l, h => by
    rcases List.mem_cons.1 h with h | h
    · exact ⟨y.i, y.hi, h⟩
    · exact lsB_mem rs l h
theorem lsB_len {L V Wt : Nat → Int} {m : Nat} : ∀ (rs : List (Bi m)), (lsB L V Wt rs).length = rs.length
  | [] => rfl
  | y :: rs => by show (lsB L V Wt rs).length + 1 = rs.length + 1; rw [lsB_len rs]
/-- what the scores are, of layers. -/
def FF (n : Nat) (ls : List Ly) (k r : Nat) : Int := if k = 0 then 0 else if k = n + 1 then -1 else (cel n ls k r).1
/-- what the first thresholds are, of layers. -/
def ZF (n : Nat) (ls : List Ly) (k r : Nat) : Int := if k = 0 then 0 else ((cel n ls k r).2 : Nat)
/-- where all stands. -/
structure Stat (w : World) (T G x7 x9 Fb Bs A : Nat) (b : Nat → Nat) : Prop where
  g : w.heap.size + 2 ≤ G ∧ G < x7
  b : ∀ i, i < T → w.heap.size + 2 ≤ b i ∧ b i < x7
  o : x7 < Fb ∧ Fb < x9 ∧ x9 < Bs
  a : A < w.heap.size
/-- as the search goes on: tables that stand in their list, those that are told. -/
structure SrG (w W : World) (n R T Q m G x7 x9 Fb Bs A tb : Nat) (pl ql b : Nat → Nat) (Zs : Nat → Nat) (z : Nat → Nat → Nat) (ls : List Ly) (zl : Nat → List Ly) (P D : Nat → Prop) : Prop where
  b3 : Boxed W w.heap.size 3 (.int .i64 (n : Nat))
  b4 : Boxed W (w.heap.size + 1) 3 (.int .i64 (R : Nat))
  b7 : Boxed W x7 102 (.slice (some ⟨G, 0, none⟩) T T)
  b9 : Boxed W x9 104 (.slice (some ⟨Fb, 0, none⟩) m m)
  tt : Tab 24 3 .i64 W G T Q b (FF n ls)
  fs : ∃ vs : Array Value, W.heap[Fb]? = some (.cells vs 110 (0, 0)) ∧ vs.size = m ∧ ∀ i, P i → i < m → vs[i]? = some (.slice (some ⟨Zs i, 0, none⟩) T T)
  zs : ∀ i, D i → i < m → Tab 139 5 .u8 W (Zs i) T Q (z i) (ZF n (zl i)) ∧ Bs < Zs i ∧ ∀ j, j < T → Bs < z i j
  gd : GdL Bs A m tb pl ql W
  be : Below w.heap.size w W
section
variable {w W W' : World} {n R T Q m G x7 x9 Fb Bs A tb : Nat} {pl ql b : Nat → Nat} {Zs : Nat → Nat} {z : Nat → Nat → Nat} {ls : List Ly} {zl zl' : Nat → List Ly} {P D P' D' : Nat → Prop}
theorem SrG.same (h : SrG w W n R T Q m G x7 x9 Fb Bs A tb pl ql b Zs z ls zl P D) (hB : Below W.heap.size W W') : SrG w W' n R T Q m G x7 x9 Fb Bs A tb pl ql b Zs z ls zl P D :=
  ⟨(hB.block _ h.b3.lt).trans h.b3, (hB.block _ h.b4.lt).trans h.b4, (hB.block _ h.b7.lt).trans h.b7, (hB.block _ h.b9.lt).trans h.b9, h.tt.same hB, by
    obtain ⟨vs, h1, h2⟩ := h.fs
    exact ⟨vs, (hB.block _ (Array.getElem?_eq_some_iff.1 h1).1).trans h1, h2⟩, fun i h1 h2 => ⟨(h.zs i h1 h2).1.same hB, (h.zs i h1 h2).2⟩, h.gd.same hB, h.be.trans (hB.mono h.be.size)⟩
theorem SrG.kep {row : Option Nat} {H : Nat} (h0 : w.heap.size ≤ H) (h : SrG w W n R T Q m G x7 x9 Fb Bs A tb pl ql b Zs z ls zl P D) (hg : W.grownBy W' row) (hr : ∀ r, row = some r → H ≤ r ∧ ∃ o : Obj, W.heap[r]? = some o ∧ o.isCells = false) : SrG w W' n R T Q m G x7 x9 Fb Bs A tb pl ql b Zs z ls zl P D := by
  have hr' : ∀ r, row = some r → ∃ o : Obj, W.heap[r]? = some o ∧ o.isCells = false := fun r e => (hr r e).2
  exact ⟨heap_kep h.b3 hg hr', heap_kep h.b4 hg hr', heap_kep h.b7 hg hr', heap_kep h.b9 hg hr', h.tt.kep hg hr', by
    obtain ⟨vs, h1, h2⟩ := h.fs
    exact ⟨vs, heap_kep h1 hg hr', h2⟩, fun i h1 h2 => ⟨(h.zs i h1 h2).1.kep hg hr', (h.zs i h1 h2).2⟩, h.gd.kep hg hr', h.be.grown hg h.be.size (fun k e => Nat.le_trans h0 (hr k e).1)⟩
theorem SrG.cell (h : SrG w W n R T Q m G x7 x9 Fb Bs A tb pl ql b Zs z ls zl P D) {i : Nat} (h1 : P i) (hi : i < m) : W.cell? ⟨Fb, i, none⟩ = some (.slice (some ⟨Zs i, 0, none⟩) T T) := by
  obtain ⟨vs, h2, h3, h4⟩ := h.fs
  rw [cell_of_row W Fb i vs _ _ h2]; exact h4 i h1 hi
theorem SrG.any (h : SrG w W n R T Q m G x7 x9 Fb Bs A tb pl ql b Zs z ls zl P D) {j : Nat} (hj : j < m) : ∃ x, W.cell? ⟨Fb, j, none⟩ = some x := by
  obtain ⟨vs, h1, h2, _⟩ := h.fs
  refine ⟨vs[j]'(by omega), ?_⟩
  rw [cell_of_row W Fb j vs _ _ h1]
  simp [show j < vs.size by omega]
theorem SrG.free (h : SrG w W n R T Q m G x7 x9 Fb Bs A tb pl ql b Zs z ls zl P D) (j : Nat) : W.frozen? ⟨Fb, j, none⟩ = false := by
  obtain ⟨vs, h1, _⟩ := h.fs
  exact frozen_of_row W Fb j vs _ h1
theorem SrG.weak (h : SrG w W n R T Q m G x7 x9 Fb Bs A tb pl ql b Zs z ls zl P D) (hP : ∀ i, P' i → P i) (hD : ∀ i, D' i → D i) (hz : ∀ i, D' i → i < m → zl i = zl' i) : SrG w W n R T Q m G x7 x9 Fb Bs A tb pl ql b Zs z ls zl' P' D' :=
  ⟨h.b3, h.b4, h.b7, h.b9, h.tt, by
    obtain ⟨vs, h1, h2, h3⟩ := h.fs
    exact ⟨vs, h1, h2, fun i hi => h3 i (hP i hi)⟩, fun i h1 h2 => by rw [← hz i h1 h2]; exact h.zs i (hD i h1) h2, h.gd, h.be⟩
/-- a new table is put into the list. -/
theorem SrG.put (h : SrG w W n R T Q m G x7 x9 Fb Bs A tb pl ql b Zs z ls zl D D) (st : Stat w T G x7 x9 Fb Bs A b) {y : Nat} (hy : y < m) (Zn : Nat) (zn : Nat → Nat) : SrG w (W.setCell ⟨Fb, y, none⟩ (.slice (some ⟨Zn, 0, none⟩) T T)) n R T Q m G x7 x9 Fb Bs A tb pl ql b (fun i => if i = y then Zn else Zs i) (fun i => if i = y then zn else z i) ls zl (fun i => i = y ∨ D i) (fun i => i ≠ y ∧ D i) := by
  have ho : ∀ j, j ≠ Fb → (W.setCell ⟨Fb, y, none⟩ (.slice (some ⟨Zn, 0, none⟩) T T)).heap[j]? = W.heap[j]? := fun j hj => Below.heap_setCell W ⟨Fb, y, none⟩ _ j hj
  have s1 := st.g; have s2 := st.o; have s3 := st.a
  refine ⟨(ho _ (by omega)).trans h.b3, (ho _ (by omega)).trans h.b4, (ho _ (by omega)).trans h.b7, (ho _ (by omega)).trans h.b9, h.tt.kept (ho _ (by omega)) (fun i hi => ho _ (by have := st.b i hi; omega)), ?_, fun i h1 h2 => ?_, ⟨(ho _ (by omega)).trans h.gd.1, h.gd.2.kept (ho _ (by omega))⟩, h.be.setCell (p := ⟨Fb, y, none⟩) (by show _ ≤ Fb; omega) _⟩
  · obtain ⟨vs, h1, h2, h3⟩ := h.fs
    refine ⟨_, heap_setCell_same W Fb y vs _ _ h1, by simpa using h2, fun i h4 hi => ?_⟩
    show _ = some (Value.slice (some ⟨if i = y then Zn else Zs i, 0, none⟩) T T)
    by_cases e : i = y
    · subst e
      rw [if_pos rfl, Array.getElem?_setIfInBounds_self_of_lt (by omega)]
    · rw [if_neg e, Array.getElem?_setIfInBounds_ne (fun q => e q.symm)]
      exact h3 i (by rcases h4 with h4 | h4; exact absurd h4 e; exact h4) hi
  · obtain ⟨e, h1⟩ := h1
    show Tab _ _ _ _ (if i = y then Zn else Zs i) T Q (if i = y then zn else z i) _ ∧ Bs < (if i = y then Zn else Zs i) ∧ ∀ j, j < T → Bs < (if i = y then zn else z i) j
    rw [if_neg e, if_neg e]
    obtain ⟨h3, h4, h5⟩ := h.zs i h1 h2
    exact ⟨h3.kept (ho _ (by omega)) (fun j hj => ho _ (by have := h5 j hj; omega)), h4, h5⟩
/-- a layer is gone through. -/
theorem SrG.next (h : SrG w W n R T Q m G x7 x9 Fb Bs A tb pl ql b Zs z ls zl P D) (st : Stat w T G x7 x9 Fb Bs A b) {y : Nat} (l : Ly) (hF : Fr (SS T b (z y)) W W') (hz : ∀ j, j < T → Bs < z y j) (hZ : Bs < Zs y)
    (hn : ∀ i, D i → i < m → (∀ j, j < T → Zs i ≠ z y j) ∧ ∀ k, k < T → ∀ j, j < T → z i k ≠ z y j)
    (ht : Tab 24 3 .i64 W' G T Q b (FF n (l :: ls))) (hzn : Tab 139 5 .u8 W' (Zs y) T Q (z y) (ZF n (l :: ls))) : SrG w W' n R T Q m G x7 x9 Fb Bs A tb pl ql b Zs z (l :: ls) (fun i => if i = y then l :: ls else zl i) P (fun i => i = y ∨ D i) := by
  have s1 := st.g; have s2 := st.o; have s3 := st.a
  have ns : ∀ k, (k < w.heap.size + 2 ∨ (x7 ≤ k ∧ k ≤ Bs)) → ¬ SS T b (z y) k := fun k hk hS => by
    rcases hS with ⟨i, hi, e⟩ | ⟨i, hi, e⟩
    · have := st.b i hi; omega
    · have := hz i hi; omega
  have hS : ∀ k, SS T b (z y) k → w.heap.size ≤ k := fun k hS => by
    rcases hS with ⟨i, hi, e⟩ | ⟨i, hi, e⟩
    · have := st.b i hi; omega
    · have := hz i hi; omega
  refine ⟨(hF.block _ h.b3.lt (ns _ (by omega))).trans h.b3, (hF.block _ h.b4.lt (ns _ (by omega))).trans h.b4, (hF.block _ h.b7.lt (ns _ (by omega))).trans h.b7, (hF.block _ h.b9.lt (ns _ (by omega))).trans h.b9, ht, ?_, fun i h1 h2 => ?_, ⟨(hF.block _ h.gd.1.lt (ns _ (by omega))).trans h.gd.1, h.gd.2.kept (hF.block _ h.gd.2.lt (ns _ (by omega)))⟩, h.be.trans (hF.below h.be.size hS)⟩
  · obtain ⟨vs, h1, h2⟩ := h.fs
    exact ⟨vs, (hF.block _ (Array.getElem?_eq_some_iff.1 h1).1 (ns _ (by omega))).trans h1, h2⟩
  · by_cases e : i = y
    · subst e
      rw [if_pos rfl]
      exact ⟨hzn, hZ, hz⟩
    · rw [if_neg e]
      have hDi : D i := by rcases h1 with h1 | h1; exact absurd h1 e; exact h1
      obtain ⟨h3, h4, h5⟩ := h.zs i hDi h2
      obtain ⟨n1, n2⟩ := hn i hDi h2
      refine ⟨hF.tab h3 (fun hS => ?_) (fun k hk hS => ?_), h4, h5⟩
      · rcases hS with ⟨j, hj, e⟩ | ⟨j, hj, e⟩
        · have := st.b j hj; omega
        · exact n1 j hj e
      · rcases hS with ⟨j, hj, e⟩ | ⟨j, hj, e⟩
        · have := st.b j hj; have := h5 k hk; omega
        · exact n2 k hk j hj e
theorem keeps_below {B : Nat} (h : Below W.heap.size W W') : KeepsFrom B W W' := ⟨h.size, fun k _ _ hk _ => (h.block k (Array.getElem?_eq_some_iff.1 hk).1).trans hk⟩
theorem keeps_fr {B : Nat} {S : Nat → Prop} (h : Fr S W W') (hc : ∀ k, S k → ∃ vs t, W.heap[k]? = some (.cells vs t (0, 0))) : KeepsFrom B W W' := ⟨h.size, fun k o _ hk ho => (h.block k (Array.getElem?_eq_some_iff.1 hk).1 (fun hS => by
  obtain ⟨vs, t, e⟩ := hc k hS
  rw [e] at hk
  injection hk with hk
  rw [← hk] at ho
  cases ho)).trans hk⟩
end
end Go.Proofs.Ythkcacnlinajgaa.Pn

namespace Go.Proofs.Ythkcacnlinajgaa.Pn
open Go.RowKit Go.Shelf
open Go.Proofs.Ythkcacnlinajgaa.Wg (RW)
open Go.Proofs.Ythkcacnlinajgaa.Ly (widI widI_le)
attribute [local go_sem] Oper.semAt_some
attribute [local go_sem] rsf

theorem Try.infoTabU : (Try.prog.info? 110).map (fun i => (i.zero, i.size, i.bytes)) = some (some (.slice none 0 0), 1, 24) := by kernel_rfl
theorem hmkF (N : Nat) (hN : N ≤ 1000000000) : ∀ W : World, (Instr.makeSlice 104 (.int .i64 (N : Nat)) (.int .i64 (N : Nat))).run Try.prog W = .ok (.slice (some ⟨W.heap.size, 0, none⟩) N N) (W.alloc (.cells (madeCells #[.slice none 0 0] N) 110)) := fun W => by
  obtain ⟨i0, hi, hz0, hz1, hz2⟩ := info_parts Try.infoTabU
  have := run_make (P := Try.prog) W 104 110 i0 (.slice none 0 0) Try.underlying104 hi hz0 .i64 .i64 (N : Int) (N : Int) (by omega) (Int.le_refl _) (by rw [hz2]; omega) (by omega)
  have e : (Value.slice none 0 0).cells = #[.slice none 0 0] := rfl
  rw [hz1, e, Int.toNat_natCast, Nat.mul_one] at this; exact this
/-- what the thresholds are told as. -/
def KsSays (w : World) (m : Nat) (bs : List Nat) (e : Ending) (w' : World) : Prop := (∃ kb, w.heap.size ≤ kb ∧ e = .returned (.slice (some ⟨kb, 0, none⟩) m m) ∧ Nr 3 .i64 w' kb m (at0 bs)) ∧ Below w.heap.size w w'
set_option maxHeartbeats 8000000 in
set_option maxRecDepth 100000 in
theorem search_any (N M B : Int) (la va wa : Option Addr) (m lc vc nm wc n R A tb : Nat) (pl ql : Nat → Nat) (L V Wt : Nat → Int) (hm : m ≤ 8) (hn1 : 1 ≤ n) (hn : n ≤ 255) (hR : R ≤ 1999) (hW : RW (n : Nat) nm Wt) (hO : ∀ i, i < m → 0 ≤ V i ∧ V i ≤ 1048576) (w : World) (hA : LyAt w A m tb pl ql N M B la lc va vc wa nm wc L V Wt)
    (h0 : 0 ≤ (cel n (lys L V Wt 0 m) 1 R).1) :
    Calls Try.prog 28 #[.int .i64 (n : Nat), .int .i64 (R : Nat), .slice (some ⟨A, 0, none⟩) m m] w (KsSays w m (best n (lys L V Wt 0 m) 1 R)) := by
  refine (callsIn_wide (n := 6)).1 ?_
  have hFW : ∀ k, Fence.wide.fn k := fun _ => trivial
  have hD : Fence.wide.depth = none := rfl
  have HA := Lib.hid hA; have HW := Lib.hid hW; have HO := Lib.hid hO; have H0 := Lib.hid h0
  clear hA hW hO h0
  obtain ⟨bs, hbs⟩ : ∃ bs, bs = best n (lys L V Wt 0 m) 1 R := ⟨_, rfl⟩
  rw [← hbs]
  have HBS := Lib.hid hbs
  clear hbs
  have hmk := hmkF m (by omega)
  -- the boxes of the arguments
  have b3 := (Boxed.new w 3 (.int .i64 (n : Nat))).alloc (.cells #[.int .i64 (R : Nat)] 3)
  have b4 := Boxed.new (w.alloc (.cells #[.int .i64 (n : Nat)] 3)) 3 (.int .i64 (R : Nat))
  rw [World.size_alloc] at b4
  have hB0 : Below w.heap.size w ((w.alloc (.cells #[.int .i64 (n : Nat)] 3)).alloc (.cells #[.int .i64 (R : Nat)] 3)) := ((Below.refl _ w).alloc (Nat.le_refl _) _).alloc (by simp) _
  have hz0 : ((w.alloc (.cells #[.int .i64 (n : Nat)] 3)).alloc (.cells #[.int .i64 (R : Nat)] 3)).heap.size = w.heap.size + 1 + 1 := by rw [World.size_alloc, World.size_alloc]
  have HB3 := Lib.hid b3; have HB4 := Lib.hid b4; have HB0 := Lib.hid hB0; have HZ0 := Lib.hid hz0
  have c3 := b3.cell; have c4 := b4.cell
  clear b3 b4 hB0 hz0
  refine callsIn_of_wp_marks Try.func28 rfl trivial ?_ rfl
  simp only [Try.ntmps28, List.size_toArray, List.length_cons, List.length_nil, Nat.reduceAdd, Nat.reduceSub, Array.replicate_succ, Array.replicate_zero, List.push_toArray, List.append_toArray, List.nil_append, List.cons_append]
  obtain ⟨T, hT⟩ : ∃ T, T = n + 2 := ⟨_, rfl⟩
  obtain ⟨Q, hQ⟩ : ∃ Q, Q = R + 1 := ⟨_, rfl⟩
  have hTn : T ≤ 257 := by omega
  have hQn : Q ≤ 2000 := by omega
  have HTN := Lib.hid hT; have HQR := Lib.hid hQ
  have HFI := Lib.hid (fun W => filledI_any 0 n R (by omega) (by omega) W)
  have HFB := Lib.hid (fun W => filledB_any 0 n R (by omega) (by omega) W)
  rw [← hT, ← hQ] at HFI HFB
  clear hT hQ
  gi_wp2_with fail
  generalize (w.alloc (.cells #[.int .i64 (n : Nat)] 3)).alloc (.cells #[.int .i64 (R : Nat)] 3) = w0 at *
  clear c3 c4
  refine (callsIn_wide.2 (HFI.out w0)).mono ?_
  rintro e w1 ⟨G, b, rfl, hGl, hbl, htab, hB1⟩
  have HBw1 := Lib.hid (HB0.out.trans (hB1.mono HB0.out.size))
  have HB31 := Lib.hid (show Boxed w1 w.heap.size 3 (.int .i64 (n : Nat)) from (hB1.block _ (by have := HZ0.out; omega)).trans HB3.out)
  have HB41 := Lib.hid (show Boxed w1 (w.heap.size + 1) 3 (.int .i64 (R : Nat)) from (hB1.block _ (by have := HZ0.out; omega)).trans HB4.out)
  have HTB1 := Lib.hid htab
  have HST1 := Lib.hid (show (w.heap.size + 2 ≤ G ∧ G < w1.heap.size) ∧ ∀ i, i < T → w.heap.size + 2 ≤ b i ∧ b i < w1.heap.size from ⟨by have := HZ0.out; have := htab.lt; omega, fun i hi => by have := HZ0.out; have := hbl i hi; have := (htab.rw i hi).lt; omega⟩)
  clear hGl hbl htab hB1 HB0 HB3 HB4 HFI
  obtain ⟨w2, hw2⟩ : ∃ w2, w2 = w1.alloc (.cells #[.slice (some ⟨G, 0, none⟩) T T] 102) := ⟨_, rfl⟩
  have hal2 : Below w1.heap.size w1 w2 := by rw [hw2]; exact (Below.refl _ w1).alloc (Nat.le_refl _) _
  have HB72 := Lib.hid (show Boxed w2 w1.heap.size 102 (.slice (some ⟨G, 0, none⟩) T T) by rw [hw2]; exact Boxed.new w1 _ _)
  have HB32 := Lib.hid (show Boxed w2 w.heap.size 3 (.int .i64 (n : Nat)) from (hal2.block _ HB31.out.lt).trans HB31.out)
  have HB42 := Lib.hid (show Boxed w2 (w.heap.size + 1) 3 (.int .i64 (R : Nat)) from (hal2.block _ HB41.out.lt).trans HB41.out)
  have HTB2 := Lib.hid (HTB1.out.same hal2)
  have HBw2 := Lib.hid (HBw1.out.trans (hal2.mono HBw1.out.size))
  have HW2 := Lib.hid hw2
  have c7 := HB72.out.cell
  have c3 := HB32.out.cell
  have cG := HTB2.out.cell (i := n + 1) (by have := HTN.out; omega)
  rw [hw2] at c7 c3 cG
  have i1 : ((n + 1 : Nat) : Int) < (T : Int) := by have := HTN.out; omega
  have i2 : (n : Int) + 1 = ((n + 1 : Nat) : Int) := by omega
  clear hw2 hal2 HB31 HB41 HTB1 HBw1 HZ0
  obtain ⟨n1, hn1d⟩ : ∃ n1, n1 = n + 1 := ⟨_, rfl⟩
  rw [← hn1d] at cG i1 i2
  have HN1 := Lib.hid hn1d
  clear hn1d
  gi_wp2_with fail
  rw [← HW2.out]
  obtain ⟨x7, hx7⟩ : ∃ x7, x7 = w1.heap.size := ⟨_, rfl⟩
  rw [← hx7] at HB72 HST1 ⊢
  clear hx7 c7 c3 cG
  gi_loopw [21] (fun i wr => ∃ q : Nat, q ≤ Q ∧ i = .int .i64 (q : Nat) ∧ Tab 24 3 .i64 wr G T Q b (fun k r => if k = n1 ∧ r < q then -1 else 0) ∧ Boxed wr x7 102 (.slice (some ⟨G, 0, none⟩) T T) ∧ Boxed wr w.heap.size 3 (.int .i64 (n : Nat)) ∧ Boxed wr (w.heap.size + 1) 3 (.int .i64 (R : Nat)) ∧ Below w.heap.size w wr) (fun i _ => Q - (intOf i).toNat)
  case atStart => exact ⟨0, by omega, rfl, HTB2.out.congr (fun k r hk hr => by rw [if_neg (by omega)]), HB72.out, HB32.out, HB42.out, HBw2.out⟩
  case round =>
    rename_i wr
    clear HTB2 HB72 HB32 HB42 HBw2 HW2
    obtain ⟨q, hq, rfl, ht, h7, h3, h4, hB⟩ := hrel
    have HTq := Lib.hid ht; have HB7q := Lib.hid h7; have HB3q := Lib.hid h3; have HB4q := Lib.hid h4; have HBq := Lib.hid hB
    have c7 := h7.cell
    have c3 := h3.cell
    by_cases hqQ : q < Q
    · have i3 : (q : Int) < (Q : Int) := by omega
      have cG := ht.cell (i := n1) (by omega)
      have hr := ht.rw n1 (by omega)
      have cq := hr.cell hqQ
      have fq := hr.free q
      have hset := hr.set hqQ (-1)
      have hG1 := HST1.out.1
      have hb1 := HST1.out.2 n1 (by omega)
      have gr := grownSet wr (b n1) q (.int .i64 (-1))
      have HT5 := Lib.hid ((ht.rowset (by decide) (by omega) hset gr).congr (H := fun k r => if k = n1 ∧ r < q + 1 then -1 else 0) (fun k r hk hr => by
        by_cases e : k = n1
        · subst e
          rw [if_pos rfl]
          by_cases e2 : r = q
          · have e3 : r < q + 1 := by omega
            simp [e2]
          · by_cases e3 : r < q
            · simp [e2, e3, show r < q + 1 by omega]
            · simp [e2, e3, show ¬ r < q + 1 by omega]
        · simp [e]))
      have h75 : Boxed (wr.setCell ⟨b n1, q, none⟩ (.int .i64 (-1))) x7 102 (.slice (some ⟨G, 0, none⟩) T T) := bx_set h7 (by omega)
      have h35 : Boxed (wr.setCell ⟨b n1, q, none⟩ (.int .i64 (-1))) w.heap.size 3 (.int .i64 (n : Nat)) := bx_set h3 (by omega)
      have h45 : Boxed (wr.setCell ⟨b n1, q, none⟩ (.int .i64 (-1))) (w.heap.size + 1) 3 (.int .i64 (R : Nat)) := bx_set h4 (by omega)
      have hB5 : Below w.heap.size w (wr.setCell ⟨b n1, q, none⟩ (.int .i64 (-1))) := hB.setCell (p := ⟨b n1, q, none⟩) (by show _ ≤ b n1; omega) _
      have H5 := Lib.hid (And.intro h75 (And.intro h35 (And.intro h45 hB5)))
      clear ht h7 h3 h4 hB hr hset hG1 hb1 gr h75 h35 h45 hB5
      gi_wp2
      go_roundw
      case rel => exact ⟨q + 1, by omega, by go_num, HT5.out, H5.out.1, H5.out.2.1, H5.out.2.2.1, H5.out.2.2.2⟩
      case measure => simp [intOf]; omega
    · obtain rfl : q = Q := by omega
      have i3 : ¬ (q : Int) < (q : Int) := by omega
      clear ht h7 h3 h4 hB
      obtain ⟨wA, hwa⟩ : ∃ wA, wA = (wr.alloc (.cells (madeCells #[.slice none 0 0] m) 110)).alloc (.cells #[.slice (some ⟨wr.heap.size, 0, none⟩) m m] 104) := ⟨_, rfl⟩
      obtain ⟨wz, hwz⟩ : ∃ wz, wz = wA.alloc (.cells #[.slice (some ⟨A, 0, none⟩) m m] 61) := ⟨_, rfl⟩
      have hza : wA.heap.size = wr.heap.size + 1 + 1 := by rw [hwa, World.size_alloc, World.size_alloc]
      have hala : Below wr.heap.size wr wA := by rw [hwa]; exact ((Below.refl _ wr).alloc (Nat.le_refl _) _).alloc (by simp) _
      have halz : Below wA.heap.size wA wz := by rw [hwz]; exact (Below.refl _ wA).alloc (Nat.le_refl _) _
      have hrz : Below wr.heap.size wr wz := hala.trans (halz.mono hala.size)
      have hfa : wA.heap[wr.heap.size]? = some (.cells (madeCells #[.slice none 0 0] m) 110 (0, 0)) := by
        rw [hwa, Below.heap_alloc _ _ _ (by simp)]; exact heap_alloc_new _ _
      have h9a : Boxed wA (wr.heap.size + 1) 104 (.slice (some ⟨wr.heap.size, 0, none⟩) m m) := by
        have h := Boxed.new (wr.alloc (.cells (madeCells #[.slice none 0 0] m) 110)) 104 (.slice (some ⟨wr.heap.size, 0, none⟩) m m)
        rw [World.size_alloc] at h
        rw [hwa]; exact h
      have hbl : Boxed wz (wr.heap.size + 1 + 1) 61 (.slice (some ⟨A, 0, none⟩) m m) := by
        rw [hwz, ← hza]; exact Boxed.new wA _ _
      have hBz : Below w.heap.size w wz := HBq.out.trans (hrz.mono HBq.out.size)
      obtain ⟨Fb, hFb⟩ : ∃ Fb, Fb = wr.heap.size := ⟨_, rfl⟩
      have hsrg : SrG w wz n R T q m G x7 (Fb + 1) Fb (Fb + 1 + 1) A tb pl ql b (fun _ => 0) (fun _ _ => 0) [] (fun _ => []) (fun _ => False) (fun _ => False) := by
        rw [hFb]
        exact ⟨(hrz.block _ HB3q.out.lt).trans HB3q.out, (hrz.block _ HB4q.out.lt).trans HB4q.out, (hrz.block _ HB7q.out.lt).trans HB7q.out, (halz.block _ h9a.lt).trans h9a, (HTq.out.same hrz).congr (fun k r hk hr => by
          unfold FF
          by_cases e : k = 0
          · rw [if_pos e, if_neg (by have := HN1.out; omega)]
          · rw [if_neg e]
            by_cases e2 : k = n + 1
            · rw [if_pos e2, if_pos ⟨by have := HN1.out; omega, hr⟩]
            · rw [if_neg e2, if_neg (by have := HN1.out; omega)]; rfl), ⟨_, (halz.block _ (by rw [hza]; omega)).trans hfa, by rw [size_madeCells], fun i hi => hi.elim⟩, fun i hi => hi.elim, ⟨hbl, HA.out.ls.same hBz⟩, hBz⟩
      have HSR := Lib.hid hsrg
      have HST := Lib.hid (show Stat w T G x7 (Fb + 1) Fb (Fb + 1 + 1) A b from ⟨HST1.out.1, HST1.out.2, ⟨by have := HB7q.out.lt; omega, by omega, by omega⟩, HA.out.ls.lt⟩)
      have HLz := Lib.hid (show Fb + 1 + 1 < wz.heap.size by rw [hFb]; exact hbl.lt)
      have HWZ := Lib.hid (show wz = ((wr.alloc (.cells (madeCells #[.slice none 0 0] m) 110)).alloc (.cells #[.slice (some ⟨wr.heap.size, 0, none⟩) m m] 104)).alloc (.cells #[.slice (some ⟨A, 0, none⟩) m m] 61) by rw [hwz, hwa])
      clear hza hala halz hrz hfa h9a hbl hBz hsrg hwz hwa HTq HB7q HB3q HB4q HBq
      gi_wp2_with fail
      refine (backL_in _ _ _ _ _).mono ?_
      rintro e w' ⟨rfl, rfl⟩
      gi_wp2_with fail
      rw [← HWZ.out, ← hFb]
      clear HWZ hFb
      have hBn : Below wz.heap.size wz wz := Below.refl _ _
      have hwz := HSR.out.be.size
      refine' wpIn_rangeFunc_ownH rfl (by omega) (gf := 84) (lb := #[.pointer (some ⟨Fb + 1 + 1, 0, none⟩)]) rfl trivial (enters_of Try.func84 (by kernel_rfl) rfl)
        (backL_stops _ (by omega) (Fb + 1 + 1) A m tb pl ql (by omega) _ HSR.out.gd) kpL_t kpL_b (Below.refl _ _) (fun _ => rfl)
        (fun pre W => wz.heap.size ≤ W.heap.size ∧ ∃ Zs z, SrG w W n R T q m G x7 (Fb + 1) Fb (Fb + 1 + 1) A tb pl ql b Zs z (lsB L V Wt pre.reverse) (zlB L V Wt pre.reverse) (fun i => i ∈ pre.map Bi.i) (fun i => i ∈ pre.map Bi.i))
        (fun _ _ _ => False)
        (fun s X Y row h hg hr => ⟨Nat.le_trans h.1 hg.size, by obtain ⟨Zs, z, h⟩ := h.2; exact ⟨Zs, z, h.kep hwz hg hr⟩⟩)
        (fun _ _ _ _ _ hs _ _ => hs)
        ⟨Nat.le_refl _, _, _, HSR.out.weak (fun i hi => absurd hi (by simp)) (fun i hi => absurd hi (by simp)) (fun i hi => absurd hi (by simp))⟩
        (fun x a' W' => ∃ p, wz.heap.size ≤ p ∧ a' = ⟨#[.int .i64 (n : Nat), .int .i64 (R : Nat), .slice (some ⟨A, 0, none⟩) m m, .pointer (some ⟨w.heap.size, 0, none⟩), .pointer (some ⟨w.heap.size + 1, 0, none⟩), undef, .slice none 0 0, .pointer (some ⟨x7, 0, none⟩), u8, .pointer (some ⟨Fb + 1, 0, none⟩), .int .i64 (x.i : Nat), .pointer (some ⟨p, 0, none⟩), .int .i64 (n : Nat), .int .i64 (R : Nat), .slice (some ⟨G, 0, none⟩) T T, .slice (some ⟨G, 0, none⟩) T T, .int .i64 (n : Nat), .int .i64 (n1 : Nat), .pointer (some ⟨G, n1, none⟩), .slice (some ⟨b n1, 0, none⟩) q q, .int .i64 (q : Nat), .int .i64 (q : Nat), .bool false, u23, u24, u25, u26, u27, u28, u29, u30, u31, .slice (some ⟨A, 0, none⟩) m m, .int .i64 (m : Nat), .slice (some ⟨Fb, 0, none⟩) m m, .slice (some ⟨A, 0, none⟩) m m, .func (.func 84) #[] #[.pointer (some ⟨Fb + 1 + 1, 0, none⟩)], .int .i64 (x.i : Nat), lyQ tb (pl x.i) (ql x.i), undef, undef, undef, undef, undef, undef, undef, undef, undef, undef, undef, undef, undef, undef, undef, undef, undef, undef], []⟩ ∧
          W'.heap[p]? = some (.cells #[.func (.func 56) #[] #[.pointer (some ⟨ql x.i, 0, none⟩)], .func (.func 58) #[] #[.pointer (some ⟨tb, 0, none⟩), .pointer (some ⟨pl x.i, 0, none⟩)]] 109 (0, 0)))
        (fun x a' _ X Y row h hg hr => by obtain ⟨p, h0, h1, h2⟩ := h; exact ⟨p, h0, h1, heap_kep h2 hg (fun r e => (hr r e).2)⟩)
        ?assign ?body ?done ?stop
      case assign =>
        rintro l pre x W KK ⟨hz, Zs, z, hs⟩ hK
        have hB := (Below.refl W.heap.size W).alloc (Nat.le_refl _) (.cells #[.func (.func 56) #[] #[.pointer (some ⟨ql x.i, 0, none⟩)], .func (.func 58) #[] #[.pointer (some ⟨tb, 0, none⟩), .pointer (some ⟨pl x.i, 0, none⟩)]] 109)
        have hR := hK _ _ (keeps_below hB) (fun g => g.same hB) ⟨Nat.le_trans hz hB.size, Zs, z, hs.same hB⟩ ⟨W.heap.size, hz, rfl, heap_alloc_new W _⟩
        clear hK hs hB
        unfold lyQ lyV at hR
        unfold Bi.enc lyQ lyV
        gi_wp2
        exact hR
      case body =>
        rintro l pre y a' W hq _ ⟨hz, Zs, z, hs⟩ ⟨p, hp, rfl, hpa⟩ hlen
        unfold lyQ lyV
        have HS := Lib.hid hs; have HP := Lib.hid hpa; have HWZ := Lib.hid hz
        have hyi := y.hi
        obtain ⟨i, hi⟩ : ∃ i, i = y.i := ⟨_, rfl⟩
        rw [← hi] at HP hyi ⊢
        have HYI := Lib.hid hi
        have c9 := hs.b9.cell; have c3 := hs.b3.cell; have c4 := hs.b4.cell
        have i5 : (i : Int) < (m : Int) := by omega
        have hpl : p < W.heap.size := (Array.getElem?_eq_some_iff.1 hpa).1
        clear hs hpa hi hz
        gi_wp2_with fail
        refine Rb.wpIn_round_u (S := fun X => X.cell? ⟨Fb + 1, 0, none⟩ = some (.slice (some ⟨Fb, 0, none⟩) m m) ∧ X.cell? ⟨w.heap.size, 0, none⟩ = some (.int .i64 (n : Nat)) ∧ X.cell? ⟨w.heap.size + 1, 0, none⟩ = some (.int .i64 (R : Nat))) (z := 6) (by kernel_rfl) (by kernel_rfl) ⟨c9, c3, c4⟩ (fun hHeld => ?_)
        refine AnyU.take (i := 0) (p := 0) (oi := ⟨some 39, _, _, _, _, none⟩) (v := (.slice (some ⟨Fb, 0, none⟩) m m)) rfl (by kernel_rfl) (Or.inl rfl) (by kernel_rfl) (by kernel_rfl) (by kernel_rfl) (by kernel_rfl) (fun _ _ _ h => h) (Or.inl ⟨by rfl, fun W hW => ?_⟩) (by assumption) ?_
        · (obtain ⟨h9, h3, h4⟩ := hW; go_simp)
        simp only [Act.put, List.setIfInBounds_toArray, List.set_cons_zero, List.set_cons_succ]
        refine AnyU.take (i := 1) (p := 1) (oi := ⟨some 40, _, _, _, _, none⟩) (v := (.int .i64 (i : Nat))) rfl (by kernel_rfl) (Or.inl rfl) (by kernel_rfl) (by kernel_rfl) (by kernel_rfl) (by kernel_rfl) (fun _ _ _ h => h) (Or.inl ⟨by rfl, fun W hW => ?_⟩) (by assumption) ?_
        · go_simp
        simp only [Act.put, List.setIfInBounds_toArray, List.set_cons_zero, List.set_cons_succ]
        refine AnyU.take (i := 2) (p := 2) (oi := ⟨some 41, _, _, _, _, none⟩) (v := (.int .i64 (n : Nat))) rfl (by kernel_rfl) (Or.inl rfl) (by kernel_rfl) (by kernel_rfl) (by kernel_rfl) (by kernel_rfl) (fun _ _ _ h => h) (Or.inl ⟨by rfl, fun W hW => ?_⟩) (by assumption) ?_
        · (obtain ⟨h9, h3, h4⟩ := hW; go_simp)
        simp only [Act.put, List.setIfInBounds_toArray, List.set_cons_zero, List.set_cons_succ]
        refine AnyU.take (i := 3) (p := 3) (oi := ⟨some 42, _, _, _, _, none⟩) (v := (.int .i64 (R : Nat))) rfl (by kernel_rfl) (Or.inl rfl) (by kernel_rfl) (by kernel_rfl) (by kernel_rfl) (by kernel_rfl) (fun _ _ _ h => h) (Or.inl ⟨by rfl, fun W hW => ?_⟩) (by assumption) ?_
        · (obtain ⟨h9, h3, h4⟩ := hW; go_simp)
        simp only [Act.put, List.setIfInBounds_toArray, List.set_cons_zero, List.set_cons_succ]
        refine AnyU.ready (rs := [4]) (by kernel_rfl) (by simp) (EachU.cons rfl (fun KK hKK => ?_) EachU.nil)
        go_simp
        refine (HFB.out W.drew).mono ?_
        rintro e W2 ⟨Zn, zn, rfl, hZl, hzl, htz, hB2⟩
        dsimp only
        have hB2' : Below W.heap.size W W2 := ((Below.refl _ W).drew).trans hB2
        have hS2 := HS.out.same hB2'
        have HS2 := Lib.hid hS2; have HTZ := Lib.hid htz; have HB2 := Lib.hid hB2'
        have HZL := Lib.hid (show W.heap.size ≤ Zn from hZl); have HzL := Lib.hid (show ∀ j, j < T → W.heap.size ≤ zn j from hzl)
        obtain ⟨x0, hx0⟩ := hS2.any hyi
        have hf0 := hS2.free i
        have e9 := hS2.b9.cell; have e3 := hS2.b3.cell; have e4 := hS2.b4.cell
        clear hZl hzl htz hB2 hB2' hS2
        refine hKK.out _ _ (fun _ => ⟨e9, e3, e4⟩) (fun hHeld => ?_)
        clear hKK KK
        try simp only [Act.put, List.setIfInBounds_toArray, List.set_cons_zero, List.set_cons_succ]
        have hHeld := hHeld (by decide)
        refine AnyU.take (i := 5) (p := 5) (oi := ⟨some 44, _, _, _, _, none⟩) (v := (.pointer (some ⟨Fb, i, none⟩))) rfl (by kernel_rfl) (Or.inl rfl) (by kernel_rfl) (by kernel_rfl) (by kernel_rfl) (by kernel_rfl) (fun _ _ _ h => h) (Or.inl ⟨by rfl, fun W hW => ?_⟩) (by assumption) ?_
        · (go_simp)
        simp only [Act.put, List.setIfInBounds_toArray, List.set_cons_zero, List.set_cons_succ]
        refine AnyU.ready (rs := [6]) (by kernel_rfl) (by simp) (EachU.cons rfl (fun KK hKK => ?_) EachU.nil)
        go_simp
        refine hKK.out _ _ (fun h => absurd rfl h) (fun hHeld => ?_)
        clear hKK KK
        try simp only [Act.put, List.setIfInBounds_toArray, List.set_cons_zero, List.set_cons_succ]
        refine AnyU.done (by kernel_rfl) ?_ _
        have hS3 := HS2.out.put HST.out hyi Zn zn
        obtain ⟨W3, hW3⟩ : ∃ W3, W3 = W2.setCell ⟨Fb, i, none⟩ (.slice (some ⟨Zn, 0, none⟩) T T) := ⟨_, rfl⟩
        rw [← hW3] at hS3 ⊢
        have ho3 : ∀ j, j ≠ Fb → W3.heap[j]? = W2.heap[j]? := fun j hj => by rw [hW3]; exact Below.heap_setCell W2 ⟨Fb, i, none⟩ _ j hj
        have hp3 : W3.heap[p]? = some (.cells #[.func (.func 56) #[] #[.pointer (some ⟨ql i, 0, none⟩)], .func (.func 58) #[] #[.pointer (some ⟨tb, 0, none⟩), .pointer (some ⟨pl i, 0, none⟩)]] 109 (0, 0)) := (ho3 p (by have := HLz.out; omega)).trans ((HB2.out.block p hpl).trans HP.out)
        have htz3 := HTZ.out.kept (ho3 Zn (by have := HZL.out; have := HLz.out; have := HWZ.out; omega)) (fun j hj => ho3 _ (by have := HzL.out j hj; have := HLz.out; have := HWZ.out; omega))
        have hK3 : KeepsFrom wz.heap.size W W3 := (keeps_below HB2.out).trans (by rw [hW3]; exact (KeepsOthers.setCell _ _ _).from _)
        have z0 : W3.cell? ⟨p, 0, none⟩ = some (.func (.func 56) #[] #[.pointer (some ⟨ql i, 0, none⟩)]) := by rw [cell_of_row W3 p 0 _ _ _ hp3]; rfl
        have z1 : W3.cell? ⟨p, 1, none⟩ = some (.func (.func 58) #[] #[.pointer (some ⟨tb, 0, none⟩), .pointer (some ⟨pl i, 0, none⟩)]) := by rw [cell_of_row W3 p 1 _ _ _ hp3]; rfl
        have z2 := hS3.b3.cell
        have z3 := hS3.b7.cell
        have z4 := hS3.b9.cell
        have z5 := hS3.cell (Or.inl rfl) hyi
        rw [if_pos rfl] at z5
        have HS3 := Lib.hid hS3; have HTZ3 := Lib.hid htz3; have HK3 := Lib.hid hK3
        clear hS3 hW3 ho3 hp3 htz3 hK3 hHeld e9 e3 e4 hx0 hf0 c9 c3 c4 HS2 HTZ
        gi_wp2_with fail
        refine Rb.wpIn_round_quiet_tail 7 (by kernel_rfl) (by kernel_rfl) (by kernel_rfl) ?_
        simp only [List.take_succ_cons, List.take_zero, List.drop_succ_cons, List.drop_zero]
        repeat (go_big_quiet_step (fail))
        refine wpQuiet_nil ?_
        rintro _ ⟨k3, rfl⟩
        have hdr := below_dr (Below.refl W3.heap.size W3) k3
        have HS4 := Lib.hid (HS3.out.same hdr); have HTZ4 := Lib.hid (HTZ3.out.same hdr); have HK4 := Lib.hid (HK3.out.trans (keeps_below hdr))
        generalize W3.drewN k3 = W4 at *
        clear z0 z1 z2 z3 z4 z5 hdr HS3 HTZ3 HK3
        have hvb : ∀ j, j < m → ∀ k, k ≤ n → 0 ≤ V j * Wt k ∧ V j * Wt k ≤ 68719476736 := fun j hj k hk => by
          have hw := HW.out
          have hnm := hw.2.1
          exact Wg.prod_bd (HO.out j hj).1 (HO.out j hj).2 (hw.2.2.1 k (by omega)) (hw.le k (by omega))
        have hlen2 : pre.length ≤ 7 := by omega
        have hLD := lead_any n R hn1 hn (by omega) (ly L V Wt i) (cel n (lsB L V Wt pre.reverse)) (fun k r => ⟨cel_ge n _ k r, by
          have h := cel_le2 (N := n) (lsB L V Wt pre.reverse) k r (fun x hx k hk => by
            obtain ⟨j, hj, rfl⟩ := lsB_mem _ x hx
            exact (hvb j hj k hk).2)
          rw [lsB_len, List.length_reverse] at h
          omega⟩) (fun k h1 h2 => ⟨(hvb i hyi k h2).1, (hvb i hyi k h2).2, widI_le (L i) (k : Nat)⟩) 56 58 #[.pointer (some ⟨ql i, 0, none⟩)] #[.pointer (some ⟨tb, 0, none⟩), .pointer (some ⟨pl i, 0, none⟩)] G Zn b zn (FF n (lsB L V Wt pre.reverse))
          (fun k r h1 h2 => by unfold FF; rw [if_neg (by omega), if_neg (by omega)]) (fun r => by unfold FF; rw [if_neg (by omega), if_pos rfl]) W4 (by rw [← HTN.out, ← HQR.out]; exact HS4.out.tt) (by rw [← HTN.out, ← HQR.out]; exact HTZ4.out) (fun _ _ => by kernel_rfl) (fun _ _ => by kernel_rfl)
          (fun W' hF k h1 h2 => by
            rw [← HTN.out] at hF
            have hB := HS4.out.be.trans (hF.below HS4.out.be.size (fun k hS => by
              rcases hS with ⟨j, hj, e⟩ | ⟨j, hj, e⟩
              · have := HST.out.b j hj; omega
              · have := HzL.out j hj; have := HS.out.be.size; omega))
            exact wcl_any (L i) (ql i) k W' ((HA.out.same hB).qb i hyi))
          (fun W' hF k h1 h2 => by
            rw [← HTN.out] at hF
            have hB := HS4.out.be.trans (hF.below HS4.out.be.size (fun k hS => by
              rcases hS with ⟨j, hj, e⟩ | ⟨j, hj, e⟩
              · have := HST.out.b j hj; omega
              · have := HzL.out j hj; have := HS.out.be.size; omega))
            have hLy := HA.out.same hB
            have hw := HW.out
            have hnm := hw.2.1
            exact gcl_any N M B la va wa m lc m vc nm wc tb (pl i) i k V Wt hyi (by omega) (HO.out i hyi).1 (HO.out i hyi).2 (hw.2.2.1 k (by omega)) (hw.le k (by omega)) W' hLy.tk (hLy.pb i hyi) hLy.sv hLy.sw)
        rw [← HTN.out, ← HQR.out] at hLD
        unfold lyV at hLD
        have HLD := Lib.hid hLD
        clear hLD hvb
        gi_wp2_with fail
        refine (Rb.callsWR HLD.out).mono ?_
        rintro e W5 ⟨rfl, ht5, hz5, hF5⟩
        have hnx := HS4.out.next (y := i) HST.out (ly L V Wt i) (by rw [if_pos rfl]; exact hF5) (fun j hj => by
          rw [if_pos rfl]; have := HzL.out j hj; have := HWZ.out; have := HLz.out; omega) (by
          rw [if_pos rfl]; have := HZL.out; have := HWZ.out; have := HLz.out; omega) (fun j hDj hj => by
          obtain ⟨d1, d2⟩ := hDj
          obtain ⟨q1, q2, q3⟩ := HS.out.zs j d2 hj
          rw [if_neg d1, if_neg d1, if_pos rfl]
          exact ⟨fun k hk => by have := q1.lt; have := HzL.out k hk; omega, fun a ha k hk => by have := (q1.rw a ha).lt; have := HzL.out k hk; omega⟩) (ht5.congr (fun k r hk hr => by
          unfold FF
          by_cases e : k = 0
          · rw [if_pos e, if_pos e, if_pos rfl]
          · rw [if_neg e, if_neg e]
            by_cases e2 : k = n + 1
            · rw [if_pos e2, e2, rnF_last]
            · rw [if_neg e2]; rfl)) (by
          rw [if_pos rfl, if_pos rfl]
          exact hz5.congr (fun k r hk hr => rfl))
        have HNX := Lib.hid hnx
        have HK5 := Lib.hid (HK4.out.trans (keeps_fr hF5 (fun k hS => by
          rcases hS with ⟨j, hj, e⟩ | ⟨j, hj, e⟩
          · obtain ⟨vs, h⟩ := (HS4.out.tt.rw j hj).obj; rw [e]; exact ⟨vs, _, h⟩
          · obtain ⟨vs, h⟩ := (HTZ4.out.rw j hj).obj; rw [e]; exact ⟨vs, _, h⟩)))
        have HSZ := Lib.hid (show wz.heap.size ≤ W5.heap.size from Nat.le_trans HWZ.out HK5.out.size)
        clear ht5 hz5 hF5 hnx HLD
        gi_wp2
        have hiy := HYI.out
        have hrev : (pre ++ [y]).reverse = y :: pre.reverse := by simp
        subst hiy
        have hfin := HNX.out.weak (P' := fun j => j ∈ (pre ++ [y]).map Bi.i) (D' := fun j => j ∈ (pre ++ [y]).map Bi.i) (zl' := zlB L V Wt (y :: pre.reverse)) (fun j hj => by simpa [or_comm] using hj) (fun j hj => by
          have h : j = y.i ∨ j ∈ pre.map Bi.i := by simpa [or_comm] using hj
          by_cases e : j = y.i
          · exact Or.inl e
          · exact Or.inr ⟨e, by rcases h with h | h; exact absurd h e; exact h⟩) (fun j _ _ => rfl)
        have hgo : ∀ rs, rs = y :: pre.reverse → SrG w W5 n R T q m G x7 (Fb + 1) Fb (Fb + 1 + 1) A tb pl ql b (fun j => if j = y.i then Zn else Zs j) (fun j => if j = y.i then zn else z j) (lsB L V Wt rs) (zlB L V Wt rs) (fun j => j ∈ (pre ++ [y]).map Bi.i) (fun j => j ∈ (pre ++ [y]).map Bi.i) := fun rs e => by subst e; exact hfin
        exact ⟨HK5.out, fun _ => HNX.out.gd, HSZ.out, _, _, hgo _ hrev⟩
      case done =>
        rintro D ys W hDs hys ⟨hz, Zs, z, hs⟩ hK
        have hrv := dnl_rev m ys hys
        have hlen : ys.length = m := by have := congrArg List.length hys; rwa [List.length_map, dnl_len] at this
        obtain ⟨hl1, hl2⟩ := lsB_lys (L := L) (V := V) (Wt := Wt) ys.reverse 0 hrv
        rw [List.length_reverse, hlen] at hl1 hl2
        have hmem : ∀ i, i < m → i ∈ ys.map Bi.i := fun i hi => by
          rw [hys]; unfold dnl
          exact List.mem_map.2 ⟨m - 1 - i, List.mem_range.2 (by omega), by omega⟩
        have HS := Lib.hid hs; have HK := Lib.hid hK
        have c4 := hs.b4.cell; have c9 := hs.b9.cell
        have hvb : ∀ j, j < m → ∀ k, 1 ≤ k → k ≤ n → 0 ≤ V j * Wt k := fun j hj k h1 hk => by
          have hw := HW.out
          have hnm := hw.2.1
          exact (Wg.prod_bd (HO.out j hj).1 (HO.out j hj).2 (hw.2.2.1 k (by omega)) (hw.le k (by omega))).1
        have hFO := follow_any N M B la va wa m lc vc nm wc n R A tb Fb pl ql Zs z L V Wt hm hn1 hn (by omega) hvb W (HA.out.same hs.be) (fun i hi => by rw [← HTN.out]; exact hs.cell (hmem i hi) hi) (fun i hi => by
          rw [← HTN.out, ← HQR.out]
          have h := (hs.zs i (hmem i hi) hi).1
          rw [hl2 i (by omega) (by omega), Nat.zero_add] at h
          exact h) H0.out
        rw [← HBS.out] at hFO
        have HFO := Lib.hid hFO
        clear hFO hvb hmem hl1 hl2 hrv hs hK hys
        gi_wp2_with fail
        refine (callsIn_wide.2 HFO.out).mono ?_
        rintro e W6 ⟨⟨kb, hkb, rfl, hnr⟩, hB6⟩
        have HNR := Lib.hid hnr; have HB6 := Lib.hid hB6; have HKB := Lib.hid hkb
        have hK6 : W6.heap[D]? = some (.deferred (some [])) := (hB6.block D (Array.getElem?_eq_some_iff.1 HK.out).1).trans HK.out
        clear hnr hB6 hkb c4 c9
        gi_wp2
        refine ⟨by simp, .inl ⟨_, _, rfl, run_takeDeferred hK6, ?_⟩⟩
        have hBw := HS.out.be.trans (HB6.out.mono HS.out.be.size)
        exact ⟨_, results_tmp rfl _ _ _, ⟨kb, by have := HKB.out; have := HS.out.be.size; omega, rfl, HNR.out.kep (grownBy_putObj' _ D _) (fun r e => by cases e; exact ⟨_, hK6, rfl⟩)⟩, hBw.trans (belowK_b (w := w) (Nat.le_refl _) W6 D _ _ (by have := hDs; omega) hK6 rfl rfl)⟩
      case stop =>
        rintro D c pre W hD _ h _
        exact h.elim
end Go.Proofs.Ythkcacnlinajgaa.Pn

namespace Go.Proofs.Ythkcacnlinajgaa.Pn
open Go.RowKit Go.Shelf
open Go.Proofs.Ythkcacnlinajgaa.Sz (RB roomI FitP RSays bV)
open Go.Proofs.Ythkcacnlinajgaa.Wg (RW BoSays BoSays.no BoSays.yes)
attribute [local go_sem] Oper.semAt_some

set_option maxHeartbeats 2000000 in
theorem pwithin_any (a : Option Addr) (n cap : Nat) (x : Int) (K : Nat → Int) (hn : n ≤ 140737488355328) (w : World) (hS : Si w a n K) :
    Calls Try.prog 36 #[.slice a n cap, .int .i64 x] w fun e w' => BoSays (∀ i, i < n → 0 ≤ K i ∧ K i ≤ x) e ∧ w' = w := by
  have HS := Lib.hid hS; clear hS
  go_enter Try.func36, Try.ntmps36
  go_wp2_with fail
  go_loop [9] (fun i => ∃ k : Nat, k ≤ n ∧ i = .int .i64 (k : Nat) ∧ ∀ j, j < k → 0 ≤ K j ∧ K j ≤ x) (fun i => n - (intOf i).toNat)
  case atStart => exact ⟨0, by omega, rfl, fun j hj => absurd hj (Nat.not_lt_zero j)⟩
  case round =>
    obtain ⟨k, hk, rfl, hall⟩ := hrel
    have HALL := Lib.hid hall; clear hall
    by_cases hkn : k < n
    · have i1 : (k : Int) < (n : Int) := by omega
      obtain ⟨b, o, ea, hc⟩ := HS.out.cell k hkn
      subst ea
      have HX := Lib.hid (show (K k < 0 ∨ x < K k) → ¬ ∀ i, i < n → 0 ≤ K i ∧ K i ≤ x from fun h hh => by have := hh k hkn; omega)
      have HY := Lib.hid (show ¬ K k < 0 → ¬ x < K k → ∀ j, j < k + 1 → 0 ≤ K j ∧ K j ≤ x from fun h1 h2 j hj => by
        by_cases e : j = k
        · rw [e]; omega
        · exact HALL.out j (by omega))
      generalize K k = y at *
      by_cases h1 : y < 0
      · have g1 : decide (y < 0) = true := by simp [h1]
        go_wp2
        go_ret
        exact ⟨BoSays.no (HX.out (Or.inl h1)), rfl⟩
      · have g1 : decide (y < 0) = false := by simp [h1]
        by_cases h2 : x < y
        · have g2 : decide (x < y) = true := by simp [h2]
          go_wp2
          go_ret
          exact ⟨BoSays.no (HX.out (Or.inr h2)), rfl⟩
        · have g2 : decide (x < y) = false := by simp [h2]
          have HZ := Lib.hid (HY.out h1 h2)
          go_wp2
          go_round
          case rel => exact ⟨k + 1, by omega, by go_num, HZ.out⟩
          case measure => simp [intOf]; omega
    · obtain rfl : k = n := by omega
      have i1 : ¬ (k : Int) < (k : Int) := by omega
      go_wp2
      go_ret
      exact ⟨BoSays.yes HALL.out, rfl⟩
set_option maxHeartbeats 4000000 in
set_option maxRecDepth 100000 in
theorem pRight : PRight := by
  intro N M B la va wa nl lc nv vc nm wc L V W h1 h2 h3 w hL hV hW
  have HL := Lib.hid hL; have HV := Lib.hid hV; have HW := Lib.hid hW
  have HX0 := Lib.hid (show TAt (w.alloc (.cells #[.int .i64 N, .int .i64 M, .int .i64 B, .slice la nl lc, .slice va nv vc, .slice wa nm wc] 26)) w.heap.size 26 N M B la nl lc va nv vc wa nm wc from heap_alloc_new _ _)
  have HB0 := Lib.hid ((Below.refl w.heap.size w).alloc (Nat.le_refl _) (.cells #[.int .i64 N, .int .i64 M, .int .i64 B, .slice la nl lc, .slice va nv vc, .slice wa nm wc] 26))
  have HRR := Lib.hid (fun w => Sz.right_any N M B w)
  have HRW := Lib.hid (fun w hW => Wg.right_any N wa nm wc W w hW)
  have HWL := Lib.hid (fun w hL => pwithin_any la nl lc 65535 L h1 w hL)
  have HWV := Lib.hid (fun w hV => pwithin_any va nv vc 1048576 V h2 w hV)
  unfold bV at HRR
  clear hL hV hW
  unfold tV
  go_enter Try.func15, Try.ntmps15
  obtain ⟨c0, c1, c2, c3, c4, c5⟩ := HX0.out.c
  go_wp2_with fail
  clear c0 c1 c2 c3 c4 c5
  generalize w.alloc (.cells #[.int .i64 N, .int .i64 M, .int .i64 B, .slice la nl lc, .slice va nv vc, .slice wa nm wc] 26) = w0 at *
  refine (HRR.out _).mono ?_
  rintro e w1 ⟨⟨v, rfl, hv⟩, hB1⟩
  have HVV := Lib.hid hv
  have HX1 := Lib.hid (HX0.out.same hB1); have HB1 := Lib.hid (HB0.out.trans (hB1.mono HB0.out.size))
  clear hv hB1 HX0 HB0 HRR
  cases v
  · have HN := Lib.hid (show ¬ TR N M B nl nv nm L V W from fun h => absurd (HVV.out.2 h.1) (by simp))
    go_wp2
    go_ret
    exact ⟨BoSays.no HN.out, HB1.out⟩
  have HRB := Lib.hid (show RB N M B by first | exact HVV.out.1 rfl | exact HVV.out.1 trivial)
  clear HVV
  obtain ⟨c0, c1, c2, c3, c4, c5⟩ := HX1.out.c
  go_wp2_with fail
  clear c0 c1 c2 c3 c4 c5
  refine (HRW.out _ (HW.out.same HB1.out)).mono ?_
  rintro e w2 ⟨⟨v, rfl, hv⟩, hB2⟩
  have HVV := Lib.hid hv
  have HX2 := Lib.hid (HX1.out.same hB2); have HB2 := Lib.hid (HB1.out.trans (hB2.mono HB1.out.size))
  clear hv hB2 HX1 HB1 HRW
  cases v
  · have HN := Lib.hid (show ¬ TR N M B nl nv nm L V W from fun h => absurd (HVV.out.2 h.2.2.2.1) (by simp))
    go_wp2
    go_ret
    exact ⟨BoSays.no HN.out, HB2.out⟩
  have HRWT := Lib.hid (show RW N nm W by first | exact HVV.out.1 rfl | exact HVV.out.1 trivial)
  clear HVV
  obtain ⟨c0, c1, c2, c3, c4, c5⟩ := HX2.out.c
  by_cases e1 : nl < 1
  · have g1 : ¬ (1 : Int) ≤ (nl : Int) := by omega
    have HN := Lib.hid (show ¬ TR N M B nl nv nm L V W from fun h => by have := h.2.1; omega)
    clear e1
    go_wp2
    go_ret
    exact ⟨BoSays.no HN.out, HB2.out⟩
  have g1 : (1 : Int) ≤ (nl : Int) := by omega
  by_cases e2 : 8 < nl
  · have g2 : ¬ (nl : Int) ≤ 8 := by omega
    have HN := Lib.hid (show ¬ TR N M B nl nv nm L V W from fun h => by have := h.2.1; omega)
    clear e1 e2
    go_wp2
    go_ret
    exact ⟨BoSays.no HN.out, HB2.out⟩
  have g2 : (nl : Int) ≤ 8 := by omega
  by_cases e3 : nl = nv
  rotate_left
  · have g3 : ((nl : Int) == (nv : Int)) = false := by simp; omega
    have HN := Lib.hid (show ¬ TR N M B nl nv nm L V W from fun h => e3 h.2.2.1.symm)
    clear e1 e2 e3
    go_wp2
    go_ret
    exact ⟨BoSays.no HN.out, HB2.out⟩
  subst e3
  have hn8 : 1 ≤ nl ∧ nl ≤ 8 := by omega
  have HN8 := Lib.hid hn8
  clear e1 e2
  go_wp2_with fail
  clear c0 c1 c2 c3 c4 c5 g1 g2
  refine (HWL.out _ (HL.out.same HB2.out)).mono ?_
  rintro e w3 ⟨⟨v, rfl, hv⟩, rfl⟩
  have HVV := Lib.hid hv
  clear hv HWL
  cases v
  · have HN := Lib.hid (show ¬ TR N M B nl nl nm L V W from fun h => absurd (HVV.out.2 fun i hi => ⟨(h.2.2.2.2 i hi).1, (h.2.2.2.2 i hi).2.1⟩) (by simp))
    go_wp2
    go_ret
    exact ⟨BoSays.no HN.out, HB2.out⟩
  have HLL := Lib.hid (show ∀ i, i < nl → 0 ≤ L i ∧ L i ≤ 65535 by first | exact HVV.out.1 rfl | exact HVV.out.1 trivial)
  clear HVV
  obtain ⟨c0, c1, c2, c3, c4, c5⟩ := HX2.out.c
  go_wp2_with fail
  clear c0 c1 c2 c3 c4 c5
  refine (HWV.out _ (HV.out.same HB2.out)).mono ?_
  rintro e w4 ⟨⟨v, rfl, hv⟩, rfl⟩
  have HVV := Lib.hid (show v = true ↔ TR N M B nl nl nm L V W from hv.trans ⟨fun h => ⟨HRB.out, HN8.out, rfl, HRWT.out, fun i hi => ⟨(HLL.out i hi).1, (HLL.out i hi).2, (h i hi).1, (h i hi).2⟩⟩, fun h i hi => ⟨(h.2.2.2.2 i hi).2.2.1, (h.2.2.2.2 i hi).2.2.2⟩⟩)
  clear hv HWV
  go_wp2
  go_ret
  exact ⟨⟨v, rfl, HVV.out⟩, HB2.out⟩
end Go.Proofs.Ythkcacnlinajgaa.Pn

namespace Go.Proofs.Ythkcacnlinajgaa.Ly
open Go.RowKit Go.Shelf

section
variable {Pg : Program}
/-- an append, as one step of a region. -/
theorem step_apd {ops : Array Oper} {o : Oper} {act : Act} {w : World} {K : Act → World → Prop} {Q : Exit → Act → World → Prop} {E : Prop} (hgd : o.guard = none) (s x : Operand) (t : TypeId)
    (ho : o.op = .call { callee := .builtin .append, args := #[s, x], argTypes := #[t, t] })
    (base : Nat) (e : TypeId) (i : TypeInfo) (z : Value) (size bytes : Nat) (ht : Pg.underlying t = some (.slice e)) (hi : Pg.info? e = some i) (hz : i.zero = some z)
    (hsize : i.size = size) (hby : i.bytes = bytes) (hzs : z.cells.size = size) (hsz : 0 < size)
    (v : Value) (n : Nat) (xs : List Value) (hs : act.eval s = v) (hown : w.ownsRow base e size v n xs)
    (ad : Addr) (m c : Nat) (news : List Value) (hx : act.eval x = .slice (some ad) m c) (hl : news.length = m * size) (hnews : ∀ j u, news[j]? = some u → w.cell? (ad.add j) = some u) (h1 : ∀ u ∈ news, u.oneCell' = true)
    (h63 : n + m ≤ maxLen) (hbytes : (n + m) * bytes ≤ 140737488355328) (hbase : base ≤ w.heap.size)
    (h : ∀ v' w', w'.ownsRow base e size v' (n + m) (xs ++ news) → w.grownBy w' v.ownBlock → K (act.put o.dst v') w') :
    if Region.wanted o (yielded ops act.tmps) = true then Oper.wp Pg o act w K Q else E := by
  have hw : Region.wanted o (yielded ops act.tmps) = true := by simp [Region.wanted, hgd]
  rw [if_pos hw]
  exact wp_append_own w s x t ho base e i z size bytes ht hi hz hsize hby hzs hsz v n xs hs hown ad m c news hx hl hnews h1 h63 hbytes hbase fun v' w' h2 h3 _ => h v' w' h2 h3
end
theorem cell_new2 (w : World) (u v : Value) (t : TypeId) : ∀ j x, [u, v][j]? = some x → (w.alloc (.cells #[u, v] t)).cell? ((⟨w.heap.size, 0, none⟩ : Addr).add j) = some x := by
  intro j x hx
  have hj : j < 2 := by
    have := (List.getElem?_eq_some_iff.1 hx).1
    simpa using this
  rw [Addr.add_lit, World.cell?_alloc_new]
  rw [← hx]
  rcases (show j = 0 ∨ j = 1 by omega) with rfl | rfl <;> rfl
/-- rows of a table, put into a list. -/
def tdl (K L : Nat → Int) : Nat → List Value
  | 0 => []
  | t + 1 => tdl K L t ++ [.int .i64 (K t), .int .i64 (L t)]
theorem tdl_len (K L : Nat → Int) : ∀ t, (tdl K L t).length = t * 2
  | 0 => rfl
  | t + 1 => by unfold tdl; rw [List.length_append, tdl_len K L t]; simp; omega
theorem tdl_at (K L : Nat → Int) : ∀ t i, i < t → (tdl K L t)[i * 2]? = some (.int .i64 (K i)) ∧ (tdl K L t)[i * 2 + 1]? = some (.int .i64 (L i))
  | 0, i, h => absurd h (Nat.not_lt_zero i)
  | t + 1, i, h => by
    unfold tdl
    have hl := tdl_len K L t
    by_cases e : i = t
    · subst e
      rw [List.getElem?_append_right (by omega), List.getElem?_append_right (by omega), hl, Nat.sub_self, Nat.add_sub_cancel_left]
      exact ⟨rfl, rfl⟩
    · rw [List.getElem?_append_left (by omega), List.getElem?_append_left (by omega)]
      exact tdl_at K L t i (by omega)
theorem tdl_tb {w : World} {B t c : Nat} {a : Option Addr} {K L : Nat → Int} (ho : w.ownsRow B 54 2 (.slice a t c) t (tdl K L t)) : Tb w a t K L ∧ t ≤ c := by
  obtain ⟨_, ⟨e, h0⟩ | ⟨g, cap', cur, e, hg, hh, hnc, hcm, hs, ht⟩⟩ := ho
  · cases e
    exact ⟨⟨fun i hi => absurd hi (Nat.not_lt_zero i)⟩, Nat.le_refl _⟩
  · simp only [Value.slice.injEq, true_and] at e
    obtain ⟨rfl, rfl⟩ := e
    have hat : ∀ j, j < t * 2 → cur[j]? = (tdl K L t)[j]? := fun j hj => by
      rw [← ht, List.getElem?_take, if_pos hj, Array.getElem?_toList]
    refine ⟨⟨fun i hi => ?_⟩, hnc⟩
    obtain ⟨h1, h2⟩ := tdl_at K L t i hi
    refine ⟨g, 0, rfl, ?_, ?_⟩
    · rw [Nat.zero_add, cell_of_row w g _ cur _ _ hh, hat _ (by omega)]; exact h1
    · rw [Nat.zero_add, cell_of_row w g _ cur _ _ hh, hat _ (by omega)]; exact h2
theorem Try.infoTRow : (Try.prog.info? 54).map (fun i => (i.zero, i.size, i.bytes)) = some (some (.agg #[.int .i64 0, .int .i64 0]), 2, 16) := by kernel_rfl
theorem int_ones (x y : Int) : ∀ u ∈ [Value.int .i64 x, Value.int .i64 y], u.oneCell' = true := by
  intro u hu
  rcases List.mem_cons.1 hu with rfl | hu
  · rfl
  · rcases List.mem_singleton.1 hu with rfl; rfl
theorem hdl_cap {w : World} {B t c n : Nat} {e : TypeId} {z : Nat} {a : Option Addr} {xs : List Value} (ho : w.ownsRow B e z (.slice a t c) n xs) : t ≤ c ∧ c ≤ maxLen := by
  obtain ⟨_, ⟨e, h0⟩ | ⟨g, cap', cur, e, hg, hh, hnc, hcm, hs, ht⟩⟩ := ho
  · cases e; exact ⟨Nat.le_refl _, Nat.zero_le _⟩
  · simp only [Value.slice.injEq] at e
    obtain ⟨e1, e2, e3⟩ := e
    subst e3
    exact ⟨by omega, hcm⟩
theorem tab_mono {N : Int} {n : Nat} {K L : Nat → Int} (h : TabOk N n K L) {i : Nat} : ∀ j, i ≤ j → j < n → K i ≤ K j
  | 0, h1, _ => by obtain rfl : i = 0 := by omega
                   exact Int.le_refl _
  | j + 1, h1, h2 => by
    by_cases e : i = j + 1
    · rw [e]; exact Int.le_refl _
    · have h3 := tab_mono h (i := i) j (by omega) (by omega)
      have h4 := (h.2.2.2.2 (j + 1) h2).2.2.2.2 (by omega)
      rw [Nat.add_sub_cancel] at h4
      omega
theorem rdy_iff {N : Int} {n : Nat} {K L : Nat → Int} {came : Int} {mm : Nat} (h : TabOk N n K L) (hr : RdyN n K came mm) {i : Nat} (hi : i < n) : K i ≤ came ↔ i < mm := by
  constructor
  · intro hk
    rcases Nat.lt_or_ge i mm with c | c
    · exact c
    · have h1 := hr.2.2 (Nat.lt_of_le_of_lt c hi)
      have h2 := tab_mono h i c hi
      omega
  · exact hr.2.1 i
end Go.Proofs.Ythkcacnlinajgaa.Ly

namespace Go.Proofs.Ythkcacnlinajgaa.Sz
open Go.RowKit Go.Shelf
open Go.Proofs.Ythkcacnlinajgaa.Ly (TabOk RowOk off off_le off_mono widI widE widI_le width_any lst Tb tdl tdl_tb step_apd int_ones cell_new2)
open Go.Proofs.Ythkcacnlinajgaa.Sp (Bad)

def LenP (n : Nat) (L : Nat → Int) : Prop := 1 ≤ n ∧ n ≤ 8 ∧ ∀ i, i < n → 0 ≤ L i ∧ L i ≤ 65535
def LenSays (n : Nat) (L : Nat → Int) (e : Ending) : Prop := ∃ v : Bool, e = .returned (.bool v) ∧ (v = true ↔ LenP n L)
theorem fit_room {N M B y o : Int} (hB : RB N M B) (ho : 0 ≤ o) (hy : 1 ≤ y) : (18 + 3 * y + o ≤ M ∧ N * (18 + 3 * y + o) ≤ B) ↔ o ≤ roomI N M B y := by
  have := room_top (y := y) (r := o - 1) hB (by omega) hy
  rw [show 18 + 3 * y + (o - 1) + 1 = 18 + 3 * y + o by omega, show o - 1 + 1 = o by omega] at this
  exact this
theorem lenP_of {N : Int} {n : Nat} {K L : Nat → Int} (h : TabOk N n K L) : LenP n L := ⟨h.2.2.1, h.2.2.2.1, fun i hi => ⟨(h.2.2.2.2 i hi).2.2.1, (h.2.2.2.2 i hi).2.2.2.1⟩⟩
theorem FtSays.no {N M B : Int} {n m : Nat} {K L : Nat → Int} (h : ¬ (n = m ∧ FitP N M B n K L)) : FtSays N M B n m K L (.returned (.bool false)) := ⟨false, rfl, fun e => (by cases e), fun e => absurd e h⟩

end Go.Proofs.Ythkcacnlinajgaa.Sz

namespace Go.Proofs.Ythkcacnlinajgaa.Ly
open Go.RowKit Go.Shelf

/-- a row that marks. -/
def mkT (i : Nat) : Int := 8000024 + (i : Int)
theorem markT_any (i : Int) (hi0 : 0 ≤ i) (hi : i ≤ 1000000000000) (w : World) :
    Calls Try.prog 95 #[.int .i64 1, .int .i64 i] w fun e w' => e = .returned (.agg #[.int .i64 (8000024 + i), .int .i64 0]) ∧ Below w.heap.size w w' := by
  have hB := (Below.refl w.heap.size w).alloc (Nat.le_refl _) (.cells #[.int .i64 (8000024 + i), .int .i64 0] 54)
  have HB := Lib.hid hB; clear hB
  go_enter Try.func95, Try.ntmps95
  go_wp2_with fail
  refine (mark_any 1 i (by omega) (by omega) hi0 hi _).mono ?_
  rintro e w' ⟨rfl, hw'⟩
  rw [hw']; clear hw'
  have e8 : (1000003 * (1 + 7) + i : Int) = 8000024 + i := by omega
  rw [e8]
  go_wp2
  exact bodyPost_ret (results_cell_row rfl _ _ w.heap.size _ _ (0, 0) _ rfl (heap_alloc_new w _) Try.underlying54 rfl (by kernel_rfl)) rfl ⟨rfl, HB.out⟩
def tK (K : Nat → Int) (n i : Nat) : Int := if i < n then K i else mkT (i - n)
def tL (L : Nat → Int) (n i : Nat) : Int := if i < n then L i else 0
theorem tdl_congr {K K' L L' : Nat → Int} : ∀ t, (∀ i, i < t → K i = K' i ∧ L i = L' i) → tdl K L t = tdl K' L' t
  | 0, _ => rfl
  | t + 1, h => by
    unfold tdl
    rw [tdl_congr t (fun i hi => h i (by omega)), (h t (by omega)).1, (h t (by omega)).2]
theorem tdl_ones (K L : Nat → Int) : ∀ t, ∀ u ∈ tdl K L t, u.oneCell' = true
  | 0, u, h => by cases h
  | t + 1, u, h => by
    unfold tdl at h
    rcases List.mem_append.1 h with h | h
    · exact tdl_ones K L t u h
    · exact int_ones _ _ u h
theorem tb_news {w : World} {a : Option Addr} {n : Nat} {K L : Nat → Int} (hT : Tb w a n K L) : ∀ ad, a = some ad → ∀ j u, (tdl K L n)[j]? = some u → w.cell? (ad.add j) = some u := fun ad e j u hj => by
  have hjn : j < n * 2 := by have := (List.getElem?_eq_some_iff.1 hj).1; rwa [tdl_len] at this
  obtain ⟨b, o, ea, h1, h2⟩ := hT.cell (j / 2) (by omega)
  obtain ⟨t1, t2⟩ := tdl_at K L n (j / 2) (by omega)
  rw [e] at ea
  cases ea
  rw [Lib.add_plain8]
  rcases Nat.mod_two_eq_zero_or_one j with hm | hm
  · have ej : j / 2 * 2 = j := by omega
    rw [ej] at t1 h1
    rw [hj] at t1
    cases t1; exact h1
  · have ej : j / 2 * 2 + 1 = j := by omega
    rw [Nat.add_assoc, ej] at h2
    rw [ej, hj] at t2
    cases t2; exact h2
end Go.Proofs.Ythkcacnlinajgaa.Ly

namespace Go.Proofs.Ythkcacnlinajgaa.Ly
open Go.RowKit Go.Shelf

end Go.Proofs.Ythkcacnlinajgaa.Ly

namespace Go.Proofs.Ythkcacnlinajgaa.Sz
open Go.RowKit Go.Shelf
open Go.Proofs.Ythkcacnlinajgaa.Ly (TabOk RowOk off off_le off_mono widI widE widI_le width_any lst Tb tdl tdl_tb step_apd int_ones cell_new2)
open Go.Proofs.Ythkcacnlinajgaa.Sp (Bad)

/-- numbers in a block of their own. -/
theorem si_at {w : World} {x n : Nat} {vs : Array Value} {h : Nat → Int} (hx : w.heap[x]? = some (.cells vs 3 (0, 0))) (hv : ∀ i, i < n → vs[i]? = some (.int .i64 (h i))) : Si w (some ⟨x, 0, none⟩) n h := ⟨fun i hi => ⟨x, 0, rfl, by
  rw [Nat.zero_add, cell_of_row w x i vs _ _ hx]; exact hv i hi⟩⟩
theorem two_c {i : Nat} (h : i < 2) : i = 0 ∨ i = 1 := by omega
def aL (i : Nat) : Int := if i = 0 then 40 else 60
def aK (x : Int) (i : Nat) : Int := if i = 0 then x else 4
theorem aw_yes : FitP 4 64 200 2 (aK 4) aL := ⟨by unfold RB; omega, ⟨by decide, by decide, by decide, by decide, fun i hi => by rcases two_c hi with rfl | rfl <;> (unfold RowOk aK aL; decide)⟩, by
  have h1 : off (aK 4) aL 2 = 25 := by decide +kernel
  have h2 : roomI 4 64 200 ((2 : Nat) : Int) = 26 := by decide +kernel
  rw [h1, h2]; decide⟩
theorem aw_no : ¬ FitP 4 64 200 2 (aK 3) aL := fun h => by
  have h1 : off (aK 3) aL 2 = 29 := by decide +kernel
  have h2 : roomI 4 64 200 ((2 : Nat) : Int) = 26 := by decide +kernel
  have := h.2.2
  rw [h1, h2] at this
  revert this; decide
theorem aw_room : roomI 4 64 200 2 = 26 := by decide +kernel

theorem OfSays.form {N : Int} {n : Nat} {K L : Nat → Int} {e : Ending} (h : OfSays N n K L e) : ∃ s E : Int, e = .returned (.tuple #[.int .i64 s, .int .i64 E]) := by
  rcases h with ⟨_, rfl⟩ | ⟨_, rfl⟩ <;> exact ⟨_, _, rfl⟩
theorem OfSays.same {N : Int} {n : Nat} {K L : Nat → Int} {e e2 : Ending} (h : OfSays N n K L e) (h2 : OfSays N n K L e2) : e2 = e := by
  rcases h with ⟨h, rfl⟩ | ⟨h, rfl⟩ <;> rcases h2 with ⟨h2, rfl⟩ | ⟨h2, rfl⟩ <;> first | rfl | exact absurd h2 h | exact absurd h h2
theorem RoomSays.form {N M B y : Int} {e : Ending} (h : RoomSays N M B y e) : ∃ s E : Int, e = .returned (.tuple #[.int .i64 s, .int .i64 E]) := by
  rcases h with ⟨_, rfl⟩ | ⟨_, rfl⟩ <;> exact ⟨_, _, rfl⟩
theorem RoomSays.same {N M B y : Int} {e e2 : Ending} (h : RoomSays N M B y e) (h2 : RoomSays N M B y e2) : e2 = e := by
  rcases h with ⟨h, rfl⟩ | ⟨h, rfl⟩ <;> rcases h2 with ⟨h2, rfl⟩ | ⟨h2, rfl⟩ <;> first | rfl | exact absurd h2 h | exact absurd h h2
theorem bool_same {v v2 : Bool} {P : Prop} (h : v = true ↔ P) (h2 : v2 = true ↔ P) : v2 = v := by
  cases v <;> cases v2 <;> simp_all
end Go.Proofs.Ythkcacnlinajgaa.Sz

namespace Go.Proofs.Ythkcacnlinajgaa.Sz
open Go.RowKit Go.Shelf
open Go.Proofs.Ythkcacnlinajgaa.Ly (TabOk RowOk off off_le off_mono widI widE widI_le width_any lst Tb tdl tdl_tb step_apd int_ones cell_new2 tK tL)
open Go.Proofs.Ythkcacnlinajgaa.Sp (Bad)
attribute [local go_sem] Oper.semAt_some

theorem Tb.cong {w : World} {a : Option Addr} {n : Nat} {K L K' L' : Nat → Int} (s : Tb w a n K L) (hK : ∀ i, i < n → K i = K' i) (hL : ∀ i, i < n → L i = L' i) : Tb w a n K' L' := ⟨fun i hi => by
  obtain ⟨b, o, e, h1, h2⟩ := s.cell i hi
  exact ⟨b, o, e, by rw [← hK i hi]; exact h1, by rw [← hL i hi]; exact h2⟩⟩
theorem blk_si {g n : Nat} {h : Nat → Int} (W : World) (q : Block W g (lentI h n 12) 3) : Si W (some ⟨g, 0, none⟩) n h := ⟨fun i hh => ⟨g, 0, rfl, by rw [Nat.zero_add]; exact q.cell (lentI_lo hh)⟩⟩

end Go.Proofs.Ythkcacnlinajgaa.Sz

namespace Go.Proofs.Ythkcacnlinajgaa.Sz
open Go.RowKit Go.Shelf
open Go.Proofs.Ythkcacnlinajgaa.Ly (TabOk RowOk off off_le off_mono widI widE widI_le widI_ok width_any lst Tb tdl tdl_tb step_apd int_ones cell_new2 NumSays lLong_any)
open Go.Proofs.Ythkcacnlinajgaa.Sp (Bad wid wid_least wid_hi)
attribute [local go_sem] Oper.semAt_some

/-- greater thresholds need no more room. -/
theorem widI_mono {L k k' : Int} (hb : ¬ Bad L k) (hk : k ≤ k') (h5 : k' ≤ 255) : widI L k' ≤ widI L k := by
  have hb' := hb
  unfold Bad at hb'
  have hb2 : ¬ Bad L k' := by unfold Bad; omega
  rw [widI_ok hb, widI_ok hb2]
  exact wid_least (by omega) (Nat.le_trans (wid_hi (show 1 ≤ k.toNat by omega)) (Nat.mul_le_mul_right _ (by omega)))
theorem off_less {N : Int} (h5 : N ≤ 255) {K K' L : Nat → Int} : ∀ n, (∀ i, i < n → RowOk N K L i) → (∀ i, i < n → K i ≤ K' i ∧ K' i ≤ N) → off K' L n ≤ off K L n
  | 0, _, _ => Nat.le_refl _
  | n + 1, hr, hk => by
    show off K' L n + widI (L n) (K' n) ≤ off K L n + widI (L n) (K n)
    have h1 := off_less h5 n (fun i hi => hr i (by omega)) (fun i hi => hk i (by omega))
    have h2 := hr n (by omega)
    have h3 := hk n (by omega)
    have h4 := widI_mono (L := L n) (k := K n) (k' := K' n) (by unfold Bad; unfold RowOk at h2; omega) h3.1 (by omega)
    omega
theorem tab_all {N : Int} {n : Nat} {K L : Nat → Int} (h : TabOk N n K L) : TabOk N n (fun _ => N) L :=
  ⟨h.1, h.2.1, h.2.2.1, h.2.2.2.1, fun i hi => by
    have := h.2.2.2.2 i hi
    have h0 := h.1
    unfold RowOk at this ⊢
    exact ⟨h0, Int.le_refl _, this.2.2.1, this.2.2.2.1, fun _ => Int.le_refl _⟩⟩
/-- if some fit, the greatest do. -/
theorem fit_all {N M B : Int} {n : Nat} {K L : Nat → Int} (h : FitP N M B n K L) : FitP N M B n (fun _ => N) L := by
  refine ⟨h.1, tab_all h.2.1, Int.le_trans ?_ h.2.2⟩
  have := off_less (N := N) (K := K) (K' := fun _ => N) (L := L) h.2.1.2.1 n h.2.1.2.2.2.2 (fun i hi => ⟨(h.2.1.2.2.2.2 i hi).2.1, Int.le_refl _⟩)
  omega

end Go.Proofs.Ythkcacnlinajgaa.Sz

namespace Go.Proofs.Ythkcacnlinajgaa.Sz
open Go.RowKit Go.Shelf
open Go.Proofs.Ythkcacnlinajgaa.Ly (TabOk RowOk off off_le off_mono widI widE widI_le widI_ok width_any lst Tb tdl tdl_tb step_apd int_ones cell_new2)
open Go.Proofs.Ythkcacnlinajgaa.Sp (Bad wid wid_least wid_hi)
attribute [local go_sem] Oper.semAt_some

theorem widI_more {L L' k k' : Int} (hb : ¬ Bad L k) (h0 : 0 ≤ L') (hL : L' ≤ L) (hk : k ≤ k') (h5 : k' ≤ 255) : widI L' k' ≤ widI L k := by
  have hb' := hb
  unfold Bad at hb'
  have hb2 : ¬ Bad L' k' := by unfold Bad; omega
  rw [widI_ok hb, widI_ok hb2]
  exact wid_least (by omega) (Nat.le_trans (show L'.toNat ≤ L.toNat by omega) (Nat.le_trans (wid_hi (show 1 ≤ k.toNat by omega)) (Nat.mul_le_mul_right _ (by omega))))
theorem off_more {N : Int} (h5 : N ≤ 255) {K K' L L' : Nat → Int} : ∀ n, (∀ i, i < n → RowOk N K L i) → (∀ i, i < n → K i ≤ K' i ∧ K' i ≤ N) → (∀ i, i < n → 0 ≤ L' i ∧ L' i ≤ L i) → off K' L' n ≤ off K L n
  | 0, _, _, _ => Nat.le_refl _
  | n + 1, hr, hk, hl => by
    show off K' L' n + widI (L' n) (K' n) ≤ off K L n + widI (L n) (K n)
    have h1 := off_more h5 n (fun i hi => hr i (by omega)) (fun i hi => hk i (by omega)) (fun i hi => hl i (by omega))
    have h2 := hr n (by omega)
    have h3 := hk n (by omega)
    have h6 := hl n (by omega)
    have h4 := widI_more (L := L n) (L' := L' n) (k := K n) (k' := K' n) (by unfold Bad; unfold RowOk at h2; omega) h6.1 h6.2 h3.1 (by omega)
    omega
/-- what fits, fits with more room, greater thresholds, shorter layers. -/
theorem fit_more {N M B M' B' : Int} {n : Nat} {K K' L L' : Nat → Int} (h : FitP N M B n K L) (hB : RB N M' B') (hM : M ≤ M') (hBB : B ≤ B') (hK : ∀ i, i < n → K i ≤ K' i ∧ K' i ≤ N) (hm : ∀ i, i < n → 0 < i → K' (i - 1) ≤ K' i) (hL : ∀ i, i < n → 0 ≤ L' i ∧ L' i ≤ L i) : FitP N M' B' n K' L' := by
  have hr := h.2.1.2.2.2.2
  refine ⟨hB, ⟨h.2.1.1, h.2.1.2.1, h.2.1.2.2.1, h.2.1.2.2.2.1, fun i hi => ?_⟩, ?_⟩
  · have h1 := hr i hi
    have h2 := hK i hi
    have h3 := hL i hi
    unfold RowOk at h1 ⊢
    exact ⟨by omega, by omega, h3.1, by omega, hm i hi⟩
  · have h1 := off_more (N := N) h.2.1.2.1 n hr hK hL
    have h2 : roomI N M B n ≤ roomI N M' B' n := by
      have h3 : B / N ≤ B' / N := Int.ediv_le_ediv (by have := h.2.1.1; omega) hBB
      unfold roomI
      omega
    have h3 := h.2.2
    omega
/-- numbers in a block that may go on behind them. -/
def Bj (w : World) (g n : Nat) (h : Nat → Int) : Prop := ∃ vs : Array Value, w.heap[g]? = some (.cells vs 3 (0, 0)) ∧ n ≤ vs.size ∧ ∀ i, i < n → vs[i]? = some (.int .i64 (h i))
theorem Bj.lt {w : World} {g n : Nat} {h : Nat → Int} (b : Bj w g n h) : g < w.heap.size := by
  obtain ⟨vs, h1, _⟩ := b
  exact (Array.getElem?_eq_some_iff.1 h1).1
theorem Bj.kept {w w' : World} {g n : Nat} {h : Nat → Int} (b : Bj w g n h) (hk : w'.heap[g]? = w.heap[g]?) : Bj w' g n h := by
  obtain ⟨vs, h1, h2⟩ := b
  exact ⟨vs, hk.trans h1, h2⟩
theorem Bj.same {w w' : World} {g n : Nat} {h : Nat → Int} (b : Bj w g n h) (hB : Below w.heap.size w w') : Bj w' g n h := b.kept (hB.block _ b.lt)
theorem Bj.cell {w : World} {g n : Nat} {h : Nat → Int} (b : Bj w g n h) {i : Nat} (hi : i < n) : w.cell? ⟨g, i, none⟩ = some (.int .i64 (h i)) := by
  obtain ⟨vs, h1, h2, h3⟩ := b
  rw [cell_of_row w g i vs _ _ h1]; exact h3 i hi
theorem Bj.free {w : World} {g n : Nat} {h : Nat → Int} (b : Bj w g n h) (i : Nat) : w.frozen? ⟨g, i, none⟩ = false := by
  obtain ⟨vs, h1, _⟩ := b
  exact frozen_of_row w g i vs _ h1
theorem Bj.set {w : World} {g n : Nat} {h : Nat → Int} (b : Bj w g n h) {j : Nat} (hj : j < n) (v : Int) : Bj (w.setCell ⟨g, j, none⟩ (.int .i64 v)) g n (fun i => if i = j then v else h i) := by
  obtain ⟨vs, h1, h2, h3⟩ := b
  refine ⟨vs.setIfInBounds j (.int .i64 v), heap_setCell_same w g j vs _ _ h1, by simpa using h2, fun i hi => ?_⟩
  rw [Array.getElem?_setIfInBounds]
  show _ = some (Value.int .i64 (if i = j then v else h i))
  by_cases e : j = i
  · subst e; rw [if_pos rfl, if_pos (by omega), if_pos rfl]
  · rw [if_neg e, if_neg (fun q => e q.symm)]; exact h3 i hi
theorem Bj.si {w : World} {g n : Nat} {h : Nat → Int} (b : Bj w g n h) : Si w (some ⟨g, 0, none⟩) n h := ⟨fun i hi => ⟨g, 0, rfl, by rw [Nat.zero_add]; exact b.cell hi⟩⟩
theorem bj_of_own {w : World} {B n c : Nat} {a : Option Addr} {h : Nat → Int} (ho : w.ownsRow B 3 1 (.slice a n c) n (inh h n)) (hn : 0 < n) : ∃ g, a = some ⟨g, 0, none⟩ ∧ B ≤ g ∧ Bj w g n h := by
  obtain ⟨hlen, ⟨e, h0⟩ | ⟨g, cap', cur, e, hg, hh, hnc, hcm, hs, ht⟩⟩ := ho
  · omega
  · simp only [Value.slice.injEq, true_and] at e
    obtain ⟨rfl, rfl⟩ := e
    refine ⟨g, rfl, hg, cur, hh, by omega, fun i hi => ?_⟩
    have : (cur.toList.take (n * 1))[i]? = some (.int .i64 (h i)) := by rw [ht]; simp [inh, hi]
    rw [List.getElem?_take, if_pos (by omega), Array.getElem?_toList] at this
    exact this
/-- the bounds that are written on. -/
def Bx (w : World) (g : Nat) (N M B : Int) : Prop := w.heap[g]? = some (.cells #[.int .i64 N, .int .i64 M, .int .i64 B] 23 (0, 0))
theorem Bx.lt {w : World} {g : Nat} {N M B : Int} (b : Bx w g N M B) : g < w.heap.size := (Array.getElem?_eq_some_iff.1 b).1
theorem Bx.same {w w' : World} {g : Nat} {N M B : Int} (b : Bx w g N M B) (hB : Below w.heap.size w w') : Bx w' g N M B := (hB.block _ b.lt).trans b
theorem Bx.c {w : World} {g : Nat} {N M B : Int} (b : Bx w g N M B) : w.cell? ⟨g, 0, none⟩ = some (.int .i64 N) ∧ w.cell? ⟨g, 1, none⟩ = some (.int .i64 M) ∧ w.cell? ⟨g, 2, none⟩ = some (.int .i64 B) := box3 b
theorem Bx.free {w : World} {g : Nat} {N M B : Int} (b : Bx w g N M B) (i : Nat) : w.frozen? ⟨g, i, none⟩ = false := frozen_of_row w g i _ _ b
theorem Bx.set1 {w : World} {g : Nat} {N M B : Int} (b : Bx w g N M B) (v : Int) : Bx (w.setCell ⟨g, 1, none⟩ (.int .i64 v)) g N v B := heap_setCell_same w g 1 _ _ _ b
theorem Bx.set2 {w : World} {g : Nat} {N M B : Int} (b : Bx w g N M B) (v : Int) : Bx (w.setCell ⟨g, 2, none⟩ (.int .i64 v)) g N M v := heap_setCell_same w g 2 _ _ _ b
theorem Bx.past {w : World} {g g' i : Nat} {N M B : Int} {v : Value} (b : Bx w g N M B) (h : g ≠ g') : Bx (w.setCell ⟨g', i, none⟩ v) g N M B := (Below.heap_setCell w ⟨g', i, none⟩ v g h).trans b

end Go.Proofs.Ythkcacnlinajgaa.Sz

namespace Go.Proofs.Ythkcacnlinajgaa.Pn
open Go.RowKit Go.Shelf
open Go.Proofs.Ythkcacnlinajgaa.Ly (RowOk)
open Go.Proofs.Ythkcacnlinajgaa.Sz (RB roomI FitP FitSays RoomSays bV fit_more)
open Go.Proofs.Ythkcacnlinajgaa.Wg (RW BoSays)
attribute [local go_sem] Oper.semAt_some

theorem fit_allN2 {N M B : Int} {n : Nat} {K L : Nat → Int} (h : FitP N M B n K L) : FitP N M B n (fun _ => N) L := by
  have hr := h.2.1.2.2.2.2
  exact fit_more h h.1 (Int.le_refl _) (Int.le_refl _) (fun i hi => ⟨by have := hr i hi; unfold RowOk at this; omega, Int.le_refl _⟩) (fun _ _ _ => Int.le_refl _) (fun i hi => ⟨by have := hr i hi; unfold RowOk at this; omega, Int.le_refl _⟩)
theorem Nr.owns {w : World} {g c B : Nat} {f : Nat → Int} (s : Nr 3 .i64 w g c f) (hg : B ≤ g) (hc : c ≤ maxLen) : w.ownsRow B 3 1 (.slice (some ⟨g, 0, none⟩) c c) c (inh f c) := by
  obtain ⟨vs, h1, h2, h3⟩ := s
  refine ⟨by unfold inh; simp, Or.inr ⟨g, c, vs, rfl, hg, h1, Nat.le_refl _, hc, by omega, ?_⟩⟩
  apply List.ext_getElem?
  intro i
  rw [Nat.mul_one, List.getElem?_take]
  by_cases hi : i < c
  · rw [if_pos hi, Array.getElem?_toList, h3 i hi]
    unfold inh
    simp [hi]
  · rw [if_neg hi, List.getElem?_eq_none (by unfold inh; simp; omega)]
set_option maxHeartbeats 8000000 in
set_option maxRecDepth 100000 in
theorem pBest : PBest := by
  intro N M B la va wa nl lc nv vc nm wc L V W h1 h2 h3 w hL hV hW
  have HL := Lib.hid hL; have HV := Lib.hid hV; have HW := Lib.hid hW
  obtain ⟨w0, hw0⟩ : ∃ w0, w0 = w.alloc (.cells #[.int .i64 N, .int .i64 M, .int .i64 B, .slice la nl lc, .slice va nv vc, .slice wa nm wc] 26) := ⟨_, rfl⟩
  have HX0 := Lib.hid (show TAt w0 w.heap.size 26 N M B la nl lc va nv vc wa nm wc from by rw [hw0]; exact heap_alloc_new _ _)
  have HB0 := Lib.hid (show Below w.heap.size w w0 from by rw [hw0]; exact (Below.refl w.heap.size w).alloc (Nat.le_refl _) _)
  have HRI := Lib.hid (fun w hL hV hW => pRight N M B la va wa nl lc nv vc nm wc L V W h1 h2 h3 w hL hV hW)
  have HCA := Lib.hid (fun w hL => Sz.can_any N M B la nl lc L h1 w hL)
  have HRO := Lib.hid (fun w => Sz.room_any N M B (nl : Nat) w)
  unfold tV at HRI ⊢
  unfold bV at HCA HRO
  have HW0 := Lib.hid hw0
  clear hL hV hW hw0
  go_enter Try.func9, Try.ntmps9
  obtain ⟨c0, c1, c2, c3, c4, c5⟩ := HX0.out.c
  rw [HW0.out] at c0 c1 c2 c3 c4 c5
  go_wp2_with fail
  clear c0 c1 c2 c3 c4 c5
  rw [← HW0.out]
  refine (HRI.out _ (HL.out.same HB0.out) (HV.out.same HB0.out) (HW.out.same HB0.out)).mono ?_
  rintro e w1 ⟨⟨v, rfl, hv⟩, hB1⟩
  have HVV := Lib.hid hv
  have HX1 := Lib.hid (HX0.out.same hB1); have HB1 := Lib.hid (HB0.out.trans (hB1.mono HB0.out.size))
  clear hv hB1 HX0 HB0 HRI HW0
  cases v
  · have HN := Lib.hid (show ¬ TR N M B nl nv nm L V W from fun h => absurd (HVV.out.2 h) (by simp))
    go_wp2
    go_ret2
    exact ⟨Or.inl ⟨HN.out, rfl⟩, HB1.out⟩
  have hT : TR N M B nl nv nm L V W := by first | exact HVV.out.1 rfl | exact HVV.out.1 trivial
  have HT := Lib.hid hT
  clear HVV
  obtain ⟨c0, c1, c2, c3, c4, c5⟩ := HX1.out.c
  clear hT
  go_wp2_with fail
  clear c0 c1 c2 c3 c4 c5
  refine (HCA.out _ (HL.out.same HB1.out)).mono ?_
  rintro e w2 ⟨⟨v, rfl, hv⟩, hB2⟩
  have HVV := Lib.hid hv
  have HX2 := Lib.hid (HX1.out.same hB2); have HB2 := Lib.hid (HB1.out.trans (hB2.mono HB1.out.size))
  clear hv hB2 HX1 HB1 HCA
  cases v
  · have HN := Lib.hid (show ∀ K, ¬ FitP N M B nl K L from fun K h => absurd (HVV.out.2 (fit_allN2 h)) (by simp))
    go_wp2
    go_ret2
    exact ⟨Or.inr (Or.inl ⟨HT.out, HN.out, rfl⟩), HB2.out⟩
  have hF : FitP N M B nl (fun _ => N) L := by first | exact HVV.out.1 rfl | exact HVV.out.1 trivial
  have hr0 : 0 ≤ roomI N M B (nl : Nat) := by have := hF.2.2; omega
  have hc0 : 0 ≤ (cel N.toNat (lys L V W 0 nl) 1 (roomI N M B (nl : Nat)).toNat).1 := by
    by_cases e : (cel N.toNat (lys L V W 0 nl) 1 (roomI N M B (nl : Nat)).toNat).1 < 0
    · exact absurd hF (plan_no HT.out (Or.inr e) _)
    · omega
  have HIB := Lib.hid (plan_yes HT.out hr0 hc0)
  clear hF HVV
  obtain ⟨c0, c1, c2, c3, c4, c5⟩ := HX2.out.c
  go_wp2_with fail
  clear c0 c1 c2 c3 c4 c5
  refine (HRO.out _).mono ?_
  rintro e w3 ⟨hro, hB3⟩
  have HX3 := Lib.hid (HX2.out.same hB3); have HB3 := Lib.hid (HB2.out.trans (hB3.mono HB2.out.size))
  clear hB3 HX2 HB2 HRO
  rcases hro with ⟨hno, _⟩ | ⟨_, rfl⟩
  · exact absurd ⟨HT.out.1, by have := HT.out.2.1; omega⟩ hno
  obtain ⟨n, rfl⟩ : ∃ n : Nat, N = (n : Int) := ⟨N.toNat, by have := HT.out.1.1; omega⟩
  obtain ⟨R, hR⟩ : ∃ R : Nat, roomI (n : Nat) M B (nl : Nat) = (R : Int) := ⟨(roomI (n : Nat) M B (nl : Nat)).toNat, by omega⟩
  have hRR : R ≤ 1999 := by
    have h := HT.out.1
    unfold RB at h
    unfold roomI at hR
    omega
  have hn : 1 ≤ n ∧ n ≤ 255 := by have := HT.out.1.1; omega
  rw [hR] at hc0 ⊢
  rw [hR, Int.toNat_natCast, Int.toNat_natCast] at HIB
  rw [Int.toNat_natCast, Int.toNat_natCast] at hc0
  obtain rfl : nv = nl := HT.out.2.2.1
  have HC0 := Lib.hid hc0
  have h8 : nv ≤ 8 := HT.out.2.1.2
  have HLA := Lib.hid (fun w hL hV hW => layers_any (n : Nat) M B la va wa nv lc vc nm wc L V W (by omega) w hL hV hW)
  have HSE := Lib.hid (fun A tb pl ql w hA => search_any (n : Nat) M B la va wa nv lc vc nm wc n R A tb pl ql L V W h8 hn.1 hn.2 hRR HT.out.2.2.2.1 (fun i hi => ⟨(HT.out.2.2.2.2 i hi).2.2.1, (HT.out.2.2.2.2 i hi).2.2.2⟩) w hA HC0.out)
  unfold tV at HLA
  obtain ⟨c0, c1, c2, c3, c4, c5⟩ := HX3.out.c
  clear hr0 hc0 hR hRR hn
  go_wp2_with fail
  go_region_with (first
    | (go_at_call 29; refine (HLA.out _ ((HL.out.same HB3.out).same (Below.refl _ w3).drew) ((HV.out.same HB3.out).same (Below.refl _ w3).drew) ((HW.out.same HB3.out).same (Below.refl _ w3).drew)).mono ?_; rintro e w4 ⟨⟨A, tb, pl, ql, rfl, hly⟩, hB4⟩; have HLY := Lib.hid hly; have HB4 := Lib.hid (((Below.refl _ w3).drew).trans hB4); have d0 := (HX3.out.same HB4.out).c.1; clear hly hB4)
    | (go_at_call 28; refine (HSE.out _ _ _ _ _ HLY.out).mono ?_; rintro e w5 ⟨⟨kb, hkb, rfl, hnr⟩, hB5⟩; have HNR := Lib.hid hnr; have HKB := Lib.hid hkb; have HB5 := Lib.hid hB5; clear hnr hkb hB5))
  all_goals
    have HBw := Lib.hid ((HB3.out.trans (HB4.out.mono HB3.out.size)).trans (HB5.out.mono (Nat.le_trans HB3.out.size HB4.out.size)))
    have HOW := Lib.hid (HNR.out.owns (B := w.heap.size) (by have := HKB.out; have := HB3.out.size; have := HB4.out.size; omega) (by unfold maxLen; omega))
    go_wp2
    go_ret2
    exact ⟨Or.inr (Or.inr ⟨HT.out, _, _, _, rfl, HIB.out, HOW.out⟩), HBw.out⟩
end Go.Proofs.Ythkcacnlinajgaa.Pn

namespace Go.Proofs.Ythkcacnlinajgaa.Pn
open Go.RowKit Go.Shelf
open Go.Proofs.Ythkcacnlinajgaa.Sz (RB roomI FitP bV)
open Go.Proofs.Ythkcacnlinajgaa.Wg (RW BoSays sc FitW ScSays hi_own)
attribute [local go_sem] Oper.semAt_some

set_option maxHeartbeats 4000000 in
set_option maxRecDepth 100000 in
theorem pScore : PScore := by
  intro N M B la va wa nl lc nv vc nm wc L V W h1 h2 h3 w hL hV hW
  have HL := Lib.hid hL; have HV := Lib.hid hV; have HW := Lib.hid hW
  obtain ⟨w0, hw0⟩ : ∃ w0, w0 = w.alloc (.cells #[.int .i64 N, .int .i64 M, .int .i64 B, .slice la nl lc, .slice va nv vc, .slice wa nm wc] 26) := ⟨_, rfl⟩
  have HX0 := Lib.hid (show TAt w0 w.heap.size 26 N M B la nl lc va nv vc wa nm wc from by rw [hw0]; exact heap_alloc_new _ _)
  have HB0 := Lib.hid (show Below w.heap.size w w0 from by rw [hw0]; exact (Below.refl w.heap.size w).alloc (Nat.le_refl _) _)
  have HBE := Lib.hid (fun w hL hV hW => pBest N M B la va wa nl lc nv vc nm wc L V W h1 h2 h3 w hL hV hW)
  unfold tV at HBE ⊢
  have HW0 := Lib.hid hw0
  clear hL hV hW hw0
  go_enter Try.func12, Try.ntmps12
  obtain ⟨c0, c1, c2, c3, c4, c5⟩ := HX0.out.c
  rw [HW0.out] at c0 c1 c2 c3 c4 c5
  go_wp2_with fail
  clear c0 c1 c2 c3 c4 c5
  rw [← HW0.out]
  refine (HBE.out _ (HL.out.same HB0.out) (HV.out.same HB0.out) (HW.out.same HB0.out)).mono ?_
  rintro e w1 ⟨hs, hB⟩
  have HB1 := Lib.hid hB
  clear hB HBE HW0
  rcases hs with ⟨hn, rfl⟩ | ⟨hT, hn, rfl⟩ | ⟨hT, a, c, K, rfl, hI, hO⟩
  · have HN := Lib.hid hn
    clear hn
    go_wp2
    go_ret2
    exact ⟨Or.inl ⟨HN.out, rfl⟩, HB0.out.trans (HB1.out.mono HB0.out.size)⟩
  · have HN := Lib.hid hn; have HT := Lib.hid hT
    clear hn hT
    go_wp2
    go_ret2
    exact ⟨Or.inr (Or.inl ⟨HT.out, HN.out, rfl⟩), HB0.out.trans (HB1.out.mono HB0.out.size)⟩
  · have HT := Lib.hid hT; have HIB := Lib.hid hI; have HO := Lib.hid hO
    clear hT hI hO
    have hX1 := HX0.out.same HB1.out
    obtain ⟨c0, c1, c2, c3, c4, c5⟩ := hX1.c
    have hBw := HB0.out.trans (HB1.out.mono HB0.out.size)
    have HBw := Lib.hid hBw
    clear hX1 hBw c0 c1 c2 c3
    go_wp2_with fail
    refine (Wg.score_any va a wa nv vc nl c nm wc V K W h2 h1 h3 _ (HV.out.same HBw.out) (hi_own HO.out).si (HW.out.same HBw.out)).mono ?_
    rintro e w2 ⟨hs, hB⟩
    have HB2 := Lib.hid (HBw.out.trans (hB.mono HBw.out.size))
    clear hB c4 c5
    rcases hs with ⟨_, rfl⟩ | ⟨hno, _⟩
    rotate_left
    · exact absurd (fit_w HT.out HIB.out.1) hno
    go_wp2
    go_ret2
    exact ⟨Or.inr (Or.inr ⟨HT.out, K, HIB.out, rfl⟩), HB2.out⟩
end Go.Proofs.Ythkcacnlinajgaa.Pn

namespace Go.Proofs.Ythkcacnlinajgaa.Pn
open Go.RowKit Go.Shelf
open Go.Proofs.Ythkcacnlinajgaa.Sz (RB roomI FitP bV box3)
open Go.Proofs.Ythkcacnlinajgaa.Wg (RW BoSays SmI sc hi_own hi_lit2 twoB threeB fourB sameInts_any)
attribute [local go_sem] Oper.semAt_some

set_option maxHeartbeats 8000000 in
set_option maxRecDepth 100000 in
theorem awake13_any (hbe : PBest) (w : World) :
    Calls Try.prog 7 #[] w fun e w' => e = .returned (.bool true) ∧ Below w.heap.size w w' := by
  have HBE := Lib.hid (fun x y (wa : Nat) (la va : Nat) w hL hV hW => hbe 4 64 200 (some ⟨la, 0, none⟩) (some ⟨va, 0, none⟩) (some ⟨wa, 0, none⟩) 2 2 2 2 5 5 (two2 x y) one2 nin (by omega) (by omega) (by omega) w hL hV hW)
  unfold tV at HBE
  obtain ⟨t1, t2, t3, t4, t5⟩ := fourB w (.cells #[.int .i64 4, .int .i64 64, .int .i64 200] 23) (.cells #[.int .i64 9, .int .i64 9, .int .i64 9, .int .i64 9, .int .i64 9] 3) (.cells #[.int .i64 40, .int .i64 60] 3) (.cells #[.int .i64 1, .int .i64 1] 3)
  have HX1 := Lib.hid t1; have HW1 := Lib.hid (hi_lit2 _ _ [9, 9, 9, 9, 9] 5 (by decide) (by decide) t2).si; have HL1 := Lib.hid (hi_lit2 _ _ [40, 60] 2 (by decide) (by decide) t3).si; have HV1 := Lib.hid (hi_lit2 _ _ [1, 1] 2 (by decide) (by decide) t4).si; have HB1 := Lib.hid t5
  obtain ⟨b0, hb0⟩ : ∃ b0, b0 = w.alloc (.cells #[.int .i64 4, .int .i64 64, .int .i64 200] 23) := ⟨_, rfl⟩
  have hbx : (w.alloc (.cells #[.int .i64 4, .int .i64 64, .int .i64 200] 23)).heap[w.heap.size]? = some (.cells #[.int .i64 4, .int .i64 64, .int .i64 200] 23 (0, 0)) := heap_alloc_new _ _
  have hbx2 := (((Below.refl (w.alloc (.cells #[.int .i64 4, .int .i64 64, .int .i64 200] 23)).heap.size (w.alloc (.cells #[.int .i64 4, .int .i64 64, .int .i64 200] 23))).alloc (Nat.le_refl _) (.cells #[.int .i64 9, .int .i64 9, .int .i64 9, .int .i64 9, .int .i64 9] 3)).block w.heap.size (by simp)).trans hbx
  obtain ⟨c0, c1, c2⟩ := box3 hbx2
  clear t1 t2 t3 t4 t5 hb0 b0 hbx hbx2
  go_enter Try.func7, Try.ntmps7
  go_wp2_with fail
  clear c0 c1 c2
  refine (HBE.out 40 60 _ _ _ _ HL1.out HV1.out HW1.out).mono ?_
  rintro e w1 ⟨hs, hB⟩
  have HXb := Lib.hid ((hB.block _ (Array.getElem?_eq_some_iff.1 HX1.out).1).trans HX1.out); have HWb := Lib.hid (HW1.out.same hB); have HBb := Lib.hid (HB1.out.trans (hB.mono HB1.out.size))
  have hsz := HBb.out.size
  clear hB HX1 HW1 HL1 HV1 HB1
  rcases hs with ⟨hno, _⟩ | ⟨_, hno, _⟩ | ⟨_, a1, ca1, K1, rfl, hI1, hO1⟩
  · exact absurd (aw_tr 40 60 (by omega) (by omega)) hno
  · exact absurd aw_best1.1 (hno _)
  have HI1 := Lib.hid (best_uniq hI1 aw_best1); have HS1 := Lib.hid (hi_own hO1).si
  clear hI1 hO1
  -- the second task
  obtain ⟨c0, c1, c2⟩ := box3 HXb.out
  obtain ⟨t1, t2, t3⟩ := twoB w1 (.cells #[.int .i64 5, .int .i64 20] 3) (.cells #[.int .i64 1, .int .i64 1] 3)
  have HL2 := Lib.hid (hi_lit2 _ _ [5, 20] 2 (by decide) (by decide) t1).si; have HV2 := Lib.hid (hi_lit2 _ _ [1, 1] 2 (by decide) (by decide) t2).si
  have HW2 := Lib.hid (HWb.out.same t3); have HS1b := Lib.hid (HS1.out.same t3); have HX2 := Lib.hid ((t3.block _ (Array.getElem?_eq_some_iff.1 HXb.out).1).trans HXb.out); have HB2 := Lib.hid (HBb.out.trans (t3.mono hsz))
  clear t1 t2 t3
  go_wp2_with fail
  clear c0 c1 c2
  refine (HBE.out 5 20 _ _ _ _ HL2.out HV2.out HW2.out).mono ?_
  rintro e w2 ⟨hs, hB⟩
  have HXc := Lib.hid ((hB.block _ (Array.getElem?_eq_some_iff.1 HX2.out).1).trans HX2.out); have HWc := Lib.hid (HW2.out.same hB); have HBc := Lib.hid (HB2.out.trans (hB.mono HB2.out.size)); have HS1c := Lib.hid (HS1b.out.same hB)
  have hsz2 := HBc.out.size
  clear hB HX2 HW2 HL2 HV2 HB2 HXb HWb HS1 HS1b HBb
  rcases hs with ⟨hno, _⟩ | ⟨_, hno, _⟩ | ⟨_, a2, ca2, K2, rfl, hI2, hO2⟩
  · exact absurd (aw_tr 5 20 (by omega) (by omega)) hno
  · exact absurd aw_best2.1 (hno _)
  have HI2 := Lib.hid (best_uniq hI2 aw_best2); have HS2 := Lib.hid (hi_own hO2).si
  clear hI2 hO2
  -- the third task
  obtain ⟨c0, c1, c2⟩ := box3 HXc.out
  obtain ⟨t1, t2, t3⟩ := twoB w2 (.cells #[.int .i64 45, .int .i64 60] 3) (.cells #[.int .i64 1, .int .i64 1] 3)
  have HL3 := Lib.hid (hi_lit2 _ _ [45, 60] 2 (by decide) (by decide) t1).si; have HV3 := Lib.hid (hi_lit2 _ _ [1, 1] 2 (by decide) (by decide) t2).si
  have HW3 := Lib.hid (HWc.out.same t3); have HS1d := Lib.hid (HS1c.out.same t3); have HS2d := Lib.hid (HS2.out.same t3); have HB3 := Lib.hid (HBc.out.trans (t3.mono hsz2))
  clear t1 t2 t3
  go_wp2_with fail
  clear c0 c1 c2
  refine (HBE.out 45 60 _ _ _ _ HL3.out HV3.out HW3.out).mono ?_
  rintro e w3 ⟨hs, hB⟩
  have HBd := Lib.hid (HB3.out.trans (hB.mono HB3.out.size)); have HS1e := Lib.hid (HS1d.out.same hB); have HS2e := Lib.hid (HS2d.out.same hB)
  have hsz3 := HBd.out.size
  clear hB HW3 HL3 HV3 HB3 HXc HWc HS1c HS1d HS2 HS2d HBc
  rcases hs with ⟨hno, _⟩ | ⟨_, _, rfl⟩ | ⟨_, a3, ca3, K3, _, hI3, _⟩
  · exact absurd (aw_tr 45 60 (by omega) (by omega)) hno
  rotate_left
  · exact absurd hI3.1 (aw_no3 _)
  -- what is told
  have hal := (Below.refl w3.heap.size w3).alloc (Nat.le_refl _) (.cells #[.int .i64 4, .int .i64 4] 3)
  have HM1 := Lib.hid (hi_lit2 _ _ [4, 4] 2 (by decide) (by decide) (heap_alloc_new w3 (.cells #[.int .i64 4, .int .i64 4] 3))).si
  have HA1 := Lib.hid (HS1e.out.same hal); have HA2 := Lib.hid (HS2e.out.same hal); have HBe := Lib.hid (HBd.out.trans (hal.mono hsz3))
  clear hal
  go_wp2_with fail
  refine (sameInts_any a1 _ 2 ca1 2 2 K1 _ (by omega) (by omega) _ HA1.out HM1.out).mono ?_
  rintro e w4 ⟨⟨v, rfl, hv⟩, hB⟩
  obtain rfl : v = true := hv.2 ⟨rfl, fun j hj => by
    rw [HI1.out j hj]
    rcases j with _ | _ | j
    · rfl
    · rfl
    · omega⟩
  have HA2b := Lib.hid (HA2.out.same hB); have HBf := Lib.hid (HBe.out.trans (hB.mono HBe.out.size))
  have hsz4 := HBf.out.size
  clear hB hv HM1 HA1 HA2 HBe
  have hal := (Below.refl w4.heap.size w4).alloc (Nat.le_refl _) (.cells #[.int .i64 1, .int .i64 1] 3)
  have HM2 := Lib.hid (hi_lit2 _ _ [1, 1] 2 (by decide) (by decide) (heap_alloc_new w4 (.cells #[.int .i64 1, .int .i64 1] 3))).si
  have HA3 := Lib.hid (HA2b.out.same hal); have HBg := Lib.hid (HBf.out.trans (hal.mono hsz4))
  clear hal
  go_wp2_with fail
  refine (sameInts_any a2 _ 2 ca2 2 2 K2 _ (by omega) (by omega) _ HA3.out HM2.out).mono ?_
  rintro e w5 ⟨⟨v, rfl, hv⟩, hB⟩
  obtain rfl : v = true := hv.2 ⟨rfl, fun j hj => by
    rw [HI2.out j hj]
    rcases j with _ | _ | j
    · rfl
    · rfl
    · omega⟩
  have HBh := Lib.hid (HBg.out.trans (hB.mono HBg.out.size))
  clear hB hv
  go_wp2
  go_ret
  exact ⟨rfl, HBh.out⟩
end Go.Proofs.Ythkcacnlinajgaa.Pn

namespace Go.Proofs.Ythkcacnlinajgaa.Pn
open Go.RowKit Go.Shelf
open Go.Proofs.Ythkcacnlinajgaa.Sz (RB roomI FitP bV)
open Go.Proofs.Ythkcacnlinajgaa.Wg (sc sc_congr)

theorem plan_em {N M B : Int} {n nv nm : Nat} {L V W : Nat → Int} (h : TR N M B n nv nm L V W) : (∀ K, ¬ FitP N M B n K L) ∨ ∃ K, IsBest N M B n L V W K := by
  by_cases h0 : roomI N M B n < 0
  · exact Or.inl (plan_no h (Or.inl h0))
  · by_cases h1 : (cel N.toNat (lys L V W 0 n) 1 (roomI N M B n).toNat).1 < 0
    · exact Or.inl (plan_no h (Or.inr h1))
    · exact Or.inr ⟨_, plan_yes h (by omega) (by omega)⟩
/-- one answer. -/
theorem best_both (N M B : Int) (nl nv nm : Nat) (L V W : Nat → Int) : ∃ (m : Nat) (E : Int) (K : Nat → Int), m ≤ 8 ∧ ∀ w e w', BsSays N M B nl nv nm L V W w e w' → ∃ a c, e = .returned (.tuple #[.slice a m c, .int .i64 E]) ∧ w'.ownsRow w.heap.size 3 1 (.slice a m c) m (inh K m) := by
  by_cases hT : TR N M B nl nv nm L V W
  · rcases plan_em hT with hno | ⟨K0, hK0⟩
    · refine ⟨0, 12, fun _ => 0, by omega, fun w e w' h => ?_⟩
      rcases h with ⟨h, _⟩ | ⟨_, _, h⟩ | ⟨_, _, _, K, _, h, _⟩
      · exact absurd hT h
      · exact ⟨none, 0, h, World.ownsRow_nil _ _ _ _⟩
      · exact absurd h.1 (hno _)
    · refine ⟨nl, 0, K0, hT.2.1.2, fun w e w' h => ?_⟩
      rcases h with ⟨h, _⟩ | ⟨_, h, _⟩ | ⟨_, a, c, K, h1, h2, h3⟩
      · exact absurd hT h
      · exact absurd hK0.1 (h _)
      · refine ⟨a, c, h1, ?_⟩
        have e : inh K nl = inh K0 nl := by
          unfold inh
          exact List.map_congr_left fun i hi => by rw [best_uniq h2 hK0 i (List.mem_range.1 hi)]
        rw [← e]; exact h3
  · refine ⟨0, 2, fun _ => 0, by omega, fun w e w' h => ?_⟩
    rcases h with ⟨_, h⟩ | ⟨h, _⟩ | ⟨h, _⟩
    · exact ⟨none, 0, h, World.ownsRow_nil _ _ _ _⟩
    · exact absurd h hT
    · exact absurd h hT
theorem score_both (N M B : Int) (nl nv nm : Nat) (L V W : Nat → Int) : ∃ (s E : Int), ∀ e, BScSays N M B nl nv nm L V W e → e = .returned (.tuple #[.int .i64 s, .int .i64 E]) := by
  by_cases hT : TR N M B nl nv nm L V W
  · rcases plan_em hT with hno | ⟨K0, hK0⟩
    · refine ⟨0, 12, fun e h => ?_⟩
      rcases h with ⟨h, _⟩ | ⟨_, _, h⟩ | ⟨_, K, h, _⟩
      · exact absurd hT h
      · exact h
      · exact absurd h.1 (hno _)
    · refine ⟨sc V K0 W nl, 0, fun e h => ?_⟩
      rcases h with ⟨h, _⟩ | ⟨_, h, _⟩ | ⟨_, K, h1, h2⟩
      · exact absurd hT h
      · exact absurd hK0.1 (h _)
      · rw [h2, sc_congr nl (best_uniq h1 hK0)]
  · refine ⟨0, 2, fun e h => ?_⟩
    rcases h with ⟨_, h⟩ | ⟨h, _⟩ | ⟨h, _⟩
    · exact h
    · exact absurd h hT
    · exact absurd h hT
/-- what is lent is a row of its own. -/
theorem lent_own {w : World} {B g n : Nat} {h : Nat → Int} (q : Block w g (lentI h n 12) 3) (hg : B ≤ g) (hn : n ≤ 1000000) : w.ownsRow B 3 1 (.slice (some ⟨g, 0, none⟩) n (n + 12)) n (Ai.rowv h n) := by
  have hl : (lentI h n 12).length = n + 12 := by unfold lentI; rw [List.length_append, inh_len, inh_len]
  refine ⟨by rw [Ai.rowv_len, Nat.mul_one], Or.inr ⟨g, n + 12, (lentI h n 12).toArray, rfl, hg, q, by omega, by unfold maxLen; omega, by simp [hl], ?_⟩⟩
  rw [Nat.mul_one]
  show (lentI h n 12).take n = Ai.rowv h n
  unfold lentI
  rw [List.take_append_of_le_length (by rw [inh_len]; exact Nat.le_refl _), List.take_of_length_le (by rw [inh_len]; exact Nat.le_refl _)]
  rfl
end Go.Proofs.Ythkcacnlinajgaa.Pn
