import Derived.Test.YteaimecgimiicaaFd
namespace Go.Proofs.Yteaimecgimiicaa
open Go.RowKit

/-- a slice of bytes that came in, as it is opened. -/
theorem has8_of {w : World} {a : Option Addr} {len cap : Nat} {zs : List Int}
    (h : (a = none ∧ len = 0 ∧ cap = 0 ∧ zs = []) ∨
      ∃ x, a = some x ∧ len ≤ cap ∧ cap ≤ maxLen ∧ zs.length = cap ∧ (∀ i, i < zs.length → w.cell? (x.add i) = some (.int .u8 (zs.getD i 0))) ∧ ∀ n ∈ zs, (Lit.int .u8 n).wf = true) : Has8 w a len cap (zs.take len) := by
  rcases h with ⟨rfl, rfl, rfl, rfl⟩ | ⟨x, rfl, hl, hm, hz, hc, hw⟩
  · exact ⟨rfl, by omega, by omega, (fun i hi => by omega), (fun _ => ⟨rfl, rfl⟩), (fun _ h => by cases h), (fun _ h => by cases h)⟩
  · refine ⟨by simp; omega, hl, hm, (fun i hi => ?_), (fun h => by cases h), (fun ad ha hne => ?_), (fun ad ha i hi => ?_)⟩
    · have e : (zs.take len).getD i 0 = zs[i]'(by omega) := by simp [hi, show i < zs.length by omega]
      rw [e]
      have := bounds_u8 (hw _ (List.getElem_mem (show i < zs.length by omega)))
      omega
    · cases ha
      have := hc 0 (by omega)
      rw [Addr.add_zero'] at this
      simpa using World.cell?_spot this
    · cases ha
      have h0 := hc 0 (by omega)
      rw [Addr.add_zero'] at h0
      have hs : x.spot = none := by simpa using World.cell?_spot h0
      have hci := hc i (by omega)
      obtain ⟨b, off, spot⟩ := x
      simp only at hs; subst hs
      rw [Addr.add_lit] at hci
      rw [hci]
      simp [hi, show i < zs.length by omega]

/-- a lent slice reads as what was lent. -/
theorem Block.has8 {w : World} {g len : Nat} {xs : List Int} {a : Option Addr} {cap : Nat} {w0 : World} (h : Block w g (lentC xs 12) 5) (h0 : Has8 w0 a len cap xs) (hl : len ≤ 1000000000000) : Has8 w (some ⟨g, 0, none⟩) len (len + 12) xs where
  lenOk := h0.lenOk
  capOk := by omega
  maxOk := by unfold maxLen; omega
  byte := h0.byte
  nil := fun h => by cases h
  spot := fun ad ha _ => by cases ha; rfl
  cell := fun ad ha i hi => by
    cases ha
    rw [Nat.zero_add]
    exact h.cell (lentC_lo (by rw [h0.lenOk]; exact hi))

set_option maxHeartbeats 2000000 in
set_option maxRecDepth 100000 in
theorem fieldDots_any (a a' : Option Addr) (l c l' c' : Nat) (xs ys : List Int) (w : World) (h1 : Has8 w a l c xs) (h2 : Has8 w a' l' c' ys) (hc : c ≤ 140737488351232) (hc' : c' ≤ 140737488351232) :
    Calls Try.prog 4 #[.slice a l c, .slice a' l' c'] w fun e w' => e = .returned (.bool true) ∧ Below w.heap.size w w' := by
  have k1 := h1.capOk
  have k2 := h2.capOk
  have H1 := Lib.hid h1; have H2 := Lib.hid h2; clear h1 h2
  by_cases hfar : 4000 < l + l'
  · have hf' : (4000 : Int) < (l : Int) + (l' : Int) := by omega
    go_enter Try.func4, Try.ntmps4
    go_wp2_with fail
    refine (awake_any _).mono ?_
    rintro e w1 ⟨rfl, hB⟩
    have HB := Lib.hid hB; clear hB
    go_wp2
    go_ret
    exact ⟨rfl, HB.out⟩
  · have hf' : ¬ (4000 : Int) < (l : Int) + (l' : Int) := by omega
    go_enter Try.func4, Try.ntmps4
    go_wp2_with fail
    refine (lent_any a l c xs _ H1.out (by omega)).mono ?_
    rintro e w1 ⟨rfl, hx1, hB1⟩
    have HX1 := Lib.hid (show Block w1 w.heap.size (lentC xs 12) 5 from hx1); have HB1 := Lib.hid hB1; clear hx1 hB1
    go_wp2_with fail
    refine (lent_any a' l' c' ys _ (H2.out.below HB1.out) (by omega)).mono ?_
    rintro e w2 ⟨rfl, hx2, hB2⟩
    have HX2 := Lib.hid (show Block w2 w1.heap.size (lentC ys 12) 5 from hx2); have HB2 := Lib.hid hB2; clear hx2 hB2
    have HX12 := Lib.hid (HX1.out.below HB2.out HX1.out.lt)
    go_wp2_with fail
    refine (new_any _).mono ?_
    rintro e w3 ⟨rfl, hF, hB3⟩
    have HF := Lib.hid hF; have HB3 := Lib.hid hB3; clear hF hB3
    have HX13 := Lib.hid (HX12.out.below HB3.out HX12.out.lt)
    have HX23 := Lib.hid (HX2.out.below HB3.out HX2.out.lt)
    have HB13 := Lib.hid (show Below w.heap.size w w3 from (HB1.out.trans (HB2.out.mono HB1.out.size)).trans (HB3.out.mono (Nat.le_trans HB1.out.size HB2.out.size)))
    have H13 := Lib.hid (H1.out.below HB13.out)
    have H23 := Lib.hid (H2.out.below HB13.out)
    go_wp2_with fail
    refine (dot_any _ _ _ l (l + 12) l' (l' + 12) xs ys _ HF.out (HX13.out.has8 H1.out (by omega)) (HX23.out.has8 H2.out (by omega)) (by omega) (by omega)).mono ?_
    rintro e w' ⟨rfl, q, rfl⟩
    by_cases hll : l = l'
    · rw [if_pos hll]
      have HL := Lib.hid hll; clear hll
      go_wp2_with fail
      refine (rdot_any a a' l c l' c' xs ys _ (H13.out.drewN q) (H23.out.drewN q) (by omega) (by omega)).mono ?_
      rintro e w' ⟨rfl, q2, rfl⟩
      rw [if_pos HL.out]
      go_wp2_with fail
      refine (kept_any _ a l c xs _ (H13.out.drewN _) HX13.out (by omega)).mono ?_
      rintro e w' ⟨rfl, q3, rfl⟩
      go_wp2_with fail
      refine (kept_any _ a' l' c' ys _ (H23.out.drewN _) HX23.out (by omega)).mono ?_
      rintro e w' ⟨rfl, q4, rfl⟩
      go_wp2_with fail
      refine (awake_any _).mono ?_
      rintro e w5 ⟨rfl, hB5⟩
      have HB5 := Lib.hid hB5; clear hB5
      go_wp2
      go_ret
      exact ⟨rfl, (below_drewN HB13.out _).trans (HB5.out.mono HB13.out.size)⟩
    · rw [if_neg hll]
      have HL := Lib.hid hll; clear hll
      go_wp2_with fail
      refine (rdot_any a a' l c l' c' xs ys _ (H13.out.drewN q) (H23.out.drewN q) (by omega) (by omega)).mono ?_
      rintro e w' ⟨rfl, q2, rfl⟩
      rw [if_neg HL.out]
      go_wp2_with fail
      refine (kept_any _ a l c xs _ (H13.out.drewN _) HX13.out (by omega)).mono ?_
      rintro e w' ⟨rfl, q3, rfl⟩
      go_wp2_with fail
      refine (kept_any _ a' l' c' ys _ (H23.out.drewN _) HX23.out (by omega)).mono ?_
      rintro e w' ⟨rfl, q4, rfl⟩
      go_wp2_with fail
      refine (awake_any _).mono ?_
      rintro e w5 ⟨rfl, hB5⟩
      have HB5 := Lib.hid hB5; clear hB5
      go_wp2
      go_ret
      exact ⟨rfl, (below_drewN HB13.out _).trans (HB5.out.mono HB13.out.size)⟩
end Go.Proofs.Yteaimecgimiicaa
