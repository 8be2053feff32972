import Derived.Test.YtjnfghhochcpaaaSF
import Derived.Test.YtjnfghhochcpaaaS9
namespace Go.Proofs.Ytjnfghhochcpaaa
open Go.RowKit Go.Shelf

set_option maxHeartbeats 4000000 in
set_option maxRecDepth 100000 in
theorem sumDoes_any (a : Option Addr) (n cap : Nat) (r : Nat → Option Addr) (l c : Nat → Nat) (f : Nat → Nat → Nat) (a' : Option Addr) (m cap' : Nat) (g : Nat → Nat) (st : Nat) (hst : st < 4294967296) (hn : n ≤ 140737488355328) (hl : ∀ i, i < n → l i ≤ 140737488355328) (hm : m ≤ 140737488355328) (w : World) (hR : Rd w a n cap r l c f) (hS : Sl w a' m cap' g) :
    Calls Try.prog 3 #[.slice a n cap, .slice a' m cap', .int .u32 (st : Nat)] w fun e w' => e = .returned (.bool true) ∧ Below w.heap.size w w' := by
  have HR := Lib.hid hR; have HS := Lib.hid hS; have HL := Lib.hid hl
  clear hR hS hl
  go_enter Try.func3, Try.ntmps3
  go_wp2_with fail
  refine (ssize_any a n cap r l c f hn HL.out _ HR.out).mono ?_
  rintro e w0 ⟨⟨q, rfl, hq, hqs⟩, rfl⟩
  by_cases hbig : q + m ≤ 20000
  · have j0 : ¬ (20000 : Int) < (q : Int) + (m : Int) := by omega
    obtain ⟨hn2, hl2⟩ := hqs (by omega)
    have HL2 := Lib.hid hl2; clear hl2 hqs HL hn
    go_wp2_with fail
    refine (lentRows_any a n cap r l c f (by omega) (fun i hi => by have := HL2.out i hi; omega) _ HR.out).mono ?_
    rintro e w1 ⟨pa, pc, b, rfl, hG, hLe, hB1⟩
    have HG := Lib.hid hG; have HLE := Lib.hid hLe; have HB1 := Lib.hid hB1; clear hG hLe hB1
    go_wp2_with fail
    refine (lentS_any a' m cap' g _ (HS.out.same HB1.out) (by omega)).mono ?_
    rintro e w2 ⟨rfl, hbk, hB2⟩
    have HBK := Lib.hid hbk; have HB2 := Lib.hid (HB1.out.trans (hB2.mono HB1.out.size))
    have HG2 := Lib.hid (HG.out.same hB2); have HLE2 := Lib.hid (HLE.out.same hB2)
    have hs1 := HB1.out.size
    have hz2 := hB2.size
    clear hbk hB2 HG HLE
    obtain ⟨I, hI⟩ : ∃ I, I = w1.heap.size := ⟨_, rfl⟩
    rw [← hI] at HBK hs1 ⊢
    have hI2 : I < w2.heap.size := HBK.out.lt
    clear hz2 hI
    have HSI := Lib.hid (show Sl w2 (some ⟨I, 0, none⟩) m (m + 12) g from HBK.out.bl.sl (by omega) (by unfold maxLen; omega) HS.out.bytes HS.out.up)
    go_wp2_with fail
    refine (pseal_any _ m (m + 12) g (by omega) _ HSI.out).mono ?_
    rintro e w3 ⟨g1, C, rfl, hg1, hC, hb1, hB3⟩
    have HB3 := Lib.hid (HB2.out.trans (hB3.mono HB2.out.size))
    have HG3 := Lib.hid (HG2.out.same hB3); have HLE3 := Lib.hid (HLE2.out.same hB3); have HBK3 := Lib.hid (HBK.out.same hB3); have HSI3 := Lib.hid (HSI.out.same hB3)
    have HB1' := Lib.hid hb1
    have hz3 := hB3.size
    have hlt1 := hb1.lt
    clear hb1 hB3 HG2 HLE2 HBK HSI
    go_wp2_with fail
    refine (popen_any _ m (m + 12) g (by omega) _ HSI3.out).mono ?_
    rintro e w4 ho
    obtain ⟨a4, c4, rfl, hn4, hB4⟩ := ho.out
    clear ho
    have HB4 := Lib.hid (HB3.out.trans (hB4.mono HB3.out.size))
    have HG4 := Lib.hid (HG3.out.same hB4); have HLE4 := Lib.hid (HLE3.out.same hB4); have HBK4 := Lib.hid (HBK3.out.same hB4); have HSI4 := Lib.hid (HSI3.out.same hB4); have HS1 := Lib.hid (HB1'.out.below hB4 hlt1)
    have HN4 := Lib.hid hn4
    have hz4 := hB4.size
    clear hn4 hB4 HG3 HLE3 HBK3 HSI3 HB1'
    have hno := openN_le m g
    obtain ⟨no, hno'⟩ : ∃ no, no = openN m g := ⟨_, rfl⟩
    obtain ⟨E, hE⟩ : ∃ E, E = openE m g := ⟨_, rfl⟩
    obtain ⟨fo, hfo⟩ : ∃ fo, fo = openF m g := ⟨_, rfl⟩
    have HRO := Lib.hid (fun (W : World) (hW : Below w0.heap.size w0 W) => (ropen_any a' m cap' g (by omega) W (HS.out.same hW)).mono fun e w' h => h.out)
    unfold OpenOut at HRO
    rw [← hno', ← hE, ← hfo] at HRO
    rw [← hno'] at HN4 hno ⊢
    rw [← hfo] at HN4
    rw [← hE]
    clear hno' hE hfo
    go_wp2_with fail
    refine (HRO.out _ HB4.out).mono ?_
    rintro e w5 ⟨a5, c5, rfl, hn5, hB5⟩
    have HB5 := Lib.hid (HB4.out.trans (hB5.mono HB4.out.size))
    have HG5 := Lib.hid (HG4.out.same hB5); have HLE5 := Lib.hid (HLE4.out.same hB5); have HBK5 := Lib.hid (HBK4.out.same hB5); have HSI5 := Lib.hid (HSI4.out.same hB5); have HS5 := Lib.hid (HS1.out.below hB5 HS1.out.lt); have HN45 := Lib.hid (HN4.out.below hB5)
    have HN5 := Lib.hid hn5
    clear hn5 hB5 HG4 HLE4 HBK4 HSI4 HN4 HRO
    have hz5 := HS5.out.lt
    clear hz3 hz4 HS1
    have hz0 := HB5.out.size
    have HW6 := Lib.hid (Crc.rows_lt (s := 0) (l := l) (f := f) (by omega) (fun i j => HR.out.bm i j) n)
    go_wp2_with fail
    refine (of_sum pa n pc _ l _ f (by omega) (fun i hi => by have := HL2.out i hi; omega) _ HG5.out.rd).mono ?_
    rintro e w6 ⟨rfl, hB6⟩
    have HB6 := Lib.hid hB6; clear hB6
    have HRW := Lib.hid (fun (W : World) (hW : Below w5.heap.size w5 W) => rof_any a n cap r l c f (by omega) (fun i hi => by have := HL2.out i hi; omega) W (HR.out.same (HB5.out.trans (hW.mono hz0))))
    generalize Crc.rows 0 l f n = T1 at HRW HW6 ⊢
    go_wp2_with fail
    refine (HRW.out _ HB6.out).mono ?_
    rintro e w7 ⟨rfl, rfl⟩
    go_wp2_with fail
    refine (go_sum (some ⟨I, 0, none⟩) m (m + 12) g st hst (by omega) _ (HSI5.out.same HB6.out)).mono ?_
    rintro e w8 ⟨rfl, hB8⟩
    have HB8 := Lib.hid (HB6.out.trans (hB8.mono HB6.out.size)); clear hB8
    have HRG := Lib.hid (fun (W : World) (hW : Below w5.heap.size w5 W) => rgo_any a' m cap' g st hst (by omega) W (HS.out.same (HB5.out.trans (hW.mono hz0))))
    generalize Crc.go st g m = T2 at HRG ⊢
    go_wp2_with fail
    refine (HRG.out _ HB8.out).mono ?_
    rintro e w9 ⟨rfl, rfl⟩
    go_wp2_with fail
    refine (rseal_any a' m cap' g (by omega) _ (HS.out.same (HB5.out.trans (HB8.out.mono hz0)))).mono ?_
    rintro e w10 ⟨aS, cS, rfl, hnS, hB10⟩
    have HB10 := Lib.hid (HB8.out.trans (hB10.mono HB8.out.size)); have HNS := Lib.hid hnS; clear hB10 hnS HRW HRG HW6
    go_wp2_with fail
    refine (same_any (some ⟨g1, 0, none⟩) aS (m + 4) (m + 4) cS (Crc.sealed g m) (by omega) _ ((HS5.out.below HB10.out hz5).sl2 (Nat.le_refl _) (by unfold maxLen; omega) (sealed_bytes HS.out.bytes m) (sealed_upto g m)) HNS.out.sl).mono ?_
    rintro e w11 ⟨rfl, q11, hq11⟩
    have HB11 := Lib.hid (show Below w5.heap.size w5 w11 by rw [hq11]; exact below_dr HB10.out q11)
    clear hq11 HB10 HNS
    go_wp2_with fail
    refine (same_any a4 a5 no c4 c5 fo (by omega) _ (HN45.out.below HB11.out).sl (HN5.out.below HB11.out).sl).mono ?_
    rintro e w12 ⟨rfl, q12, hq12⟩
    have HB12 := Lib.hid (show Below w5.heap.size w5 w12 by rw [hq12]; exact below_dr HB11.out q12)
    clear hq12 HB11
    go_wp2_with fail
    refine (keptRows_any pa a n pc cap _ b r l c f (by omega) (fun i hi => by have := HL2.out i hi; omega) _ (HG5.out.same HB12.out) (HLE5.out.same HB12.out) (HR.out.same (HB5.out.trans (HB12.out.mono hz0)))).mono ?_
    rintro e w13 ⟨rfl, q13, hq13⟩
    have HB13 := Lib.hid (show Below w5.heap.size w5 w13 by rw [hq13]; exact below_dr HB12.out q13)
    clear hq13 HB12
    go_wp2_with fail
    refine (keptS_any I a' m cap' g _ (HS.out.same (HB5.out.trans (HB13.out.mono hz0))) (HBK5.out.same HB13.out) (by omega)).mono ?_
    rintro e w14 ⟨rfl, q14, hq14⟩
    have HB14 := Lib.hid (show Below w5.heap.size w5 w14 by rw [hq14]; exact below_dr HB13.out q14)
    clear hq14 HB13
    have hz14 := HB14.out.size
    have HOI := Lib.hid (show Oz.OzRow w14 w0.heap.size 5 1 (.slice (some ⟨I, 0, none⟩) m (m + 12)) m (rowv g m) from ((HBK5.out.same HB14.out).bl).oz (by omega) (Nat.le_refl _) (by unfold maxLen; omega) hs1)
    have HOS := Lib.hid (show Oz.OzRow w14 w0.heap.size 5 1 (.slice (some ⟨g1, 0, none⟩) (m + 4) (m + 4)) (m + 4) (rowv (Crc.sealed g m) (m + 4)) from (HS5.out.below HB14.out hz5).oz (Nat.le_refl _) hC (by unfold maxLen; omega) (by omega))
    have HOO := Lib.hid (show Oz.OzRow w14 w0.heap.size 5 1 (.slice a4 no c4) no (rowv fo no) from ((HN45.out.below HB14.out).mono (by have := HB3.out.size; omega)).oz)
    have HSEP := Lib.hid (show Oz.Sep (of3 (some ⟨I, 0, none⟩) (some ⟨g1, 0, none⟩) a4) 3 from sep_three (Or.inr (by simp [Oz.blk]; omega))
      (Or.inr (by
        rcases HN45.out.cond with ⟨e, _⟩ | ⟨g4, e, hg4, _⟩
        · rw [e]; simp [Oz.blk]
        · rw [e]; simp [Oz.blk]; omega))
      (Or.inr (by
        rcases HN45.out.cond with ⟨e, _⟩ | ⟨g4, e, hg4, _⟩
        · rw [e]; simp [Oz.blk]
        · rw [e]; simp [Oz.blk]; omega)))
    go_wp2_with fail
    refine (Oz.apartBytes_any w0.heap.size w14.heap.size 3 3 _ _ _ _ _ (bag_three rfl HOI.out HOS.out HOO.out) HSEP.out (by simp) (by simp; omega) (Nat.le_refl _) (by omega) (by omega) (fun k => by unfold of3; (repeat' split) <;> omega)).mono ?_
    rintro e w15 ⟨rfl, hB15⟩
    have HB15 := Lib.hid ((HB5.out.trans (HB14.out.mono hz0)).alloc (by omega) (.cells #[.slice (some ⟨I, 0, none⟩) m (m + 12), .slice (some ⟨g1, 0, none⟩) (m + 4) (m + 4), .slice a4 no c4] 23) |>.trans hB15)
    clear hB15
    go_wp2_with fail
    refine (sawake_any _).mono ?_
    rintro e w16 ⟨rfl, hB16⟩
    have HB16 := Lib.hid (HB15.out.trans (hB16.mono HB15.out.size)); clear hB16
    go_wp2
    go_ret
    exact ⟨rfl, HB16.out⟩
  · have j0 : (20000 : Int) < (q : Int) + (m : Int) := by omega
    go_wp2_with fail
    refine (sawake_any _).mono ?_
    rintro e w1 ⟨rfl, hB1⟩
    have HB1 := Lib.hid hB1; clear hB1
    go_wp2
    go_ret
    exact ⟨rfl, HB1.out⟩
end Go.Proofs.Ytjnfghhochcpaaa
