import Derived.Deep.RegionLaw
import Derived.Lib.QuietBelow
import Derived.BigQuiet
import Derived.Deep.RegionHeld3
import Derived.Test.YtkejabhjlflknaaGreatMg29
import Derived.Test.YtkejabhjlflknaaGreatMg36
import Derived.Test.YtkejabhjlflknaaGreatMg43
import Derived.Test.YtkejabhjlflknaaGreatMg44
namespace Go.Proofs.YtkejabhjlflknaaGreat.Ly
open Go.RowKit Go.Shelf
open Go.Proofs.YtkejabhjlflknaaGreat.Sp (Bad wid)

set_option maxHeartbeats 8000000 in
set_option maxRecDepth 100000 in
/-- what comes ahead of the document's bodies: the table of rows, whether it is one. -/
theorem rbodies_no (N : Int) (la ka : Option Addr) (m lc n kc : Nat) (K : Nat → Int) (r : Nat → Option Addr) (l c : Nat → Nat) (f : Nat → Nat → Nat) (hn : n ≤ 300) (hb : BodBad N m n K l) (w : World) (hR : Rd w la m lc r l c f) (hS : Si w ka n K) :
    Calls Tryz.prog 11 #[.int .i64 N, .slice la m lc, .slice ka n kc] w fun e w' => e = .returned (.tuple #[.slice none 0 0, .int .i64 2]) ∧ Below w.heap.size w w' := by
  have HR := Lib.hid hR; have HS := Lib.hid hS; clear hR hS
  by_cases hmn : m = n
  case neg =>
    have i1 : ((m : Int) != (n : Int)) = true := by simp; omega
    clear hb
    go_enter Tryz.func11, Tryz.ntmps11
    go_wp2
    go_ret2
    exact ⟨rfl, Below.refl _ _⟩
  subst hmn
  have hT : ¬ TabOk N m K (fun i => ((l i : Nat) : Int)) := by
    rcases hb with h | h
    · exact absurd rfl h
    · exact h
  have HT := Lib.hid hT
  clear hb hT
  have hne : ((m : Int) != (m : Int)) = false := by simp
  obtain ⟨i0, hi, hz0, hz1, hz2⟩ := info_parts Tryz.infoTRow
  have HI := Lib.hid hi; have HZ0 := Lib.hid hz0; have HZ1 := Lib.hid hz1; have HZ2 := Lib.hid hz2
  clear hi hz0 hz1 hz2
  go_enter Tryz.func11, Tryz.ntmps11
  go_wp2_with fail
  go_loopw [8, 9] (fun o i wr => ∃ (k : Nat) (ta : Option Addr) (tc : Nat) (W : World), W = wr ∧ k ≤ m ∧ i = .int .i64 k ∧ o = .slice ta k tc ∧ wr.ownsRow w.heap.size 48 2 (.slice ta k tc) k (tdl K (fun i => ((l i : Nat) : Int)) k) ∧ Below w.heap.size w wr) (fun _ i _ => m - (intOf i).toNat)
  case atStart => exact ⟨0, none, 0, _, rfl, by omega, rfl, rfl, World.ownsRow_nil _ _ _ _, Below.refl _ _⟩
  case round =>
    obtain ⟨k, ta, tc, wx, rfl, hk, rfl, rfl, hO, hB⟩ := hrel
    have HO := Lib.hid hO; have HB := Lib.hid hB
    have hsz := hB.size
    clear hO hB
    by_cases hkm : k < m
    · have i1 : (k : Int) < (m : Int) := by omega
      obtain ⟨kb, ko, eka, c1⟩ := HS.out.cell k hkm
      obtain ⟨lb, lo, ela, c2⟩ := HR.out.at_ hkm
      have EKA := Lib.hid (show ka = some ⟨kb, ko, none⟩ from eka); have ELA := Lib.hid (show la = some ⟨lb, lo, none⟩ from ela)
      subst eka ela
      have hcK : ∀ W, Below w.heap.size w W → W.cell? ⟨kb, ko + k, none⟩ = some (.int .i64 (K k)) := fun W hW => by rw [hW.cell (World.block_lt_of_cell? _ _ c1)]; exact c1
      have hcL : ∀ W, Below w.heap.size w W → W.cell? ⟨lb, lo + k, none⟩ = some (.slice (r k) (l k) (c k)) := fun W hW => by rw [hW.cell (World.block_lt_of_cell? _ _ c2)]; exact c2
      have HCK := Lib.hid hcK; have HCL := Lib.hid hcL
      have hal : ∀ W0, Below wx.heap.size wx W0 → Below wx.heap.size wx (W0.alloc (.cells #[.int .i64 (K k), .int .i64 (l k : Nat)] 48)) := fun W0 hb0 => hb0.trans (((Below.refl _ W0).alloc (Nat.le_refl _) _).mono hb0.size)
      have hdr : Below wx.heap.size wx wx.drew := (Below.refl _ wx).drew
      have hA := hal _ hdr
      have hbb : w.heap.size ≤ (wx.drew.alloc (.cells #[.int .i64 (K k), .int .i64 (l k : Nat)] 48)).heap.size := Nat.le_trans hsz hA.size
      have HOW := Lib.hid (own_below HO.out hA); have HAL := Lib.hid hA; have HBB := Lib.hid hbb
      clear c1 c2 hcK hcL hal hA hbb
      go_wp2_with fail
      refine AnyU.start (S := fun X => Below w.heap.size w X) (z := 13) (by kernel_rfl) (HB.out.trans (hdr.mono hsz)) (fun hHeld => ?_)
      clear hdr
      refine AnyU.take (i := 0) (p := 0) (oi := ⟨some 30, _, _, _, _, none⟩) (v := (.slice ta k tc)) rfl (by kernel_rfl) (Or.inl rfl) (by kernel_rfl) (by kernel_rfl) (by kernel_rfl) (by kernel_rfl) (fun _ _ _ h => h) (Or.inl ⟨by rfl, fun W hW => ?_⟩) (by assumption) ?_
      · go_simp
      simp only [Act.put, List.setIfInBounds_toArray, List.set_cons_zero, List.set_cons_succ]
      refine AnyU.take (i := 1) (p := 1) (oi := ⟨some 31, _, _, _, _, none⟩) (v := (.slice (some ⟨kb, ko, none⟩) m kc)) rfl (by kernel_rfl) (Or.inl rfl) (by kernel_rfl) (by kernel_rfl) (by kernel_rfl) (by kernel_rfl) (fun _ _ _ h => h) (Or.inl ⟨by rfl, fun W hW => ?_⟩) (by assumption) ?_
      · go_simp
      simp only [Act.put, List.setIfInBounds_toArray, List.set_cons_zero, List.set_cons_succ]
      refine AnyU.take (i := 2) (p := 2) (oi := ⟨some 32, _, _, _, _, none⟩) (v := (.int .i64 (k : Nat))) rfl (by kernel_rfl) (Or.inl rfl) (by kernel_rfl) (by kernel_rfl) (by kernel_rfl) (by kernel_rfl) (fun _ _ _ h => h) (Or.inl ⟨by rfl, fun W hW => ?_⟩) (by assumption) ?_
      · go_simp
      simp only [Act.put, List.setIfInBounds_toArray, List.set_cons_zero, List.set_cons_succ]
      refine AnyU.take (i := 3) (p := 3) (oi := ⟨some 33, _, _, _, _, none⟩) (v := (.pointer (some ⟨kb, ko + k, none⟩))) rfl (by kernel_rfl) (Or.inl rfl) (by kernel_rfl) (by kernel_rfl) (by kernel_rfl) (by kernel_rfl) (fun _ _ _ h => h) (Or.inl ⟨by rfl, fun W hW => ?_⟩) (by assumption) ?_
      · go_simp
      simp only [Act.put, List.setIfInBounds_toArray, List.set_cons_zero, List.set_cons_succ]
      refine AnyU.take (i := 4) (p := 4) (oi := ⟨some 34, _, _, _, _, none⟩) (v := (.int .i64 (K k))) rfl (by kernel_rfl) (Or.inl rfl) (by kernel_rfl) (by kernel_rfl) (by kernel_rfl) (by kernel_rfl) (fun _ _ _ h => h) (Or.inl ⟨by rfl, fun W hW => ?_⟩) (by assumption) ?_
      · (have c1 := HCK.out W hW; go_simp)
      simp only [Act.put, List.setIfInBounds_toArray, List.set_cons_zero, List.set_cons_succ]
      refine AnyU.take (i := 5) (p := 5) (oi := ⟨some 35, _, _, _, _, none⟩) (v := (.slice (some ⟨lb, lo, none⟩) m lc)) rfl (by kernel_rfl) (Or.inl rfl) (by kernel_rfl) (by kernel_rfl) (by kernel_rfl) (by kernel_rfl) (fun _ _ _ h => h) (Or.inl ⟨by rfl, fun W hW => ?_⟩) (by assumption) ?_
      · go_simp
      simp only [Act.put, List.setIfInBounds_toArray, List.set_cons_zero, List.set_cons_succ]
      refine AnyU.take (i := 6) (p := 6) (oi := ⟨some 36, _, _, _, _, none⟩) (v := (.int .i64 (k : Nat))) rfl (by kernel_rfl) (Or.inl rfl) (by kernel_rfl) (by kernel_rfl) (by kernel_rfl) (by kernel_rfl) (fun _ _ _ h => h) (Or.inl ⟨by rfl, fun W hW => ?_⟩) (by assumption) ?_
      · go_simp
      simp only [Act.put, List.setIfInBounds_toArray, List.set_cons_zero, List.set_cons_succ]
      refine AnyU.take (i := 7) (p := 7) (oi := ⟨some 37, _, _, _, _, none⟩) (v := (.pointer (some ⟨lb, lo + k, none⟩))) rfl (by kernel_rfl) (Or.inl rfl) (by kernel_rfl) (by kernel_rfl) (by kernel_rfl) (by kernel_rfl) (fun _ _ _ h => h) (Or.inl ⟨by rfl, fun W hW => ?_⟩) (by assumption) ?_
      · go_simp
      simp only [Act.put, List.setIfInBounds_toArray, List.set_cons_zero, List.set_cons_succ]
      refine AnyU.take (i := 8) (p := 8) (oi := ⟨some 38, _, _, _, _, none⟩) (v := (.slice (r k) (l k) (c k))) rfl (by kernel_rfl) (Or.inl rfl) (by kernel_rfl) (by kernel_rfl) (by kernel_rfl) (by kernel_rfl) (fun _ _ _ h => h) (Or.inl ⟨by rfl, fun W hW => ?_⟩) (by assumption) ?_
      · (have c2 := HCL.out W hW; go_simp)
      simp only [Act.put, List.setIfInBounds_toArray, List.set_cons_zero, List.set_cons_succ]
      refine AnyU.take (i := 9) (p := 9) (oi := ⟨some 39, _, _, _, _, none⟩) (v := (.int .i64 (l k : Nat))) rfl (by kernel_rfl) (Or.inl rfl) (by kernel_rfl) (by kernel_rfl) (by kernel_rfl) (by kernel_rfl) (fun _ _ _ h => h) (Or.inl ⟨by rfl, fun W hW => ?_⟩) (by assumption) ?_
      · go_simp
      simp only [Act.put, List.setIfInBounds_toArray, List.set_cons_zero, List.set_cons_succ]
      refine AnyU.take (i := 10) (p := 10) (oi := ⟨some 40, _, _, _, _, none⟩) (v := (.agg #[.int .i64 (K k), .int .i64 (l k : Nat)])) rfl (by kernel_rfl) (Or.inl rfl) (by kernel_rfl) (by kernel_rfl) (by kernel_rfl) (by kernel_rfl) (fun _ _ _ h => h) (Or.inl ⟨by rfl, fun W hW => ?_⟩) (by assumption) ?_
      · go_simp
      simp only [Act.put, List.setIfInBounds_toArray, List.set_cons_zero, List.set_cons_succ]
      refine AnyU.ready (rs := [11]) (by kernel_rfl) (by simp) (EachU.cons rfl (fun KK hKK => ?_) EachU.nil)
      go_simp
      refine hKK.out _ _ (fun _ => HB.out.trans (HAL.out.mono hsz)) (fun hHeld => ?_)
      clear hKK KK
      have hHeld := hHeld (by decide)
      try simp only [Act.put, List.setIfInBounds_toArray, List.set_cons_zero, List.set_cons_succ]
      refine AnyU.ready (rs := [12]) (by kernel_rfl) (by simp) (EachU.cons rfl (fun KK hKK => ?_) EachU.nil)
      refine step_apd rfl (.tmp 30) (.tmp 41) 36 rfl w.heap.size 48 i0 (.agg #[.int .i64 0, .int .i64 0]) 2 16 Tryz.underlying36 HI.out HZ0.out HZ1.out HZ2.out rfl (by decide) (.slice ta k tc) k _ rfl HOW.out ⟨wx.heap.size, 0, none⟩ 1 1 [.int .i64 (K k), .int .i64 (l k : Nat)] rfl rfl (cell_new2 wx.drew _ _ 48) (int_ones _ _) (by unfold maxLen; omega) (by omega) HBB.out ?_
      intro v6 w6 hown6 hgrow6
      obtain ⟨g6, c6, rfl⟩ := own_slice hown6
      have hb6 : Below w.heap.size w w6 := HB.out.trans ((HAL.out.mono hsz).trans ((Below.refl w.heap.size _).grown hgrow6 HBB.out (fun k e => (HOW.out.lt k e).1)))
      have HOWN6 := Lib.hid hown6; have HB6 := Lib.hid hb6
      clear hown6 hgrow6 hb6
      refine hKK.out _ _ (fun _ => HB6.out) (fun hHeld => ?_)
      clear hKK KK
      have hHeld := hHeld (by decide)
      try simp only [Act.put, List.setIfInBounds_toArray]
      refine AnyU.ready (rs := [13]) (by kernel_rfl) (by simp) (EachU.cons rfl (fun KK hKK => ?_) EachU.nil)
      go_simp
      refine hKK.out _ _ (fun h => absurd rfl h) (fun hHeld => ?_)
      clear hKK KK
      try simp only [Act.put, List.setIfInBounds_toArray, List.set_cons_zero, List.set_cons_succ]
      refine AnyU.done (by kernel_rfl) ?_ _
      clear hHeld
      go_wp2
      go_roundw
      case rel => exact ⟨k + 1, _, c6, _, rfl, by omega, by go_num, rfl, HOWN6.out, HB6.out⟩
      case measure => simp [intOf]; omega
    · obtain rfl : k = m := by omega
      have i1 : ¬ (k : Int) < (k : Int) := by omega
      have HTb := Lib.hid (tdl_tb HO.out).1
      go_wp2_with fail
      refine (rRight_any N ta k tc K _ _ HTb.out).mono ?_
      rintro e w7 ⟨⟨v, rfl, hv⟩, q, hq⟩
      obtain rfl : v = false := by
        have h := HT.out
        cases v <;> simp_all
      have hB7 := HB.out.trans ((below_drewN (Below.refl _ _) q).mono HB.out.size)
      rw [← hq] at hB7
      have HB7 := Lib.hid hB7
      clear hv hq hB7
      go_wp2
      go_ret2
      exact ⟨rfl, HB7.out⟩
end Go.Proofs.YtkejabhjlflknaaGreat.Ly

namespace Go.Proofs.YtkejabhjlflknaaGreat.Ly
open Go.RowKit Go.Shelf
open Go.Proofs.YtkejabhjlflknaaGreat.Sp (Bad wid crow)

theorem Ob.made (w : World) (N : Nat) {B : Nat} (hB : B ≤ w.heap.size) : Ob (w.alloc (.cells (madeCells #[.slice none 0 0] N) 50)) B w.heap.size N (fun _ => none) (fun _ => 0) (fun _ => 0) (fun _ _ => 0) :=
  ⟨⟨_, heap_alloc_new w _, by simp [madeCells], fun i hi => by simp [madeCells, hi, show i % 1 = 0 by omega]⟩, hB, fun i _ => Or.inl ⟨rfl, rfl, rfl⟩, fun i j _ _ k e => by cases e⟩
set_option maxHeartbeats 8000000 in
set_option maxRecDepth 100000 in
theorem rbodies_yes (N : Nat) (la ka : Option Addr) (lc m kc : Nat) (K : Nat → Int) (r : Nat → Option Addr) (l c : Nat → Nat) (f : Nat → Nat → Nat) (hT : TabOk (N : Int) m K (fun i => ((l i : Nat) : Int))) (w : World) (hR : Rd w la m lc r l c f) (hS : Si w ka m K) :
    Calls Tryz.prog 11 #[.int .i64 (N : Nat), .slice la m lc, .slice ka m kc] w fun e w' => ∃ G r' c', e = .returned (.tuple #[.slice (some ⟨G, 0, none⟩) N N, .int .i64 0]) ∧
      Ob w' w.heap.size G N r' (fun _ => off K (fun i => ((l i : Nat) : Int)) m) c' (bodyF N K l f m) ∧ Below w.heap.size w w' := by
  have HR := Lib.hid hR; have HS := Lib.hid hS; clear hR hS
  have hN1 := hT.1
  have hN2 : N ≤ 255 := by have := hT.2.1; omega
  have hn := hT.2.2.2.1
  have HT := Lib.hid hT
  clear hT
  have hne : ((m : Int) != (m : Int)) = false := by simp
  obtain ⟨i0, hi, hz0, hz1, hz2⟩ := info_parts Tryz.infoTRow
  have HI := Lib.hid hi; have HZ0 := Lib.hid hz0; have HZ1 := Lib.hid hz1; have HZ2 := Lib.hid hz2
  clear hi hz0 hz1 hz2
  go_enter Tryz.func11, Tryz.ntmps11
  go_wp2_with fail
  go_loopw [8, 9] (fun o i wr => ∃ (k : Nat) (ta : Option Addr) (tc : Nat) (W : World), W = wr ∧ k ≤ m ∧ i = .int .i64 k ∧ o = .slice ta k tc ∧ wr.ownsRow w.heap.size 48 2 (.slice ta k tc) k (tdl K (fun i => ((l i : Nat) : Int)) k) ∧ Below w.heap.size w wr) (fun _ i _ => m - (intOf i).toNat)
  case atStart => exact ⟨0, none, 0, _, rfl, by omega, rfl, rfl, World.ownsRow_nil _ _ _ _, Below.refl _ _⟩
  case round =>
    obtain ⟨k, ta, tc, wx, rfl, hk, rfl, rfl, hO, hB⟩ := hrel
    have HO := Lib.hid hO; have HB := Lib.hid hB
    have hsz := hB.size
    clear hO hB
    by_cases hkm : k < m
    · have i1 : (k : Int) < (m : Int) := by omega
      obtain ⟨kb, ko, eka, c1⟩ := HS.out.cell k hkm
      obtain ⟨lb, lo, ela, c2⟩ := HR.out.at_ hkm
      have EKA := Lib.hid (show ka = some ⟨kb, ko, none⟩ from eka); have ELA := Lib.hid (show la = some ⟨lb, lo, none⟩ from ela)
      subst eka ela
      have hcK : ∀ W, Below w.heap.size w W → W.cell? ⟨kb, ko + k, none⟩ = some (.int .i64 (K k)) := fun W hW => by rw [hW.cell (World.block_lt_of_cell? _ _ c1)]; exact c1
      have hcL : ∀ W, Below w.heap.size w W → W.cell? ⟨lb, lo + k, none⟩ = some (.slice (r k) (l k) (c k)) := fun W hW => by rw [hW.cell (World.block_lt_of_cell? _ _ c2)]; exact c2
      have HCK := Lib.hid hcK; have HCL := Lib.hid hcL
      have hal : ∀ W0, Below wx.heap.size wx W0 → Below wx.heap.size wx (W0.alloc (.cells #[.int .i64 (K k), .int .i64 (l k : Nat)] 48)) := fun W0 hb0 => hb0.trans (((Below.refl _ W0).alloc (Nat.le_refl _) _).mono hb0.size)
      have hdr : Below wx.heap.size wx wx.drew := (Below.refl _ wx).drew
      have hA := hal _ hdr
      have hbb : w.heap.size ≤ (wx.drew.alloc (.cells #[.int .i64 (K k), .int .i64 (l k : Nat)] 48)).heap.size := Nat.le_trans hsz hA.size
      have HOW := Lib.hid (own_below HO.out hA); have HAL := Lib.hid hA; have HBB := Lib.hid hbb
      clear c1 c2 hcK hcL hal hA hbb
      go_wp2_with fail
      refine AnyU.start (S := fun X => Below w.heap.size w X) (z := 13) (by kernel_rfl) (HB.out.trans (hdr.mono hsz)) (fun hHeld => ?_)
      clear hdr
      refine AnyU.take (i := 0) (p := 0) (oi := ⟨some 30, _, _, _, _, none⟩) (v := (.slice ta k tc)) rfl (by kernel_rfl) (Or.inl rfl) (by kernel_rfl) (by kernel_rfl) (by kernel_rfl) (by kernel_rfl) (fun _ _ _ h => h) (Or.inl ⟨by rfl, fun W hW => ?_⟩) (by assumption) ?_
      · go_simp
      simp only [Act.put, List.setIfInBounds_toArray, List.set_cons_zero, List.set_cons_succ]
      refine AnyU.take (i := 1) (p := 1) (oi := ⟨some 31, _, _, _, _, none⟩) (v := (.slice (some ⟨kb, ko, none⟩) m kc)) rfl (by kernel_rfl) (Or.inl rfl) (by kernel_rfl) (by kernel_rfl) (by kernel_rfl) (by kernel_rfl) (fun _ _ _ h => h) (Or.inl ⟨by rfl, fun W hW => ?_⟩) (by assumption) ?_
      · go_simp
      simp only [Act.put, List.setIfInBounds_toArray, List.set_cons_zero, List.set_cons_succ]
      refine AnyU.take (i := 2) (p := 2) (oi := ⟨some 32, _, _, _, _, none⟩) (v := (.int .i64 (k : Nat))) rfl (by kernel_rfl) (Or.inl rfl) (by kernel_rfl) (by kernel_rfl) (by kernel_rfl) (by kernel_rfl) (fun _ _ _ h => h) (Or.inl ⟨by rfl, fun W hW => ?_⟩) (by assumption) ?_
      · go_simp
      simp only [Act.put, List.setIfInBounds_toArray, List.set_cons_zero, List.set_cons_succ]
      refine AnyU.take (i := 3) (p := 3) (oi := ⟨some 33, _, _, _, _, none⟩) (v := (.pointer (some ⟨kb, ko + k, none⟩))) rfl (by kernel_rfl) (Or.inl rfl) (by kernel_rfl) (by kernel_rfl) (by kernel_rfl) (by kernel_rfl) (fun _ _ _ h => h) (Or.inl ⟨by rfl, fun W hW => ?_⟩) (by assumption) ?_
      · go_simp
      simp only [Act.put, List.setIfInBounds_toArray, List.set_cons_zero, List.set_cons_succ]
      refine AnyU.take (i := 4) (p := 4) (oi := ⟨some 34, _, _, _, _, none⟩) (v := (.int .i64 (K k))) rfl (by kernel_rfl) (Or.inl rfl) (by kernel_rfl) (by kernel_rfl) (by kernel_rfl) (by kernel_rfl) (fun _ _ _ h => h) (Or.inl ⟨by rfl, fun W hW => ?_⟩) (by assumption) ?_
      · (have c1 := HCK.out W hW; go_simp)
      simp only [Act.put, List.setIfInBounds_toArray, List.set_cons_zero, List.set_cons_succ]
      refine AnyU.take (i := 5) (p := 5) (oi := ⟨some 35, _, _, _, _, none⟩) (v := (.slice (some ⟨lb, lo, none⟩) m lc)) rfl (by kernel_rfl) (Or.inl rfl) (by kernel_rfl) (by kernel_rfl) (by kernel_rfl) (by kernel_rfl) (fun _ _ _ h => h) (Or.inl ⟨by rfl, fun W hW => ?_⟩) (by assumption) ?_
      · go_simp
      simp only [Act.put, List.setIfInBounds_toArray, List.set_cons_zero, List.set_cons_succ]
      refine AnyU.take (i := 6) (p := 6) (oi := ⟨some 36, _, _, _, _, none⟩) (v := (.int .i64 (k : Nat))) rfl (by kernel_rfl) (Or.inl rfl) (by kernel_rfl) (by kernel_rfl) (by kernel_rfl) (by kernel_rfl) (fun _ _ _ h => h) (Or.inl ⟨by rfl, fun W hW => ?_⟩) (by assumption) ?_
      · go_simp
      simp only [Act.put, List.setIfInBounds_toArray, List.set_cons_zero, List.set_cons_succ]
      refine AnyU.take (i := 7) (p := 7) (oi := ⟨some 37, _, _, _, _, none⟩) (v := (.pointer (some ⟨lb, lo + k, none⟩))) rfl (by kernel_rfl) (Or.inl rfl) (by kernel_rfl) (by kernel_rfl) (by kernel_rfl) (by kernel_rfl) (fun _ _ _ h => h) (Or.inl ⟨by rfl, fun W hW => ?_⟩) (by assumption) ?_
      · go_simp
      simp only [Act.put, List.setIfInBounds_toArray, List.set_cons_zero, List.set_cons_succ]
      refine AnyU.take (i := 8) (p := 8) (oi := ⟨some 38, _, _, _, _, none⟩) (v := (.slice (r k) (l k) (c k))) rfl (by kernel_rfl) (Or.inl rfl) (by kernel_rfl) (by kernel_rfl) (by kernel_rfl) (by kernel_rfl) (fun _ _ _ h => h) (Or.inl ⟨by rfl, fun W hW => ?_⟩) (by assumption) ?_
      · (have c2 := HCL.out W hW; go_simp)
      simp only [Act.put, List.setIfInBounds_toArray, List.set_cons_zero, List.set_cons_succ]
      refine AnyU.take (i := 9) (p := 9) (oi := ⟨some 39, _, _, _, _, none⟩) (v := (.int .i64 (l k : Nat))) rfl (by kernel_rfl) (Or.inl rfl) (by kernel_rfl) (by kernel_rfl) (by kernel_rfl) (by kernel_rfl) (fun _ _ _ h => h) (Or.inl ⟨by rfl, fun W hW => ?_⟩) (by assumption) ?_
      · go_simp
      simp only [Act.put, List.setIfInBounds_toArray, List.set_cons_zero, List.set_cons_succ]
      refine AnyU.take (i := 10) (p := 10) (oi := ⟨some 40, _, _, _, _, none⟩) (v := (.agg #[.int .i64 (K k), .int .i64 (l k : Nat)])) rfl (by kernel_rfl) (Or.inl rfl) (by kernel_rfl) (by kernel_rfl) (by kernel_rfl) (by kernel_rfl) (fun _ _ _ h => h) (Or.inl ⟨by rfl, fun W hW => ?_⟩) (by assumption) ?_
      · go_simp
      simp only [Act.put, List.setIfInBounds_toArray, List.set_cons_zero, List.set_cons_succ]
      refine AnyU.ready (rs := [11]) (by kernel_rfl) (by simp) (EachU.cons rfl (fun KK hKK => ?_) EachU.nil)
      go_simp
      refine hKK.out _ _ (fun _ => HB.out.trans (HAL.out.mono hsz)) (fun hHeld => ?_)
      clear hKK KK
      have hHeld := hHeld (by decide)
      try simp only [Act.put, List.setIfInBounds_toArray, List.set_cons_zero, List.set_cons_succ]
      refine AnyU.ready (rs := [12]) (by kernel_rfl) (by simp) (EachU.cons rfl (fun KK hKK => ?_) EachU.nil)
      refine step_apd rfl (.tmp 30) (.tmp 41) 36 rfl w.heap.size 48 i0 (.agg #[.int .i64 0, .int .i64 0]) 2 16 Tryz.underlying36 HI.out HZ0.out HZ1.out HZ2.out rfl (by decide) (.slice ta k tc) k _ rfl HOW.out ⟨wx.heap.size, 0, none⟩ 1 1 [.int .i64 (K k), .int .i64 (l k : Nat)] rfl rfl (cell_new2 wx.drew _ _ 48) (int_ones _ _) (by unfold maxLen; omega) (by omega) HBB.out ?_
      intro v6 w6 hown6 hgrow6
      obtain ⟨g6, c6, rfl⟩ := own_slice hown6
      have hb6 : Below w.heap.size w w6 := HB.out.trans ((HAL.out.mono hsz).trans ((Below.refl w.heap.size _).grown hgrow6 HBB.out (fun k e => (HOW.out.lt k e).1)))
      have HOWN6 := Lib.hid hown6; have HB6 := Lib.hid hb6
      clear hown6 hgrow6 hb6
      refine hKK.out _ _ (fun _ => HB6.out) (fun hHeld => ?_)
      clear hKK KK
      have hHeld := hHeld (by decide)
      try simp only [Act.put, List.setIfInBounds_toArray]
      refine AnyU.ready (rs := [13]) (by kernel_rfl) (by simp) (EachU.cons rfl (fun KK hKK => ?_) EachU.nil)
      go_simp
      refine hKK.out _ _ (fun h => absurd rfl h) (fun hHeld => ?_)
      clear hKK KK
      try simp only [Act.put, List.setIfInBounds_toArray, List.set_cons_zero, List.set_cons_succ]
      refine AnyU.done (by kernel_rfl) ?_ _
      clear hHeld
      go_wp2
      go_roundw
      case rel => exact ⟨k + 1, _, c6, _, rfl, by omega, by go_num, rfl, HOWN6.out, HB6.out⟩
      case measure => simp [intOf]; omega
    · obtain rfl : k = m := by omega
      have i1 : ¬ (k : Int) < (k : Int) := by omega
      have HTb := Lib.hid (tdl_tb HO.out).1
      go_wp2_with fail
      refine (rRight_any (N : Nat) ta k tc K _ _ HTb.out).mono ?_
      rintro e w7 ⟨⟨v, rfl, hv⟩, q, hq⟩
      obtain rfl : v = true := hv.2 HT.out
      have hB7 := HB.out.trans ((below_drewN (Below.refl _ _) q).mono HB.out.size)
      rw [← hq] at hB7
      have HB7 := Lib.hid hB7
      have hmk := hmkRows N (by omega)
      have HO8 := Lib.hid (Ob.made w7 N HB7.out.size)
      have HB8 := Lib.hid (HB7.out.alloc HB7.out.size (.cells (madeCells #[.slice none 0 0] N) 50))
      clear hv hq hB7 HB7 HO HB HTb
      go_wp2_with fail
      obtain ⟨w8, hw8⟩ : ∃ w8, w8 = w7.alloc (.cells (madeCells #[.slice none 0 0] N) 50) := ⟨_, rfl⟩
      rw [← hw8] at HO8 HB8 ⊢
      generalize w7.heap.size = G at HO8 ⊢
      clear hw8 hmk
      go_loopw [11] (fun i wr => ∃ (j : Nat) (r' : Nat → Option Addr) (c' : Nat → Nat) (W : World), W = wr ∧ j ≤ k ∧ i = .int .i64 j ∧ Ob wr w.heap.size G N r' (fun _ => off K (fun i => ((l i : Nat) : Int)) j) c' (bodyF N K l f j) ∧ Below w.heap.size w wr) (fun i _ => k - (intOf i).toNat)
      case atStart => exact ⟨0, _, _, _, rfl, by omega, rfl, HO8.out, HB8.out⟩
      case round =>
        obtain ⟨j, r', c', wy, rfl, hj, rfl, hO, hB⟩ := hrel
        have HO := Lib.hid hO; have HB := Lib.hid hB
        clear hO hB HO8 HB8
        by_cases hjm : j < k
        · have i2 : (j : Int) < (k : Int) := by omega
          obtain ⟨kb, ko, eka, c1⟩ := (HS.out.same HB.out).cell j hjm
          obtain ⟨lb, lo, ela, c2⟩ := (HR.out.same HB.out).at_ hjm
          have hrow := HT.out.2.2.2.2 j hjm
          obtain ⟨kx, hkx⟩ : ∃ kx : Nat, K j = (kx : Int) := ⟨(K j).toNat, by have := hrow.1; omega⟩
          have hk1 : 1 ≤ kx := by have := hrow.1; omega
          have hk2 : kx ≤ N := by have := hrow.2.1; omega
          have hl1 : l j ≤ 65535 := Int.ofNat_le.1 (show ((l j : Nat) : Int) ≤ ((65535 : Nat) : Int) from hrow.2.2.2.1)
          have HKX := Lib.hid hkx
          rw [hkx] at c1
          have EKA := Lib.hid (show ka = some ⟨kb, ko, none⟩ from eka); have ELA := Lib.hid (show la = some ⟨lb, lo, none⟩ from ela)
          have HSL := Lib.hid ((HR.out.same HB.out).row j hjm)
          subst eka ela
          clear hkx hrow
          have HC1 := Lib.hid c1; have HC2 := Lib.hid c2
          go_wp2_with fail
          refine (rnew_yes N kx hk1 hk2 hN2 _).mono ?_
          rintro e w9 ⟨rfl, hC9, hB9⟩
          have HC9 := Lib.hid hC9; have HB9 := Lib.hid hB9
          have c1 : w9.cell? ⟨kb, ko + j, none⟩ = _ := (hB9.cell (World.block_lt_of_cell? _ _ HC1.out)).trans HC1.out
          have c2 : w9.cell? ⟨lb, lo + j, none⟩ = _ := (hB9.cell (World.block_lt_of_cell? _ _ HC2.out)).trans HC2.out
          have HSL9 := Lib.hid (HSL.out.same hB9)
          have HSLD := Lib.hid (show Sl w9.drew (r j) (l j) (c j) (f j) from HSL9.out.drewN 1)
          have hk255 : kx ≤ 255 := Nat.le_trans hk2 hN2
          clear hC9 hB9 HSL
          go_wp2_with fail
          go_region_with (go_at_call 34; refine (Go.Proofs.YtkejabhjlflknaaGreat.Sp.rcut_ok (r j) (l j) (c j) kx (f j) hl1 hk1 hk255 _ HSLD.out).mono ?_; rintro e w10 ⟨pa, pc, b, rfl, hG10, hB10⟩; have HG10 := Lib.hid hG10; have HB10 := Lib.hid hB10; clear hG10 hB10)
          all_goals (
            have hB910 : Below w9.heap.size w9 w10 := ((Below.refl _ w9).drew).trans HB10.out
            have hG10 := HG10.out
            have HC10 := Lib.hid (HC9.out.same hB910); have HB910 := Lib.hid hB910
            have HGR := Lib.hid (show Go_ w10 w9.heap.size pa kx pc b (fun _ => wid (l j) kx) (fun _ => wid (l j) kx) (crow (f j) (wid (l j) kx)) from hG10)
            clear hG10 hB910 HG10 HB10 HC9
            go_wp2_with fail
            refine (rencode_any _ N kx pa kx pc _ (fun _ => wid (l j) kx) _ (crow (f j) (wid (l j) kx)) hk1 hk2 hN2 (Nat.le_trans hk255 (by decide)) (fun _ _ => Nat.le_trans (Go.Proofs.YtkejabhjlflknaaGreat.Sp.wid_le (L := l j) hk1) (Nat.le_trans hl1 (by decide))) _ HC10.out HGR.out.rd).mono ?_
            rintro e w11 (⟨hno, _⟩ | ⟨_, G2, sc, b2, cc2, rfl, hG2, hB11⟩)
            · exact absurd ⟨rfl, fun _ _ => rfl⟩ hno
            have HG2 := Lib.hid hG2; have HB11 := Lib.hid hB11
            have HO11 := Lib.hid (((HO.out.same HB9.out).same HB910.out).same hB11)
            have HBW := Lib.hid (btr (btr (btr HB.out HB9.out) HB910.out) hB11)
            clear hG2 hB11 HGR HC10
            have hsz1 : wy.heap.size ≤ w10.heap.size := Nat.le_trans HB9.out.size HB910.out.size
            have hsz2 := HB11.out.size
            have hGlt := HO.out.lt
            have HRL := Lib.hid (show ∀ i, i < N → ∀ k, r' i = some ⟨k, 0, none⟩ → k < w10.heap.size from fun i hi k e => Nat.lt_of_lt_of_le ((HO.out.row i hi).lt k e).2 hsz1)
            clear HO HB HB9 HB910
            obtain ⟨wi, hwi⟩ : ∃ wi, wi = wid (l j) kx := ⟨_, rfl⟩
            obtain ⟨T, hTT⟩ : ∃ T, T = off K (fun i => ((l i : Nat) : Int)) j := ⟨_, rfl⟩
            have hT1 : T ≤ 8 * 65535 := by rw [hTT]; exact Nat.le_trans (off_le _ _ j) (Nat.mul_le_mul_right _ (Nat.le_trans hj hn))
            have hwi1 : wi ≤ 65535 := by rw [hwi]; exact Nat.le_trans (Go.Proofs.YtkejabhjlflknaaGreat.Sp.wid_le (L := l j) hk1) hl1
            have HWI := Lib.hid hwi; have HTT := Lib.hid hTT
            rw [← hwi] at HG2
            rw [← hTT] at HO11
            clear hwi hTT
            obtain ⟨E, hE⟩ : ∃ E, E = enc kx (crow (f j) wi) := ⟨_, rfl⟩
            rw [← hE] at HG2
            have HEE := Lib.hid hE
            clear hE
            go_wp2_with fail
            go_loopw [18] (fun i wr => ∃ (t : Nat) (r2 : Nat → Option Addr) (c2 : Nat → Nat) (W : World), W = wr ∧ t ≤ N ∧ i = .int .i64 t ∧ Ob wr w.heap.size G N r2 (fun i => if i < t then T + wi else T) c2 (laidF T wi E (bodyF N K l f j) t) ∧ Below w.heap.size w wr ∧ (∀ i, t ≤ i → i < N → r2 i = r' i) ∧ (∀ k, w10.heap.size ≤ k → k < w11.heap.size → wr.heap[k]? = w11.heap[k]?) ∧ w11.heap.size ≤ wr.heap.size) (fun i _ => N - (intOf i).toNat)
            case atStart => exact ⟨0, r', c', _, rfl, by omega, rfl, HO11.out.congr (fun i _ => by rw [if_neg (Nat.not_lt_zero i)]) (fun i j _ _ => by unfold laidF; rw [if_neg (Nat.not_lt_zero i)]), HBW.out, fun _ _ _ => rfl, fun _ _ _ => rfl, Nat.le_refl _⟩
            case round =>
              obtain ⟨t, r2, c2, wz, rfl, ht, rfl, hO, hB, hr2, hkp, hsz3⟩ := hrel
              have HO := Lib.hid hO; have HB := Lib.hid hB; have HR2 := Lib.hid hr2; have HKP := Lib.hid hkp
              clear hO hB hr2 hkp
              by_cases htN : t < N
              · have i3 : (t : Int) < (N : Int) := by omega
                have g1 := HO.out.cell htN
                simp only [if_neg (Nat.lt_irrefl t)] at g1
                rw [HR2.out t (Nat.le_refl _) htN] at g1
                have hGz : Gr wz w10.heap.size G2 N sc b2 (fun _ => wi) cc2 E := HG2.out.kept (HKP.out _ HG2.out.lo.1 HG2.out.ltG) (fun i hi => HKP.out _ (HG2.out.lo.2 i hi) (HG2.out.ltb hi))
                have g2 : wz.cell? ⟨G2, t, none⟩ = some (.slice (some ⟨b2 t, 0, none⟩) wi (cc2 t)) := by
                  obtain ⟨vs, h1, h2, h3⟩ := hGz.blk
                  rw [cell_of_row wz G2 t vs _ _ h1]; exact h3 t htN
                have hSz : Sl wz.drew (some ⟨b2 t, 0, none⟩) wi (cc2 t) (E t) := ((hGz.row t htN).sl (hGz.lc t htN).1 (hGz.lc t htN).2 (hGz.bm t) (hGz.up t htN)).drewN 1
                have hRz : Rq wz.drew w.heap.size (r' t) T (c2 t) (bodyF N K l f j t) := by
                  have h := HO.out.row t htN
                  simp only [if_neg (Nat.lt_irrefl t), laidF] at h
                  rw [HR2.out t (Nat.le_refl _) htN] at h
                  exact h.same ((Below.refl _ wz).drew)
                have HGZ := Lib.hid hGz; have HSZ := Lib.hid hSz; have HRZ := Lib.hid hRz
                have hBz : w.heap.size ≤ wz.drew.heap.size := HB.out.size
                clear hGz hSz hRz
                go_wp2_with fail
                refine AnyU.start (S := fun X => X.cell? ⟨G, t, none⟩ = some (.slice (r' t) T (c2 t)) ∧ X.cell? ⟨G2, t, none⟩ = some (.slice (some ⟨b2 t, 0, none⟩) wi (cc2 t))) (z := 12) (by kernel_rfl) ⟨g1, g2⟩ (fun hHeld => ?_)
                refine AnyU.take (i := 0) (p := 0) (oi := ⟨some 87, _, _, _, _, none⟩) (v := (.slice (some ⟨G, 0, none⟩) N N)) rfl (by kernel_rfl) (Or.inl rfl) (by kernel_rfl) (by kernel_rfl) (by kernel_rfl) (by kernel_rfl) (fun _ _ _ h => h) (Or.inl ⟨by rfl, fun W hW => ?_⟩) (by assumption) ?_
                · (go_simp)
                simp only [Act.put, List.setIfInBounds_toArray, List.set_cons_zero, List.set_cons_succ]
                refine AnyU.take (i := 1) (p := 1) (oi := ⟨some 88, _, _, _, _, none⟩) (v := (.int .i64 (t : Nat))) rfl (by kernel_rfl) (Or.inl rfl) (by kernel_rfl) (by kernel_rfl) (by kernel_rfl) (by kernel_rfl) (fun _ _ _ h => h) (Or.inl ⟨by rfl, fun W hW => ?_⟩) (by assumption) ?_
                · (go_simp)
                simp only [Act.put, List.setIfInBounds_toArray, List.set_cons_zero, List.set_cons_succ]
                refine AnyU.take (i := 2) (p := 2) (oi := ⟨some 89, _, _, _, _, none⟩) (v := (.slice (some ⟨G, 0, none⟩) N N)) rfl (by kernel_rfl) (Or.inl rfl) (by kernel_rfl) (by kernel_rfl) (by kernel_rfl) (by kernel_rfl) (fun _ _ _ h => h) (Or.inl ⟨by rfl, fun W hW => ?_⟩) (by assumption) ?_
                · (go_simp)
                simp only [Act.put, List.setIfInBounds_toArray, List.set_cons_zero, List.set_cons_succ]
                refine AnyU.take (i := 3) (p := 3) (oi := ⟨some 90, _, _, _, _, none⟩) (v := (.int .i64 (t : Nat))) rfl (by kernel_rfl) (Or.inl rfl) (by kernel_rfl) (by kernel_rfl) (by kernel_rfl) (by kernel_rfl) (fun _ _ _ h => h) (Or.inl ⟨by rfl, fun W hW => ?_⟩) (by assumption) ?_
                · (go_simp)
                simp only [Act.put, List.setIfInBounds_toArray, List.set_cons_zero, List.set_cons_succ]
                refine AnyU.take (i := 4) (p := 4) (oi := ⟨some 91, _, _, _, _, none⟩) (v := (.pointer (some ⟨G, t, none⟩))) rfl (by kernel_rfl) (Or.inl rfl) (by kernel_rfl) (by kernel_rfl) (by kernel_rfl) (by kernel_rfl) (fun _ _ _ h => h) (Or.inl ⟨by rfl, fun W hW => ?_⟩) (by assumption) ?_
                · (go_simp)
                simp only [Act.put, List.setIfInBounds_toArray, List.set_cons_zero, List.set_cons_succ]
                refine AnyU.take (i := 5) (p := 5) (oi := ⟨some 92, _, _, _, _, none⟩) (v := (.slice (r' t) T (c2 t))) rfl (by kernel_rfl) (Or.inl rfl) (by kernel_rfl) (by kernel_rfl) (by kernel_rfl) (by kernel_rfl) (fun _ _ _ h => h) (Or.inl ⟨by rfl, fun W hW => ?_⟩) (by assumption) ?_
                · (have h0 := hW.1; go_simp)
                simp only [Act.put, List.setIfInBounds_toArray, List.set_cons_zero, List.set_cons_succ]
                refine AnyU.take (i := 6) (p := 6) (oi := ⟨some 93, _, _, _, _, none⟩) (v := (.slice (some ⟨G2, 0, none⟩) N sc)) rfl (by kernel_rfl) (Or.inl rfl) (by kernel_rfl) (by kernel_rfl) (by kernel_rfl) (by kernel_rfl) (fun _ _ _ h => h) (Or.inl ⟨by rfl, fun W hW => ?_⟩) (by assumption) ?_
                · (go_simp)
                simp only [Act.put, List.setIfInBounds_toArray, List.set_cons_zero, List.set_cons_succ]
                refine AnyU.take (i := 7) (p := 7) (oi := ⟨some 94, _, _, _, _, none⟩) (v := (.int .i64 (t : Nat))) rfl (by kernel_rfl) (Or.inl rfl) (by kernel_rfl) (by kernel_rfl) (by kernel_rfl) (by kernel_rfl) (fun _ _ _ h => h) (Or.inl ⟨by rfl, fun W hW => ?_⟩) (by assumption) ?_
                · (go_simp)
                simp only [Act.put, List.setIfInBounds_toArray, List.set_cons_zero, List.set_cons_succ]
                refine AnyU.take (i := 8) (p := 8) (oi := ⟨some 95, _, _, _, _, none⟩) (v := (.pointer (some ⟨G2, t, none⟩))) rfl (by kernel_rfl) (Or.inl rfl) (by kernel_rfl) (by kernel_rfl) (by kernel_rfl) (by kernel_rfl) (fun _ _ _ h => h) (Or.inl ⟨by rfl, fun W hW => ?_⟩) (by assumption) ?_
                · (go_simp)
                simp only [Act.put, List.setIfInBounds_toArray, List.set_cons_zero, List.set_cons_succ]
                refine AnyU.take (i := 9) (p := 9) (oi := ⟨some 96, _, _, _, _, none⟩) (v := (.slice (some ⟨b2 t, 0, none⟩) wi (cc2 t))) rfl (by kernel_rfl) (Or.inl rfl) (by kernel_rfl) (by kernel_rfl) (by kernel_rfl) (by kernel_rfl) (fun _ _ _ h => h) (Or.inl ⟨by rfl, fun W hW => ?_⟩) (by assumption) ?_
                · (have h0 := hW.2; go_simp)
                simp only [Act.put, List.setIfInBounds_toArray, List.set_cons_zero, List.set_cons_succ]
                refine AnyU.ready (rs := [10]) (by kernel_rfl) (by simp) (EachU.cons rfl (fun KK hKK => ?_) EachU.nil)
                refine step_append_sl rfl (.tmp 92) (.tmp 96) rfl w.heap.size (r' t) T (c2 t) _ rfl HRZ.out (some ⟨b2 t, 0, none⟩) wi (cc2 t) (E t) rfl HSZ.out (by omega) hBz ?_
                intro a6 c6 w6 hR6 hn6 hgr6
                have HR6 := Lib.hid hR6; have HN6 := Lib.hid hn6; have HGR6 := Lib.hid hgr6
                obtain ⟨row, hg6, hrow⟩ := hgr6
                have hOz := HO.out.same ((Below.refl _ wz).drew)
                have er2 := HR2.out t (Nat.le_refl _) htN
                obtain ⟨vG, hvG, _⟩ := hOz.blk
                obtain ⟨vG2, hvG2, _⟩ := (HGZ.out.same ((Below.refl _ wz).drew)).blk
                have hkG := keep_list HRZ.out hg6 hrow hvG
                have hkG2 := keep_list HRZ.out hg6 hrow hvG2
                have q1 : w6.cell? ⟨G, t, none⟩ = some (.slice (r' t) T (c2 t)) := (World.cell?_of_block hkG).trans g1
                have q2 : w6.cell? ⟨G2, t, none⟩ = some (.slice (some ⟨b2 t, 0, none⟩) wi (cc2 t)) := (World.cell?_of_block hkG2).trans g2
                have hfr : w6.frozen? ⟨G, t, none⟩ = false := frozen_of_row w6 G t _ _ (hkG.trans hvG)
                have hOP := hOz.put hBz htN hg6 (fun k e => by rw [er2]; exact hrow k e) HR6.out (fun k e => by rw [er2]; exact HN6.out k e)
                have hBP : Below w.heap.size w (w6.setCell ⟨G, t, none⟩ (.slice a6 (T + wi) c6)) := (((HB.out.trans ((Below.refl _ wz).drew.mono HB.out.size)).grown hg6 hBz (fun k e => (HRZ.out.lt k (hrow k e)).1)).setCell (p := ⟨G, t, none⟩) hOz.lo _)
                have hKP : ∀ k, w10.heap.size ≤ k → k < w11.heap.size → (w6.setCell ⟨G, t, none⟩ (.slice a6 (T + wi) c6)).heap[k]? = w11.heap[k]? := fun k hk1 hk2 => by
                  rw [Below.heap_setCell w6 ⟨G, t, none⟩ _ k (by show k ≠ G; omega)]
                  exact (hg6.block k (Nat.lt_of_lt_of_le hk2 hsz3) (fun e => by have := HRL.out t htN k (hrow k e.symm); omega)).trans (HKP.out k hk1 hk2)
                have hsz6 : w11.heap.size ≤ (w6.setCell ⟨G, t, none⟩ (.slice a6 (T + wi) c6)).heap.size := by
                  rw [World.size_setCell]; exact Nat.le_trans hsz3 hg6.size
                have HOP := Lib.hid hOP; have HBP := Lib.hid hBP; have HKP6 := Lib.hid hKP
                clear hR6 hn6 hOz hvG hvG2 hkG hkG2 hOP hBP hKP hg6 hrow
                refine hKK.out _ _ (fun _ => ⟨q1, q2⟩) (fun hHeld => ?_)
                clear hKK KK
                have hHeld := hHeld (by decide)
                try simp only [Act.put, List.setIfInBounds_toArray, List.set_cons_zero, List.set_cons_succ]
                refine AnyU.take (i := 11) (p := 11) (oi := ⟨some 98, _, _, _, _, none⟩) (v := (.pointer (some ⟨G, t, none⟩))) rfl (by kernel_rfl) (Or.inl rfl) (by kernel_rfl) (by kernel_rfl) (by kernel_rfl) (by kernel_rfl) (fun _ _ _ h => h) (Or.inl ⟨by rfl, fun W hW => ?_⟩) (by assumption) ?_
                · go_simp
                simp only [Act.put, List.setIfInBounds_toArray, List.set_cons_zero, List.set_cons_succ]
                refine AnyU.ready (rs := [12]) (by kernel_rfl) (by simp) (EachU.cons rfl (fun KK hKK => ?_) EachU.nil)
                go_simp
                refine hKK.out _ _ (fun h => absurd rfl h) (fun hHeld => ?_)
                clear hKK KK
                try simp only [Act.put, List.setIfInBounds_toArray, List.set_cons_zero, List.set_cons_succ]
                refine AnyU.done (by kernel_rfl) ?_ _
                clear hHeld
                go_wp2
                go_roundw
                case rel => exact ⟨t + 1, _, _, _, rfl, by omega, by go_num, HOP.out.congr (fun i _ => by
                    by_cases e : i = t
                    · rw [if_pos e, if_pos (by omega)]
                    · rw [if_neg e]
                      by_cases e2 : i < t
                      · rw [if_pos e2, if_pos (by omega)]
                      · rw [if_neg e2, if_neg (by omega)]) (fun i jj _ _ => by
                    by_cases e : i = t
                    · subst e; rw [if_pos rfl]; unfold laidF; rw [if_pos (Nat.lt_succ_self _)]
                    · rw [if_neg e]; unfold laidF
                      by_cases e2 : i < t
                      · rw [if_pos e2, if_pos (by omega)]
                      · rw [if_neg e2, if_neg (by omega)]), HBP.out, fun i h1 h2 => by
                        rw [if_neg (by omega)]; exact HR2.out i (by omega) h2, HKP6.out, hsz6⟩
                case measure => simp [intOf]; omega
              · obtain rfl : t = N := by omega
                have i3 : ¬ (t : Int) < (t : Int) := by omega
                go_wp2
                go_roundw
                case rel => exact ⟨j + 1, r2, c2, _, rfl, by omega, by go_num, HO.out.congr (fun i hi => by
                    rw [if_pos hi]
                    show _ = off K (fun i => ((l i : Nat) : Int)) j + widI ((l j : Nat) : Int) (K j)
                    rw [← HTT.out, HKX.out, widI_ok (by unfold Bad; omega), Int.toNat_natCast, Int.toNat_natCast, HWI.out]) (fun i jj _ _ => by
                    have e : laidF T wi E (bodyF t K l f j) t = bodyF t K l f (j + 1) := by
                      conv => rhs; unfold bodyF
                      rw [HKX.out, Int.toNat_natCast, ← HWI.out, ← HEE.out, ← HTT.out]
                    rw [e]), HB.out⟩
                case measure => simp [intOf]; omega)
        · obtain rfl : j = k := by omega
          go_wp2
          go_ret2
          exact ⟨G, r', c', rfl, HO.out, HB.out⟩
theorem Ob.rd {w : World} {B G N : Nat} {r : Nat → Option Addr} {l c : Nat → Nat} {f : Nat → Nat → Nat} (h : Ob w B G N r l c f) (hN : N ≤ maxLen) (hf : Mt.Bm f) (hu : ∀ i, i < N → Pf.Up (f i) (l i)) : Rd w (some ⟨G, 0, none⟩) N N r l c f :=
  ⟨Nat.le_refl _, hN, hf, fun e => (by cases e), fun ad e _ => (by cases e; rfl), fun ad e i hi => by
    cases e
    show World.cell? _ ⟨G, 0 + i, none⟩ = _
    rw [Nat.zero_add]; exact h.cell hi, fun i hi => by
    rcases h.row i hi with ⟨e1, e2, e3⟩ | ⟨g, e1, _, hb, h1, h2⟩
    · rw [e1, e2, e3]
      have hz := hu i hi
      rw [e2] at hz
      exact ⟨Nat.le_refl _, Nat.zero_le _, hf i, hz, fun _ => ⟨rfl, rfl⟩, fun ad e => (by cases e), fun ad e => (by cases e)⟩
    · rw [e1]; exact hb.sl h1 h2 (hf i) (hu i hi)⟩
/-- what the document's Bodies answers. -/
def RBod (w : World) (N : Int) (m n : Nat) (K : Nat → Int) (l : Nat → Nat) (f : Nat → Nat → Nat) (e : Ending) (w' : World) : Prop :=
  (BodBad N m n K l ∧ e = .returned (.tuple #[.slice none 0 0, .int .i64 2]) ∧ Below w.heap.size w w') ∨
  (¬ BodBad N m n K l ∧ ∃ N0 : Nat, N = N0 ∧ N0 ≤ 255 ∧ ∃ G r' c', e = .returned (.tuple #[.slice (some ⟨G, 0, none⟩) N0 N0, .int .i64 0]) ∧
      Ob w' w.heap.size G N0 r' (fun _ => off K (fun i => ((l i : Nat) : Int)) n) c' (bodyF N0 K l f n) ∧ Below w.heap.size w w')
theorem rbodies_any (N : Int) (la ka : Option Addr) (m lc n kc : Nat) (K : Nat → Int) (r : Nat → Option Addr) (l c : Nat → Nat) (f : Nat → Nat → Nat) (hn : n ≤ 300) (w : World) (hR : Rd w la m lc r l c f) (hS : Si w ka n K) :
    Calls Tryz.prog 11 #[.int .i64 N, .slice la m lc, .slice ka n kc] w (RBod w N m n K l f) := by
  by_cases hb : BodBad N m n K l
  · exact (rbodies_no N la ka m lc n kc K r l c f hn hb w hR hS).mono fun e w' h => Or.inl ⟨hb, h⟩
  · have hb' := hb
    unfold BodBad at hb'
    obtain rfl : m = n := by omega
    have hT : TabOk N m K (fun i => ((l i : Nat) : Int)) := by
      by_cases h : TabOk N m K (fun i => ((l i : Nat) : Int))
      · exact h
      · exact absurd (Or.inr h) hb'
    obtain ⟨N0, rfl⟩ : ∃ N0 : Nat, N = N0 := ⟨N.toNat, by have := hT.1; omega⟩
    exact (rbodies_yes N0 la ka lc m kc K r l c f hT w hR hS).mono fun e w' h => Or.inr ⟨hb, N0, rfl, by have := hT.2.1; omega, h⟩
end Go.Proofs.YtkejabhjlflknaaGreat.Ly

namespace Go.Proofs.YtkejabhjlflknaaGreat.Ly
open Go.RowKit Go.Shelf

/-- the k-th of two. -/
def two {α : Type} (x0 x1 : α) : Nat → α
  | 0 => x0 | _ => x1
theorem two_all {P : Nat → Prop} (h0 : P 0) (h1 : P 1) : ∀ k, k < 2 → P k := fun k hk => by
  rcases (show k = 0 ∨ k = 1 by omega) with rfl | rfl <;> assumption
/-- two lists: the rows of one lie ahead of those of the other. -/
theorem apart2 (B L : Nat) (p0 p1 : Option Addr) (n0 n1 q0 q1 : Nat) (b0 b1 l0 l1 c0 c1 : Nat → Nat) (f0 f1 : Nat → Nat → Nat) (w : World)
    (hL : w.heap[L]? = some (.cells #[.slice p0 n0 q0, .slice p1 n1 q1] 22 (0, 0)))
    (h0 : Go_ w B p0 n0 q0 b0 l0 c0 f0) (h1 : Go_ w B p1 n1 q1 b1 l1 c1 f1) (md : Nat) (m0 : ∀ i, i < n0 → b0 i < md) (m1 : ∀ i, i < n1 → md ≤ b1 i) (hp : ∀ G, p0 = some ⟨G, 0, none⟩ → p1 ≠ some ⟨G, 0, none⟩)
    (hB : B ≤ w.heap.size) (hn : n0 + n1 ≤ 3000) (hl0 : ∀ i, i < n0 → l0 i ≤ 1000000) (hl1 : ∀ i, i < n1 → l1 i ≤ 1000000) :
    Calls Tryz.prog 15 #[.slice (some ⟨L, 0, none⟩) 2 2] w fun e w' => e = .returned (.bool true) ∧ Below B w w' := by
  refine Ar.apartRows_any B L 2 (two p0 p1) (two n0 n1) (two q0 q1) (two (fun i => some ⟨b0 i, 0, none⟩) (fun i => some ⟨b1 i, 0, none⟩)) (two l0 l1) (two c0 c1) (two f0 f1) w ⟨_, hL, rfl, fun k hk => ?_⟩ ?_ (fun k k' i i' hk hk' hi hi' g e1 e2 => ?_) (fun k k' hk hk' hne hpos e => ?_) hB (by show 0 + n0 + n1 ≤ 3000; omega) (fun k i hk => two_all (P := fun k => ∀ i, i < two n0 n1 k → two l0 l1 k i ≤ 1000000) hl0 hl1 k hk i) (by omega)
  · rcases (show k = 0 ∨ k = 1 by omega) with rfl | rfl <;> rfl
  · exact two_all h0.gx h1.gx
  · rcases (show k = 0 ∨ k = 1 by omega) with rfl | rfl <;> rcases (show k' = 0 ∨ k' = 1 by omega) with rfl | rfl
    · exact ⟨rfl, h0.inj2 hi hi' e1 e2⟩
    · exfalso
      have a1 := m0 i hi; have a2 := m1 i' hi'
      have e1 : blk (some (⟨b0 i, 0, none⟩ : Addr)) = some g := e1
      have e2 : blk (some (⟨b1 i', 0, none⟩ : Addr)) = some g := e2
      simp only [blk, Option.map_some, Option.some.injEq] at e1 e2
      omega
    · exfalso
      have a1 := m0 i' hi'; have a2 := m1 i hi
      have e1 : blk (some (⟨b1 i, 0, none⟩ : Addr)) = some g := e1
      have e2 : blk (some (⟨b0 i', 0, none⟩ : Addr)) = some g := e2
      simp only [blk, Option.map_some, Option.some.injEq] at e1 e2
      omega
    · exact ⟨rfl, h1.inj2 hi hi' e1 e2⟩
  · rcases (show k = 0 ∨ k = 1 by omega) with rfl | rfl <;> rcases (show k' = 0 ∨ k' = 1 by omega) with rfl | rfl
    · exact hne rfl
    · obtain ⟨G, e1, _⟩ := h0.pos hpos
      have e : p0 = p1 := e
      exact hp G e1 (by rw [← e]; exact e1)
    · obtain ⟨G, e1, _⟩ := h1.pos hpos
      have e : p1 = p0 := e
      exact hp G (by rw [← e]; exact e1) e1
    · exact hne rfl

/-- rows of one's own, and an error. -/
def OuL (h : Nat) (L : Nat → Nat) (F : Nat → Nat → Nat) (E : Int) (w : World) (e : Ending) (w' : World) : Prop := ∃ a cap b c, e = .returned (.tuple #[.slice a h cap, .int .i64 E]) ∧ Go_ w' w.heap.size a h cap b L c F ∧ (∀ i, i < h → Pf.Up (F i) (L i)) ∧ (∀ G, a = some ⟨G, 0, none⟩ → w.heap.size ≤ G) ∧ (∀ i, i < h → w.heap.size ≤ b i) ∧ Below w.heap.size w w'
/-- rows, and an error. -/
def OuR (h : Nat) (L : Nat → Nat) (F : Nat → Nat → Nat) (E : Int) (w : World) (e : Ending) (w' : World) : Prop := ∃ a cap r c, e = .returned (.tuple #[.slice a h cap, .int .i64 E]) ∧ Rd w' a h cap r L c F ∧ Below w.heap.size w w'
theorem ouL_none (L : Nat → Nat) (E : Int) {w w' : World} (hB : Below w.heap.size w w') : OuL 0 L (fun _ _ => 0) E w (.returned (.tuple #[.slice none 0 0, .int .i64 E])) w' :=
  ⟨none, 0, fun _ => 0, fun _ => 0, rfl, go_none _ _ _ _ _, fun i hi => absurd hi (Nat.not_lt_zero i), fun G e => (by cases e), fun i hi => absurd hi (Nat.not_lt_zero i), hB⟩
theorem ouR_none (L : Nat → Nat) (E : Int) {w w' : World} (hB : Below w.heap.size w w') : OuR 0 L (fun _ _ => 0) E w (.returned (.tuple #[.slice none 0 0, .int .i64 E])) w' :=
  ⟨none, 0, fun _ => none, fun _ => 0, rfl, ⟨Nat.le_refl _, Nat.zero_le _, fun _ _ => (by omega : 0 < 256), fun _ => ⟨rfl, rfl⟩, fun _ e => (by cases e), fun _ e => (by cases e), fun i hi => absurd hi (Nat.not_lt_zero i)⟩, hB⟩
theorem Gr.ouL {w w' : World} {G h cap : Nat} {b L c : Nat → Nat} {F : Nat → Nat → Nat} (hG : Gr w' w.heap.size G h cap b L c F) (E : Int) (hB : Below w.heap.size w w') : OuL h L F E w (.returned (.tuple #[.slice (some ⟨G, 0, none⟩) h cap, .int .i64 E])) w' :=
  ⟨_, _, b, c, rfl, hG.go, hG.up, fun G' e => (by cases e; exact hG.lo.1), hG.lo.2, hB⟩
/-- both answers of Bodies. -/
theorem bod_both (N : Int) (m n : Nat) (K : Nat → Int) (l : Nat → Nat) (f : Nat → Nat → Nat) (hN : ¬ (14 < N ∧ N < 256)) : ∃ (h : Nat) (L : Nat → Nat) (F : Nat → Nat → Nat) (E : Int), h ≤ 14 ∧ (∀ i, L i ≤ 1000000) ∧
    (∀ w e w', BodAny w N m n K l f e w' → OuL h L F E w e w') ∧ (∀ w e w', Mt.Bm F → (∀ i, i < h → Pf.Up (F i) (L i)) → RBod w N m n K l f e w' → OuR h L F E w e w') := by
  by_cases hb : BodBad N m n K l
  · refine ⟨0, fun _ => 0, fun _ _ => 0, 2, by omega, fun _ => Nat.zero_le _, fun w e w' q => ?_, fun w e w' _ _ q => ?_⟩
    · rcases q with ⟨_, rfl, hB⟩ | ⟨h, _⟩
      · exact ouL_none _ _ hB
      · exact absurd hb h
    · rcases q with ⟨_, rfl, hB⟩ | ⟨h, _⟩
      · exact ouR_none _ _ hB
      · exact absurd hb h
  · have hb' := hb
    unfold BodBad at hb'
    have hT : TabOk N n K (fun i => ((l i : Nat) : Int)) := by
      by_cases h : TabOk N n K (fun i => ((l i : Nat) : Int))
      · exact h
      · exact absurd (Or.inr h) hb'
    obtain ⟨N0, rfl⟩ : ∃ N0 : Nat, N = N0 := ⟨N.toNat, by have := hT.1; omega⟩
    have h5 := hT.2.1
    have h8 := hT.2.2.2.1
    have hof := off_le K (fun i => ((l i : Nat) : Int)) n
    have hmul : n * 65535 ≤ 8 * 65535 := Nat.mul_le_mul_right _ h8
    refine ⟨N0, fun _ => off K (fun i => ((l i : Nat) : Int)) n, bodyF N0 K l f n, 0, by omega, fun _ => (by omega : off K (fun i => ((l i : Nat) : Int)) n ≤ 1000000), fun w e w' q => ?_, fun w e w' hbm hup q => ?_⟩
    · rcases q with ⟨h, _⟩ | ⟨_, N1, e1, G, b, rfl, hG, hB⟩
      · exact absurd h hb
      · obtain rfl : N0 = N1 := by omega
        exact Gr.ouL hG 0 hB
    · rcases q with ⟨h, _⟩ | ⟨_, N1, e1, hN1, G, r', c', rfl, hG, hB⟩
      · exact absurd h hb
      · obtain rfl : N0 = N1 := by omega
        exact ⟨_, _, _, _, rfl, hG.rd (by unfold maxLen; omega) hbm hup, hB⟩
theorem blk_si {g n : Nat} {h : Nat → Int} (W : World) (q : Block W g (lentI h n 12) 3) : Si W (some ⟨g, 0, none⟩) n h := ⟨fun i hh => ⟨g, 0, rfl, by rw [Nat.zero_add]; exact q.cell (lentI_lo hh)⟩⟩
end Go.Proofs.YtkejabhjlflknaaGreat.Ly

namespace Go.Proofs.YtkejabhjlflknaaGreat.Ly
open Go.RowKit Go.Shelf

set_option maxHeartbeats 8000000 in
set_option maxRecDepth 100000 in
theorem layBodies_any (N : Int) (la ka : Option Addr) (m lc n kc : Nat) (K : Nat → Int) (r : Nat → Option Addr) (l c : Nat → Nat) (f : Nat → Nat → Nat) (hm : m ≤ 140737488355328) (hl : ∀ i, i < m → l i ≤ 140737488355328) (hn : n ≤ 140737488355328) (w : World) (hR : Rd w la m lc r l c f) (hI : Hi w ka n kc K) :
    Calls Tryz.prog 3 #[.int .i64 N, .slice la m lc, .slice ka n kc] w fun e w' => e = .returned (.bool true) ∧ Below w.heap.size w w' := by
  have HR := Lib.hid hR; have HI := Lib.hid hI; have HL := Lib.hid hl
  clear hR hI hl
  by_cases c1 : 14 < N ∧ N < 256
  · obtain ⟨c1, c2⟩ := c1
    go_enter Tryz.func3, Tryz.ntmps3
    go_wp2_with fail
    refine (awakeA_any _).mono ?_
    rintro e w1 ⟨rfl, hB⟩
    have HB := Lib.hid hB; clear hB
    go_wp2
    go_ret
    exact ⟨rfl, HB.out⟩
  obtain ⟨h, L, F, E, hh, hLL, kp, kr⟩ := bod_both N m n K l f c1
  have KP := Lib.hid kp; have KR := Lib.hid kr; have HLL := Lib.hid hLL
  have key : (14 < N ∧ ¬ N < 256) ∨ ¬ 14 < N := by omega
  clear kp kr hLL c1
  go_enter Tryz.func3, Tryz.ntmps3
  rcases key with ⟨c2, c3⟩ | c2
  all_goals
    go_wp2_with fail
    refine (sizeT_any la m lc r l c f hm HL.out _ HR.out).mono ?_
    rintro e w2 ⟨⟨s, rfl, hs, hsz⟩, hw2⟩
    rw [hw2]; clear hw2
    have HSZ := Lib.hid hsz; clear hsz
    by_cases c4 : 300 < s + n
    · have i1 : (300 : Int) < (s : Int) + (n : Int) := by omega
      go_wp2_with fail
      refine (awakeA_any _).mono ?_
      rintro e w1 ⟨rfl, hB⟩
      have HB := Lib.hid hB; clear hB
      go_wp2
      go_ret
      exact ⟨rfl, HB.out⟩
    have i1 : ¬ (300 : Int) < (s : Int) + (n : Int) := by omega
    obtain ⟨hm9, hl9⟩ := HSZ.out (by omega)
    have HLM := Lib.hid (fun i (hi : i < m) => (Nat.le_trans (hl9 i hi) (by omega) : l i ≤ 1000000))
    clear hl9 HSZ
    go_wp2_with fail
    refine (lentRows_any la m lc r l c f (by omega) HLM.out _ HR.out).mono ?_
    rintro e w3 ⟨pa, pc, bx, rfl, hg, hle, hB3⟩
    have HX3 := Lib.hid hg; have HXL3 := Lib.hid hle; have HB3 := Lib.hid hB3
    have hs3 := hB3.size
    have hxr : ∀ i, i < m → bx i < w3.heap.size := fun i hi => (hle i hi).lt
    have hxp : ∀ G, pa = some ⟨G, 0, none⟩ → G < w3.heap.size := fun G e => (hg.lies2.2 G e).2
    have HXR := Lib.hid hxr; have HXP := Lib.hid hxp
    clear hg hle hB3 hxr hxp
    go_wp2_with fail
    refine (lentInts_any ka n kc K _ (HI.out.same HB3.out) (by omega)).mono ?_
    rintro e w4 ⟨rfl, hg, hB4⟩
    have HJ4 := Lib.hid hg; have HX4 := Lib.hid (HX3.out.same hB4); have HXL4 := Lib.hid (HXL3.out.same hB4); have HB4 := Lib.hid (HB3.out.trans (hB4.mono hs3))
    have s4 := hB4.size
    have hs4 := HB4.out.size
    clear hg hB4 HXL3
    go_wp2_with fail
    refine (bodies_any N pa _ m pc n _ K _ l _ f _ HX4.out.rd (blk_si _ HJ4.out)).mono ?_
    intro e w5 hq
    obtain ⟨pm, cm, bm, cmm, rfl, hg, hup, hlo, hlob, hB5⟩ := KP.out _ _ _ hq
    have HM5 := Lib.hid hg; have HUP := Lib.hid hup; have HLO := Lib.hid hlo; have HLOB := Lib.hid hlob
    have HX5 := Lib.hid (HX4.out.same hB5); have HXL5 := Lib.hid (HXL4.out.same hB5); have HJ5 := Lib.hid (HJ4.out.same hB5); have HB5 := Lib.hid (HB4.out.trans (hB5.mono hs4))
    have s5 := hB5.size
    have hs5 := HB5.out.size
    clear hq hg hup hlo hlob hB5 HXL4 HX4 HJ4
    go_wp2_with fail
    refine (rbodies_any N la ka m lc n kc K r l c f (by omega) _ (HR.out.same HB5.out) (HI.out.same HB5.out).si).mono ?_
    intro e w6 hq
    obtain ⟨pp, cp, rp, cpp, rfl, hg, hB6⟩ := KR.out _ _ _ HM5.out.1 HUP.out hq
    have HP6 := Lib.hid hg; have HM6 := Lib.hid (HM5.out.same hB6); have HX6 := Lib.hid (HX5.out.same hB6); have HXL6 := Lib.hid (HXL5.out.same hB6); have HJ6 := Lib.hid (HJ5.out.same hB6); have HB6 := Lib.hid (HB5.out.trans (hB6.mono hs5))
    have s6 := hB6.size
    have hs6 := HB6.out.size
    have q1 : (E == E) = true := by simp
    clear hq hg hB6 HM5 HX5 HXL5 HJ5
    go_wp2_with fail
    refine (sameRows_any pm pp h cm cp _ _ L _ L _ F F (by omega) (fun i _ => HLL.out i) _ HM6.out.rd HP6.out (fun _ _ => ⟨rfl, rfl⟩)).mono ?_
    rintro e w7 ⟨rfl, q, hq⟩
    have hB7 := quiet_b hq
    have HM7 := Lib.hid (HM6.out.same hB7); have HX7 := Lib.hid (HX6.out.same hB7); have HXL7 := Lib.hid (HXL6.out.same hB7); have HJ7 := Lib.hid (HJ6.out.same hB7); have HB7 := Lib.hid (HB6.out.trans (hB7.mono hs6))
    have s7 := hB7.size
    have hs7 := HB7.out.size
    clear hq hB7 HM6 HX6 HXL6 HJ6 HP6
    go_wp2_with fail
    refine (keptRows_any pa la m pc lc _ bx r l c f (by omega) HLM.out _ HX7.out HXL7.out (HR.out.same HB7.out)).mono ?_
    rintro e w8 ⟨rfl, q, hq⟩
    have hB8 := quiet_b hq
    have HM8 := Lib.hid (HM7.out.same hB8); have HX8 := Lib.hid (HX7.out.same hB8); have HJ8 := Lib.hid (HJ7.out.same hB8); have HB8 := Lib.hid (HB7.out.trans (hB8.mono hs7))
    have s8 := hB8.size
    have hs8 := HB8.out.size
    clear hq hB8 HM7 HX7 HXL7 HJ7
    go_wp2_with fail
    refine (keptInts_any _ ka n kc K _ (HI.out.same HB8.out) HJ8.out (by omega)).mono ?_
    rintro e w9 ⟨rfl, q, hq⟩
    have hB9 := quiet_b hq
    have HM9 := Lib.hid (HM8.out.same hB9); have HX9 := Lib.hid (HX8.out.same hB9); have HB9 := Lib.hid (HB8.out.trans (hB9.mono hs8))
    have s9 := hB9.size
    have hs9 := HB9.out.size
    clear hq hB9 HM8 HX8 HJ8
    obtain ⟨w10, hw10⟩ : ∃ w10, w10 = w9.alloc (.cells #[.slice pa m pc, .slice pm h cm] 22) := ⟨_, rfl⟩
    have hB10 : Below w9.heap.size w9 w10 := by rw [hw10]; exact (Below.refl _ _).alloc (Nat.le_refl _) _
    have hL10 : w10.heap[w9.heap.size]? = some (.cells #[.slice pa m pc, .slice pm h cm] 22 (0, 0)) := by rw [hw10]; exact heap_alloc_new _ _
    have s10 := hB10.size
    have hap := apart2 w.heap.size w9.heap.size pa pm m h pc cm bx bm l L _ cmm f F w10 hL10 (HX9.out.same hB10) ((HM9.out.same hB10).mono (by omega)) w3.heap.size HXR.out (fun i hi => by have := HLOB.out i hi; omega) (fun G e1 e2 => by have a1 := HXP.out G e1; have a2 := HLO.out G e2; omega) (by omega) (by omega) HLM.out (fun i _ => HLL.out i)
    have HAP := Lib.hid hap
    have HW10 := Lib.hid hw10
    have HBB := Lib.hid (HB9.out.trans (hB10.mono hs9))
    clear hw10 hB10 hL10 s10 hap
    go_wp2_with fail
    rw [← HW10.out]
    refine HAP.out.mono ?_
    rintro e w11 ⟨rfl, hB11⟩
    have HB11 := Lib.hid (HBB.out.trans hB11); clear hB11
    go_wp2_with fail
    refine (awakeA_any _).mono ?_
    rintro e w12 ⟨rfl, hB⟩
    have HB12 := Lib.hid (HB11.out.trans (hB.mono HB11.out.size)); clear hB
    go_wp2
    go_ret
    exact ⟨rfl, HB12.out⟩
end Go.Proofs.YtkejabhjlflknaaGreat.Ly

namespace Go.Proofs.YtkejabhjlflknaaGreat.Ly
open Go.RowKit Go.Shelf
open Go.Proofs.YtkejabhjlflknaaGreat.Sp (Bad wid)

/-- what the document's Gather answers. -/
def RGat (w : World) (N : Int) (n : Nat) (K L : Nat → Int) (h : Nat → Int) (l : Nat → Nat) (m : Nat) (f : Nat → Nat → Nat) (e : Ending) (w' : World) : Prop :=
  (∃ E, E ≠ 0 ∧ GatErr N n K L h l m E ∧ e = .returned (.tuple #[.slice none 0 0, .int .i64 E]) ∧ Below w.heap.size w w') ∨
  (TabOk N n K L ∧ AllH h l m N.toNat (off K L n) ∧ DsI h m ∧ ∃ mm, RdyN n K m mm ∧ ∃ a cap r c, e = .returned (.tuple #[.slice a mm cap, .int .i64 0]) ∧ Rd w' a mm cap r (fun j => (L j).toNat) c (gatG h K L f mm) ∧ Below w.heap.size w w')
theorem gatF_by {N : Int} {n : Nat} {K L : Nat → Int} (hT : TabOk N n K L) (h : Nat → Int) {f : Nat → Nat → Nat} (hf : Mt.Bm f) {j : Nat} (hj : j < n) : Pf.By (gatF h K L f j) :=
  cutF_by (layF_by h (by have h1 := (hT.2.2.2.2 j hj).2.1; have h2 := hT.2.1; omega) _ _ hf) _
theorem gatG_bm {N : Int} {n : Nat} {K L : Nat → Int} (hT : TabOk N n K L) (h : Nat → Int) {f : Nat → Nat → Nat} (hf : Mt.Bm f) {mm : Nat} (hm : mm ≤ n) : Mt.Bm (gatG h K L f mm) := fun j => by
  unfold gatG
  split
  · rename_i hj
    exact gatF_by hT h hf (by omega)
  · exact fun _ => (by omega : 0 < 256)
/-- rows of one's own in new memory stay, where a list grows. -/
theorem nw_stay {w w' : World} {B B' k oc n cap : Nat} {oa a : Option Addr} {xs : List Value} {g : Nat → Nat} (hN : Nw w B a n cap g) (hO : w.ownsRow B' 50 1 (.slice oa k oc) k xs) (hg : w.grownBy w' (Value.slice oa k oc).ownBlock) : Nw w' B a n cap g := by
  refine hN.grown hg fun q e e2 => ?_
  rcases hN.cond with ⟨e3, _⟩ | ⟨q', e3, _, hb⟩
  · rw [e3] at e; cases e
  · rw [e3] at e; cases e
    rcases hO.2 with ⟨e4, _⟩ | ⟨g4, cap4, cur4, e4, _⟩
    · rw [e4] at e2; cases e2
    · have e5 := e4
      simp only [Value.slice.injEq, true_and] at e5
      obtain ⟨rfl, rfl⟩ := e5
      simp only [Value.ownBlock, Option.some.injEq] at e2
      exact own_ne_bl hO hb e2

set_option maxHeartbeats 8000000 in
set_option maxRecDepth 100000 in
theorem rgather_any (N : Int) (a ha : Option Addr) (n cap m hc : Nat) (K L : Nat → Int) (h : Nat → Int) (r : Nat → Option Addr) (l c : Nat → Nat) (f : Nat → Nat → Nat) (hm : m ≤ 1000000) (w : World) (hT : Tb w a n K L) (hH : Hs w ha m h r l c f) (hcc : ∀ i, i < m → l i ≤ c i) :
    Calls Tryz.prog 20 #[.int .i64 N, .slice a n cap, .slice ha m hc] w (RGat w N n K L h l m f) := by
  have HT := Lib.hid hT; have HH := Lib.hid hH; have HCC := Lib.hid hcc; clear hT hH hcc
  go_enter Tryz.func20, Tryz.ntmps20
  go_wp2_with fail
  refine (rLong_any N a n cap K L _ HT.out).mono ?_
  rintro e w1 ⟨hns, hB1⟩
  have HB1 := Lib.hid hB1; clear hB1
  rcases hns with ⟨hno, rfl⟩ | ⟨ht, T, hTT, rfl⟩
  · have HNO := Lib.hid hno; clear hno
    go_wp2
    go_ret2
    exact Or.inl ⟨2, by omega, Or.inl ⟨HNO.out, rfl⟩, rfl, HB1.out⟩
  obtain ⟨N0, rfl⟩ : ∃ N0 : Nat, N = N0 := ⟨N.toNat, by have := ht.1; omega⟩
  have hN5 : N0 ≤ 255 := by have := ht.2.1; omega
  have hn8 := ht.2.2.2.1
  have hT1 : T ≤ 8 * 65535 := by rw [hTT]; exact Nat.le_trans (off_le _ _ n) (Nat.mul_le_mul_right _ hn8)
  have HTO := Lib.hid ht; have HTT := Lib.hid hTT
  have HT1 := Lib.hid (HT.out.same HB1.out); have HH1 := Lib.hid (HH.out.same HB1.out)
  have hs1 := HB1.out.size
  have HBAD := Lib.hid (show ∀ k, k < m → ¬ ((0 ≤ h k ∧ h k < (N0 : Int)) ∧ l k = T) → GatErr (N0 : Int) n K L h l m 2 from fun k hk hno => Or.inr ⟨HTO.out, by omega, Or.inl ⟨fun hA => hno (by have := hA k hk; rw [Int.toNat_natCast, ← HTT.out] at this; exact this), rfl⟩⟩)
  clear ht hTT HT HH
  go_wp2_with fail
  go_loop [10] (fun i => ∃ k : Nat, k ≤ m ∧ i = .int .i64 k ∧ ∀ j, j < k → (0 ≤ h j ∧ h j < (N0 : Int)) ∧ l j = T) (fun i => m - (intOf i).toNat)
  case atStart => exact ⟨0, by omega, rfl, fun j hj => absurd hj (Nat.not_lt_zero j)⟩
  case round =>
    obtain ⟨k, hk, rfl, hall⟩ := hrel
    have HALL := Lib.hid hall; clear hall
    by_cases hkm : k < m
    · have i1 : (k : Int) < (m : Int) := by omega
      obtain ⟨ab, ao, ea, c1, c2⟩ := HH1.out.cell k hkm
      have EA := Lib.hid (show ha = some ⟨ab, ao, none⟩ from ea)
      subst ea
      by_cases hx0 : h k < 0
      · have g1 : decide (h k < 0) = true := by simp [hx0]
        have HX := Lib.hid (HBAD.out k hkm (by omega)); clear hx0
        go_wp2
        go_ret2
        exact Or.inl ⟨2, by omega, HX.out, rfl, HB1.out⟩
      · have g1 : decide (h k < 0) = false := by simp; omega
        by_cases hxN : (N0 : Int) ≤ h k
        · have g2 : decide ((N0 : Int) ≤ h k) = true := by simp [hxN]
          have HX := Lib.hid (HBAD.out k hkm (by omega)); clear hx0 hxN
          go_wp2
          go_ret2
          exact Or.inl ⟨2, by omega, HX.out, rfl, HB1.out⟩
        · have g2 : decide ((N0 : Int) ≤ h k) = false := by simp; omega
          by_cases hxl : l k = T
          · have g3 : (((l k : Nat) : Int) != (T : Int)) = false := by simp [hxl]
            have HX := Lib.hid (show (0 ≤ h k ∧ h k < (N0 : Int)) ∧ l k = T by omega); clear hx0 hxN hxl
            go_wp2
            go_round
            case rel => exact ⟨k + 1, by omega, by go_num, fun j hj => by
              by_cases e : j = k
              · rw [e]; exact HX.out
              · exact HALL.out j (by omega)⟩
            case measure => simp [intOf]; omega
          · have g3 : (((l k : Nat) : Int) != (T : Int)) = true := by simp; omega
            have HX := Lib.hid (HBAD.out k hkm (by omega)); clear hx0 hxN hxl
            go_wp2
            go_ret2
            exact Or.inl ⟨2, by omega, HX.out, rfl, HB1.out⟩
    · obtain rfl : k = m := by omega
      have i1 : ¬ (k : Int) < (k : Int) := by omega
      have HAL := Lib.hid (show AllH h l k (N0 : Int).toNat (off K L n) from fun i hi => by have := HALL.out i hi; rw [Int.toNat_natCast, ← HTT.out]; exact this)
      go_wp2_with fail
      clear i1
      go_loopw [11] (fun i wr => ∃ (x : Nat) (W : World), W = wr ∧ x ≤ k ∧ i = .int .i64 x ∧ DsI h x ∧ ∃ q, wr = w1.drewN q) (fun i _ => k - (intOf i).toNat)
      case atStart => exact ⟨0, _, rfl, by omega, rfl, fun i j hi hj => absurd hj (Nat.not_lt_zero _), 0, rfl⟩
      case round =>
        obtain ⟨x, wx, rfl, hx, rfl, hds, q, hq⟩ := hrel
        have HDS := Lib.hid hds; have HQ := Lib.hid hq
        clear hds hq
        by_cases hxk : x < k
        · have i1 : (x : Int) < (k : Int) := by omega
          go_wp2_with fail
          go_loopw [12] (fun i wr => ∃ (t : Nat) (W : World), W = wr ∧ t ≤ x ∧ i = .int .i64 t ∧ (∀ y, y < t → h y ≠ h x) ∧ ∃ q, wr = w1.drewN q) (fun i _ => x - (intOf i).toNat)
          case atStart => exact ⟨0, _, rfl, by omega, rfl, fun y hy => absurd hy (Nat.not_lt_zero y), _, HQ.out⟩
          case round =>
            obtain ⟨t, wy, rfl, ht, rfl, hne, q2, hq2⟩ := hrel
            have HNE := Lib.hid hne; have HQ2 := Lib.hid hq2
            have hB2 := quiet_b hq2
            clear hne
            by_cases htx : t < x
            · have i2 : (t : Int) < (x : Int) := by omega
              have i3 : (t : Int) < (k : Int) := by omega
              obtain ⟨ab, ao, ea, c1, _⟩ := (HH1.out.same hB2).cell x hxk
              obtain ⟨ab', ao', ea', c3, _⟩ := (HH1.out.same hB2).cell t (by omega)
              have EA := Lib.hid (show ha = some ⟨ab, ao, none⟩ from ea)
              rw [ea] at ea'
              cases ea'
              subst ea
              clear hq2 hB2
              by_cases he : h x = h t
              · have g1 : (h x == h t) = true := by simp [he]
                have HX := Lib.hid (show ¬ DsI h k from fun hd => by have := hd t x htx hxk he.symm; exact this); clear he
                go_wp2_with fail
                go_quiet (fail)
                go_wp2
                go_ret2
                exact Or.inl ⟨9, by omega, Or.inr ⟨HTO.out, by omega, Or.inr (Or.inl ⟨HAL.out, HX.out, rfl⟩)⟩, rfl, by rw [HQ2.out, World.drewN_drewN]; exact HB1.out.trans ((below_drewN (Below.refl _ w1) _).mono hs1)⟩
              · have g1 : (h x == h t) = false := by simp [he]
                have HX := Lib.hid (fun e => he (Eq.symm e) : ¬ h t = h x); clear he
                go_wp2_with fail
                go_quiet (fail)
                go_wp2
                go_roundw
                case rel => exact ⟨t + 1, _, rfl, by omega, by go_num, fun y hy => by
                  by_cases e : y = t
                  · rw [e]; exact HX.out
                  · exact HNE.out y (by omega), _, by rw [HQ2.out, World.drewN_drewN]⟩
                case measure => simp [intOf]; omega
            · obtain rfl : t = x := by omega
              have i2 : ¬ (t : Int) < (t : Int) := by omega
              clear hq2 hB2
              go_wp2
              go_roundw
              case rel => exact ⟨t + 1, _, rfl, by omega, by go_num, fun i j hi hj e => by
                by_cases e1 : j = t
                · subst e1; exact HNE.out i hi e
                · exact HDS.out i j hi (by omega) e, _, HQ2.out⟩
              case measure => simp [intOf]; omega
        · obtain rfl : x = k := by omega
          have i1 : ¬ (x : Int) < (x : Int) := by omega
          have hBx := quiet_b HQ.out
          have HBx := Lib.hid (HB1.out.trans (hBx.mono hs1)); have HTx := Lib.hid (HT1.out.same hBx); have HHx := Lib.hid (HH1.out.same hBx)
          clear hBx HQ
          go_wp2_with fail
          refine (rReady_any (N0 : Nat) a n cap K L (x : Nat) _ HTx.out).mono ?_
          rintro e w2 ⟨hns, hB2⟩
          have HB2 := Lib.hid (HBx.out.trans (hB2.mono HBx.out.size)); have HT2 := Lib.hid (HTx.out.same hB2); have HH2 := Lib.hid (HHx.out.same hB2)
          clear hB2
          rcases hns with ⟨hno, _⟩ | ⟨_, mm, hmm, rfl⟩
          · exact absurd HTO.out hno
          have HMM := Lib.hid hmm
          have hmn := hmm.1
          have hs2 := HB2.out.size
          obtain ⟨i0, hi, hz0, hz1, hz2⟩ := info_parts Tryz.infoHeldR
          have HI := Lib.hid hi; have HZ0 := Lib.hid hz0; have HZ1 := Lib.hid hz1; have HZ2 := Lib.hid hz2
          obtain ⟨j0, hj, hy0, hy1, hy2⟩ := info_parts Tryz.infoRow
          have HJ := Lib.hid hj; have HY0 := Lib.hid hy0; have HY1 := Lib.hid hy1; have HY2 := Lib.hid hy2
          clear hi hz0 hz1 hz2 hj hy0 hy1 hy2 hmm HBx HTx HHx HT1 HH1 HB1 HBAD HALL
          go_wp2_with fail
          go_loopw [13, 14, 17] (fun o at_ i wr => ∃ (k : Nat) (oa : Option Addr) (oc : Nat) (r2 : Nat → Option Addr) (c2 : Nat → Nat) (W : World), W = wr ∧ k ≤ mm ∧ i = .int .i64 k ∧ at_ = .int .i64 (off K L k : Nat) ∧ o = .slice oa k oc ∧ wr.ownsRow w2.heap.size 50 1 (.slice oa k oc) k (rls r2 (fun j => (L j).toNat) c2 k) ∧ (∀ j, j < k → Nw wr w2.heap.size (r2 j) (L j).toNat (c2 j) (gatF h K L f j)) ∧ Below w2.heap.size w2 wr) (fun _ _ i _ => mm - (intOf i).toNat)
          case atStart => exact ⟨0, none, 0, fun _ => none, fun _ => 0, _, rfl, by omega, rfl, rfl, rfl, World.ownsRow_nil _ _ _ _, fun j hj => absurd hj (Nat.not_lt_zero j), Below.refl _ _⟩
          case round =>
            obtain ⟨k, oa, oc, r2, c2, wa, rfl, hk, rfl, rfl, rfl, hO, hN, hB⟩ := hrel
            have HO := Lib.hid hO; have HN := Lib.hid hN; have HB := Lib.hid hB
            have hsa := hB.size
            clear hO hN hB
            by_cases hkm : k < mm
            · have i1 : (k : Int) < (mm : Int) := by omega
              have hkn : k < n := by omega
              have hrow := HTO.out.2.2.2.2 k hkn
              have hkc := HMM.out.2.1 k hkm
              obtain ⟨kx, hkx⟩ : ∃ kx : Nat, K k = (kx : Int) := ⟨(K k).toNat, by have := hrow.1; omega⟩
              obtain ⟨lx, hlx⟩ : ∃ lx : Nat, L k = (lx : Int) := ⟨(L k).toNat, by have := hrow.2.2.1; omega⟩
              have hk1 : 1 ≤ kx := by have := hrow.1; omega
              have hk2 : kx ≤ N0 := by have := hrow.2.1; omega
              have hk3 : kx ≤ x := by omega
              have hl1 : lx ≤ 65535 := by have := hrow.2.2.2.1; omega
              have hbad : ¬ Bad (L k) (K k) := by unfold Bad; omega
              have hwi := widI_ok hbad
              rw [hkx, hlx, Int.toNat_natCast, Int.toNat_natCast] at hwi
              obtain ⟨wi, hwe⟩ : ∃ wi, wi = wid lx kx := ⟨_, rfl⟩
              obtain ⟨fr, hfe⟩ : ∃ fr, fr = off K L k := ⟨_, rfl⟩
              have hfw : fr + wi ≤ T := by
                have h1 : off K L (k + 1) ≤ off K L n := off_mono _ _ (by omega)
                have h2 : off K L (k + 1) = off K L k + widI (L k) (K k) := rfl
                rw [hkx, hlx, hwi] at h2
                have := HTT.out
                omega
              have HOF := Lib.hid (show off K L (k + 1) = fr + wi by
                show off K L k + widI (L k) (K k) = _
                rw [hkx, hlx, hwi, hfe, hwe])
              have HGF := Lib.hid (show gatF h K L f k = Sp.cut0 (Sp.jn (dcd h kx fun i => sub (f i) fr wi) wi) lx by
                unfold gatF layF
                rw [hkx, hlx, Int.toNat_natCast, Int.toNat_natCast, ← hwe, ← hfe]; rfl)
              obtain ⟨tb, to_, eta, d1, d2⟩ := (HT2.out.same HB.out).cell k hkn
              have ETA := Lib.hid (show a = some ⟨tb, to_, none⟩ from eta)
              subst eta
              rw [hkx] at d1
              rw [hlx] at d2
              have HRW := Lib.hid (rwid_any (kx : Int) (lx : Int) wa)
              rw [show widI (lx : Int) (kx : Int) = wi by rw [hwi, hwe]] at HRW
              have HKX := Lib.hid hkx; have HLX := Lib.hid hlx; have HWE := Lib.hid hwe
              have hD1 := Lib.hid d1; have hD2 := Lib.hid d2
              rw [← hfe]
              clear hkx hlx hbad hwi hwe hfe hrow hkc
              go_wp2_with fail
              refine HRW.out.mono ?_
              rintro e w3 ⟨rfl, hB3⟩
              have HB3 := Lib.hid hB3; have HH3 := Lib.hid ((HH2.out.same HB.out).same hB3)
              have hs3 := hB3.size
              have d1 : w3.cell? _ = _ := (hB3.cell (World.block_lt_of_cell? _ _ hD1.out)).trans hD1.out
              have d2 : w3.cell? _ = _ := (hB3.cell (World.block_lt_of_cell? _ _ hD2.out)).trans hD2.out
              have hD3 := Lib.hid d1; have hD4 := Lib.hid d2
              clear hB3 d1 d2 hD1 hD2
              go_wp2_with fail
              go_loopw [19, 20] (fun s j wr => ∃ (t : Nat) (sa : Option Addr) (sc : Nat) (W : World), W = wr ∧ t ≤ x ∧ j = .int .i64 t ∧ s = .slice sa t sc ∧ wr.ownsRow w3.heap.size 83 2 (.slice sa t sc) t (hdv h (fun i => cutA (r i) fr (c i)) (fun _ => wi) (fun i => c i - fr) t) ∧ Below w3.heap.size w3 wr) (fun _ j _ => x - (intOf j).toNat)
              case atStart => exact ⟨0, none, 0, _, rfl, by omega, rfl, rfl, World.ownsRow_nil _ _ _ _, Below.refl _ _⟩
              case round =>
                obtain ⟨t, sa, sc, wz, rfl, ht, rfl, rfl, hO, hBz⟩ := hrel
                have HOZ := Lib.hid hO; have HBZ := Lib.hid hBz
                have hsz := hBz.size
                clear hO hBz
                by_cases htx : t < x
                · have i2 : (t : Int) < (x : Int) := by omega
                  obtain ⟨ab, ao, ea, c1, c2'⟩ := (HH3.out.same HBZ.out).cell t htx
                  have EA := Lib.hid (show ha = some ⟨ab, ao, none⟩ from ea)
                  have hlt : l t = T := by have := (HAL.out t htx).2; rw [← HTT.out] at this; exact this
                  have hct := HCC.out t htx
                  rw [hlt] at c2' hct
                  subst ea
                  obtain ⟨hi, hhi⟩ : ∃ hi : Nat, hi = fr + wi := ⟨_, rfl⟩
                  have w1' : IntKind.i64.wrap ((fr : Int) + (wi : Int)) = (hi : Int) := by rw [IntWalk.i64_in _ (by omega)]; omega
                  have w2' : (hi : Int) ≤ (c t : Int) := by omega
                  have w3' : hi ≤ c t := by omega
                  have w4' : fr ≤ hi := by omega
                  have w5' : hi - fr = wi := by omega
                  have w6' : (if c t = fr then r t else Option.map (fun x => x.add fr) (r t)) = cutA (r t) fr (c t) := rfl
                  clear hhi
                  have HRO := Lib.hid (show ∀ W, Below wz.heap.size wz W → W.ownsRow w3.heap.size 83 2 (.slice sa t sc) t (hdv h (fun i => cutA (r i) fr (c i)) (fun _ => wi) (fun i => c i - fr) t) from fun W hW => own_below HOZ.out hW)
                  have hal : Below wz.heap.size wz (wz.alloc (.cells #[.int .i64 (h t), .slice (cutA (r t) fr (c t)) wi (c t - fr)] 83)).drew := below_dr ((Below.refl _ wz).alloc (Nat.le_refl _) _) 1
                  have hnew : ∀ j u, [Value.int .i64 (h t), Value.slice (cutA (r t) fr (c t)) wi (c t - fr)][j]? = some u → ((wz.alloc (.cells #[.int .i64 (h t), .slice (cutA (r t) fr (c t)) wi (c t - fr)] 83)).drew).cell? ((⟨wz.heap.size, 0, none⟩ : Addr).add j) = some u := cell_new2 wz _ _ 83
                  have hbb : w3.heap.size ≤ ((wz.alloc (.cells #[.int .i64 (h t), .slice (cutA (r t) fr (c t)) wi (c t - fr)] 83)).drew).heap.size := Nat.le_trans hsz hal.size
                  have HAL2 := Lib.hid hal; have HNEW := Lib.hid hnew; have HBB := Lib.hid hbb
                  clear hal hnew hbb hlt hct
                  go_wp2_with fail
                  go_region_law ((refine step_append_own rfl (.tmp 113) (.tmp 130) 43 rfl w3.heap.size 83 i0 (.agg #[.int .i64 0, .slice none 0 0]) 2 32 Tryz.underlying43 HI.out HZ0.out HZ1.out HZ2.out rfl (by decide) (.slice sa t sc) t _ rfl (HRO.out _ HAL2.out) ⟨wz.heap.size, 0, none⟩ 1 1 [.int .i64 (h t), .slice (cutA (r t) fr (c t)) wi (c t - fr)] rfl rfl HNEW.out (pair_ones _ _ _ _) (by unfold maxLen; omega) (by omega) HBB.out ?_; intro v6 w6 hown6 hgrow6; obtain ⟨g6, c6, rfl⟩ := own_slice hown6; have HOWN6 := Lib.hid hown6; have HB6 := Lib.hid (HBZ.out.trans ((HAL2.out.mono hsz).trans ((Below.refl w3.heap.size _).grown hgrow6 HBB.out (fun k e => ((HRO.out _ HAL2.out).lt k e).1)))); clear hown6 hgrow6))
                  all_goals
                    go_wp2
                    go_roundw
                    case rel => exact ⟨t + 1, _, c6, _, rfl, by omega, by go_num, rfl, HOWN6.out, HB6.out⟩
                    case measure => simp [intOf]; omega
                · obtain rfl : t = x := by omega
                  have i2 : ¬ (t : Int) < (t : Int) := by omega
                  have HS4 := Lib.hid (hdv_hs HOZ.out (f := fun i => sub (f i) fr wi) (sub_bm HH3.out.bm fr wi) (fun i hi => sl_cutA ((HH3.out.same HBZ.out).row i hi) (by have := (HAL.out i hi).2; have := HTT.out; omega)))
                  have d1 : wz.cell? _ = _ := (HBZ.out.cell (World.block_lt_of_cell? _ _ hD3.out)).trans hD3.out
                  have hD5 := Lib.hid ((HBZ.out.cell (World.block_lt_of_cell? _ _ hD4.out)).trans hD4.out)
                  have HB4 := Lib.hid (HB.out.trans ((HB3.out.trans (HBZ.out.mono hs3)).mono hsa))
                  have HB4a := Lib.hid (HB3.out.trans (HBZ.out.mono hs3))
                  go_wp2_with fail
                  refine (rnew_yes N0 kx hk1 hk2 hN5 _).mono ?_
                  rintro e w5 ⟨rfl, hC5, hB5⟩
                  have HC5 := Lib.hid hC5; have HS5 := Lib.hid (HS4.out.same hB5); have HB5 := Lib.hid (HB4a.out.trans (hB5.mono HB4a.out.size))
                  have hD6 := Lib.hid ((hB5.cell (World.block_lt_of_cell? _ _ hD5.out)).trans hD5.out)
                  clear hC5 hB5 d1 hD5 HS4
                  go_wp2_with fail
                  refine (rdecode_any _ N0 kx sa t sc h _ (fun _ => wi) _ (fun i => sub (f i) fr wi) hk1 hk2 hN5 hm (fun _ _ => by omega) _ HC5.out HS5.out).mono ?_
                  intro e w6 hq
                  have HCK := Lib.hid (show ∀ E, DChk h (fun _ => wi) t N0 kx E → E = 0 from fun E hE => hE.uniq (Or.inr ⟨fun _ _ => rfl, Or.inr (Or.inr (Or.inr ⟨fun i hi => by have := (HAL.out i hi).1; rw [Int.toNat_natCast] at this; exact this, HDS.out, hk3, rfl⟩))⟩))
                  rcases hq with ⟨E2, hE2, hck, _⟩ | ⟨_, G6, s6, b6, c6, rfl, hG6, hB6⟩
                  · exact absurd (HCK.out _ hck) hE2
                  have HG6 := Lib.hid hG6; have HB6 := Lib.hid (HB5.out.trans (hB6.mono HB5.out.size))
                  have d2 : w6.cell? _ = _ := (hB6.cell (World.block_lt_of_cell? _ _ hD6.out)).trans hD6.out
                  clear hG6 hB6 HC5 HS5 HCK hD6
                  go_wp2_with fail
                  refine (Sp.rjoin_ok (some ⟨G6, 0, none⟩) kx s6 lx _ (fun _ => wi) _ (dcd h kx fun i => sub (f i) fr wi) hl1 hk1 (by omega) _ HG6.out.rd).mono ?_
                  rintro e w7 ⟨hB7, ⟨_, i, hi, hne⟩ | ⟨_, pa7, c7, rfl, hN7⟩⟩
                  · exact absurd HWE.out hne
                  rw [← HWE.out, ← HGF.out] at hN7
                  have HB7 := Lib.hid (HB6.out.trans (hB7.mono HB6.out.size)); have HN7 := Lib.hid (hN7.mono (show w2.heap.size ≤ w6.heap.size from Nat.le_trans hsa HB6.out.size))
                  clear hB7 hN7 d2 HG6
                  have hal : Below w7.heap.size w7 (w7.alloc (.cells #[.slice pa7 lx c7] 50)) := (Below.refl _ w7).alloc (Nat.le_refl _) _
                  have HB8 := Lib.hid (HB7.out.trans (hal.mono HB7.out.size)); have HN8 := Lib.hid (HN7.out.below hal)
                  have HO8 := Lib.hid (own_below HO.out (HB7.out.trans (hal.mono HB7.out.size)))
                  have hbb8 : w2.heap.size ≤ (w7.alloc (.cells #[.slice pa7 lx c7] 50)).heap.size := Nat.le_trans hsa HB8.out.size
                  clear hal
                  go_wp2_with ((show wpList _ _ _ (⟨some 161, _, _, _, _, _⟩ :: _) _ _; refine wpList_append_own (o := ⟨some 161, _, _, _, _, _⟩) _ rfl (.tmp 158) (.tmp 160) 22 rfl w2.heap.size 50 j0 (.slice none 0 0) 1 24 Tryz.underlying22 HJ.out HY0.out HY1.out HY2.out rfl (by decide) _ k _ rfl HO8.out ⟨w7.heap.size, 0, none⟩ 1 1 [.slice pa7 lx c7] rfl rfl (cell_new1 _ _ _) (by intro u hu; rw [List.mem_singleton.1 hu]; rfl) (by unfold maxLen; omega) (by omega) hbb8 ?_; intro v9 w9 hown9 hgr9 _; have HOWN9 := Lib.hid hown9; have HGR9 := Lib.hid hgr9; clear hown9 hgr9))
                  obtain ⟨g9, c9, rfl⟩ := own_slice HOWN9.out
                  have hN9 : ∀ j, j < k + 1 → Nw w9 w2.heap.size (if j = k then pa7 else r2 j) (L j).toNat (if j = k then c7 else c2 j) (gatF h K L f j) := fun j hj => by
                    by_cases e : j = k
                    · subst e
                      rw [if_pos rfl, if_pos rfl, HLX.out, Int.toNat_natCast]
                      exact nw_stay HN8.out HO8.out HGR9.out
                    · rw [if_neg e, if_neg e]
                      exact nw_stay ((HN.out j (by omega)).below HB8.out) HO8.out HGR9.out
                  have hO9 : w9.ownsRow w2.heap.size 50 1 (.slice g9 (k + 1) c9) (k + 1) (rls (fun j => if j = k then pa7 else r2 j) (fun j => (L j).toNat) (fun j => if j = k then c7 else c2 j) (k + 1)) := by
                    have := HOWN9.out
                    rw [rls_s]
                    have e1 : rls (fun j => if j = k then pa7 else r2 j) (fun j => (L j).toNat) (fun j => if j = k then c7 else c2 j) k = rls r2 (fun j => (L j).toNat) c2 k := by
                      unfold rls
                      exact List.map_congr_left fun i hi => by
                        have := List.mem_range.1 hi
                        show Value.slice (if i = k then pa7 else r2 i) _ (if i = k then c7 else c2 i) = _
                        rw [if_neg (by omega), if_neg (by omega)]
                    rw [e1]
                    simp only [if_true]
                    rw [HLX.out, Int.toNat_natCast]
                    exact this
                  have HN9 := Lib.hid hN9; have HO9 := Lib.hid hO9
                  have HB9 := Lib.hid ((HB.out.trans (HB8.out.mono hsa)).grown HGR9.out hbb8 (fun q e => (HO8.out.lt q e).1))
                  clear hN9 hO9
                  go_wp2
                  go_roundw
                  case rel => exact ⟨k + 1, _, c9, _, _, _, rfl, by omega, by go_num, by rw [HOF.out]; go_num, rfl, HO9.out, HN9.out, HB9.out⟩
                  case measure => simp [intOf]; omega
            · obtain rfl : k = mm := by omega
              have i1 : ¬ (k : Int) < (k : Int) := by omega
              go_wp2
              go_ret2
              refine Or.inr ⟨HTO.out, HAL.out, HDS.out, k, HMM.out, oa, oc, r2, c2, rfl, rls_rd HO.out (gatG_bm HTO.out h HH2.out.bm hmn) (fun j hj => ?_), HB2.out.trans (HB.out.mono hs2)⟩
              unfold gatG
              rw [if_pos hj]
              exact (HN.out j hj).sl
end Go.Proofs.YtkejabhjlflknaaGreat.Ly

namespace Go.Proofs.YtkejabhjlflknaaGreat.Ly
open Go.RowKit Go.Shelf

/-- a row that marks. -/
def mkT (i : Nat) : Int := 8000024 + (i : Int)
theorem markT_any (i : Int) (hi0 : 0 ≤ i) (hi : i ≤ 1000000000000) (w : World) :
    Calls Tryz.prog 39 #[.int .i64 1, .int .i64 i] w fun e w' => e = .returned (.agg #[.int .i64 (8000024 + i), .int .i64 0]) ∧ Below w.heap.size w w' := by
  have hB := (Below.refl w.heap.size w).alloc (Nat.le_refl _) (.cells #[.int .i64 (8000024 + i), .int .i64 0] 48)
  have HB := Lib.hid hB; clear hB
  go_enter Tryz.func39, Tryz.ntmps39
  go_wp2_with fail
  refine (mark_any 1 i (by omega) (by omega) hi0 hi _).mono ?_
  rintro e w' ⟨rfl, hw'⟩
  rw [hw']; clear hw'
  have e8 : (1000003 * (1 + 7) + i : Int) = 8000024 + i := by omega
  rw [e8]
  go_wp2
  exact bodyPost_ret (results_cell_row rfl _ _ w.heap.size _ _ (0, 0) _ rfl (heap_alloc_new w _) Tryz.underlying48 rfl (by kernel_rfl)) rfl ⟨rfl, HB.out⟩
def tK (K : Nat → Int) (n i : Nat) : Int := if i < n then K i else mkT (i - n)
def tL (L : Nat → Int) (n i : Nat) : Int := if i < n then L i else 0
theorem tdl_congr {K K' L L' : Nat → Int} : ∀ t, (∀ i, i < t → K i = K' i ∧ L i = L' i) → tdl K L t = tdl K' L' t
  | 0, _ => rfl
  | t + 1, h => by
    unfold tdl
    rw [tdl_congr t (fun i hi => h i (by omega)), (h t (by omega)).1, (h t (by omega)).2]
theorem tdl_ones (K L : Nat → Int) : ∀ t, ∀ u ∈ tdl K L t, u.oneCell' = true
  | 0, u, h => by cases h
  | t + 1, u, h => by
    unfold tdl at h
    rcases List.mem_append.1 h with h | h
    · exact tdl_ones K L t u h
    · exact int_ones _ _ u h
theorem tb_news {w : World} {a : Option Addr} {n : Nat} {K L : Nat → Int} (hT : Tb w a n K L) : ∀ ad, a = some ad → ∀ j u, (tdl K L n)[j]? = some u → w.cell? (ad.add j) = some u := fun ad e j u hj => by
  have hjn : j < n * 2 := by have := (List.getElem?_eq_some_iff.1 hj).1; rwa [tdl_len] at this
  obtain ⟨b, o, ea, h1, h2⟩ := hT.cell (j / 2) (by omega)
  obtain ⟨t1, t2⟩ := tdl_at K L n (j / 2) (by omega)
  rw [e] at ea
  cases ea
  rw [Lib.add_plain8]
  rcases Nat.mod_two_eq_zero_or_one j with hm | hm
  · have ej : j / 2 * 2 = j := by omega
    rw [ej] at t1 h1
    rw [hj] at t1
    cases t1; exact h1
  · have ej : j / 2 * 2 + 1 = j := by omega
    rw [Nat.add_assoc, ej] at h2
    rw [ej, hj] at t2
    cases t2; exact h2
set_option maxHeartbeats 2000000 in
set_option maxRecDepth 100000 in
theorem lentTable_any (a : Option Addr) (n cap : Nat) (K L : Nat → Int) (w : World) (hT : Tb w a n K L) (hnil : a = none → n = 0 ∧ cap = 0) (hl : n ≤ 1000000) :
    Calls Tryz.prog 17 #[.slice a n cap] w fun e w' =>
      e = .returned (.slice (some ⟨w.heap.size, 0, none⟩) n (n + 12)) ∧ Tb w' (some ⟨w.heap.size, 0, none⟩) (n + 12) (tK K n) (tL L n) ∧ Below w.heap.size w w' := by
  obtain ⟨i0, hi, hz0, hz1, hz2⟩ := info_parts Tryz.infoTRow
  have HT := Lib.hid hT; have HN := Lib.hid hnil; clear hT hnil
  have HI := Lib.hid hi; have HZ0 := Lib.hid hz0; have HZ1 := Lib.hid hz1; have HZ2 := Lib.hid hz2
  clear hi hz0 hz1 hz2
  go_enter Tryz.func17, Tryz.ntmps17
  go_wp2_with (first
    | (at_make; refine wpList_make_own _ rfl _ _ _ rfl w.heap.size 48 i0 (.agg #[.int .i64 0, .int .i64 0]) 2 Tryz.underlying36 HI.out HZ0.out HZ1.out .i64 .i64 _ (n + 12) rfl rfl (by omega) (by rw [HZ2.out]; omega) (by unfold maxLen; omega) (Nat.le_refl _) ?_; intro w1 hown1 hgrow1; have HO1 := Lib.hid hown1; have HB1 := Lib.hid ((Below.refl w.heap.size w).grown hgrow1 (Nat.le_refl _) (by simp)); clear hown1 hgrow1)
    | (at_builtin; refine wpList_append_fits_any _ rfl _ _ _ rfl w.heap.size 48 i0 2 Tryz.underlying36 HI.out HZ1.out w.heap.size 0 (n + 12) [] rfl HO1.out a n cap (tdl K L n) rfl (tdl_len K L n) HN.out (tb_news (HT.out.same HB1.out)) (tdl_ones K L n) (by omega) ?_; intro w2 hown2 hgrow2; rw [Nat.zero_add, List.nil_append] at hown2; have HO2 := Lib.hid hown2; have HB2 := Lib.hid (HB1.out.grown hgrow2 HB1.out.size (by intro k hk; cases hk; exact Nat.le_refl _)); clear hown2 hgrow2))
  clear HO1 HB1
  go_loopw [3, 4] (fun o i wr => ∃ (k : Nat) (W : World), W = wr ∧ k ≤ 12 ∧ i = .int .i64 k ∧ o = .slice (some ⟨w.heap.size, 0, none⟩) (n + k) (n + 12) ∧ wr.ownsRow w.heap.size 48 2 (.slice (some ⟨w.heap.size, 0, none⟩) (n + k) (n + 12)) (n + k) (tdl (tK K n) (tL L n) (n + k)) ∧ Below w.heap.size w wr) (fun _ i _ => 12 - (intOf i).toNat)
  case atStart => exact ⟨0, _, rfl, by omega, rfl, by simp, by rw [Nat.add_zero, tdl_congr (K := tK K n) (K' := K) (L := tL L n) (L' := L) n (fun i hi => ⟨if_pos hi, if_pos hi⟩)]; exact HO2.out, HB2.out⟩
  case round =>
    obtain ⟨k, wx, rfl, hk, rfl, rfl, hO, hB⟩ := hrel
    have HO := Lib.hid hO; have HB := Lib.hid hB; clear hO hB
    by_cases hlt : k < 12
    · have hge := HB.out.size
      go_wp2_with (first
        | (go_at_call 39; refine (markT_any (k : Int) (by omega) (by omega) _).mono ?_; rintro e w3 ⟨rfl, hB3⟩; have HB3 := Lib.hid hB3; clear hB3)
        | (at_builtin; refine wpList_append_fits _ rfl _ _ _ rfl w.heap.size 48 i0 2 Tryz.underlying36 HI.out HZ1.out w.heap.size (n + k) (n + 12) _ rfl ((own_below HO.out HB3.out).alloc _) _ 1 1 [.int .i64 (8000024 + (k : Int)), .int .i64 0] rfl rfl (cell_new2 _ _ _ _) (int_ones _ _) (by omega) ?_; intro w4 hown4 hgrow4; have hown4 : w4.ownsRow w.heap.size 48 2 _ _ (tdl (tK K n) (tL L n) (n + k + 1)) := (by
              have e1 : tK K n (n + k) = 8000024 + (k : Int) := by unfold tK mkT; rw [if_neg (by omega)]; omega
              have e2 : tL L n (n + k) = 0 := if_neg (by omega)
              unfold tdl; rw [e1, e2]; exact hown4); have HO4 := Lib.hid hown4; have HB4 := Lib.hid ((HB.out.trans (HB3.out.mono hge)).alloc (Nat.le_trans hge HB3.out.size) _ |>.grown hgrow4 (by have := HB3.out.size; simp; omega) (by intro k hk; cases hk; exact Nat.le_refl _)); clear hown4 hgrow4))
      go_roundw
      case rel => exact ⟨k + 1, _, rfl, by omega, by go_num, rfl, HO4.out, HB4.out⟩
      case measure => simp [intOf]; omega
    · obtain rfl : k = 12 := by omega
      go_wp2
      go_ret
      exact ⟨rfl, (tdl_tb HO.out).1, HB.out⟩
end Go.Proofs.YtkejabhjlflknaaGreat.Ly

namespace Go.Proofs.YtkejabhjlflknaaGreat.Ly
open Go.RowKit Go.Shelf

set_option maxHeartbeats 2000000 in
set_option maxRecDepth 100000 in
theorem keptTable_any (g : Nat) (a : Option Addr) (n cap : Nat) (K L : Nat → Int) (w : World) (hT : Tb w a n K L) (_hcap : n ≤ cap) (hG : Tb w (some ⟨g, 0, none⟩) (n + 12) (tK K n) (tL L n)) (hl : n ≤ 1000000) :
    Calls Tryz.prog 22 #[.slice (some ⟨g, 0, none⟩) n (n + 12), .slice a n cap] w fun e w' => e = .returned (.bool true) ∧ Below w.heap.size w w' := by
  have HT := Lib.hid hT; have HG := Lib.hid hG; clear hT hG
  have hne : ((n : Int) != (n : Int)) = false := by simp
  go_enter Tryz.func22, Tryz.ntmps22
  go_wp2_with fail
  go_loopw [6] (fun i wr => ∃ (k : Nat) (W : World), W = wr ∧ k ≤ n + 12 ∧ i = .int .i64 k ∧ Below w.heap.size w wr) (fun i _ => n + 12 - (intOf i).toNat)
  case atStart => exact ⟨0, _, rfl, by omega, rfl, Below.refl _ _⟩
  case round =>
    obtain ⟨k, wx, rfl, hk, rfl, hB⟩ := hrel
    have HB := Lib.hid hB; clear hB
    by_cases hlt : k < n
    · obtain ⟨b, off, e1, c1, c2⟩ := (HT.out.same HB.out).cell k hlt
      obtain ⟨b', off', e2, d1, d2⟩ := (HG.out.same HB.out).cell k (by omega)
      cases e2
      rw [show tK K n k = K k from if_pos hlt] at d1
      rw [show tL L n k = L k from if_pos hlt] at d2
      rw [Nat.zero_add] at d1 d2
      subst e1
      generalize K k = u at c1 d1
      generalize L k = v at c2 d2
      have i1 : (k : Int) < (n : Int) := by omega
      have i2 : (k : Int) < (n : Int) + 12 := by omega
      have i5 : decide (n ≤ k) = false := by simp; omega
      have g5 : (v == v) = true := by simp
      have g6 : (u == u) = true := by simp
      go_wp2_with fail
      go_quiet (fail)
      go_wp2
      go_roundw
      case rel => exact ⟨k + 1, _, rfl, by omega, by go_num, HB.out.trans ((below_drewN (Below.refl _ _) _).mono HB.out.size)⟩
      case measure => simp [intOf]; omega
    · by_cases hlt2 : k < n + 12
      · obtain ⟨b', off', e2, d1, d2⟩ := (HG.out.same HB.out).cell k hlt2
        cases e2
        have hmk : tK K n k = 8000024 + ((k : Int) - (n : Int)) := by unfold tK mkT; rw [if_neg hlt]; omega
        rw [hmk] at d1
        rw [show tL L n k = 0 from if_neg hlt] at d2
        rw [Nat.zero_add] at d1 d2
        clear hmk
        have i1 : ¬ (k : Int) < (n : Int) := by omega
        have i2 : (k : Int) < (n : Int) + 12 := by omega
        have i4 : decide (k < n) = false := by simp; omega
        have i5 : decide (n ≤ k) = true := by simp; omega
        have i6 : IntKind.i64.wrap ((k : Int) - (n : Int)) = (k : Int) - (n : Int) := IntWalk.i64_in _ (by omega)
        obtain ⟨d, hd⟩ : ∃ d : Nat, (k : Int) - (n : Int) = (d : Int) := ⟨k - n, by omega⟩
        rw [hd] at d1 i6
        have hd9 : d < 12 := by omega
        have y1 := fun d os => cell_regrown d1 d os
        have y2 := fun d os => cell_regrown d2 d os
        go_wp2_with fail
        refine wp_region_quiet_below (by kernel_rfl) (by kernel_rfl) ?_
        repeat (go_big_quiet_step ((go_at_call 39; exact Calls.regrown_of (markT_any (d : Int) (by omega) (by omega) _))))
        refine wpQuiet_nil ?_
        rintro W1 ⟨pq, hW1⟩
        have hB1 : Below wx.heap.size wx W1 := by rw [hW1]; exact below_regrown _ _ _
        clear hW1 y1 y2
        go_wp2
        go_roundw
        case rel => exact ⟨k + 1, _, rfl, by omega, by go_num, HB.out.trans (hB1.mono HB.out.size)⟩
        case measure => simp [intOf]; omega
      · obtain rfl : k = n + 12 := by omega
        go_wp2
        go_ret
        exact ⟨rfl, HB.out⟩
end Go.Proofs.YtkejabhjlflknaaGreat.Ly

namespace Go.Proofs.YtkejabhjlflknaaGreat.Ly
open Go.RowKit Go.Shelf

theorem NumSays.form {N : Int} {n : Nat} {K L : Nat → Int} {P : Nat → Prop} {e : Ending} (h : NumSays N n K L P e) : ∃ x y : Int, e = .returned (.tuple #[.int .i64 x, .int .i64 y]) := by
  rcases h with ⟨_, rfl⟩ | ⟨_, m, _, rfl⟩
  · exact ⟨_, _, rfl⟩
  · exact ⟨_, _, rfl⟩
theorem NumSays.same {N : Int} {n : Nat} {K L : Nat → Int} {P : Nat → Prop} {e e2 : Ending} (h : NumSays N n K L P e) (h2 : NumSays N n K L P e2) (hu : ∀ m m', P m → P m' → m = m') : e2 = e := by
  rcases h with ⟨h, rfl⟩ | ⟨h, m, hm, rfl⟩ <;> rcases h2 with ⟨h2, rfl⟩ | ⟨h2, m', hm', rfl⟩
  · rfl
  · exact absurd h2 h
  · exact absurd h h2
  · rw [hu m m' hm hm']
theorem _root_.Go.RowKit.Below.tr {a b c : World} (h : Below a.heap.size a b) (k : Below b.heap.size b c) : Below a.heap.size a c := h.trans (k.mono h.size)
theorem Tb.congr {w : World} {a : Option Addr} {n : Nat} {K L K' L' : Nat → Int} (s : Tb w a n K L) (hK : ∀ i, i < n → K i = K' i) (hL : ∀ i, i < n → L i = L' i) : Tb w a n K' L' := ⟨fun i hi => by
  obtain ⟨b, o, e, h1, h2⟩ := s.cell i hi
  exact ⟨b, o, e, by rw [← hK i hi]; exact h1, by rw [← hL i hi]; exact h2⟩⟩
set_option maxHeartbeats 4000000 in
set_option maxRecDepth 100000 in
theorem layTables_any (N came : Int) (a : Option Addr) (n cap : Nat) (K L : Nat → Int) (w : World) (hT : Tb w a n K L) (hnil : a = none → n = 0 ∧ cap = 0) (hcap : n ≤ cap) :
    Calls Tryz.prog 23 #[.int .i64 N, .slice a n cap, .int .i64 came] w fun e w' => e = .returned (.bool true) ∧ Below w.heap.size w w' := by
  have HT := Lib.hid hT; have HN := Lib.hid hnil; clear hT hnil
  go_enter Tryz.func23, Tryz.ntmps23
  by_cases h300 : n ≤ 300
  · have i1 : ¬ (300 : Int) < (n : Int) := by omega
    go_wp2_with fail
    refine (lentTable_any a n cap K L _ HT.out HN.out (by omega)).mono ?_
    rintro e w1 ⟨rfl, hG1, hB1⟩
    have HB1 := Lib.hid hB1; have HT1 := Lib.hid (HT.out.same hB1); have HG1 := Lib.hid hG1
    have HU1 := Lib.hid ((hG1.less (k := n) (by omega)).congr (K' := K) (L' := L) (fun i hi => if_pos hi) (fun i hi => if_pos hi))
    clear hB1 hG1
    obtain ⟨g, hg⟩ : ∃ g, w.heap.size = g := ⟨_, rfl⟩
    rw [hg] at HG1 HU1 ⊢
    go_wp2_with fail
    refine (lLong_any N _ n _ K L _ HU1.out).mono ?_
    rintro e w2 ⟨he1, hB2⟩
    obtain ⟨x1, y1, rfl⟩ := he1.form
    have HE1 := Lib.hid he1; have HB2 := Lib.hid hB2; have HT2 := Lib.hid (HT1.out.same hB2); have HU2 := Lib.hid (HU1.out.same hB2); have HG2 := Lib.hid (HG1.out.same hB2)
    clear he1 hB2 HU1 HT1 HG1
    go_wp2_with fail
    refine (rLong_any N a n cap K L _ HT2.out).mono ?_
    rintro e w3 ⟨he2, hB3⟩
    obtain rfl := HE1.out.same he2 (fun m m' h h' => h.trans h'.symm)
    have HB3 := Lib.hid hB3; have HT3 := Lib.hid (HT2.out.same hB3); have HU3 := Lib.hid (HU2.out.same hB3); have HG3 := Lib.hid (HG2.out.same hB3)
    clear he2 hB3 HU2 HT2 HG2 HE1
    go_wp2_with fail
    refine (lReady_any N _ n _ K L came _ HU3.out).mono ?_
    rintro e w4 ⟨he3, hB4⟩
    obtain ⟨x2, y2, rfl⟩ := he3.form
    have HE3 := Lib.hid he3; have HB4 := Lib.hid hB4; have HT4 := Lib.hid (HT3.out.same hB4); have HU4 := Lib.hid (HU3.out.same hB4); have HG4 := Lib.hid (HG3.out.same hB4)
    clear he3 hB4 HU3 HT3 HG3
    go_wp2_with fail
    refine (rReady_any N a n cap K L came _ HT4.out).mono ?_
    rintro e w5 ⟨he4, hB5⟩
    obtain rfl := HE3.out.same he4 (fun m m' h h' => h.uniq h')
    have HB5 := Lib.hid hB5; have HT5 := Lib.hid (HT4.out.same hB5); have HU5 := Lib.hid (HU4.out.same hB5); have HG5 := Lib.hid (HG4.out.same hB5)
    clear he4 hB5 HU4 HT4 HG4 HE3
    have b1 : (x1 == x1) = true := by simp
    have b2 : (y1 == y1) = true := by simp
    have b3 : (x2 == x2) = true := by simp
    have b4 : (y2 == y2) = true := by simp
    go_wp2_with fail
    refine (lRight_any N _ n _ K L _ HU5.out).mono ?_
    rintro e w6 ⟨⟨v, rfl, hv⟩, hB6⟩
    have HV := Lib.hid hv
    have HB6 := Lib.hid hB6; have HT6 := Lib.hid (HT5.out.same hB6); have HG6 := Lib.hid (HG5.out.same hB6)
    clear hv hB6 HU5 HT5 HG5
    go_wp2_with fail
    refine (rRight_any N a n cap K L _ HT6.out).mono ?_
    rintro e w7 ⟨⟨v', rfl, hv'⟩, q, hq⟩
    obtain rfl : v' = v := by
      have h := HV.out
      cases v <;> cases v' <;> simp_all
    have hB7 : Below w6.heap.size w6 w7 := by rw [hq]; exact below_drewN (Below.refl _ _) q
    have HB7 := Lib.hid hB7; have HT7 := Lib.hid (HT6.out.same hB7); have HG7 := Lib.hid (HG6.out.same hB7)
    clear hv' hB7 hq HT6 HG6 HV
    have b5 : (v' == v') = true := by simp
    go_wp2_with fail
    refine (keptTable_any g a n cap K L _ HT7.out hcap HG7.out (by omega)).mono ?_
    rintro e w8 ⟨rfl, hB8⟩
    have HB8 := Lib.hid hB8
    clear hB8 HT7 HG7
    go_wp2_with fail
    refine (awakeA_any _).mono ?_
    rintro e w9 ⟨rfl, hB9⟩
    have HB9 := Lib.hid hB9
    clear hB9
    go_wp2
    go_ret
    exact ⟨rfl, HB1.out.tr HB2.out |>.tr HB3.out |>.tr HB4.out |>.tr HB5.out |>.tr HB6.out |>.tr HB7.out |>.tr HB8.out |>.tr HB9.out⟩
  · have i1 : (300 : Int) < (n : Int) := by omega
    go_wp2_with fail
    refine (awakeA_any _).mono ?_
    rintro e w1 ⟨rfl, hB1⟩
    have HB1 := Lib.hid hB1; clear hB1
    go_wp2
    go_ret
    exact ⟨rfl, HB1.out⟩
end Go.Proofs.YtkejabhjlflknaaGreat.Ly

namespace Go.Proofs.YtkejabhjlflknaaGreat.Ly
open Go.RowKit Go.Shelf

theorem GatErr.uniq {N : Int} {n : Nat} {K L h : Nat → Int} {l : Nat → Nat} {m : Nat} {E E' : Int} (a : GatErr N n K L h l m E) (b : GatErr N n K L h l m E') : E = E' := by
  rcases a with ⟨a1, rfl⟩ | ⟨a1, _, a2⟩ <;> rcases b with ⟨b1, rfl⟩ | ⟨b1, _, b2⟩
  · rfl
  · exact absurd b1 a1
  · exact absurd a1 b1
  · exact a2.uniq b2
theorem GatErr.no {N : Int} {n : Nat} {K L h : Nat → Int} {l : Nat → Nat} {m : Nat} {E : Int} (a : GatErr N n K L h l m E) (h1 : TabOk N n K L) (h2 : AllH h l m N.toNat (off K L n)) (h3 : DsI h m) : False := by
  rcases a with ⟨a1, _⟩ | ⟨_, a1, ⟨a2, _⟩ | ⟨_, a2, _⟩ | ⟨_, _, a2⟩⟩
  · exact a1 h1
  · exact a2 h2
  · exact a2 h3
  · exact a1 a2
/-- both answers of Gather. -/
theorem gat_both (N : Int) (n : Nat) (K L : Nat → Int) (h : Nat → Int) (l : Nat → Nat) (m : Nat) (f : Nat → Nat → Nat) : ∃ (hh : Nat) (LL : Nat → Nat) (F : Nat → Nat → Nat) (E : Int), hh ≤ 8 ∧ (∀ i, i < hh → LL i ≤ 1000000) ∧
    (∀ w e w', GatAny w N n K L h l m f e w' → OuL hh LL F E w e w') ∧ (∀ w e w', RGat w N n K L h l m f e w' → OuR hh LL F E w e w') := by
  have hbad : ∀ E, GatErr N n K L h l m E → ∃ (hh : Nat) (LL : Nat → Nat) (F : Nat → Nat → Nat) (E : Int), hh ≤ 8 ∧ (∀ i, i < hh → LL i ≤ 1000000) ∧
      (∀ w e w', GatAny w N n K L h l m f e w' → OuL hh LL F E w e w') ∧ (∀ w e w', RGat w N n K L h l m f e w' → OuR hh LL F E w e w') := fun E hE => by
    refine ⟨0, fun _ => 0, fun _ _ => 0, E, by omega, fun _ _ => Nat.zero_le _, fun w e w' q => ?_, fun w e w' q => ?_⟩
    · rcases q with ⟨E2, _, h2, rfl, hB⟩ | ⟨h1, h2, h3, _⟩
      · obtain rfl := h2.uniq hE
        exact ouL_none _ _ hB
      · exact (hE.no h1 h2 h3).elim
    · rcases q with ⟨E2, _, h2, rfl, hB⟩ | ⟨h1, h2, h3, _⟩
      · obtain rfl := h2.uniq hE
        exact ouR_none _ _ hB
      · exact (hE.no h1 h2 h3).elim
  by_cases h1 : TabOk N n K L
  · by_cases h2 : AllH h l m N.toNat (off K L n)
    · by_cases h3 : DsI h m
      · obtain ⟨mm, hmm⟩ := rdy_ex n K m
        have hmn := hmm.1
        have hn8 := h1.2.2.2.1
        refine ⟨mm, fun j => (L j).toNat, gatG h K L f mm, 0, by omega, fun i hi => (by have := (h1.2.2.2.2 i (by omega)).2.2.2.1; omega : (L i).toNat ≤ 1000000), fun w e w' q => ?_, fun w e w' q => ?_⟩
        · rcases q with ⟨E2, _, h4, _⟩ | ⟨_, _, _, mm2, hm2, G, b, rfl, hG, hB⟩
          · exact (h4.no h1 h2 h3).elim
          · obtain rfl := hmm.uniq hm2
            exact Gr.ouL hG 0 hB
        · rcases q with ⟨E2, _, h4, _⟩ | ⟨_, _, _, mm2, hm2, a, cap, r, c, rfl, hR, hB⟩
          · exact (h4.no h1 h2 h3).elim
          · obtain rfl := hmm.uniq hm2
            exact ⟨_, _, _, _, rfl, hR, hB⟩
      · exact hbad 9 (Or.inr ⟨h1, by omega, Or.inr (Or.inl ⟨h2, h3, rfl⟩)⟩)
    · exact hbad 2 (Or.inr ⟨h1, by omega, Or.inl ⟨h2, rfl⟩⟩)
  · exact hbad 2 (Or.inl ⟨h1, rfl⟩)

set_option maxHeartbeats 8000000 in
set_option maxRecDepth 100000 in
theorem layGathers_any (N : Int) (a ha : Option Addr) (n cap m hc : Nat) (K L : Nat → Int) (h : Nat → Int) (r : Nat → Option Addr) (l c : Nat → Nat) (f : Nat → Nat → Nat) (hm : m ≤ 4398046510976) (hl : ∀ i, i < m → l i ≤ 140737488355328) (hnil : a = none → n = 0 ∧ cap = 0) (hcap : n ≤ cap) (hn : n ≤ 8796093022208) (w : World) (hT : Tb w a n K L) (hH : Hs w ha m h r l c f) :
    Calls Tryz.prog 4 #[.int .i64 N, .slice a n cap, .slice ha m hc] w fun e w' => e = .returned (.bool true) ∧ Below w.heap.size w w' := by
  have HT := Lib.hid hT; have HH := Lib.hid hH; have HL := Lib.hid hl; have HNIL := Lib.hid hnil
  clear hT hH hl hnil
  by_cases c1 : 14 < N ∧ N < 256
  · obtain ⟨c1, c2⟩ := c1
    go_enter Tryz.func4, Tryz.ntmps4
    go_wp2_with fail
    refine (awakeA_any _).mono ?_
    rintro e w1 ⟨rfl, hB⟩
    have HB := Lib.hid hB; clear hB
    go_wp2
    go_ret
    exact ⟨rfl, HB.out⟩
  obtain ⟨hh, LL, F, E, hhh, hLL, kp, kr⟩ := gat_both N n K L h l m f
  have KP := Lib.hid kp; have KR := Lib.hid kr; have HLL := Lib.hid hLL
  have key : (14 < N ∧ ¬ N < 256) ∨ ¬ 14 < N := by omega
  clear kp kr hLL c1
  go_enter Tryz.func4, Tryz.ntmps4
  rcases key with ⟨c2, c3⟩ | c2
  all_goals
    by_cases h300 : 300 < n
    · have i0 : (300 : Int) < (n : Int) := by omega
      go_wp2_with fail
      refine (awakeA_any _).mono ?_
      rintro e w1 ⟨rfl, hB⟩
      have HB := Lib.hid hB; clear hB
      go_wp2
      go_ret
      exact ⟨rfl, HB.out⟩
    have i0 : ¬ (300 : Int) < (n : Int) := by omega
    go_wp2_with fail
    refine (bytesOf10_any ha m hc h r l c f (by omega) _ HH.out).mono ?_
    rintro e w0 ⟨sa, sc, rfl, hO, hB0⟩
    have HB0 := Lib.hid hB0
    have HRD := Lib.hid (rls_rd hO HH.out.bm (fun i hi => (HH.out.same hB0).row i hi))
    have hs0 := hB0.size
    clear hO hB0
    go_wp2_with fail
    refine (sizeT_any sa m sc r l c f (by omega) HL.out _ HRD.out).mono ?_
    rintro e w' ⟨⟨s, rfl, hs, hsz⟩, hw'⟩
    rw [hw']; clear hw'
    have HSZ := Lib.hid hsz; clear hsz
    by_cases c4 : 300 < s
    · have i1 : (300 : Int) < (s : Int) := by omega
      go_wp2_with fail
      refine (awakeA_any _).mono ?_
      rintro e w1 ⟨rfl, hB⟩
      have HB := Lib.hid (HB0.out.trans (hB.mono HB0.out.size)); clear hB
      go_wp2
      go_ret
      exact ⟨rfl, HB.out⟩
    have i1 : ¬ (300 : Int) < (s : Int) := by omega
    obtain ⟨hm9, hl9⟩ := HSZ.out (by omega)
    have HLM := Lib.hid (fun i (hi : i < m) => (Nat.le_trans (hl9 i hi) (by omega) : l i ≤ 1000000))
    have HU := Lib.hid (fun i (hi : i < m) => (HH.out.row i hi).up)
    clear hl9 HSZ HRD
    go_wp2_with fail
    refine (lentTable_any a n cap K L _ (HT.out.same HB0.out) HNIL.out (by omega)).mono ?_
    rintro e w1 ⟨rfl, hG1, hB1⟩
    have HG1 := Lib.hid hG1; have HB1 := Lib.hid (HB0.out.trans (hB1.mono hs0))
    have s1 := hB1.size
    have hs1 := HB1.out.size
    have HU1 := Lib.hid (fun (W : World) (q : Tb W (some ⟨w0.heap.size, 0, none⟩) (n + 12) (tK K n) (tL L n)) => ((q.less (k := n) (by omega)).congr (K' := K) (L' := L) (fun i hi => if_pos hi) (fun i hi => if_pos hi)))
    clear hG1 hB1
    obtain ⟨g, hg⟩ : ∃ g, w0.heap.size = g := ⟨_, rfl⟩
    rw [hg] at HG1 HU1 ⊢
    clear hg
    go_wp2_with fail
    refine (lentH10_any ha m hc h r l c f (by omega) HLM.out _ (HH.out.same HB1.out)).mono ?_
    rintro e w3 ⟨px, cx, bx, rfl, hg, hB3⟩
    have HX3 := Lib.hid hg; have HG3 := Lib.hid (HG1.out.same hB3); have HB3 := Lib.hid (HB1.out.trans (hB3.mono hs1))
    have s3 := hB3.size
    have hs3 := HB3.out.size
    have HXR := Lib.hid (show ∀ i, i < m → bx i < w3.heap.size from fun i hi => (hg.len i hi).lt)
    clear hg hB3 HG1
    go_wp2_with fail
    refine (gather_any N (some ⟨g, 0, none⟩) px n (n + 12) m cx K L h _ l _ f (by omega) (by omega) _ (HU1.out _ HG3.out) (HX3.out.hs HH.out.bm HU.out HLM.out) (fun i _ => Nat.le_add_right _ _)).mono ?_
    intro e w5 hq
    obtain ⟨pm, cm, bm, cmm, rfl, hg, hup, hlo, hlob, hB5⟩ := KP.out _ _ _ hq
    have HM5 := Lib.hid hg; have HLO := Lib.hid hlo; have HLOB := Lib.hid hlob; have HG5 := Lib.hid (HG3.out.same hB5); have HX5 := Lib.hid (HX3.out.same hB5); have HB5 := Lib.hid (HB3.out.trans (hB5.mono hs3))
    have HMR := Lib.hid (show ∀ i, i < hh → bm i < w5.heap.size from fun i hi => by
      rcases hg.2 with ⟨_, e, _⟩ | ⟨G, _, hG⟩
      · omega
      · exact hG.ltb hi)
    have HMG := Lib.hid (show ∀ G, pm = some ⟨G, 0, none⟩ → G < w5.heap.size from fun G e => (hg.lies2.2 G e).2)
    have s5 := hB5.size
    have hs5 := HB5.out.size
    clear hq hg hup hlo hlob hB5 HG3 HX3
    go_wp2_with fail
    refine (theirs10_any ha m hc h r l c f (by omega) _ (HH.out.same HB5.out)).mono ?_
    rintro e w6 ⟨ta, tc, rfl, hg, hB6⟩
    have HT6 := Lib.hid hg; have HM6 := Lib.hid (HM5.out.same hB6); have HG6 := Lib.hid (HG5.out.same hB6); have HX6 := Lib.hid (HX5.out.same hB6); have HB6 := Lib.hid (HB5.out.trans (hB6.mono hs5))
    have s6 := hB6.size
    have hs6 := HB6.out.size
    clear hg hB6 HM5 HG5 HX5
    go_wp2_with fail
    refine (rgather_any N a ta n cap m tc K L h r l c f (by omega) _ (HT.out.same HB6.out) HT6.out (fun i hi => (HH.out.row i hi).capOk)).mono ?_
    intro e w7 hq
    obtain ⟨pp, cp, rp, cpp, rfl, hg, hB7⟩ := KR.out _ _ _ hq
    have HP7 := Lib.hid hg; have HM7 := Lib.hid (HM6.out.same hB7); have HG7 := Lib.hid (HG6.out.same hB7); have HX7 := Lib.hid (HX6.out.same hB7); have HB7 := Lib.hid (HB6.out.trans (hB7.mono hs6))
    have s7 := hB7.size
    have hs7 := HB7.out.size
    have q1 : (E == E) = true := by simp
    clear hq hg hB7 HT6 HM6 HG6 HX6
    go_wp2_with fail
    refine (sameRows_any pm pp hh cm cp _ _ LL _ LL _ F F (by omega) HLL.out _ HM7.out.rd HP7.out (fun _ _ => ⟨rfl, rfl⟩)).mono ?_
    rintro e w8 ⟨rfl, q, hq⟩
    have hB8 := quiet_b hq
    have HM8 := Lib.hid (HM7.out.same hB8); have HG8 := Lib.hid (HG7.out.same hB8); have HX8 := Lib.hid (HX7.out.same hB8); have HB8 := Lib.hid (HB7.out.trans (hB8.mono hs7))
    have s8 := hB8.size
    have hs8 := HB8.out.size
    clear hq hB8 HM7 HG7 HX7 HP7
    go_wp2_with fail
    refine (keptTable_any g a n cap K L _ (HT.out.same HB8.out) hcap HG8.out (by omega)).mono ?_
    rintro e w9 ⟨rfl, hB9⟩
    have HM9 := Lib.hid (HM8.out.same hB9); have HX9 := Lib.hid (HX8.out.same hB9); have HB9 := Lib.hid (HB8.out.trans (hB9.mono hs8))
    have s9 := hB9.size
    have hs9 := HB9.out.size
    clear hB9 HM8 HG8 HX8
    go_wp2_with fail
    refine (bytesOf10_any px m cx h _ l _ f (by omega) _ (HX9.out.hs HH.out.bm HU.out HLM.out)).mono ?_
    rintro e w12 ⟨ra, rc, rfl, hO, hB12⟩
    have HO12 := Lib.hid hO; have HM12 := Lib.hid (HM9.out.same hB12); have HX12 := Lib.hid (HX9.out.same hB12); have HB12 := Lib.hid (HB9.out.trans (hB12.mono hs9))
    have s12 := hB12.size
    have hs12 := HB12.out.size
    clear hO hB12 HM9 HX9
    go_wp2_with fail
    refine (bytesOf10_any ha m hc h r l c f (by omega) _ (HH.out.same HB12.out)).mono ?_
    rintro e w13 ⟨ra', rc', rfl, hO, hB13⟩
    have HM13 := Lib.hid (HM12.out.same hB13); have HX13 := Lib.hid (HX12.out.same hB13); have HB13 := Lib.hid (HB12.out.trans (hB13.mono hs12))
    have HG13 := Lib.hid ((HX12.out.same hB13).pr HH.out.bm HU.out HLM.out (own_below HO12.out hB13) (by omega))
    have HRD13 := Lib.hid (rls_rd hO HH.out.bm (fun i hi => (HH.out.same HB13.out).row i hi))
    have s13 := hB13.size
    have hs13 := HB13.out.size
    clear hO hB13 HM12 HX12
    go_wp2_with fail
    refine (keptRows_any ra ra' m rc rc' _ bx r l c f (by omega) HLM.out _ HG13.out HX13.out.len HRD13.out).mono ?_
    rintro e w14 ⟨rfl, q, hq⟩
    have hB14 := quiet_b hq
    have HM14 := Lib.hid (HM13.out.same hB14); have HX14 := Lib.hid (HX13.out.same hB14); have HB14 := Lib.hid (HB13.out.trans (hB14.mono hs13))
    have s14 := hB14.size
    have hs14 := HB14.out.size
    clear hq hB14 HM13 HX13 HG13 HRD13
    go_wp2_with fail
    refine (bytesOf10_any px m cx h _ l _ f (by omega) _ (HX14.out.hs HH.out.bm HU.out HLM.out)).mono ?_
    rintro e w16 ⟨qa, qc, rfl, hO, hB16⟩
    have HM16 := Lib.hid (HM14.out.same hB16); have HB16 := Lib.hid (HB14.out.trans (hB16.mono hs14))
    have HG16 := Lib.hid ((HX14.out.same hB16).pr HH.out.bm HU.out HLM.out hO (by omega))
    have s16 := hB16.size
    have hs16 := HB16.out.size
    have hql : ∀ G, qa = some ⟨G, 0, none⟩ → w14.heap.size ≤ G := fun G e => (hO.lt G (by rw [e]; rfl)).1
    clear hO hB16 HM14 HX14
    obtain ⟨w17, hw17⟩ : ∃ w17, w17 = w16.alloc (.cells #[.slice qa m qc, .slice pm hh cm] 22) := ⟨_, rfl⟩
    have hB17 : Below w16.heap.size w16 w17 := by rw [hw17]; exact (Below.refl _ _).alloc (Nat.le_refl _) _
    have hL17 : w17.heap[w16.heap.size]? = some (.cells #[.slice qa m qc, .slice pm hh cm] 22 (0, 0)) := by rw [hw17]; exact heap_alloc_new _ _
    have hz17 := hB17.size
    have hap := apart2 w1.heap.size w16.heap.size qa pm m hh qc cm bx bm l LL _ cmm f F w17 hL17 (HG16.out.same hB17) ((HM16.out.same hB17).mono (by omega)) w3.heap.size HXR.out (fun i hi => HLOB.out i hi) (fun G e1 e2 => by have a1 := hql G e1; have a2 := HMG.out G e2; omega) (by omega) (by omega) HLM.out HLL.out
    have HAP := Lib.hid hap
    have HW17 := Lib.hid hw17
    have HBB := Lib.hid (HB16.out.trans (hB17.mono hs16))
    clear hw17 hB17 hL17 hz17 hap hql
    go_wp2_with fail
    rw [← HW17.out]
    refine HAP.out.mono ?_
    rintro e w18 ⟨rfl, hB18⟩
    have HB18 := Lib.hid (HBB.out.trans (hB18.mono hs1)); clear hB18
    go_wp2_with fail
    refine (awakeA_any _).mono ?_
    rintro e w19 ⟨rfl, hB⟩
    have HB19 := Lib.hid (HB18.out.trans (hB.mono HB18.out.size)); clear hB
    go_wp2
    go_ret
    exact ⟨rfl, HB19.out⟩
end Go.Proofs.YtkejabhjlflknaaGreat.Ly

namespace Go.Proofs.YtkejabhjlflknaaGreat.Ly
open Go.RowKit Go.Shelf

theorem share {X G : Prop} (f : G → X) (g : G) : X := f g
/-- four blocks, one behind the other. -/
theorem fourB (w : World) (a b c d : Obj) : ((((w.alloc a).alloc b).alloc c).alloc d).heap[w.heap.size]? = some a ∧ ((((w.alloc a).alloc b).alloc c).alloc d).heap[w.heap.size + 1]? = some b ∧ ((((w.alloc a).alloc b).alloc c).alloc d).heap[w.heap.size + 1 + 1]? = some c ∧ ((((w.alloc a).alloc b).alloc c).alloc d).heap[w.heap.size + 1 + 1 + 1]? = some d ∧ Below w.heap.size w ((((w.alloc a).alloc b).alloc c).alloc d) := by
  have b1 : ∀ (v : World) (o : Obj), Below v.heap.size v (v.alloc o) := fun v o => (Below.refl _ v).alloc (Nat.le_refl _) o
  have z : ∀ (v : World) (o : Obj), (v.alloc o).heap.size = v.heap.size + 1 := fun v o => World.size_alloc _ _
  have n : ∀ (v : World) (o : Obj), (v.alloc o).heap[v.heap.size]? = some o := fun v o => heap_alloc_new v o
  refine ⟨?_, ?_, ?_, ?_, ?_⟩
  · rw [(b1 (((w.alloc a).alloc b).alloc c) d).block _ (by rw [z, z, z]; omega), (b1 ((w.alloc a).alloc b) c).block _ (by rw [z, z]; omega), (b1 (w.alloc a) b).block _ (by rw [z]; omega)]; exact n _ _
  · rw [(b1 (((w.alloc a).alloc b).alloc c) d).block _ (by rw [z, z, z]; omega), (b1 ((w.alloc a).alloc b) c).block _ (by rw [z, z]; omega)]
    have := n (w.alloc a) b; rwa [z] at this
  · rw [(b1 (((w.alloc a).alloc b).alloc c) d).block _ (by rw [z, z, z]; omega)]
    have := n ((w.alloc a).alloc b) c; rwa [z, z] at this
  · have := n (((w.alloc a).alloc b).alloc c) d; rwa [z, z, z] at this
  · exact (((b1 _ _).trans ((b1 _ _).mono (by rw [z]; omega))).trans ((b1 _ _).mono (by rw [z, z]; omega))).trans ((b1 _ _).mono (by rw [z, z, z]; omega))
def two0 (a b : Nat) (i : Nat) : Nat := if i = 0 then a else b
theorem two0_le {a b M : Nat} (ha : a ≤ M) (hb : b ≤ M) (i : Nat) : two0 a b i ≤ M := by unfold two0; split <;> assumption
theorem sl_zero {w : World} {g n : Nat} (h : w.heap[g]? = some (.cells (madeCells #[.int .u8 0] n) 5 (0, 0))) (hn : n ≤ 1000000) : Sl w (some ⟨g, 0, none⟩) n n (fun _ => 0) := by
  have hb : Bl w g n n (fun _ => 0) := ⟨_, h, size_madeCells _ _, fun i hi => by
    have := get_zeros (n := n) (i := i) hi
    rwa [Array.getElem?_toList] at this⟩
  exact hb.sl (Nat.le_refl _) (by unfold maxLen; omega) (fun _ => (by omega : 0 < 256)) (fun _ _ => rfl)
/-- two rows of zeros. -/
theorem rd_twoB {w : World} {x y z a b : Nat} (h1 : w.heap[x]? = some (.cells (madeCells #[.int .u8 0] a) 5 (0, 0))) (h2 : w.heap[y]? = some (.cells (madeCells #[.int .u8 0] b) 5 (0, 0))) (h3 : w.heap[z]? = some (.cells #[.slice (some ⟨x, 0, none⟩) a a, .slice (some ⟨y, 0, none⟩) b b] 50 (0, 0))) (ha : a ≤ 1000) (hb : b ≤ 1000) :
    Rd w (some ⟨z, 0, none⟩) 2 2 (fun i => some ⟨two0 x y i, 0, none⟩) (two0 a b) (two0 a b) (fun _ _ => 0) := by
  refine ⟨Nat.le_refl _, by unfold maxLen; omega, fun _ _ => (by omega : 0 < 256), fun e => (by cases e), fun ad e _ => (by cases e; rfl), fun ad e i hi => ?_, fun i hi => ?_⟩
  · cases e
    show World.cell? _ ⟨z, 0 + i, none⟩ = _
    rw [Nat.zero_add, cell_of_row w z i _ _ _ h3]
    rcases (show i = 0 ∨ i = 1 by omega) with rfl | rfl <;> rfl
  · rcases (show i = 0 ∨ i = 1 by omega) with rfl | rfl
    · exact sl_zero (n := a) h1 (by omega)
    · exact sl_zero (n := b) h2 (by omega)
theorem tb_at {w : World} {g n : Nat} {vs : Array Value} {K L : Nat → Int} (h : w.heap[g]? = some (.cells vs 48 (0, 0))) (hv : ∀ i, i < n → vs[i * 2]? = some (.int .i64 (K i)) ∧ vs[i * 2 + 1]? = some (.int .i64 (L i))) : Tb w (some ⟨g, 0, none⟩) n K L :=
  ⟨fun i hi => ⟨g, 0, rfl, by rw [Nat.zero_add, cell_of_row w g _ vs _ _ h]; exact (hv i hi).1, by rw [Nat.zero_add, cell_of_row w g _ vs _ _ h]; exact (hv i hi).2⟩⟩
theorem own_less {w : World} {B s n k c : Nat} {e : TypeId} {a : Option Addr} {xs ys : List Value} (h : w.ownsRow B e s (.slice a (n + k) c) (n + k) (xs ++ ys)) (hx : xs.length = n * s) (ha : a ≠ none) : w.ownsRow B e s (.slice a n c) n xs := by
  refine ⟨hx, Or.inr ?_⟩
  rcases h.2 with ⟨e1, _⟩ | ⟨g, cap, cur, e1, hg, hh, hnc, hcm, hs, ht⟩
  · simp only [Value.slice.injEq] at e1; exact absurd e1.1 ha
  · simp only [Value.slice.injEq, true_and] at e1
    obtain ⟨rfl, rfl⟩ := e1
    refine ⟨g, c, cur, rfl, hg, hh, by omega, hcm, hs, ?_⟩
    have h2 : (cur.toList.take ((n + k) * s)).take (n * s) = (xs ++ ys).take (n * s) := by rw [ht]
    rw [List.take_take, Nat.min_eq_left (Nat.mul_le_mul_right _ (by omega)), ← hx, List.take_left'] at h2
    · rw [← hx]; exact h2
    · rfl
theorem hi_at2 (w : World) (x : Nat) (vs : List Int) (n : Nat) (hn : n ≤ vs.length) (hl : vs.length ≤ 1000) (hx : w.heap[x]? = some (.cells (vs.map (Value.int .i64)).toArray 3 (0, 0))) : Hi w (some ⟨x, 0, none⟩) n vs.length (fun i => vs.getD i 0) := by
  refine ⟨hn, by unfold maxLen; omega, fun e => (by cases e), fun ad e _ => (by cases e; rfl), fun ad e i hi => ?_⟩
  cases e
  show World.cell? _ ⟨_, 0 + i, none⟩ = _
  rw [Nat.zero_add, cell_of_row _ _ i _ _ _ hx]
  simp [show i < vs.length by omega]
/-- one row of one byte. -/
theorem rd_oneB {w : World} {x z : Nat} {v : Nat} (hv : v < 256) (h1 : w.heap[x]? = some (.cells #[.int .u8 (v : Nat)] 5 (0, 0))) (h3 : w.heap[z]? = some (.cells #[.slice (some ⟨x, 0, none⟩) 1 1] 50 (0, 0))) :
    Rd w (some ⟨z, 0, none⟩) 1 1 (fun _ => some ⟨x, 0, none⟩) (fun _ => 1) (fun _ => 1) (fun _ i => if i = 0 then v else 0) := by
  have hb : Bl w x 1 1 (fun i => if i = 0 then v else 0) := ⟨_, h1, rfl, fun i hi => by
    obtain rfl : i = 0 := by omega
    rfl⟩
  refine ⟨Nat.le_refl _, by unfold maxLen; omega, fun _ i => (by split <;> omega : (if i = 0 then v else 0) < 256), fun e => (by cases e), fun ad e _ => (by cases e; rfl), fun ad e i hi => ?_, fun i hi => ?_⟩
  · cases e
    obtain rfl : i = 0 := by omega
    show World.cell? _ ⟨z, 0 + 0, none⟩ = _
    rw [Nat.zero_add, cell_of_row w z 0 _ _ _ h3]; rfl
  · exact hb.sl (Nat.le_refl _) (by unfold maxLen; omega) (fun i => (by split <;> omega : (if i = 0 then v else 0) < 256)) (fun i hi => if_neg (by omega))
/-- bodies that are held: a list of one's own, rows of one's own. -/
structure Hd (w : World) (B : Nat) (ha : Option Addr) (q hc : Nat) (h : Nat → Int) (r : Nat → Option Addr) (T : Nat) (f : Nat → Nat → Nat) : Prop where
  own : w.ownsRow B 54 2 (.slice ha q hc) q (hdv h r (fun _ => T) (fun _ => T) q)
  row : ∀ i, i < q → Nw w B (r i) T T (f i)
  bm : Mt.Bm f
theorem Hd.same {w w' : World} {B q hc T : Nat} {ha : Option Addr} {h : Nat → Int} {r : Nat → Option Addr} {f : Nat → Nat → Nat} (s : Hd w B ha q hc h r T f) (hB : Below w.heap.size w w') : Hd w' B ha q hc h r T f := ⟨own_below s.own hB, fun i hi => (s.row i hi).below hB, s.bm⟩
theorem Hd.hs {w : World} {B q hc T : Nat} {ha : Option Addr} {h : Nat → Int} {r : Nat → Option Addr} {f : Nat → Nat → Nat} (s : Hd w B ha q hc h r T f) : Hs w ha q h r (fun _ => T) (fun _ => T) f := hdv_hs s.own s.bm fun i hi => (s.row i hi).sl
theorem hd_nil (w : World) (B T : Nat) : Hd w B none 0 0 (fun _ => 0) (fun _ => none) T (fun _ _ => 0) := ⟨World.ownsRow_nil _ _ _ _, fun i hi => absurd hi (Nat.not_lt_zero i), fun _ _ => (by omega : 0 < 256)⟩
theorem hdv_cong {h h' : Nat → Int} {r r' : Nat → Option Addr} {l l' c c' : Nat → Nat} : ∀ t, (∀ i, i < t → h i = h' i ∧ r i = r' i ∧ l i = l' i ∧ c i = c' i) → hdv h r l c t = hdv h' r' l' c' t
  | 0, _ => rfl
  | t + 1, e => by
    obtain ⟨e1, e2, e3, e4⟩ := e t (by omega)
    rw [hdv_s, hdv_s, hdv_cong t (fun i hi => e i (by omega)), e1, e2, e3, e4]
theorem hdv_ones (h : Nat → Int) (r : Nat → Option Addr) (l c : Nat → Nat) : ∀ t, ∀ u ∈ hdv h r l c t, u.oneCell' = true
  | 0, u, hu => by cases hu
  | t + 1, u, hu => by
    rw [hdv_s] at hu
    rcases List.mem_append.1 hu with hu | hu
    · exact hdv_ones h r l c t u hu
    · simp only [List.mem_cons, List.not_mem_nil, or_false] at hu
      rcases hu with rfl | rfl <;> rfl
def nx {α : Type} (x : α) (h : Nat → α) (i : Nat) : α := match i with | 0 => x | i + 1 => h i
theorem hdv_cons (x : Int) (y : Option Addr) (h : Nat → Int) (r : Nat → Option Addr) (T : Nat) : ∀ t, hdv (nx x h) (nx y r) (fun _ => T) (fun _ => T) (t + 1) = [.int .i64 x, .slice y T T] ++ hdv h r (fun _ => T) (fun _ => T) t
  | 0 => rfl
  | t + 1 => by rw [hdv_s, hdv_cons x y h r T t, hdv_s, List.append_assoc]; rfl
theorem nw_stayT {w w' : World} {B B' k s n cap : Nat} {e : TypeId} {a : Option Addr} {v : Value} {xs : List Value} {g : Nat → Nat} (hN : Nw w B a n cap g) (hO : w.ownsRow B' e s v k xs) (he : e ≠ 5) (hg : w.grownBy w' v.ownBlock) : Nw w' B a n cap g := by
  refine hN.grown hg fun q e1 e2 => ?_
  rcases hN.cond with ⟨e3, _⟩ | ⟨q', e3, _, vs, k1, _⟩
  · rw [e3] at e1; cases e1
  · rw [e3] at e1; cases e1
    rcases hO.2 with ⟨e4, _⟩ | ⟨g4, cap4, cur4, e4, _, hh, _⟩
    · rw [e4] at e2; cases e2
    · rw [e4] at e2
      simp only [Value.ownBlock, Option.some.injEq] at e2
      subst e2
      rw [k1] at hh
      injection hh with hh
      injection hh with _ h5
      exact he h5.symm
theorem own_lit {w : World} {B : Nat} {e : TypeId} {x y : Value} {g : Nat} (h : w.heap[g]? = some (.cells #[x, y] e (0, 0))) (hB : B ≤ g) : w.ownsRow B e 2 (.slice (some ⟨g, 0, none⟩) 1 1) 1 [x, y] :=
  ⟨rfl, Or.inr ⟨g, 1, _, rfl, hB, h, Nat.le_refl _, by unfold maxLen; omega, rfl, rfl⟩⟩
/-- one body more, behind. -/
theorem Hd.app {w w' : World} {B q hc T T' zb g c : Nat} {ha : Option Addr} {h : Nat → Int} {r : Nat → Option Addr} {f : Nat → Nat → Nat} {z : Int} (s : Hd w B ha q hc h r T f) (hz : Nw w B (some ⟨zb, 0, none⟩) T' T' (fun _ => 0))
    (hown : w'.ownsRow B 54 2 (.slice (some ⟨g, 0, none⟩) (q + 1) c) (q + 1) (hdv h r (fun _ => T) (fun _ => T) q ++ [.int .i64 z, .slice (some ⟨zb, 0, none⟩) T' T']))
    (hc6 : ha = some ⟨g, 0, none⟩ ∧ c = hc ∧ w.grownBy w' (some g) ∨ w.heap.size ≤ g ∧ w.grownBy w' none) (hB : B ≤ w.heap.size) :
    Hd w' B ha q hc h r T f ∧ Hs w' (some ⟨g, 0, none⟩) (q + 1) (fun i => if i = q then z else h i) (fun i => if i = q then some ⟨zb, 0, none⟩ else r i) (fun i => if i = q then T' else T) (fun i => if i = q then T' else T) (fun i => if i = q then fun _ => 0 else f i) ∧ Below B w w' := by
  have hbel := bag_below hc6 (hown.lt g rfl).1 hB
  have hkeep : ∀ {a : Option Addr} {n cap : Nat} {x : Nat → Nat}, Nw w B a n cap x → Nw w' B a n cap x := fun hN => by
    rcases hc6 with ⟨e, _, hg⟩ | ⟨_, hg⟩
    · exact nw_stayT hN s.own (by decide) (by rw [e]; exact hg)
    · exact hN.grown hg (fun _ _ => by simp)
  have hrow : ∀ i, i < q → Nw w' B (r i) T T (f i) := fun i hi => hkeep (s.row i hi)
  have hlast := hkeep hz
  refine ⟨⟨?_, hrow, s.bm⟩, ?_, hbel⟩
  · rcases hc6 with ⟨e, ec, hg⟩ | ⟨_, hg⟩
    · have := own_less hown (hdv_len q) (by simp)
      rw [e, ← ec]; exact this
    · exact s.own.kept hg (by cases (Value.slice ha q hc).ownBlock <;> simp)
  · have e : hdv h r (fun _ => T) (fun _ => T) q ++ [.int .i64 z, .slice (some ⟨zb, 0, none⟩) T' T'] = hdv (fun i => if i = q then z else h i) (fun i => if i = q then some ⟨zb, 0, none⟩ else r i) (fun i => if i = q then T' else T) (fun i => if i = q then T' else T) (q + 1) := by
      rw [hdv_s]
      simp only [if_true]
      rw [hdv_cong q (h' := fun i => if i = q then z else h i) (r' := fun i => if i = q then some ⟨zb, 0, none⟩ else r i) (l' := fun i => if i = q then T' else T) (c' := fun i => if i = q then T' else T) (fun i hi => by
        rw [if_neg (by omega), if_neg (by omega), if_neg (by omega)]; exact ⟨rfl, rfl, rfl, rfl⟩)]
    rw [e] at hown
    refine hdv_hs hown (fun i => ?_) (fun i hi => ?_)
    · show Pf.By (if i = q then _ else _)
      split
      · exact fun _ => (by omega : 0 < 256)
      · exact s.bm i
    · by_cases e1 : i = q
      · rw [if_pos e1, if_pos e1, if_pos e1]; exact hlast.sl
      · rw [if_neg e1, if_neg e1, if_neg e1]; exact (hrow i (by omega)).sl
/-- one body more, ahead. -/
theorem Hd.cons {w w' : World} {B q hc T gb c lb : Nat} {ha a' : Option Addr} {h : Nat → Int} {r : Nat → Option Addr} {f : Nat → Nat → Nat} {x : Int} {z : Nat → Nat} (s : Hd w B ha q hc h r T f) (hz : Nw w B (some ⟨gb, 0, none⟩) T T z)
    (hl : w.ownsRow B 54 2 (.slice (some ⟨lb, 0, none⟩) 1 1) 1 [.int .i64 x, .slice (some ⟨gb, 0, none⟩) T T])
    (hown : w'.ownsRow B 54 2 (.slice a' (1 + q) c) (1 + q) ([.int .i64 x, .slice (some ⟨gb, 0, none⟩) T T] ++ hdv h r (fun _ => T) (fun _ => T) q)) (hg : w.grownBy w' (some lb)) :
    Hd w' B a' (q + 1) c (nx x h) (nx (some ⟨gb, 0, none⟩) r) T (nx z f) := by
  have hkeep : ∀ {a : Option Addr} {n cap : Nat} {x : Nat → Nat}, Nw w B a n cap x → Nw w' B a n cap x := fun hN => nw_stayT hN hl (by decide) hg
  refine ⟨by rw [hdv_cons, Nat.add_comm]; exact hown, fun i hi => ?_, fun i => ?_⟩
  · cases i with
    | zero => exact hkeep hz
    | succ i => exact hkeep (s.row i (by omega))
  · cases i with
    | zero => exact hz.sl.bytes
    | succ i => exact s.bm i
theorem threeB (w : World) (a b c : Obj) : (((w.alloc a).alloc b).alloc c).heap[w.heap.size]? = some a ∧ (((w.alloc a).alloc b).alloc c).heap[w.heap.size + 1]? = some b ∧ (((w.alloc a).alloc b).alloc c).heap[w.heap.size + 1 + 1]? = some c ∧ Below w.heap.size w (((w.alloc a).alloc b).alloc c) := by
  have b1 : ∀ (v : World) (o : Obj), Below v.heap.size v (v.alloc o) := fun v o => (Below.refl _ v).alloc (Nat.le_refl _) o
  have z : ∀ (v : World) (o : Obj), (v.alloc o).heap.size = v.heap.size + 1 := fun v o => World.size_alloc _ _
  have n : ∀ (v : World) (o : Obj), (v.alloc o).heap[v.heap.size]? = some o := fun v o => heap_alloc_new v o
  refine ⟨?_, ?_, ?_, ?_⟩
  · rw [(b1 ((w.alloc a).alloc b) c).block _ (by rw [z, z]; omega), (b1 (w.alloc a) b).block _ (by rw [z]; omega)]; exact n _ _
  · rw [(b1 ((w.alloc a).alloc b) c).block _ (by rw [z, z]; omega)]
    have := n (w.alloc a) b; rwa [z] at this
  · have := n ((w.alloc a).alloc b) c; rwa [z, z] at this
  · exact ((b1 _ _).trans ((b1 _ _).mono (by rw [z]; omega))).trans ((b1 _ _).mono (by rw [z, z]; omega))
theorem twoB (w : World) (a b : Obj) : ((w.alloc a).alloc b).heap[w.heap.size]? = some a ∧ ((w.alloc a).alloc b).heap[w.heap.size + 1]? = some b ∧ Below w.heap.size w ((w.alloc a).alloc b) := by
  have b1 : ∀ (v : World) (o : Obj), Below v.heap.size v (v.alloc o) := fun v o => (Below.refl _ v).alloc (Nat.le_refl _) o
  have z : ∀ (v : World) (o : Obj), (v.alloc o).heap.size = v.heap.size + 1 := fun v o => World.size_alloc _ _
  have n : ∀ (v : World) (o : Obj), (v.alloc o).heap[v.heap.size]? = some o := fun v o => heap_alloc_new v o
  refine ⟨?_, ?_, ?_⟩
  · rw [(b1 (w.alloc a) b).block _ (by rw [z]; omega)]; exact n _ _
  · have := n (w.alloc a) b; rwa [z] at this
  · exact (b1 _ _).trans ((b1 _ _).mono (by rw [z]; omega))
theorem own_nil {w : World} {B s n c : Nat} {e : TypeId} {a : Option Addr} {xs : List Value} (h : w.ownsRow B e s (.slice a n c) n xs) (ha : a = none) : n = 0 ∧ c = 0 := by
  rcases h.2 with ⟨e1, _⟩ | ⟨g, cap, cur, e1, _⟩
  · simp only [Value.slice.injEq] at e1; exact ⟨e1.2.1, e1.2.2⟩
  · simp only [Value.slice.injEq] at e1; rw [ha] at e1; cases e1.1
def kE (i : Nat) : Int := ([1, 1, 255, 256, 1, -1] : List Int).getD i 0
def lE (i : Nat) : Int := ([65535, 65536, 65535, 1, -1, 1] : List Int).getD i 0
def k9 (i : Nat) : Int := ((1 + i / 3 : Nat) : Int)
def l9 (i : Nat) : Int := ((i : Nat) : Int)
end Go.Proofs.YtkejabhjlflknaaGreat.Ly

namespace Go.Proofs.YtkejabhjlflknaaGreat.Ly
open Go.RowKit Go.Shelf
attribute [local go_sem] Oper.semAt_some

set_option maxHeartbeats 16000000 in
set_option maxRecDepth 100000 in
theorem layEnds_any (w : World) :
    Calls Tryz.prog 5 #[] w fun e w' => e = .returned (.bool true) ∧ Below w.heap.size w w' := by
  obtain ⟨i0, hi, hz0, hz1, hz2⟩ := info_parts Tryz.infoHeldL
  have HI := Lib.hid hi; have HZ0 := Lib.hid hz0; have HZ1 := Lib.hid hz1; have HZ2 := Lib.hid hz2
  obtain ⟨j0, hj, hy0, hy1, hy2⟩ := info_parts Tryz.infoTRow
  have HJ := Lib.hid hj; have HY0 := Lib.hid hy0; have HY1 := Lib.hid hy1; have HY2 := Lib.hid hy2
  clear hi hz0 hz1 hz2 hj hy0 hy1 hy2
  go_enter Tryz.func5, Tryz.ntmps5
  go_wp2_with fail
  go_loopw [1] (fun i wr => ∃ N : Int, -1 ≤ N ∧ N ≤ 5 ∧ i = .int .i64 N ∧ Below w.heap.size w wr) (fun i _ => (5 - intOf i).toNat)
  case atStart => exact ⟨-1, by omega, by omega, rfl, Below.refl _ _⟩
  case round =>
    obtain ⟨N, hN1, hN2, rfl, hB⟩ := hrel
    have HB := Lib.hid hB; clear hB
    by_cases hN5 : N < 5
    · go_wp2_with fail
      go_loopw [2] (fun i wr => ∃ m : Nat, m ≤ 64 ∧ i = .int .i64 m ∧ Below w.heap.size w wr) (fun i _ => 64 - (intOf i).toNat)
      case atStart => exact ⟨0, by omega, rfl, HB.out⟩
      case round =>
        obtain ⟨m, hm, rfl, hB⟩ := hrel
        obtain ⟨wo, rfl⟩ : ∃ wo : World, wo = wr := ⟨_, rfl⟩
        have HBo := Lib.hid hB; clear hB
        by_cases hm6 : m < 64
        · have i1 : (m : Int) < 64 := by omega
          obtain ⟨a6, ha6⟩ : ∃ a6, a6 = m % 6 := ⟨_, rfl⟩
          obtain ⟨a1, ha1⟩ : ∃ a1, a1 = m % 4 := ⟨_, rfl⟩
          obtain ⟨m4, hm4⟩ : ∃ m4, m4 = m / 4 := ⟨_, rfl⟩
          obtain ⟨b1, hb1'⟩ : ∃ b1, b1 = m4 % 4 := ⟨_, rfl⟩
          obtain ⟨c1, hc1'⟩ : ∃ c1, c1 = m / 16 := ⟨_, rfl⟩
          obtain ⟨d1, hd1'⟩ : ∃ d1, d1 = 3 - a1 := ⟨_, rfl⟩
          obtain ⟨e6, he6⟩ : ∃ e6 : Int, e6 = (a6 : Int) - 1 := ⟨_, rfl⟩
          have k1 : (m : Int) % 6 = (a6 : Int) := by omega
          have k2 : (m : Int).tmod 6 = (a6 : Int) := by rw [ha6]; rfl
          have k3 : (m : Int) % 4 = (a1 : Int) := by omega
          have k4 : (m : Int).tmod 4 = (a1 : Int) := by rw [ha1]; rfl
          have k5 : (m : Int) / 4 = (m4 : Int) := by omega
          have k6 : (m : Int).tdiv 4 = (m4 : Int) := by rw [hm4]; rfl
          have k7 : (m4 : Int) % 4 = (b1 : Int) := by omega
          have k8 : (m4 : Int).tmod 4 = (b1 : Int) := by rw [hb1']; rfl
          have k9 : (m : Int) / 16 = (c1 : Int) := by omega
          have k10 : (m : Int).tdiv 16 = (c1 : Int) := by rw [hc1']; rfl
          have k11 : 3 - (a1 : Int) = (d1 : Int) := by omega
          have k12 : (a6 : Int) - 1 = e6 := by omega
          have x1 : IntKind.i64.wrap e6 = e6 := IntWalk.i64_in _ (by omega)
          have x2 : IntKind.i64.wrap (d1 : Int) = (d1 : Int) := IntWalk.i64_in _ (by omega)
          have x3 : IntKind.i64.wrap (m4 : Int) = (m4 : Int) := IntWalk.i64_in _ (by omega)
          have x4 : IntKind.i64.wrap (c1 : Int) = (c1 : Int) := IntWalk.i64_in _ (by omega)
          have hb1 : b1 ≤ 1000 := by omega
          have hd1 : d1 ≤ 1000 := by omega
          have ha4 : a1 ≤ 3 := by omega
          have hc4 : c1 ≤ 3 := by omega
          have hmb := hmk8 b1 (by omega)
          have hmd := hmk8 d1 (by omega)
          clear ha6 ha1 hm4 hb1' hc1' hd1' he6
          go_wp2_with fail
          have h7 := heap_alloc_new wo (.cells #[.int .i64 (a1 : Nat), .int .i64 (b1 : Nat), .int .i64 (c1 : Nat), .int .i64 (d1 : Nat)] 48)
          have hb7 := (Below.refl wo.heap.size wo).alloc (Nat.le_refl _) (.cells #[.int .i64 (a1 : Nat), .int .i64 (b1 : Nat), .int .i64 (c1 : Nat), .int .i64 (d1 : Nat)] 48)
          generalize wo.alloc (.cells #[.int .i64 (a1 : Nat), .int .i64 (b1 : Nat), .int .i64 (c1 : Nat), .int .i64 (d1 : Nat)] 48) = w7 at *
          have HB7 := Lib.hid (HBo.out.trans (hb7.mono HBo.out.size))
          obtain ⟨Kt, Lt, hT7⟩ : ∃ Kt Lt, Tb w7 (some ⟨wo.heap.size, 0, none⟩) 2 Kt Lt := ⟨fun i => ((two0 a1 c1 i : Nat) : Int), fun i => ((two0 b1 d1 i : Nat) : Int), tb_at h7 (fun i hi => by rcases (show i = 0 ∨ i = 1 by omega) with rfl | rfl <;> exact ⟨rfl, rfl⟩)⟩
          have HT7 := Lib.hid hT7
          clear h7 hb7 hT7
          generalize wo.heap.size = g at *
          have s1 : ∀ W, (Instr.slice 36 (.slice (some ⟨g, 0, none⟩) 2 2) none (some (.int .i64 1)) none).run Tryz.prog W = .ok (.slice (some ⟨g, 0, none⟩) 1 2) W := fun W => slice_hT _ 2 2 1 (by omega) W
          refine wp_region_held_drew (S := fun W => Below w.heap.size w W) (by kernel_rfl) (HB7.out.drew) (fun hHeld => ?_)
          refine wpAnyH_take (i := 0) (oi := ⟨some 35, _, _, _, _, none⟩) (v := (.int .i64 N)) rfl (by kernel_rfl) (by kernel_rfl) (by kernel_rfl) (fun _ _ _ h => h) (Or.inl ⟨by rfl, fun W hW => ?_⟩) (by assumption) ?_
          · go_simp
          simp only [Act.put, List.setIfInBounds_toArray, List.set_cons_zero, List.set_cons_succ]
          refine wpAnyH_take (i := 1) (oi := ⟨some 36, _, _, _, _, none⟩) (v := (.slice (some ⟨g, 0, none⟩) 2 2)) rfl (by kernel_rfl) (by kernel_rfl) (by kernel_rfl) (fun _ _ _ h => h) (Or.inl ⟨by rfl, fun W hW => ?_⟩) (by assumption) ?_
          · go_simp
          simp only [Act.put, List.setIfInBounds_toArray, List.set_cons_zero, List.set_cons_succ]
          refine wpAnyH_take (i := 2) (oi := ⟨some 37, _, _, _, _, none⟩) (v := (.int .i64 (m : Nat))) rfl (by kernel_rfl) (by kernel_rfl) (by kernel_rfl) (fun _ _ _ h => h) (Or.inl ⟨by rfl, fun W hW => ?_⟩) (by assumption) ?_
          · go_simp
          simp only [Act.put, List.setIfInBounds_toArray, List.set_cons_zero, List.set_cons_succ]
          refine wpAnyH_take (i := 3) (oi := ⟨some 38, _, _, _, _, none⟩) (v := (.int .i64 (a6 : Nat))) rfl (by kernel_rfl) (by kernel_rfl) (by kernel_rfl) (fun _ _ _ h => h) (Or.inl ⟨by rfl, fun W hW => ?_⟩) (by assumption) ?_
          · go_simp
          simp only [Act.put, List.setIfInBounds_toArray, List.set_cons_zero, List.set_cons_succ]
          refine wpAnyH_take (i := 4) (oi := ⟨some 39, _, _, _, _, none⟩) (v := (.int .i64 e6)) rfl (by kernel_rfl) (by kernel_rfl) (by kernel_rfl) (fun _ _ _ h => h) (Or.inl ⟨by rfl, fun W hW => ?_⟩) (by assumption) ?_
          · go_simp
          simp only [Act.put, List.setIfInBounds_toArray, List.set_cons_zero, List.set_cons_succ]
          refine wpAnyH_ready (rs := [5]) (by kernel_rfl) (by simp) (AllReadyH.cons rfl (fun KK hKK => ?_) AllReadyH.nil)
          go_simp
          refine (layTables_any N e6 _ 2 2 Kt Lt _ (HT7.out.same ((Below.refl _ w7).drew)) (fun e => by cases e) (Nat.le_refl _)).mono ?_
          rintro e w3 ⟨rfl, hB3⟩
          dsimp only
          have HT3 := Lib.hid ((HT7.out.same ((Below.refl _ w7).drew)).same hB3); have HB3 := Lib.hid (HB7.out.drew.trans (hB3.mono HB7.out.drew.size))
          refine hKK.out _ _ (HB3.out) (fun hHeld => ?_)
          clear hKK KK
          try simp only [Act.put, List.setIfInBounds_toArray, List.set_cons_zero, List.set_cons_succ]
          refine wpAnyH_take (i := 6) (oi := ⟨some 41, _, _, _, _, none⟩) (v := (.bool false)) rfl (by kernel_rfl) (by kernel_rfl) (by kernel_rfl) (fun _ _ _ h => h) (Or.inl ⟨by rfl, fun W hW => ?_⟩) (by assumption) ?_
          · go_simp
          simp only [Act.put, List.setIfInBounds_toArray, List.set_cons_zero, List.set_cons_succ]
          refine wpAnyH_take (i := 7) (oi := ⟨some 42, _, _, _, _, none⟩) (v := (.bool false)) rfl (by kernel_rfl) (by kernel_rfl) (by kernel_rfl) (fun _ _ _ h => h) (Or.inl ⟨by rfl, fun W hW => ?_⟩) (by assumption) ?_
          · go_simp
          simp only [Act.put, List.setIfInBounds_toArray, List.set_cons_zero, List.set_cons_succ]
          refine wpAnyH_take (i := 8) (oi := ⟨some 43, _, _, _, _, some (7, false)⟩) (v := (.int .i64 N)) rfl (by kernel_rfl) (by kernel_rfl) (by kernel_rfl) (fun _ _ _ h => h) (Or.inl ⟨by rfl, fun W hW => ?_⟩) (by assumption) ?_
          · go_simp
          simp only [Act.put, List.setIfInBounds_toArray, List.set_cons_zero, List.set_cons_succ]
          refine wpAnyH_take (i := 9) (oi := ⟨some 44, _, _, _, _, some (7, false)⟩) (v := (.slice (some ⟨g, 0, none⟩) 2 2)) rfl (by kernel_rfl) (by kernel_rfl) (by kernel_rfl) (fun _ _ _ h => h) (Or.inl ⟨by rfl, fun W hW => ?_⟩) (by assumption) ?_
          · go_simp
          simp only [Act.put, List.setIfInBounds_toArray, List.set_cons_zero, List.set_cons_succ]
          refine wpAnyH_take (i := 10) (oi := ⟨some 45, _, _, _, _, some (7, false)⟩) (v := (.slice (some ⟨g, 0, none⟩) 1 2)) rfl (by kernel_rfl) (by kernel_rfl) (by kernel_rfl) (fun _ _ _ h => h) (Or.inl ⟨by rfl, fun W hW => ?_⟩) (by assumption) ?_
          · go_simp
          simp only [Act.put, List.setIfInBounds_toArray, List.set_cons_zero, List.set_cons_succ]
          refine wpAnyH_take (i := 11) (oi := ⟨some 46, _, _, _, _, some (7, false)⟩) (v := (.int .i64 (m : Nat))) rfl (by kernel_rfl) (by kernel_rfl) (by kernel_rfl) (fun _ _ _ h => h) (Or.inl ⟨by rfl, fun W hW => ?_⟩) (by assumption) ?_
          · go_simp
          simp only [Act.put, List.setIfInBounds_toArray, List.set_cons_zero, List.set_cons_succ]
          refine wpAnyH_ready (rs := [12]) (by kernel_rfl) (by simp) (AllReadyH.cons rfl (fun KK hKK => ?_) AllReadyH.nil)
          go_simp
          refine (layTables_any N (m : Nat) _ 1 2 Kt Lt _ (HT3.out.less (k := 1) (by omega)) (fun e => by cases e) (by omega)).mono ?_
          rintro e w4 ⟨rfl, hB4⟩
          dsimp only
          have HT4 := Lib.hid (HT3.out.same hB4); have HB4 := Lib.hid (HB3.out.trans (hB4.mono HB3.out.size))
          refine hKK.out _ _ (HB4.out) (fun hHeld => ?_)
          clear hKK KK
          try simp only [Act.put, List.setIfInBounds_toArray, List.set_cons_zero, List.set_cons_succ]
          refine wpAnyH_take (i := 13) (oi := ⟨some 48, _, _, _, _, some (7, false)⟩) (v := (.bool false)) rfl (by kernel_rfl) (by kernel_rfl) (by kernel_rfl) (fun _ _ _ h => h) (Or.inl ⟨by rfl, fun W hW => ?_⟩) (by assumption) ?_
          · go_simp
          simp only [Act.put, List.setIfInBounds_toArray, List.set_cons_zero, List.set_cons_succ]
          refine wpAnyH_take (i := 14) (oi := ⟨some 49, _, _, _, _, none⟩) (v := (.bool false)) rfl (by kernel_rfl) (by kernel_rfl) (by kernel_rfl) (fun _ _ _ h => h) (Or.inl ⟨by rfl, fun W hW => ?_⟩) (by assumption) ?_
          · go_simp
          simp only [Act.put, List.setIfInBounds_toArray, List.set_cons_zero, List.set_cons_succ]
          refine wpAnyH_take (i := 15) (oi := ⟨some 50, _, _, _, _, none⟩) (v := (.bool false)) rfl (by kernel_rfl) (by kernel_rfl) (by kernel_rfl) (fun _ _ _ h => h) (Or.inl ⟨by rfl, fun W hW => ?_⟩) (by assumption) ?_
          · go_simp
          simp only [Act.put, List.setIfInBounds_toArray, List.set_cons_zero, List.set_cons_succ]
          refine wpAnyH_take (i := 16) (oi := ⟨some 51, _, _, _, _, some (15, false)⟩) (v := (.int .i64 N)) rfl (by kernel_rfl) (by kernel_rfl) (by kernel_rfl) (fun _ _ _ h => h) (Or.inl ⟨by rfl, fun W hW => ?_⟩) (by assumption) ?_
          · go_simp
          simp only [Act.put, List.setIfInBounds_toArray, List.set_cons_zero, List.set_cons_succ]
          refine wpAnyH_take (i := 17) (oi := ⟨some 52, _, _, _, _, some (15, false)⟩) (v := (.int .i64 (m : Nat))) rfl (by kernel_rfl) (by kernel_rfl) (by kernel_rfl) (fun _ _ _ h => h) (Or.inl ⟨by rfl, fun W hW => ?_⟩) (by assumption) ?_
          · go_simp
          simp only [Act.put, List.setIfInBounds_toArray, List.set_cons_zero, List.set_cons_succ]
          refine wpAnyH_take (i := 18) (oi := ⟨some 53, _, _, _, _, some (15, false)⟩) (v := (.int .i64 (m4 : Nat))) rfl (by kernel_rfl) (by kernel_rfl) (by kernel_rfl) (fun _ _ _ h => h) (Or.inl ⟨by rfl, fun W hW => ?_⟩) (by assumption) ?_
          · go_simp
          simp only [Act.put, List.setIfInBounds_toArray, List.set_cons_zero, List.set_cons_succ]
          refine wpAnyH_take (i := 19) (oi := ⟨some 54, _, _, _, _, some (15, false)⟩) (v := (.int .i64 (b1 : Nat))) rfl (by kernel_rfl) (by kernel_rfl) (by kernel_rfl) (fun _ _ _ h => h) (Or.inl ⟨by rfl, fun W hW => ?_⟩) (by assumption) ?_
          · go_simp
          simp only [Act.put, List.setIfInBounds_toArray, List.set_cons_zero, List.set_cons_succ]
          refine wpAnyH_take (i := 21) (oi := ⟨some 56, _, _, _, _, some (15, false)⟩) (v := (.int .i64 (m : Nat))) rfl (by kernel_rfl) (by kernel_rfl) (by kernel_rfl) (fun _ _ _ h => h) (Or.inl ⟨by rfl, fun W hW => ?_⟩) (by assumption) ?_
          · go_simp
          simp only [Act.put, List.setIfInBounds_toArray, List.set_cons_zero, List.set_cons_succ]
          refine wpAnyH_take (i := 22) (oi := ⟨some 57, _, _, _, _, some (15, false)⟩) (v := (.int .i64 (a1 : Nat))) rfl (by kernel_rfl) (by kernel_rfl) (by kernel_rfl) (fun _ _ _ h => h) (Or.inl ⟨by rfl, fun W hW => ?_⟩) (by assumption) ?_
          · go_simp
          simp only [Act.put, List.setIfInBounds_toArray, List.set_cons_zero, List.set_cons_succ]
          refine wpAnyH_take (i := 23) (oi := ⟨some 58, _, _, _, _, some (15, false)⟩) (v := (.int .i64 (d1 : Nat))) rfl (by kernel_rfl) (by kernel_rfl) (by kernel_rfl) (fun _ _ _ h => h) (Or.inl ⟨by rfl, fun W hW => ?_⟩) (by assumption) ?_
          · go_simp
          simp only [Act.put, List.setIfInBounds_toArray, List.set_cons_zero, List.set_cons_succ]
          refine wpAnyH_take (i := 26) (oi := ⟨some 61, _, _, _, _, some (15, false)⟩) (v := (.int .i64 (m : Nat))) rfl (by kernel_rfl) (by kernel_rfl) (by kernel_rfl) (fun _ _ _ h => h) (Or.inl ⟨by rfl, fun W hW => ?_⟩) (by assumption) ?_
          · go_simp
          simp only [Act.put, List.setIfInBounds_toArray, List.set_cons_zero, List.set_cons_succ]
          refine wpAnyH_take (i := 27) (oi := ⟨some 62, _, _, _, _, some (15, false)⟩) (v := (.int .i64 (a1 : Nat))) rfl (by kernel_rfl) (by kernel_rfl) (by kernel_rfl) (fun _ _ _ h => h) (Or.inl ⟨by rfl, fun W hW => ?_⟩) (by assumption) ?_
          · go_simp
          simp only [Act.put, List.setIfInBounds_toArray, List.set_cons_zero, List.set_cons_succ]
          refine wpAnyH_take (i := 28) (oi := ⟨some 63, _, _, _, _, some (15, false)⟩) (v := (.int .i64 (m : Nat))) rfl (by kernel_rfl) (by kernel_rfl) (by kernel_rfl) (fun _ _ _ h => h) (Or.inl ⟨by rfl, fun W hW => ?_⟩) (by assumption) ?_
          · go_simp
          simp only [Act.put, List.setIfInBounds_toArray, List.set_cons_zero, List.set_cons_succ]
          refine wpAnyH_take (i := 29) (oi := ⟨some 64, _, _, _, _, some (15, false)⟩) (v := (.int .i64 (c1 : Nat))) rfl (by kernel_rfl) (by kernel_rfl) (by kernel_rfl) (fun _ _ _ h => h) (Or.inl ⟨by rfl, fun W hW => ?_⟩) (by assumption) ?_
          · go_simp
          simp only [Act.put, List.setIfInBounds_toArray, List.set_cons_zero, List.set_cons_succ]
          clear HB7 HT7 HB3 HT3
          refine @share _ ?shP (fun hG => ?shF) ?shG
          case shF =>
            have HGH := Lib.hid hG; clear hG
            refine wpAnyH_ready (rs := [20, 24, 30]) (by kernel_rfl) (by simp) (AllReadyH.cons rfl (fun KK hKK => ?_) (AllReadyH.cons rfl (fun KK hKK => ?_) (AllReadyH.cons rfl (fun KK hKK => ?_) AllReadyH.nil)))
            · go_simp
              refine hKK.out _ _ ((hHeld).alloc (Below.size hHeld) _) (fun hHeld => ?_)
              clear hKK KK
              try simp only [Act.put, List.setIfInBounds_toArray, List.set_cons_zero, List.set_cons_succ]
              refine wpAnyH_ready (rs := [24, 30]) (by kernel_rfl) (by simp) (AllReadyH.cons rfl (fun KK hKK => ?_) (AllReadyH.cons rfl (fun KK hKK => ?_) AllReadyH.nil))
              · go_simp
                refine hKK.out _ _ ((hHeld).alloc (Below.size hHeld) _) (fun hHeld => ?_)
                clear hKK KK
                try simp only [Act.put, List.setIfInBounds_toArray, List.set_cons_zero, List.set_cons_succ]
                refine wpAnyH_ready (rs := [25, 30]) (by kernel_rfl) (by simp) (AllReadyH.cons rfl (fun KK hKK => ?_) (AllReadyH.cons rfl (fun KK hKK => ?_) AllReadyH.nil))
                · go_simp
                  refine hKK.out _ _ ((hHeld).alloc (Below.size hHeld) _) (fun hHeld => ?_)
                  clear hKK KK
                  try simp only [Act.put, List.setIfInBounds_toArray, List.set_cons_zero, List.set_cons_succ]
                  refine wpAnyH_ready (rs := [30]) (by kernel_rfl) (by simp) (AllReadyH.cons rfl (fun KK hKK => ?_) AllReadyH.nil)
                  go_simp
                  refine hKK.out _ _ ((hHeld).alloc (Below.size hHeld) _) (fun hHeld => ?_)
                  clear hKK KK
                  try simp only [Act.put, List.setIfInBounds_toArray, List.set_cons_zero, List.set_cons_succ]
                  have HALL := Lib.hid (show _ ∧ _ ∧ _ ∧ _ ∧ _ ∧ _ from ⟨(fourB w4 (.cells (madeCells #[.int .u8 0] b1) 5) (.cells (madeCells #[.int .u8 0] d1) 5) (.cells #[.slice (some ⟨w4.heap.size, 0, none⟩) b1 b1, .slice (some ⟨w4.heap.size + 1, 0, none⟩) d1 d1] 50) (.cells #[.int .i64 (a1 : Nat), .int .i64 (c1 : Nat)] 3)).1, (fourB w4 (.cells (madeCells #[.int .u8 0] b1) 5) (.cells (madeCells #[.int .u8 0] d1) 5) (.cells #[.slice (some ⟨w4.heap.size, 0, none⟩) b1 b1, .slice (some ⟨w4.heap.size + 1, 0, none⟩) d1 d1] 50) (.cells #[.int .i64 (a1 : Nat), .int .i64 (c1 : Nat)] 3)).2.1, (fourB w4 (.cells (madeCells #[.int .u8 0] b1) 5) (.cells (madeCells #[.int .u8 0] d1) 5) (.cells #[.slice (some ⟨w4.heap.size, 0, none⟩) b1 b1, .slice (some ⟨w4.heap.size + 1, 0, none⟩) d1 d1] 50) (.cells #[.int .i64 (a1 : Nat), .int .i64 (c1 : Nat)] 3)).2.2.1, (fourB w4 (.cells (madeCells #[.int .u8 0] b1) 5) (.cells (madeCells #[.int .u8 0] d1) 5) (.cells #[.slice (some ⟨w4.heap.size, 0, none⟩) b1 b1, .slice (some ⟨w4.heap.size + 1, 0, none⟩) d1 d1] 50) (.cells #[.int .i64 (a1 : Nat), .int .i64 (c1 : Nat)] 3)).2.2.2.1, HT4.out.same (fourB w4 (.cells (madeCells #[.int .u8 0] b1) 5) (.cells (madeCells #[.int .u8 0] d1) 5) (.cells #[.slice (some ⟨w4.heap.size, 0, none⟩) b1 b1, .slice (some ⟨w4.heap.size + 1, 0, none⟩) d1 d1] 50) (.cells #[.int .i64 (a1 : Nat), .int .i64 (c1 : Nat)] 3)).2.2.2.2, HB4.out.trans ((fourB w4 (.cells (madeCells #[.int .u8 0] b1) 5) (.cells (madeCells #[.int .u8 0] d1) 5) (.cells #[.slice (some ⟨w4.heap.size, 0, none⟩) b1 b1, .slice (some ⟨w4.heap.size + 1, 0, none⟩) d1 d1] 50) (.cells #[.int .i64 (a1 : Nat), .int .i64 (c1 : Nat)] 3)).2.2.2.2.mono HB4.out.size)⟩)
                  generalize ((((w4.alloc (.cells (madeCells #[.int .u8 0] b1) 5)).alloc (.cells (madeCells #[.int .u8 0] d1) 5)).alloc (.cells #[.slice (some ⟨w4.heap.size, 0, none⟩) b1 b1, .slice (some ⟨w4.heap.size + 1, 0, none⟩) d1 d1] 50)).alloc (.cells #[.int .i64 (a1 : Nat), .int .i64 (c1 : Nat)] 3)) = W5 at HALL ⊢
                  generalize w4.heap.size + 1 + 1 + 1 = x30 at HALL ⊢
                  generalize w4.heap.size + 1 + 1 = x25 at HALL ⊢
                  generalize w4.heap.size + 1 = x24 at HALL ⊢
                  generalize w4.heap.size = x20 at HALL ⊢
                  revert x20 x24 x25 x30 W5
                  exact HGH.out
                · go_simp
                  refine hKK.out _ _ ((hHeld).alloc (Below.size hHeld) _) (fun hHeld => ?_)
                  clear hKK KK
                  try simp only [Act.put, List.setIfInBounds_toArray, List.set_cons_zero, List.set_cons_succ]
                  refine wpAnyH_ready (rs := [25]) (by kernel_rfl) (by simp) (AllReadyH.cons rfl (fun KK hKK => ?_) AllReadyH.nil)
                  go_simp
                  refine hKK.out _ _ ((hHeld).alloc (Below.size hHeld) _) (fun hHeld => ?_)
                  clear hKK KK
                  try simp only [Act.put, List.setIfInBounds_toArray, List.set_cons_zero, List.set_cons_succ]
                  exact HGH.out _ _ _ _ _ (Lib.hid ⟨(fourB w4 (.cells (madeCells #[.int .u8 0] b1) 5) (.cells (madeCells #[.int .u8 0] d1) 5) (.cells #[.int .i64 (a1 : Nat), .int .i64 (c1 : Nat)] 3) (.cells #[.slice (some ⟨w4.heap.size, 0, none⟩) b1 b1, .slice (some ⟨w4.heap.size + 1, 0, none⟩) d1 d1] 50)).1, (fourB w4 (.cells (madeCells #[.int .u8 0] b1) 5) (.cells (madeCells #[.int .u8 0] d1) 5) (.cells #[.int .i64 (a1 : Nat), .int .i64 (c1 : Nat)] 3) (.cells #[.slice (some ⟨w4.heap.size, 0, none⟩) b1 b1, .slice (some ⟨w4.heap.size + 1, 0, none⟩) d1 d1] 50)).2.1, (fourB w4 (.cells (madeCells #[.int .u8 0] b1) 5) (.cells (madeCells #[.int .u8 0] d1) 5) (.cells #[.int .i64 (a1 : Nat), .int .i64 (c1 : Nat)] 3) (.cells #[.slice (some ⟨w4.heap.size, 0, none⟩) b1 b1, .slice (some ⟨w4.heap.size + 1, 0, none⟩) d1 d1] 50)).2.2.2.1, (fourB w4 (.cells (madeCells #[.int .u8 0] b1) 5) (.cells (madeCells #[.int .u8 0] d1) 5) (.cells #[.int .i64 (a1 : Nat), .int .i64 (c1 : Nat)] 3) (.cells #[.slice (some ⟨w4.heap.size, 0, none⟩) b1 b1, .slice (some ⟨w4.heap.size + 1, 0, none⟩) d1 d1] 50)).2.2.1, HT4.out.same (fourB w4 (.cells (madeCells #[.int .u8 0] b1) 5) (.cells (madeCells #[.int .u8 0] d1) 5) (.cells #[.int .i64 (a1 : Nat), .int .i64 (c1 : Nat)] 3) (.cells #[.slice (some ⟨w4.heap.size, 0, none⟩) b1 b1, .slice (some ⟨w4.heap.size + 1, 0, none⟩) d1 d1] 50)).2.2.2.2, HB4.out.trans ((fourB w4 (.cells (madeCells #[.int .u8 0] b1) 5) (.cells (madeCells #[.int .u8 0] d1) 5) (.cells #[.int .i64 (a1 : Nat), .int .i64 (c1 : Nat)] 3) (.cells #[.slice (some ⟨w4.heap.size, 0, none⟩) b1 b1, .slice (some ⟨w4.heap.size + 1, 0, none⟩) d1 d1] 50)).2.2.2.2.mono HB4.out.size)⟩)
              · go_simp
                refine hKK.out _ _ ((hHeld).alloc (Below.size hHeld) _) (fun hHeld => ?_)
                clear hKK KK
                try simp only [Act.put, List.setIfInBounds_toArray, List.set_cons_zero, List.set_cons_succ]
                refine wpAnyH_ready (rs := [24]) (by kernel_rfl) (by simp) (AllReadyH.cons rfl (fun KK hKK => ?_) AllReadyH.nil)
                go_simp
                refine hKK.out _ _ ((hHeld).alloc (Below.size hHeld) _) (fun hHeld => ?_)
                clear hKK KK
                try simp only [Act.put, List.setIfInBounds_toArray, List.set_cons_zero, List.set_cons_succ]
                refine wpAnyH_ready (rs := [25]) (by kernel_rfl) (by simp) (AllReadyH.cons rfl (fun KK hKK => ?_) AllReadyH.nil)
                go_simp
                refine hKK.out _ _ ((hHeld).alloc (Below.size hHeld) _) (fun hHeld => ?_)
                clear hKK KK
                try simp only [Act.put, List.setIfInBounds_toArray, List.set_cons_zero, List.set_cons_succ]
                exact HGH.out _ _ _ _ _ (Lib.hid ⟨(fourB w4 (.cells (madeCells #[.int .u8 0] b1) 5) (.cells #[.int .i64 (a1 : Nat), .int .i64 (c1 : Nat)] 3) (.cells (madeCells #[.int .u8 0] d1) 5) (.cells #[.slice (some ⟨w4.heap.size, 0, none⟩) b1 b1, .slice (some ⟨w4.heap.size + 1 + 1, 0, none⟩) d1 d1] 50)).1, (fourB w4 (.cells (madeCells #[.int .u8 0] b1) 5) (.cells #[.int .i64 (a1 : Nat), .int .i64 (c1 : Nat)] 3) (.cells (madeCells #[.int .u8 0] d1) 5) (.cells #[.slice (some ⟨w4.heap.size, 0, none⟩) b1 b1, .slice (some ⟨w4.heap.size + 1 + 1, 0, none⟩) d1 d1] 50)).2.2.1, (fourB w4 (.cells (madeCells #[.int .u8 0] b1) 5) (.cells #[.int .i64 (a1 : Nat), .int .i64 (c1 : Nat)] 3) (.cells (madeCells #[.int .u8 0] d1) 5) (.cells #[.slice (some ⟨w4.heap.size, 0, none⟩) b1 b1, .slice (some ⟨w4.heap.size + 1 + 1, 0, none⟩) d1 d1] 50)).2.2.2.1, (fourB w4 (.cells (madeCells #[.int .u8 0] b1) 5) (.cells #[.int .i64 (a1 : Nat), .int .i64 (c1 : Nat)] 3) (.cells (madeCells #[.int .u8 0] d1) 5) (.cells #[.slice (some ⟨w4.heap.size, 0, none⟩) b1 b1, .slice (some ⟨w4.heap.size + 1 + 1, 0, none⟩) d1 d1] 50)).2.1, HT4.out.same (fourB w4 (.cells (madeCells #[.int .u8 0] b1) 5) (.cells #[.int .i64 (a1 : Nat), .int .i64 (c1 : Nat)] 3) (.cells (madeCells #[.int .u8 0] d1) 5) (.cells #[.slice (some ⟨w4.heap.size, 0, none⟩) b1 b1, .slice (some ⟨w4.heap.size + 1 + 1, 0, none⟩) d1 d1] 50)).2.2.2.2, HB4.out.trans ((fourB w4 (.cells (madeCells #[.int .u8 0] b1) 5) (.cells #[.int .i64 (a1 : Nat), .int .i64 (c1 : Nat)] 3) (.cells (madeCells #[.int .u8 0] d1) 5) (.cells #[.slice (some ⟨w4.heap.size, 0, none⟩) b1 b1, .slice (some ⟨w4.heap.size + 1 + 1, 0, none⟩) d1 d1] 50)).2.2.2.2.mono HB4.out.size)⟩)
            · go_simp
              refine hKK.out _ _ ((hHeld).alloc (Below.size hHeld) _) (fun hHeld => ?_)
              clear hKK KK
              try simp only [Act.put, List.setIfInBounds_toArray, List.set_cons_zero, List.set_cons_succ]
              refine wpAnyH_ready (rs := [20, 30]) (by kernel_rfl) (by simp) (AllReadyH.cons rfl (fun KK hKK => ?_) (AllReadyH.cons rfl (fun KK hKK => ?_) AllReadyH.nil))
              · go_simp
                refine hKK.out _ _ ((hHeld).alloc (Below.size hHeld) _) (fun hHeld => ?_)
                clear hKK KK
                try simp only [Act.put, List.setIfInBounds_toArray, List.set_cons_zero, List.set_cons_succ]
                refine wpAnyH_ready (rs := [25, 30]) (by kernel_rfl) (by simp) (AllReadyH.cons rfl (fun KK hKK => ?_) (AllReadyH.cons rfl (fun KK hKK => ?_) AllReadyH.nil))
                · go_simp
                  refine hKK.out _ _ ((hHeld).alloc (Below.size hHeld) _) (fun hHeld => ?_)
                  clear hKK KK
                  try simp only [Act.put, List.setIfInBounds_toArray, List.set_cons_zero, List.set_cons_succ]
                  refine wpAnyH_ready (rs := [30]) (by kernel_rfl) (by simp) (AllReadyH.cons rfl (fun KK hKK => ?_) AllReadyH.nil)
                  go_simp
                  refine hKK.out _ _ ((hHeld).alloc (Below.size hHeld) _) (fun hHeld => ?_)
                  clear hKK KK
                  try simp only [Act.put, List.setIfInBounds_toArray, List.set_cons_zero, List.set_cons_succ]
                  exact HGH.out _ _ _ _ _ (Lib.hid ⟨(fourB w4 (.cells (madeCells #[.int .u8 0] d1) 5) (.cells (madeCells #[.int .u8 0] b1) 5) (.cells #[.slice (some ⟨w4.heap.size + 1, 0, none⟩) b1 b1, .slice (some ⟨w4.heap.size, 0, none⟩) d1 d1] 50) (.cells #[.int .i64 (a1 : Nat), .int .i64 (c1 : Nat)] 3)).2.1, (fourB w4 (.cells (madeCells #[.int .u8 0] d1) 5) (.cells (madeCells #[.int .u8 0] b1) 5) (.cells #[.slice (some ⟨w4.heap.size + 1, 0, none⟩) b1 b1, .slice (some ⟨w4.heap.size, 0, none⟩) d1 d1] 50) (.cells #[.int .i64 (a1 : Nat), .int .i64 (c1 : Nat)] 3)).1, (fourB w4 (.cells (madeCells #[.int .u8 0] d1) 5) (.cells (madeCells #[.int .u8 0] b1) 5) (.cells #[.slice (some ⟨w4.heap.size + 1, 0, none⟩) b1 b1, .slice (some ⟨w4.heap.size, 0, none⟩) d1 d1] 50) (.cells #[.int .i64 (a1 : Nat), .int .i64 (c1 : Nat)] 3)).2.2.1, (fourB w4 (.cells (madeCells #[.int .u8 0] d1) 5) (.cells (madeCells #[.int .u8 0] b1) 5) (.cells #[.slice (some ⟨w4.heap.size + 1, 0, none⟩) b1 b1, .slice (some ⟨w4.heap.size, 0, none⟩) d1 d1] 50) (.cells #[.int .i64 (a1 : Nat), .int .i64 (c1 : Nat)] 3)).2.2.2.1, HT4.out.same (fourB w4 (.cells (madeCells #[.int .u8 0] d1) 5) (.cells (madeCells #[.int .u8 0] b1) 5) (.cells #[.slice (some ⟨w4.heap.size + 1, 0, none⟩) b1 b1, .slice (some ⟨w4.heap.size, 0, none⟩) d1 d1] 50) (.cells #[.int .i64 (a1 : Nat), .int .i64 (c1 : Nat)] 3)).2.2.2.2, HB4.out.trans ((fourB w4 (.cells (madeCells #[.int .u8 0] d1) 5) (.cells (madeCells #[.int .u8 0] b1) 5) (.cells #[.slice (some ⟨w4.heap.size + 1, 0, none⟩) b1 b1, .slice (some ⟨w4.heap.size, 0, none⟩) d1 d1] 50) (.cells #[.int .i64 (a1 : Nat), .int .i64 (c1 : Nat)] 3)).2.2.2.2.mono HB4.out.size)⟩)
                · go_simp
                  refine hKK.out _ _ ((hHeld).alloc (Below.size hHeld) _) (fun hHeld => ?_)
                  clear hKK KK
                  try simp only [Act.put, List.setIfInBounds_toArray, List.set_cons_zero, List.set_cons_succ]
                  refine wpAnyH_ready (rs := [25]) (by kernel_rfl) (by simp) (AllReadyH.cons rfl (fun KK hKK => ?_) AllReadyH.nil)
                  go_simp
                  refine hKK.out _ _ ((hHeld).alloc (Below.size hHeld) _) (fun hHeld => ?_)
                  clear hKK KK
                  try simp only [Act.put, List.setIfInBounds_toArray, List.set_cons_zero, List.set_cons_succ]
                  exact HGH.out _ _ _ _ _ (Lib.hid ⟨(fourB w4 (.cells (madeCells #[.int .u8 0] d1) 5) (.cells (madeCells #[.int .u8 0] b1) 5) (.cells #[.int .i64 (a1 : Nat), .int .i64 (c1 : Nat)] 3) (.cells #[.slice (some ⟨w4.heap.size + 1, 0, none⟩) b1 b1, .slice (some ⟨w4.heap.size, 0, none⟩) d1 d1] 50)).2.1, (fourB w4 (.cells (madeCells #[.int .u8 0] d1) 5) (.cells (madeCells #[.int .u8 0] b1) 5) (.cells #[.int .i64 (a1 : Nat), .int .i64 (c1 : Nat)] 3) (.cells #[.slice (some ⟨w4.heap.size + 1, 0, none⟩) b1 b1, .slice (some ⟨w4.heap.size, 0, none⟩) d1 d1] 50)).1, (fourB w4 (.cells (madeCells #[.int .u8 0] d1) 5) (.cells (madeCells #[.int .u8 0] b1) 5) (.cells #[.int .i64 (a1 : Nat), .int .i64 (c1 : Nat)] 3) (.cells #[.slice (some ⟨w4.heap.size + 1, 0, none⟩) b1 b1, .slice (some ⟨w4.heap.size, 0, none⟩) d1 d1] 50)).2.2.2.1, (fourB w4 (.cells (madeCells #[.int .u8 0] d1) 5) (.cells (madeCells #[.int .u8 0] b1) 5) (.cells #[.int .i64 (a1 : Nat), .int .i64 (c1 : Nat)] 3) (.cells #[.slice (some ⟨w4.heap.size + 1, 0, none⟩) b1 b1, .slice (some ⟨w4.heap.size, 0, none⟩) d1 d1] 50)).2.2.1, HT4.out.same (fourB w4 (.cells (madeCells #[.int .u8 0] d1) 5) (.cells (madeCells #[.int .u8 0] b1) 5) (.cells #[.int .i64 (a1 : Nat), .int .i64 (c1 : Nat)] 3) (.cells #[.slice (some ⟨w4.heap.size + 1, 0, none⟩) b1 b1, .slice (some ⟨w4.heap.size, 0, none⟩) d1 d1] 50)).2.2.2.2, HB4.out.trans ((fourB w4 (.cells (madeCells #[.int .u8 0] d1) 5) (.cells (madeCells #[.int .u8 0] b1) 5) (.cells #[.int .i64 (a1 : Nat), .int .i64 (c1 : Nat)] 3) (.cells #[.slice (some ⟨w4.heap.size + 1, 0, none⟩) b1 b1, .slice (some ⟨w4.heap.size, 0, none⟩) d1 d1] 50)).2.2.2.2.mono HB4.out.size)⟩)
              · go_simp
                refine hKK.out _ _ ((hHeld).alloc (Below.size hHeld) _) (fun hHeld => ?_)
                clear hKK KK
                try simp only [Act.put, List.setIfInBounds_toArray, List.set_cons_zero, List.set_cons_succ]
                refine wpAnyH_ready (rs := [20]) (by kernel_rfl) (by simp) (AllReadyH.cons rfl (fun KK hKK => ?_) AllReadyH.nil)
                go_simp
                refine hKK.out _ _ ((hHeld).alloc (Below.size hHeld) _) (fun hHeld => ?_)
                clear hKK KK
                try simp only [Act.put, List.setIfInBounds_toArray, List.set_cons_zero, List.set_cons_succ]
                refine wpAnyH_ready (rs := [25]) (by kernel_rfl) (by simp) (AllReadyH.cons rfl (fun KK hKK => ?_) AllReadyH.nil)
                go_simp
                refine hKK.out _ _ ((hHeld).alloc (Below.size hHeld) _) (fun hHeld => ?_)
                clear hKK KK
                try simp only [Act.put, List.setIfInBounds_toArray, List.set_cons_zero, List.set_cons_succ]
                exact HGH.out _ _ _ _ _ (Lib.hid ⟨(fourB w4 (.cells (madeCells #[.int .u8 0] d1) 5) (.cells #[.int .i64 (a1 : Nat), .int .i64 (c1 : Nat)] 3) (.cells (madeCells #[.int .u8 0] b1) 5) (.cells #[.slice (some ⟨w4.heap.size + 1 + 1, 0, none⟩) b1 b1, .slice (some ⟨w4.heap.size, 0, none⟩) d1 d1] 50)).2.2.1, (fourB w4 (.cells (madeCells #[.int .u8 0] d1) 5) (.cells #[.int .i64 (a1 : Nat), .int .i64 (c1 : Nat)] 3) (.cells (madeCells #[.int .u8 0] b1) 5) (.cells #[.slice (some ⟨w4.heap.size + 1 + 1, 0, none⟩) b1 b1, .slice (some ⟨w4.heap.size, 0, none⟩) d1 d1] 50)).1, (fourB w4 (.cells (madeCells #[.int .u8 0] d1) 5) (.cells #[.int .i64 (a1 : Nat), .int .i64 (c1 : Nat)] 3) (.cells (madeCells #[.int .u8 0] b1) 5) (.cells #[.slice (some ⟨w4.heap.size + 1 + 1, 0, none⟩) b1 b1, .slice (some ⟨w4.heap.size, 0, none⟩) d1 d1] 50)).2.2.2.1, (fourB w4 (.cells (madeCells #[.int .u8 0] d1) 5) (.cells #[.int .i64 (a1 : Nat), .int .i64 (c1 : Nat)] 3) (.cells (madeCells #[.int .u8 0] b1) 5) (.cells #[.slice (some ⟨w4.heap.size + 1 + 1, 0, none⟩) b1 b1, .slice (some ⟨w4.heap.size, 0, none⟩) d1 d1] 50)).2.1, HT4.out.same (fourB w4 (.cells (madeCells #[.int .u8 0] d1) 5) (.cells #[.int .i64 (a1 : Nat), .int .i64 (c1 : Nat)] 3) (.cells (madeCells #[.int .u8 0] b1) 5) (.cells #[.slice (some ⟨w4.heap.size + 1 + 1, 0, none⟩) b1 b1, .slice (some ⟨w4.heap.size, 0, none⟩) d1 d1] 50)).2.2.2.2, HB4.out.trans ((fourB w4 (.cells (madeCells #[.int .u8 0] d1) 5) (.cells #[.int .i64 (a1 : Nat), .int .i64 (c1 : Nat)] 3) (.cells (madeCells #[.int .u8 0] b1) 5) (.cells #[.slice (some ⟨w4.heap.size + 1 + 1, 0, none⟩) b1 b1, .slice (some ⟨w4.heap.size, 0, none⟩) d1 d1] 50)).2.2.2.2.mono HB4.out.size)⟩)
            · go_simp
              refine hKK.out _ _ ((hHeld).alloc (Below.size hHeld) _) (fun hHeld => ?_)
              clear hKK KK
              try simp only [Act.put, List.setIfInBounds_toArray, List.set_cons_zero, List.set_cons_succ]
              refine wpAnyH_ready (rs := [20, 24]) (by kernel_rfl) (by simp) (AllReadyH.cons rfl (fun KK hKK => ?_) (AllReadyH.cons rfl (fun KK hKK => ?_) AllReadyH.nil))
              · go_simp
                refine hKK.out _ _ ((hHeld).alloc (Below.size hHeld) _) (fun hHeld => ?_)
                clear hKK KK
                try simp only [Act.put, List.setIfInBounds_toArray, List.set_cons_zero, List.set_cons_succ]
                refine wpAnyH_ready (rs := [24]) (by kernel_rfl) (by simp) (AllReadyH.cons rfl (fun KK hKK => ?_) AllReadyH.nil)
                go_simp
                refine hKK.out _ _ ((hHeld).alloc (Below.size hHeld) _) (fun hHeld => ?_)
                clear hKK KK
                try simp only [Act.put, List.setIfInBounds_toArray, List.set_cons_zero, List.set_cons_succ]
                refine wpAnyH_ready (rs := [25]) (by kernel_rfl) (by simp) (AllReadyH.cons rfl (fun KK hKK => ?_) AllReadyH.nil)
                go_simp
                refine hKK.out _ _ ((hHeld).alloc (Below.size hHeld) _) (fun hHeld => ?_)
                clear hKK KK
                try simp only [Act.put, List.setIfInBounds_toArray, List.set_cons_zero, List.set_cons_succ]
                exact HGH.out _ _ _ _ _ (Lib.hid ⟨(fourB w4 (.cells #[.int .i64 (a1 : Nat), .int .i64 (c1 : Nat)] 3) (.cells (madeCells #[.int .u8 0] b1) 5) (.cells (madeCells #[.int .u8 0] d1) 5) (.cells #[.slice (some ⟨w4.heap.size + 1, 0, none⟩) b1 b1, .slice (some ⟨w4.heap.size + 1 + 1, 0, none⟩) d1 d1] 50)).2.1, (fourB w4 (.cells #[.int .i64 (a1 : Nat), .int .i64 (c1 : Nat)] 3) (.cells (madeCells #[.int .u8 0] b1) 5) (.cells (madeCells #[.int .u8 0] d1) 5) (.cells #[.slice (some ⟨w4.heap.size + 1, 0, none⟩) b1 b1, .slice (some ⟨w4.heap.size + 1 + 1, 0, none⟩) d1 d1] 50)).2.2.1, (fourB w4 (.cells #[.int .i64 (a1 : Nat), .int .i64 (c1 : Nat)] 3) (.cells (madeCells #[.int .u8 0] b1) 5) (.cells (madeCells #[.int .u8 0] d1) 5) (.cells #[.slice (some ⟨w4.heap.size + 1, 0, none⟩) b1 b1, .slice (some ⟨w4.heap.size + 1 + 1, 0, none⟩) d1 d1] 50)).2.2.2.1, (fourB w4 (.cells #[.int .i64 (a1 : Nat), .int .i64 (c1 : Nat)] 3) (.cells (madeCells #[.int .u8 0] b1) 5) (.cells (madeCells #[.int .u8 0] d1) 5) (.cells #[.slice (some ⟨w4.heap.size + 1, 0, none⟩) b1 b1, .slice (some ⟨w4.heap.size + 1 + 1, 0, none⟩) d1 d1] 50)).1, HT4.out.same (fourB w4 (.cells #[.int .i64 (a1 : Nat), .int .i64 (c1 : Nat)] 3) (.cells (madeCells #[.int .u8 0] b1) 5) (.cells (madeCells #[.int .u8 0] d1) 5) (.cells #[.slice (some ⟨w4.heap.size + 1, 0, none⟩) b1 b1, .slice (some ⟨w4.heap.size + 1 + 1, 0, none⟩) d1 d1] 50)).2.2.2.2, HB4.out.trans ((fourB w4 (.cells #[.int .i64 (a1 : Nat), .int .i64 (c1 : Nat)] 3) (.cells (madeCells #[.int .u8 0] b1) 5) (.cells (madeCells #[.int .u8 0] d1) 5) (.cells #[.slice (some ⟨w4.heap.size + 1, 0, none⟩) b1 b1, .slice (some ⟨w4.heap.size + 1 + 1, 0, none⟩) d1 d1] 50)).2.2.2.2.mono HB4.out.size)⟩)
              · go_simp
                refine hKK.out _ _ ((hHeld).alloc (Below.size hHeld) _) (fun hHeld => ?_)
                clear hKK KK
                try simp only [Act.put, List.setIfInBounds_toArray, List.set_cons_zero, List.set_cons_succ]
                refine wpAnyH_ready (rs := [20]) (by kernel_rfl) (by simp) (AllReadyH.cons rfl (fun KK hKK => ?_) AllReadyH.nil)
                go_simp
                refine hKK.out _ _ ((hHeld).alloc (Below.size hHeld) _) (fun hHeld => ?_)
                clear hKK KK
                try simp only [Act.put, List.setIfInBounds_toArray, List.set_cons_zero, List.set_cons_succ]
                refine wpAnyH_ready (rs := [25]) (by kernel_rfl) (by simp) (AllReadyH.cons rfl (fun KK hKK => ?_) AllReadyH.nil)
                go_simp
                refine hKK.out _ _ ((hHeld).alloc (Below.size hHeld) _) (fun hHeld => ?_)
                clear hKK KK
                try simp only [Act.put, List.setIfInBounds_toArray, List.set_cons_zero, List.set_cons_succ]
                exact HGH.out _ _ _ _ _ (Lib.hid ⟨(fourB w4 (.cells #[.int .i64 (a1 : Nat), .int .i64 (c1 : Nat)] 3) (.cells (madeCells #[.int .u8 0] d1) 5) (.cells (madeCells #[.int .u8 0] b1) 5) (.cells #[.slice (some ⟨w4.heap.size + 1 + 1, 0, none⟩) b1 b1, .slice (some ⟨w4.heap.size + 1, 0, none⟩) d1 d1] 50)).2.2.1, (fourB w4 (.cells #[.int .i64 (a1 : Nat), .int .i64 (c1 : Nat)] 3) (.cells (madeCells #[.int .u8 0] d1) 5) (.cells (madeCells #[.int .u8 0] b1) 5) (.cells #[.slice (some ⟨w4.heap.size + 1 + 1, 0, none⟩) b1 b1, .slice (some ⟨w4.heap.size + 1, 0, none⟩) d1 d1] 50)).2.1, (fourB w4 (.cells #[.int .i64 (a1 : Nat), .int .i64 (c1 : Nat)] 3) (.cells (madeCells #[.int .u8 0] d1) 5) (.cells (madeCells #[.int .u8 0] b1) 5) (.cells #[.slice (some ⟨w4.heap.size + 1 + 1, 0, none⟩) b1 b1, .slice (some ⟨w4.heap.size + 1, 0, none⟩) d1 d1] 50)).2.2.2.1, (fourB w4 (.cells #[.int .i64 (a1 : Nat), .int .i64 (c1 : Nat)] 3) (.cells (madeCells #[.int .u8 0] d1) 5) (.cells (madeCells #[.int .u8 0] b1) 5) (.cells #[.slice (some ⟨w4.heap.size + 1 + 1, 0, none⟩) b1 b1, .slice (some ⟨w4.heap.size + 1, 0, none⟩) d1 d1] 50)).1, HT4.out.same (fourB w4 (.cells #[.int .i64 (a1 : Nat), .int .i64 (c1 : Nat)] 3) (.cells (madeCells #[.int .u8 0] d1) 5) (.cells (madeCells #[.int .u8 0] b1) 5) (.cells #[.slice (some ⟨w4.heap.size + 1 + 1, 0, none⟩) b1 b1, .slice (some ⟨w4.heap.size + 1, 0, none⟩) d1 d1] 50)).2.2.2.2, HB4.out.trans ((fourB w4 (.cells #[.int .i64 (a1 : Nat), .int .i64 (c1 : Nat)] 3) (.cells (madeCells #[.int .u8 0] d1) 5) (.cells (madeCells #[.int .u8 0] b1) 5) (.cells #[.slice (some ⟨w4.heap.size + 1 + 1, 0, none⟩) b1 b1, .slice (some ⟨w4.heap.size + 1, 0, none⟩) d1 d1] 50)).2.2.2.2.mono HB4.out.size)⟩)
          case shG =>
            intro W5 x30 x25 x24 x20 HALL
            obtain ⟨h20, h24, h25, h30, ht5, hb5⟩ := HALL.out
            have HT5 := Lib.hid ht5; have HB5 := Lib.hid hb5
            have HRD := Lib.hid (rd_twoB h20 h24 h25 hb1 hd1); have HHI := Lib.hid (hi_at2 W5 x30 [(a1 : Int), (c1 : Int)] 2 (by simp) (by simp) h30)
            clear HALL h20 h24 h25 h30 ht5 hb5
            refine wpAnyH_ready (rs := [31]) (by kernel_rfl) (by simp) (AllReadyH.cons rfl (fun KK hKK => ?_) AllReadyH.nil)
            go_simp
            refine (layBodies_any N _ _ 2 2 2 2 _ _ _ _ _ (by omega) (fun i _ => by have := two0_le hb1 hd1 i; omega) (by omega) _ HRD.out HHI.out).mono ?_
            rintro e w6 ⟨rfl, hB6⟩
            dsimp only
            have HT6 := Lib.hid (HT5.out.same hB6); have HB6 := Lib.hid (HB5.out.trans (hB6.mono HB5.out.size))
            refine hKK.out _ _ (HB6.out) (fun hHeld => ?_)
            clear hKK KK
            try simp only [Act.put, List.setIfInBounds_toArray, List.set_cons_zero, List.set_cons_succ]
            refine wpAnyH_take (i := 32) (oi := ⟨some 67, _, _, _, _, some (15, false)⟩) (v := (.bool false)) rfl (by kernel_rfl) (by kernel_rfl) (by kernel_rfl) (fun _ _ _ h => h) (Or.inl ⟨by rfl, fun W hW => ?_⟩) (by assumption) ?_
            · go_simp
            simp only [Act.put, List.setIfInBounds_toArray, List.set_cons_zero, List.set_cons_succ]
            refine wpAnyH_take (i := 33) (oi := ⟨some 68, _, _, _, _, none⟩) (v := (.bool false)) rfl (by kernel_rfl) (by kernel_rfl) (by kernel_rfl) (fun _ _ _ h => h) (Or.inl ⟨by rfl, fun W hW => ?_⟩) (by assumption) ?_
            · go_simp
            simp only [Act.put, List.setIfInBounds_toArray, List.set_cons_zero, List.set_cons_succ]
            refine wpAnyH_done (by kernel_rfl) ?_ _
            clear HB5 HT5 HRD HHI
            clear k1 k2 k3 k4 k5 k6 k7 k8 k9 k10 k11 k12 x1 x2 x3 x4 hmb hmd s1
            go_wp2_with fail
            refine (rLong_any N _ 2 2 Kt Lt _ HT6.out).mono ?_
            rintro e w8 ⟨hns, hB8⟩
            have HT8 := Lib.hid (HT6.out.same hB8); have HB8 := Lib.hid (HB6.out.trans (hB8.mono HB6.out.size))
            obtain ⟨T, E, rfl, hT5⟩ : ∃ (T : Nat) (E : Int), e = .returned (.tuple #[.int .i64 T, .int .i64 E]) ∧ T ≤ 524280 := by
              rcases hns with ⟨_, rfl⟩ | ⟨ht, T, hT, rfl⟩
              · exact ⟨0, 2, rfl, by omega⟩
              · refine ⟨T, 0, rfl, ?_⟩
                rw [hT]
                exact Nat.le_trans (off_le Kt Lt 2) (by omega)
            clear hns hB8 HT6 HB6
            have hs8 := HB8.out.size
            go_wp2_with fail
            go_loopw [4, 7] (fun v i wr => ∃ (q x : Nat) (ha : Option Addr) (hc : Nat) (h : Nat → Int) (r : Nat → Option Addr) (f : Nat → Nat → Nat), x ≤ 5 ∧ i = .int .i64 x ∧ v = .slice ha q hc ∧ q ≤ x ∧ Hd wr w8.heap.size ha q hc h r T f ∧ Below w8.heap.size w8 wr) (fun _ i _ => (5 - intOf i).toNat)
            case atStart => exact ⟨0, 0, none, 0, _, _, _, by omega, rfl, rfl, by omega, hd_nil w8 w8.heap.size T, Below.refl _ _⟩
            case round =>
              obtain ⟨q, x, ha, hc, h, r, f, hx5, rfl, rfl, hqx, hHd, hB⟩ := hrel
              obtain ⟨wi, rfl⟩ : ∃ wi : World, wi = wr := ⟨_, rfl⟩
              have HD := Lib.hid hHd; have HBi := Lib.hid hB
              have hsi := hB.size
              clear hHd hB
              by_cases hgo : (x : Int) < N ∧ E = 0
              · obtain ⟨i2, hE0⟩ := hgo
                have g1 : (E == 0) = true := by simp [hE0]
                have hx4 : x ≤ 3 := by omega
                clear hE0
                have hbl := bl_made wi T
                have hb9 : Below wi.heap.size wi (wi.alloc (.cells (madeCells #[.int .u8 0] T) 5)) := (Below.refl _ wi).alloc (Nat.le_refl _) _
                have hmT := hmk8 T (by omega)
                have HBL := Lib.hid hbl; have HB9 := Lib.hid hb9
                clear hbl hb9
                go_wp2_with fail
                rotate_left
                · exact ⟨⟨q, x + 1, ha, hc, h, r, f, by omega, by go_num, rfl, by omega, HD.out, HBi.out⟩, by simp [intOf]; omega⟩
                obtain ⟨w9, hw9⟩ : ∃ w9, w9 = wi.alloc (.cells (madeCells #[.int .u8 0] T) 5) := ⟨_, rfl⟩
                rw [← hw9] at HBL HB9 ⊢
                obtain ⟨gb, hgb⟩ : ∃ gb, gb = wi.heap.size := ⟨_, rfl⟩
                have HGB := Lib.hid hgb
                rw [← hgb] at HBL ⊢
                clear hw9 hgb hmT
                go_loopw [9] (fun i wr => ∃ (k : Nat) (z : Nat → Nat) (W : World), W = wr ∧ k ≤ T ∧ i = .int .i64 k ∧ Bl wr gb T T z ∧ Pf.By z ∧ Pf.Up z T ∧ Below wi.heap.size wi wr) (fun i _ => T - (intOf i).toNat)
                case atStart => exact ⟨0, _, _, rfl, by omega, rfl, HBL.out, fun _ => (by omega : 0 < 256), fun _ _ => rfl, HB9.out⟩
                case round =>
                  obtain ⟨k, z, wj, rfl, hk, rfl, hbl, hby, hup, hB⟩ := hrel
                  have HBj := Lib.hid hbl; have HY := Lib.hid hby; have HU := Lib.hid hup; have HBk := Lib.hid hB
                  by_cases hkT : k < T
                  · have i3 : (k : Int) < (T : Int) := by omega
                    have cG := hbl.cell hkT
                    have fG := hbl.free k
                    clear hbl hby hup hB
                    go_wp2_with fail
                    go_roundw
                    case rel =>
                      obtain ⟨z', h1, h2, h3⟩ := HBj.out.setX hkT HY.out HU.out _
                      exact ⟨k + 1, z', _, rfl, by omega, by go_num, h1, h2, h3, HBk.out.setCell (p := ⟨gb, k, none⟩) (by have := HGB.out; show _ ≤ gb; omega) _⟩
                    case measure => simp [intOf]; omega
                  · obtain rfl : k = T := by omega
                    have i3 : ¬ (k : Int) < (k : Int) := by omega
                    have hgb9 : w8.heap.size ≤ gb := by have := HGB.out; omega
                    have hA := (Below.refl wj.heap.size wj).alloc (Nat.le_refl _) (.cells #[.int .i64 (x : Nat), .slice (some ⟨gb, 0, none⟩) k k] 54)
                    have hnw : Nw wj w8.heap.size (some ⟨gb, 0, none⟩) k k z := ⟨hbl.sl (Nat.le_refl _) (by unfold maxLen; omega) hby hup, hbl.ow hgb9⟩
                    have HN := Lib.hid (hnw.below hA); have HDj := Lib.hid ((HD.out.same HBk.out).same hA)
                    have hbj : w8.heap.size ≤ wj.heap.size := Nat.le_trans hsi HBk.out.size
                    have HLT := Lib.hid (own_lit (heap_alloc_new wj (.cells #[.int .i64 (x : Nat), .slice (some ⟨gb, 0, none⟩) k k] 54)) hbj)
                    have HBA := Lib.hid ((HBi.out.trans (HBk.out.mono hsi)).trans (hA.mono hbj))
                    have hbb : w8.heap.size ≤ (wj.alloc (.cells #[.int .i64 (x : Nat), .slice (some ⟨gb, 0, none⟩) k k] 54)).heap.size := Nat.le_trans hbj hA.size
                    clear hA hnw hbl hby hup hB
                    rcases HD.out.own.2 with ⟨e, h0⟩ | ⟨gh, caph, curh, e, _⟩
                    · simp only [Value.slice.injEq] at e
                      obtain ⟨rfl, rfl, rfl⟩ := e
                      clear h0
                      go_wp2_with ((show wpList _ _ _ (⟨some 112, _, _, _, _, _⟩ :: _) _ _; refine wpList_append_own_none (o := ⟨some 112, _, _, _, _, _⟩) rfl (.tmp 110) (.tmp 111) 37 rfl w8.heap.size 54 i0 2 Tryz.underlying37 HI.out _ 1 _ rfl HLT.out rfl ?_))
                      go_roundw
                      case rel => exact ⟨1, x + 1, _, _, _, _, _, by omega, by go_num, rfl, by omega, Hd.cons HDj.out HN.out HLT.out HLT.out ⟨rfl, rfl, rfl, Nat.le_refl _, fun _ _ _ => rfl⟩, HBA.out⟩
                      case measure => simp [intOf]; omega
                    · simp only [Value.slice.injEq, true_and] at e
                      obtain ⟨rfl, rfl⟩ := e
                      go_wp2_with ((show wpList _ _ _ (⟨some 112, _, _, _, _, _⟩ :: _) _ _; refine wpList_append_own (o := ⟨some 112, _, _, _, _, _⟩) _ rfl (.tmp 110) (.tmp 111) 37 rfl w8.heap.size 54 i0 (.agg #[.int .i64 0, .slice none 0 0]) 2 32 Tryz.underlying37 HI.out HZ0.out HZ1.out HZ2.out rfl (by decide) _ 1 _ rfl HLT.out ⟨gh, 0, none⟩ q hc (hdv h r (fun _ => k) (fun _ => k) q) rfl (hdv_len q) (fun j u hu => HDj.out.own.cells (g := gh) rfl j u hu) (hdv_ones _ _ _ _ _) (by unfold maxLen; omega) (by omega) hbb ?_; intro v6 w6' hown6 hgrow6 _; have HOWN6 := Lib.hid hown6; have HGR6 := Lib.hid hgrow6; clear hown6 hgrow6))
                      obtain ⟨g6, c6, rfl⟩ := own_slice HOWN6.out
                      have HB6 := Lib.hid (HBA.out.grown HGR6.out hbb (fun k e => (HLT.out.lt k e).1))
                      rw [Nat.add_comm 1 q] at *
                      have HDn := Lib.hid (Hd.cons HDj.out HN.out HLT.out (by rw [Nat.add_comm 1 q]; exact HOWN6.out) HGR6.out)
                      go_roundw
                      case rel => exact ⟨q + 1, x + 1, _, _, _, _, _, by omega, by go_num, rfl, by omega, HDn.out, HB6.out⟩
                      case measure => simp [intOf]; omega
              · have hstop : ¬ (x : Int) < N ∨ ((x : Int) < N ∧ (E == 0) = false) := by
                  by_cases h1 : (x : Int) < N
                  · exact Or.inr ⟨h1, by simp; exact fun h => hgo ⟨h1, h⟩⟩
                  · exact Or.inl h1
                have hTn : w8.heap.size ≤ wi.heap.size := hsi
                have HTi := Lib.hid (HT8.out.same HBi.out)
                have HBw := Lib.hid (HB8.out.trans (HBi.out.mono hs8))
                have hmT := hmk8 T (by omega)
                obtain ⟨T1, hT1'⟩ : ∃ T1, T1 = T + 1 := ⟨_, rfl⟩
                have hmT1 := hmk8 T1 (by omega)
                have hT1b : T1 ≤ 524281 := by omega
                have k2 : (m : Int).tmod 6 = ((m % 6 : Nat) : Int) := rfl
                have k1 : (m : Int) % 6 = ((m % 6 : Nat) : Int) := by omega
                have k3 : (T : Int) + 1 = (T1 : Int) := by omega
                clear hT1'
                generalize hm6' : m % 6 = a6' at *
                clear hgo hm6'
                rcases hstop with i2 | ⟨i2, g1⟩
                all_goals
                  go_wp2_with fail
                  refine (layGathers_any N _ ha 2 2 q hc Kt Lt h r (fun _ => T) (fun _ => T) f (by omega) (fun _ _ => by omega) (fun e => by cases e) (by omega) (by omega) _ HTi.out HD.out.hs).mono ?_
                  rintro e w12 ⟨rfl, hB12⟩
                  have HT12 := Lib.hid (HTi.out.same hB12); have HD12 := Lib.hid (HD.out.same hB12); have HB12 := Lib.hid (HBw.out.trans (hB12.mono HBw.out.size)); have HQ12 := Lib.hid (HBi.out.trans (hB12.mono hsi)); have hs12 := Nat.le_trans hsi hB12.size
                  clear hB12 HTi HD
                  have hA13 := (Below.refl w12.heap.size w12).alloc (Nat.le_refl _) (.cells (madeCells #[.int .u8 0] T) 5)
                  have hbl := bl_made w12 T
                  have hz13 : (w12.alloc (.cells (madeCells #[.int .u8 0] T) 5)).heap.size = w12.heap.size + 1 := World.size_alloc _ _
                  obtain ⟨w13, hw13⟩ : ∃ w13, w13 = w12.alloc (.cells (madeCells #[.int .u8 0] T) 5) := ⟨_, rfl⟩
                  rw [← hw13] at hA13 hbl hz13
                  have hA14 := (Below.refl w13.heap.size w13).alloc (Nat.le_refl _) (.cells #[.int .i64 (a6' : Nat), .slice (some ⟨w12.heap.size, 0, none⟩) T T] 54)
                  have HN14 := Lib.hid (cell_new2 w13 (.int .i64 (a6' : Nat)) (.slice (some ⟨w12.heap.size, 0, none⟩) T T) 54)
                  obtain ⟨w14, hw14⟩ : ∃ w14, w14 = w13.alloc (.cells #[.int .i64 (a6' : Nat), .slice (some ⟨w12.heap.size, 0, none⟩) T T] 54) := ⟨_, rfl⟩
                  rw [← hw14] at hA14 HN14
                  have HQ14 := Lib.hid ((HQ12.out.trans (hA13.mono hs12)).trans (hA14.mono (Nat.le_trans hs12 hA13.size)))
                  have HD14 := Lib.hid ((HD12.out.same hA13).same hA14); have HT14 := Lib.hid ((HT12.out.same hA13).same hA14)
                  have HB14 := Lib.hid ((HB12.out.trans (hA13.mono HB12.out.size)).trans (hA14.mono (Nat.le_trans HB12.out.size hA13.size)))
                  have hz14 : w8.heap.size ≤ w14.heap.size := Nat.le_trans hs12 (Nat.le_trans hA13.size hA14.size)
                  have HNW := Lib.hid ((⟨hbl.sl (Nat.le_refl _) (by unfold maxLen; omega) (fun _ => (by omega : 0 < 256)) (fun _ _ => rfl), hbl.ow hs12⟩ : Nw w13 w8.heap.size (some ⟨w12.heap.size, 0, none⟩) T T (fun _ => 0)).below hA14)
                  have HW14 := Lib.hid (show w14 = (w12.alloc (.cells (madeCells #[.int .u8 0] T) 5)).alloc (.cells #[.int .i64 (a6' : Nat), .slice (some ⟨w12.heap.size, 0, none⟩) T T] 54) by rw [hw14, hw13])
                  have HZ13 := Lib.hid hz13
                  clear hA13 hbl hz13 hw13 hA14 hw14
                  go_wp2_with (at_builtin; (rw [← HW14.out, ← HZ13.out]; refine wpList_append_bagN _ rfl (.tmp 121) (.tmp 127) 37 rfl w8.heap.size 54 i0 (.agg #[.int .i64 0, .slice none 0 0]) 2 32 Tryz.underlying37 HI.out HZ0.out HZ1.out HZ2.out rfl (by decide) ha q hc _ rfl HD14.out.own ⟨w13.heap.size, 0, none⟩ 1 1 [.int .i64 (a6' : Nat), .slice (some ⟨w12.heap.size, 0, none⟩) T T] rfl rfl HN14.out (pair_ones _ _ _ _) (by decide) (by unfold maxLen; omega) (by omega) hz14 ?_; intro g6 c6 w15 hown6 hc6 hlt6; have HOWN6 := Lib.hid hown6; have HC6 := Lib.hid hc6; clear hown6 hc6 hlt6))
                  obtain ⟨hd15, hs15, hbel⟩ := HD14.out.app HNW.out HOWN6.out HC6.out hz14
                  have HD15 := Lib.hid hd15; have HS15 := Lib.hid hs15; have HQ15 := Lib.hid (HQ14.out.trans hbel); have HT15 := Lib.hid (HT8.out.same (HQ14.out.trans hbel))
                  have hz15 := HQ15.out.size
                  clear hd15 hs15 hbel HC6 HOWN6 HNW HD14 HT14 HB14 HQ14 HW14 HZ13 HN14 hmT k1 k2
                  refine (layGathers_any N _ (some ⟨g6, 0, none⟩) 2 2 (q + 1) c6 Kt Lt _ _ _ _ _ (by omega) (fun i _ => by show (if i = q then T else T) ≤ _; split <;> omega) (fun e => by cases e) (by omega) (by omega) _ HT15.out HS15.out).mono ?_
                  rintro e w16 ⟨rfl, hB16⟩
                  have HD16 := Lib.hid (HD15.out.same hB16); have HQ16 := Lib.hid (HQ15.out.trans (hB16.mono hz15))
                  have hs16 := HQ16.out.size
                  clear hB16 HS15 HD15 HT15 HQ15
                  have hA17 := (Below.refl w16.heap.size w16).alloc (Nat.le_refl _) (.cells (madeCells #[.int .u8 0] T1) 5)
                  have hbl := bl_made w16 T1
                  have hz17 : (w16.alloc (.cells (madeCells #[.int .u8 0] T1) 5)).heap.size = w16.heap.size + 1 := World.size_alloc _ _
                  obtain ⟨w17, hw17⟩ : ∃ w17, w17 = w16.alloc (.cells (madeCells #[.int .u8 0] T1) 5) := ⟨_, rfl⟩
                  rw [← hw17] at hA17 hbl hz17
                  have hA18 := (Below.refl w17.heap.size w17).alloc (Nat.le_refl _) (.cells #[.int .i64 0, .slice (some ⟨w16.heap.size, 0, none⟩) T1 T1] 54)
                  have HN18 := Lib.hid (cell_new2 w17 (.int .i64 0) (.slice (some ⟨w16.heap.size, 0, none⟩) T1 T1) 54)
                  obtain ⟨w18, hw18⟩ : ∃ w18, w18 = w17.alloc (.cells #[.int .i64 0, .slice (some ⟨w16.heap.size, 0, none⟩) T1 T1] 54) := ⟨_, rfl⟩
                  rw [← hw18] at hA18 HN18
                  have HQ18 := Lib.hid ((HQ16.out.trans (hA17.mono hs16)).trans (hA18.mono (Nat.le_trans hs16 hA17.size)))
                  have HD18 := Lib.hid ((HD16.out.same hA17).same hA18)
                  have hz18 : w8.heap.size ≤ w18.heap.size := Nat.le_trans hs16 (Nat.le_trans hA17.size hA18.size)
                  have HNW := Lib.hid ((⟨hbl.sl (Nat.le_refl _) (by unfold maxLen; omega) (fun _ => (by omega : 0 < 256)) (fun _ _ => rfl), hbl.ow hs16⟩ : Nw w17 w8.heap.size (some ⟨w16.heap.size, 0, none⟩) T1 T1 (fun _ => 0)).below hA18)
                  have HW18 := Lib.hid (show w18 = (w16.alloc (.cells (madeCells #[.int .u8 0] T1) 5)).alloc (.cells #[.int .i64 0, .slice (some ⟨w16.heap.size, 0, none⟩) T1 T1] 54) by rw [hw18, hw17])
                  have HZ17 := Lib.hid hz17
                  clear hA17 hbl hz17 hw17 hA18 hw18
                  go_wp2_with (at_builtin; (rw [← HW18.out, ← HZ17.out]; refine wpList_append_bagN _ rfl (.tmp 135) (.tmp 140) 37 rfl w8.heap.size 54 i0 (.agg #[.int .i64 0, .slice none 0 0]) 2 32 Tryz.underlying37 HI.out HZ0.out HZ1.out HZ2.out rfl (by decide) ha q hc _ rfl HD18.out.own ⟨w17.heap.size, 0, none⟩ 1 1 [.int .i64 0, .slice (some ⟨w16.heap.size, 0, none⟩) T1 T1] rfl rfl HN18.out (pair_ones _ _ _ _) (by decide) (by unfold maxLen; omega) (by omega) hz18 ?_; intro g7 c7 w19 hown6 hc6 hlt6; have HOWN6 := Lib.hid hown6; have HC6 := Lib.hid hc6; clear hown6 hc6 hlt6))
                  obtain ⟨hd19, hs19, hbel⟩ := HD18.out.app HNW.out HOWN6.out HC6.out hz18
                  have HS19 := Lib.hid hs19; have HQ19 := Lib.hid (HQ18.out.trans hbel); have HT19 := Lib.hid (HT8.out.same (HQ18.out.trans hbel))
                  have hz19 := HQ19.out.size
                  clear hd19 hs19 hbel HC6 HOWN6 HNW HD18 HQ18 HW18 HZ17 HN18 hmT1 k3
                  refine (layGathers_any N _ (some ⟨g7, 0, none⟩) 2 2 (q + 1) c7 Kt Lt _ _ _ _ _ (by omega) (fun i _ => by show (if i = q then T1 else T) ≤ _; split <;> omega) (fun e => by cases e) (by omega) (by omega) _ HT19.out HS19.out).mono ?_
                  rintro e w20 ⟨rfl, hB20⟩
                  have HB20 := Lib.hid (HB8.out.trans ((HQ19.out.trans (hB20.mono hz19)).mono hs8))
                  clear hB20 HS19 HT19 HQ19
                  go_wp2_with fail
                  go_roundw
                  case rel => exact ⟨m + 1, by omega, by go_num, HB20.out⟩
                  case measure => simp [intOf]; omega
        · obtain rfl : m = 64 := by omega
          go_wp2
          go_roundw
          case rel => exact ⟨N + 1, by omega, by omega, by go_num, HBo.out⟩
          case measure => simp [intOf]; omega
    · have hN6 : ¬ N < 5 := hN5
      go_wp2_with fail
      go_loopw [10, 11] (fun v i wr => ∃ (k : Nat) (na : Option Addr) (nc : Nat) (W : World), W = wr ∧ k ≤ 9 ∧ i = .int .i64 k ∧ v = .slice na k nc ∧ wr.ownsRow w.heap.size 48 2 (.slice na k nc) k (tdl k9 l9 k) ∧ Below w.heap.size w wr) (fun _ i _ => 9 - (intOf i).toNat)
      case atStart => exact ⟨0, none, 0, _, rfl, by omega, rfl, rfl, World.ownsRow_nil _ _ _ _, HB.out⟩
      case round =>
        obtain ⟨k, na, nc, wx, rfl, hk, rfl, rfl, hO, hB⟩ := hrel
        have HO := Lib.hid hO; have HBx := Lib.hid hB
        have hsx := hB.size
        clear hO hB
        by_cases hk9 : k < 9
        · have i1 : (k : Int) < 9 := by omega
          obtain ⟨e3, he3⟩ : ∃ e3, e3 = k / 3 := ⟨_, rfl⟩
          have x1 : (k : Int) / 3 = (e3 : Int) := by omega
          have x2 : (k : Int).tdiv 3 = (e3 : Int) := by rw [he3]; rfl
          have x3 : IntKind.i64.wrap (e3 : Int) = (e3 : Int) := IntWalk.i64_in _ (by omega)
          have x4 : 1 + (e3 : Int) = k9 k := by unfold k9; omega
          have hk9b : 1 ≤ k9 k ∧ k9 k ≤ 9 := by unfold k9; omega
          have x5 : IntKind.i64.wrap (k9 k) = k9 k := IntWalk.i64_in _ (by omega)
          have HOW := Lib.hid (own_below HO.out ((Below.refl _ wx).alloc (Nat.le_refl _) (.cells #[.int .i64 (k9 k), .int .i64 (k : Nat)] 48)))
          have hbb : w.heap.size ≤ (wx.alloc (.cells #[.int .i64 (k9 k), .int .i64 (k : Nat)] 48)).heap.size := by rw [World.size_alloc]; omega
          clear he3
          go_wp2_with (at_builtin; (refine wpList_append_own _ rfl (.tmp 149) (.tmp 155) 36 rfl w.heap.size 48 j0 (.agg #[.int .i64 0, .int .i64 0]) 2 16 Tryz.underlying36 HJ.out HY0.out HY1.out HY2.out rfl (by decide) (.slice na k nc) k _ rfl HOW.out ⟨wx.heap.size, 0, none⟩ 1 1 [.int .i64 (k9 k), .int .i64 (k : Nat)] rfl rfl (cell_new2 wx _ _ 48) (int_ones _ _) (by unfold maxLen; omega) (by omega) hbb ?_; intro v6 w6 hown6 hgrow6 _; have HOWN6 := Lib.hid hown6; have HB6 := Lib.hid ((HBx.out.trans (((Below.refl _ wx).alloc (Nat.le_refl _) (.cells #[.int .i64 (k9 k), .int .i64 (k : Nat)] 48)).mono hsx)).grown hgrow6 hbb (fun q e => (HOW.out.lt q e).1)); clear hown6 hgrow6))
          obtain ⟨g6, c6, rfl⟩ := own_slice HOWN6.out
          go_roundw
          case rel => exact ⟨k + 1, _, c6, _, rfl, by omega, by go_num, rfl, HOWN6.out, HB6.out⟩
          case measure => simp [intOf]; omega
        · have HK9 := Lib.hid (show k = 9 by omega)
          have hE := heap_alloc_new wx (.cells #[.int .i64 1, .int .i64 65535, .int .i64 1, .int .i64 65536, .int .i64 255, .int .i64 65535, .int .i64 256, .int .i64 1, .int .i64 1, .int .i64 (-1), .int .i64 (-1), .int .i64 1] 48)
          have hbE := (Below.refl wx.heap.size wx).alloc (Nat.le_refl _) (.cells #[.int .i64 1, .int .i64 65535, .int .i64 1, .int .i64 65536, .int .i64 255, .int .i64 65535, .int .i64 256, .int .i64 1, .int .i64 1, .int .i64 (-1), .int .i64 (-1), .int .i64 1] 48)
          have HE := Lib.hid hE; have HBE := Lib.hid (HBx.out.trans (hbE.mono hsx)); have HOE := Lib.hid (own_below HO.out hbE)
          clear hE hbE
          go_wp2_with fail
          generalize wx.alloc (.cells #[.int .i64 1, .int .i64 65535, .int .i64 1, .int .i64 65536, .int .i64 255, .int .i64 65535, .int .i64 256, .int .i64 1, .int .i64 1, .int .i64 (-1), .int .i64 (-1), .int .i64 1] 48) = wE at *
          generalize wx.heap.size = gE at *
          have HTE := Lib.hid (tb_at (n := 6) (K := kE) (L := lE) HE.out (fun i hi => by rcases (show i = 0 ∨ i = 1 ∨ i = 2 ∨ i = 3 ∨ i = 4 ∨ i = 5 by omega) with rfl | rfl | rfl | rfl | rfl | rfl <;> exact ⟨rfl, rfl⟩))
          have hsE := HBE.out.size
          clear HE
          go_loopw [13] (fun i wr => ∃ (j : Nat) (W : World), W = wr ∧ j ≤ 6 ∧ i = .int .i64 j ∧ Below wE.heap.size wE wr) (fun i _ => 6 - (intOf i).toNat)
          case atStart => exact ⟨0, _, rfl, by omega, rfl, Below.refl _ _⟩
          case round =>
            obtain ⟨j, wy, rfl, hj, rfl, hB⟩ := hrel
            have HBy := Lib.hid hB
            have hsy := hB.size
            clear hB
            by_cases hj6 : j < 6
            · have i1 : (j : Int) < 6 := by omega
              obtain ⟨b, o, ea, c1, c2⟩ := (HTE.out.same HBy.out).cell j hj6
              cases ea
              rw [Nat.zero_add] at c1 c2
              have C1 := Lib.hid c1; have C2 := Lib.hid c2
              have hlit : ∀ W : World, Tb (W.alloc (.cells #[.int .i64 (kE j), .int .i64 (lE j)] 48)) (some ⟨W.heap.size, 0, none⟩) 1 (fun _ => kE j) (fun _ => lE j) := fun W => tb_at (heap_alloc_new W _) (fun i hi => by
                obtain rfl : i = 0 := by omega
                exact ⟨rfl, rfl⟩)
              have HLIT := Lib.hid hlit
              clear hlit
              go_wp2_with fail
              refine (layTables_any 255 300 _ 1 1 _ _ _ (HLIT.out wy) (fun e => by cases e) (by omega)).mono ?_
              rintro e w2 ⟨rfl, hB2⟩
              have hB2' := ((Below.refl wy.heap.size wy).alloc (Nat.le_refl _) (.cells #[.int .i64 (kE j), .int .i64 (lE j)] 48)).trans (hB2.mono (by simp))
              have HB2 := Lib.hid (HBy.out.trans (hB2'.mono hsy))
              clear c1 c2
              have c1 : w2.cell? ⟨gE, j * 2, none⟩ = some (.int .i64 (kE j)) := by rw [hB2'.cell (World.block_lt_of_cell? _ _ C1.out)]; exact C1.out
              have c2 : w2.cell? ⟨gE, j * 2 + 1, none⟩ = some (.int .i64 (lE j)) := by rw [hB2'.cell (World.block_lt_of_cell? _ _ C2.out)]; exact C2.out
              have hs2 := HB2.out.size
              clear hB2 hB2'
              go_wp2_with fail
              refine (layTables_any 256 1 _ 1 1 _ _ _ (HLIT.out w2) (fun e => by cases e) (by omega)).mono ?_
              rintro e w3 ⟨rfl, hB3⟩
              have hB3' := ((Below.refl w2.heap.size w2).alloc (Nat.le_refl _) (.cells #[.int .i64 (kE j), .int .i64 (lE j)] 48)).trans (hB3.mono (by simp))
              have HB3 := Lib.hid (HB2.out.trans (hB3'.mono hs2))
              have hs3 := HB3.out.size
              clear hB3 hB3' c1 c2 C1 C2 HLIT
              obtain ⟨t1, t2, t3, t4⟩ := threeB w3 (.cells #[.int .u8 1] 5) (.cells #[.slice (some ⟨w3.heap.size, 0, none⟩) 1 1] 50) (.cells #[.int .i64 (j : Nat)] 3)
              have HRD := Lib.hid (rd_oneB (v := 1) (by decide) t1 t2); have HHI := Lib.hid (hi_at2 _ _ [(j : Int)] 1 (by simp) (by simp) t3)
              have HB4 := Lib.hid (HB3.out.trans (t4.mono hs3))
              clear t1 t2 t3 t4
              go_wp2_with fail
              refine (layBodies_any 300 _ _ 1 1 1 1 _ _ _ _ _ (by omega) (fun i _ => by show 1 ≤ _; omega) (by omega) _ HRD.out HHI.out).mono ?_
              rintro e w5 ⟨rfl, hB5⟩
              have HB5 := Lib.hid (HB4.out.trans (hB5.mono HB4.out.size))
              clear hB5 HRD HHI
              go_wp2
              go_roundw
              case rel => exact ⟨j + 1, _, rfl, by omega, by go_num, HB5.out⟩
              case measure => simp [intOf]; omega
            · have hj6e : ¬ (j : Int) < 6 := by omega
              have HTn := Lib.hid (tdl_tb (own_below HOE.out HBy.out))
              have hnc := HTn.out.2
              have HON := Lib.hid (own_nil HOE.out)
              have s1 : ∀ W, (Instr.slice 36 (.slice na k nc) none (some (.int .i64 8)) none).run Tryz.prog W = .ok (.slice na 8 nc) W := fun W => slice_hT _ k nc 8 (by have := HK9.out; omega) W
              have HBz := Lib.hid (HBE.out.trans (HBy.out.mono hsE))
              have hsz := HBz.out.size
              have HS1 := Lib.hid s1
              clear s1
              go_wp2_with fail
              refine (layTables_any 9 2 na k nc k9 l9 _ HTn.out.1 HON.out (by omega)).mono ?_
              rintro e w2 ⟨rfl, hB2⟩
              have HB2 := Lib.hid (HBz.out.trans (hB2.mono hsz)); have HT2 := Lib.hid (HTn.out.1.same hB2)
              have hs2 := HB2.out.size
              have s1 := HS1.out
              clear hB2
              go_wp2_with fail
              refine (layTables_any 9 2 na 8 nc k9 l9 _ (HT2.out.less (by have := HK9.out; omega)) (fun e => by have := HON.out e; have := HK9.out; omega) (by have := HK9.out; omega)).mono ?_
              rintro e w3 ⟨rfl, hB3⟩
              have HB3 := Lib.hid (HB2.out.trans (hB3.mono hs2))
              have hs3 := HB3.out.size
              clear hB3 s1
              go_wp2_with fail
              refine (layTables_any 9 2 none 0 0 k9 l9 _ ⟨fun i hi => absurd hi (Nat.not_lt_zero i)⟩ (fun _ => ⟨rfl, rfl⟩) (by omega)).mono ?_
              rintro e w4 ⟨rfl, hB4⟩
              have HB4 := Lib.hid (HB3.out.trans (hB4.mono hs3))
              have hs4 := HB4.out.size
              clear hB4
              obtain ⟨t1, t2, t3⟩ := twoB w4 (.cells #[.int .u8 1] 5) (.cells #[.slice (some ⟨w4.heap.size, 0, none⟩) 1 1] 50)
              have HRD := Lib.hid (rd_oneB (v := 1) (by decide) t1 t2)
              have HB5 := Lib.hid (HB4.out.trans (t3.mono hs4))
              have hs5 := HB5.out.size
              clear t1 t2 t3
              go_wp2_with fail
              refine (layBodies_any 3 _ none 1 1 0 0 (fun _ => 0) _ _ _ _ (by omega) (fun i _ => by show 1 ≤ _; omega) (by omega) _ HRD.out (hi_nil _)).mono ?_
              rintro e w6 ⟨rfl, hB6⟩
              have HB6 := Lib.hid (HB5.out.trans (hB6.mono hs5))
              have hs6 := HB6.out.size
              clear hB6 HRD
              go_wp2_with fail
              refine (layGathers_any 3 none none 0 0 0 0 k9 l9 (fun _ => 0) (fun _ => none) (fun _ => 0) (fun _ => 0) (fun _ _ => 0) (by omega) (fun _ _ => by omega) (fun _ => ⟨rfl, rfl⟩) (by omega) (by omega) _ ⟨fun i hi => absurd hi (Nat.not_lt_zero i)⟩ ⟨fun _ _ => (by omega : 0 < 256), fun i hi => absurd hi (Nat.not_lt_zero i), fun i hi => absurd hi (Nat.not_lt_zero i)⟩).mono ?_
              rintro e w7 ⟨rfl, hB7⟩
              have HB7 := Lib.hid (HB6.out.trans (hB7.mono hs6))
              clear hB7
              go_wp2_with fail
              refine (awakeA_any _).mono ?_
              rintro e w8 ⟨rfl, hB8⟩
              have HB8 := Lib.hid (HB7.out.trans (hB8.mono HB7.out.size))
              clear hB8
              go_wp2
              go_ret
              exact ⟨rfl, HB8.out⟩
end Go.Proofs.YtkejabhjlflknaaGreat.Ly
