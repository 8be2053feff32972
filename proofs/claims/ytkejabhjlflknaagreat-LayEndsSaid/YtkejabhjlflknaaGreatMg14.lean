import Derived.Test.YtkejabhjlflknaaGreatMg11
import Derived.Test.YtkejabhjlflknaaGreatMg13
namespace Go.Proofs.YtkejabhjlflknaaGreat
open Go.RowKit Go.Shelf

theorem dst_no {P : Nat → Nat} {n : Nat} (h : ∃ i j, i < j ∧ j < n ∧ P i = P j) : ¬ Pf.Dst P n := fun hd => by
  obtain ⟨i, j, h1, h2, h3⟩ := h
  exact hd i j h1 h2 h3

set_option maxHeartbeats 2000000 in
set_option maxRecDepth 100000 in
theorem rValues_any (a av aa : Option Addr) (n cap n' cap' m ac : Nat) (P g f : Nat → Nat) (hn : n ≤ 1000000) (hn' : n' ≤ 1000000) (hm : m ≤ 1000000000) (w : World) (hS : Sl w a n cap P) (hV : Sl w av n' cap' g) (hT : Sl w aa m ac f) :
    Calls Tryz.prog 79 #[.slice a n cap, .slice av n' cap', .slice aa m ac] w (ValSays w n n' m P g f) := by
  obtain ⟨i0, hi, hz0, hz1, hz2⟩ := info_parts Tryz.infoU8
  have HI := Lib.hid hi; have HZ0 := Lib.hid hz0; have HZ1 := Lib.hid hz1; have HZ2 := Lib.hid hz2
  have HS := Lib.hid hS; have HV := Lib.hid hV; have HT := Lib.hid hT; clear hS hV hT hi hz0 hz1 hz2
  go_enter Tryz.func79, Tryz.ntmps79
  go_wp2_with fail
  refine (rthrough_any a av n cap n' cap' P g hn hn' _ HS.out HV.out).mono ?_
  rintro e w2 (⟨hne, rfl, hB⟩ | ⟨hne, hd, rfl, hB⟩ | ⟨hne, pa, pn, pc, S, rfl, hP, hL, hLag, hd, hB⟩)
  · have HB := Lib.hid hB; have HN := Lib.hid hne; clear hB hne
    go_wp2
    go_ret2
    exact Or.inl ⟨HN.out, rfl, HB.out⟩
  · have HB := Lib.hid hB; have HN := Lib.hid hne; have HD := Lib.hid (dst_no hd); clear hB hne hd
    go_wp2
    go_ret2
    exact Or.inr (Or.inl ⟨HN.out, HD.out, rfl, HB.out⟩)
  · have hpn : pn ≤ n := hL.le hLag.up
    have hv : ∀ x, x < 256 → Pf.ev S x pn = dotN (Pf.lw P n x) g n := fun x hx => by rw [← Pf.ev_up x hL.1 hpn]; exact Pf.lag_val HS.out.bytes HV.out.bytes hd hLag hx
    have HB := Lib.hid hB; have HN := Lib.hid hne; have HD := Lib.hid hd; have HP := Lib.hid hP; have HVV := Lib.hid hv
    have hs2 := hB.size
    clear hB hne hd hP hL hLag hv
    go_wp2_with fail
    go_loopw [10, 11] (fun o i wr => ∃ (k : Nat) (ao : Option Addr) (co : Nat), k ≤ m ∧ i = .int .i64 k ∧ o = .slice ao k co ∧ Rq wr w2.heap.size ao k co (fun i => dotN (Pf.lw P n (f i)) g n) ∧ Below w2.heap.size w2 wr) (fun _ i _ => m - (intOf i).toNat)
    case atStart => exact ⟨0, none, 0, by omega, rfl, rfl, Or.inl ⟨rfl, rfl, rfl⟩, Below.refl _ _⟩
    case round =>
      obtain ⟨k, ao, co, hk, rfl, rfl, hR, hB2⟩ := hrel
      have HR := Lib.hid hR; have HB2 := Lib.hid hB2
      by_cases hlt : k < m
      · obtain ⟨ab, ao', ea, hca⟩ := ((HT.out.same HB.out).same hB2).at_ hlt
        have i1 : (k : Int) < (m : Int) := by omega
        have d1 := HT.out.bytes k
        have hc := rvalue_any pa pn pc S (f k) d1 (by omega) wr (HP.out.same hB2)
        rw [HVV.out (f k) d1] at hc
        have HC := Lib.hid hc
        have hsz := hB2.size
        subst ea
        clear hR hB2 hc
        generalize hvk : dotN (Pf.lw P n (f k)) g n = vk at *
        have HVK := Lib.hid hvk; clear hvk
        have hro := (HR.out.same ((Below.refl _ wr).alloc (Nat.le_refl _) (.cells #[.int .u8 (vk : Nat)] 5))).owns
        have HRO := Lib.hid hro; clear hro
        have hbb : w2.heap.size ≤ (wr.alloc (.cells #[.int .u8 (vk : Nat)] 5)).heap.size := by rw [World.size_alloc]; omega
        go_wp2_with (first
          | (go_at_call 106; refine HC.out.mono ?_; rintro e w3 ⟨rfl, hw3⟩; rw [hw3]; clear hw3)
          | (at_builtin; refine wpList_append_bag _ rfl _ _ 50 rfl w2.heap.size 5 i0 (.int .u8 0) 1 Tryz.underlying50 HI.out HZ0.out HZ1.out HZ2.out rfl ao k co _ rfl HRO.out _ 1 1 [.int .u8 (vk : Nat)] rfl rfl (cell_new1 _ _ _) (one_single _ _) (by decide) (by unfold maxLen; omega) (by omega) hbb ?_; intro g6 c6 w6 hown6 hc6 hlt6; have HOWN6 := Lib.hid hown6; have HC6 := Lib.hid hc6; clear hown6 hc6 hlt6))
        have ho := HOWN6.out
        rw [show [Value.int .u8 ((vk : Nat) : Int)] = [Value.int .u8 (((fun i => dotN (Pf.lw P n (f i)) g n) k : Nat) : Int)] by rw [← HVK.out], ← rowv_succ] at ho
        have hr6 := Rq.of_owns ho
        have hb6 := ((Below.refl w2.heap.size wr).alloc hsz (.cells #[.int .u8 (vk : Nat)] 5)).trans (bag_below HC6.out (hr6.lt g6 rfl).1 hbb)
        have HR7 := Lib.hid hr6; have HB7 := Lib.hid (HB2.out.trans hb6)
        clear ho hr6 hb6 HOWN6 HC6
        go_wp2
        go_roundw
        case rel => exact ⟨k + 1, _, c6, by omega, by go_num, rfl, HR7.out, HB7.out⟩
        case measure => simp [intOf]; omega
      · obtain rfl : k = m := by omega
        clear hR hB2
        go_wp2
        go_ret2
        exact Or.inr (Or.inr ⟨HN.out, HD.out, ao, co, rfl, ((HR.out.congr (h' := vls P n g f k) (fun i hi => by unfold vls; rw [if_pos hi])).nw (vls_by HS.out.bytes HV.out.bytes HT.out.bytes n k) (vls_up P n g f k)).mono hs2, HB.out.trans (HB2.out.mono hs2)⟩)

theorem bl_unit (W : World) (n k : Nat) (hk : k < n) : Bl (W.alloc (.cells ((madeCells #[.int .u8 0] n).setIfInBounds k (.int .u8 1)) 5)) W.heap.size n n (Pf.dlt k) := by
  refine ⟨_, heap_alloc_new _ _, by rw [Array.size_setIfInBounds]; exact size_madeCells _ _, fun i hi => ?_⟩
  have hz := get_zeros (n := n) hi
  rw [Array.getElem?_toList] at hz
  rw [Array.getElem?_setIfInBounds]
  have hs : (madeCells #[Value.int .u8 0] n).size = n := size_madeCells _ _
  unfold Pf.dlt
  by_cases e : k = i
  · subst e; rw [if_pos rfl, if_pos (by omega), if_pos rfl]; rfl
  · rw [if_neg e, if_neg (Ne.symm e)]; exact hz
/-- what Weights answers. -/
def WgtSays (w : World) (n x : Nat) (P : Nat → Nat) (e : Ending) (w' : World) : Prop := (Pf.Dst P n ∧ GivesV w n (Pf.lw P n x) e w') ∨ (¬ Pf.Dst P n ∧ e = .returned (.tuple #[.slice none 0 0, .int .i64 9]) ∧ Below w.heap.size w w')

end Go.Proofs.YtkejabhjlflknaaGreat

namespace Go.Proofs.YtkejabhjlflknaaGreat
open Go.RowKit Go.Shelf

/-- the first K bytes, and no more. -/
def idk (K i : Nat) : Nat := if i < K then i else 0
theorem idk_by {K : Nat} (h : K ≤ 256) : Pf.By (idk K) := fun i => by unfold idk; split <;> omega
theorem idk_up (K : Nat) : Pf.Up (idk K) K := fun i hi => by unfold idk; rw [if_neg (by omega)]
theorem idk_idn {K : Nat} (h : K ≤ 256) (x : Nat) : Pf.lw (idk K) K x = Pf.lw Pf.idn K x := Pf.lw_congr (fun j hj => by unfold idk; rw [if_pos hj, Pf.idn_at (by omega)]) x
theorem idk_dst {K : Nat} : Pf.Dst (idk K) K := fun i j hi hj => by unfold idk; rw [if_pos (by omega), if_pos hj]; omega

/-- what the document's Table answers. -/
def TabR (w : World) (N K : Nat) (e : Ending) (w' : World) : Prop :=
  ∃ a cap b c, e = .returned (.tuple #[.slice a N cap, .int .i64 0]) ∧ Go_ w' w.heap.size a N cap b (fun _ => K) c (Pf.tbl K) ∧ Below w.heap.size w w'

end Go.Proofs.YtkejabhjlflknaaGreat
