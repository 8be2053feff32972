import Derived.Test.YtdempjkkahjekaaV5
import Derived.Test.YtdempjkkahjekaaV8
import Derived.Test.YtdempjkkahjekaaGC
namespace Go.Proofs.Ytdempjkkahjekaa.Pf
open Gf
/-- K rows of a table, by whichever bytes. -/
theorem tbl_two {R : Nat → Nat} {K : Nat} (hR : By R) (hd : Dst R K) (hK : K ≤ 256) : Mt.Two K (fun j b => lw R K (idn j) b) (fun a j => lw idn K (R a) j) := by
  have hp : ∀ (P Q : Nat → Nat), By P → By Q → Dst P K → Dst Q K → ∀ x, x < 256 → ∀ b, b < K → xsum (fun j => mul (lw P K x j) (lw Q K (P j) b)) K = lw Q K x b := fun P Q hP hQ hdP hdQ x hx b hb => by
    rw [← lbp_ev hQ hx hb]
    exact (lagrange hP hdP (p := lbp Q K b) (v := fun j => lw Q K (P j) b) (lbp_by hQ K b) (lbp_up hb) (fun j => lw_by hQ K (hP j) b) (fun i hi => lbp_ev hQ (hP i) hb) hx).symm
  refine ⟨fun i j => lw_by hR K (idn_by i) j, fun i j => lw_by idn_by K (hR i) j, fun i j hi hj => ?_, fun i j hi hj => ?_⟩
  · show xsum (fun k => mul (lw R K (idn i) k) (lw idn K (R k) j)) K = _
    rw [hp R idn hR idn_by hd (idn_dst hK) _ (idn_by i) j hj, lw_at idn_by (idn_dst hK) hj hi]
    unfold Mt.dl
    by_cases e : j = i
    · rw [if_pos e, if_pos e.symm]
    · rw [if_neg e, if_neg (Ne.symm e)]
  · show xsum (fun k => mul (lw idn K (R i) k) (lw R K (idn k) j)) K = _
    rw [hp idn R idn_by hR (idn_dst hK) hd _ (hR i) j hj, lw_at hR hd hj hi]
    unfold Mt.dl
    by_cases e : j = i
    · rw [if_pos e, if_pos e.symm]
    · rw [if_neg e, if_neg (Ne.symm e)]
/-- their rank. -/
theorem tbl_rk {R : Nat → Nat} {K : Nat} (hR : ∀ i, i < K → R i < 256) (hd : Dst R K) (hK : K ≤ 256) : Mt.rk K K (fun i => tbl K (R i)) = K := by
  have hd2 : Dst (fun i => R i % 256) K := fun i j h1 h2 => by
    show R i % 256 ≠ R j % 256
    rw [Nat.mod_eq_of_lt (hR i (by omega)), Nat.mod_eq_of_lt (hR j h2)]; exact hd i j h1 h2
  exact Mt.rk_two (tbl_two (R := fun i => R i % 256) (fun i => Nat.mod_lt _ (by omega)) hd2 hK).turn
theorem isP_no {P : Nat → Nat} {x : Nat} : ∀ k, isP P x k = false → ∀ j, j < k → P j ≠ x
  | 0, _, _, h => by omega
  | k + 1, h, j, hj => by
    unfold isP at h
    rw [Bool.or_eq_false_iff] at h
    by_cases e : j = k
    · rw [e]; exact of_decide_eq_false h.2
    · exact isP_no k h.1 j (by omega)
theorem isP_congr {P Q : Nat → Nat} {x : Nat} : ∀ k, (∀ j, j < k → P j = Q j) → isP P x k = isP Q x k
  | 0, _ => rfl
  | k + 1, h => by
    unfold isP; rw [isP_congr k (fun j hj => h j (by omega)), h k (by omega)]
theorem isP_lt {P : Nat → Nat} {x k j : Nat} (hj : j < k) (e : P j = x) : isP P x k = true := by
  cases h : isP P x k
  · exact absurd e (isP_no k h j hj)
  · rfl
end Go.Proofs.Ytdempjkkahjekaa.Pf
namespace Go.Proofs.Ytdempjkkahjekaa
open Go.RowKit Go.Shelf

set_option maxHeartbeats 1000000 in
theorem pick_any (x : Int) (n : Nat) (h1 : 1 ≤ n) (h2 : n ≤ 1000) (w : World) :
    Calls Try.prog 22 #[.int .i64 x, .int .i64 (n : Nat)] w fun e w' => (∃ r : Nat, r < n ∧ e = .returned (.int .i64 (r : Nat))) ∧ w' = w := by
  have a1 := Int.tmod_lt_of_pos x (show (0 : Int) < (n : Int) by omega)
  have a2 := Int.lt_tmod_of_pos x (show (0 : Int) < (n : Int) by omega)
  have g1 : ¬ (n : Int) < 1 := by omega
  have g2 : ¬ (n : Int) = 0 := by omega
  have g3 : ¬ n = 0 := by omega
  generalize hr : x.tmod (n : Int) = r at *
  by_cases h : r < 0
  · have HR := Lib.hid hr
    go_enter Try.func22, Try.ntmps22
    go_wp2
    go_ret
    exact ⟨⟨(r + n).toNat, by omega, by rw [Int.toNat_of_nonneg (by omega)]; rfl⟩, rfl⟩
  · have HR := Lib.hid hr
    go_enter Try.func22, Try.ntmps22
    go_wp2
    go_ret
    exact ⟨⟨r.toNat, by omega, by rw [Int.toNat_of_nonneg (by omega)]; rfl⟩, rfl⟩

set_option maxHeartbeats 1000000 in
/-- poly's Value. -/
theorem pv_any (a : Option Addr) (len cap : Nat) (f : Nat → Nat) (x : Nat) (hx : x < 256) (hm : len ≤ 1000000000000) (w : World) (hS : Sl w a len cap f) :
    Calls Try.prog 21 #[.slice a len cap, .int .u8 (x : Nat)] w fun e w' => e = .returned (.int .u8 (Pf.ev f x len : Nat)) ∧ Below w.heap.size w w' := by
  have HS := Lib.hid hS; clear hS
  go_enter Try.func21, Try.ntmps21
  go_wp2_with fail
  refine (new_any _).mono ?_
  rintro e w1 ⟨rfl, hF, hB1⟩
  have hW : (w1.alloc (.cells #[.pointer (some ⟨w.heap.size, 0, none⟩), .slice a len cap] 70)).heap[w1.heap.size]? = some (.cells #[.pointer (some ⟨w.heap.size, 0, none⟩), .slice a len cap] 70 (0, 0)) := heap_alloc_new _ _
  have hB2 : Below w1.heap.size w1 (w1.alloc (.cells #[.pointer (some ⟨w.heap.size, 0, none⟩), .slice a len cap] 70)) := (Below.refl _ _).alloc (Nat.le_refl _) _
  have hc0 := cell_of_row _ _ 0 _ _ _ hW
  have hc1 := cell_of_row _ _ 1 _ _ _ hW
  have HF := Lib.hid (hF.below hB2 hF.lt); have HC0 := Lib.hid hc0; have HC1 := Lib.hid hc1; have HB := Lib.hid (hB1.trans (hB2.mono hB1.size)); clear hF hB1 hB2 hW hc0 hc1
  go_wp2_with fail
  refine (value_any _ _ x hx a len cap f hm _ HC0.out HC1.out HF.out (HS.out.same HB.out)).mono ?_
  rintro e w2 ⟨rfl, hB2⟩
  have HB2 := Lib.hid hB2; clear hB2
  go_wp2
  go_ret
  exact ⟨rfl, HB.out.trans (HB2.out.mono HB.out.size)⟩

/-- a block of numbers. -/
def Bi (w : World) (g n : Nat) (h : Nat → Int) : Prop := ∃ vs : Array Value, w.heap[g]? = some (.cells vs 3 (0, 0)) ∧ vs.size = n ∧ ∀ i, i < n → vs[i]? = some (.int .i64 (h i))
section
variable {w w' : World} {g n : Nat} {h : Nat → Int}
theorem Bi.cell (b : Bi w g n h) {i : Nat} (hi : i < n) : w.cell? ⟨g, i, none⟩ = some (.int .i64 (h i)) := by
  obtain ⟨vs, h1, h2, h3⟩ := b
  rw [cell_of_row w g i vs _ _ h1]; exact h3 i hi
theorem Bi.free (b : Bi w g n h) (i : Nat) : w.frozen? ⟨g, i, none⟩ = false := by
  obtain ⟨vs, h1, _⟩ := b
  exact frozen_of_row w g i vs _ h1
theorem Bi.lt (b : Bi w g n h) : g < w.heap.size := by
  obtain ⟨vs, h1, _⟩ := b
  exact (Array.getElem?_eq_some_iff.1 h1).1
theorem Bi.kept (b : Bi w g n h) (hk : w'.heap[g]? = w.heap[g]?) : Bi w' g n h := by
  obtain ⟨vs, h1, h2⟩ := b
  exact ⟨vs, hk.trans h1, h2⟩
theorem Bi.congr {h' : Nat → Int} (b : Bi w g n h) (he : ∀ i, i < n → h i = h' i) : Bi w g n h' := by
  obtain ⟨vs, h1, h2, h3⟩ := b
  exact ⟨vs, h1, h2, fun i hi => by rw [← he i hi]; exact h3 i hi⟩
theorem Bi.set (b : Bi w g n h) {j : Nat} (hj : j < n) (v : Int) : Bi (w.setCell ⟨g, j, none⟩ (.int .i64 v)) g n (fun i => if i = j then v else h i) := by
  obtain ⟨vs, h1, h2, h3⟩ := b
  refine ⟨vs.setIfInBounds j (.int .i64 v), heap_setCell_same w g j vs _ _ h1, by simpa using h2, fun i hi => ?_⟩
  rw [Array.getElem?_setIfInBounds]
  show _ = some (Value.int .i64 (if i = j then v else h i))
  by_cases e : j = i
  · subst e; rw [if_pos rfl, if_pos (by omega), if_pos rfl]
  · rw [if_neg e, if_neg (fun hh => e (Eq.symm hh))]; exact h3 i hi
end
theorem bi_made (W : World) (N : Nat) : Bi (W.alloc (.cells (madeCells #[.int .i64 0] N) 3)) W.heap.size N (fun _ => 0) :=
  ⟨_, heap_alloc_new W _, size_madeCells _ _, fun i hi => by
    have : (madeCells #[Value.int .i64 0] N).toList[i]? = some (.int .i64 0) := by rw [toList_madeCells_one, List.getElem?_replicate, if_pos hi]
    rwa [Array.getElem?_toList] at this⟩
theorem Try.infoInt : (Try.prog.info? 3).map (fun i => (i.zero, i.size, i.bytes)) = some (some (.int .i64 0), 1, 8) := by kernel_rfl
theorem hmkI (N : Nat) (hN : N ≤ 1000000000) : ∀ W : World, (Instr.makeSlice 38 (.int .i64 (N : Nat)) (.int .i64 (N : Nat))).run Try.prog W = .ok (.slice (some ⟨W.heap.size, 0, none⟩) N N) (W.alloc (.cells (madeCells #[.int .i64 0] N) 3)) := fun W => by
  obtain ⟨i0, hi, hz0, hz1, hz2⟩ := info_parts Try.infoInt
  have := run_make (P := Try.prog) W 38 3 i0 (.int .i64 0) Try.underlying38 hi hz0 .i64 .i64 (N : Int) (N : Int) (by omega) (Int.le_refl _) (by rw [hz2]; omega) (by omega)
  have e : (Value.int .i64 0).cells = #[.int .i64 0] := rfl
  rw [hz1, e, Int.toNat_natCast, Nat.mul_one] at this; exact this
/-- a list of rows of a table. -/
def rowl (b : Nat → Nat) (K : Nat) (R : Nat → Nat) (m : Nat) : List Value := (List.range m).map fun i => Value.slice (some ⟨b (R i), 0, none⟩) K K
theorem rowl_succ (b : Nat → Nat) (K : Nat) (R : Nat → Nat) (m : Nat) : rowl b K R (m + 1) = rowl b K R m ++ [Value.slice (some ⟨b (R m), 0, none⟩) K K] := by
  unfold rowl; rw [List.range_succ, List.map_append]; rfl
theorem rowl_congr (b : Nat → Nat) (K : Nat) {R R' : Nat → Nat} {m : Nat} (h : ∀ i, i < m → R i = R' i) : rowl b K R m = rowl b K R' m := by
  unfold rowl
  exact List.map_congr_left fun i hi => by rw [h i (List.mem_range.1 hi)]
theorem rowl_rd {w : World} {B G N cap m sc K : Nat} {b : Nat → Nat} {R : Nat → Nat} {f : Nat → Nat → Nat} {sa : Option Addr} (ho : w.ownsRow B 22 1 (.slice sa m sc) m (rowl b K R m)) {B' : Nat} (hG : Gr w B' G N cap b (fun _ => K) (fun _ => K) f) (hR : ∀ i, i < m → R i < N) :
    Rd w sa m sc (fun i => some ⟨b (R i), 0, none⟩) (fun _ => K) (fun _ => K) (fun i => f (R i)) := by
  obtain ⟨_, ⟨e, h0⟩ | ⟨g, cap', cur, e, hg, hh, hnc, hcm, hs, ht⟩⟩ := ho
  · simp only [Value.slice.injEq] at e
    obtain ⟨rfl, rfl, rfl⟩ := e
    exact ⟨Nat.le_refl _, by unfold maxLen; omega, fun i j => hG.bm _ _, fun _ => ⟨rfl, rfl⟩, fun _ e => (by cases e), fun _ e => (by cases e), fun i hi => absurd hi (Nat.not_lt_zero i)⟩
  · simp only [Value.slice.injEq, true_and] at e
    obtain ⟨rfl, rfl⟩ := e
    refine ⟨by omega, hcm, fun i j => hG.bm _ _, fun e => (by cases e), fun ad e _ => (by cases e; rfl), fun ad e i hi => ?_, fun i hi => ?_⟩
    · cases e
      show w.cell? ⟨g, 0 + i, none⟩ = _
      rw [Nat.zero_add, cell_of_row w g i cur _ _ hh]
      have : (cur.toList.take (m * 1))[i]? = some (.slice (some ⟨b (R i), 0, none⟩) K K) := by rw [ht]; simp [rowl, hi]
      rw [List.getElem?_take, if_pos (by omega), Array.getElem?_toList] at this
      exact this
    · exact (hG.row (R i) (hR i hi)).sl (Nat.le_refl _) (hG.lc (R i) (hR i hi)).2 (hG.bm _) (hG.up (R i) (hR i hi))
end Go.Proofs.Ytdempjkkahjekaa
