import Derived.WalkKit
import Derived.WalkSpells
import Derived.Laws.AppendOwn
import Derived.Laws.AppendOwnNone
import Derived.Test.YtempgjollkdmnaaMg44
import Derived.Test.YtempgjollkdmnaaMg46
import Derived.Test.YtempgjollkdmnaaMg49
namespace Go.Proofs.Ytempgjollkdmnaa.He
open Go.RowKit Go.Shelf
open Go.Proofs.Ytempgjollkdmnaa.Ly (TabOk RowOk off Tb TabSays NumSays)
open Go.Proofs.Ytempgjollkdmnaa.Wg (BoSays BoSays.no BoSays.yes)
attribute [local go_sem] Oper.semAt_some

/-- a header, as a value: its rows lie at a. -/
def hV (h : Hr) (a : Option Addr) (c : Nat) : Value := .agg #[.int .i64 h.S, .int .i64 h.F, .int .i64 h.I, .int .i64 h.N, .int .i64 h.D, .slice a h.m c]
/-- a header in its box. -/
def HAt (W : World) (g : Nat) (h : Hr) (a : Option Addr) (c : Nat) : Prop := W.heap[g]? = some (.cells #[.int .i64 h.S, .int .i64 h.F, .int .i64 h.I, .int .i64 h.N, .int .i64 h.D, .slice a h.m c] 24 (0, 0))
section
variable {W W' : World} {g cc : Nat} {h : Hr} {a : Option Addr}
theorem HAt.lt (s : HAt W g h a cc) : g < W.heap.size := (Array.getElem?_eq_some_iff.1 s).1
theorem HAt.same (s : HAt W g h a cc) (hB : Below W.heap.size W W') : HAt W' g h a cc := (hB.block _ s.lt).trans s
theorem HAt.c (s : HAt W g h a cc) : W.cell? ⟨g, 0, none⟩ = some (.int .i64 h.S) ∧ W.cell? ⟨g, 1, none⟩ = some (.int .i64 h.F) ∧ W.cell? ⟨g, 2, none⟩ = some (.int .i64 h.I) ∧ W.cell? ⟨g, 3, none⟩ = some (.int .i64 h.N) ∧ W.cell? ⟨g, 4, none⟩ = some (.int .i64 h.D) ∧ W.cell? ⟨g, 5, none⟩ = some (.slice a h.m cc) :=
  ⟨by rw [cell_of_row W g 0 _ _ _ s]; rfl, by rw [cell_of_row W g 1 _ _ _ s]; rfl, by rw [cell_of_row W g 2 _ _ _ s]; rfl, by rw [cell_of_row W g 3 _ _ _ s]; rfl, by rw [cell_of_row W g 4 _ _ _ s]; rfl, by rw [cell_of_row W g 5 _ _ _ s]; rfl⟩
theorem HAt.free (s : HAt W g h a cc) (i : Nat) : W.frozen? ⟨g, i, none⟩ = false := frozen_of_row W g i _ _ s
end
end Go.Proofs.Ytempgjollkdmnaa.He

namespace Go.Proofs.Ytempgjollkdmnaa.He
open Go.RowKit Go.Shelf
open Go.Proofs.Ytempgjollkdmnaa.Ly (TabOk RowOk off Tb)
open Go.Proofs.Ytempgjollkdmnaa.Wg (BoSays BoSays.no BoSays.yes)
attribute [local go_sem] Oper.semAt_some

/-- rows are the same. -/
def SR (n m : Nat) (K L K' L' : Nat → Int) : Prop := n = m ∧ ∀ i, i < n → K i = K' i ∧ L i = L' i
set_option maxHeartbeats 4000000 in
set_option maxRecDepth 100000 in
theorem sameTable_any (a b : Option Addr) (n m c d : Nat) (K L K' L' : Nat → Int) (hn : n ≤ 140737488355328) (hm : m ≤ 140737488355328) (w : World) (hT : Tb w a n K L) (hU : Tb w b m K' L') :
    Calls Try.prog 31 #[.slice a n c, .slice b m d] w fun e w' => BoSays (SR n m K L K' L') e ∧ Below w.heap.size w w' := by
  have HT := Lib.hid hT; have HU := Lib.hid hU; clear hT hU
  go_enter Try.func31, Try.ntmps31
  by_cases hnm : n = m
  rotate_left
  · have g1 : ((n : Int) != (m : Int)) = true := by simp; omega
    have HN := Lib.hid (show ¬ SR n m K L K' L' from fun h => hnm h.1)
    clear hnm
    go_wp2
    go_ret
    exact ⟨BoSays.no HN.out, Below.refl _ _⟩
  subst hnm
  have g1 : ((n : Int) != (n : Int)) = false := by simp
  go_wp2_with fail
  clear g1
  go_loopw [5] (fun i wr => ∃ (k : Nat) (W : World), W = wr ∧ k ≤ n ∧ i = .int .i64 k ∧ (∀ j, j < k → K j = K' j ∧ L j = L' j) ∧ Below w.heap.size w wr) (fun i _ => n - (intOf i).toNat)
  case atStart => exact ⟨0, _, rfl, by omega, rfl, fun j hj => absurd hj (Nat.not_lt_zero j), Below.refl _ _⟩
  case round =>
    obtain ⟨k, wx, rfl, hk, rfl, hall, hB⟩ := hrel
    have HB := Lib.hid hB; have HALL := Lib.hid hall; clear hB hall
    by_cases hlt : k < n
    · obtain ⟨b1, o1, e1, c1, c2⟩ := (HT.out.same HB.out).cell k hlt
      obtain ⟨b2, o2, e2, d1, d2⟩ := (HU.out.same HB.out).cell k hlt
      subst e1 e2
      have HE := Lib.hid (show (K k = K' k ∧ L k = L' k) → ∀ j, j < k + 1 → K j = K' j ∧ L j = L' j from fun h j hj => by
        by_cases e : j = k
        · rw [e]; exact h
        · exact HALL.out j (by omega))
      have HF := Lib.hid (show ¬ (K k = K' k ∧ L k = L' k) → ¬ SR n n K L K' L' from fun h q => h (q.2 k hlt))
      generalize K k = x at *
      generalize L k = y at *
      generalize K' k = x' at *
      generalize L' k = y' at *
      have i1 : (k : Int) < (n : Int) := by omega
      by_cases hx : x = x'
      · subst hx
        have g6 : (x == x) = true := by simp
        by_cases hy : y = y'
        · subst hy
          have g5 : (y == y) = true := by simp
          have HZ := Lib.hid (HE.out ⟨rfl, rfl⟩)
          go_wp2_with fail
          go_quiet (fail)
          go_wp2
          go_roundw
          case rel => exact ⟨k + 1, _, rfl, by omega, by go_num, HZ.out, HB.out.trans ((below_drewN (Below.refl _ _) _).mono HB.out.size)⟩
          case measure => simp [intOf]; omega
        · have g5 : (y == y') = false := by simp [hy]
          have HN := Lib.hid (HF.out (fun h => hy h.2))
          clear hy
          go_wp2_with fail
          go_quiet (fail)
          go_wp2
          go_ret
          exact ⟨BoSays.no HN.out, HB.out.trans ((below_drewN (Below.refl _ _) _).mono HB.out.size)⟩
      · have g6 : (x == x') = false := by simp [hx]
        have HN := Lib.hid (HF.out (fun h => hx h.1))
        clear hx
        go_wp2_with fail
        go_quiet (fail)
        go_wp2
        go_ret
        exact ⟨BoSays.no HN.out, HB.out.trans ((below_drewN (Below.refl _ _) _).mono HB.out.size)⟩
    · obtain rfl : k = n := by omega
      have i1 : ¬ (k : Int) < (k : Int) := by omega
      have HS := Lib.hid (show SR k k K L K' L' from ⟨rfl, HALL.out⟩)
      go_wp2
      go_ret
      exact ⟨BoSays.yes HS.out, HB.out⟩
end Go.Proofs.Ytempgjollkdmnaa.He

namespace Go.Proofs.Ytempgjollkdmnaa.He
open Go.RowKit Go.Shelf
open Go.Proofs.Ytempgjollkdmnaa.Ly (TabOk RowOk off Tb)
open Go.Proofs.Ytempgjollkdmnaa.Wg (BoSays BoSays.no BoSays.yes)
attribute [local go_sem] Oper.semAt_some

set_option maxHeartbeats 4000000 in
set_option maxRecDepth 100000 in
theorem sameHead_any (h g : Hr) (a b : Option Addr) (c d : Nat) (hn : h.m ≤ 140737488355328) (hm : g.m ≤ 140737488355328) (w : World) (hT : Tb w a h.m h.K h.L) (hU : Tb w b g.m g.K g.L) :
    Calls Try.prog 12 #[hV h a c, hV g b d] w fun e w' => BoSays (EH h g) e ∧ Below w.heap.size w w' := by
  obtain ⟨w0, hw0⟩ : ∃ w0, w0 = w.alloc (.cells #[.int .i64 h.S, .int .i64 h.F, .int .i64 h.I, .int .i64 h.N, .int .i64 h.D, .slice a h.m c] 24) := ⟨_, rfl⟩
  obtain ⟨w1, hw1⟩ : ∃ w1, w1 = w0.alloc (.cells #[.int .i64 g.S, .int .i64 g.F, .int .i64 g.I, .int .i64 g.N, .int .i64 g.D, .slice b g.m d] 24) := ⟨_, rfl⟩
  have hx0 : HAt w0 w.heap.size h a c := by rw [hw0]; exact heap_alloc_new _ _
  have hb0 : Below w.heap.size w w0 := by rw [hw0]; exact (Below.refl _ w).alloc (Nat.le_refl _) _
  have hz0 : w0.heap.size = w.heap.size + 1 := by rw [hw0, World.size_alloc]
  have hb1 : Below w0.heap.size w0 w1 := by rw [hw1]; exact (Below.refl _ w0).alloc (Nat.le_refl _) _
  have HX := Lib.hid (hx0.same hb1)
  have HY := Lib.hid (show HAt w1 (w.heap.size + 1) g b d by rw [hw1, ← hz0]; exact heap_alloc_new _ _)
  have HB := Lib.hid (hb0.trans (hb1.mono hb0.size))
  have HW := Lib.hid (show w1 = (w.alloc (.cells #[.int .i64 h.S, .int .i64 h.F, .int .i64 h.I, .int .i64 h.N, .int .i64 h.D, .slice a h.m c] 24)).alloc (.cells #[.int .i64 g.S, .int .i64 g.F, .int .i64 g.I, .int .i64 g.N, .int .i64 g.D, .slice b g.m d] 24) by rw [hw1, hw0])
  obtain ⟨c0, c1, c2, c3, c4, c5⟩ := HX.out.c
  obtain ⟨d0, d1, d2, d3, d4, d5⟩ := HY.out.c
  have HST := Lib.hid (fun W hT hU => sameTable_any a b h.m g.m c d h.K h.L g.K g.L hn hm W hT hU)
  have HT := Lib.hid (hT.same HB.out); have HU := Lib.hid (hU.same HB.out)
  have HEH := Lib.hid (show EH h g ↔ (h.S = g.S ∧ h.F = g.F ∧ h.I = g.I ∧ h.N = g.N ∧ h.D = g.D) ∧ SR h.m g.m h.K h.L g.K g.L from ⟨fun q => ⟨⟨q.1.1, q.1.2.1, q.2, q.1.2.2.1, q.1.2.2.2.1⟩, q.1.2.2.2.2.1, q.1.2.2.2.2.2⟩, fun q => ⟨⟨q.1.1, q.1.2.1, q.1.2.2.2.1, q.1.2.2.2.2, q.2.1, q.2.2⟩, q.1.2.2.1⟩⟩)
  rw [HW.out] at c0 c1 c2 c3 c4 c5 d0 d1 d2 d3 d4 d5
  unfold hV
  generalize EH h g = R at *
  clear hT hU hw0 hw1 hx0 hb0 hz0 hb1
  go_enter Try.func12, Try.ntmps12
  by_cases e0 : h.S = g.S
  rotate_left
  · have g1 : (h.S == g.S) = false := by simp [e0]
    have HN := Lib.hid (show ¬ R from fun r => e0 ((HEH.out.1 r).1.1))
    clear e0
    go_wp2
    rw [← HW.out]
    go_ret
    exact ⟨BoSays.no HN.out, HB.out⟩
  have q0 : (h.S == g.S) = true := by simp [e0]
  have E0 := Lib.hid e0
  clear e0
  by_cases e1 : h.F = g.F
  rotate_left
  · have g1 : (h.F == g.F) = false := by simp [e1]
    have HN := Lib.hid (show ¬ R from fun r => e1 ((HEH.out.1 r).1.2.1))
    clear e1
    go_wp2
    rw [← HW.out]
    go_ret
    exact ⟨BoSays.no HN.out, HB.out⟩
  have q1 : (h.F == g.F) = true := by simp [e1]
  have E1 := Lib.hid e1
  clear e1
  by_cases e2 : h.I = g.I
  rotate_left
  · have g1 : (h.I == g.I) = false := by simp [e2]
    have HN := Lib.hid (show ¬ R from fun r => e2 ((HEH.out.1 r).1.2.2.1))
    clear e2
    go_wp2
    rw [← HW.out]
    go_ret
    exact ⟨BoSays.no HN.out, HB.out⟩
  have q2 : (h.I == g.I) = true := by simp [e2]
  have E2 := Lib.hid e2
  clear e2
  by_cases e3 : h.N = g.N
  rotate_left
  · have g1 : (h.N == g.N) = false := by simp [e3]
    have HN := Lib.hid (show ¬ R from fun r => e3 ((HEH.out.1 r).1.2.2.2.1))
    clear e3
    go_wp2
    rw [← HW.out]
    go_ret
    exact ⟨BoSays.no HN.out, HB.out⟩
  have q3 : (h.N == g.N) = true := by simp [e3]
  have E3 := Lib.hid e3
  clear e3
  by_cases e4 : h.D = g.D
  rotate_left
  · have g1 : (h.D == g.D) = false := by simp [e4]
    have HN := Lib.hid (show ¬ R from fun r => e4 ((HEH.out.1 r).1.2.2.2.2))
    clear e4
    go_wp2
    rw [← HW.out]
    go_ret
    exact ⟨BoSays.no HN.out, HB.out⟩
  have q4 : (h.D == g.D) = true := by simp [e4]
  have E4 := Lib.hid e4
  clear e4
  go_wp2_with fail
  rw [← HW.out]
  refine (HST.out w1 HT.out HU.out).mono ?_
  rintro e w2 ⟨⟨v, rfl, hv⟩, hB2⟩
  have HVV := Lib.hid (show v = true ↔ R from hv.trans ⟨fun s => HEH.out.2 ⟨⟨E0.out, E1.out, E2.out, E3.out, E4.out⟩, s⟩, fun r => (HEH.out.1 r).2⟩)
  have HB2 := Lib.hid (HB.out.trans (hB2.mono HB.out.size))
  clear hv hB2 c0 c1 c2 c3 c4 c5 d0 d1 d2 d3 d4 d5 q0 q1 q2 q3 q4
  go_wp2
  go_ret
  exact ⟨⟨v, rfl, HVV.out⟩, HB2.out⟩
end Go.Proofs.Ytempgjollkdmnaa.He

namespace Go.Proofs.Ytempgjollkdmnaa.He
open Go.RowKit Go.Shelf
open Go.Proofs.Ytempgjollkdmnaa.Ly (TabOk RowOk off Tb tK tL)
open Go.Proofs.Ytempgjollkdmnaa.Wg (BoSays BoSays.no BoSays.yes)
attribute [local go_sem] Oper.semAt_some

theorem put6 {W : World} {g : Nat} {t : TypeId} {a0 a1 a2 a3 a4 a5 : Value} (h : W.heap[g]? = some (.cells #[a0, a1, a2, a3, a4, a5] t (0, 0))) (v0 v1 v2 v3 v4 v5 : Value) : ((((((W.setCell ⟨g, 0, none⟩ v0).setCell ⟨g, 1, none⟩ v1).setCell ⟨g, 2, none⟩ v2).setCell ⟨g, 3, none⟩ v3).setCell ⟨g, 4, none⟩ v4).setCell ⟨g, 5, none⟩ v5).heap[g]? = some (.cells #[v0, v1, v2, v3, v4, v5] t (0, 0)) := by
  have e0 : (W.setCell ⟨g, 0, none⟩ v0).heap[g]? = some (.cells #[v0, a1, a2, a3, a4, a5] t (0, 0)) := heap_setCell_same W g 0 _ _ _ h
  have e1 : ((W.setCell ⟨g, 0, none⟩ v0).setCell ⟨g, 1, none⟩ v1).heap[g]? = some (.cells #[v0, v1, a2, a3, a4, a5] t (0, 0)) := heap_setCell_same _ g 1 _ _ _ e0
  have e2 : (((W.setCell ⟨g, 0, none⟩ v0).setCell ⟨g, 1, none⟩ v1).setCell ⟨g, 2, none⟩ v2).heap[g]? = some (.cells #[v0, v1, v2, a3, a4, a5] t (0, 0)) := heap_setCell_same _ g 2 _ _ _ e1
  have e3 : ((((W.setCell ⟨g, 0, none⟩ v0).setCell ⟨g, 1, none⟩ v1).setCell ⟨g, 2, none⟩ v2).setCell ⟨g, 3, none⟩ v3).heap[g]? = some (.cells #[v0, v1, v2, v3, a4, a5] t (0, 0)) := heap_setCell_same _ g 3 _ _ _ e2
  have e4 : (((((W.setCell ⟨g, 0, none⟩ v0).setCell ⟨g, 1, none⟩ v1).setCell ⟨g, 2, none⟩ v2).setCell ⟨g, 3, none⟩ v3).setCell ⟨g, 4, none⟩ v4).heap[g]? = some (.cells #[v0, v1, v2, v3, v4, a5] t (0, 0)) := heap_setCell_same _ g 4 _ _ _ e3
  exact heap_setCell_same _ g 5 _ _ _ e4
theorem below6 {X : Nat} {a W : World} {g : Nat} (h : Below X a W) (hg : X ≤ g) (v0 v1 v2 v3 v4 v5 : Value) : Below X a ((((((W.setCell ⟨g, 0, none⟩ v0).setCell ⟨g, 1, none⟩ v1).setCell ⟨g, 2, none⟩ v2).setCell ⟨g, 3, none⟩ v3).setCell ⟨g, 4, none⟩ v4).setCell ⟨g, 5, none⟩ v5) :=
  (((((h.setCell (p := ⟨g, 0, none⟩) hg v0).setCell (p := ⟨g, 1, none⟩) hg v1).setCell (p := ⟨g, 2, none⟩) hg v2).setCell (p := ⟨g, 3, none⟩) hg v3).setCell (p := ⟨g, 4, none⟩) hg v4).setCell (p := ⟨g, 5, none⟩) hg v5
theorem kept6 {W : World} {g x : Nat} (hne : x ≠ g) (v0 v1 v2 v3 v4 v5 : Value) : ((((((W.setCell ⟨g, 0, none⟩ v0).setCell ⟨g, 1, none⟩ v1).setCell ⟨g, 2, none⟩ v2).setCell ⟨g, 3, none⟩ v3).setCell ⟨g, 4, none⟩ v4).setCell ⟨g, 5, none⟩ v5).heap[x]? = W.heap[x]? := by
  have k : ∀ (U : World) (i : Nat) (v : Value), (U.setCell ⟨g, i, none⟩ v).heap[x]? = U.heap[x]? := fun U i v => Below.heap_setCell U ⟨g, i, none⟩ v x hne
  rw [k, k, k, k, k, k]
theorem Tb.blk {w w' : World} {g n : Nat} {K L : Nat → Int} (s : Tb w (some ⟨g, 0, none⟩) n K L) (hk : w'.heap[g]? = w.heap[g]?) : Tb w' (some ⟨g, 0, none⟩) n K L := ⟨fun i hi => by
  obtain ⟨b, o, e, h1, h2⟩ := s.cell i hi
  cases e
  exact ⟨g, 0, rfl, by rw [World.cell?_of_block (a := ⟨g, 0 + i * 2, none⟩) hk]; exact h1, by rw [World.cell?_of_block (a := ⟨g, 0 + i * 2 + 1, none⟩) hk]; exact h2⟩⟩
/-- a header, lent. -/
def LentSays (w : World) (h : Hr) (e : Ending) (w' : World) : Prop := ∃ x, w.heap.size ≤ x ∧ e = .returned (hV h (some ⟨x, 0, none⟩) (h.m + 12)) ∧ Tb w' (some ⟨x, 0, none⟩) (h.m + 12) (tK h.K h.m) (tL h.L h.m) ∧ Below w.heap.size w w'
end Go.Proofs.Ytempgjollkdmnaa.He

namespace Go.Proofs.Ytempgjollkdmnaa.He
open Go.RowKit Go.Shelf

/-- bytes, as cells. -/
def bl (f : Nat → Nat) (n : Nat) : List Value := (List.range n).map fun i => Value.int .u8 (f i : Nat)
theorem bl_len (f : Nat → Nat) (n : Nat) : (bl f n).length = n := by simp [bl]
theorem bl_app {f g : Nat → Nat} {n m : Nat} (h : ∀ j, j < m → g j = f (n + j)) : bl f n ++ bl g m = bl f (n + m) := by
  unfold bl
  apply List.ext_getElem?
  intro i
  by_cases hi : i < n
  · rw [List.getElem?_append_left (by simp; omega)]
    simp [hi, show i < n + m by omega]
  · rw [List.getElem?_append_right (by simp; omega)]
    by_cases hj : i < n + m
    · have e := h (i - n) (by omega)
      rw [show n + (i - n) = i by omega] at e
      simp [hj, show i - n < m by omega, e]
    · rw [List.getElem?_eq_none (by simp; omega), List.getElem?_eq_none (by simp; omega)]
theorem bl_one (x : Nat) : bl (fun _ => x) 1 = [.int .u8 (x : Nat)] := rfl
theorem bl_congr {f g : Nat → Nat} {n : Nat} (h : ∀ i, i < n → f i = g i) : bl f n = bl g n := by
  unfold bl
  apply List.map_congr_left
  intro i hi
  rw [h i (List.mem_range.1 hi)]
theorem bl_ones (f : Nat → Nat) (n : Nat) : ∀ u ∈ bl f n, u.oneCell' = true := ones_map _ _
end Go.Proofs.Ytempgjollkdmnaa.He

namespace Go.Proofs.Ytempgjollkdmnaa.He
open Go.RowKit Go.Shelf
open Go.Proofs.Ytempgjollkdmnaa.Ly (TabOk RowOk off Tb TabSays NumSays)
attribute [local go_sem] Oper.semAt_some

theorem own_sl {w : World} {B s n : Nat} {e : TypeId} {v : Value} {xs : List Value} (h : w.ownsRow B e s v n xs) : ∃ a c, v = .slice a n c := by
  rcases h.2 with ⟨rfl, rfl⟩ | ⟨g, cap, cur, rfl, _⟩
  · exact ⟨none, 0, rfl⟩
  · exact ⟨_, _, rfl⟩
theorem own_be {w w' : World} {B s n : Nat} {e : TypeId} {v : Value} {xs : List Value} (h : w.ownsRow B e s v n xs) (hB : Below w.heap.size w w') : w'.ownsRow B e s v n xs := by
  obtain ⟨h1, h2⟩ := h
  refine ⟨h1, ?_⟩
  rcases h2 with h2 | ⟨g, cap, cur, h3, h4, h5, h6⟩
  · exact Or.inl h2
  · exact Or.inr ⟨g, cap, cur, h3, h4, (hB.block g (Array.getElem?_eq_some_iff.1 h5).1).trans h5, h6⟩
theorem dg_at (n size k : Nat) (hk : k < size) : ((n : Int) / 2 ^ (8 * (size - 1 - k)) % 256) = ((dg n size k : Nat) : Int) := by
  unfold dg
  rw [if_pos hk]
  generalize size - 1 - k = e
  have h : (2 : Int) ^ (8 * e) = ((256 ^ e : Nat) : Int) := by
    rw [show (2 : Int) ^ (8 * e) = ((2 ^ (8 * e) : Nat) : Int) by simp, Nat.pow_mul]
  rw [h]
  rfl
theorem bl_s (f : Nat → Nat) (k : Nat) : bl f k ++ [.int .u8 (f k : Nat)] = bl f (k + 1) := by
  unfold bl; rw [List.range_succ, List.map_append]; rfl
end Go.Proofs.Ytempgjollkdmnaa.He

namespace Go.Proofs.Ytempgjollkdmnaa.He
open Go.RowKit Go.Shelf
open Go.Proofs.Ytempgjollkdmnaa.Ly (TabOk RowOk off Tb TabSays NumSays)
attribute [local go_sem] Oper.semAt_some

/-- bytes are appended to a row of one's own. -/
theorem wpList_app {w : World} {ops : Array Oper} {rest : List Oper} {o : Oper} {act : Act} {Q : Exit → Act → World → Prop} (hgd : o.guard = none) (s x : Operand)
    (ho : o.op = .call { callee := .builtin .append, args := #[s, x], argTypes := #[25, 25] })
    (B n m c : Nat) (F g : Nat → Nat) (v : Value) (hs : act.eval s = v) (hown : w.ownsRow B 5 1 v n (bl F n)) (a : Option Addr) (hx : act.eval x = .slice a m c) (hS : Sl w a m c g) (hF : ∀ j, j < m → g j = F (n + j)) (hm : n + m ≤ 100000000) (hbase : B ≤ w.heap.size)
    (h : ∀ a' c' w', w'.ownsRow B 5 1 (.slice a' (n + m) c') (n + m) (bl F (n + m)) → w.grownBy w' v.ownBlock → wpList Try.prog ops Q rest (act.put o.dst (.slice a' (n + m) c')) w') : wpList Try.prog ops Q (o :: rest) act w := by
  obtain ⟨i0, hi, hz0, hz1, hz2⟩ := info_parts Try.infoU8
  cases a with
  | none =>
    obtain ⟨rfl, rfl⟩ := hS.nil rfl
    refine wpList_append_own_none hgd s x 25 ho B 5 i0 1 Try.underlying25 hi v n _ hs hown hx ?_
    obtain ⟨a', c', rfl⟩ := own_sl hown
    exact h a' c' w hown ⟨rfl, rfl, rfl, Nat.le_refl _, fun _ _ _ => rfl⟩
  | some ad =>
    refine wpList_append_own _ hgd s x 25 ho B 5 i0 (.int .u8 0) 1 1 Try.underlying25 hi hz0 hz1 hz2 rfl (by decide) v n _ hs hown ad m c (bl g m) hx (by rw [bl_len, Nat.mul_one]) (hS.reads _ rfl) (bl_ones g m) (by unfold maxLen; omega) (by omega) hbase ?_
    intro v' w' hown' hg' _
    rw [bl_app hF] at hown'
    obtain ⟨a', c', rfl⟩ := own_sl hown'
    exact h a' c' w' hown' hg'
theorem pl_up (h : Hr) {body : Nat → Nat} {n : Nat} (hu : Pf.Up body n) : Pf.Up (pl h body) (14 + 3 * h.m + n) := fun i hi => by
  unfold pl
  rw [if_neg (by omega), if_neg (by omega), if_neg (by omega), if_neg (by omega), if_neg (by omega), if_neg (by omega), if_neg (by omega), if_neg (by omega)]
  exact hu _ (by omega)
theorem pl_S (h : Hr) (body : Nat → Nat) : ∀ j, j < 2 → dg h.S.toNat 2 j = pl h body (1 + j) := fun j hj => by
  unfold pl; rw [if_neg (by omega), if_pos (by omega), show 1 + j - 1 = j by omega]
theorem pl_F (h : Hr) (body : Nat → Nat) : ∀ j, j < 4 → dg h.F.toNat 4 j = pl h body (3 + j) := fun j hj => by
  unfold pl; rw [if_neg (by omega), if_neg (by omega), if_pos (by omega), show 3 + j - 3 = j by omega]
theorem pl_D (h : Hr) (body : Nat → Nat) : ∀ j, j < 4 → dg h.D.toNat 4 j = pl h body (10 + j) := fun j hj => by
  unfold pl; rw [if_neg (by omega), if_neg (by omega), if_neg (by omega), if_neg (by omega), if_neg (by omega), if_neg (by omega), if_pos (by omega), show 10 + j - 10 = j by omega]
theorem pl_K (h : Hr) (body : Nat → Nat) {k : Nat} (hk : k < h.m) : pl h body (14 + 3 * k) = (h.K k).toNat % 256 := by
  unfold pl
  rw [if_neg (by omega), if_neg (by omega), if_neg (by omega), if_neg (by omega), if_neg (by omega), if_neg (by omega), if_neg (by omega), if_pos (by omega), if_pos (by omega), show (14 + 3 * k - 14) / 3 = k by omega]
theorem pl_L (h : Hr) (body : Nat → Nat) {k : Nat} (hk : k < h.m) : ∀ j, j < 2 → dg (h.L k).toNat 2 j = pl h body (14 + 3 * k + 1 + j) := fun j hj => by
  unfold pl
  rw [if_neg (by omega), if_neg (by omega), if_neg (by omega), if_neg (by omega), if_neg (by omega), if_neg (by omega), if_neg (by omega), if_pos (by omega), if_neg (by omega), show (14 + 3 * k + 1 + j - 14) / 3 = k by omega, show (14 + 3 * k + 1 + j - 14) % 3 - 1 = j by omega]
/-- a row of bytes that lie in a block, as it reads. -/
theorem sl_lit (w : World) (xs : List Nat) (hx : ∀ x ∈ xs, x < 256) (hl : xs.length ≤ 1000) : Sl (w.alloc (.cells (xs.map fun x => Value.int .u8 (x : Nat)).toArray 5)) (some ⟨w.heap.size, 0, none⟩) xs.length xs.length (fun i => xs.getD i 0) := by
  refine ⟨Nat.le_refl _, by unfold maxLen; omega, fun i => ?_, fun i hi => ?_, fun e => (by cases e), fun ad e _ => (by cases e; rfl), fun ad e i hi => ?_⟩
  · by_cases hi : i < xs.length
    · rw [List.getD_eq_getElem?_getD, List.getElem?_eq_getElem hi]
      exact hx _ (List.getElem_mem hi)
    · rw [List.getD_eq_getElem?_getD, List.getElem?_eq_none (by omega)]; show 0 < 256; omega
  · rw [List.getD_eq_getElem?_getD, List.getElem?_eq_none (by omega)]; rfl
  · cases e
    show World.cell? _ ⟨_, 0 + i, none⟩ = _
    rw [Nat.zero_add, cell_of_row _ _ i _ _ _ (heap_alloc_new w _), List.getElem?_toArray, List.getElem?_map, List.getD_eq_getElem?_getD, List.getElem?_eq_getElem hi]
    rfl
end Go.Proofs.Ytempgjollkdmnaa.He

namespace Go.Proofs.Ytempgjollkdmnaa.He
open Go.RowKit Go.Shelf
open Go.Proofs.Ytempgjollkdmnaa.Ly (TabOk RowOk off Tb TabSays NumSays)
attribute [local go_sem] Oper.semAt_some

theorem own_ne2 {w : World} {B s n g : Nat} {e t : TypeId} {v : Value} {xs : List Value} {cs : Array Value} (ho : w.ownsRow B e s v n xs) (hg : w.heap[g]? = some (.cells cs t (0, 0))) (hne : e ≠ t) : some g ≠ v.ownBlock := fun h => by
  rcases ho.2 with ⟨rfl, _⟩ | ⟨g', cap, cur, rfl, hb, hh, _⟩
  · simp [Value.ownBlock] at h
  · simp [Value.ownBlock] at h
    rw [← h, hg] at hh
    injection hh with hh
    injection hh with _ h2
    exact hne h2.symm
/-- as a datagram is put together. -/
structure PS (w W : World) (h : Hr) (a : Option Addr) (c : Nat) (P : Nat → Nat) (v : Value) (n : Nat) : Prop where
  ow : W.ownsRow w.heap.size 5 1 v n (bl P n)
  hx : HAt W w.heap.size h a c
  be : Below w.heap.size w W
theorem PS.same {w W W' : World} {h : Hr} {a : Option Addr} {c : Nat} {P : Nat → Nat} {v : Value} {n : Nat} (s : PS w W h a c P v n) (hB : Below W.heap.size W W') : PS w W' h a c P v n := ⟨own_be s.ow hB, s.hx.same hB, s.be.trans (hB.mono s.be.size)⟩
theorem PS.app {w W W' : World} {h : Hr} {a : Option Addr} {c : Nat} {P : Nat → Nat} {v v' : Value} {n n' : Nat} (s : PS w W h a c P v n) (ho : W'.ownsRow w.heap.size 5 1 v' n' (bl P n')) (hg : W.grownBy W' v.ownBlock) : PS w W' h a c P v' n' :=
  ⟨ho, (hg.block _ s.hx.lt (own_ne2 s.ow s.hx (by decide))).trans s.hx, s.be.grown hg s.be.size (fun k e => (s.ow.lt k e).1)⟩
end Go.Proofs.Ytempgjollkdmnaa.He

namespace Go.Proofs.Ytempgjollkdmnaa.He
open Go.RowKit Go.Shelf
open Go.Proofs.Ytempgjollkdmnaa.Ly (TabOk RowOk off off_le Tb TabSays NumSays)
open Go.Proofs.Ytempgjollkdmnaa.Wg (BoSays)
attribute [local go_sem] Oper.semAt_some

/-- what Put tells of a header and so many bytes. -/
def PutSays (w : World) (h : Hr) (n : Nat) (f : Nat → Nat) (e : Ending) (w' : World) : Prop :=
  (RH h ∧ n = off h.K h.L h.m ∧ ∃ a c, e = .returned (.tuple #[.slice a (14 + 3 * h.m + n + 4) c, .int .i64 0]) ∧ Nw w' w.heap.size a (14 + 3 * h.m + n + 4) c (Crc.sealed (pl h f) (14 + 3 * h.m + n))) ∨
  (¬ (RH h ∧ n = off h.K h.L h.m) ∧ e = .returned (.tuple #[.slice none 0 0, .int .i64 2]))
end Go.Proofs.Ytempgjollkdmnaa.He

namespace Go.Proofs.Ytempgjollkdmnaa.He
open Go.RowKit Go.Shelf
open Go.Proofs.Ytempgjollkdmnaa.Ly (TabOk RowOk off Tb tK tL)
open Go.Proofs.Ytempgjollkdmnaa.Wg (BoSays BoSays.no BoSays.yes)
attribute [local go_sem] Oper.semAt_some

theorem Tb.orig {w : World} {a : Option Addr} {n : Nat} {K L : Nat → Int} (h : Tb w a (n + 12) (tK K n) (tL L n)) : Tb w a n K L := ⟨fun i hi => by
  obtain ⟨b, o, e, h1, h2⟩ := h.cell i (by omega)
  rw [show tK K n i = K i from if_pos hi] at h1
  rw [show tL L n i = L i from if_pos hi] at h2
  exact ⟨b, o, e, h1, h2⟩⟩
end Go.Proofs.Ytempgjollkdmnaa.He

namespace Go.Proofs.Ytempgjollkdmnaa.He
open Go.RowKit Go.Shelf
open Go.Proofs.Ytempgjollkdmnaa.Ly (TabOk RowOk off Tb tdl)
open Go.Proofs.Ytempgjollkdmnaa.Wg (BoSays)

/-- bytes are a datagram of a right header and a body. -/
def GoodP (N : Nat) (f : Nat → Nat) : Prop := 14 + 3 * f 9 ≤ N ∧ RH (hdr f) ∧ N - (14 + 3 * f 9) = off (hdr f).K (hdr f).L (f 9)
open Classical in
/-- the error that Parse tells of so many bytes. -/
noncomputable def perr (n : Nat) (f : Nat → Nat) : Int := if n < 4 then 4 else if okB f (n - 4) = false then 10 else if n = 4 then 4 else if f 0 ≠ 1 then 11 else if GoodP (n - 4) f then 0 else 4
def zH : Value := .agg #[.int .i64 0, .int .i64 0, .int .i64 0, .int .i64 0, .int .i64 0, .slice none 0 0]
/-- what Parse tells of so many bytes. -/
def ParSays (w : World) (n : Nat) (f : Nat → Nat) (e : Ending) (w' : World) : Prop :=
  (perr n f ≠ 0 ∧ e = .returned (.tuple #[zH, .slice none 0 0, .int .i64 (perr n f)])) ∨
  (perr n f = 0 ∧ ∃ a c ba bc, e = .returned (.tuple #[hV (hdr f) a c, .slice ba (n - 4 - (14 + 3 * f 9)) bc, .int .i64 0]) ∧ w'.ownsRow w.heap.size 42 2 (.slice a (f 9) c) (f 9) (tdl (hdr f).K (hdr f).L (f 9)) ∧
    Nw w' w.heap.size ba (n - 4 - (14 + 3 * f 9)) bc (fun j => if j < n - 4 - (14 + 3 * f 9) then f (14 + 3 * f 9 + j) else 0))
/-- what the program's Put must tell: the block may go on behind the bytes. -/
def PutGoes (w : World) (h : Hr) (n : Nat) (f : Nat → Nat) (e : Ending) (w' : World) : Prop :=
  (RH h ∧ n = off h.K h.L h.m ∧ ∃ g C, e = .returned (.tuple #[.slice (some ⟨g, 0, none⟩) (14 + 3 * h.m + n + 4) (14 + 3 * h.m + n + 4), .int .i64 0]) ∧ w.heap.size ≤ g ∧ 14 + 3 * h.m + n + 4 ≤ C ∧ Bl w' g (14 + 3 * h.m + n + 4) C (Crc.sealed (pl h f) (14 + 3 * h.m + n))) ∨
  (¬ (RH h ∧ n = off h.K h.L h.m) ∧ e = .returned (.tuple #[.slice none 0 0, .int .i64 2]))
/-- what the program's calls must tell. -/
def PHRight : Prop := ∀ (h : Hr) (a : Option Addr) (c : Nat), h.m ≤ 140737488355328 → ∀ w : World, Tb w a h.m h.K h.L →
  Calls Try.prog 10 #[hV h a c] w fun e w' => BoSays (RH h) e ∧ Below w.heap.size w w'
def PHLike : Prop := ∀ (h g : Hr) (a b : Option Addr) (c d : Nat), h.m ≤ 140737488355328 → g.m ≤ 140737488355328 → ∀ w : World, Tb w a h.m h.K h.L → Tb w b g.m g.K g.L →
  Calls Try.prog 15 #[hV h a c, hV g b d] w fun e w' => BoSays (LH h g) e ∧ Below w.heap.size w w'
def PHPut : Prop := ∀ (h : Hr) (a ba : Option Addr) (c n bc : Nat) (f : Nat → Nat), n ≤ 1000000 → h.m ≤ 140737488355328 → ∀ w : World, Tb w a h.m h.K h.L → Sl w ba n bc f →
  Calls Try.prog 8 #[hV h a c, .slice ba n bc] w fun e w' => PutGoes w h n f e w' ∧ Below w.heap.size w w'
def PHParse : Prop := ∀ (a : Option Addr) (n c : Nat) (f : Nat → Nat), n ≤ 1000000 → ∀ w : World, Sl w a n c f →
  Calls Try.prog 6 #[.slice a n c] w fun e w' => ParSays w n f e w' ∧ Below w.heap.size w w'
end Go.Proofs.Ytempgjollkdmnaa.He

namespace Go.Proofs.Ytempgjollkdmnaa.He
open Go.RowKit Go.Shelf
open Go.Proofs.Ytempgjollkdmnaa.Ly (TabOk RowOk off Tb TabSays NumSays)
open Go.Proofs.Ytempgjollkdmnaa.Wg (BoSays BoSays.no BoSays.yes)
attribute [local go_sem] Oper.semAt_some

set_option maxHeartbeats 4000000 in
set_option maxRecDepth 100000 in
theorem phright_any (h : Hr) (a : Option Addr) (c : Nat) (w : World) (hT : Tb w a h.m h.K h.L) :
    Calls Try.prog 10 #[hV h a c] w fun e w' => BoSays (RH h) e ∧ Below w.heap.size w w' := by
  have HX := Lib.hid (show HAt (w.alloc (.cells #[.int .i64 h.S, .int .i64 h.F, .int .i64 h.I, .int .i64 h.N, .int .i64 h.D, .slice a h.m c] 24)) w.heap.size h a c from heap_alloc_new _ _)
  have HB := Lib.hid ((Below.refl w.heap.size w).alloc (Nat.le_refl _) (.cells #[.int .i64 h.S, .int .i64 h.F, .int .i64 h.I, .int .i64 h.N, .int .i64 h.D, .slice a h.m c] 24))
  have HT := Lib.hid hT
  have HRT := Lib.hid (fun W hT => Ly.lRight_any h.N a h.m c h.K h.L W hT)
  have HRH := Lib.hid (show RH h ↔ (0 ≤ h.S ∧ h.S ≤ 65535) ∧ (1 ≤ h.F ∧ h.F ≤ 2147483647) ∧ (0 ≤ h.I ∧ h.I < h.N) ∧ (0 ≤ h.D ∧ h.D ≤ 2147483647) ∧ TabOk h.N h.m h.K h.L from Iff.rfl)
  obtain ⟨c0, c1, c2, c3, c4, c5⟩ := HX.out.c
  unfold hV
  generalize RH h = R at *
  generalize h.S = S at *
  generalize h.F = F at *
  generalize h.I = I at *
  generalize h.N = N at *
  generalize h.D = D at *
  have no : (¬ ((0 ≤ S ∧ S ≤ 65535) ∧ (1 ≤ F ∧ F ≤ 2147483647) ∧ (0 ≤ I ∧ I < N) ∧ (0 ≤ D ∧ D ≤ 2147483647))) → ¬ R := fun q r => by
    obtain ⟨r1, r2, r3, r4, _⟩ := HRH.out.1 r
    exact q ⟨r1, r2, r3, r4⟩
  have NO := Lib.hid no
  clear hT no
  go_enter Try.func10, Try.ntmps10
  by_cases e1 : 0 ≤ S
  rotate_left
  · have HN := Lib.hid (NO.out (by omega))
    go_wp2
    go_ret
    exact ⟨BoSays.no HN.out, HB.out⟩
  by_cases e2 : S ≤ 65535
  rotate_left
  · have HN := Lib.hid (NO.out (by omega))
    go_wp2
    go_ret
    exact ⟨BoSays.no HN.out, HB.out⟩
  by_cases e3 : 1 ≤ F
  rotate_left
  · have HN := Lib.hid (NO.out (by omega))
    go_wp2
    go_ret
    exact ⟨BoSays.no HN.out, HB.out⟩
  by_cases e4 : F ≤ 2147483647
  rotate_left
  · have HN := Lib.hid (NO.out (by omega))
    go_wp2
    go_ret
    exact ⟨BoSays.no HN.out, HB.out⟩
  by_cases e5 : 0 ≤ I
  rotate_left
  · have HN := Lib.hid (NO.out (by omega))
    go_wp2
    go_ret
    exact ⟨BoSays.no HN.out, HB.out⟩
  by_cases e6 : I < N
  rotate_left
  · have HN := Lib.hid (NO.out (by omega))
    go_wp2
    go_ret
    exact ⟨BoSays.no HN.out, HB.out⟩
  by_cases e7 : 0 ≤ D
  rotate_left
  · have HN := Lib.hid (NO.out (by omega))
    go_wp2
    go_ret
    exact ⟨BoSays.no HN.out, HB.out⟩
  by_cases e8 : D ≤ 2147483647
  rotate_left
  · have HN := Lib.hid (NO.out (by omega))
    go_wp2
    go_ret
    exact ⟨BoSays.no HN.out, HB.out⟩
  go_wp2_with fail
  refine (HRT.out _ (HT.out.same HB.out)).mono ?_
  rintro e w' ⟨⟨v, rfl, hv⟩, hq⟩
  have HVV := Lib.hid (show v = true ↔ R from hv.trans ⟨fun t => HRH.out.2 ⟨⟨e1, e2⟩, ⟨e3, e4⟩, ⟨e5, e6⟩, ⟨e7, e8⟩, t⟩, fun r => (HRH.out.1 r).2.2.2.2⟩)
  have HB2 := Lib.hid (HB.out.trans (hq.mono HB.out.size))
  clear hv hq c0 c1 c2 c3 c4 c5
  go_wp2
  go_ret
  exact ⟨⟨v, rfl, HVV.out⟩, HB2.out⟩
theorem pHRight : PHRight := fun h a c _ w hT => phright_any h a c w hT
end Go.Proofs.Ytempgjollkdmnaa.He

namespace Go.Proofs.Ytempgjollkdmnaa.He
open Go.RowKit Go.Shelf
open Go.Proofs.Ytempgjollkdmnaa.Ly (TabOk RowOk off Tb)
open Go.Proofs.Ytempgjollkdmnaa.Wg (BoSays BoSays.no BoSays.yes)
attribute [local go_sem] Oper.semAt_some

set_option maxHeartbeats 4000000 in
set_option maxRecDepth 100000 in
theorem equalRows_any (a b : Option Addr) (n m c d : Nat) (K L K' L' : Nat → Int) (hn : n ≤ 140737488355328) (hm : m ≤ 140737488355328) (w : World) (hT : Tb w a n K L) (hU : Tb w b m K' L') :
    Calls Try.prog 33 #[.slice a n c, .slice b m d] w fun e w' => BoSays (SR n m K L K' L') e ∧ Below w.heap.size w w' := by
  have HT := Lib.hid hT; have HU := Lib.hid hU; clear hT hU
  go_enter Try.func33, Try.ntmps33
  by_cases hnm : n = m
  rotate_left
  · have g1 : ((n : Int) != (m : Int)) = true := by simp; omega
    have HN := Lib.hid (show ¬ SR n m K L K' L' from fun h => hnm h.1)
    clear hnm
    go_wp2
    go_ret
    exact ⟨BoSays.no HN.out, Below.refl _ _⟩
  subst hnm
  have g1 : ((n : Int) != (n : Int)) = false := by simp
  go_wp2_with fail
  clear g1
  go_loopw [5, 13] (fun _ i wr => ∃ (k : Nat) (W : World), W = wr ∧ k ≤ n ∧ i = .int .i64 k ∧ (∀ j, j < k → K j = K' j ∧ L j = L' j) ∧ Below w.heap.size w wr) (fun _ i _ => n - (intOf i).toNat)
  case atStart => exact ⟨0, _, rfl, by omega, rfl, fun j hj => absurd hj (Nat.not_lt_zero j), Below.refl _ _⟩
  case round =>
    obtain ⟨k, wx, rfl, hk, rfl, hall, hB⟩ := hrel
    have HB := Lib.hid hB; have HALL := Lib.hid hall; clear hB hall
    by_cases hlt : k < n
    · obtain ⟨b1, o1, e1, c1, c2⟩ := (HT.out.same HB.out).cell k hlt
      obtain ⟨b2, o2, e2, d1, d2⟩ := (HU.out.same HB.out).cell k hlt
      subst e1 e2
      have HE := Lib.hid (show (K k = K' k ∧ L k = L' k) → ∀ j, j < k + 1 → K j = K' j ∧ L j = L' j from fun h j hj => by
        by_cases e : j = k
        · rw [e]; exact h
        · exact HALL.out j (by omega))
      have HF := Lib.hid (show ¬ (K k = K' k ∧ L k = L' k) → ¬ SR n n K L K' L' from fun h q => h (q.2 k hlt))
      generalize K k = x at *
      generalize L k = y at *
      generalize K' k = x' at *
      generalize L' k = y' at *
      have i1 : (k : Int) < (n : Int) := by omega
      by_cases hx : x = x'
      · subst hx
        have g6 : (x == x) = true := by simp
        by_cases hy : y = y'
        · subst hy
          have g5 : (y == y) = true := by simp
          have HZ := Lib.hid (HE.out ⟨rfl, rfl⟩)
          go_wp2_with fail
          go_quiet (fail)
          go_wp2
          go_roundw
          case rel => exact ⟨k + 1, _, rfl, by omega, by go_num, HZ.out, HB.out.trans ((below_drewN (Below.refl _ _) _).mono HB.out.size)⟩
          case measure => simp [intOf]; omega
        · have g5 : (y == y') = false := by simp [hy]
          have HN := Lib.hid (HF.out (fun h => hy h.2))
          clear hy
          go_wp2_with fail
          go_quiet (fail)
          go_wp2
          go_ret
          exact ⟨BoSays.no HN.out, HB.out.trans ((below_drewN (Below.refl _ _) _).mono HB.out.size)⟩
      · have g6 : (x == x') = false := by simp [hx]
        have HN := Lib.hid (HF.out (fun h => hx h.1))
        clear hx
        go_wp2_with fail
        go_quiet (fail)
        go_wp2
        go_ret
        exact ⟨BoSays.no HN.out, HB.out.trans ((below_drewN (Below.refl _ _) _).mono HB.out.size)⟩
    · obtain rfl : k = n := by omega
      have i1 : ¬ (k : Int) < (k : Int) := by omega
      have HS := Lib.hid (show SR k k K L K' L' from ⟨rfl, HALL.out⟩)
      go_wp2
      go_ret
      exact ⟨BoSays.yes HS.out, HB.out⟩
set_option maxHeartbeats 4000000 in
set_option maxRecDepth 100000 in
theorem phlike_any (h g : Hr) (a b : Option Addr) (c d : Nat) (hn : h.m ≤ 140737488355328) (hm : g.m ≤ 140737488355328) (w : World) (hT : Tb w a h.m h.K h.L) (hU : Tb w b g.m g.K g.L) :
    Calls Try.prog 15 #[hV h a c, hV g b d] w fun e w' => BoSays (LH h g) e ∧ Below w.heap.size w w' := by
  obtain ⟨w0, hw0⟩ : ∃ w0, w0 = w.alloc (.cells #[.int .i64 h.S, .int .i64 h.F, .int .i64 h.I, .int .i64 h.N, .int .i64 h.D, .slice a h.m c] 24) := ⟨_, rfl⟩
  obtain ⟨w1, hw1⟩ : ∃ w1, w1 = w0.alloc (.cells #[.int .i64 g.S, .int .i64 g.F, .int .i64 g.I, .int .i64 g.N, .int .i64 g.D, .slice b g.m d] 24) := ⟨_, rfl⟩
  have hx0 : HAt w0 w.heap.size h a c := by rw [hw0]; exact heap_alloc_new _ _
  have hb0 : Below w.heap.size w w0 := by rw [hw0]; exact (Below.refl _ w).alloc (Nat.le_refl _) _
  have hz0 : w0.heap.size = w.heap.size + 1 := by rw [hw0, World.size_alloc]
  have hb1 : Below w0.heap.size w0 w1 := by rw [hw1]; exact (Below.refl _ w0).alloc (Nat.le_refl _) _
  have HX := Lib.hid (hx0.same hb1)
  have HY := Lib.hid (show HAt w1 (w.heap.size + 1) g b d by rw [hw1, ← hz0]; exact heap_alloc_new _ _)
  have HB := Lib.hid (hb0.trans (hb1.mono hb0.size))
  have HW := Lib.hid (show w1 = (w.alloc (.cells #[.int .i64 h.S, .int .i64 h.F, .int .i64 h.I, .int .i64 h.N, .int .i64 h.D, .slice a h.m c] 24)).alloc (.cells #[.int .i64 g.S, .int .i64 g.F, .int .i64 g.I, .int .i64 g.N, .int .i64 g.D, .slice b g.m d] 24) by rw [hw1, hw0])
  obtain ⟨c0, c1, c2, c3, c4, c5⟩ := HX.out.c
  obtain ⟨d0, d1, d2, d3, d4, d5⟩ := HY.out.c
  have HST := Lib.hid (fun W hT hU => equalRows_any a b h.m g.m c d h.K h.L g.K g.L hn hm W hT hU)
  have HT := Lib.hid (hT.same HB.out); have HU := Lib.hid (hU.same HB.out)
  have HEH := Lib.hid (show LH h g ↔ (h.S = g.S ∧ h.F = g.F ∧ h.N = g.N ∧ h.D = g.D) ∧ SR h.m g.m h.K h.L g.K g.L from ⟨fun q => ⟨⟨q.1, q.2.1, q.2.2.1, q.2.2.2.1⟩, q.2.2.2.2.1, q.2.2.2.2.2⟩, fun q => ⟨q.1.1, q.1.2.1, q.1.2.2.1, q.1.2.2.2, q.2.1, q.2.2⟩⟩)
  rw [HW.out] at c0 c1 c2 c3 c4 c5 d0 d1 d2 d3 d4 d5
  unfold hV
  generalize LH h g = R at *
  clear hT hU hw0 hw1 hx0 hb0 hz0 hb1
  go_enter Try.func15, Try.ntmps15
  by_cases e0 : h.S = g.S
  rotate_left
  · have g1 : (h.S == g.S) = false := by simp [e0]
    have HN := Lib.hid (show ¬ R from fun r => e0 ((HEH.out.1 r).1.1))
    clear e0
    go_wp2
    rw [← HW.out]
    go_ret
    exact ⟨BoSays.no HN.out, HB.out⟩
  have q0 : (h.S == g.S) = true := by simp [e0]
  have E0 := Lib.hid e0
  clear e0
  by_cases e1 : h.F = g.F
  rotate_left
  · have g1 : (h.F == g.F) = false := by simp [e1]
    have HN := Lib.hid (show ¬ R from fun r => e1 ((HEH.out.1 r).1.2.1))
    clear e1
    go_wp2
    rw [← HW.out]
    go_ret
    exact ⟨BoSays.no HN.out, HB.out⟩
  have q1 : (h.F == g.F) = true := by simp [e1]
  have E1 := Lib.hid e1
  clear e1
  by_cases e2 : h.N = g.N
  rotate_left
  · have g1 : (h.N == g.N) = false := by simp [e2]
    have HN := Lib.hid (show ¬ R from fun r => e2 ((HEH.out.1 r).1.2.2.1))
    clear e2
    go_wp2
    rw [← HW.out]
    go_ret
    exact ⟨BoSays.no HN.out, HB.out⟩
  have q2 : (h.N == g.N) = true := by simp [e2]
  have E2 := Lib.hid e2
  clear e2
  by_cases e3 : h.D = g.D
  rotate_left
  · have g1 : (h.D == g.D) = false := by simp [e3]
    have HN := Lib.hid (show ¬ R from fun r => e3 ((HEH.out.1 r).1.2.2.2))
    clear e3
    go_wp2
    rw [← HW.out]
    go_ret
    exact ⟨BoSays.no HN.out, HB.out⟩
  have q3 : (h.D == g.D) = true := by simp [e3]
  have E3 := Lib.hid e3
  clear e3
  go_wp2_with fail
  rw [← HW.out]
  refine (HST.out w1 HT.out HU.out).mono ?_
  rintro e w2 ⟨⟨v, rfl, hv⟩, hB2⟩
  have HVV := Lib.hid (show v = true ↔ R from hv.trans ⟨fun s => HEH.out.2 ⟨⟨E0.out, E1.out, E2.out, E3.out⟩, s⟩, fun r => (HEH.out.1 r).2⟩)
  have HB2 := Lib.hid (HB.out.trans (hB2.mono HB.out.size))
  clear hv hB2 c0 c1 c2 c3 c4 c5 d0 d1 d2 d3 d4 d5 q0 q1 q2 q3
  go_wp2
  go_ret
  exact ⟨⟨v, rfl, HVV.out⟩, HB2.out⟩
theorem pHLike : PHLike := fun h g a b c d hn hm w hT hU => phlike_any h g a b c d hn hm w hT hU
end Go.Proofs.Ytempgjollkdmnaa.He
