import Derived.WalkKit
import Derived.WalkSpells
import Derived.Laws.AppendOwn
import Derived.Laws.AppendOwnNone
import Derived.Test.YtjlmajopfeplpaaGreatMg44
import Derived.Test.YtjlmajopfeplpaaGreatMg46
import Derived.Test.YtjlmajopfeplpaaGreatMg49
namespace Go.Proofs.YtjlmajopfeplpaaGreat.He
open Go.RowKit Go.Shelf
open Go.Proofs.YtjlmajopfeplpaaGreat.Ly (TabOk RowOk off Tb TabSays NumSays)
open Go.Proofs.YtjlmajopfeplpaaGreat.Wg (BoSays BoSays.no BoSays.yes)
attribute [local go_sem] Oper.semAt_some

/-- a header, as a value: its rows lie at a. -/
def hV (h : Hr) (a : Option Addr) (c : Nat) : Value := .agg #[.int .i64 h.S, .int .i64 h.F, .int .i64 h.I, .int .i64 h.N, .int .i64 h.D, .slice a h.m c]
/-- a header in its box. -/
def HAt (W : World) (g : Nat) (h : Hr) (a : Option Addr) (c : Nat) : Prop := W.heap[g]? = some (.cells #[.int .i64 h.S, .int .i64 h.F, .int .i64 h.I, .int .i64 h.N, .int .i64 h.D, .slice a h.m c] 27 (0, 0))
section
variable {W W' : World} {g cc : Nat} {h : Hr} {a : Option Addr}
theorem HAt.lt (s : HAt W g h a cc) : g < W.heap.size := (Array.getElem?_eq_some_iff.1 s).1
theorem HAt.same (s : HAt W g h a cc) (hB : Below W.heap.size W W') : HAt W' g h a cc := (hB.block _ s.lt).trans s
theorem HAt.c (s : HAt W g h a cc) : W.cell? ⟨g, 0, none⟩ = some (.int .i64 h.S) ∧ W.cell? ⟨g, 1, none⟩ = some (.int .i64 h.F) ∧ W.cell? ⟨g, 2, none⟩ = some (.int .i64 h.I) ∧ W.cell? ⟨g, 3, none⟩ = some (.int .i64 h.N) ∧ W.cell? ⟨g, 4, none⟩ = some (.int .i64 h.D) ∧ W.cell? ⟨g, 5, none⟩ = some (.slice a h.m cc) :=
  ⟨by rw [cell_of_row W g 0 _ _ _ s]; rfl, by rw [cell_of_row W g 1 _ _ _ s]; rfl, by rw [cell_of_row W g 2 _ _ _ s]; rfl, by rw [cell_of_row W g 3 _ _ _ s]; rfl, by rw [cell_of_row W g 4 _ _ _ s]; rfl, by rw [cell_of_row W g 5 _ _ _ s]; rfl⟩
theorem HAt.free (s : HAt W g h a cc) (i : Nat) : W.frozen? ⟨g, i, none⟩ = false := frozen_of_row W g i _ _ s
end
set_option maxHeartbeats 4000000 in
set_option maxRecDepth 100000 in
theorem rhright_any (h : Hr) (a : Option Addr) (c : Nat) (w : World) (hT : Tb w a h.m h.K h.L) :
    Calls Tryz.prog 16 #[hV h a c] w fun e w' => BoSays (RH h) e ∧ Below w.heap.size w w' := by
  have HX := Lib.hid (show HAt (w.alloc (.cells #[.int .i64 h.S, .int .i64 h.F, .int .i64 h.I, .int .i64 h.N, .int .i64 h.D, .slice a h.m c] 27)) w.heap.size h a c from heap_alloc_new _ _)
  have HB := Lib.hid ((Below.refl w.heap.size w).alloc (Nat.le_refl _) (.cells #[.int .i64 h.S, .int .i64 h.F, .int .i64 h.I, .int .i64 h.N, .int .i64 h.D, .slice a h.m c] 27))
  have HT := Lib.hid hT
  have HRT := Lib.hid (fun W hT => Ly.rRight_any h.N a h.m c h.K h.L W hT)
  have HRH := Lib.hid (show RH h ↔ (0 ≤ h.S ∧ h.S ≤ 65535) ∧ (1 ≤ h.F ∧ h.F ≤ 2147483647) ∧ (0 ≤ h.I ∧ h.I < h.N) ∧ (0 ≤ h.D ∧ h.D ≤ 2147483647) ∧ TabOk h.N h.m h.K h.L from Iff.rfl)
  obtain ⟨c0, c1, c2, c3, c4, c5⟩ := HX.out.c
  unfold hV
  generalize RH h = R at *
  generalize h.S = S at *
  generalize h.F = F at *
  generalize h.I = I at *
  generalize h.N = N at *
  generalize h.D = D at *
  have no : (¬ ((0 ≤ S ∧ S ≤ 65535) ∧ (1 ≤ F ∧ F ≤ 2147483647) ∧ (0 ≤ I ∧ I < N) ∧ (0 ≤ D ∧ D ≤ 2147483647))) → ¬ R := fun q r => by
    obtain ⟨r1, r2, r3, r4, _⟩ := HRH.out.1 r
    exact q ⟨r1, r2, r3, r4⟩
  have NO := Lib.hid no
  clear hT no
  go_enter Tryz.func16, Tryz.ntmps16
  by_cases e1 : 0 ≤ S
  rotate_left
  · have HN := Lib.hid (NO.out (by omega))
    go_wp2
    go_ret
    exact ⟨BoSays.no HN.out, HB.out⟩
  by_cases e2 : S ≤ 65535
  rotate_left
  · have HN := Lib.hid (NO.out (by omega))
    go_wp2
    go_ret
    exact ⟨BoSays.no HN.out, HB.out⟩
  by_cases e3 : 1 ≤ F
  rotate_left
  · have HN := Lib.hid (NO.out (by omega))
    go_wp2
    go_ret
    exact ⟨BoSays.no HN.out, HB.out⟩
  by_cases e4 : F ≤ 2147483647
  rotate_left
  · have HN := Lib.hid (NO.out (by omega))
    go_wp2
    go_ret
    exact ⟨BoSays.no HN.out, HB.out⟩
  by_cases e5 : 0 ≤ I
  rotate_left
  · have HN := Lib.hid (NO.out (by omega))
    go_wp2
    go_ret
    exact ⟨BoSays.no HN.out, HB.out⟩
  by_cases e6 : I < N
  rotate_left
  · have HN := Lib.hid (NO.out (by omega))
    go_wp2
    go_ret
    exact ⟨BoSays.no HN.out, HB.out⟩
  by_cases e7 : 0 ≤ D
  rotate_left
  · have HN := Lib.hid (NO.out (by omega))
    go_wp2
    go_ret
    exact ⟨BoSays.no HN.out, HB.out⟩
  by_cases e8 : D ≤ 2147483647
  rotate_left
  · have HN := Lib.hid (NO.out (by omega))
    go_wp2
    go_ret
    exact ⟨BoSays.no HN.out, HB.out⟩
  go_wp2_with fail
  refine (HRT.out _ (HT.out.same HB.out)).mono ?_
  rintro e w' ⟨⟨v, rfl, hv⟩, q, hq⟩
  have HVV := Lib.hid (show v = true ↔ R from hv.trans ⟨fun t => HRH.out.2 ⟨⟨e1, e2⟩, ⟨e3, e4⟩, ⟨e5, e6⟩, ⟨e7, e8⟩, t⟩, fun r => (HRH.out.1 r).2.2.2.2⟩)
  have HB2 := Lib.hid (show Below w.heap.size w w' by rw [hq]; exact below_dr HB.out q)
  clear hv hq c0 c1 c2 c3 c4 c5
  go_wp2
  go_ret
  exact ⟨⟨v, rfl, HVV.out⟩, HB2.out⟩
end Go.Proofs.YtjlmajopfeplpaaGreat.He

namespace Go.Proofs.YtjlmajopfeplpaaGreat.He
open Go.RowKit Go.Shelf
open Go.Proofs.YtjlmajopfeplpaaGreat.Ly (TabOk RowOk off Tb)
open Go.Proofs.YtjlmajopfeplpaaGreat.Wg (BoSays BoSays.no BoSays.yes)
attribute [local go_sem] Oper.semAt_some

/-- rows are the same. -/
def SR (n m : Nat) (K L K' L' : Nat → Int) : Prop := n = m ∧ ∀ i, i < n → K i = K' i ∧ L i = L' i
set_option maxHeartbeats 4000000 in
set_option maxRecDepth 100000 in
theorem sameTable_any (a b : Option Addr) (n m c d : Nat) (K L K' L' : Nat → Int) (hn : n ≤ 140737488355328) (hm : m ≤ 140737488355328) (w : World) (hT : Tb w a n K L) (hU : Tb w b m K' L') :
    Calls Tryz.prog 52 #[.slice a n c, .slice b m d] w fun e w' => BoSays (SR n m K L K' L') e ∧ Below w.heap.size w w' := by
  have HT := Lib.hid hT; have HU := Lib.hid hU; clear hT hU
  go_enter Tryz.func52, Tryz.ntmps52
  by_cases hnm : n = m
  rotate_left
  · have g1 : ((n : Int) != (m : Int)) = true := by simp; omega
    have HN := Lib.hid (show ¬ SR n m K L K' L' from fun h => hnm h.1)
    clear hnm
    go_wp2
    go_ret
    exact ⟨BoSays.no HN.out, Below.refl _ _⟩
  subst hnm
  have g1 : ((n : Int) != (n : Int)) = false := by simp
  go_wp2_with fail
  clear g1
  go_loopw [5] (fun i wr => ∃ (k : Nat) (W : World), W = wr ∧ k ≤ n ∧ i = .int .i64 k ∧ (∀ j, j < k → K j = K' j ∧ L j = L' j) ∧ Below w.heap.size w wr) (fun i _ => n - (intOf i).toNat)
  case atStart => exact ⟨0, _, rfl, by omega, rfl, fun j hj => absurd hj (Nat.not_lt_zero j), Below.refl _ _⟩
  case round =>
    obtain ⟨k, wx, rfl, hk, rfl, hall, hB⟩ := hrel
    have HB := Lib.hid hB; have HALL := Lib.hid hall; clear hB hall
    by_cases hlt : k < n
    · obtain ⟨b1, o1, e1, c1, c2⟩ := (HT.out.same HB.out).cell k hlt
      obtain ⟨b2, o2, e2, d1, d2⟩ := (HU.out.same HB.out).cell k hlt
      subst e1 e2
      have HE := Lib.hid (show (K k = K' k ∧ L k = L' k) → ∀ j, j < k + 1 → K j = K' j ∧ L j = L' j from fun h j hj => by
        by_cases e : j = k
        · rw [e]; exact h
        · exact HALL.out j (by omega))
      have HF := Lib.hid (show ¬ (K k = K' k ∧ L k = L' k) → ¬ SR n n K L K' L' from fun h q => h (q.2 k hlt))
      generalize K k = x at *
      generalize L k = y at *
      generalize K' k = x' at *
      generalize L' k = y' at *
      have i1 : (k : Int) < (n : Int) := by omega
      by_cases hx : x = x'
      · subst hx
        have g6 : (x == x) = true := by simp
        by_cases hy : y = y'
        · subst hy
          have g5 : (y == y) = true := by simp
          have HZ := Lib.hid (HE.out ⟨rfl, rfl⟩)
          go_wp2_with fail
          go_quiet (fail)
          go_wp2
          go_roundw
          case rel => exact ⟨k + 1, _, rfl, by omega, by go_num, HZ.out, HB.out.trans ((below_drewN (Below.refl _ _) _).mono HB.out.size)⟩
          case measure => simp [intOf]; omega
        · have g5 : (y == y') = false := by simp [hy]
          have HN := Lib.hid (HF.out (fun h => hy h.2))
          clear hy
          go_wp2_with fail
          go_quiet (fail)
          go_wp2
          go_ret
          exact ⟨BoSays.no HN.out, HB.out.trans ((below_drewN (Below.refl _ _) _).mono HB.out.size)⟩
      · have g6 : (x == x') = false := by simp [hx]
        have HN := Lib.hid (HF.out (fun h => hx h.1))
        clear hx
        go_wp2_with fail
        go_quiet (fail)
        go_wp2
        go_ret
        exact ⟨BoSays.no HN.out, HB.out.trans ((below_drewN (Below.refl _ _) _).mono HB.out.size)⟩
    · obtain rfl : k = n := by omega
      have i1 : ¬ (k : Int) < (k : Int) := by omega
      have HS := Lib.hid (show SR k k K L K' L' from ⟨rfl, HALL.out⟩)
      go_wp2
      go_ret
      exact ⟨BoSays.yes HS.out, HB.out⟩
end Go.Proofs.YtjlmajopfeplpaaGreat.He

namespace Go.Proofs.YtjlmajopfeplpaaGreat.He
open Go.RowKit Go.Shelf
open Go.Proofs.YtjlmajopfeplpaaGreat.Ly (TabOk RowOk off Tb)
open Go.Proofs.YtjlmajopfeplpaaGreat.Wg (BoSays BoSays.no BoSays.yes)
attribute [local go_sem] Oper.semAt_some

set_option maxHeartbeats 4000000 in
set_option maxRecDepth 100000 in
theorem sameHead_any (h g : Hr) (a b : Option Addr) (c d : Nat) (hn : h.m ≤ 140737488355328) (hm : g.m ≤ 140737488355328) (w : World) (hT : Tb w a h.m h.K h.L) (hU : Tb w b g.m g.K g.L) :
    Calls Tryz.prog 27 #[hV h a c, hV g b d] w fun e w' => BoSays (EH h g) e ∧ Below w.heap.size w w' := by
  obtain ⟨w0, hw0⟩ : ∃ w0, w0 = w.alloc (.cells #[.int .i64 h.S, .int .i64 h.F, .int .i64 h.I, .int .i64 h.N, .int .i64 h.D, .slice a h.m c] 27) := ⟨_, rfl⟩
  obtain ⟨w1, hw1⟩ : ∃ w1, w1 = w0.alloc (.cells #[.int .i64 g.S, .int .i64 g.F, .int .i64 g.I, .int .i64 g.N, .int .i64 g.D, .slice b g.m d] 27) := ⟨_, rfl⟩
  have hx0 : HAt w0 w.heap.size h a c := by rw [hw0]; exact heap_alloc_new _ _
  have hb0 : Below w.heap.size w w0 := by rw [hw0]; exact (Below.refl _ w).alloc (Nat.le_refl _) _
  have hz0 : w0.heap.size = w.heap.size + 1 := by rw [hw0, World.size_alloc]
  have hb1 : Below w0.heap.size w0 w1 := by rw [hw1]; exact (Below.refl _ w0).alloc (Nat.le_refl _) _
  have HX := Lib.hid (hx0.same hb1)
  have HY := Lib.hid (show HAt w1 (w.heap.size + 1) g b d by rw [hw1, ← hz0]; exact heap_alloc_new _ _)
  have HB := Lib.hid (hb0.trans (hb1.mono hb0.size))
  have HW := Lib.hid (show w1 = (w.alloc (.cells #[.int .i64 h.S, .int .i64 h.F, .int .i64 h.I, .int .i64 h.N, .int .i64 h.D, .slice a h.m c] 27)).alloc (.cells #[.int .i64 g.S, .int .i64 g.F, .int .i64 g.I, .int .i64 g.N, .int .i64 g.D, .slice b g.m d] 27) by rw [hw1, hw0])
  obtain ⟨c0, c1, c2, c3, c4, c5⟩ := HX.out.c
  obtain ⟨d0, d1, d2, d3, d4, d5⟩ := HY.out.c
  have HST := Lib.hid (fun W hT hU => sameTable_any a b h.m g.m c d h.K h.L g.K g.L hn hm W hT hU)
  have HT := Lib.hid (hT.same HB.out); have HU := Lib.hid (hU.same HB.out)
  have HEH := Lib.hid (show EH h g ↔ (h.S = g.S ∧ h.F = g.F ∧ h.I = g.I ∧ h.N = g.N ∧ h.D = g.D) ∧ SR h.m g.m h.K h.L g.K g.L from ⟨fun q => ⟨⟨q.1.1, q.1.2.1, q.2, q.1.2.2.1, q.1.2.2.2.1⟩, q.1.2.2.2.2.1, q.1.2.2.2.2.2⟩, fun q => ⟨⟨q.1.1, q.1.2.1, q.1.2.2.2.1, q.1.2.2.2.2, q.2.1, q.2.2⟩, q.1.2.2.1⟩⟩)
  rw [HW.out] at c0 c1 c2 c3 c4 c5 d0 d1 d2 d3 d4 d5
  unfold hV
  generalize EH h g = R at *
  clear hT hU hw0 hw1 hx0 hb0 hz0 hb1
  go_enter Tryz.func27, Tryz.ntmps27
  by_cases e0 : h.S = g.S
  rotate_left
  · have g1 : (h.S == g.S) = false := by simp [e0]
    have HN := Lib.hid (show ¬ R from fun r => e0 ((HEH.out.1 r).1.1))
    clear e0
    go_wp2
    rw [← HW.out]
    go_ret
    exact ⟨BoSays.no HN.out, HB.out⟩
  have q0 : (h.S == g.S) = true := by simp [e0]
  have E0 := Lib.hid e0
  clear e0
  by_cases e1 : h.F = g.F
  rotate_left
  · have g1 : (h.F == g.F) = false := by simp [e1]
    have HN := Lib.hid (show ¬ R from fun r => e1 ((HEH.out.1 r).1.2.1))
    clear e1
    go_wp2
    rw [← HW.out]
    go_ret
    exact ⟨BoSays.no HN.out, HB.out⟩
  have q1 : (h.F == g.F) = true := by simp [e1]
  have E1 := Lib.hid e1
  clear e1
  by_cases e2 : h.I = g.I
  rotate_left
  · have g1 : (h.I == g.I) = false := by simp [e2]
    have HN := Lib.hid (show ¬ R from fun r => e2 ((HEH.out.1 r).1.2.2.1))
    clear e2
    go_wp2
    rw [← HW.out]
    go_ret
    exact ⟨BoSays.no HN.out, HB.out⟩
  have q2 : (h.I == g.I) = true := by simp [e2]
  have E2 := Lib.hid e2
  clear e2
  by_cases e3 : h.N = g.N
  rotate_left
  · have g1 : (h.N == g.N) = false := by simp [e3]
    have HN := Lib.hid (show ¬ R from fun r => e3 ((HEH.out.1 r).1.2.2.2.1))
    clear e3
    go_wp2
    rw [← HW.out]
    go_ret
    exact ⟨BoSays.no HN.out, HB.out⟩
  have q3 : (h.N == g.N) = true := by simp [e3]
  have E3 := Lib.hid e3
  clear e3
  by_cases e4 : h.D = g.D
  rotate_left
  · have g1 : (h.D == g.D) = false := by simp [e4]
    have HN := Lib.hid (show ¬ R from fun r => e4 ((HEH.out.1 r).1.2.2.2.2))
    clear e4
    go_wp2
    rw [← HW.out]
    go_ret
    exact ⟨BoSays.no HN.out, HB.out⟩
  have q4 : (h.D == g.D) = true := by simp [e4]
  have E4 := Lib.hid e4
  clear e4
  go_wp2_with fail
  rw [← HW.out]
  refine (HST.out w1 HT.out HU.out).mono ?_
  rintro e w2 ⟨⟨v, rfl, hv⟩, hB2⟩
  have HVV := Lib.hid (show v = true ↔ R from hv.trans ⟨fun s => HEH.out.2 ⟨⟨E0.out, E1.out, E2.out, E3.out, E4.out⟩, s⟩, fun r => (HEH.out.1 r).2⟩)
  have HB2 := Lib.hid (HB.out.trans (hB2.mono HB.out.size))
  clear hv hB2 c0 c1 c2 c3 c4 c5 d0 d1 d2 d3 d4 d5 q0 q1 q2 q3 q4
  go_wp2
  go_ret
  exact ⟨⟨v, rfl, HVV.out⟩, HB2.out⟩
set_option maxHeartbeats 4000000 in
set_option maxRecDepth 100000 in
theorem rlike_any (h g : Hr) (a b : Option Addr) (c d : Nat) (hn : h.m ≤ 140737488355328) (hm : g.m ≤ 140737488355328) (w : World) (hT : Tb w a h.m h.K h.L) (hU : Tb w b g.m g.K g.L) :
    Calls Tryz.prog 18 #[hV h a c, hV g b d] w fun e w' => BoSays (LH h g) e ∧ Below w.heap.size w w' := by
  obtain ⟨w0, hw0⟩ : ∃ w0, w0 = w.alloc (.cells #[.int .i64 h.S, .int .i64 h.F, .int .i64 h.I, .int .i64 h.N, .int .i64 h.D, .slice a h.m c] 27) := ⟨_, rfl⟩
  obtain ⟨w1, hw1⟩ : ∃ w1, w1 = w0.alloc (.cells #[.int .i64 g.S, .int .i64 g.F, .int .i64 g.I, .int .i64 g.N, .int .i64 g.D, .slice b g.m d] 27) := ⟨_, rfl⟩
  have hx0 : HAt w0 w.heap.size h a c := by rw [hw0]; exact heap_alloc_new _ _
  have hb0 : Below w.heap.size w w0 := by rw [hw0]; exact (Below.refl _ w).alloc (Nat.le_refl _) _
  have hz0 : w0.heap.size = w.heap.size + 1 := by rw [hw0, World.size_alloc]
  have hb1 : Below w0.heap.size w0 w1 := by rw [hw1]; exact (Below.refl _ w0).alloc (Nat.le_refl _) _
  have HX := Lib.hid (hx0.same hb1)
  have HY := Lib.hid (show HAt w1 (w.heap.size + 1) g b d by rw [hw1, ← hz0]; exact heap_alloc_new _ _)
  have HB := Lib.hid (hb0.trans (hb1.mono hb0.size))
  have HW := Lib.hid (show w1 = (w.alloc (.cells #[.int .i64 h.S, .int .i64 h.F, .int .i64 h.I, .int .i64 h.N, .int .i64 h.D, .slice a h.m c] 27)).alloc (.cells #[.int .i64 g.S, .int .i64 g.F, .int .i64 g.I, .int .i64 g.N, .int .i64 g.D, .slice b g.m d] 27) by rw [hw1, hw0])
  obtain ⟨c0, c1, c2, c3, c4, c5⟩ := HX.out.c
  obtain ⟨d0, d1, d2, d3, d4, d5⟩ := HY.out.c
  have HT := Lib.hid (hT.same HB.out); have HU := Lib.hid (hU.same HB.out)
  have HEH := Lib.hid (show LH h g ↔ h.S = g.S ∧ h.F = g.F ∧ h.N = g.N ∧ h.D = g.D ∧ h.m = g.m ∧ ∀ i, i < h.m → h.K i = g.K i ∧ h.L i = g.L i from Iff.rfl)
  rw [HW.out] at c0 c1 c2 c3 c4 c5 d0 d1 d2 d3 d4 d5
  unfold hV
  generalize LH h g = R at *
  clear hT hU hw0 hw1 hx0 hb0 hz0 hb1
  go_enter Tryz.func18, Tryz.ntmps18
  by_cases e0 : h.S = g.S
  rotate_left
  · have g1 : (h.S != g.S) = true := by simp [e0]
    have HN := Lib.hid (show ¬ R from fun r => e0 ((HEH.out.1 r).1))
    clear e0
    go_wp2
    rw [← HW.out]
    go_ret
    exact ⟨BoSays.no HN.out, HB.out⟩
  have q0 : (h.S != g.S) = false := by simp [e0]
  have E0 := Lib.hid e0
  clear e0
  by_cases e1 : h.F = g.F
  rotate_left
  · have g1 : (h.F != g.F) = true := by simp [e1]
    have HN := Lib.hid (show ¬ R from fun r => e1 ((HEH.out.1 r).2.1))
    clear e1
    go_wp2
    rw [← HW.out]
    go_ret
    exact ⟨BoSays.no HN.out, HB.out⟩
  have q1 : (h.F != g.F) = false := by simp [e1]
  have E1 := Lib.hid e1
  clear e1
  by_cases e2 : h.N = g.N
  rotate_left
  · have g1 : (h.N != g.N) = true := by simp [e2]
    have HN := Lib.hid (show ¬ R from fun r => e2 ((HEH.out.1 r).2.2.1))
    clear e2
    go_wp2
    rw [← HW.out]
    go_ret
    exact ⟨BoSays.no HN.out, HB.out⟩
  have q2 : (h.N != g.N) = false := by simp [e2]
  have E2 := Lib.hid e2
  clear e2
  by_cases e3 : h.D = g.D
  rotate_left
  · have g1 : (h.D != g.D) = true := by simp [e3]
    have HN := Lib.hid (show ¬ R from fun r => e3 ((HEH.out.1 r).2.2.2.1))
    clear e3
    go_wp2
    rw [← HW.out]
    go_ret
    exact ⟨BoSays.no HN.out, HB.out⟩
  have q3 : (h.D != g.D) = false := by simp [e3]
  have E3 := Lib.hid e3
  clear e3
  by_cases e4 : h.m = g.m
  rotate_left
  · have g1 : ((h.m : Int) != (g.m : Int)) = true := by simp; omega
    have HN := Lib.hid (show ¬ R from fun r => e4 (HEH.out.1 r).2.2.2.2.1)
    clear e4
    go_wp2
    rw [← HW.out]
    go_ret
    exact ⟨BoSays.no HN.out, HB.out⟩
  have q4 : ((h.m : Int) != (g.m : Int)) = false := by simp [e4]
  have E4 := Lib.hid e4
  clear e4
  go_wp2_with fail
  rw [← HW.out]
  clear c0 c1 c2 c3 c4 c5 d0 d1 d2 d3 d4 d5 q0 q1 q2 q3 q4 HW
  go_loopw [5] (fun i wr => ∃ (k : Nat) (W : World), W = wr ∧ k ≤ h.m ∧ i = .int .i64 k ∧ (∀ j, j < k → h.K j = g.K j ∧ h.L j = g.L j) ∧ Below w1.heap.size w1 wr) (fun i _ => h.m - (intOf i).toNat)
  case atStart => exact ⟨0, _, rfl, by omega, rfl, fun j hj => absurd hj (Nat.not_lt_zero j), Below.refl _ _⟩
  case round =>
    obtain ⟨k, wx, rfl, hk, rfl, hall, hBx⟩ := hrel
    have HBx := Lib.hid hBx; have HALL := Lib.hid hall
    have HBw := Lib.hid (HB.out.trans (hBx.mono HB.out.size))
    clear hBx hall
    obtain ⟨c0, c1, c2, c3, c4, c5⟩ := (HX.out.same HBx.out).c
    obtain ⟨d0, d1, d2, d3, d4, d5⟩ := (HY.out.same HBx.out).c
    clear c0 c1 c2 c3 c4 d0 d1 d2 d3 d4
    by_cases hlt : k < h.m
    · obtain ⟨b1, o1, ea1, p1, p2⟩ := (HT.out.same HBx.out).cell k hlt
      obtain ⟨b2, o2, ea2, r1, r2⟩ := (HU.out.same HBx.out).cell k (by have := E4.out; omega)
      subst ea1 ea2
      have HE := Lib.hid (show (h.K k = g.K k ∧ h.L k = g.L k) → ∀ j, j < k + 1 → h.K j = g.K j ∧ h.L j = g.L j from fun q j hj => by
        by_cases e : j = k
        · rw [e]; exact q
        · exact HALL.out j (by omega))
      have HF := Lib.hid (show ¬ (h.K k = g.K k ∧ h.L k = g.L k) → ¬ R from fun q r => q ((HEH.out.1 r).2.2.2.2.2 k hlt))
      have i1 : (k : Int) < (h.m : Int) := by omega
      have i2 : (k : Int) < (g.m : Int) := by have := E4.out; omega
      generalize h.K k = x at *
      generalize h.L k = y at *
      generalize g.K k = x' at *
      generalize g.L k = y' at *
      by_cases hx : x = x'
      · subst hx
        have g6 : (x == x) = true := by simp
        by_cases hy : y = y'
        · subst hy
          have g5 : (y == y) = true := by simp
          have HZ := Lib.hid (HE.out ⟨rfl, rfl⟩)
          go_wp2_with fail
          go_quiet (fail)
          go_wp2
          go_roundw
          case rel => exact ⟨k + 1, _, rfl, by omega, by go_num, HZ.out, HBx.out.trans ((below_drewN (Below.refl _ _) _).mono HBx.out.size)⟩
          case measure => simp [intOf]; omega
        · have g5 : (y == y') = false := by simp [hy]
          have HN := Lib.hid (HF.out (fun q => hy q.2))
          clear hy
          go_wp2_with fail
          go_quiet (fail)
          go_wp2
          go_ret
          exact ⟨BoSays.no HN.out, HBw.out.trans ((below_drewN (Below.refl _ _) _).mono HBw.out.size)⟩
      · have g6 : (x == x') = false := by simp [hx]
        have HN := Lib.hid (HF.out (fun q => hx q.1))
        clear hx
        go_wp2_with fail
        go_quiet (fail)
        go_wp2
        go_ret
        exact ⟨BoSays.no HN.out, HBw.out.trans ((below_drewN (Below.refl _ _) _).mono HBw.out.size)⟩
    · have hkm : k = h.m := by omega
      have i1 : ¬ (k : Int) < (h.m : Int) := by omega
      have HS := Lib.hid (show R from HEH.out.2 ⟨E0.out, E1.out, E2.out, E3.out, E4.out, fun i hi => HALL.out i (by omega)⟩)
      clear hkm
      go_wp2
      go_ret
      exact ⟨BoSays.yes HS.out, HBw.out⟩
end Go.Proofs.YtjlmajopfeplpaaGreat.He

namespace Go.Proofs.YtjlmajopfeplpaaGreat.He
open Go.RowKit Go.Shelf
open Go.Proofs.YtjlmajopfeplpaaGreat.Ly (TabOk RowOk off Tb tK tL lentTable_any keptTable_any)
open Go.Proofs.YtjlmajopfeplpaaGreat.Wg (BoSays BoSays.no BoSays.yes)
attribute [local go_sem] Oper.semAt_some

theorem put6 {W : World} {g : Nat} {t : TypeId} {a0 a1 a2 a3 a4 a5 : Value} (h : W.heap[g]? = some (.cells #[a0, a1, a2, a3, a4, a5] t (0, 0))) (v0 v1 v2 v3 v4 v5 : Value) : ((((((W.setCell ⟨g, 0, none⟩ v0).setCell ⟨g, 1, none⟩ v1).setCell ⟨g, 2, none⟩ v2).setCell ⟨g, 3, none⟩ v3).setCell ⟨g, 4, none⟩ v4).setCell ⟨g, 5, none⟩ v5).heap[g]? = some (.cells #[v0, v1, v2, v3, v4, v5] t (0, 0)) := by
  have e0 : (W.setCell ⟨g, 0, none⟩ v0).heap[g]? = some (.cells #[v0, a1, a2, a3, a4, a5] t (0, 0)) := heap_setCell_same W g 0 _ _ _ h
  have e1 : ((W.setCell ⟨g, 0, none⟩ v0).setCell ⟨g, 1, none⟩ v1).heap[g]? = some (.cells #[v0, v1, a2, a3, a4, a5] t (0, 0)) := heap_setCell_same _ g 1 _ _ _ e0
  have e2 : (((W.setCell ⟨g, 0, none⟩ v0).setCell ⟨g, 1, none⟩ v1).setCell ⟨g, 2, none⟩ v2).heap[g]? = some (.cells #[v0, v1, v2, a3, a4, a5] t (0, 0)) := heap_setCell_same _ g 2 _ _ _ e1
  have e3 : ((((W.setCell ⟨g, 0, none⟩ v0).setCell ⟨g, 1, none⟩ v1).setCell ⟨g, 2, none⟩ v2).setCell ⟨g, 3, none⟩ v3).heap[g]? = some (.cells #[v0, v1, v2, v3, a4, a5] t (0, 0)) := heap_setCell_same _ g 3 _ _ _ e2
  have e4 : (((((W.setCell ⟨g, 0, none⟩ v0).setCell ⟨g, 1, none⟩ v1).setCell ⟨g, 2, none⟩ v2).setCell ⟨g, 3, none⟩ v3).setCell ⟨g, 4, none⟩ v4).heap[g]? = some (.cells #[v0, v1, v2, v3, v4, a5] t (0, 0)) := heap_setCell_same _ g 4 _ _ _ e3
  exact heap_setCell_same _ g 5 _ _ _ e4
theorem below6 {X : Nat} {a W : World} {g : Nat} (h : Below X a W) (hg : X ≤ g) (v0 v1 v2 v3 v4 v5 : Value) : Below X a ((((((W.setCell ⟨g, 0, none⟩ v0).setCell ⟨g, 1, none⟩ v1).setCell ⟨g, 2, none⟩ v2).setCell ⟨g, 3, none⟩ v3).setCell ⟨g, 4, none⟩ v4).setCell ⟨g, 5, none⟩ v5) :=
  (((((h.setCell (p := ⟨g, 0, none⟩) hg v0).setCell (p := ⟨g, 1, none⟩) hg v1).setCell (p := ⟨g, 2, none⟩) hg v2).setCell (p := ⟨g, 3, none⟩) hg v3).setCell (p := ⟨g, 4, none⟩) hg v4).setCell (p := ⟨g, 5, none⟩) hg v5
theorem kept6 {W : World} {g x : Nat} (hne : x ≠ g) (v0 v1 v2 v3 v4 v5 : Value) : ((((((W.setCell ⟨g, 0, none⟩ v0).setCell ⟨g, 1, none⟩ v1).setCell ⟨g, 2, none⟩ v2).setCell ⟨g, 3, none⟩ v3).setCell ⟨g, 4, none⟩ v4).setCell ⟨g, 5, none⟩ v5).heap[x]? = W.heap[x]? := by
  have k : ∀ (U : World) (i : Nat) (v : Value), (U.setCell ⟨g, i, none⟩ v).heap[x]? = U.heap[x]? := fun U i v => Below.heap_setCell U ⟨g, i, none⟩ v x hne
  rw [k, k, k, k, k, k]
theorem Tb.blk {w w' : World} {g n : Nat} {K L : Nat → Int} (s : Tb w (some ⟨g, 0, none⟩) n K L) (hk : w'.heap[g]? = w.heap[g]?) : Tb w' (some ⟨g, 0, none⟩) n K L := ⟨fun i hi => by
  obtain ⟨b, o, e, h1, h2⟩ := s.cell i hi
  cases e
  exact ⟨g, 0, rfl, by rw [World.cell?_of_block (a := ⟨g, 0 + i * 2, none⟩) hk]; exact h1, by rw [World.cell?_of_block (a := ⟨g, 0 + i * 2 + 1, none⟩) hk]; exact h2⟩⟩
/-- a header, lent. -/
def LentSays (w : World) (h : Hr) (e : Ending) (w' : World) : Prop := ∃ x, w.heap.size ≤ x ∧ e = .returned (hV h (some ⟨x, 0, none⟩) (h.m + 12)) ∧ Tb w' (some ⟨x, 0, none⟩) (h.m + 12) (tK h.K h.m) (tL h.L h.m) ∧ Below w.heap.size w w'
set_option maxHeartbeats 4000000 in
set_option maxRecDepth 100000 in
theorem lentHead_any (h : Hr) (a : Option Addr) (c : Nat) (hnil : a = none → h.m = 0 ∧ c = 0) (hl : h.m ≤ 1000000) (w : World) (hT : Tb w a h.m h.K h.L) :
    Calls Tryz.prog 11 #[hV h a c] w (LentSays w h) := by
  obtain ⟨w0, hw0⟩ : ∃ w0, w0 = w.alloc (.cells #[.int .i64 h.S, .int .i64 h.F, .int .i64 h.I, .int .i64 h.N, .int .i64 h.D, .slice a h.m c] 27) := ⟨_, rfl⟩
  obtain ⟨w1, hw1⟩ : ∃ w1, w1 = w0.alloc (.cells #[.int .i64 0, .int .i64 0, .int .i64 0, .int .i64 0, .int .i64 0, .slice none 0 0] 27) := ⟨_, rfl⟩
  have hx0 : HAt w0 w.heap.size h a c := by rw [hw0]; exact heap_alloc_new _ _
  have hb0 : Below w.heap.size w w0 := by rw [hw0]; exact (Below.refl _ w).alloc (Nat.le_refl _) _
  have hz0 : w0.heap.size = w.heap.size + 1 := by rw [hw0, World.size_alloc]
  have hb1 : Below w0.heap.size w0 w1 := by rw [hw1]; exact (Below.refl _ w0).alloc (Nat.le_refl _) _
  have hr1 : w1.heap[w.heap.size + 1]? = some (.cells #[.int .i64 0, .int .i64 0, .int .i64 0, .int .i64 0, .int .i64 0, .slice none 0 0] 27 (0, 0)) := by rw [hw1, ← hz0]; exact heap_alloc_new _ _
  have HX := Lib.hid (hx0.same hb1); have HR := Lib.hid hr1
  have HB := Lib.hid (hb0.trans (hb1.mono hb0.size))
  have HZ := Lib.hid (show w1.heap.size = w.heap.size + 1 + 1 by rw [hw1, World.size_alloc, hz0])
  have HW := Lib.hid (show w1 = (w.alloc (.cells #[.int .i64 h.S, .int .i64 h.F, .int .i64 h.I, .int .i64 h.N, .int .i64 h.D, .slice a h.m c] 27)).alloc (.cells #[.int .i64 0, .int .i64 0, .int .i64 0, .int .i64 0, .int .i64 0, .slice none 0 0] 27) by rw [hw1, hw0])
  have HLT := Lib.hid (lentTable_any a h.m c h.K h.L w1 (hT.same HB.out) hnil hl)
  obtain ⟨c0, c1, c2, c3, c4, c5⟩ := HX.out.c
  rw [HW.out] at c0 c1 c2 c3 c4 c5
  clear hT hw0 hw1 hx0 hb0 hz0 hb1 hr1
  unfold hV
  go_enter Tryz.func11, Tryz.ntmps11
  go_wp2_with fail
  rw [← HW.out]
  refine HLT.out.mono ?_
  rintro e w2 ⟨rfl, hT2, hB2⟩
  have HT2 := Lib.hid hT2
  have HX2 := Lib.hid (HX.out.same hB2)
  have HR2 := Lib.hid ((hB2.block _ (Array.getElem?_eq_some_iff.1 HR.out).1).trans HR.out)
  have HB2 := Lib.hid (HB.out.trans (hB2.mono HB.out.size))
  clear hT2 hB2 c0 c1 c2 c3 c4 c5 HW HLT
  obtain ⟨c0, c1, c2, c3, c4, c5⟩ := HX2.out.c
  have f5 := HX2.out.free 5
  -- the rows' field; the answer's cell
  obtain ⟨w3, hw3⟩ : ∃ w3, w3 = w2.setCell ⟨w.heap.size, 5, none⟩ (.slice (some ⟨w1.heap.size, 0, none⟩) h.m (h.m + 12)) := ⟨_, rfl⟩
  have HX3 := Lib.hid (show HAt w3 w.heap.size h (some ⟨w1.heap.size, 0, none⟩) (h.m + 12) by rw [hw3]; exact heap_setCell_same w2 w.heap.size 5 _ _ _ HX2.out)
  have ho3 : ∀ j, j ≠ w.heap.size → w3.heap[j]? = w2.heap[j]? := fun j hj => by rw [hw3]; exact Below.heap_setCell w2 ⟨w.heap.size, 5, none⟩ _ j hj
  have HR3 := Lib.hid ((ho3 (w.heap.size + 1) (by omega)).trans HR2.out)
  have HT3 := Lib.hid (Tb.blk HT2.out (ho3 w1.heap.size (by have := HZ.out; omega)))
  have HB3 := Lib.hid (show Below w.heap.size w w3 by rw [hw3]; exact HB2.out.setCell (p := ⟨w.heap.size, 5, none⟩) (by simp) _)
  clear ho3
  go_upto_region 2 with fail
  rw [← hw3]
  clear hw3 c0 c1 c2 c3 c4 c5 f5
  obtain ⟨c0, c1, c2, c3, c4, c5⟩ := HX3.out.c
  have y0 : w3.cell? ⟨w.heap.size + 1, 0, none⟩ = some (.int .i64 0) := by rw [cell_of_row w3 _ 0 _ _ _ HR3.out]; rfl
  have y1 : w3.cell? ⟨w.heap.size + 1, 1, none⟩ = some (.int .i64 0) := by rw [cell_of_row w3 _ 1 _ _ _ HR3.out]; rfl
  have y2 : w3.cell? ⟨w.heap.size + 1, 2, none⟩ = some (.int .i64 0) := by rw [cell_of_row w3 _ 2 _ _ _ HR3.out]; rfl
  have y3 : w3.cell? ⟨w.heap.size + 1, 3, none⟩ = some (.int .i64 0) := by rw [cell_of_row w3 _ 3 _ _ _ HR3.out]; rfl
  have y4 : w3.cell? ⟨w.heap.size + 1, 4, none⟩ = some (.int .i64 0) := by rw [cell_of_row w3 _ 4 _ _ _ HR3.out]; rfl
  have y5 : w3.cell? ⟨w.heap.size + 1, 5, none⟩ = some (.slice none 0 0) := by rw [cell_of_row w3 _ 5 _ _ _ HR3.out]; rfl
  have z : ∀ i, w3.frozen? ⟨w.heap.size + 1, i, none⟩ = false := fun i => frozen_of_row w3 _ i _ _ HR3.out
  have z0 := z 0; have z1 := z 1; have z2 := z 2; have z3 := z 3; have z4 := z 4; have z5 := z 5
  have HF := Lib.hid (put6 HR3.out (.int .i64 h.S) (.int .i64 h.F) (.int .i64 h.I) (.int .i64 h.N) (.int .i64 h.D) (.slice (some ⟨w1.heap.size, 0, none⟩) h.m (h.m + 12)))
  have HTF := Lib.hid (Tb.blk HT3.out (kept6 (W := w3) (g := w.heap.size + 1) (x := w1.heap.size) (by have := HZ.out; omega) (.int .i64 h.S) (.int .i64 h.F) (.int .i64 h.I) (.int .i64 h.N) (.int .i64 h.D) (.slice (some ⟨w1.heap.size, 0, none⟩) h.m (h.m + 12))))
  have HBF := Lib.hid (below6 HB3.out (g := w.heap.size + 1) (by omega) (.int .i64 h.S) (.int .i64 h.F) (.int .i64 h.I) (.int .i64 h.N) (.int .i64 h.D) (.slice (some ⟨w1.heap.size, 0, none⟩) h.m (h.m + 12)))
  have HZ1 := Lib.hid (show w.heap.size ≤ w1.heap.size by have := HZ.out; omega)
  clear z
  go_wp2_with fail
  exact bodyPost_ret (results_cell_row rfl _ _ (w.heap.size + 1) _ _ (0, 0) _ rfl HF.out Tryz.underlying27 rfl (by kernel_rfl)) rfl ⟨_, HZ1.out, rfl, HTF.out, HBF.out⟩
end Go.Proofs.YtjlmajopfeplpaaGreat.He

namespace Go.Proofs.YtjlmajopfeplpaaGreat.He
open Go.RowKit Go.Shelf

/-- bytes, as cells. -/
def bl (f : Nat → Nat) (n : Nat) : List Value := (List.range n).map fun i => Value.int .u8 (f i : Nat)
theorem bl_len (f : Nat → Nat) (n : Nat) : (bl f n).length = n := by simp [bl]
theorem bl_app {f g : Nat → Nat} {n m : Nat} (h : ∀ j, j < m → g j = f (n + j)) : bl f n ++ bl g m = bl f (n + m) := by
  unfold bl
  apply List.ext_getElem?
  intro i
  by_cases hi : i < n
  · rw [List.getElem?_append_left (by simp; omega)]
    simp [hi, show i < n + m by omega]
  · rw [List.getElem?_append_right (by simp; omega)]
    by_cases hj : i < n + m
    · have e := h (i - n) (by omega)
      rw [show n + (i - n) = i by omega] at e
      simp [hj, show i - n < m by omega, e]
    · rw [List.getElem?_eq_none (by simp; omega), List.getElem?_eq_none (by simp; omega)]
theorem bl_one (x : Nat) : bl (fun _ => x) 1 = [.int .u8 (x : Nat)] := rfl
theorem bl_congr {f g : Nat → Nat} {n : Nat} (h : ∀ i, i < n → f i = g i) : bl f n = bl g n := by
  unfold bl
  apply List.map_congr_left
  intro i hi
  rw [h i (List.mem_range.1 hi)]
theorem bl_ones (f : Nat → Nat) (n : Nat) : ∀ u ∈ bl f n, u.oneCell' = true := ones_map _ _
end Go.Proofs.YtjlmajopfeplpaaGreat.He

namespace Go.Proofs.YtjlmajopfeplpaaGreat.He
open Go.RowKit Go.Shelf
open Go.Proofs.YtjlmajopfeplpaaGreat.Ly (TabOk RowOk off Tb TabSays NumSays)
attribute [local go_sem] Oper.semAt_some

theorem own_sl {w : World} {B s n : Nat} {e : TypeId} {v : Value} {xs : List Value} (h : w.ownsRow B e s v n xs) : ∃ a c, v = .slice a n c := by
  rcases h.2 with ⟨rfl, rfl⟩ | ⟨g, cap, cur, rfl, _⟩
  · exact ⟨none, 0, rfl⟩
  · exact ⟨_, _, rfl⟩
theorem own_be {w w' : World} {B s n : Nat} {e : TypeId} {v : Value} {xs : List Value} (h : w.ownsRow B e s v n xs) (hB : Below w.heap.size w w') : w'.ownsRow B e s v n xs := by
  obtain ⟨h1, h2⟩ := h
  refine ⟨h1, ?_⟩
  rcases h2 with h2 | ⟨g, cap, cur, h3, h4, h5, h6⟩
  · exact Or.inl h2
  · exact Or.inr ⟨g, cap, cur, h3, h4, (hB.block g (Array.getElem?_eq_some_iff.1 h5).1).trans h5, h6⟩
theorem dg_at (n size k : Nat) (hk : k < size) : ((n : Int) / 2 ^ (8 * (size - 1 - k)) % 256) = ((dg n size k : Nat) : Int) := by
  unfold dg
  rw [if_pos hk]
  generalize size - 1 - k = e
  have h : (2 : Int) ^ (8 * e) = ((256 ^ e : Nat) : Int) := by
    rw [show (2 : Int) ^ (8 * e) = ((2 ^ (8 * e) : Nat) : Int) by simp, Nat.pow_mul]
  rw [h]
  rfl
theorem bl_s (f : Nat → Nat) (k : Nat) : bl f k ++ [.int .u8 (f k : Nat)] = bl f (k + 1) := by
  unfold bl; rw [List.range_succ, List.map_append]; rfl
set_option maxHeartbeats 2000000 in
set_option maxRecDepth 100000 in
theorem rnumber_any (n size : Nat) (hs : size ≤ 4) (hn : n < 4294967296) (w : World) :
    Calls Tryz.prog 44 #[.int .i64 (n : Nat), .int .i64 (size : Nat)] w (Gives w size (dg n size)) := by
  obtain ⟨i0, hi, hz0, hz1, hz2⟩ := info_parts Tryz.infoU8
  have HI := Lib.hid hi; have HZ0 := Lib.hid hz0; have HZ1 := Lib.hid hz1; have HZ2 := Lib.hid hz2
  clear hi hz0 hz1 hz2
  go_enter Tryz.func44, Tryz.ntmps44
  go_wp2_with fail
  go_loopw [5, 6] (fun v i wr => ∃ (k : Nat) (a : Option Addr) (c : Nat) (W : World), W = wr ∧ k ≤ size ∧ i = .int .i64 ((size : Int) - k - 1) ∧ v = .slice a k c ∧ wr.ownsRow w.heap.size 5 1 (.slice a k c) k (bl (dg n size) k) ∧ Below w.heap.size w wr) (fun _ i _ => ((intOf i) + 1).toNat)
  case atStart => exact ⟨0, none, 0, _, rfl, by omega, by go_num, rfl, World.ownsRow_nil _ _ _ _, Below.refl _ _⟩
  case round =>
    obtain ⟨k, a, c, wx, rfl, hk, rfl, rfl, hO, hB⟩ := hrel
    have HO := Lib.hid hO; have HBx := Lib.hid hB
    have hsx := hB.size
    clear hO hB
    by_cases hks : k < size
    · obtain ⟨e, he⟩ : ∃ e, e = size - 1 - k := ⟨_, rfl⟩
      rw [show (size : Int) - k - 1 = (e : Int) by omega]
      have i1 : (0 : Int) ≤ (e : Int) := by omega
      obtain ⟨s8, hs8⟩ : ∃ s8, s8 = 8 * e := ⟨_, rfl⟩
      have i2 : 8 * (e : Int) = (s8 : Int) := by omega
      have i3 : s8 ≤ 24 := by omega
      have hd := dg_at n size k hks
      rw [← he, ← hs8] at hd
      have HD := Lib.hid (bl_s (dg n size) k)
      have he3 : e ≤ 3 := by omega
      have HE := Lib.hid he
      clear he hs8
      generalize dg n size k = d at *
      have hal := (Below.refl wx.heap.size wx).alloc (Nat.le_refl _) (.cells #[.int .u8 (d : Nat)] 5)
      have HOX := Lib.hid (own_be HO.out hal)
      have HBX := Lib.hid (HBx.out.trans (hal.mono hsx))
      have hbase : w.heap.size ≤ (wx.alloc (.cells #[.int .u8 (d : Nat)] 5)).heap.size := HBX.out.size
      clear hal
      go_wp2_with (at_builtin; refine wpList_append_own _ rfl (.tmp 13) (.tmp 19) 28 rfl w.heap.size 5 i0 (.int .u8 0) 1 1 Tryz.underlying28 HI.out HZ0.out HZ1.out HZ2.out rfl (by decide) (.slice a k c) k _ rfl HOX.out ⟨wx.heap.size, 0, none⟩ 1 1 [.int .u8 (d : Nat)] rfl rfl (cell_single _ _ _) (one_single _ _) (by unfold maxLen; omega) (by omega) hbase ?_; intro v9 w9 hown9 hgrow9 _; have HB9 := Lib.hid (HBX.out.grown hgrow9 hbase (fun j h => (HOX.out.lt j h).1)); obtain ⟨a9, c9, rfl⟩ := own_sl hown9; have HO9 := Lib.hid hown9; clear hown9 hgrow9)
      go_roundw
      case rel => exact ⟨k + 1, a9, c9, _, rfl, by omega, by rw [show (size : Int) - ((k + 1 : Nat) : Int) - 1 = (e : Int) - 1 by have := HE.out; omega], rfl, by rw [← HD.out]; exact HO9.out, HB9.out⟩
      case measure => simp [intOf]
    · obtain rfl : k = size := by omega
      rw [show (k : Int) - k - 1 = -1 by omega]
      go_wp2
      go_ret
      obtain ⟨a2, c2, e, hN⟩ := owns_new HO.out (dg_by n k) (dg_up n k)
      cases e
      exact ⟨_, _, rfl, hN, HBx.out⟩
end Go.Proofs.YtjlmajopfeplpaaGreat.He

namespace Go.Proofs.YtjlmajopfeplpaaGreat.He
open Go.RowKit Go.Shelf
open Go.Proofs.YtjlmajopfeplpaaGreat.Ly (TabOk RowOk off Tb TabSays NumSays)
attribute [local go_sem] Oper.semAt_some

/-- bytes are appended to a row of one's own. -/
theorem wpList_app {w : World} {ops : Array Oper} {rest : List Oper} {o : Oper} {act : Act} {Q : Exit → Act → World → Prop} (hgd : o.guard = none) (s x : Operand)
    (ho : o.op = .call { callee := .builtin .append, args := #[s, x], argTypes := #[28, 28] })
    (B n m c : Nat) (F g : Nat → Nat) (v : Value) (hs : act.eval s = v) (hown : w.ownsRow B 5 1 v n (bl F n)) (a : Option Addr) (hx : act.eval x = .slice a m c) (hS : Sl w a m c g) (hF : ∀ j, j < m → g j = F (n + j)) (hm : n + m ≤ 100000000) (hbase : B ≤ w.heap.size)
    (h : ∀ a' c' w', w'.ownsRow B 5 1 (.slice a' (n + m) c') (n + m) (bl F (n + m)) → w.grownBy w' v.ownBlock → wpList Tryz.prog ops Q rest (act.put o.dst (.slice a' (n + m) c')) w') : wpList Tryz.prog ops Q (o :: rest) act w := by
  obtain ⟨i0, hi, hz0, hz1, hz2⟩ := info_parts Tryz.infoU8
  cases a with
  | none =>
    obtain ⟨rfl, rfl⟩ := hS.nil rfl
    refine wpList_append_own_none hgd s x 28 ho B 5 i0 1 Tryz.underlying28 hi v n _ hs hown hx ?_
    obtain ⟨a', c', rfl⟩ := own_sl hown
    exact h a' c' w hown ⟨rfl, rfl, rfl, Nat.le_refl _, fun _ _ _ => rfl⟩
  | some ad =>
    refine wpList_append_own _ hgd s x 28 ho B 5 i0 (.int .u8 0) 1 1 Tryz.underlying28 hi hz0 hz1 hz2 rfl (by decide) v n _ hs hown ad m c (bl g m) hx (by rw [bl_len, Nat.mul_one]) (hS.reads _ rfl) (bl_ones g m) (by unfold maxLen; omega) (by omega) hbase ?_
    intro v' w' hown' hg' _
    rw [bl_app hF] at hown'
    obtain ⟨a', c', rfl⟩ := own_sl hown'
    exact h a' c' w' hown' hg'
theorem pl_up (h : Hr) {body : Nat → Nat} {n : Nat} (hu : Pf.Up body n) : Pf.Up (pl h body) (14 + 3 * h.m + n) := fun i hi => by
  unfold pl
  rw [if_neg (by omega), if_neg (by omega), if_neg (by omega), if_neg (by omega), if_neg (by omega), if_neg (by omega), if_neg (by omega), if_neg (by omega)]
  exact hu _ (by omega)
theorem pl_S (h : Hr) (body : Nat → Nat) : ∀ j, j < 2 → dg h.S.toNat 2 j = pl h body (1 + j) := fun j hj => by
  unfold pl; rw [if_neg (by omega), if_pos (by omega), show 1 + j - 1 = j by omega]
theorem pl_F (h : Hr) (body : Nat → Nat) : ∀ j, j < 4 → dg h.F.toNat 4 j = pl h body (3 + j) := fun j hj => by
  unfold pl; rw [if_neg (by omega), if_neg (by omega), if_pos (by omega), show 3 + j - 3 = j by omega]
theorem pl_D (h : Hr) (body : Nat → Nat) : ∀ j, j < 4 → dg h.D.toNat 4 j = pl h body (10 + j) := fun j hj => by
  unfold pl; rw [if_neg (by omega), if_neg (by omega), if_neg (by omega), if_neg (by omega), if_neg (by omega), if_neg (by omega), if_pos (by omega), show 10 + j - 10 = j by omega]
theorem pl_K (h : Hr) (body : Nat → Nat) {k : Nat} (hk : k < h.m) : pl h body (14 + 3 * k) = (h.K k).toNat % 256 := by
  unfold pl
  rw [if_neg (by omega), if_neg (by omega), if_neg (by omega), if_neg (by omega), if_neg (by omega), if_neg (by omega), if_neg (by omega), if_pos (by omega), if_pos (by omega), show (14 + 3 * k - 14) / 3 = k by omega]
theorem pl_L (h : Hr) (body : Nat → Nat) {k : Nat} (hk : k < h.m) : ∀ j, j < 2 → dg (h.L k).toNat 2 j = pl h body (14 + 3 * k + 1 + j) := fun j hj => by
  unfold pl
  rw [if_neg (by omega), if_neg (by omega), if_neg (by omega), if_neg (by omega), if_neg (by omega), if_neg (by omega), if_neg (by omega), if_pos (by omega), if_neg (by omega), show (14 + 3 * k + 1 + j - 14) / 3 = k by omega, show (14 + 3 * k + 1 + j - 14) % 3 - 1 = j by omega]
/-- a row of bytes that lie in a block, as it reads. -/
theorem sl_lit (w : World) (xs : List Nat) (hx : ∀ x ∈ xs, x < 256) (hl : xs.length ≤ 1000) : Sl (w.alloc (.cells (xs.map fun x => Value.int .u8 (x : Nat)).toArray 5)) (some ⟨w.heap.size, 0, none⟩) xs.length xs.length (fun i => xs.getD i 0) := by
  refine ⟨Nat.le_refl _, by unfold maxLen; omega, fun i => ?_, fun i hi => ?_, fun e => (by cases e), fun ad e _ => (by cases e; rfl), fun ad e i hi => ?_⟩
  · by_cases hi : i < xs.length
    · rw [List.getD_eq_getElem?_getD, List.getElem?_eq_getElem hi]
      exact hx _ (List.getElem_mem hi)
    · rw [List.getD_eq_getElem?_getD, List.getElem?_eq_none (by omega)]; show 0 < 256; omega
  · rw [List.getD_eq_getElem?_getD, List.getElem?_eq_none (by omega)]; rfl
  · cases e
    show World.cell? _ ⟨_, 0 + i, none⟩ = _
    rw [Nat.zero_add, cell_of_row _ _ i _ _ _ (heap_alloc_new w _), List.getElem?_toArray, List.getElem?_map, List.getD_eq_getElem?_getD, List.getElem?_eq_getElem hi]
    rfl
end Go.Proofs.YtjlmajopfeplpaaGreat.He

namespace Go.Proofs.YtjlmajopfeplpaaGreat.He
open Go.RowKit Go.Shelf
open Go.Proofs.YtjlmajopfeplpaaGreat.Ly (TabOk RowOk off Tb TabSays NumSays)
attribute [local go_sem] Oper.semAt_some

theorem own_ne2 {w : World} {B s n g : Nat} {e t : TypeId} {v : Value} {xs : List Value} {cs : Array Value} (ho : w.ownsRow B e s v n xs) (hg : w.heap[g]? = some (.cells cs t (0, 0))) (hne : e ≠ t) : some g ≠ v.ownBlock := fun h => by
  rcases ho.2 with ⟨rfl, _⟩ | ⟨g', cap, cur, rfl, hb, hh, _⟩
  · simp [Value.ownBlock] at h
  · simp [Value.ownBlock] at h
    rw [← h, hg] at hh
    injection hh with hh
    injection hh with _ h2
    exact hne h2.symm
/-- as a datagram is put together. -/
structure PS (w W : World) (h : Hr) (a : Option Addr) (c : Nat) (P : Nat → Nat) (v : Value) (n : Nat) : Prop where
  ow : W.ownsRow w.heap.size 5 1 v n (bl P n)
  hx : HAt W w.heap.size h a c
  be : Below w.heap.size w W
theorem PS.same {w W W' : World} {h : Hr} {a : Option Addr} {c : Nat} {P : Nat → Nat} {v : Value} {n : Nat} (s : PS w W h a c P v n) (hB : Below W.heap.size W W') : PS w W' h a c P v n := ⟨own_be s.ow hB, s.hx.same hB, s.be.trans (hB.mono s.be.size)⟩
theorem PS.app {w W W' : World} {h : Hr} {a : Option Addr} {c : Nat} {P : Nat → Nat} {v v' : Value} {n n' : Nat} (s : PS w W h a c P v n) (ho : W'.ownsRow w.heap.size 5 1 v' n' (bl P n')) (hg : W.grownBy W' v.ownBlock) : PS w W' h a c P v' n' :=
  ⟨ho, (hg.block _ s.hx.lt (own_ne2 s.ow s.hx (by decide))).trans s.hx, s.be.grown hg s.be.size (fun k e => (s.ow.lt k e).1)⟩
set_option maxHeartbeats 8000000 in
set_option maxRecDepth 100000 in
theorem rplain_any (h : Hr) (hr : RH h) (a ba : Option Addr) (c n bc : Nat) (f : Nat → Nat) (hn : n ≤ 1000000) (w : World) (hT : Tb w a h.m h.K h.L) (hb : Sl w ba n bc f) :
    Calls Tryz.prog 24 #[hV h a c, .slice ba n bc] w (Gives w (14 + 3 * h.m + n) (pl h f)) := by
  obtain ⟨P, hP⟩ : ∃ P, P = pl h f := ⟨_, rfl⟩
  rw [← hP]
  have HPB := Lib.hid (show Pf.By P by rw [hP]; exact pl_by h hb.bytes)
  have HPU := Lib.hid (show Pf.Up P (14 + 3 * h.m + n) by rw [hP]; exact pl_up h hb.up)
  have HPF := Lib.hid (show ∀ j, f j = P (14 + 3 * h.m + j) from fun j => by rw [hP, pl_body])
  obtain ⟨r1, r2, r3, r4, r5⟩ := hr
  have hN := r5.2.1
  have hm8 := r5.2.2.2.1
  obtain ⟨s, hs⟩ : ∃ s : Nat, h.S = (s : Int) := ⟨h.S.toNat, by omega⟩
  obtain ⟨F, hF⟩ : ∃ F : Nat, h.F = (F : Int) := ⟨h.F.toNat, by omega⟩
  obtain ⟨I, hI⟩ : ∃ I : Nat, h.I = (I : Int) := ⟨h.I.toNat, by omega⟩
  obtain ⟨N, hN0⟩ : ∃ N : Nat, h.N = (N : Int) := ⟨h.N.toNat, by omega⟩
  obtain ⟨D, hD⟩ : ∃ D : Nat, h.D = (D : Int) := ⟨h.D.toNat, by omega⟩
  have bs : s ≤ 65535 := by omega
  have bF : F ≤ 2147483647 := by omega
  have bI : I ≤ 255 := by omega
  have bN : N ≤ 255 := by omega
  have bD : D ≤ 2147483647 := by omega
  have HFS := Lib.hid (show ∀ j, j < 2 → dg s 2 j = P (1 + j) from fun j hj => by rw [hP, ← pl_S h f j hj, hs, Int.toNat_natCast])
  have HFF := Lib.hid (show ∀ j, j < 4 → dg F 4 j = P (3 + j) from fun j hj => by rw [hP, ← pl_F h f j hj, hF, Int.toNat_natCast])
  have HFD := Lib.hid (show ∀ j, j < 4 → dg D 4 j = P (10 + j) from fun j hj => by rw [hP, ← pl_D h f j hj, hD, Int.toNat_natCast])
  have HF3 := Lib.hid (show ∀ j, j < 3 → ([I, N, h.m] : List Nat).getD j 0 = P (7 + j) from fun j hj => by
    rcases (show j = 0 ∨ j = 1 ∨ j = 2 by omega) with rfl | rfl | rfl
    · rw [hP]; show I = h.I.toNat % 256; rw [hI]; omega
    · rw [hP]; show N = h.N.toNat % 256; rw [hN0]; omega
    · rw [hP]; show h.m = h.m % 256; omega)
  have HFK := Lib.hid (show ∀ k, k < h.m → ∃ x : Nat, h.K k = (x : Int) ∧ x ≤ 255 ∧ x = P (14 + 3 * k) from fun k hk => by
    have hrow := r5.2.2.2.2 k hk
    unfold RowOk at hrow
    exact ⟨(h.K k).toNat, by omega, by omega, by rw [hP, pl_K h f hk]; omega⟩)
  have HFL := Lib.hid (show ∀ k, k < h.m → ∃ y : Nat, h.L k = (y : Int) ∧ y ≤ 65535 ∧ ∀ j, j < 2 → dg y 2 j = P (14 + 3 * k + 1 + j) from fun k hk => by
    have hrow := r5.2.2.2.2 k hk
    unfold RowOk at hrow
    exact ⟨(h.L k).toNat, by omega, by omega, fun j hj => by rw [hP, ← pl_L h f hk j hj]⟩)
  have h0 : P 0 = 1 := by rw [hP]; rfl
  have HT := Lib.hid hT; have HBO := Lib.hid hb
  -- the box; the first byte
  obtain ⟨w0, hw0⟩ : ∃ w0, w0 = w.alloc (.cells #[.int .i64 h.S, .int .i64 h.F, .int .i64 h.I, .int .i64 h.N, .int .i64 h.D, .slice a h.m c] 27) := ⟨_, rfl⟩
  have hx0 : HAt w0 w.heap.size h a c := by rw [hw0]; exact heap_alloc_new _ _
  have hb0 : Below w.heap.size w w0 := by rw [hw0]; exact (Below.refl _ w).alloc (Nat.le_refl _) _
  have hz0 : w0.heap.size = w.heap.size + 1 := by rw [hw0, World.size_alloc]
  obtain ⟨w1, hw1⟩ : ∃ w1, w1 = w0.alloc (.cells #[.int .u8 1] 5) := ⟨_, rfl⟩
  have hb1 : Below w0.heap.size w0 w1 := by rw [hw1]; exact (Below.refl _ w0).alloc (Nat.le_refl _) _
  have HP1 := Lib.hid (show PS w w1 h a c P (.slice (some ⟨w.heap.size + 1, 0, none⟩) 1 1) 1 from ⟨by
    rw [hw1]
    refine ⟨rfl, Or.inr ⟨w.heap.size + 1, 1, _, rfl, by omega, by rw [← hz0]; exact heap_alloc_new w0 _, by omega, by unfold maxLen; omega, rfl, ?_⟩⟩
    show [Value.int .u8 1] = bl P 1
    unfold bl
    show [Value.int .u8 1] = [Value.int .u8 (P 0 : Nat)]
    rw [h0]; rfl, hx0.same hb1, hb0.trans (hb1.mono hb0.size)⟩)
  have HW1 := Lib.hid (show w1 = (w.alloc (.cells #[.int .i64 h.S, .int .i64 h.F, .int .i64 h.I, .int .i64 h.N, .int .i64 h.D, .slice a h.m c] 27)).alloc (.cells #[.int .u8 1] 5) by rw [hw1, hw0])
  have HSE := Lib.hid hs; have HFE := Lib.hid hF; have HIE := Lib.hid hI; have HNE := Lib.hid hN0; have HDE := Lib.hid hD
  have hmb : h.m ≤ 8 := hm8
  clear hP r1 r2 r3 r4 r5 hN hm8 hs hF hI hN0 hD hT hb hw0 hx0 hb0 hz0 hw1 hb1 h0
  unfold hV
  go_enter Tryz.func24, Tryz.ntmps24
  go_upto_region 2 with fail
  rw [← HW1.out]
  clear HW1
  obtain ⟨c0, c1, c2, c3, c4, c5⟩ := HP1.out.hx.c
  rw [HSE.out] at c0; rw [HFE.out] at c1; rw [HIE.out] at c2; rw [HNE.out] at c3; rw [HDE.out] at c4
  clear c1 c2 c3 c4 c5
  go_upto_region 3 with (first
    | (go_at_call 44; refine (rnumber_any s 2 (by omega) (by omega) _).mono ?_; rintro e u2 ⟨a2, d2, rfl, hN, hB⟩; have HQ2 := Lib.hid (HP1.out.same hB); have HS2 := Lib.hid hN.sl; have hz2 := HQ2.out.be.size; clear hN hB c0)
    | (at_builtin; refine wpList_app rfl (.tmp 8) (.tmp 11) rfl w.heap.size 1 2 d2 P _ _ rfl HQ2.out.ow a2 rfl HS2.out HFS.out (by omega) hz2 ?_; intro b2 e2 v2 hown hgr; have HP2 := Lib.hid (HQ2.out.app hown hgr); clear hown hgr HQ2 HS2 HP1))
  obtain ⟨c0, c1, c2, c3, c4, c5⟩ := HP2.out.hx.c
  rw [HSE.out] at c0; rw [HFE.out] at c1; rw [HIE.out] at c2; rw [HNE.out] at c3; rw [HDE.out] at c4
  clear c0 c2 c3 c4 c5
  go_upto_region 4 with (first
    | (go_at_call 44; refine (rnumber_any F 4 (by omega) (by omega) _).mono ?_; rintro e u3 ⟨a3, d3, rfl, hN, hB⟩; have HQ3 := Lib.hid (HP2.out.same hB); have HS3 := Lib.hid hN.sl; have hz3 := HQ3.out.be.size; clear hN hB c1)
    | (at_builtin; refine wpList_app rfl (.tmp 13) (.tmp 16) rfl w.heap.size 3 4 d3 P _ _ rfl HQ3.out.ow a3 rfl HS3.out HFF.out (by omega) hz3 ?_; intro b3 e3 v3 hown hgr; have HP3 := Lib.hid (HQ3.out.app hown hgr); clear hown hgr HQ3 HS3 HP2))
  obtain ⟨c0, c1, c2, c3, c4, c5⟩ := HP3.out.hx.c
  rw [HSE.out] at c0; rw [HFE.out] at c1; rw [HIE.out] at c2; rw [HNE.out] at c3; rw [HDE.out] at c4
  clear c0 c1 c4
  have hal := (Below.refl v3.heap.size v3).alloc (Nat.le_refl _) (.cells #[.int .u8 (I : Nat), .int .u8 (N : Nat), .int .u8 (h.m : Nat)] 5)
  have HQ4 := Lib.hid (HP3.out.same hal)
  have HS4 := Lib.hid (sl_lit v3 [I, N, h.m] (fun x hx => by simp at hx; omega) (by simp))
  have hz4 := HQ4.out.be.size
  clear hal
  go_upto_region 5 with (at_builtin; refine wpList_app rfl (.tmp 18) (.tmp 29) rfl w.heap.size 7 3 3 P _ _ rfl HQ4.out.ow (some ⟨v3.heap.size, 0, none⟩) rfl HS4.out HF3.out (by omega) hz4 ?_; intro b4 e4 v4 hown hgr; have HP4 := Lib.hid (HQ4.out.app hown hgr); clear hown hgr HQ4 HS4 HP3 c2 c3 c5)
  obtain ⟨c0, c1, c2, c3, c4, c5⟩ := HP4.out.hx.c
  rw [HSE.out] at c0; rw [HFE.out] at c1; rw [HIE.out] at c2; rw [HNE.out] at c3; rw [HDE.out] at c4
  clear c0 c1 c2 c3 c5
  go_upto_region 6 with (first
    | (go_at_call 44; refine (rnumber_any D 4 (by omega) (by omega) _).mono ?_; rintro e u5 ⟨a5, d5, rfl, hN, hB⟩; have HQ5 := Lib.hid (HP4.out.same hB); have HS5 := Lib.hid hN.sl; have hz5 := HQ5.out.be.size; clear hN hB c4)
    | (at_builtin; refine wpList_app rfl (.tmp 31) (.tmp 34) rfl w.heap.size 10 4 d5 P _ _ rfl HQ5.out.ow a5 rfl HS5.out HFD.out (by omega) hz5 ?_; intro b5 e5 v5 hown hgr; have HP5 := Lib.hid (HQ5.out.app hown hgr); clear hown hgr HQ5 HS5 HP4))
  go_wp2_with fail
  clear HFS HFF HFD HF3
  go_loopw [5, 6] (fun v i wr => ∃ (k : Nat) (a' : Option Addr) (c' : Nat) (W : World), W = wr ∧ k ≤ h.m ∧ i = .int .i64 k ∧ v = .slice a' (14 + 3 * k) c' ∧ PS w wr h a c P (.slice a' (14 + 3 * k) c') (14 + 3 * k)) (fun _ i _ => h.m - (intOf i).toNat)
  case atStart => exact ⟨0, b5, e5, _, rfl, by omega, rfl, rfl, HP5.out⟩
  case round =>
    obtain ⟨k, a', c', wx, rfl, hk, rfl, rfl, hP⟩ := hrel
    have HPx := Lib.hid hP
    clear hP
    obtain ⟨c0, c1, c2, c3, c4, c5⟩ := HPx.out.hx.c
    clear c0 c1 c2 c3 c4
    by_cases hkm : k < h.m
    · have i1 : (k : Int) < (h.m : Int) := by omega
      obtain ⟨rb, ro, ea, q1, q2⟩ := (HT.out.same HPx.out.be).cell k hkm
      obtain ⟨x, hx, bx, ex⟩ := HFK.out k hkm
      obtain ⟨y, hy, by_, ey⟩ := HFL.out k hkm
      rw [hx] at q1
      rw [hy] at q2
      have EX := Lib.hid ex; have EY := Lib.hid ey
      have hal := (Below.refl wx.heap.size wx).alloc (Nat.le_refl _) (.cells #[.int .u8 (x : Nat)] 5)
      have HQ9 := Lib.hid (HPx.out.same hal)
      have HS9 := Lib.hid (sl_lit wx [x] (fun z hz => by simp at hz; omega) (by simp))
      have hz9 := HQ9.out.be.size
      have HF9 := Lib.hid (show ∀ j, j < 1 → ([x] : List Nat).getD j 0 = P (14 + 3 * k + j) from fun j hj => by
        have hj0 : j = 0 := Nat.lt_one_iff.1 hj
        rw [hj0]; exact EX.out)
      clear hal hx hy ex ey
      subst ea
      go_upto_region 10 with (at_builtin; refine wpList_app rfl (.tmp 43) (.tmp 51) rfl w.heap.size (14 + 3 * k) 1 1 P _ _ rfl HQ9.out.ow (some ⟨wx.heap.size, 0, none⟩) rfl HS9.out HF9.out (by omega) hz9 ?_; intro b9 e9 v9 hown hgr; have HP9 := Lib.hid (HQ9.out.app hown hgr); clear hown hgr HQ9 HS9)
      obtain ⟨z0, z1, z2, z3, z4, z5⟩ := HP9.out.hx.c
      obtain ⟨rb', ro', ea', p1, p2⟩ := (HT.out.same HP9.out.be).cell k hkm
      cases ea'
      obtain ⟨y', hy', _, ey'⟩ := HFL.out k hkm
      have hyy : (y' : Int) = (y : Int) := by
        have h9 := (HT.out.same HPx.out.be).cell k hkm
        obtain ⟨b8, o8, e8, _, r8⟩ := h9
        cases e8
        rw [q2] at r8
        injection r8 with r8
        injection r8 with _ r8
        rw [← hy', r8]
      rw [hy', hyy] at p2
      clear z0 z1 z2 z3 z4 c5 q1 q2 p1 hyy hy' ey'
      go_wp2_with (first
        | (go_at_call 44; refine (rnumber_any y 2 (by omega) (by omega) _).mono ?_; rintro e u10 ⟨a10, d10, rfl, hN, hB⟩; have HQ10 := Lib.hid (HP9.out.same hB); have HS10 := Lib.hid hN.sl; have hz10 := HQ10.out.be.size; clear hN hB)
        | (at_builtin; refine wpList_app rfl (.tmp 53) (.tmp 60) rfl w.heap.size (14 + 3 * k + 1) 2 d10 P _ _ rfl HQ10.out.ow a10 rfl HS10.out EY.out (by omega) hz10 ?_; intro b10 e10 v10 hown hgr; have HP10 := Lib.hid (HQ10.out.app hown hgr); clear hown hgr HQ10 HS10))
      go_roundw
      case rel => exact ⟨k + 1, b10, e10, _, rfl, by omega, by go_num, by rw [show 14 + 3 * (k + 1) = 14 + 3 * k + 1 + 2 by omega], by rw [show 14 + 3 * (k + 1) = 14 + 3 * k + 1 + 2 by omega]; exact HP10.out⟩
      case measure => simp [intOf]; omega
    · obtain hkm2 : k = h.m := by omega
      have i1 : ¬ (k : Int) < (h.m : Int) := by omega
      have hzb := HPx.out.be.size
      have HBS := Lib.hid (HBO.out.same HPx.out.be)
      have HPF2 := Lib.hid (show ∀ j, j < n → f j = P (14 + 3 * k + j) from fun j _ => by rw [hkm2]; exact HPF.out j)
      go_wp2_with (at_builtin; refine wpList_app rfl (.tmp 62) (.tmp 63) rfl w.heap.size (14 + 3 * k) n bc P _ _ rfl HPx.out.ow ba rfl HBS.out HPF2.out (by omega) hzb ?_; intro b11 e11 v11 hown hgr; have HP11 := Lib.hid (HPx.out.app hown hgr); clear hown hgr)
      go_ret
      have hfin := HP11.out.ow
      rw [hkm2] at hfin
      obtain ⟨a2, c2, e, hN⟩ := owns_new hfin HPB.out HPU.out
      cases e
      exact ⟨_, _, rfl, hN, HP11.out.be⟩
end Go.Proofs.YtjlmajopfeplpaaGreat.He

namespace Go.Proofs.YtjlmajopfeplpaaGreat.He
open Go.RowKit Go.Shelf
open Go.Proofs.YtjlmajopfeplpaaGreat.Ly (TabOk RowOk off off_le Tb TabSays NumSays)
open Go.Proofs.YtjlmajopfeplpaaGreat.Wg (BoSays)
attribute [local go_sem] Oper.semAt_some

/-- what Put tells of a header and so many bytes. -/
def PutSays (w : World) (h : Hr) (n : Nat) (f : Nat → Nat) (e : Ending) (w' : World) : Prop :=
  (RH h ∧ n = off h.K h.L h.m ∧ ∃ a c, e = .returned (.tuple #[.slice a (14 + 3 * h.m + n + 4) c, .int .i64 0]) ∧ Nw w' w.heap.size a (14 + 3 * h.m + n + 4) c (Crc.sealed (pl h f) (14 + 3 * h.m + n))) ∨
  (¬ (RH h ∧ n = off h.K h.L h.m) ∧ e = .returned (.tuple #[.slice none 0 0, .int .i64 2]))
set_option maxHeartbeats 4000000 in
set_option maxRecDepth 100000 in
theorem rput_any (h : Hr) (a ba : Option Addr) (c n bc : Nat) (f : Nat → Nat) (hn : n ≤ 1000000) (hm : h.m ≤ 140737488355328) (w : World) (hT : Tb w a h.m h.K h.L) (hb : Sl w ba n bc f) :
    Calls Tryz.prog 6 #[hV h a c, .slice ba n bc] w fun e w' => PutSays w h n f e w' ∧ Below w.heap.size w w' := by
  obtain ⟨w0, hw0⟩ : ∃ w0, w0 = w.alloc (.cells #[.int .i64 h.S, .int .i64 h.F, .int .i64 h.I, .int .i64 h.N, .int .i64 h.D, .slice a h.m c] 27) := ⟨_, rfl⟩
  have HX0 := Lib.hid (show HAt w0 w.heap.size h a c by rw [hw0]; exact heap_alloc_new _ _)
  have HB0 := Lib.hid (show Below w.heap.size w w0 by rw [hw0]; exact (Below.refl _ w).alloc (Nat.le_refl _) _)
  have HT := Lib.hid hT; have HS := Lib.hid hb; have HW0 := Lib.hid hw0
  have HLO := Lib.hid (fun W hT => Ly.rLong_any h.N a h.m c h.K h.L W hT)
  have HRI := Lib.hid (fun W hT => rhright_any h a c W hT)
  have HPL := Lib.hid (fun hr W hT hb => rplain_any h hr a ba c n bc f hn W hT hb)
  unfold hV at HRI HPL ⊢
  clear hT hb hw0
  go_enter Tryz.func6, Tryz.ntmps6
  obtain ⟨c0, c1, c2, c3, c4, c5⟩ := HX0.out.c
  rw [HW0.out] at c0 c1 c2 c3 c4 c5
  go_wp2_with fail
  rw [← HW0.out]
  clear c0 c1 c2 c3 c4 c5 HW0
  refine (HLO.out w0 (HT.out.same HB0.out)).mono ?_
  rintro e w1 ⟨hlo, hB1⟩
  have HX1 := Lib.hid (HX0.out.same hB1); have HB1 := Lib.hid (HB0.out.trans (hB1.mono HB0.out.size))
  clear hB1 HX0 HB0 HLO
  have hs1 := HB1.out.size
  obtain ⟨c0, c1, c2, c3, c4, c5⟩ := HX1.out.c
  rcases hlo with ⟨hno, rfl⟩ | ⟨hok, m, hm2, rfl⟩
  · have HN := Lib.hid (show ¬ (RH h ∧ n = off h.K h.L h.m) from fun q => hno q.1.2.2.2.2)
    have HNR := Lib.hid (show ¬ RH h from fun q => hno q.2.2.2.2)
    clear hno
    go_wp2_with fail
    refine (HRI.out w1 (HT.out.same HB1.out)).mono ?_
    rintro e w2 ⟨⟨v, rfl, hv⟩, hB2⟩
    have HB2 := Lib.hid (HB1.out.trans (hB2.mono hs1))
    have hvf : v = false := by
      cases v
      · rfl
      · exact absurd (hv.1 rfl) HNR.out
    subst hvf
    clear hv hB2 c0 c1 c2 c3 c4 c5
    go_wp2
    go_ret2
    exact ⟨Or.inr ⟨HN.out, rfl⟩, HB2.out⟩
  · have HM := Lib.hid hm2
    clear hok hm2
    go_wp2_with fail
    refine (HRI.out w1 (HT.out.same HB1.out)).mono ?_
    rintro e w2 ⟨⟨v, rfl, hv⟩, hB2⟩
    have HX2 := Lib.hid (HX1.out.same hB2)
    have HB2 := Lib.hid (HB1.out.trans (hB2.mono hs1))
    have HVV := Lib.hid hv
    have hs2 := HB2.out.size
    clear hv hB2 c0 c1 c2 c3 c4 c5
    cases v
    · have HN := Lib.hid (show ¬ (RH h ∧ n = off h.K h.L h.m) from fun q => absurd (HVV.out.2 q.1) (by simp))
      go_wp2
      go_ret2
      exact ⟨Or.inr ⟨HN.out, rfl⟩, HB2.out⟩
    have hR : RH h := by first | exact HVV.out.1 rfl | exact HVV.out.1 trivial
    have HR := Lib.hid hR
    clear hR HVV
    by_cases hnm : n = m
    rotate_left
    · have g1 : ((n : Int) != (m : Int)) = true := by simp; omega
      have HN := Lib.hid (show ¬ (RH h ∧ n = off h.K h.L h.m) from fun q => hnm (by rw [HM.out]; exact q.2))
      clear hnm
      go_wp2
      go_ret2
      exact ⟨Or.inr ⟨HN.out, rfl⟩, HB2.out⟩
    · have g1 : ((n : Int) != (m : Int)) = false := by simp [hnm]
      have HNM := Lib.hid (show n = off h.K h.L h.m by rw [hnm]; exact HM.out)
      clear hnm
      obtain ⟨c0, c1, c2, c3, c4, c5⟩ := HX2.out.c
      go_wp2_with fail
      refine (HPL.out HR.out w2 (HT.out.same HB2.out) (HS.out.same HB2.out)).mono ?_
      rintro e w3 ⟨pa, pc, rfl, hN, hB3⟩
      have HSL := Lib.hid hN.sl
      have HB3 := Lib.hid (HB2.out.trans (hB3.mono hs2))
      have hs3 := HB3.out.size
      have hm8 := HR.out.2.2.2.2.2.2.2.1
      clear hN hB3 c0 c1 c2 c3 c4 c5
      go_wp2_with fail
      refine (rseal_any pa (14 + 3 * h.m + n) pc (pl h f) (by omega) w3 HSL.out).mono ?_
      rintro e w4 ⟨qa, qc, rfl, hN, hB4⟩
      have HN4 := Lib.hid (hN.mono hs3)
      have HB4 := Lib.hid (HB3.out.trans (hB4.mono hs3))
      clear hN hB4
      go_wp2
      go_ret2
      exact ⟨Or.inl ⟨HR.out, HNM.out, _, _, rfl, HN4.out⟩, HB4.out⟩
end Go.Proofs.YtjlmajopfeplpaaGreat.He

namespace Go.Proofs.YtjlmajopfeplpaaGreat.He
open Go.RowKit Go.Shelf
open Go.Proofs.YtjlmajopfeplpaaGreat.Ly (TabOk RowOk off Tb tK tL lentTable_any keptTable_any)
open Go.Proofs.YtjlmajopfeplpaaGreat.Wg (BoSays BoSays.no BoSays.yes)
attribute [local go_sem] Oper.semAt_some

set_option maxHeartbeats 2000000 in
theorem rat_any (a : Option Addr) (n c : Nat) (f : Nat → Nat) (at_ size : Nat) (h1 : at_ + size ≤ n) (h2 : size ≤ 4) (hn : n ≤ 1000000000000) (w : World) (hS : Sl w a n c f) :
    Calls Tryz.prog 51 #[.slice a n c, .int .i64 (at_ : Nat), .int .i64 (size : Nat)] w fun e w' => e = .returned (.int .i64 (vn (fun j => f (at_ + j)) size : Nat)) ∧ w' = w := by
  have HS := Lib.hid hS
  obtain ⟨g, hg⟩ : ∃ g : Nat → Nat, g = fun j => f (at_ + j) := ⟨_, rfl⟩
  rw [← hg]
  have HG := Lib.hid hg
  have hby : Pf.By g := by rw [hg]; exact fun j => hS.bytes _
  have HV := Lib.hid (fun k (hk : k ≤ 4) => Nat.lt_of_lt_of_le (vn_lt hby k) (pow256 hk))
  have HBY := Lib.hid hby
  clear hS hg hby
  go_enter Tryz.func51, Tryz.ntmps51
  go_wp2_with fail
  go_loop [7, 8] (fun v i => ∃ k : Nat, k ≤ size ∧ i = .int .i64 (k : Nat) ∧ v = .int .i64 (vn g k : Nat)) (fun _ i => size - (intOf i).toNat)
  case atStart => exact ⟨0, by omega, rfl, rfl⟩
  case round =>
    obtain ⟨k, hk, rfl, rfl⟩ := hrel
    by_cases hks : k < size
    · have i1 : (k : Int) < (size : Int) := by omega
      obtain ⟨b, o, ea, hc⟩ := HS.out.at_ (k := at_ + k) (by omega)
      subst ea
      rw [show f (at_ + k) = g k by rw [HG.out]] at hc
      have hv := HV.out k (by omega)
      have hgk := HBY.out k
      have HNX := Lib.hid (show 256 * vn g k + g k = vn g (k + 1) from rfl)
      obtain ⟨p, hp⟩ : ∃ p, p = at_ + k := ⟨_, rfl⟩
      have i2 : (at_ : Int) + (k : Int) = (p : Int) := by omega
      have i3 : (p : Int) < (n : Int) := by omega
      rw [← hp] at hc
      generalize vn g k = x at *
      generalize g k = y at *
      clear hp
      go_wp2
      go_round
      case rel => exact ⟨k + 1, by omega, by go_num, by rw [← HNX.out]; go_num⟩
      case measure => simp [intOf]; omega
    · obtain rfl : k = size := by omega
      have i1 : ¬ (k : Int) < (k : Int) := by omega
      go_wp2
      go_ret
      exact ⟨rfl, rfl⟩
theorem Tb.orig {w : World} {a : Option Addr} {n : Nat} {K L : Nat → Int} (h : Tb w a (n + 12) (tK K n) (tL L n)) : Tb w a n K L := ⟨fun i hi => by
  obtain ⟨b, o, e, h1, h2⟩ := h.cell i (by omega)
  rw [show tK K n i = K i from if_pos hi] at h1
  rw [show tL L n i = L i from if_pos hi] at h2
  exact ⟨b, o, e, h1, h2⟩⟩
set_option maxHeartbeats 4000000 in
set_option maxRecDepth 100000 in
theorem keptHead_any (h : Hr) (x : Nat) (a : Option Addr) (c : Nat) (hc : h.m ≤ c) (hl : h.m ≤ 1000000) (w : World) (hT : Tb w a h.m h.K h.L) (hG : Tb w (some ⟨x, 0, none⟩) (h.m + 12) (tK h.K h.m) (tL h.L h.m)) :
    Calls Tryz.prog 19 #[hV h (some ⟨x, 0, none⟩) (h.m + 12), hV h a c] w fun e w' => e = .returned (.bool true) ∧ Below w.heap.size w w' := by
  obtain ⟨w0, hw0⟩ : ∃ w0, w0 = w.alloc (.cells #[.int .i64 h.S, .int .i64 h.F, .int .i64 h.I, .int .i64 h.N, .int .i64 h.D, .slice (some ⟨x, 0, none⟩) h.m (h.m + 12)] 27) := ⟨_, rfl⟩
  obtain ⟨w1, hw1⟩ : ∃ w1, w1 = w0.alloc (.cells #[.int .i64 h.S, .int .i64 h.F, .int .i64 h.I, .int .i64 h.N, .int .i64 h.D, .slice a h.m c] 27) := ⟨_, rfl⟩
  have hx0 : HAt w0 w.heap.size h (some ⟨x, 0, none⟩) (h.m + 12) := by rw [hw0]; exact heap_alloc_new _ _
  have hb0 : Below w.heap.size w w0 := by rw [hw0]; exact (Below.refl _ w).alloc (Nat.le_refl _) _
  have hz0 : w0.heap.size = w.heap.size + 1 := by rw [hw0, World.size_alloc]
  have hb1 : Below w0.heap.size w0 w1 := by rw [hw1]; exact (Below.refl _ w0).alloc (Nat.le_refl _) _
  have HX := Lib.hid (hx0.same hb1)
  have HY := Lib.hid (show HAt w1 (w.heap.size + 1) h a c by rw [hw1, ← hz0]; exact heap_alloc_new _ _)
  have HB := Lib.hid (hb0.trans (hb1.mono hb0.size))
  have HW := Lib.hid (show w1 = (w.alloc (.cells #[.int .i64 h.S, .int .i64 h.F, .int .i64 h.I, .int .i64 h.N, .int .i64 h.D, .slice (some ⟨x, 0, none⟩) h.m (h.m + 12)] 27)).alloc (.cells #[.int .i64 h.S, .int .i64 h.F, .int .i64 h.I, .int .i64 h.N, .int .i64 h.D, .slice a h.m c] 27) by rw [hw1, hw0])
  have HT := Lib.hid (hT.same HB.out); have HG := Lib.hid (hG.same HB.out)
  have HSH := Lib.hid (sameHead_any h h (some ⟨x, 0, none⟩) a (h.m + 12) c (by omega) (by omega) w1 (Tb.orig HG.out) HT.out)
  have HKT := Lib.hid (fun W hT hG => keptTable_any x a h.m c h.K h.L W hT hc hG hl)
  have HEE := Lib.hid (show EH h h from ⟨⟨rfl, rfl, rfl, rfl, rfl, fun _ _ => ⟨rfl, rfl⟩⟩, rfl⟩)
  obtain ⟨c0, c1, c2, c3, c4, c5⟩ := HX.out.c
  obtain ⟨d0, d1, d2, d3, d4, d5⟩ := HY.out.c
  rw [HW.out] at c0 c1 c2 c3 c4 c5 d0 d1 d2 d3 d4 d5
  unfold hV at HSH ⊢
  clear hT hG hw0 hw1 hx0 hb0 hz0 hb1
  go_enter Tryz.func19, Tryz.ntmps19
  go_wp2_with fail
  rw [← HW.out]
  refine HSH.out.mono ?_
  rintro e w2 ⟨⟨v, rfl, hv⟩, hB2⟩
  obtain rfl : v = true := hv.2 HEE.out
  have HX2 := Lib.hid (HX.out.same hB2); have HY2 := Lib.hid (HY.out.same hB2)
  have HT2 := Lib.hid (HT.out.same hB2); have HG2 := Lib.hid (HG.out.same hB2)
  have HB2 := Lib.hid (HB.out.trans (hB2.mono HB.out.size))
  clear hv hB2 c0 c1 c2 c3 c4 c5 d0 d1 d2 d3 d4 d5
  have c5 := HX2.out.c.2.2.2.2.2
  have d5 := HY2.out.c.2.2.2.2.2
  go_wp2_with fail
  refine (HKT.out w2 HT2.out HG2.out).mono ?_
  rintro e w3 ⟨rfl, hB3⟩
  have HB3 := Lib.hid (HB2.out.trans (hB3.mono HB2.out.size))
  clear hB3 c5 d5
  go_wp2
  go_ret
  exact ⟨rfl, HB3.out⟩
end Go.Proofs.YtjlmajopfeplpaaGreat.He

namespace Go.Proofs.YtjlmajopfeplpaaGreat.He
open Go.RowKit Go.Shelf
open Go.Proofs.YtjlmajopfeplpaaGreat.Ly (TabOk RowOk off Tb tdl)
open Go.Proofs.YtjlmajopfeplpaaGreat.Wg (BoSays)

/-- bytes are a datagram of a right header and a body. -/
def GoodP (N : Nat) (f : Nat → Nat) : Prop := 14 + 3 * f 9 ≤ N ∧ RH (hdr f) ∧ N - (14 + 3 * f 9) = off (hdr f).K (hdr f).L (f 9)
open Classical in
/-- the error that Parse tells of so many bytes. -/
noncomputable def perr (n : Nat) (f : Nat → Nat) : Int := if n < 4 then 4 else if okB f (n - 4) = false then 10 else if n = 4 then 4 else if f 0 ≠ 1 then 11 else if GoodP (n - 4) f then 0 else 4
def zH : Value := .agg #[.int .i64 0, .int .i64 0, .int .i64 0, .int .i64 0, .int .i64 0, .slice none 0 0]
/-- what Parse tells of so many bytes. -/
def ParSays (w : World) (n : Nat) (f : Nat → Nat) (e : Ending) (w' : World) : Prop :=
  (perr n f ≠ 0 ∧ e = .returned (.tuple #[zH, .slice none 0 0, .int .i64 (perr n f)])) ∨
  (perr n f = 0 ∧ ∃ a c ba bc, e = .returned (.tuple #[hV (hdr f) a c, .slice ba (n - 4 - (14 + 3 * f 9)) bc, .int .i64 0]) ∧ w'.ownsRow w.heap.size 24 2 (.slice a (f 9) c) (f 9) (tdl (hdr f).K (hdr f).L (f 9)) ∧
    Nw w' w.heap.size ba (n - 4 - (14 + 3 * f 9)) bc (fun j => if j < n - 4 - (14 + 3 * f 9) then f (14 + 3 * f 9 + j) else 0))
/-- what the program's Put must tell: the block may go on behind the bytes. -/
def PutGoes (w : World) (h : Hr) (n : Nat) (f : Nat → Nat) (e : Ending) (w' : World) : Prop :=
  (RH h ∧ n = off h.K h.L h.m ∧ ∃ g C, e = .returned (.tuple #[.slice (some ⟨g, 0, none⟩) (14 + 3 * h.m + n + 4) (14 + 3 * h.m + n + 4), .int .i64 0]) ∧ w.heap.size ≤ g ∧ 14 + 3 * h.m + n + 4 ≤ C ∧ Bl w' g (14 + 3 * h.m + n + 4) C (Crc.sealed (pl h f) (14 + 3 * h.m + n))) ∨
  (¬ (RH h ∧ n = off h.K h.L h.m) ∧ e = .returned (.tuple #[.slice none 0 0, .int .i64 2]))
/-- what the program's calls must tell. -/
def PHRight : Prop := ∀ (h : Hr) (a : Option Addr) (c : Nat), h.m ≤ 140737488355328 → ∀ w : World, Tb w a h.m h.K h.L →
  Calls Tryz.prog 15 #[hV h a c] w fun e w' => BoSays (RH h) e ∧ Below w.heap.size w w'
def PHLike : Prop := ∀ (h g : Hr) (a b : Option Addr) (c d : Nat), h.m ≤ 140737488355328 → g.m ≤ 140737488355328 → ∀ w : World, Tb w a h.m h.K h.L → Tb w b g.m g.K g.L →
  Calls Tryz.prog 17 #[hV h a c, hV g b d] w fun e w' => BoSays (LH h g) e ∧ Below w.heap.size w w'
def PHPut : Prop := ∀ (h : Hr) (a ba : Option Addr) (c n bc : Nat) (f : Nat → Nat), n ≤ 1000000 → h.m ≤ 140737488355328 → ∀ w : World, Tb w a h.m h.K h.L → Sl w ba n bc f →
  Calls Tryz.prog 13 #[hV h a c, .slice ba n bc] w fun e w' => PutGoes w h n f e w' ∧ Below w.heap.size w w'
def PHParse : Prop := ∀ (a : Option Addr) (n c : Nat) (f : Nat → Nat), n ≤ 1000000 → ∀ w : World, Sl w a n c f →
  Calls Tryz.prog 25 #[.slice a n c] w fun e w' => ParSays w n f e w' ∧ Below w.heap.size w w'
end Go.Proofs.YtjlmajopfeplpaaGreat.He

namespace Go.Proofs.YtjlmajopfeplpaaGreat.He
open Go.RowKit Go.Shelf
open Go.Proofs.YtjlmajopfeplpaaGreat.Ly (TabOk RowOk off Tb TabSays NumSays)
open Go.Proofs.YtjlmajopfeplpaaGreat.Wg (BoSays BoSays.no BoSays.yes)
attribute [local go_sem] Oper.semAt_some

set_option maxHeartbeats 4000000 in
set_option maxRecDepth 100000 in
theorem phright_any (h : Hr) (a : Option Addr) (c : Nat) (w : World) (hT : Tb w a h.m h.K h.L) :
    Calls Tryz.prog 15 #[hV h a c] w fun e w' => BoSays (RH h) e ∧ Below w.heap.size w w' := by
  have HX := Lib.hid (show HAt (w.alloc (.cells #[.int .i64 h.S, .int .i64 h.F, .int .i64 h.I, .int .i64 h.N, .int .i64 h.D, .slice a h.m c] 27)) w.heap.size h a c from heap_alloc_new _ _)
  have HB := Lib.hid ((Below.refl w.heap.size w).alloc (Nat.le_refl _) (.cells #[.int .i64 h.S, .int .i64 h.F, .int .i64 h.I, .int .i64 h.N, .int .i64 h.D, .slice a h.m c] 27))
  have HT := Lib.hid hT
  have HRT := Lib.hid (fun W hT => Ly.lRight_any h.N a h.m c h.K h.L W hT)
  have HRH := Lib.hid (show RH h ↔ (0 ≤ h.S ∧ h.S ≤ 65535) ∧ (1 ≤ h.F ∧ h.F ≤ 2147483647) ∧ (0 ≤ h.I ∧ h.I < h.N) ∧ (0 ≤ h.D ∧ h.D ≤ 2147483647) ∧ TabOk h.N h.m h.K h.L from Iff.rfl)
  obtain ⟨c0, c1, c2, c3, c4, c5⟩ := HX.out.c
  unfold hV
  generalize RH h = R at *
  generalize h.S = S at *
  generalize h.F = F at *
  generalize h.I = I at *
  generalize h.N = N at *
  generalize h.D = D at *
  have no : (¬ ((0 ≤ S ∧ S ≤ 65535) ∧ (1 ≤ F ∧ F ≤ 2147483647) ∧ (0 ≤ I ∧ I < N) ∧ (0 ≤ D ∧ D ≤ 2147483647))) → ¬ R := fun q r => by
    obtain ⟨r1, r2, r3, r4, _⟩ := HRH.out.1 r
    exact q ⟨r1, r2, r3, r4⟩
  have NO := Lib.hid no
  clear hT no
  go_enter Tryz.func15, Tryz.ntmps15
  by_cases e1 : 0 ≤ S
  rotate_left
  · have HN := Lib.hid (NO.out (by omega))
    go_wp2
    go_ret
    exact ⟨BoSays.no HN.out, HB.out⟩
  by_cases e2 : S ≤ 65535
  rotate_left
  · have HN := Lib.hid (NO.out (by omega))
    go_wp2
    go_ret
    exact ⟨BoSays.no HN.out, HB.out⟩
  by_cases e3 : 1 ≤ F
  rotate_left
  · have HN := Lib.hid (NO.out (by omega))
    go_wp2
    go_ret
    exact ⟨BoSays.no HN.out, HB.out⟩
  by_cases e4 : F ≤ 2147483647
  rotate_left
  · have HN := Lib.hid (NO.out (by omega))
    go_wp2
    go_ret
    exact ⟨BoSays.no HN.out, HB.out⟩
  by_cases e5 : 0 ≤ I
  rotate_left
  · have HN := Lib.hid (NO.out (by omega))
    go_wp2
    go_ret
    exact ⟨BoSays.no HN.out, HB.out⟩
  by_cases e6 : I < N
  rotate_left
  · have HN := Lib.hid (NO.out (by omega))
    go_wp2
    go_ret
    exact ⟨BoSays.no HN.out, HB.out⟩
  by_cases e7 : 0 ≤ D
  rotate_left
  · have HN := Lib.hid (NO.out (by omega))
    go_wp2
    go_ret
    exact ⟨BoSays.no HN.out, HB.out⟩
  by_cases e8 : D ≤ 2147483647
  rotate_left
  · have HN := Lib.hid (NO.out (by omega))
    go_wp2
    go_ret
    exact ⟨BoSays.no HN.out, HB.out⟩
  go_wp2_with fail
  refine (HRT.out _ (HT.out.same HB.out)).mono ?_
  rintro e w' ⟨⟨v, rfl, hv⟩, hq⟩
  have HVV := Lib.hid (show v = true ↔ R from hv.trans ⟨fun t => HRH.out.2 ⟨⟨e1, e2⟩, ⟨e3, e4⟩, ⟨e5, e6⟩, ⟨e7, e8⟩, t⟩, fun r => (HRH.out.1 r).2.2.2.2⟩)
  have HB2 := Lib.hid (HB.out.trans (hq.mono HB.out.size))
  clear hv hq c0 c1 c2 c3 c4 c5
  go_wp2
  go_ret
  exact ⟨⟨v, rfl, HVV.out⟩, HB2.out⟩
theorem pHRight : PHRight := fun h a c _ w hT => phright_any h a c w hT
end Go.Proofs.YtjlmajopfeplpaaGreat.He

namespace Go.Proofs.YtjlmajopfeplpaaGreat.He
open Go.RowKit Go.Shelf
open Go.Proofs.YtjlmajopfeplpaaGreat.Ly (TabOk RowOk off Tb)
open Go.Proofs.YtjlmajopfeplpaaGreat.Wg (BoSays BoSays.no BoSays.yes)
attribute [local go_sem] Oper.semAt_some

set_option maxHeartbeats 4000000 in
set_option maxRecDepth 100000 in
theorem equalRows_any (a b : Option Addr) (n m c d : Nat) (K L K' L' : Nat → Int) (hn : n ≤ 140737488355328) (hm : m ≤ 140737488355328) (w : World) (hT : Tb w a n K L) (hU : Tb w b m K' L') :
    Calls Tryz.prog 38 #[.slice a n c, .slice b m d] w fun e w' => BoSays (SR n m K L K' L') e ∧ Below w.heap.size w w' := by
  have HT := Lib.hid hT; have HU := Lib.hid hU; clear hT hU
  go_enter Tryz.func38, Tryz.ntmps38
  by_cases hnm : n = m
  rotate_left
  · have g1 : ((n : Int) != (m : Int)) = true := by simp; omega
    have HN := Lib.hid (show ¬ SR n m K L K' L' from fun h => hnm h.1)
    clear hnm
    go_wp2
    go_ret
    exact ⟨BoSays.no HN.out, Below.refl _ _⟩
  subst hnm
  have g1 : ((n : Int) != (n : Int)) = false := by simp
  go_wp2_with fail
  clear g1
  go_loopw [5, 13] (fun _ i wr => ∃ (k : Nat) (W : World), W = wr ∧ k ≤ n ∧ i = .int .i64 k ∧ (∀ j, j < k → K j = K' j ∧ L j = L' j) ∧ Below w.heap.size w wr) (fun _ i _ => n - (intOf i).toNat)
  case atStart => exact ⟨0, _, rfl, by omega, rfl, fun j hj => absurd hj (Nat.not_lt_zero j), Below.refl _ _⟩
  case round =>
    obtain ⟨k, wx, rfl, hk, rfl, hall, hB⟩ := hrel
    have HB := Lib.hid hB; have HALL := Lib.hid hall; clear hB hall
    by_cases hlt : k < n
    · obtain ⟨b1, o1, e1, c1, c2⟩ := (HT.out.same HB.out).cell k hlt
      obtain ⟨b2, o2, e2, d1, d2⟩ := (HU.out.same HB.out).cell k hlt
      subst e1 e2
      have HE := Lib.hid (show (K k = K' k ∧ L k = L' k) → ∀ j, j < k + 1 → K j = K' j ∧ L j = L' j from fun h j hj => by
        by_cases e : j = k
        · rw [e]; exact h
        · exact HALL.out j (by omega))
      have HF := Lib.hid (show ¬ (K k = K' k ∧ L k = L' k) → ¬ SR n n K L K' L' from fun h q => h (q.2 k hlt))
      generalize K k = x at *
      generalize L k = y at *
      generalize K' k = x' at *
      generalize L' k = y' at *
      have i1 : (k : Int) < (n : Int) := by omega
      by_cases hx : x = x'
      · subst hx
        have g6 : (x == x) = true := by simp
        by_cases hy : y = y'
        · subst hy
          have g5 : (y == y) = true := by simp
          have HZ := Lib.hid (HE.out ⟨rfl, rfl⟩)
          go_wp2_with fail
          go_quiet (fail)
          go_wp2
          go_roundw
          case rel => exact ⟨k + 1, _, rfl, by omega, by go_num, HZ.out, HB.out.trans ((below_drewN (Below.refl _ _) _).mono HB.out.size)⟩
          case measure => simp [intOf]; omega
        · have g5 : (y == y') = false := by simp [hy]
          have HN := Lib.hid (HF.out (fun h => hy h.2))
          clear hy
          go_wp2_with fail
          go_quiet (fail)
          go_wp2
          go_ret
          exact ⟨BoSays.no HN.out, HB.out.trans ((below_drewN (Below.refl _ _) _).mono HB.out.size)⟩
      · have g6 : (x == x') = false := by simp [hx]
        have HN := Lib.hid (HF.out (fun h => hx h.1))
        clear hx
        go_wp2_with fail
        go_quiet (fail)
        go_wp2
        go_ret
        exact ⟨BoSays.no HN.out, HB.out.trans ((below_drewN (Below.refl _ _) _).mono HB.out.size)⟩
    · obtain rfl : k = n := by omega
      have i1 : ¬ (k : Int) < (k : Int) := by omega
      have HS := Lib.hid (show SR k k K L K' L' from ⟨rfl, HALL.out⟩)
      go_wp2
      go_ret
      exact ⟨BoSays.yes HS.out, HB.out⟩
set_option maxHeartbeats 4000000 in
set_option maxRecDepth 100000 in
theorem phlike_any (h g : Hr) (a b : Option Addr) (c d : Nat) (hn : h.m ≤ 140737488355328) (hm : g.m ≤ 140737488355328) (w : World) (hT : Tb w a h.m h.K h.L) (hU : Tb w b g.m g.K g.L) :
    Calls Tryz.prog 17 #[hV h a c, hV g b d] w fun e w' => BoSays (LH h g) e ∧ Below w.heap.size w w' := by
  obtain ⟨w0, hw0⟩ : ∃ w0, w0 = w.alloc (.cells #[.int .i64 h.S, .int .i64 h.F, .int .i64 h.I, .int .i64 h.N, .int .i64 h.D, .slice a h.m c] 27) := ⟨_, rfl⟩
  obtain ⟨w1, hw1⟩ : ∃ w1, w1 = w0.alloc (.cells #[.int .i64 g.S, .int .i64 g.F, .int .i64 g.I, .int .i64 g.N, .int .i64 g.D, .slice b g.m d] 27) := ⟨_, rfl⟩
  have hx0 : HAt w0 w.heap.size h a c := by rw [hw0]; exact heap_alloc_new _ _
  have hb0 : Below w.heap.size w w0 := by rw [hw0]; exact (Below.refl _ w).alloc (Nat.le_refl _) _
  have hz0 : w0.heap.size = w.heap.size + 1 := by rw [hw0, World.size_alloc]
  have hb1 : Below w0.heap.size w0 w1 := by rw [hw1]; exact (Below.refl _ w0).alloc (Nat.le_refl _) _
  have HX := Lib.hid (hx0.same hb1)
  have HY := Lib.hid (show HAt w1 (w.heap.size + 1) g b d by rw [hw1, ← hz0]; exact heap_alloc_new _ _)
  have HB := Lib.hid (hb0.trans (hb1.mono hb0.size))
  have HW := Lib.hid (show w1 = (w.alloc (.cells #[.int .i64 h.S, .int .i64 h.F, .int .i64 h.I, .int .i64 h.N, .int .i64 h.D, .slice a h.m c] 27)).alloc (.cells #[.int .i64 g.S, .int .i64 g.F, .int .i64 g.I, .int .i64 g.N, .int .i64 g.D, .slice b g.m d] 27) by rw [hw1, hw0])
  obtain ⟨c0, c1, c2, c3, c4, c5⟩ := HX.out.c
  obtain ⟨d0, d1, d2, d3, d4, d5⟩ := HY.out.c
  have HST := Lib.hid (fun W hT hU => equalRows_any a b h.m g.m c d h.K h.L g.K g.L hn hm W hT hU)
  have HT := Lib.hid (hT.same HB.out); have HU := Lib.hid (hU.same HB.out)
  have HEH := Lib.hid (show LH h g ↔ (h.S = g.S ∧ h.F = g.F ∧ h.N = g.N ∧ h.D = g.D) ∧ SR h.m g.m h.K h.L g.K g.L from ⟨fun q => ⟨⟨q.1, q.2.1, q.2.2.1, q.2.2.2.1⟩, q.2.2.2.2.1, q.2.2.2.2.2⟩, fun q => ⟨q.1.1, q.1.2.1, q.1.2.2.1, q.1.2.2.2, q.2.1, q.2.2⟩⟩)
  rw [HW.out] at c0 c1 c2 c3 c4 c5 d0 d1 d2 d3 d4 d5
  unfold hV
  generalize LH h g = R at *
  clear hT hU hw0 hw1 hx0 hb0 hz0 hb1
  go_enter Tryz.func17, Tryz.ntmps17
  by_cases e0 : h.S = g.S
  rotate_left
  · have g1 : (h.S == g.S) = false := by simp [e0]
    have HN := Lib.hid (show ¬ R from fun r => e0 ((HEH.out.1 r).1.1))
    clear e0
    go_wp2
    rw [← HW.out]
    go_ret
    exact ⟨BoSays.no HN.out, HB.out⟩
  have q0 : (h.S == g.S) = true := by simp [e0]
  have E0 := Lib.hid e0
  clear e0
  by_cases e1 : h.F = g.F
  rotate_left
  · have g1 : (h.F == g.F) = false := by simp [e1]
    have HN := Lib.hid (show ¬ R from fun r => e1 ((HEH.out.1 r).1.2.1))
    clear e1
    go_wp2
    rw [← HW.out]
    go_ret
    exact ⟨BoSays.no HN.out, HB.out⟩
  have q1 : (h.F == g.F) = true := by simp [e1]
  have E1 := Lib.hid e1
  clear e1
  by_cases e2 : h.N = g.N
  rotate_left
  · have g1 : (h.N == g.N) = false := by simp [e2]
    have HN := Lib.hid (show ¬ R from fun r => e2 ((HEH.out.1 r).1.2.2.1))
    clear e2
    go_wp2
    rw [← HW.out]
    go_ret
    exact ⟨BoSays.no HN.out, HB.out⟩
  have q2 : (h.N == g.N) = true := by simp [e2]
  have E2 := Lib.hid e2
  clear e2
  by_cases e3 : h.D = g.D
  rotate_left
  · have g1 : (h.D == g.D) = false := by simp [e3]
    have HN := Lib.hid (show ¬ R from fun r => e3 ((HEH.out.1 r).1.2.2.2))
    clear e3
    go_wp2
    rw [← HW.out]
    go_ret
    exact ⟨BoSays.no HN.out, HB.out⟩
  have q3 : (h.D == g.D) = true := by simp [e3]
  have E3 := Lib.hid e3
  clear e3
  go_wp2_with fail
  rw [← HW.out]
  refine (HST.out w1 HT.out HU.out).mono ?_
  rintro e w2 ⟨⟨v, rfl, hv⟩, hB2⟩
  have HVV := Lib.hid (show v = true ↔ R from hv.trans ⟨fun s => HEH.out.2 ⟨⟨E0.out, E1.out, E2.out, E3.out⟩, s⟩, fun r => (HEH.out.1 r).2⟩)
  have HB2 := Lib.hid (HB.out.trans (hB2.mono HB.out.size))
  clear hv hB2 c0 c1 c2 c3 c4 c5 d0 d1 d2 d3 d4 d5 q0 q1 q2 q3
  go_wp2
  go_ret
  exact ⟨⟨v, rfl, HVV.out⟩, HB2.out⟩
theorem pHLike : PHLike := fun h g a b c d hn hm w hT hU => phlike_any h g a b c d hn hm w hT hU
end Go.Proofs.YtjlmajopfeplpaaGreat.He
