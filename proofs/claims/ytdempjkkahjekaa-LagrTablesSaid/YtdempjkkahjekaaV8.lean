import Derived.Test.YtdempjkkahjekaaV4
import Derived.Test.YtdempjkkahjekaaK2
import Derived.Deep.RegionLaw
namespace Go.Proofs.Ytdempjkkahjekaa.Pf
open Gf
theorem awake4_w0 : lw (lit [0, 1]) 2 2 0 = 3 := by decide +kernel
theorem awake4_w1 : lw (lit [0, 1]) 2 2 1 = 2 := by decide +kernel
theorem awake4_v : xsum (fun i => mul (lw (lit [0, 1]) 2 2 i) (lit [5, 5] i)) 2 = 5 := by decide +kernel
theorem awake4_d : Dst (lit [0, 1]) 2 := fun i j h1 h2 => by
  obtain rfl : i = 0 := by omega
  obtain rfl : j = 1 := by omega
  decide
theorem awake4_l : lw (lit [0, 1]) 2 2 = lit [3, 2] := funext fun i => by
  by_cases h : i < 2
  · rcases (show i = 0 ∨ i = 1 by omega) with rfl | rfl
    · exact awake4_w0
    · exact awake4_w1
  · rw [lw_up 2 2 i (by omega), lit_up [3, 2] i (by simp; omega)]
/-- weights add up to 1. -/
theorem lw_sum {P : Nat → Nat} {n x : Nat} (hP : By P) (hd : Dst P n) (hx : x < 256) (h0 : 0 < n) : xsum (lw P n x) n = 1 := by
  have hv : ∀ z, z < 256 → ev (sc 1) z n = 1 := fun z hz => by rw [ev_up z (sc_up 1) h0, sc_ev (by omega)]
  have := lagrange hP hd (p := sc 1) (v := fun _ => 1) (sc_by (by omega)) ((sc_up 1).mono h0) (fun _ => (by omega : 1 < 256)) (fun i _ => hv _ (hP i)) hx
  rw [hv x hx] at this
  rw [this]
  exact xsum_congr n fun i _ => (mul_one' (lw_by hP n hx i)).symm
theorem xsum_lw_lt {P : Nat → Nat} {n x : Nat} (hP : By P) (hx : x < 256) (k : Nat) : xsum (lw P n x) k < 256 := xsum_lt k fun i _ => lw_by hP n hx i
/-- is x one of the first k points? -/
def isP (P : Nat → Nat) (x : Nat) : Nat → Bool
  | 0 => false
  | k + 1 => isP P x k || decide (P k = x)
theorem isP_of {P : Nat → Nat} {x : Nat} : ∀ k, isP P x k = true → ∃ j, j < k ∧ P j = x
  | 0, h => by cases h
  | k + 1, h => by
    unfold isP at h
    rw [Bool.or_eq_true] at h
    rcases h with h | h
    · obtain ⟨j, h1, h2⟩ := isP_of k h
      exact ⟨j, by omega, h2⟩
    · exact ⟨k, by omega, of_decide_eq_true h⟩
theorem lw_here {P : Nat → Nat} {n x i : Nat} (hP : By P) (hd : Dst P n) (hh : isP P x n = true) (hi : i < n) : lw P n x i = if P i = x then 1 else 0 := by
  obtain ⟨j, h1, h2⟩ := isP_of n hh
  rw [← h2, lw_at hP hd hi h1]
  by_cases e : i = j
  · rw [if_pos e, if_pos (by rw [e])]
  · rw [if_neg e, if_neg]
    intro e2
    rcases Nat.lt_or_ge i j with h | h
    · exact hd i j h h1 e2
    · exact hd j i (by omega) hi e2.symm
theorem dot_xor {f a b : Nat → Nat} (n : Nat) : xsum (fun i => mul (f i) (a i ^^^ b i)) n = xsum (fun i => mul (f i) (a i)) n ^^^ xsum (fun i => mul (f i) (b i)) n := by
  rw [← xsum_xor]
  exact xsum_congr n fun i _ => mul_xor _ _ _
end Go.Proofs.Ytdempjkkahjekaa.Pf
namespace Go.Proofs.Ytdempjkkahjekaa
open Go.RowKit Go.Shelf

section
variable {Pg : Program}
/-- append in a region that draws, in a row of its own. -/
theorem step_append_bag {ops : Array Oper} {o : Oper} {act : Act} {w : World} {K : Act → World → Prop} {Q : Exit → Act → World → Prop} {E : Prop} (hgd : o.guard = none) (s x : Operand) (t : TypeId)
    (ho : o.op = .call { callee := .builtin .append, args := #[s, x], argTypes := #[t, t] })
    (base : Nat) (e : TypeId) (i : TypeInfo) (z : Value) (bytes : Nat) (ht : Pg.underlying t = some (.slice e)) (hi : Pg.info? e = some i) (hz : i.zero = some z)
    (hsize : i.size = 1) (hby : i.bytes = bytes) (hzs : z.cells.size = 1)
    (a : Option Addr) (n cap : Nat) (xs : List Value) (hs : act.eval s = .slice a n cap) (hown : w.ownsRow base e 1 (.slice a n cap) n xs)
    (ad : Addr) (m c : Nat) (news : List Value) (hx : act.eval x = .slice (some ad) m c) (hl : news.length = m) (hnews : ∀ j u, news[j]? = some u → w.cell? (ad.add j) = some u) (h1 : ∀ u ∈ news, u.oneCell' = true)
    (hm : 0 < m) (h63 : n + m ≤ maxLen) (hbytes : (n + m) * bytes ≤ 140737488355328) (hbase : base ≤ w.heap.size)
    (h : ∀ g cap' w', w'.ownsRow base e 1 (.slice (some ⟨g, 0, none⟩) (n + m) cap') (n + m) (xs ++ news) → (a = some ⟨g, 0, none⟩ ∧ cap' = cap ∧ w.grownBy w' (some g) ∨ w.heap.size ≤ g ∧ w.grownBy w' none) → K (act.put o.dst (.slice (some ⟨g, 0, none⟩) (n + m) cap')) w') :
    if Region.wanted o (yielded ops act.tmps) = true then Oper.wp Pg o act w K Q else E := by
  have hw : Region.wanted o (yielded ops act.tmps) = true := by simp [Region.wanted, hgd]
  rw [if_pos hw]
  obtain ⟨g, cap', w', hr, h2, h3, h4⟩ := run_append_bag (P := Pg) w t o.type base e i z bytes ht hi hz hsize hby hzs a n cap xs hown ad m c news hl hnews h1 hm h63 hbytes hbase
  unfold Oper.wp execOp
  simp only [ho, resolve, invoke, builtin, Sem.run_bind, Sem.run_pure, Result.andThen_ok, List.map_toArray, List.map_cons, List.map_nil, hs, hx, hr]
  exact h g cap' w' h2 h3
end
theorem sl_lits (w : World) (vs : List Nat) (hv : ∀ v ∈ vs, v < 256) (hl : vs.length ≤ 1000) : Sl (w.alloc (.cells (vs.map fun v => Value.int .u8 (v : Nat)).toArray 5)) (some ⟨w.heap.size, 0, none⟩) vs.length vs.length (Pf.lit vs) := by
  have := Bl.alloc w (vs.map fun v => Value.int .u8 (v : Nat)) (Pf.lit vs) (fun i hi => by
    rw [List.length_map] at hi
    simp [Pf.lit, hi])
  rw [List.length_map] at this
  exact this.sl (Nat.le_refl _) (by unfold maxLen; omega) (Pf.lit_by hv) (Pf.lit_up vs)

set_option maxHeartbeats 1000000 in
set_option maxRecDepth 100000 in
theorem awake4_any (w : World) :
    Calls Try.prog 7 #[] w fun e w' => e = .returned (.bool true) ∧ Below w.heap.size w w' := by
  have s1 : Sl (w.alloc (.cells #[.int .u8 0, .int .u8 1] 5)) (some ⟨w.heap.size, 0, none⟩) 2 2 (Pf.lit [0, 1]) := sl_lits w [0, 1] (by decide) (by decide)
  have hB := (Below.refl w.heap.size w).alloc (Nat.le_refl _) (.cells #[.int .u8 0, .int .u8 1] 5)
  have S1 := Lib.hid s1; have HB := Lib.hid hB
  clear s1 hB
  go_enter Try.func7, Try.ntmps7
  go_wp2_with fail
  refine (pWeights_any _ 2 2 2 (Pf.lit [0, 1]) (by omega) (by omega) _ S1.out).mono ?_
  rintro e w1 (⟨_, a, c, rfl, hN, hB1⟩ | ⟨h, _⟩)
  rotate_left
  · exact absurd Pf.awake4_d h
  rw [Pf.awake4_l] at hN
  have hb1 := HB.out.trans (hB1.mono HB.out.size)
  have s2 : Sl (w1.alloc (.cells #[.int .u8 0, .int .u8 1] 5)) (some ⟨w1.heap.size, 0, none⟩) 2 2 (Pf.lit [0, 1]) := sl_lits w1 [0, 1] (by decide) (by decide)
  have s3 := sl_lits (w1.alloc (.cells #[.int .u8 0, .int .u8 1] 5)) [5, 5] (by decide) (by decide)
  rw [World.size_alloc] at s3
  have s3 : Sl ((w1.alloc (.cells #[.int .u8 0, .int .u8 1] 5)).alloc (.cells #[.int .u8 5, .int .u8 5] 5)) (some ⟨w1.heap.size + 1, 0, none⟩) 2 2 (Pf.lit [5, 5]) := s3
  have hB3 := ((Below.refl w1.heap.size w1).alloc (Nat.le_refl _) (.cells #[.int .u8 0, .int .u8 1] 5)).alloc (by simp) (.cells #[.int .u8 5, .int .u8 5] 5)
  have S2 := Lib.hid (s2.same ((Below.refl _ _).alloc (Nat.le_refl _) (.cells #[.int .u8 5, .int .u8 5] 5))); have S3 := Lib.hid s3
  have HN := Lib.hid (hN.sl.same hB3); have HB3 := Lib.hid (hb1.trans (hB3.mono hb1.size))
  clear hN hB1 hb1 s2 s3 hB3
  go_wp2_with fail
  refine (pValue_any _ _ 2 2 2 2 2 (Pf.lit [0, 1]) (Pf.lit [5, 5]) (by omega) (by omega) (by omega) _ S2.out S3.out).mono ?_
  rintro e w2 ⟨⟨h, _⟩ | ⟨_, h, _⟩ | ⟨_, _, rfl⟩, hB4⟩
  · exact absurd rfl h
  · exact absurd Pf.awake4_d h
  rw [show dotN (Pf.lw (Pf.lit [0, 1]) 2 2) (Pf.lit [5, 5]) 2 = 5 from Pf.awake4_v]
  have HB4 := Lib.hid (HB3.out.trans (hB4.mono HB3.out.size)); have HN4 := Lib.hid (HN.out.same hB4)
  have s5 : Sl (w2.alloc (.cells #[.int .u8 3, .int .u8 2] 5)) (some ⟨w2.heap.size, 0, none⟩) 2 2 (Pf.lit [3, 2]) := sl_lits w2 [3, 2] (by decide) (by decide)
  have hB5 := (Below.refl w2.heap.size w2).alloc (Nat.le_refl _) (.cells #[.int .u8 3, .int .u8 2] 5)
  have S5 := Lib.hid s5; have HN5 := Lib.hid (HN4.out.same hB5); have HB5 := Lib.hid (HB4.out.trans (hB5.mono HB4.out.size))
  clear hB4 s5 hB5
  go_wp2_with fail
  refine (same_any _ _ 2 _ 2 (Pf.lit [3, 2]) (by omega) _ HN5.out S5.out).mono ?_
  rintro e w6 ⟨rfl, q, rfl⟩
  go_wp2
  go_ret
  exact ⟨rfl, below_dr HB5.out q⟩
end Go.Proofs.Ytdempjkkahjekaa
