import Derived.Deep.RegionLaw
import Derived.Test.YtjlmajopfeplpaaGreatMg19
namespace Go.Proofs.YtjlmajopfeplpaaGreat.Pf
open Gf
theorem awake4_w0 : lw (lit [0, 1]) 2 2 0 = 3 := by decide +kernel
theorem awake4_w1 : lw (lit [0, 1]) 2 2 1 = 2 := by decide +kernel
theorem awake4_v : xsum (fun i => mul (lw (lit [0, 1]) 2 2 i) (lit [5, 5] i)) 2 = 5 := by decide +kernel
theorem awake4_d : Dst (lit [0, 1]) 2 := fun i j h1 h2 => by
  obtain rfl : i = 0 := by omega
  obtain rfl : j = 1 := by omega
  decide
theorem awake4_l : lw (lit [0, 1]) 2 2 = lit [3, 2] := funext fun i => by
  by_cases h : i < 2
  · rcases (show i = 0 ∨ i = 1 by omega) with rfl | rfl
    · exact awake4_w0
    · exact awake4_w1
  · rw [lw_up 2 2 i (by omega), lit_up [3, 2] i (by simp; omega)]
/-- weights add up to 1. -/
theorem lw_sum {P : Nat → Nat} {n x : Nat} (hP : By P) (hd : Dst P n) (hx : x < 256) (h0 : 0 < n) : xsum (lw P n x) n = 1 := by
  have hv : ∀ z, z < 256 → ev (sc 1) z n = 1 := fun z hz => by rw [ev_up z (sc_up 1) h0, sc_ev (by omega)]
  have := lagrange hP hd (p := sc 1) (v := fun _ => 1) (sc_by (by omega)) ((sc_up 1).mono h0) (fun _ => (by omega : 1 < 256)) (fun i _ => hv _ (hP i)) hx
  rw [hv x hx] at this
  rw [this]
  exact xsum_congr n fun i _ => (mul_one' (lw_by hP n hx i)).symm
theorem xsum_lw_lt {P : Nat → Nat} {n x : Nat} (hP : By P) (hx : x < 256) (k : Nat) : xsum (lw P n x) k < 256 := xsum_lt k fun i _ => lw_by hP n hx i
/-- is x one of the first k points? -/
def isP (P : Nat → Nat) (x : Nat) : Nat → Bool
  | 0 => false
  | k + 1 => isP P x k || decide (P k = x)
theorem isP_of {P : Nat → Nat} {x : Nat} : ∀ k, isP P x k = true → ∃ j, j < k ∧ P j = x
  | 0, h => by cases h
  | k + 1, h => by
    unfold isP at h
    rw [Bool.or_eq_true] at h
    rcases h with h | h
    · obtain ⟨j, h1, h2⟩ := isP_of k h
      exact ⟨j, by omega, h2⟩
    · exact ⟨k, by omega, of_decide_eq_true h⟩
theorem lw_here {P : Nat → Nat} {n x i : Nat} (hP : By P) (hd : Dst P n) (hh : isP P x n = true) (hi : i < n) : lw P n x i = if P i = x then 1 else 0 := by
  obtain ⟨j, h1, h2⟩ := isP_of n hh
  rw [← h2, lw_at hP hd hi h1]
  by_cases e : i = j
  · rw [if_pos e, if_pos (by rw [e])]
  · rw [if_neg e, if_neg]
    intro e2
    rcases Nat.lt_or_ge i j with h | h
    · exact hd i j h h1 e2
    · exact hd j i (by omega) hi e2.symm
theorem dot_xor {f a b : Nat → Nat} (n : Nat) : xsum (fun i => mul (f i) (a i ^^^ b i)) n = xsum (fun i => mul (f i) (a i)) n ^^^ xsum (fun i => mul (f i) (b i)) n := by
  rw [← xsum_xor]
  exact xsum_congr n fun i _ => mul_xor _ _ _
end Go.Proofs.YtjlmajopfeplpaaGreat.Pf
namespace Go.Proofs.YtjlmajopfeplpaaGreat
open Go.RowKit Go.Shelf

section
variable {Pg : Program}
/-- append in a region that draws, in a row of its own. -/
theorem step_append_bag {ops : Array Oper} {o : Oper} {act : Act} {w : World} {K : Act → World → Prop} {Q : Exit → Act → World → Prop} {E : Prop} (hgd : o.guard = none) (s x : Operand) (t : TypeId)
    (ho : o.op = .call { callee := .builtin .append, args := #[s, x], argTypes := #[t, t] })
    (base : Nat) (e : TypeId) (i : TypeInfo) (z : Value) (bytes : Nat) (ht : Pg.underlying t = some (.slice e)) (hi : Pg.info? e = some i) (hz : i.zero = some z)
    (hsize : i.size = 1) (hby : i.bytes = bytes) (hzs : z.cells.size = 1)
    (a : Option Addr) (n cap : Nat) (xs : List Value) (hs : act.eval s = .slice a n cap) (hown : w.ownsRow base e 1 (.slice a n cap) n xs)
    (ad : Addr) (m c : Nat) (news : List Value) (hx : act.eval x = .slice (some ad) m c) (hl : news.length = m) (hnews : ∀ j u, news[j]? = some u → w.cell? (ad.add j) = some u) (h1 : ∀ u ∈ news, u.oneCell' = true)
    (hm : 0 < m) (h63 : n + m ≤ maxLen) (hbytes : (n + m) * bytes ≤ 140737488355328) (hbase : base ≤ w.heap.size)
    (h : ∀ g cap' w', w'.ownsRow base e 1 (.slice (some ⟨g, 0, none⟩) (n + m) cap') (n + m) (xs ++ news) → (a = some ⟨g, 0, none⟩ ∧ cap' = cap ∧ w.grownBy w' (some g) ∨ w.heap.size ≤ g ∧ w.grownBy w' none) → K (act.put o.dst (.slice (some ⟨g, 0, none⟩) (n + m) cap')) w') :
    if Region.wanted o (yielded ops act.tmps) = true then Oper.wp Pg o act w K Q else E := by
  have hw : Region.wanted o (yielded ops act.tmps) = true := by simp [Region.wanted, hgd]
  rw [if_pos hw]
  obtain ⟨g, cap', w', hr, h2, h3, h4⟩ := run_append_bag (P := Pg) w t o.type base e i z bytes ht hi hz hsize hby hzs a n cap xs hown ad m c news hl hnews h1 hm h63 hbytes hbase
  unfold Oper.wp execOp
  simp only [ho, resolve, invoke, builtin, Sem.run_bind, Sem.run_pure, Result.andThen_ok, List.map_toArray, List.map_cons, List.map_nil, hs, hx, hr]
  exact h g cap' w' h2 h3
end
theorem sl_lits (w : World) (vs : List Nat) (hv : ∀ v ∈ vs, v < 256) (hl : vs.length ≤ 1000) : Sl (w.alloc (.cells (vs.map fun v => Value.int .u8 (v : Nat)).toArray 5)) (some ⟨w.heap.size, 0, none⟩) vs.length vs.length (Pf.lit vs) := by
  have := Bl.alloc w (vs.map fun v => Value.int .u8 (v : Nat)) (Pf.lit vs) (fun i hi => by
    rw [List.length_map] at hi
    simp [Pf.lit, hi])
  rw [List.length_map] at this
  exact this.sl (Nat.le_refl _) (by unfold maxLen; omega) (Pf.lit_by hv) (Pf.lit_up vs)

end Go.Proofs.YtjlmajopfeplpaaGreat
