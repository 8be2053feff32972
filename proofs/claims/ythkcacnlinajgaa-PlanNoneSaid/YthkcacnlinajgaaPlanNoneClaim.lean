/-
  For every task and all thresholds, PlanNone answers true: no thresholds that fit are better than the best ones, and there are none just if those that are all N do not fit.
-/
import Derived.Test.YthkcacnlinajgaaRows
import Derived.Test.YthkcacnlinajgaaMg43
import Derived.Test.YthkcacnlinajgaaMg44
import Derived.WalkKit
import Derived.ProofKit
import Derived.OpenShut
import Derived.SizedLaws
import Derived.ChangeOld
import Derived.Below
namespace Go.Proofs.Ythkcacnlinajgaa.planNone
open Go.Proofs.Ythkcacnlinajgaa
open Go.Proofs.Ythkcacnlinajgaa.Pn (planNone_any pRight pBest pScore tV task_in)
open Go.ChangeShapes Go.WideShapes Go.ChangeAt Go.RowKit

theorem own : ownKnob Try.prog.godebug = none := by kernel_rfl
theorem laidOut : laidOutB Try.prog = true := by kernel_rfl

/-- what the walk is told of a slice of numbers that came in. -/
def IsRow (k : IntKind) (w : World) (a : Option Addr) (len cap : Nat) (zs : List Int) : Prop :=
  (a = none ∧ len = 0 ∧ cap = 0 ∧ zs = []) ∨
  ∃ x, a = some x ∧ len ≤ cap ∧ cap ≤ maxLen ∧ zs.length = cap ∧ (∀ i, i < zs.length → w.cell? (x.add i) = some (.int k (zs.getD i 0))) ∧ ∀ n ∈ zs, (Lit.int k n).wf = true

theorem walk (an0 am0 ab0 : Int) (al0 : Option Addr) (nl0 cl0 : Nat) (av0 : Option Addr) (nv0 cv0 : Nat) (aw0 : Option Addr) (nw0 cw0 : Nat) (fl0 fv0 fw0 : Nat → Int) (a1 : Option Addr) (len1 cap1 : Nat) (z1 : List Int) (w : World) (hl0 : Hi w al0 nl0 cl0 fl0) (hv0 : Hi w av0 nv0 cv0 fv0) (hw0 : Hi w aw0 nw0 cw0 fw0) (bl0 : nl0 ≤ 140737488355328) (bv0 : nv0 ≤ 140737488355328) (bw0 : nw0 ≤ 140737488355328) (w1 : IsRow .i64 w a1 len1 cap1 z1) (c1 : cap1 * 8 ≤ 140737488351232) :
    Calls Try.prog 5 #[tV an0 am0 ab0 al0 nl0 cl0 av0 nv0 cv0 aw0 nw0 cw0, .slice a1 len1 cap1] w fun e w' => e = .returned (.bool true) ∧ Below w.heap.size w w' :=
  planNone_any pRight pBest an0 am0 ab0 al0 av0 aw0 a1 nl0 cl0 nv0 cv0 nw0 cw0 len1 cap1 fl0 fv0 fw0 _ bl0 bv0 bw0 (by rcases w1 with ⟨_, h, _⟩ | ⟨_, _, h, _⟩ <;> omega) w hl0 hv0 hw0 (hi_row w1)

set_option maxRecDepth 100000 in
theorem lifted (os : Os) (started : os.Started) (H : Type) (enc : TypeId × Value → H) :
    ReturnsInHanded {} Try.checked os 5 .any (Rows.planNoneSpec.pre6 enc Try.prog Try.f5 Rows.planNoneRow.domain false) (Rows.planNoneSpec.post enc Try.prog Try.f5 false true false false) := by
  refine returnsInHanded_of_change_sized (C := Try.checked) own started (by kernel_rfl) Try.func5
    (ChangeSpec.witness6 (enc := enc) (C := Try.checked) false ⟨#[], #[.agg #[.int .i64 0, .int .i64 0, .int .i64 0, .slice none 0 0, .slice none 0 0, .slice none 0 0], .slice none 0 0], []⟩ 8 (by kernel_rfl) (by kernel_rfl) (by kernel_rfl) (by kernel_rfl)) ?_
  intro W base args ds gs before hval0 hW hcnd hsz0 _
  have hsz : (DataW.weightsEach Try.prog (Try.f5.params.toList ++ Rows.planNoneSpec.plain.varTypes Try.prog) (ds ++ gs)).all (· ≤ reachBytes) = true := hsz0
  clear hsz0
  have hval : ∀ (j : Nat) t v, Try.f5.params[j]? = some t → args[j]? = some v → Value.okWide Try.prog W .any base t v := hval0
  have hW' := hW
  obtain ⟨p, q, hA0, hV, rfl, hfz, hnd⟩ := hW
  have hA : DataW.TrodAll enc Try.prog W 0 (fun _ => true) true Try.f5.params.toList args.toList ds p := hA0
  rw [Try.params5] at hA hval hsz
  obtain ⟨v0, vs0, d0, ds0, p0, q0, hargs, rfl, rfl, h0, r0⟩ := trodAll_cons hA
  obtain ⟨v1, vs1, d1, ds1, p1, q1, rfl, rfl, rfl, h1, r1⟩ := trodAll_cons r0
  obtain ⟨rfl, rfl, rfl⟩ := trodAll_nil r1
  obtain rfl : args = #[v0, v1] := by cases args; simp_all
  obtain ⟨rfl, rfl⟩ := trodVars_none hV
  obtain ⟨an0, am0, ab0, al0, nl0, cl0, av0, nv0, cv0, aw0, nw0, cw0, fl0, fv0, fw0, rfl, hl0, hv0, hw0, bl0, bv0, bw0⟩ := task_in hsz (j := 0) rfl rfl (hval 0 26 v0 rfl rfl) h0
  have k0 := h0
  have lt0 : ∀ x ∈ p0, x.block < W.heap.size := by obtain ⟨m, hm⟩ := k0; exact DataW.trod_lt m _ _ _ hm
  obtain ⟨a1, len1, cap1, rfl⟩ := okWide_slice Try.underlying24 (hval 1 24 v1 rfl rfl)
  have k1 := h1
  have lt1 : ∀ x ∈ p1, x.block < W.heap.size := by obtain ⟨m, hm⟩ := k1; exact DataW.trod_lt m _ _ _ hm
  obtain ⟨z1, w1, c1⟩ : ∃ zs, IsRow .i64 W a1 len1 cap1 zs ∧ cap1 * 8 ≤ 140737488351232 := by
    obtain ⟨fuel, hf⟩ := h1
    rcases open_ints Try.underlying24 Try.underlying3 (by kernel_rfl) hf with ⟨hcs, _⟩ | ⟨x, l, c, zs, hcs, _, hl, hm, hz, hx, hcell, hwz⟩
    · simp [Value.cells] at hcs
      obtain ⟨rfl, rfl, rfl⟩ := hcs
      exact ⟨[], .inl ⟨rfl, rfl, rfl, rfl⟩, by simp⟩
    · simp [Value.cells] at hcs
      obtain ⟨rfl, rfl, rfl⟩ := hcs
      simp only [Prod.mk.injEq] at hx
      have hz' : zs.length = cap1 := by simpa using hz
      have hq := sized_slice hsz (j := 1) (t := 24) (e := 3) rfl (by rw [hx.1]; rfl) Try.underlying24
      have hbt : Try.prog.bytesOf 3 = 8 := by kernel_rfl
      rw [hbt] at hq
      simp only [lits, List.length_map, List.length_take, List.length_drop, reachBytes] at hq
      exact ⟨zs, .inr ⟨_, rfl, hl, hm, hz', hcell, hwz⟩, by omega⟩
  clear hA0 hval0
  refine (walk an0 am0 ab0 al0 nl0 cl0 av0 nv0 cv0 aw0 nw0 cw0 fl0 fv0 fw0 a1 len1 cap1 z1 W hl0 hv0 hw0 bl0 bv0 bw0 w1 c1).mono fun e W' ⟨he, bel⟩ => ?_
  subst he
  exact ⟨_, rfl, _, _, _, [], _, [], hW', trodAll_mk1 (shut_bool Try.underlying4 _), (trodAll_cons_mk (Below.trod laidOut (by kernel_rfl) (of_decide_eq_true (by kernel_rfl)) k0 bel lt0) (trodAll_cons_mk (Below.trod laidOut (by kernel_rfl) (of_decide_eq_true (by kernel_rfl)) k1 bel lt1) trodAll_mk0)), rfl, bel.frame _, fun h => by cases h⟩

theorem over : Rows.planNoneRow.holds Try.pinned (OpenSpec.ofChange Rows.planNoneSpec) :=
  OpenClaim.holds_of_wide 5 Try.f5 rfl rfl rfl rfl rfl rfl rfl ⟨rfl, rfl, rfl, rfl, rfl⟩ rfl rfl rfl rfl rfl (by kernel_rfl) Try.func5 (by kernel_rfl)
    (of_decide_eq_true (by kernel_rfl)) (by unfold Func.isWrapper; first | (rw [if_pos (by decide +kernel)]; kernel_rfl) | (rw [if_neg (by decide +kernel)]; exact ⟨rfl, rfl⟩))
    (fun os started H enc _ => lifted os started H enc)

theorem proved : Rows.PlanNoneSaid := over
#print axioms proved
end Go.Proofs.Ythkcacnlinajgaa.planNone
