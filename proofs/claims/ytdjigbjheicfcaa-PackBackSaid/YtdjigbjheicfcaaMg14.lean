import Derived.Deep.SlicePairs
import Derived.Test.YtdjigbjheicfcaaMg10
import Derived.Test.YtdjigbjheicfcaaMg13
namespace Go.Proofs.Ytdjigbjheicfcaa
open Go.RowKit Go.Shelf Go.ChangeShapes Go.WideShapes

/-- a row of bytes that came in. -/
def ByteRow (W : World) (a : Option Addr) (l c : Nat) (zs : List Int) : Prop := (a = none ∧ l = 0 ∧ c = 0 ∧ zs = []) ∨ ∃ x, a = some x ∧ l ≤ c ∧ c ≤ maxLen ∧ zs.length = c ∧ (∀ i, i < zs.length → W.cell? (x.add i) = some (.int .u8 (zs.getD i 0))) ∧ ∀ n ∈ zs, (Lit.int .u8 n).wf = true
/-- a call, as a datum. -/
structure Do1 (H : Type) (W : World) (v0 v1 v2 v3 : Value) (D : DataW H) (y0 y1 y2 : Int) (a : Option Addr) (l c : Nat) (zs : List Int) : Prop where
  e0 : v0 = .int .i64 y0
  e1 : v1 = .int .i64 y1
  e2 : v2 = .int .i64 y2
  e3 : v3 = .slice a l c
  d : D = .agg [.lit (.int .i64 y0), .lit (.int .i64 y1), .lit (.int .i64 y2), Deep.intRow .u8 a l zs]
  row : ByteRow W a l c zs
set_option maxRecDepth 100000 in
theorem do_in {H : Type} {enc : TypeId × Value → H} {W : World} {base n : Nat} {cs : List Value} {D : DataW H} {Pl : List MemPlace} (h : DataW.trod enc Try.prog W base (fun _ => true) true n 32 cs = some (D, Pl)) :
    ∃ v0 v1 v2 v3, cs = [v0, v1, v2, v3] ∧ ∃ y0 y1 y2 a l c zs, Do1 H W v0 v1 v2 v3 D y0 y1 y2 a l c zs := by
  obtain ⟨xs, n', _, hx, hlen, hxl, hg⟩ := DataW.trod_struct Try.underlying32 h
  have hl4 : cs.length = 4 := by rw [hlen]; kernel_rfl
  match cs, hl4 with
  | [v0, v1, v2, v3], _ =>
    match xs, hxl with
    | [x0, x1, x2, x3], _ =>
      have g0 := hg 0 _ rfl; have g1 := hg 1 _ rfl; have g2 := hg 2 _ rfl; have g3 := hg 3 _ rfl
      obtain ⟨y0, e0, q0, _⟩ := DataW.trod_int (k := .i64) Try.underlying3 (show DataW.trod enc Try.prog W base (fun _ => true) true n' 3 [v0] = some x0 from g0)
      obtain ⟨y1, e1, q1, _⟩ := DataW.trod_int (k := .i64) Try.underlying3 (show DataW.trod enc Try.prog W base (fun _ => true) true n' 3 [v1] = some x1 from g1)
      obtain ⟨y2, e2, q2, _⟩ := DataW.trod_int (k := .i64) Try.underlying3 (show DataW.trod enc Try.prog W base (fun _ => true) true n' 3 [v2] = some x2 from g2)
      simp only [List.cons.injEq, and_true] at e0 e1 e2
      simp only [Prod.mk.injEq, List.map_cons, List.map_nil] at hx
      refine ⟨v0, v1, v2, v3, rfl, y0, y1, y2, ?_⟩
      rcases open_ints Try.underlying29 Try.underlying5 (by kernel_rfl) (show DataW.trod enc Try.prog W base (fun _ => true) true n' 29 [v3] = some x3 from g3) with ⟨e3, q3⟩ | ⟨a, l, c, zs, e3, _, hl, hm, hz, q3, hcell, hwz⟩
      · simp only [List.cons.injEq, and_true] at e3
        exact ⟨none, 0, 0, [], e0, e1, e2, e3, by rw [hx.1, q0, q1, q2, q3]; rfl, Or.inl ⟨rfl, rfl, rfl, rfl⟩⟩
      · simp only [List.cons.injEq, and_true] at e3
        simp only [if_true] at hz
        exact ⟨some a, l, c, zs, e0, e1, e2, e3, by rw [hx.1, q0, q1, q2, q3]; rfl, Or.inr ⟨a, rfl, hl, hm, hz, hcell, hwz⟩⟩

set_option maxRecDepth 100000 in
/-- what the frame tells of calls that came in. -/
theorem dos_in {H : Type} {enc : TypeId × Value → H} {W : World} {base : Nat} {ts : List TypeId} {ds : List (DataW H)} {j : Nat} {d : DataW H} {pl : List MemPlace} {a : Option Addr} {n cap : Nat}
    (hsz : (DataW.weightsEach Try.prog ts ds).all (· ≤ reachBytes) = true) (ht : ts[j]? = some 22) (hd : ds[j]? = some d) (h : DataW.Trod enc Try.prog W base (fun _ => true) true 22 (.slice a n cap) d pl) :
    ∃ wh nn zz ia il ic fb, Dos W a n wh nn zz ia il ic fb ∧ n ≤ 1000000000000000 := by
  obtain ⟨fuel, hf⟩ := h
  rcases Deep.open_slice Try.underlying22 hf with ⟨hcs, _⟩ | ⟨x, len, cap', m, k, D, Pl, hcs, _, hl, hm, hmm, hx, hr⟩
  · simp [Value.cells] at hcs
    obtain ⟨rfl, rfl, rfl⟩ := hcs
    exact ⟨fun _ => 0, fun _ => 0, fun _ => 0, fun _ => none, fun _ => 0, fun _ => 0, fun _ _ => 0, ⟨fun i hi => absurd hi (Nat.not_lt_zero i), fun i hi => absurd hi (Nat.not_lt_zero i), fun i hi => absurd hi (Nat.not_lt_zero i)⟩, by omega⟩
  · simp [Value.cells] at hcs
    obtain ⟨rfl, rfl, rfl⟩ := hcs
    simp only [Prod.mk.injEq] at hx
    simp only [if_true] at hmm
    have hmm' := hmm.symm
    subst hmm'
    have hC : Try.prog.cellsOf 32 = 4 := by kernel_rfl
    have hq := sized_slice hsz (j := j) (t := 22) (e := 32) ht (by rw [hd, hx.1]) Try.underlying22
    rw [show Try.prog.bytesOf 32 = 48 by kernel_rfl] at hq
    simp only [List.length_map, List.length_range, reachBytes] at hq
    have each : ∀ i, i < cap → ∃ y : (Value × Value × Value × Value) × (Int × Int × Int) × Option Addr × Nat × Nat × List Int,
        Do1 H W y.1.1 y.1.2.1 y.1.2.2.1 y.1.2.2.2 (D i) y.2.1.1 y.2.1.2.1 y.2.1.2.2 y.2.2.1 y.2.2.2.1 y.2.2.2.2.1 y.2.2.2.2.2 ∧
        W.cell? ((x.add (i * 4)).add 0) = some y.1.1 ∧ W.cell? ((x.add (i * 4)).add 1) = some y.1.2.1 ∧ W.cell? ((x.add (i * 4)).add 2) = some y.1.2.2.1 ∧ W.cell? ((x.add (i * 4)).add 3) = some y.1.2.2.2 := by
      intro i hi
      obtain ⟨cs', hc, ht'⟩ := hr i hi
      rw [hC] at hc
      obtain ⟨_, _, hat⟩ := World.cells?_some hc
      obtain ⟨v0, v1, v2, v3, rfl, y0, y1, y2, a', l, c, zs, hA⟩ := do_in ht'
      exact ⟨((v0, v1, v2, v3), (y0, y1, y2), a', l, c, zs), hA, hat 0 (by omega), hat 1 (by omega), hat 2 (by omega), hat 3 (by omega)⟩
    obtain ⟨y, hy⟩ := Deep.choose_lt each
    have hrow : ∀ i, i < n → (y i).2.2.2.2.1 ≤ 140737488355328 := fun i hi => by
      have hA := (hy i (by omega)).1
      rcases hA.row with ⟨_, _, h, _⟩ | ⟨ad, hAd, _, _, hzl, _⟩
      · rw [h]; omega
      · have hw := List.all_eq_true.1 hsz ((y i).2.2.2.2.2.length * Try.prog.bytesOf 5) (DataW.weights_mem_each ht (by rw [hd, hx.1]) _ (by
          have hu := Try.underlying22
          simp only [DataW.weights, hu]
          refine List.mem_cons_of_mem _ (List.mem_append_left _ (weightsAll_mem (x := D i) (List.mem_map.2 ⟨i, List.mem_range.2 hi, rfl⟩) ?_))
          have hu1 := Try.underlying32
          rw [hA.d]
          simp only [DataW.weights, hu1, List.map, DataW.weightsEach]
          refine List.mem_append_right _ (List.mem_append_right _ (List.mem_append_right _ (List.mem_append_left _ ?_)))
          have hu2 := Try.underlying29
          simp only [Deep.intRow, hAd, DataW.weights, hu2]
          refine List.mem_cons.2 (Or.inl ?_)
          simp only [lits, List.length_map, ← List.length_append, List.take_append_drop]))
        rw [show Try.prog.bytesOf 5 = 1 by kernel_rfl, hzl] at hw
        have hw' : (y i).2.2.2.2.1 * 1 ≤ 140737488351232 := of_decide_eq_true hw
        omega
    refine ⟨fun i => (y i).2.1.1, fun i => (y i).2.1.2.1, fun i => (y i).2.1.2.2, fun i => (y i).2.2.1, fun i => (y i).2.2.2.1, fun i => (y i).2.2.2.2.1, fun i => coef ((y i).2.2.2.2.2.take (y i).2.2.2.1) (y i).2.2.2.1, ⟨fun i hi => ?_, fun i hi => sl_row (hy i (by omega)).1.row, fun i hi => ?_⟩, by omega⟩
    · obtain ⟨hA, k0, k1, k2, k3⟩ := hy i (by omega)
      have hc0 := (hy 0 (by omega)).2.1
      obtain ⟨b, o, sp⟩ := x
      cases sp with
      | none =>
        rw [Addr.add_lit, Addr.add_lit, hA.e0] at k0
        rw [Addr.add_lit, Addr.add_lit, hA.e1] at k1
        rw [Addr.add_lit, Addr.add_lit, hA.e2] at k2
        rw [Addr.add_lit, Addr.add_lit, hA.e3] at k3
        exact ⟨b, o, rfl, k0, k1, k2, k3⟩
      | some sp => exact (no_spot (o := o) (b := b) (sp := sp) (by simpa [Addr.add] using hc0)).elim
    · have hA := (hy i (by omega)).1
      have hc := hrow i hi
      rcases hA.row with ⟨_, h, _, _⟩ | ⟨ad, _, h, _⟩
      · show (y i).2.2.2.1 ≤ _; rw [h]; omega
      · exact Nat.le_trans h hc
end Go.Proofs.Ytdjigbjheicfcaa
