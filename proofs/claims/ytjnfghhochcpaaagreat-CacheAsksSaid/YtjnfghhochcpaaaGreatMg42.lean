import Derived.Deep.SlicePairs
import Derived.Test.YtjnfghhochcpaaaGreatMg26
import Derived.Test.YtjnfghhochcpaaaGreatMg41
namespace Go.Proofs.YtjnfghhochcpaaaGreat
open Go.RowKit Go.Shelf Go.ChangeShapes Go.WideShapes

/-- an ask, as a datum: its numbers, its indexes. -/
structure Ask1 (H : Type) (W : World) (v0 v1 v2 v3 v4 : Value) (D : DataW H) (y0 y1 y2 y3 : Int) (a : Option Addr) (l c : Nat) (zs : List Int) : Prop where
  e0 : v0 = .int .i64 y0
  e1 : v1 = .int .i64 y1
  e2 : v2 = .int .i64 y2
  e3 : v3 = .int .u8 y3
  w3 : (Lit.int .u8 y3).wf = true
  e4 : v4 = .slice a l c
  d : D = .agg [.lit (.int .i64 y0), .lit (.int .i64 y1), .lit (.int .i64 y2), .lit (.int .u8 y3), Deep.intRow .i64 a l zs]
  lc : l ≤ c ∧ c ≤ maxLen
  len : zs.length = c
  none_ : a = none → c = 0
  cell : ∀ a', a = some a' → ∀ i, i < c → W.cell? (a'.add i) = some (.int .i64 (zs.getD i 0))
set_option maxRecDepth 100000 in
theorem ask_in {H : Type} {enc : TypeId × Value → H} {W : World} {base n : Nat} {cs : List Value} {D : DataW H} {Pl : List MemPlace} (h : DataW.trod enc Tryz.prog W base (fun _ => true) true n 41 cs = some (D, Pl)) :
    ∃ v0 v1 v2 v3 v4, cs = [v0, v1, v2, v3, v4] ∧ ∃ y0 y1 y2 y3 a l c zs, Ask1 H W v0 v1 v2 v3 v4 D y0 y1 y2 y3 a l c zs := by
  obtain ⟨xs, n', _, hx, hlen, hxl, hg⟩ := DataW.trod_struct Tryz.underlying41 h
  have hl5 : cs.length = 5 := by rw [hlen]; kernel_rfl
  match cs, hl5 with
  | [v0, v1, v2, v3, v4], _ =>
    match xs, hxl with
    | [x0, x1, x2, x3, x4], _ =>
      have g0 := hg 0 _ rfl; have g1 := hg 1 _ rfl; have g2 := hg 2 _ rfl; have g3 := hg 3 _ rfl; have g4 := hg 4 _ rfl
      obtain ⟨y0, e0, q0, _⟩ := DataW.trod_int (k := .i64) Tryz.underlying3 (show DataW.trod enc Tryz.prog W base (fun _ => true) true n' 3 [v0] = some x0 from g0)
      obtain ⟨y1, e1, q1, _⟩ := DataW.trod_int (k := .i64) Tryz.underlying3 (show DataW.trod enc Tryz.prog W base (fun _ => true) true n' 3 [v1] = some x1 from g1)
      obtain ⟨y2, e2, q2, _⟩ := DataW.trod_int (k := .i64) Tryz.underlying3 (show DataW.trod enc Tryz.prog W base (fun _ => true) true n' 3 [v2] = some x2 from g2)
      obtain ⟨y3, e3, q3, w3⟩ := DataW.trod_int (k := .u8) Tryz.underlying5 (show DataW.trod enc Tryz.prog W base (fun _ => true) true n' 5 [v3] = some x3 from g3)
      simp only [List.cons.injEq, and_true] at e0 e1 e2 e3
      simp only [Prod.mk.injEq, List.map_cons, List.map_nil] at hx
      refine ⟨v0, v1, v2, v3, v4, rfl, y0, y1, y2, y3, ?_⟩
      rcases open_ints Tryz.underlying29 Tryz.underlying3 (by kernel_rfl) (show DataW.trod enc Tryz.prog W base (fun _ => true) true n' 29 [v4] = some x4 from g4) with ⟨e4, q4⟩ | ⟨a, l, c, zs, e4, _, hl, hm, hz, q4, hcell, _⟩
      · simp only [List.cons.injEq, and_true] at e4
        exact ⟨none, 0, 0, [], e0, e1, e2, e3, w3, e4, by rw [hx.1, q0, q1, q2, q3, q4]; rfl, ⟨Nat.le_refl _, Nat.zero_le _⟩, rfl, fun _ => rfl, fun _ e => by cases e⟩
      · simp only [List.cons.injEq, and_true] at e4
        simp only [if_true] at hz
        exact ⟨some a, l, c, zs, e0, e1, e2, e3, w3, e4, by rw [hx.1, q0, q1, q2, q3, q4]; rfl, ⟨hl, hm⟩, hz, fun e => (by cases e), fun a' e i hi => by cases e; exact hcell i (by rw [hz]; exact hi)⟩

set_option maxRecDepth 100000 in
/-- what the frame tells of asks that came in. -/
theorem asks_in {H : Type} {enc : TypeId × Value → H} {W : World} {base : Nat} {ts : List TypeId} {ds : List (DataW H)} {j : Nat} {d : DataW H} {pl : List MemPlace} {a : Option Addr} {n cap : Nat}
    (hsz : (DataW.weightsEach Tryz.prog ts ds).all (· ≤ reachBytes) = true) (ht : ts[j]? = some 31) (hd : ds[j]? = some d) (h : DataW.Trod enc Tryz.prog W base (fun _ => true) true 31 (.slice a n cap) d pl) :
    ∃ wh kq lg fs ia il ic hI, As W a n wh kq lg fs ia il ic hI ∧ n ≤ 1000000000000000 := by
  obtain ⟨fuel, hf⟩ := h
  rcases Deep.open_slice Tryz.underlying31 hf with ⟨hcs, _⟩ | ⟨x, len, cap', m, k, D, Pl, hcs, _, hl, hm, hmm, hx, hr⟩
  · simp [Value.cells] at hcs
    obtain ⟨rfl, rfl, rfl⟩ := hcs
    exact ⟨fun _ => 0, fun _ => 0, fun _ => 0, fun _ => 0, fun _ => none, fun _ => 0, fun _ => 0, fun _ _ => 0, ⟨fun i hi => absurd hi (Nat.not_lt_zero i), fun i hi => absurd hi (Nat.not_lt_zero i), fun i hi => absurd hi (Nat.not_lt_zero i), fun i hi => absurd hi (Nat.not_lt_zero i)⟩, by omega⟩
  · simp [Value.cells] at hcs
    obtain ⟨rfl, rfl, rfl⟩ := hcs
    simp only [Prod.mk.injEq] at hx
    simp only [if_true] at hmm
    have hmm' := hmm.symm
    subst hmm'
    have hC : Tryz.prog.cellsOf 41 = 5 := by kernel_rfl
    have hq := sized_slice hsz (j := j) (t := 31) (e := 41) ht (by rw [hd, hx.1]) Tryz.underlying31
    rw [show Tryz.prog.bytesOf 41 = 56 by kernel_rfl] at hq
    simp only [List.length_map, List.length_range, reachBytes] at hq
    have each : ∀ i, i < cap → ∃ y : (Value × Value × Value × Value × Value) × (Int × Int × Int × Int) × Option Addr × Nat × Nat × List Int,
        Ask1 H W y.1.1 y.1.2.1 y.1.2.2.1 y.1.2.2.2.1 y.1.2.2.2.2 (D i) y.2.1.1 y.2.1.2.1 y.2.1.2.2.1 y.2.1.2.2.2 y.2.2.1 y.2.2.2.1 y.2.2.2.2.1 y.2.2.2.2.2 ∧
        W.cell? ((x.add (i * 5)).add 0) = some y.1.1 ∧ W.cell? ((x.add (i * 5)).add 1) = some y.1.2.1 ∧ W.cell? ((x.add (i * 5)).add 2) = some y.1.2.2.1 ∧ W.cell? ((x.add (i * 5)).add 3) = some y.1.2.2.2.1 ∧ W.cell? ((x.add (i * 5)).add 4) = some y.1.2.2.2.2 := by
      intro i hi
      obtain ⟨cs', hc, ht'⟩ := hr i hi
      rw [hC] at hc
      obtain ⟨_, _, hat⟩ := World.cells?_some hc
      obtain ⟨v0, v1, v2, v3, v4, rfl, y0, y1, y2, y3, a', l, c, zs, hA⟩ := ask_in ht'
      exact ⟨((v0, v1, v2, v3, v4), (y0, y1, y2, y3), a', l, c, zs), hA, hat 0 (by omega), hat 1 (by omega), hat 2 (by omega), hat 3 (by omega), hat 4 (by omega)⟩
    obtain ⟨y, hy⟩ := Deep.choose_lt each
    have hrow : ∀ i, i < n → (y i).2.2.2.2.1 ≤ 140737488355328 := fun i hi => by
      have hA := (hy i (by omega)).1
      cases hAd : (y i).2.2.1 with
      | none => rw [hA.none_ hAd]; omega
      | some ad =>
        have hw := List.all_eq_true.1 hsz ((y i).2.2.2.2.2.length * Tryz.prog.bytesOf 3) (DataW.weights_mem_each ht (by rw [hd, hx.1]) _ (by
          have hu := Tryz.underlying31
          simp only [DataW.weights, hu]
          refine List.mem_cons_of_mem _ (List.mem_append_left _ (weightsAll_mem (x := D i) (List.mem_map.2 ⟨i, List.mem_range.2 hi, rfl⟩) ?_))
          have hu1 := Tryz.underlying41
          rw [hA.d]
          simp only [DataW.weights, hu1, List.map, DataW.weightsEach]
          refine List.mem_append_right _ (List.mem_append_right _ (List.mem_append_right _ (List.mem_append_right _ (List.mem_append_left _ ?_))))
          have hu2 := Tryz.underlying29
          simp only [Deep.intRow, hAd, DataW.weights, hu2]
          refine List.mem_cons.2 (Or.inl ?_)
          simp only [lits, List.length_map, ← List.length_append, List.take_append_drop]))
        rw [show Tryz.prog.bytesOf 3 = 8 by kernel_rfl, hA.len] at hw
        have hw' : (y i).2.2.2.2.1 * 8 ≤ 140737488351232 := of_decide_eq_true hw
        omega
    refine ⟨fun i => (y i).2.1.1, fun i => (y i).2.1.2.1, fun i => (y i).2.1.2.2.1, fun i => (y i).2.1.2.2.2.toNat, fun i => (y i).2.2.1, fun i => (y i).2.2.2.1, fun i => (y i).2.2.2.2.1, fun i j => (y i).2.2.2.2.2.getD j 0, ⟨fun i hi => ?_, fun i hi => ?_, fun i hi => ?_, fun i hi e => (hy i (by omega)).1.none_ e⟩, by omega⟩
    · obtain ⟨hA, k0, k1, k2, k3, k4⟩ := hy i (by omega)
      have hc0 := (hy 0 (by omega)).2.1
      have hu3 := bounds_u8 hA.w3
      obtain ⟨b, o, sp⟩ := x
      cases sp with
      | none =>
        rw [Addr.add_lit, Addr.add_lit, hA.e0] at k0
        rw [Addr.add_lit, Addr.add_lit, hA.e1] at k1
        rw [Addr.add_lit, Addr.add_lit, hA.e2] at k2
        rw [Addr.add_lit, Addr.add_lit, hA.e3] at k3
        rw [Addr.add_lit, Addr.add_lit, hA.e4] at k4
        refine ⟨b, o, rfl, k0, k1, k2, ?_, k4⟩
        rw [k3, Int.toNat_of_nonneg hu3.1]
      | some sp => exact (no_spot (o := o) (b := b) (sp := sp) (by simpa [Addr.add] using hc0)).elim
    · have hA := (hy i (by omega)).1
      refine ⟨fun j hj => ?_⟩
      have hLC := hA.lc.1
      cases hAd : (y i).2.2.1 with
      | none => have := hA.none_ hAd; have : (y i).2.2.2.1 = 0 := by omega
                omega
      | some ad =>
        have hc := hA.cell ad hAd j (by have : j < (y i).2.2.2.1 := hj; omega)
        have hc0 := hA.cell ad hAd 0 (by have : j < (y i).2.2.2.1 := hj; omega)
        obtain ⟨b, o, sp⟩ := ad
        cases sp with
        | none => rw [Addr.add_lit] at hc; exact ⟨b, o, rfl, hc⟩
        | some sp => exact (no_spot hc0).elim
    · have hA := (hy i (by omega)).1
      have hu3 := bounds_u8 hA.w3
      exact ⟨hA.lc.1, hA.lc.2, Nat.le_trans hA.lc.1 (hrow i hi), by show (y i).2.1.2.2.2.toNat < 256; omega⟩
end Go.Proofs.YtjnfghhochcpaaaGreat
