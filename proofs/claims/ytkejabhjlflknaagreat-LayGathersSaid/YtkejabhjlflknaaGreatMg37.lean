import Derived.Deep.SlicePairs
import Derived.Test.YtkejabhjlflknaaGreatMg20
import Derived.Test.YtkejabhjlflknaaGreatMg36
namespace Go.Proofs.YtkejabhjlflknaaGreat
open Go.RowKit Go.Shelf Go.ChangeShapes Go.WideShapes

/-- what the frame tells of held symbols that came in. -/
theorem held_in {H : Type} {enc : TypeId × Value → H} {W : World} {base : Nat} {ts : List TypeId} {ds : List (DataW H)} {j : Nat} {d : DataW H} {pl : List MemPlace} {a : Option Addr} {n cap : Nat}
    (hsz : (DataW.weightsEach Tryz.prog ts ds).all (· ≤ reachBytes) = true) (ht : ts[j]? = some 37) (hd : ds[j]? = some d) (h : DataW.Trod enc Tryz.prog W base (fun _ => true) true 37 (.slice a n cap) d pl) :
    ∃ h r l c f, Hs W a n h r l c f ∧ n ≤ 4398046510976 ∧ ∀ i, i < n → l i ≤ 140737488355328 := by
  obtain ⟨fuel, hf⟩ := h
  rcases Deep.open_slice_pairs Tryz.underlying37 Tryz.underlying54 (by kernel_rfl) rfl rfl (by kernel_rfl) (by kernel_rfl) hf with ⟨hcs, _⟩ | ⟨x, len, cap', m, k, V0, V1, D0, D1, P0, P1, hcs, _, hl, hm, hmm, hx, hr⟩
  · simp [Value.cells] at hcs
    obtain ⟨rfl, rfl, rfl⟩ := hcs
    exact ⟨fun _ => 0, fun _ => none, fun _ => 0, fun _ => 0, fun _ _ => 0, ⟨fun _ _ => (by omega : 0 < 256), fun i hi => absurd hi (Nat.not_lt_zero i), fun i hi => absurd hi (Nat.not_lt_zero i)⟩, by omega, fun i hi => absurd hi (Nat.not_lt_zero i)⟩
  · simp [Value.cells] at hcs
    obtain ⟨rfl, rfl, rfl⟩ := hcs
    simp only [Prod.mk.injEq] at hx
    simp only [if_true] at hmm
    have hmm' := hmm.symm
    subst hmm'
    have hq := sized_slice hsz (j := j) (t := 37) (e := 54) ht (by rw [hd, hx.1]) Tryz.underlying37
    rw [show Tryz.prog.bytesOf 54 = 32 by kernel_rfl] at hq
    simp only [List.length_map, List.length_range, reachBytes] at hq
    have each : ∀ i, i < cap → ∃ y : Int × Option Addr × Nat × Nat × List Int, V0 i = .int .i64 y.1 ∧ V1 i = .slice y.2.1 y.2.2.1 y.2.2.2.1 ∧ D1 i = Deep.intRow .u8 y.2.1 y.2.2.1 y.2.2.2.2 ∧ y.2.2.1 ≤ y.2.2.2.1 ∧ y.2.2.2.1 ≤ maxLen ∧ y.2.2.2.2.length = y.2.2.2.1 ∧
        (∀ n ∈ y.2.2.2.2, (Lit.int .u8 n).wf = true) ∧ (y.2.1 = none → y.2.2.2.1 = 0) ∧ ∀ a', y.2.1 = some a' → ∀ c, c < y.2.2.2.1 → W.cell? (a'.add c) = some (.int .u8 (y.2.2.2.2.getD c 0)) := by
      intro i hi
      obtain ⟨_, _, t0, t1⟩ := hr i hi
      obtain ⟨z, hz, _⟩ := DataW.trod_int (k := .i64) (t := 3) Tryz.underlying3 t0
      simp only [List.cons.injEq, and_true] at hz
      rcases open_ints (t := 50) (e := 5) Tryz.underlying50 Tryz.underlying5 (by kernel_rfl) t1 with ⟨hcs, hy⟩ | ⟨a', len', cap', zs, hcs, hb', hl', hm', hz', hy, hcell, hwz⟩
      · simp only [Prod.mk.injEq] at hy
        exact ⟨(z, none, 0, 0, []), hz, by simpa using hcs, hy.1, Nat.le_refl _, Nat.zero_le _, rfl, by simp, fun _ => rfl, fun _ hh => by cases hh⟩
      · simp only [Prod.mk.injEq] at hy
        simp only [if_true] at hz'
        refine ⟨(z, some a', len', cap', zs), hz, by simpa using hcs, hy.1, hl', hm', hz', hwz, (fun hh => by cases hh), fun a'' hh => ?_⟩
        cases hh
        exact fun c hc => hcell c (by rw [hz']; exact hc)
    obtain ⟨y, hy⟩ := Deep.choose_lt each
    have hrow : ∀ i, i < n → (y i).2.2.2.1 ≤ 140737488355328 := fun i hi => by
      obtain ⟨_, _, hD, _, _, hz, _, h0, _⟩ := hy i (by omega)
      cases hA : (y i).2.1 with
      | none => rw [h0 hA]; omega
      | some ad =>
        have hw := List.all_eq_true.1 hsz ((y i).2.2.2.2.length * Tryz.prog.bytesOf 5) (DataW.weights_mem_each ht (by rw [hd, hx.1]) _ (by
          have hu := Tryz.underlying37
          simp only [DataW.weights, hu]
          refine List.mem_cons_of_mem _ (List.mem_append_left _ (weightsAll_mem (x := .agg [D0 i, D1 i]) (List.mem_map.2 ⟨i, List.mem_range.2 hi, rfl⟩) ?_))
          have hu1 := Tryz.underlying54
          simp only [DataW.weights, hu1, List.map, DataW.weightsEach]
          refine List.mem_append_right _ (List.mem_append_left _ ?_)
          have hu2 := Tryz.underlying50
          rw [hD]
          simp only [Deep.intRow, hA, DataW.weights, hu2]
          refine List.mem_cons.2 (Or.inl ?_)
          simp only [lits, List.length_map, ← List.length_append, List.take_append_drop]))
        rw [show Tryz.prog.bytesOf 5 = 1 by kernel_rfl] at hw
        have hw' : (y i).2.2.2.2.length * 1 ≤ 140737488351232 := of_decide_eq_true hw
        omega
    have hby : ∀ i j, i < n → j < (y i).2.2.1 → ∃ m : Nat, (y i).2.2.2.2.getD j 0 = (m : Int) ∧ m < 256 := fun i j hi hj => by
      obtain ⟨_, _, _, hLC, _, hz, hwf, _, _⟩ := hy i (by omega)
      have hjz : j < (y i).2.2.2.2.length := by omega
      have : (y i).2.2.2.2.getD j 0 ∈ (y i).2.2.2.2 := by
        rw [List.getD_eq_getElem?_getD, List.getElem?_eq_getElem hjz]; exact List.getElem_mem hjz
      have hb := bounds_u8 (hwf _ this)
      exact ⟨((y i).2.2.2.2.getD j 0).toNat, by omega, by omega⟩
    have hbm : Mt.Bm (fun i j => if i < n ∧ j < (y i).2.2.1 then ((y i).2.2.2.2.getD j 0).toNat else 0) := fun i j => by
      show (if i < n ∧ j < (y i).2.2.1 then _ else _) < 256
      split
      · rename_i hc
        obtain ⟨m, h1, h2⟩ := hby i j hc.1 hc.2
        rw [h1, Int.toNat_natCast]; exact h2
      · omega
    refine ⟨fun i => (y i).1, fun i => (y i).2.1, fun i => (y i).2.2.1, fun i => (y i).2.2.2.1, fun i j => if i < n ∧ j < (y i).2.2.1 then ((y i).2.2.2.2.getD j 0).toNat else 0, ⟨hbm, fun i hi => ?_, fun i hi => ?_⟩, by omega, fun i hi => Nat.le_trans (hy i (by omega)).2.2.2.1 (hrow i hi)⟩
    · obtain ⟨h1, h2, _⟩ := hr i (by omega)
      obtain ⟨e1, e2, _⟩ := hy i (by omega)
      have hc0 := (hr 0 (by omega)).1
      obtain ⟨b, o, sp⟩ := x
      cases sp with
      | none =>
        refine ⟨b, o, rfl, ?_, ?_⟩
        · rw [Addr.add_lit, e1] at h1; exact h1
        · rw [Addr.add_lit, e2] at h2; exact h2
      | some sp => exact (no_spot (o := o) (b := b) (sp := sp) (by simpa using hc0)).elim
    · obtain ⟨_, _, _, hLC, hCm, hz, _, h0, hcell⟩ := hy i (by omega)
      refine ⟨hLC, hCm, hbm i, fun k hk => ?_, fun e => ?_, fun ad e hne => ?_, fun ad e k hk => ?_⟩
      · show (if i < n ∧ k < (y i).2.2.1 then _ else _) = 0
        rw [if_neg (by omega)]
      · have := h0 e; omega
      · have hc := hcell ad e 0 (by omega)
        obtain ⟨b, o, sp⟩ := ad
        cases sp with
        | none => rfl
        | some sp => exact (no_spot hc).elim
      · have hc := hcell ad e k (by omega)
        have hc0 := hcell ad e 0 (by omega)
        obtain ⟨m, h1, h2⟩ := hby i k hi hk
        show _ = some (Value.int .u8 ((if i < n ∧ k < (y i).2.2.1 then ((y i).2.2.2.2.getD k 0).toNat else 0 : Nat) : Int))
        rw [if_pos ⟨hi, hk⟩, h1, Int.toNat_natCast]
        rw [h1] at hc
        obtain ⟨b, o, sp⟩ := ad
        cases sp with
        | none => rw [Addr.add_lit] at hc; exact hc
        | some sp => exact (no_spot hc0).elim
end Go.Proofs.YtkejabhjlflknaaGreat
