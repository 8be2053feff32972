import Derived.Deep.SlicePairs
import Derived.Test.YtjlmajopfeplpaaGreatMg38
import Derived.Test.YtjlmajopfeplpaaGreatMg44
namespace Go.Proofs.YtjlmajopfeplpaaGreat.Ly
open Go.RowKit Go.Shelf Go.ChangeShapes Go.WideShapes

/-- what the frame tells of a table's rows that came in. -/
theorem tab_in {H : Type} {enc : TypeId × Value → H} {W : World} {base : Nat} {ts : List TypeId} {ds : List (DataW H)} {j : Nat} {d : DataW H} {pl : List MemPlace} {a : Option Addr} {n cap : Nat}
    (hsz : (DataW.weightsEach Tryz.prog ts ds).all (· ≤ reachBytes) = true) (ht : ts[j]? = some 25) (hd : ds[j]? = some d) (h : DataW.Trod enc Tryz.prog W base (fun _ => true) true 25 (.slice a n cap) d pl) :
    ∃ K L, Tb W a n K L ∧ (a = none → n = 0 ∧ cap = 0) ∧ n ≤ cap ∧ n ≤ 8796093022208 := by
  obtain ⟨fuel, hf⟩ := h
  rcases Deep.open_slice_pairs Tryz.underlying25 Tryz.underlying24 (by kernel_rfl) rfl rfl (by kernel_rfl) (by kernel_rfl) hf with ⟨hcs, _⟩ | ⟨x, len, cap', m, k, V0, V1, D0, D1, P0, P1, hcs, _, hl, hm, hmm, hx, hr⟩
  · simp [Value.cells] at hcs
    obtain ⟨rfl, rfl, rfl⟩ := hcs
    exact ⟨fun _ => 0, fun _ => 0, ⟨fun i hi => absurd hi (Nat.not_lt_zero i)⟩, fun _ => ⟨rfl, rfl⟩, Nat.le_refl _, by omega⟩
  · simp [Value.cells] at hcs
    obtain ⟨rfl, rfl, rfl⟩ := hcs
    simp only [Prod.mk.injEq] at hx
    simp only [if_true] at hmm
    have hmm' := hmm.symm
    subst hmm'
    have hq := sized_slice hsz (j := j) (t := 25) (e := 24) ht (by rw [hd, hx.1]) Tryz.underlying25
    rw [show Tryz.prog.bytesOf 24 = 16 by kernel_rfl] at hq
    simp only [List.length_map, List.length_range, reachBytes] at hq
    have each : ∀ i, i < cap → ∃ y : Int × Int, V0 i = .int .i64 y.1 ∧ V1 i = .int .i64 y.2 := by
      intro i hi
      obtain ⟨_, _, t0, t1⟩ := hr i hi
      obtain ⟨z, hz, _⟩ := DataW.trod_int (k := .i64) (t := 3) Tryz.underlying3 t0
      obtain ⟨z', hz', _⟩ := DataW.trod_int (k := .i64) (t := 3) Tryz.underlying3 t1
      simp only [List.cons.injEq, and_true] at hz hz'
      exact ⟨(z, z'), hz, hz'⟩
    obtain ⟨y, hy⟩ := Deep.choose_lt each
    refine ⟨fun i => (y i).1, fun i => (y i).2, ⟨fun i hi => ?_⟩, (fun e => by cases e), hl, by omega⟩
    obtain ⟨h1, h2, _⟩ := hr i (by omega)
    obtain ⟨e1, e2⟩ := hy i (by omega)
    have hc0 := (hr 0 (by omega)).1
    obtain ⟨b, o, sp⟩ := x
    cases sp with
    | none =>
      refine ⟨b, o, rfl, ?_, ?_⟩
      · rw [Addr.add_lit, e1] at h1; exact h1
      · rw [Addr.add_lit, e2] at h2; exact h2
    | some sp => exact (no_spot (o := o) (b := b) (sp := sp) (by simpa using hc0)).elim
end Go.Proofs.YtjlmajopfeplpaaGreat.Ly
