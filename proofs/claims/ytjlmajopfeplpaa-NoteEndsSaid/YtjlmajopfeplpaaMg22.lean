import Derived.Deep.SlicePairs
import Derived.OpenShut
import Derived.SizedLaws
import Derived.ChangeOld
import Derived.Test.YtjlmajopfeplpaaMg13
import Derived.Test.YtjlmajopfeplpaaMg21
namespace Go.Proofs.Ytjlmajopfeplpaa.Nt
open Go.RowKit Go.Shelf Go.ChangeShapes Go.WideShapes

/-- what the frame tells of a table's rows that came in. -/
theorem cts_in {H : Type} {enc : TypeId × Value → H} {W : World} {base : Nat} {ts : List TypeId} {ds : List (DataW H)} {j : Nat} {d : DataW H} {pl : List MemPlace} {a : Option Addr} {n cap : Nat}
    (hsz : (DataW.weightsEach Try.prog ts ds).all (· ≤ reachBytes) = true) (ht : ts[j]? = some 22) (hd : ds[j]? = some d) (h : DataW.Trod enc Try.prog W base (fun _ => true) true 22 (.slice a n cap) d pl) :
    ∃ K L, Tb W a n K L ∧ (a = none → n = 0 ∧ cap = 0) ∧ n ≤ cap ∧ n ≤ 8796093022208 := by
  obtain ⟨fuel, hf⟩ := h
  rcases Deep.open_slice_pairs Try.underlying22 Try.underlying41 (by kernel_rfl) rfl rfl (by kernel_rfl) (by kernel_rfl) hf with ⟨hcs, _⟩ | ⟨x, len, cap', m, k, V0, V1, D0, D1, P0, P1, hcs, _, hl, hm, hmm, hx, hr⟩
  · simp [Value.cells] at hcs
    obtain ⟨rfl, rfl, rfl⟩ := hcs
    exact ⟨fun _ => 0, fun _ => 0, ⟨fun i hi => absurd hi (Nat.not_lt_zero i)⟩, fun _ => ⟨rfl, rfl⟩, Nat.le_refl _, by omega⟩
  · simp [Value.cells] at hcs
    obtain ⟨rfl, rfl, rfl⟩ := hcs
    simp only [Prod.mk.injEq] at hx
    simp only [if_true] at hmm
    have hmm' := hmm.symm
    subst hmm'
    have hq := sized_slice hsz (j := j) (t := 22) (e := 41) ht (by rw [hd, hx.1]) Try.underlying22
    rw [show Try.prog.bytesOf 41 = 16 by kernel_rfl] at hq
    simp only [List.length_map, List.length_range, reachBytes] at hq
    have each : ∀ i, i < cap → ∃ y : Int × Int, V0 i = .int .i64 y.1 ∧ V1 i = .int .i64 y.2 := by
      intro i hi
      obtain ⟨_, _, t0, t1⟩ := hr i hi
      obtain ⟨z, hz, _⟩ := DataW.trod_int (k := .i64) (t := 3) Try.underlying3 t0
      obtain ⟨z', hz', _⟩ := DataW.trod_int (k := .i64) (t := 3) Try.underlying3 t1
      simp only [List.cons.injEq, and_true] at hz hz'
      exact ⟨(z, z'), hz, hz'⟩
    obtain ⟨y, hy⟩ := Deep.choose_lt each
    refine ⟨fun i => (y i).1, fun i => (y i).2, ⟨fun i hi => ?_⟩, (fun e => by cases e), hl, by omega⟩
    obtain ⟨h1, h2, _⟩ := hr i (by omega)
    obtain ⟨e1, e2⟩ := hy i (by omega)
    have hc0 := (hr 0 (by omega)).1
    obtain ⟨b, o, sp⟩ := x
    cases sp with
    | none =>
      refine ⟨b, o, rfl, ?_, ?_⟩
      · rw [Addr.add_lit, e1] at h1; exact h1
      · rw [Addr.add_lit, e2] at h2; exact h2
    | some sp => exact (no_spot (o := o) (b := b) (sp := sp) (by simpa using hc0)).elim
/-- what the frame tells of a table within a struct. -/
theorem ctsl_in {H : Type} {enc : TypeId × Value → H} {W : World} {base : Nat} {ts : List TypeId} {ds : List (DataW H)} {j n : Nat} {cs : List Value} {y : DataW H × List MemPlace}
    (hsz : (DataW.weightsEach Try.prog ts ds).all (· ≤ reachBytes) = true) (ht : ts[j]? = some 22) (hd : ds[j]? = some y.1) (hf : DataW.trod enc Try.prog W base (fun _ => true) true n 22 cs = some y) :
    ∃ a len cap K L, cs = [.slice a len cap] ∧ Tb W a len K L ∧ (a = none → len = 0 ∧ cap = 0) ∧ len ≤ cap ∧ len ≤ 8796093022208 := by
  rcases Deep.open_slice_pairs Try.underlying22 Try.underlying41 (by kernel_rfl) rfl rfl (by kernel_rfl) (by kernel_rfl) hf with ⟨hcs, _⟩ | ⟨x, len, cap', m, k, V0, V1, D0, D1, P0, P1, hcs, _, hl, hm, hmm, hx, hr⟩
  · exact ⟨none, 0, 0, fun _ => 0, fun _ => 0, hcs, ⟨fun i hi => absurd hi (Nat.not_lt_zero i)⟩, fun _ => ⟨rfl, rfl⟩, Nat.le_refl _, by omega⟩
  · have hv := cts_in (j := j) hsz ht hd (a := some x) (n := len) (cap := cap') ⟨n, by rw [show (Value.slice (some x) len cap').cells.toList = cs from hcs.symm]; exact hf⟩
    obtain ⟨K, L, h1, h2, h3, h4⟩ := hv
    exact ⟨some x, len, cap', K, L, hcs, h1, h2, h3, h4⟩
set_option maxRecDepth 100000 in
/-- what the frame tells of a report that came in. -/
theorem note_in {H : Type} {enc : TypeId × Value → H} {W : World} {base b0 : Nat} {r : Reach} {v : Value} {ts : List TypeId} {ds : List (DataW H)} {j : Nat} {d : DataW H} {pl : List MemPlace}
    (hsz : (DataW.weightsEach Try.prog ts ds).all (· ≤ reachBytes) = true) (ht : ts[j]? = some 24) (hd : ds[j]? = some d)
    (hval : Value.okWide Try.prog W r b0 24 v) (h : DataW.Trod enc Try.prog W base (fun _ => true) true 24 v d pl) :
    ∃ (hh : Mn) (a : Option Addr) (c : Nat), v = nV hh a c ∧ Tb W a hh.m hh.C hh.T ∧ (a = none → hh.m = 0 ∧ c = 0) ∧ hh.m ≤ c ∧ hh.m ≤ 8796093022208 := by
  obtain ⟨fuel, hf⟩ := h
  obtain ⟨cs, rfl, hs6⟩ : ∃ cs : Array Value, v = .agg cs ∧ cs.size = 4 := by
    unfold Value.okWide at hval
    rw [Try.underlying24] at hval
    obtain ⟨cs, e, h1, _⟩ := hval
    exact ⟨cs, e, h1.trans (by kernel_rfl)⟩
  obtain ⟨xs, n, _, hx, hl, hlen, hfl⟩ := DataW.trod_struct Try.underlying24 hf
  have hl6 : xs.length = 4 := hlen
  have hx1 : d = .agg (xs.map (·.1)) := congrArg Prod.fst hx
  have hin : (DataW.weightsEach Try.prog [3, 3, 3, 22] (xs.map (·.1))).all (· ≤ reachBytes) = true :=
    List.all_eq_true.2 fun y hy => List.all_eq_true.1 hsz y (DataW.weights_mem_each ht (by rw [hd, hx1]) _ (by
      have hu := Try.underlying24
      simp only [DataW.weights, hu]
      exact hy))
  obtain ⟨y0, y1, y2, y3, rfl⟩ : ∃ y0 y1 y2 y3, xs = [y0, y1, y2, y3] := by
    match xs, hl6 with
    | [a, b, c, e], _ => exact ⟨a, b, c, e, rfl⟩
  obtain ⟨l⟩ := cs
  have hs6 : l.length = 4 := hs6
  obtain ⟨c0, c1, c2, c3, rfl⟩ : ∃ c0 c1 c2 c3, l = [c0, c1, c2, c3] := by
    match l, hs6 with
    | [a, b, c, e], _ => exact ⟨a, b, c, e, rfl⟩
  have t0 := (hfl 0 _ rfl).trans (show [y0, y1, y2, y3][0]? = some y0 from rfl)
  have t1 := (hfl 1 _ rfl).trans (show [y0, y1, y2, y3][1]? = some y1 from rfl)
  have t2 := (hfl 2 _ rfl).trans (show [y0, y1, y2, y3][2]? = some y2 from rfl)
  have t3 := (hfl 3 _ rfl).trans (show [y0, y1, y2, y3][3]? = some y3 from rfl)
  obtain ⟨a, m, c, K, L, e5, H1, H2, H3, H4⟩ := ctsl_in (j := 3) (y := y3) hin rfl rfl t3
  obtain ⟨z0, f0, _⟩ := DataW.trod_int (k := .i64) (t := 3) Try.underlying3 t0
  obtain ⟨z1, f1, _⟩ := DataW.trod_int (k := .i64) (t := 3) Try.underlying3 t1
  obtain ⟨z2, f2, _⟩ := DataW.trod_int (k := .i64) (t := 3) Try.underlying3 t2
  have d0 : [c0] = [Value.int .i64 z0] := Eq.trans (by kernel_rfl) f0
  have d1 : [c1] = [Value.int .i64 z1] := Eq.trans (by kernel_rfl) f1
  have d2 : [c2] = [Value.int .i64 z2] := Eq.trans (by kernel_rfl) f2
  have d3 : [c3] = [.slice a m c] := Eq.trans (by kernel_rfl) e5
  simp only [List.cons.injEq, and_true] at d0 d1 d2 d3
  refine ⟨⟨z0, z1, z2, m, K, L⟩, a, c, ?_, H1, H2, H3, H4⟩
  rw [d0, d1, d2, d3]; rfl
end Go.Proofs.Ytjlmajopfeplpaa.Nt
