import Derived.OpenShut
import Derived.SizedLaws
import Derived.ChangeOld
import Derived.Test.YtjlmajopfeplpaaGreatMg48
import Derived.Test.YtjlmajopfeplpaaGreatMg50
namespace Go.Proofs.YtjlmajopfeplpaaGreat.He
open Go.RowKit Go.Shelf Go.ChangeShapes Go.WideShapes
open Go.Proofs.YtjlmajopfeplpaaGreat.Ly (Tb)

/-- what the frame tells of a table within a struct. -/
theorem tabl_in {H : Type} {enc : TypeId × Value → H} {W : World} {base : Nat} {ts : List TypeId} {ds : List (DataW H)} {j n : Nat} {cs : List Value} {y : DataW H × List MemPlace}
    (hsz : (DataW.weightsEach Tryz.prog ts ds).all (· ≤ reachBytes) = true) (ht : ts[j]? = some 25) (hd : ds[j]? = some y.1) (hf : DataW.trod enc Tryz.prog W base (fun _ => true) true n 25 cs = some y) :
    ∃ a len cap K L, cs = [.slice a len cap] ∧ Tb W a len K L ∧ (a = none → len = 0 ∧ cap = 0) ∧ len ≤ cap ∧ len ≤ 8796093022208 := by
  rcases Deep.open_slice_pairs Tryz.underlying25 Tryz.underlying24 (by kernel_rfl) rfl rfl (by kernel_rfl) (by kernel_rfl) hf with ⟨hcs, _⟩ | ⟨x, len, cap', m, k, V0, V1, D0, D1, P0, P1, hcs, _, hl, hm, hmm, hx, hr⟩
  · exact ⟨none, 0, 0, fun _ => 0, fun _ => 0, hcs, ⟨fun i hi => absurd hi (Nat.not_lt_zero i)⟩, fun _ => ⟨rfl, rfl⟩, Nat.le_refl _, by omega⟩
  · have hv := Ly.tab_in (j := j) hsz ht hd (a := some x) (n := len) (cap := cap') ⟨n, by rw [show (Value.slice (some x) len cap').cells.toList = cs from hcs.symm]; exact hf⟩
    obtain ⟨K, L, h1, h2, h3, h4⟩ := hv
    exact ⟨some x, len, cap', K, L, hcs, h1, h2, h3, h4⟩
set_option maxRecDepth 100000 in
/-- what the frame tells of a header that came in. -/
theorem head_in {H : Type} {enc : TypeId × Value → H} {W : World} {base b0 : Nat} {r : Reach} {v : Value} {ts : List TypeId} {ds : List (DataW H)} {j : Nat} {d : DataW H} {pl : List MemPlace}
    (hsz : (DataW.weightsEach Tryz.prog ts ds).all (· ≤ reachBytes) = true) (ht : ts[j]? = some 27) (hd : ds[j]? = some d)
    (hval : Value.okWide Tryz.prog W r b0 27 v) (h : DataW.Trod enc Tryz.prog W base (fun _ => true) true 27 v d pl) :
    ∃ (hh : Hr) (a : Option Addr) (c : Nat), v = hV hh a c ∧ Tb W a hh.m hh.K hh.L ∧ (a = none → hh.m = 0 ∧ c = 0) ∧ hh.m ≤ c ∧ hh.m ≤ 8796093022208 := by
  obtain ⟨fuel, hf⟩ := h
  obtain ⟨cs, rfl, hs6⟩ : ∃ cs : Array Value, v = .agg cs ∧ cs.size = 6 := by
    unfold Value.okWide at hval
    rw [Tryz.underlying27] at hval
    obtain ⟨cs, e, h1, _⟩ := hval
    exact ⟨cs, e, h1.trans (by kernel_rfl)⟩
  obtain ⟨xs, n, _, hx, hl, hlen, hfl⟩ := DataW.trod_struct Tryz.underlying27 hf
  have hl6 : xs.length = 6 := hlen
  have hx1 : d = .agg (xs.map (·.1)) := congrArg Prod.fst hx
  have hin : (DataW.weightsEach Tryz.prog [3, 3, 3, 3, 3, 25] (xs.map (·.1))).all (· ≤ reachBytes) = true :=
    List.all_eq_true.2 fun y hy => List.all_eq_true.1 hsz y (DataW.weights_mem_each ht (by rw [hd, hx1]) _ (by
      have hu := Tryz.underlying27
      simp only [DataW.weights, hu]
      exact hy))
  obtain ⟨y0, y1, y2, y3, y4, y5, rfl⟩ : ∃ y0 y1 y2 y3 y4 y5, xs = [y0, y1, y2, y3, y4, y5] := by
    match xs, hl6 with
    | [a, b, c, e, f, g], _ => exact ⟨a, b, c, e, f, g, rfl⟩
  obtain ⟨l⟩ := cs
  have hs6 : l.length = 6 := hs6
  obtain ⟨c0, c1, c2, c3, c4, c5, rfl⟩ : ∃ c0 c1 c2 c3 c4 c5, l = [c0, c1, c2, c3, c4, c5] := by
    match l, hs6 with
    | [a, b, c, e, f, g], _ => exact ⟨a, b, c, e, f, g, rfl⟩
  have t0 := (hfl 0 _ rfl).trans (show [y0, y1, y2, y3, y4, y5][0]? = some y0 from rfl)
  have t1 := (hfl 1 _ rfl).trans (show [y0, y1, y2, y3, y4, y5][1]? = some y1 from rfl)
  have t2 := (hfl 2 _ rfl).trans (show [y0, y1, y2, y3, y4, y5][2]? = some y2 from rfl)
  have t3 := (hfl 3 _ rfl).trans (show [y0, y1, y2, y3, y4, y5][3]? = some y3 from rfl)
  have t4 := (hfl 4 _ rfl).trans (show [y0, y1, y2, y3, y4, y5][4]? = some y4 from rfl)
  have t5 := (hfl 5 _ rfl).trans (show [y0, y1, y2, y3, y4, y5][5]? = some y5 from rfl)
  obtain ⟨a, m, c, K, L, e5, H1, H2, H3, H4⟩ := tabl_in (j := 5) (y := y5) hin rfl rfl t5
  obtain ⟨z0, f0, _⟩ := DataW.trod_int (k := .i64) (t := 3) Tryz.underlying3 t0
  obtain ⟨z1, f1, _⟩ := DataW.trod_int (k := .i64) (t := 3) Tryz.underlying3 t1
  obtain ⟨z2, f2, _⟩ := DataW.trod_int (k := .i64) (t := 3) Tryz.underlying3 t2
  obtain ⟨z3, f3, _⟩ := DataW.trod_int (k := .i64) (t := 3) Tryz.underlying3 t3
  obtain ⟨z4, f4, _⟩ := DataW.trod_int (k := .i64) (t := 3) Tryz.underlying3 t4
  have d0 : [c0] = [Value.int .i64 z0] := Eq.trans (by kernel_rfl) f0
  have d1 : [c1] = [Value.int .i64 z1] := Eq.trans (by kernel_rfl) f1
  have d2 : [c2] = [Value.int .i64 z2] := Eq.trans (by kernel_rfl) f2
  have d3 : [c3] = [Value.int .i64 z3] := Eq.trans (by kernel_rfl) f3
  have d4 : [c4] = [Value.int .i64 z4] := Eq.trans (by kernel_rfl) f4
  have d5 : [c5] = [.slice a m c] := Eq.trans (by kernel_rfl) e5
  simp only [List.cons.injEq, and_true] at d0 d1 d2 d3 d4 d5
  refine ⟨⟨z0, z1, z2, z3, z4, m, K, L⟩, a, c, ?_, H1, H2, H3, H4⟩
  rw [d0, d1, d2, d3, d4, d5]; rfl
end Go.Proofs.YtjlmajopfeplpaaGreat.He
