import Derived.Test.YtjnfghhochcpaaaGreatProg
import Derived.Maps.RangeWalk
import Derived.DeepKeys4
import Derived.ChangeMaps3
import Derived.Lib.Hide
import Derived.IntWalk
namespace Go.Proofs.YtjnfghhochcpaaaGreat
open Go.Maps

/-- a key's cells: k, and what stands first. -/
def kcl (K : Int) (f : Nat → Int) : List Value := .int .i64 K :: (List.range 255).map fun i => .int .u8 (f i)
def kc (K : Int) (f : Nat → Int) : Array Value := (kcl K f).toArray
theorem kcl_len (K : Int) (f : Nat → Int) : (kcl K f).length = 256 := by simp [kcl]
theorem kc_size (K : Int) (f : Nat → Int) : (kc K f).size = 256 := by simp [kc, kcl_len]
theorem kcl_0 (K : Int) (f : Nat → Int) : (kcl K f)[0]? = some (.int .i64 K) := rfl
theorem kcl_s (K : Int) (f : Nat → Int) {i : Nat} (h : i < 255) : (kcl K f)[i + 1]? = some (.int .u8 (f i)) := by simp [kcl, h]
theorem kc_0 (K : Int) (f : Nat → Int) : (kc K f)[0]? = some (.int .i64 K) := by simp [kc, kcl]
theorem kc_s (K : Int) (f : Nat → Int) {i : Nat} (h : i < 255) : (kc K f)[i + 1]? = some (.int .u8 (f i)) := by
  have := kcl_s K f h
  simpa [kc] using this
theorem kc_inj {K K' : Int} {f f' : Nat → Int} (h : kc K f = kc K' f') : K = K' ∧ ∀ i, i < 255 → f i = f' i := by
  refine ⟨?_, fun i hi => ?_⟩
  · have h1 := kc_0 K f
    rw [h, kc_0] at h1
    simp only [Option.some.injEq, Value.int.injEq] at h1
    exact h1.2.symm
  · have h1 := kc_s K f hi
    rw [h, kc_s K' f' hi] at h1
    simp only [Option.some.injEq, Value.int.injEq] at h1
    exact h1.2.symm
theorem kc_congr {K : Int} {f f' : Nat → Int} (h : ∀ i, i < 255 → f i = f' i) : kc K f = kc K f' := by
  unfold kc kcl
  rw [List.map_congr_left (fun i hi => by rw [h i (List.mem_range.1 hi)])]
/-- the noughts. -/
def kzero : Array Value := (.int .i64 0 :: List.replicate 255 (.int .u8 0)).toArray
set_option maxRecDepth 100000 in
theorem zero_key : ∀ w, (zeroValue 98).run Tryz.prog w = .ok (.agg kzero) w := fun _ => by kernel_rfl
set_option maxRecDepth 100000 in
theorem kzero_eq : kzero = kc 0 fun _ => 0 := by
  unfold kzero kc kcl
  refine congrArg (fun l : List Value => (Value.int .i64 0 :: l).toArray) ?_
  refine List.ext_getElem? fun i => ?_
  rw [List.getElem?_map]
  by_cases h : i < 255
  · rw [List.getElem?_range h, List.getElem?_replicate, if_pos h]; rfl
  · rw [List.getElem?_eq_none (by rw [List.length_replicate]; omega), List.getElem?_eq_none (by rw [List.length_range]; omega)]; rfl

/-- numbers that are a key's. -/
structure KeyOk (K : Int) (f : Nat → Int) : Prop where
  k : 0 ≤ K ∧ K ≤ 255
  f : ∀ i, i < 255 → 0 ≤ f i ∧ f i < 256

theorem wf64 {K : Int} (h : 0 ≤ K ∧ K ≤ 255) : (Lit.int .i64 K).wf = true := by
  have e1 : IntKind.i64.min = -9223372036854775808 := by rfl
  have e2 : IntKind.i64.max = 9223372036854775807 := by rfl
  simp only [Lit.wf, e1, e2, Bool.and_eq_true, decide_eq_true_eq]; omega
theorem wf8 {K : Int} (h : 0 ≤ K ∧ K < 256) : (Lit.int .u8 K).wf = true := by
  have e1 : IntKind.u8.min = 0 := by rfl
  have e2 : IntKind.u8.max = 255 := by rfl
  simp only [Lit.wf, e1, e2, Bool.and_eq_true, decide_eq_true_eq]; omega
theorem key_lits (d : Nat) {K : Int} {f : Nat → Int} (h : KeyOk K f) : ∃ ls, Tryz.prog.keyLits (d + 3) 98 (kcl K f) = some ls := by
  have c3 : Tryz.prog.cellsOf 3 = 1 := by kernel_rfl
  have c5 : Tryz.prog.cellsOf 5 = 1 := by kernel_rfl
  have ca : Tryz.prog.cellsOf 96 = 255 := by kernel_rfl
  have ck : Tryz.prog.cellsOf 98 = 256 := by kernel_rfl
  unfold Program.keyLits
  rw [Tryz.underlying98]
  simp only [kcl_len, ck]
  rw [if_pos ⟨trivial, by kernel_rfl⟩]
  rw [ChangeMaps.mapM_total []]
  · exact ⟨_, rfl⟩
  · intro x hx
    simp only [List.mem_cons, List.not_mem_nil, or_false] at hx
    rcases hx with rfl | rfl
    · refine ⟨[.int .i64 K], ?_⟩
      simp only [c3, List.drop_zero]
      unfold Program.keyLits
      rw [Tryz.underlying3]
      have : (kcl K f).take 1 = [.int .i64 K] := rfl
      rw [this]
      have hw : (Lit.int .i64 K).wf = true := wf64 h.k
      simp [hw]
    · simp only [ca]
      unfold Program.keyLits
      rw [Tryz.underlying96]
      have hl : (((kcl K f).drop 1).take 255).length = 255 := by simp [kcl_len]
      simp only [ca, c5, hl, if_true]
      rw [ChangeMaps.mapM_total []]
      · exact ⟨_, rfl⟩
      · intro i hi
        have hi := List.mem_range.1 hi
        refine ⟨[.int .u8 (f i)], ?_⟩
        have e : ((((kcl K f).drop 1).take 255).drop (i * 1)).take 1 = [.int .u8 (f i)] := by
          refine List.ext_getElem? fun j => ?_
          rcases j with _ | j
          · simp [kcl, hi]
          · rw [List.getElem?_eq_none (by simp; omega), List.getElem?_eq_none (by simp)]
        rw [e]
        unfold Program.keyLits
        rw [Tryz.underlying5]
        have hw : (Lit.int .u8 (f i)).wf = true := wf8 (h.f i hi)
        simp [hw]

theorem key_has {K : Int} {f : Nat → Int} (h : KeyOk K f) : ∃ kl, keyOf Tryz.prog 98 (.agg (kc K f)) = some kl := by
  have hd : ∃ d, Tryz.prog.types.size = d + 2 := ⟨Tryz.prog.types.size - 2, by have : 2 ≤ Tryz.prog.types.size := of_decide_eq_true (by kernel_rfl); omega⟩
  obtain ⟨d, hd⟩ := hd
  obtain ⟨ls, hls⟩ := key_lits d h
  have ck : Tryz.prog.cellsOf 98 = 256 := by kernel_rfl
  have kt : Tryz.prog.keyType 98 = true := by kernel_rfl
  refine ⟨.string (keyBytes ls), ?_⟩
  have fo : (Value.agg (kc K f)).formed Tryz.prog 98 = true := by
    simp only [Value.formed, Tryz.underlying98, ck, kc_size]; rfl
  have e : (Value.agg (kc K f)).cells.toList = kcl K f := rfl
  unfold keyOf
  rw [Tryz.underlying98]
  simp only [kt, fo, e, hd, Bool.and_self, if_true]
  rw [hls]; rfl

set_option maxRecDepth 100000 in
theorem key_row : (98 : TypeId) < Tryz.prog.types.size := of_decide_eq_true (by kernel_rfl)
set_option maxRecDepth 100000 in
theorem key_law : Keyed Tryz.prog 98 := Keyed.of_law (deep_law_laid (by kernel_rfl) (m := 3) (by omega) key_row (by kernel_rfl) (by rw [Tryz.underlying98]))

/-- the key's text. -/
noncomputable def klOf (K : Int) (f : Nat → Int) : Lit := (keyOf Tryz.prog 98 (.agg (kc K f))).getD (.bool false)
theorem klOf_eq {K : Int} {f : Nat → Int} (h : KeyOk K f) : keyOf Tryz.prog 98 (.agg (kc K f)) = some (klOf K f) := by
  obtain ⟨kl, hk⟩ := key_has h
  unfold klOf
  rw [hk]; rfl
theorem klOf_inj {K K' : Int} {f f' : Nat → Int} (h : KeyOk K f) (h' : KeyOk K' f') (e : klOf K f = klOf K' f') : K = K' ∧ ∀ i, i < 255 → f i = f' i := by
  have h1 := klOf_eq h
  rw [e] at h1
  have := key_law.inj h1 (klOf_eq h')
  injection this with this
  exact kc_inj this
theorem klOf_key {K : Int} {f : Nat → Int} (h : KeyOk K f) : WideAt.IsKeyLit (klOf K f) := by
  have h1 := klOf_eq h
  generalize klOf K f = l at h1 ⊢
  exact key_law.key h1

/-- a thing kept: a slice, and when it was used. -/
def sv (x : Option Addr × Nat × Nat × Int) : Value := .agg #[.slice x.1 x.2.1 x.2.2.1, .int .i64 x.2.2.2]
open Classical in
noncomputable def Rv (v : Value) : Option (DataW Value × List MemPlace) := if ∃ x, v = sv x then some (.held v, []) else none
theorem Rv_sv (x : Option Addr × Nat × Nat × Int) : Rv (sv x) = some (.held (sv x), []) := by unfold Rv; rw [if_pos ⟨x, rfl⟩]
theorem Rv_inv {v : Value} {y : DataW Value × List MemPlace} (h : Rv v = some y) : ∃ x, v = sv x ∧ y = (.held v, []) := by
  unfold Rv at h
  split at h
  · rename_i hx
    obtain ⟨x, hx⟩ := hx
    exact ⟨x, hx, (Option.some.inj h).symm⟩
  · cases h
set_option maxRecDepth 100000 in
theorem zero_spot : ∀ w, (zeroValue 147).run Tryz.prog w = .ok (sv (none, 0, 0, 0)) w := fun _ => by kernel_rfl
end Go.Proofs.YtjnfghhochcpaaaGreat
