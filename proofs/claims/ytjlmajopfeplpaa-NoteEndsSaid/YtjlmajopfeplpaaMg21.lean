import Derived.Deep.Matrix
import Derived.SizedLaws
import Derived.OpenShut
import Derived.Test.YtjlmajopfeplpaaMg6
namespace Go.Proofs.Ytjlmajopfeplpaa
open Go.RowKit Go.Shelf Go.ChangeShapes Go.WideShapes

theorem weightsAll_mem {H : Type} {P : Program} {e : TypeId} {x : DataW H} {y : Nat} : ∀ {l : List (DataW H)}, x ∈ l → y ∈ DataW.weights P e x → y ∈ DataW.weightsAll P e l
  | [], h, _ => by cases h
  | d :: l, h, hy => by
    unfold DataW.weightsAll
    rcases List.mem_cons.1 h with rfl | h
    · exact List.mem_append_left _ hy
    · exact List.mem_append_right _ (weightsAll_mem h hy)

theorem no_spot {W : World} {b o sp : Nat} {v : Value} (h : W.cell? ((⟨b, o, some sp⟩ : Addr).add 0) = some v) : False := by
  simp [Addr.add, World.cell?] at h
  split at h <;> simp at h

/-- what the frame tells of a slice of slices of bytes that came in. -/
theorem rows_in {H : Type} {enc : TypeId × Value → H} {W : World} {base : Nat} {ts : List TypeId} {ds : List (DataW H)} {j : Nat} {d : DataW H} {pl : List MemPlace} {a : Option Addr} {n cap : Nat}
    (hsz : (DataW.weightsEach Try.prog ts ds).all (· ≤ reachBytes) = true) (ht : ts[j]? = some 64) (hd : ds[j]? = some d) (h : DataW.Trod enc Try.prog W base (fun _ => true) true 64 (.slice a n cap) d pl) :
    ∃ r l c f, Rd W a n cap r l c f ∧ n ≤ 140737488355328 ∧ ∀ i, i < n → l i ≤ 140737488355328 := by
  obtain ⟨fuel, hf⟩ := h
  rcases Deep.open_int_rows Try.underlying64 Try.underlying27 Try.underlying5 (by kernel_rfl) (by kernel_rfl) hf with ⟨hcs, _⟩ | ⟨x, len, cap', A, L, C, Z, hcs, _, hl, hm, hx, hr⟩
  · simp [Value.cells] at hcs
    obtain ⟨rfl, rfl, rfl⟩ := hcs
    exact ⟨fun _ => none, fun _ => 0, fun _ => 0, fun _ _ => 0, ⟨Nat.le_refl _, by unfold maxLen; omega, fun _ _ => (by omega : 0 < 256), fun _ => ⟨rfl, rfl⟩, fun _ e => (by cases e), fun _ e => (by cases e), fun i hi => absurd hi (Nat.not_lt_zero i)⟩, by omega, fun i hi => absurd hi (Nat.not_lt_zero i)⟩
  · simp [Value.cells] at hcs
    obtain ⟨rfl, rfl, rfl⟩ := hcs
    simp only [Prod.mk.injEq] at hx
    have hq := sized_slice hsz (j := j) (t := 64) (e := 27) ht (by rw [hd, hx.1]) Try.underlying64
    rw [show Try.prog.bytesOf 27 = 24 by kernel_rfl] at hq
    simp only [List.length_map, List.length_range, reachBytes] at hq
    have hrow : ∀ i, i < n → C i ≤ 140737488355328 := fun i hi => by
      obtain ⟨_, _, _, hz, _, h0, _⟩ := hr i (by omega)
      cases hA : A i with
      | none => rw [h0 hA]; omega
      | some ad =>
        have hw := List.all_eq_true.1 hsz ((Z i).length * Try.prog.bytesOf 5) (DataW.weights_mem_each ht (by rw [hd, hx.1]) _ (by
          have hu := Try.underlying64
          simp only [DataW.weights, hu]
          refine List.mem_cons_of_mem _ (List.mem_append_left _ (weightsAll_mem (x := Deep.intRow .u8 (A i) (L i) (Z i)) (List.mem_map.2 ⟨i, List.mem_range.2 hi, rfl⟩) ?_))
          have hu2 := Try.underlying27
          simp only [Deep.intRow, hA, DataW.weights, hu2]
          refine List.mem_cons.2 (Or.inl ?_)
          simp only [lits, List.length_map, ← List.length_append, List.take_append_drop]))
        rw [show Try.prog.bytesOf 5 = 1 by kernel_rfl] at hw
        have hw' : (Z i).length * 1 ≤ 140737488351232 := of_decide_eq_true hw
        omega
    have hby : ∀ i j, i < n → j < L i → ∃ m : Nat, (Z i).getD j 0 = (m : Int) ∧ m < 256 := fun i j hi hj => by
      obtain ⟨_, hLC, _, hz, hwf, _, _⟩ := hr i (by omega)
      have hjz : j < (Z i).length := by omega
      have : (Z i).getD j 0 ∈ Z i := by
        rw [List.getD_eq_getElem?_getD, List.getElem?_eq_getElem hjz]; exact List.getElem_mem hjz
      have hb := bounds_u8 (hwf _ this)
      exact ⟨((Z i).getD j 0).toNat, by omega, by omega⟩
    have hbm : Mt.Bm (fun i j => if i < n ∧ j < L i then ((Z i).getD j 0).toNat else 0) := fun i j => by
      show (if i < n ∧ j < L i then _ else _) < 256
      split
      · rename_i hc
        obtain ⟨m, h1, h2⟩ := hby i j hc.1 hc.2
        rw [h1, Int.toNat_natCast]; exact h2
      · omega
    refine ⟨A, L, C, fun i j => if i < n ∧ j < L i then ((Z i).getD j 0).toNat else 0, ⟨hl, hm, hbm, fun e => (by cases e), fun ad e h0 => ?_, fun ad e i hi => ?_, fun i hi => ?_⟩, by omega, fun i hi => Nat.le_trans (hr i (by omega)).2.1 (hrow i hi)⟩
    · cases e
      have hc := (hr 0 (by omega)).1
      obtain ⟨b, o, sp⟩ := x
      cases sp with
      | none => rfl
      | some sp => exact (no_spot hc).elim
    · cases e
      have hc := (hr i (by omega)).1
      have hc0 := (hr 0 (by omega)).1
      obtain ⟨b, o, sp⟩ := x
      cases sp with
      | none => rw [Addr.add_lit] at hc; exact hc
      | some sp => exact (no_spot hc0).elim
    · obtain ⟨_, hLC, hCm, hz, _, h0, hcell⟩ := hr i (by omega)
      refine ⟨hLC, hCm, hbm i, fun k hk => ?_, fun e => ?_, fun ad e hne => ?_, fun ad e k hk => ?_⟩
      · show (if i < n ∧ k < L i then _ else _) = 0
        rw [if_neg (by omega)]
      · have := h0 e; omega
      · have hc := (hcell ad e).2 0 (by omega)
        obtain ⟨b, o, sp⟩ := ad
        cases sp with
        | none => rfl
        | some sp => exact (no_spot hc).elim
      · have hc := (hcell ad e).2 k (by omega)
        have hc0 := (hcell ad e).2 0 (by omega)
        obtain ⟨m, h1, h2⟩ := hby i k hi hk
        show _ = some (Value.int .u8 ((if i < n ∧ k < L i then ((Z i).getD k 0).toNat else 0 : Nat) : Int))
        rw [if_pos ⟨hi, hk⟩, h1, Int.toNat_natCast]
        rw [h1] at hc
        obtain ⟨b, o, sp⟩ := ad
        cases sp with
        | none => rw [Addr.add_lit] at hc; exact hc
        | some sp => exact (no_spot hc0).elim
end Go.Proofs.Ytjlmajopfeplpaa
