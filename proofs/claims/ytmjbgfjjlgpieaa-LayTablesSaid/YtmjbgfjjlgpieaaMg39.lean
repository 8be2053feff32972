import Derived.Test.YtmjbgfjjlgpieaaMg9
import Derived.Test.YtmjbgfjjlgpieaaMg32
import Derived.Test.YtmjbgfjjlgpieaaMg37
import Derived.Test.YtmjbgfjjlgpieaaMg38
namespace Go.Proofs.Ytmjbgfjjlgpieaa.Sp
open Go.RowKit Go.Shelf

/-- what is cut, row by row. -/
def crow (f : Nat → Nat) (wi i j : Nat) : Nat := if j < wi then f (i * wi + j) else 0
theorem crow_by {f : Nat → Nat} (h : Pf.By f) (wi i : Nat) : Pf.By (crow f wi i) := fun j => by unfold crow; split; exact h _; omega
theorem crow_up (f : Nat → Nat) (wi i : Nat) : Pf.Up (crow f wi i) wi := fun j hj => if_neg (by omega)
theorem cpy_all {f : Nat → Nat} {n : Nat} (h : Pf.Up f n) : (cpy 0 n f fun _ => 0) = f := funext fun i => by
  unfold cpy
  by_cases c : i < n
  · rw [if_pos ⟨Nat.zero_le _, by omega⟩, Nat.sub_zero]
  · rw [if_neg (by omega), h i (by omega)]
/-- .. and joined again. -/
theorem jn_crow (f : Nat → Nat) {wi : Nat} (hw : 0 < wi) : jn (crow f wi) wi = f := funext fun j => by
  unfold jn crow
  rw [if_pos (Nat.mod_lt _ hw), Nat.mul_comm, Nat.div_add_mod]
theorem place_le {i k wi : Nat} (hi : i < k) : i * wi + wi ≤ k * wi := by
  have := Nat.mul_le_mul_right wi (show i + 1 ≤ k from hi)
  rwa [Nat.add_mul, Nat.one_mul] at this
theorem range_part {k : Nat} (g wi : Nat) {i : Nat} (hi : i < k) : ((List.range k).map (part g wi))[i]? = some (.slice (some ⟨g, i * wi, none⟩) wi wi) := by
  rw [List.getElem?_map, List.getElem?_range hi]; rfl
section
variable {w w' : World} {f : Nat → Nat} {n k wi G : Nat}
theorem CutFin.rd (h : CutFin w f n k wi G w') (hb : Pf.By f) (hu : Pf.Up f n) (hs : k * wi ≤ 1000000) (hk : k ≤ 1000000) :
    ∃ g, w.heap.size ≤ G ∧ w.heap.size ≤ g ∧ G ≠ g ∧ Below w.heap.size w w' ∧ Bl w' g (k * wi) (k * wi) f ∧ w'.ownsRow w.heap.size 37 1 (.slice (some ⟨G, 0, none⟩) k k) k ((List.range k).map (part g wi)) ∧
      Rd w' (some ⟨G, 0, none⟩) k k (fun i => some ⟨g, i * wi, none⟩) (fun _ => wi) (fun _ => wi) (crow f wi) := by
  obtain ⟨g, h1, h2, h3, h4, h5, h6⟩ := h
  rw [cpy_all hu] at h5
  refine ⟨g, h1, h2, h3, h4, h5, h6, Nat.le_refl _, by unfold maxLen; omega, fun i => crow_by hb wi i, fun e => (by cases e), fun ad e _ => (by cases e; rfl), fun ad e i hi => ?_, fun i hi => ?_⟩
  · cases e
    have := h6.cells (g := G) rfl i _ (range_part g wi hi)
    rw [Addr.add_lit] at this
    exact this
  · have hp := place_le (wi := wi) hi
    refine ⟨Nat.le_refl _, by unfold maxLen; omega, crow_by hb wi i, crow_up f wi i, fun e => (by cases e), fun ad e _ => (by cases e; rfl), fun ad e j hj => ?_⟩
    cases e
    show w'.cell? ⟨g, i * wi + j, none⟩ = _
    rw [h5.cell (by omega)]
    unfold crow
    rw [if_pos hj]
end
/-- bytes that are written out. -/
def lt (vs : List Nat) (i : Nat) : Nat := vs.getD i 0
theorem lt_by {vs : List Nat} (h : ∀ v ∈ vs, v < 256) : Pf.By (lt vs) := fun i => by
  unfold lt
  rw [List.getD_eq_getElem?_getD]
  cases e : vs[i]? with
  | none => show 0 < 256; omega
  | some v => exact h v (List.mem_of_getElem? e)
theorem lt_up (vs : List Nat) : Pf.Up (lt vs) vs.length := fun i hi => by unfold lt; simp [hi]
theorem lt_bl (w : World) (vs : List Nat) : Bl (w.alloc (.cells (vs.map fun v => Value.int .u8 (v : Nat)).toArray 5)) w.heap.size vs.length vs.length (lt vs) := by
  have := Bl.alloc w (vs.map fun v => Value.int .u8 (v : Nat)) (lt vs) (fun i hi => by
    rw [List.length_map] at hi
    rw [List.getElem?_map, List.getElem?_eq_getElem hi]
    unfold lt
    rw [List.getD_eq_getElem?_getD, List.getElem?_eq_getElem hi]; rfl)
  rwa [List.length_map] at this
theorem lt_sl (w : World) (vs : List Nat) (hv : ∀ v ∈ vs, v < 256) (hl : vs.length ≤ 1000) : Sl (w.alloc (.cells (vs.map fun v => Value.int .u8 (v : Nat)).toArray 5)) (some ⟨w.heap.size, 0, none⟩) vs.length vs.length (lt vs) :=
  (lt_bl w vs).sl (Nat.le_refl _) (by unfold maxLen; omega) (lt_by hv) (lt_up vs)
/-- two rows of three bytes that are written out. -/
def two3 (a b : List Nat) (i : Nat) : Nat → Nat := if i = 0 then lt a else lt b
theorem two_rd (w : World) (a b : List Nat) (ha : ∀ v ∈ a, v < 256) (hb : ∀ v ∈ b, v < 256) (la : a.length = 3) (lb : b.length = 3) :
    Rd (((w.alloc (.cells (a.map fun v => Value.int .u8 (v : Nat)).toArray 5)).alloc (.cells (b.map fun v => Value.int .u8 (v : Nat)).toArray 5)).alloc (.cells #[.slice (some ⟨w.heap.size, 0, none⟩) 3 3, .slice (some ⟨w.heap.size + 1, 0, none⟩) 3 3] 37)) (some ⟨w.heap.size + 1 + 1, 0, none⟩) 2 2 (fun i => some ⟨w.heap.size + i, 0, none⟩) (fun _ => 3) (fun _ => 3) (two3 a b) := by
  have h1 := (lt_bl w a).kept (Below.heap_alloc _ (.cells (b.map fun v => Value.int .u8 (v : Nat)).toArray 5) _ (by rw [World.size_alloc]; omega))
  have h2 := h1.kept (Below.heap_alloc _ (.cells #[.slice (some ⟨w.heap.size, 0, none⟩) 3 3, .slice (some ⟨w.heap.size + 1, 0, none⟩) 3 3] 37) _ (by simp only [World.size_alloc]; omega))
  have h3 := (lt_bl (w.alloc (.cells (a.map fun v => Value.int .u8 (v : Nat)).toArray 5)) b).kept (Below.heap_alloc _ (.cells #[.slice (some ⟨w.heap.size, 0, none⟩) 3 3, .slice (some ⟨w.heap.size + 1, 0, none⟩) 3 3] 37) _ (by simp only [World.size_alloc]; omega))
  have h4 := heap_alloc_new ((w.alloc (.cells (a.map fun v => Value.int .u8 (v : Nat)).toArray 5)).alloc (.cells (b.map fun v => Value.int .u8 (v : Nat)).toArray 5)) (.cells #[.slice (some ⟨w.heap.size, 0, none⟩) 3 3, .slice (some ⟨w.heap.size + 1, 0, none⟩) 3 3] 37)
  simp only [World.size_alloc] at h3 h4
  rw [la] at h2
  rw [lb] at h3
  have hby : ∀ i, Pf.By (two3 a b i) := fun i => by unfold two3; split; exact lt_by ha; exact lt_by hb
  refine ⟨by omega, by unfold maxLen; omega, hby, fun e => (by cases e), fun ad e _ => (by cases e; rfl), fun ad e i hi => ?_, fun i hi => ?_⟩
  · cases e
    show World.cell? _ ⟨_, 0 + i, none⟩ = _
    rw [Nat.zero_add, cell_of_row _ _ i _ _ _ h4]
    rcases (show i = 0 ∨ i = 1 by omega) with rfl | rfl <;> rfl
  · rcases (show i = 0 ∨ i = 1 by omega) with rfl | rfl
    · exact h2.sl (by omega) (by unfold maxLen; omega) (lt_by ha) (by have := lt_up a; rwa [la] at this)
    · exact h3.sl (by omega) (by unfold maxLen; omega) (lt_by hb) (by have := lt_up b; rwa [lb] at this)
theorem awake9_e : ∀ i, i < 2 → (3 = 3 ∧ two3 [1, 2, 3] [4, 5, 0] i = crow (lt [1, 2, 3, 4, 5]) 3 i) := fun i hi => ⟨rfl, by
  have h0 : ∀ i, i < 2 → ∀ j, j < 3 → two3 [1, 2, 3] [4, 5, 0] i j = crow (lt [1, 2, 3, 4, 5]) 3 i j := by decide +kernel
  funext j
  by_cases hj : j < 3
  · exact h0 i hi j hj
  · rw [crow_up _ _ _ j (by omega)]
    unfold two3
    split
    · exact lt_up [1, 2, 3] j (by simpa using hj)
    · exact lt_up [4, 5, 0] j (by simpa using hj)⟩
end Go.Proofs.Ytmjbgfjjlgpieaa.Sp

namespace Go.Proofs.Ytmjbgfjjlgpieaa.Sp
open Go.RowKit Go.Shelf

theorem quiet_bel {w w' : World} {q : Nat} (h : w' = w.drewN q) : Below w.heap.size w w' := by rw [h]; exact below_dr (Below.refl _ _) q
end Go.Proofs.Ytmjbgfjjlgpieaa.Sp
