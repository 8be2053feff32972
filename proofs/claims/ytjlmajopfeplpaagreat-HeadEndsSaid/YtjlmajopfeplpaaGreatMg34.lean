import Derived.Lib.QuietBelow
import Derived.Test.YtjlmajopfeplpaaGreatMg23
import Derived.Test.YtjlmajopfeplpaaGreatMg29
namespace Go.Proofs.YtjlmajopfeplpaaGreat
open Go.RowKit Go.Shelf

/-- what size answers: a number; if it is at most 900, no rows and no row are more than 900. -/
def SizeSays (n : Nat) (l : Nat → Nat) (e : Ending) : Prop := ∃ s : Nat, e = .returned (.int .i64 (s : Nat)) ∧ s ≤ 281474976710656 ∧ (s ≤ 900 → n ≤ 900 ∧ ∀ i, i < n → l i ≤ 900)

/-- a matrix written out. -/
def matL (L : List (List Nat)) (i j : Nat) : Nat := (L.getD i []).getD j 0
theorem Bl.allocd {W : World} {g n cap : Nat} {h : Nat → Nat} (hb : Bl W g n cap h) (o : Obj) : Bl (W.alloc o) g n cap h := hb.kept (Below.heap_alloc W o g hb.lt)
theorem rd2 (w : World) (p q r s : Nat) (hp : p < 256) (hq : q < 256) (hr : r < 256) (hs : s < 256) :
    Rd (((w.alloc (.cells #[.int .u8 (p : Nat), .int .u8 (q : Nat)] 5)).alloc (.cells #[.int .u8 (r : Nat), .int .u8 (s : Nat)] 5)).alloc (.cells #[.slice (some ⟨w.heap.size, 0, none⟩) 2 2, .slice (some ⟨w.heap.size + 1, 0, none⟩) 2 2] 28))
      (some ⟨w.heap.size + 1 + 1, 0, none⟩) 2 2 (fun i => some ⟨w.heap.size + i, 0, none⟩) (fun _ => 2) (fun _ => 2) (matL [[p, q], [r, s]]) := by
  have b0 := ((Bl.alloc w [.int .u8 (p : Nat), .int .u8 (q : Nat)] (matL [[p, q], [r, s]] 0) (fun i hi => by
    have : i = 0 ∨ i = 1 := by simp at hi; omega
    rcases this with rfl | rfl <;> rfl)).allocd (.cells #[.int .u8 (r : Nat), .int .u8 (s : Nat)] 5)).allocd (.cells #[.slice (some ⟨w.heap.size, 0, none⟩) 2 2, .slice (some ⟨w.heap.size + 1, 0, none⟩) 2 2] 28)
  have b1 := (Bl.alloc (w.alloc (.cells #[.int .u8 (p : Nat), .int .u8 (q : Nat)] 5)) [.int .u8 (r : Nat), .int .u8 (s : Nat)] (matL [[p, q], [r, s]] 1) (fun i hi => by
    have : i = 0 ∨ i = 1 := by simp at hi; omega
    rcases this with rfl | rfl <;> rfl)).allocd (.cells #[.slice (some ⟨w.heap.size, 0, none⟩) 2 2, .slice (some ⟨w.heap.size + 1, 0, none⟩) 2 2] 28)
  rw [World.size_alloc] at b1
  have hb : Mt.Bm (matL [[p, q], [r, s]]) := fun i j => by
    unfold matL
    rcases i with _ | _ | i <;> rcases j with _ | _ | j <;> simp <;> omega
  have hu : ∀ i, i < 2 → Pf.Up (matL [[p, q], [r, s]] i) 2 := fun i hi j hj => by
    unfold matL
    rcases (show i = 0 ∨ i = 1 by omega) with rfl | rfl <;> simp <;> (rcases j with _ | _ | j <;> simp_all)
  refine ⟨Nat.le_refl _, by unfold maxLen; omega, hb, fun e => (by cases e), fun ad e _ => (by cases e; rfl), fun ad e i hi => ?_, fun i hi => ?_⟩
  · cases e
    have := World.cell?_alloc_new ((w.alloc (.cells #[.int .u8 (p : Nat), .int .u8 (q : Nat)] 5)).alloc (.cells #[.int .u8 (r : Nat), .int .u8 (s : Nat)] 5)) #[.slice (some ⟨w.heap.size, 0, none⟩) 2 2, .slice (some ⟨w.heap.size + 1, 0, none⟩) 2 2] 28 i
    rw [World.size_alloc, World.size_alloc] at this
    show World.cell? _ ⟨w.heap.size + 1 + 1, 0 + i, none⟩ = _
    rw [Nat.zero_add, this]
    rcases (show i = 0 ∨ i = 1 by omega) with rfl | rfl <;> rfl
  · rcases (show i = 0 ∨ i = 1 by omega) with rfl | rfl
    · exact b0.sl (Nat.le_refl _) (by unfold maxLen; simp) (hb 0) (hu 0 (by omega))
    · exact b1.sl (Nat.le_refl _) (by unfold maxLen; simp) (hb 1) (hu 1 (by omega))
theorem isM2 : IsM 2 (fun _ => 2) := ⟨fun _ _ => rfl, by omega, by decide⟩
theorem wd2 : wd 2 (fun _ => 2) = 2 := rfl
theorem awake_rk1 : Mt.rk 2 2 (matL [[1, 1], [0, 2]]) = 2 := by decide +kernel
theorem awake_rk2 : Mt.rk 2 2 (matL [[1, 1], [1, 1]]) = 1 := by decide +kernel
theorem awake_inv' : ∀ i, i < 2 → ∀ j, j < 2 → Mt.inv (matL [[1, 1], [0, 2]]) 2 i j = matL [[1, 142], [0, 142]] i j := by decide +kernel
end Go.Proofs.YtjlmajopfeplpaaGreat
