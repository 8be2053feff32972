import Derived.Test.YtjlmajopfeplpaaGreatMg4
import Derived.Test.YtjlmajopfeplpaaGreatMg42
namespace Go.Proofs.YtjlmajopfeplpaaGreat.Sp
open Go.RowKit Go.Shelf
attribute [local go_sem] Oper.semAt_some

theorem JoinS.start (w : World) (L wi : Nat) : JoinS w ((((((w.alloc (.cells #[.slice none 0 0] 28)).alloc (.cells #[.int .i64 0] 32)).alloc (.cells #[.int .i64 (wi : Nat)] 3)).alloc (.cells (madeCells #[.int .u8 0] L) 5)).alloc (.cells #[.slice (some ⟨w.heap.size + 1 + 1 + 1, 0, none⟩) L L] 28)).alloc (.cells #[.int .i64 0] 3)) L wi 0 (fun _ => 0) (.slice none 0 0) 0 := by
  have b4 := (((((Boxed.new w 28 (.slice none 0 0)).alloc (.cells #[.int .i64 0] 32)).alloc (.cells #[.int .i64 (wi : Nat)] 3)).alloc (.cells (madeCells #[.int .u8 0] L) 5)).alloc (.cells #[.slice (some ⟨w.heap.size + 1 + 1 + 1, 0, none⟩) L L] 28)).alloc (.cells #[.int .i64 0] 3)
  have b5 := ((((Boxed.new (w.alloc (.cells #[.slice none 0 0] 28)) 32 (.int .i64 0)).alloc (.cells #[.int .i64 (wi : Nat)] 3)).alloc (.cells (madeCells #[.int .u8 0] L) 5)).alloc (.cells #[.slice (some ⟨w.heap.size + 1 + 1 + 1, 0, none⟩) L L] 28)).alloc (.cells #[.int .i64 0] 3)
  have b6 := (((Boxed.new ((w.alloc (.cells #[.slice none 0 0] 28)).alloc (.cells #[.int .i64 0] 32)) 3 (.int .i64 (wi : Nat))).alloc (.cells (madeCells #[.int .u8 0] L) 5)).alloc (.cells #[.slice (some ⟨w.heap.size + 1 + 1 + 1, 0, none⟩) L L] 28)).alloc (.cells #[.int .i64 0] 3)
  have b7 := bl_made (((w.alloc (.cells #[.slice none 0 0] 28)).alloc (.cells #[.int .i64 0] 32)).alloc (.cells #[.int .i64 (wi : Nat)] 3)) L
  have b8 := (Boxed.new ((((w.alloc (.cells #[.slice none 0 0] 28)).alloc (.cells #[.int .i64 0] 32)).alloc (.cells #[.int .i64 (wi : Nat)] 3)).alloc (.cells (madeCells #[.int .u8 0] L) 5)) 28 (.slice (some ⟨w.heap.size + 1 + 1 + 1, 0, none⟩) L L)).alloc (.cells #[.int .i64 0] 3)
  have b9 := Boxed.new (((((w.alloc (.cells #[.slice none 0 0] 28)).alloc (.cells #[.int .i64 0] 32)).alloc (.cells #[.int .i64 (wi : Nat)] 3)).alloc (.cells (madeCells #[.int .u8 0] L) 5)).alloc (.cells #[.slice (some ⟨w.heap.size + 1 + 1 + 1, 0, none⟩) L L] 28)) 3 (.int .i64 0)
  have b7' := (b7.kept (Below.heap_alloc _ (.cells #[.slice (some ⟨w.heap.size + 1 + 1 + 1, 0, none⟩) L L] 28) _ b7.lt))
  have b7'' := b7'.kept (Below.heap_alloc _ (.cells #[.int .i64 0] 3) _ b7'.lt)
  simp only [World.size_alloc] at b5 b6 b7'' b8 b9
  exact ⟨b4, b5, b6, b7'', b8, b9, ((((((Below.refl _ w).alloc (Nat.le_refl _) _).alloc (by simp only [World.size_alloc]; omega) _).alloc (by simp only [World.size_alloc]; omega) _).alloc (by simp only [World.size_alloc]; omega) _).alloc (by simp only [World.size_alloc]; omega) _).alloc (by simp only [World.size_alloc]; omega) _⟩

end Go.Proofs.YtjlmajopfeplpaaGreat.Sp
