import Derived.Lib.SlBytesConst
import Derived.Test.YtjlmajopfeplpaaMg8
namespace Go.Proofs.Ytjlmajopfeplpaa
open Go.RowKit Go.Shelf

set_option maxHeartbeats 1000000 in
theorem spick_any (x : Int) (n : Nat) (h1 : 1 ≤ n) (h2 : n ≤ 1000000) (w : World) :
    Calls Try.prog 26 #[.int .i64 x, .int .i64 (n : Nat)] w fun e w' => (∃ r : Nat, r < n ∧ e = .returned (.int .i64 (r : Nat))) ∧ w' = w := by
  have a1 := Int.tmod_lt_of_pos x (show (0 : Int) < (n : Int) by omega)
  have a2 := Int.lt_tmod_of_pos x (show (0 : Int) < (n : Int) by omega)
  have g1 : ¬ (n : Int) < 1 := by omega
  have g2 : ¬ (n : Int) = 0 := by omega
  have g3 : ¬ n = 0 := by omega
  generalize hr : x.tmod (n : Int) = r at *
  by_cases h : r < 0
  · have HR := Lib.hid hr
    go_enter Try.func26, Try.ntmps26
    go_wp2
    go_ret
    exact ⟨⟨(r + n).toNat, by omega, by rw [Int.toNat_of_nonneg (by omega)]; rfl⟩, rfl⟩
  · have HR := Lib.hid hr
    go_enter Try.func26, Try.ntmps26
    go_wp2
    go_ret
    exact ⟨⟨r.toNat, by omega, by rw [Int.toNat_of_nonneg (by omega)]; rfl⟩, rfl⟩

/-- one row, in a list of its own, by its number. -/
theorem rd_at {w : World} {a : Option Addr} {n cap N : Nat} {f : Nat → Nat} (h : Sl w a n cap f) (hN : N = w.heap.size) : Rd (w.alloc (.cells #[.slice a n cap] 27)) (some ⟨N, 0, none⟩) 1 1 (fun _ => a) (fun _ => n) (fun _ => cap) (fun _ => f) := by
  subst hN; exact rd_one h
theorem sl_litz (w : World) (N : Nat) (hN : N = w.heap.size) (vs : List Value) (z : Nat × Nat) (f : Nat → Nat) (hv : ∀ i, i < vs.length → vs[i]? = some (.int .u8 (f i : Nat))) (hm : vs.length ≤ 1000) (hb : Pf.By f) (hu : Pf.Up f vs.length) :
    Sl (w.alloc (.cells vs.toArray 5 z)) (some ⟨N, 0, none⟩) vs.length vs.length f := by
  subst hN
  refine ⟨Nat.le_refl _, by unfold maxLen; omega, hb, hu, fun e => (by cases e), fun ad e _ => (by cases e; rfl), fun ad e i hi => ?_⟩
  cases e
  show (w.alloc (.cells vs.toArray 5 z)).cell? ⟨w.heap.size, 0 + i, none⟩ = _
  rw [Nat.zero_add, World.cell?_alloc_mark, List.getElem?_toArray]
  exact hv i hi
/-- the digits from d on. -/
def dig (d n i : Nat) : Nat := if i < n then d + i else 0
theorem dig_by {d n : Nat} (h : d + n ≤ 256) : Pf.By (dig d n) := fun i => by unfold dig; split <;> omega
theorem dig_up (d n : Nat) : Pf.Up (dig d n) n := fun i hi => by unfold dig; rw [if_neg (by omega)]
theorem dig_9 (w : World) (z : Nat × Nat) (N : Nat) (hN : N = w.heap.size) : Sl (w.alloc (.cells #[.int .u8 49, .int .u8 50, .int .u8 51, .int .u8 52, .int .u8 53, .int .u8 54, .int .u8 55, .int .u8 56, .int .u8 57] 5 z)) (some ⟨N, 0, none⟩) 9 9 (dig 49 9) :=
  sl_litz w N hN [.int .u8 49, .int .u8 50, .int .u8 51, .int .u8 52, .int .u8 53, .int .u8 54, .int .u8 55, .int .u8 56, .int .u8 57] z _ (fun i hi => by
    match i, hi with
    | 0, _ => rfl | 1, _ => rfl | 2, _ => rfl | 3, _ => rfl | 4, _ => rfl | 5, _ => rfl | 6, _ => rfl | 7, _ => rfl | 8, _ => rfl
    | i + 9, hi => exact absurd hi (by simp)) (by simp) (dig_by (by omega)) (dig_up _ _)
theorem dig_4 (w : World) (z : Nat × Nat) (N : Nat) (hN : N = w.heap.size) : Sl (w.alloc (.cells #[.int .u8 49, .int .u8 50, .int .u8 51, .int .u8 52] 5 z)) (some ⟨N, 0, none⟩) 4 4 (dig 49 4) :=
  sl_litz w N hN [.int .u8 49, .int .u8 50, .int .u8 51, .int .u8 52] z _ (fun i hi => by
    match i, hi with
    | 0, _ => rfl | 1, _ => rfl | 2, _ => rfl | 3, _ => rfl
    | i + 4, hi => exact absurd hi (by simp)) (by simp) (dig_by (by omega)) (dig_up _ _)
theorem dig_5 (w : World) (z : Nat × Nat) (N : Nat) (hN : N = w.heap.size) : Sl (w.alloc (.cells #[.int .u8 53, .int .u8 54, .int .u8 55, .int .u8 56, .int .u8 57] 5 z)) (some ⟨N, 0, none⟩) 5 5 (dig 53 5) :=
  sl_litz w N hN [.int .u8 53, .int .u8 54, .int .u8 55, .int .u8 56, .int .u8 57] z _ (fun i hi => by
    match i, hi with
    | 0, _ => rfl | 1, _ => rfl | 2, _ => rfl | 3, _ => rfl | 4, _ => rfl
    | i + 5, hi => exact absurd hi (by simp)) (by simp) (dig_by (by omega)) (dig_up _ _)
theorem aw_9 : Crc.rows 0 (fun _ => 9) (fun _ => dig 49 9) 1 = 3421780262 := by decide +kernel
theorem aw_4 : Crc.rows 0 (fun _ => 4) (fun _ => dig 49 4) 1 = 2615402659 := by decide +kernel
theorem aw_5 : Crc.go 2615402659 (dig 53 5) 5 = 3421780262 := by decide +kernel

theorem rd_nil8 (w : World) : Rd w none 0 0 (fun _ => none) (fun _ => 0) (fun _ => 0) (fun _ _ => 0) :=
  ⟨Nat.le_refl _, by unfold maxLen; omega, fun _ _ => (by omega : 0 < 256), fun _ => ⟨rfl, rfl⟩, fun _ e => (by cases e), fun _ e => (by cases e), fun i hi => absurd hi (Nat.not_lt_zero i)⟩

theorem of_lit9 (w : World) (z : Nat × Nat) : Calls Try.prog 60 #[.slice (some ⟨w.heap.size + 1, 0, none⟩) 1 1] ((w.alloc (.cells #[.int .u8 49, .int .u8 50, .int .u8 51, .int .u8 52, .int .u8 53, .int .u8 54, .int .u8 55, .int .u8 56, .int .u8 57] 5 z)).alloc (.cells #[.slice (some ⟨w.heap.size, 0, none⟩) 9 9] 27)) fun e w' => e = .returned (.int .u32 3421780262) ∧ Below w.heap.size w w' :=
  (of_sum _ 1 1 _ _ _ _ (by omega) (fun _ _ => by omega) _ (rd_at (dig_9 w z _ rfl) (by simp))).mono fun e w' ⟨h1, h2⟩ => ⟨by rw [h1, aw_9]; rfl, (((Below.refl _ w).alloc (Nat.le_refl _) _).alloc (by simp) _).trans (h2.mono (by simp; omega))⟩
theorem of_lit4 (w : World) (z : Nat × Nat) : Calls Try.prog 60 #[.slice (some ⟨w.heap.size + 1, 0, none⟩) 1 1] ((w.alloc (.cells #[.int .u8 49, .int .u8 50, .int .u8 51, .int .u8 52] 5 z)).alloc (.cells #[.slice (some ⟨w.heap.size, 0, none⟩) 4 4] 27)) fun e w' => e = .returned (.int .u32 2615402659) ∧ Below w.heap.size w w' :=
  (of_sum _ 1 1 _ _ _ _ (by omega) (fun _ _ => by omega) _ (rd_at (dig_4 w z _ rfl) (by simp))).mono fun e w' ⟨h1, h2⟩ => ⟨by rw [h1, aw_4]; rfl, (((Below.refl _ w).alloc (Nat.le_refl _) _).alloc (by simp) _).trans (h2.mono (by simp; omega))⟩
theorem of_none (w : World) : Calls Try.prog 60 #[.slice none 0 0] w fun e w' => e = .returned (.int .u32 0) ∧ Below w.heap.size w w' :=
  (of_sum _ 0 0 _ _ _ _ (by omega) (fun _ _ => by omega) _ (rd_nil8 w)).mono fun e w' ⟨h1, h2⟩ => ⟨h1, h2⟩
end Go.Proofs.Ytjlmajopfeplpaa
