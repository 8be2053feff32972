import Derived.Test.YtjnfghhochcpaaaS1
import Derived.Lib.SlBytesConst
namespace Go.Proofs.Ytjnfghhochcpaaa
open Go.RowKit Go.Shelf

set_option maxHeartbeats 1000000 in
theorem spick_any (x : Int) (n : Nat) (h1 : 1 ≤ n) (h2 : n ≤ 1000000) (w : World) :
    Calls Try.prog 23 #[.int .i64 x, .int .i64 (n : Nat)] w fun e w' => (∃ r : Nat, r < n ∧ e = .returned (.int .i64 (r : Nat))) ∧ w' = w := by
  have a1 := Int.tmod_lt_of_pos x (show (0 : Int) < (n : Int) by omega)
  have a2 := Int.lt_tmod_of_pos x (show (0 : Int) < (n : Int) by omega)
  have g1 : ¬ (n : Int) < 1 := by omega
  have g2 : ¬ (n : Int) = 0 := by omega
  have g3 : ¬ n = 0 := by omega
  generalize hr : x.tmod (n : Int) = r at *
  by_cases h : r < 0
  · have HR := Lib.hid hr
    go_enter Try.func23, Try.ntmps23
    go_wp2
    go_ret
    exact ⟨⟨(r + n).toNat, by omega, by rw [Int.toNat_of_nonneg (by omega)]; rfl⟩, rfl⟩
  · have HR := Lib.hid hr
    go_enter Try.func23, Try.ntmps23
    go_wp2
    go_ret
    exact ⟨⟨r.toNat, by omega, by rw [Int.toNat_of_nonneg (by omega)]; rfl⟩, rfl⟩

/-- one row, in a list of its own, by its number. -/
theorem rd_at {w : World} {a : Option Addr} {n cap N : Nat} {f : Nat → Nat} (h : Sl w a n cap f) (hN : N = w.heap.size) : Rd (w.alloc (.cells #[.slice a n cap] 23)) (some ⟨N, 0, none⟩) 1 1 (fun _ => a) (fun _ => n) (fun _ => cap) (fun _ => f) := by
  subst hN; exact rd_one h
theorem sl_litz (w : World) (N : Nat) (hN : N = w.heap.size) (vs : List Value) (z : Nat × Nat) (f : Nat → Nat) (hv : ∀ i, i < vs.length → vs[i]? = some (.int .u8 (f i : Nat))) (hm : vs.length ≤ 1000) (hb : Pf.By f) (hu : Pf.Up f vs.length) :
    Sl (w.alloc (.cells vs.toArray 5 z)) (some ⟨N, 0, none⟩) vs.length vs.length f := by
  subst hN
  refine ⟨Nat.le_refl _, by unfold maxLen; omega, hb, hu, fun e => (by cases e), fun ad e _ => (by cases e; rfl), fun ad e i hi => ?_⟩
  cases e
  show (w.alloc (.cells vs.toArray 5 z)).cell? ⟨w.heap.size, 0 + i, none⟩ = _
  rw [Nat.zero_add, World.cell?_alloc_mark, List.getElem?_toArray]
  exact hv i hi
/-- the digits from d on. -/
def dig (d n i : Nat) : Nat := if i < n then d + i else 0
theorem dig_by {d n : Nat} (h : d + n ≤ 256) : Pf.By (dig d n) := fun i => by unfold dig; split <;> omega
theorem dig_up (d n : Nat) : Pf.Up (dig d n) n := fun i hi => by unfold dig; rw [if_neg (by omega)]
theorem dig_9 (w : World) (z : Nat × Nat) (N : Nat) (hN : N = w.heap.size) : Sl (w.alloc (.cells #[.int .u8 49, .int .u8 50, .int .u8 51, .int .u8 52, .int .u8 53, .int .u8 54, .int .u8 55, .int .u8 56, .int .u8 57] 5 z)) (some ⟨N, 0, none⟩) 9 9 (dig 49 9) :=
  sl_litz w N hN [.int .u8 49, .int .u8 50, .int .u8 51, .int .u8 52, .int .u8 53, .int .u8 54, .int .u8 55, .int .u8 56, .int .u8 57] z _ (fun i hi => by
    match i, hi with
    | 0, _ => rfl | 1, _ => rfl | 2, _ => rfl | 3, _ => rfl | 4, _ => rfl | 5, _ => rfl | 6, _ => rfl | 7, _ => rfl | 8, _ => rfl
    | i + 9, hi => exact absurd hi (by simp)) (by simp) (dig_by (by omega)) (dig_up _ _)
theorem dig_4 (w : World) (z : Nat × Nat) (N : Nat) (hN : N = w.heap.size) : Sl (w.alloc (.cells #[.int .u8 49, .int .u8 50, .int .u8 51, .int .u8 52] 5 z)) (some ⟨N, 0, none⟩) 4 4 (dig 49 4) :=
  sl_litz w N hN [.int .u8 49, .int .u8 50, .int .u8 51, .int .u8 52] z _ (fun i hi => by
    match i, hi with
    | 0, _ => rfl | 1, _ => rfl | 2, _ => rfl | 3, _ => rfl
    | i + 4, hi => exact absurd hi (by simp)) (by simp) (dig_by (by omega)) (dig_up _ _)
theorem dig_5 (w : World) (z : Nat × Nat) (N : Nat) (hN : N = w.heap.size) : Sl (w.alloc (.cells #[.int .u8 53, .int .u8 54, .int .u8 55, .int .u8 56, .int .u8 57] 5 z)) (some ⟨N, 0, none⟩) 5 5 (dig 53 5) :=
  sl_litz w N hN [.int .u8 53, .int .u8 54, .int .u8 55, .int .u8 56, .int .u8 57] z _ (fun i hi => by
    match i, hi with
    | 0, _ => rfl | 1, _ => rfl | 2, _ => rfl | 3, _ => rfl | 4, _ => rfl
    | i + 5, hi => exact absurd hi (by simp)) (by simp) (dig_by (by omega)) (dig_up _ _)
theorem aw_9 : Crc.rows 0 (fun _ => 9) (fun _ => dig 49 9) 1 = 3421780262 := by decide +kernel
theorem aw_4 : Crc.rows 0 (fun _ => 4) (fun _ => dig 49 4) 1 = 2615402659 := by decide +kernel
theorem aw_5 : Crc.go 2615402659 (dig 53 5) 5 = 3421780262 := by decide +kernel

theorem rd_nil8 (w : World) : Rd w none 0 0 (fun _ => none) (fun _ => 0) (fun _ => 0) (fun _ _ => 0) :=
  ⟨Nat.le_refl _, by unfold maxLen; omega, fun _ _ => (by omega : 0 < 256), fun _ => ⟨rfl, rfl⟩, fun _ e => (by cases e), fun _ e => (by cases e), fun i hi => absurd hi (Nat.not_lt_zero i)⟩

theorem of_lit9 (w : World) (z : Nat × Nat) : Calls Try.prog 14 #[.slice (some ⟨w.heap.size + 1, 0, none⟩) 1 1] ((w.alloc (.cells #[.int .u8 49, .int .u8 50, .int .u8 51, .int .u8 52, .int .u8 53, .int .u8 54, .int .u8 55, .int .u8 56, .int .u8 57] 5 z)).alloc (.cells #[.slice (some ⟨w.heap.size, 0, none⟩) 9 9] 23)) fun e w' => e = .returned (.int .u32 3421780262) ∧ Below w.heap.size w w' :=
  (of_sum _ 1 1 _ _ _ _ (by omega) (fun _ _ => by omega) _ (rd_at (dig_9 w z _ rfl) (by simp))).mono fun e w' ⟨h1, h2⟩ => ⟨by rw [h1, aw_9]; rfl, (((Below.refl _ w).alloc (Nat.le_refl _) _).alloc (by simp) _).trans (h2.mono (by simp; omega))⟩
theorem of_lit4 (w : World) (z : Nat × Nat) : Calls Try.prog 14 #[.slice (some ⟨w.heap.size + 1, 0, none⟩) 1 1] ((w.alloc (.cells #[.int .u8 49, .int .u8 50, .int .u8 51, .int .u8 52] 5 z)).alloc (.cells #[.slice (some ⟨w.heap.size, 0, none⟩) 4 4] 23)) fun e w' => e = .returned (.int .u32 2615402659) ∧ Below w.heap.size w w' :=
  (of_sum _ 1 1 _ _ _ _ (by omega) (fun _ _ => by omega) _ (rd_at (dig_4 w z _ rfl) (by simp))).mono fun e w' ⟨h1, h2⟩ => ⟨by rw [h1, aw_4]; rfl, (((Below.refl _ w).alloc (Nat.le_refl _) _).alloc (by simp) _).trans (h2.mono (by simp; omega))⟩
theorem of_none (w : World) : Calls Try.prog 14 #[.slice none 0 0] w fun e w' => e = .returned (.int .u32 0) ∧ Below w.heap.size w w' :=
  (of_sum _ 0 0 _ _ _ _ (by omega) (fun _ _ => by omega) _ (rd_nil8 w)).mono fun e w' ⟨h1, h2⟩ => ⟨h1, h2⟩
theorem go_lit5 (w : World) (z : Nat × Nat) : Calls Try.prog 16 #[.int .u32 2615402659, .slice (some ⟨w.heap.size, 0, none⟩) 5 5] (w.alloc (.cells #[.int .u8 53, .int .u8 54, .int .u8 55, .int .u8 56, .int .u8 57] 5 z)) fun e w' => e = .returned (.int .u32 3421780262) ∧ Below w.heap.size w w' :=
  (go_sum _ 5 5 _ 2615402659 (by omega) (by omega) _ (dig_5 w z _ rfl)).mono fun e w' ⟨h1, h2⟩ => ⟨by rw [h1, aw_5]; rfl, ((Below.refl _ w).alloc (Nat.le_refl _) _).trans (h2.mono (by simp))⟩

set_option maxHeartbeats 1000000 in
set_option maxRecDepth 100000 in
theorem sawake_any (w : World) :
    Calls Try.prog 8 #[] w fun e w' => e = .returned (.bool true) ∧ Below w.heap.size w w' := by
  have kc := fun (w : World) (C : Array Value) (n c : Nat) => Lib.run_convert_bytes_const (P := Try.prog) w 23 5 C n c Try.underlying23 Try.underlying5
  go_enter Try.func8, Try.ntmps8
  go_wp2_with fail
  refine (of_lit9 w _).mono ?_
  rintro e w1 ⟨rfl, hB1⟩
  have HB1 := Lib.hid hB1; clear hB1
  go_wp2_with fail
  refine (of_none w1).mono ?_
  rintro e w2 ⟨rfl, hB2⟩
  have HB2 := Lib.hid (HB1.out.trans (hB2.mono HB1.out.size)); clear hB2
  go_wp2_with fail
  refine (of_lit4 w2 _).mono ?_
  rintro e w3 ⟨rfl, hB3⟩
  have HB3 := Lib.hid (HB2.out.trans (hB3.mono HB2.out.size)); clear hB3
  go_wp2_with fail
  refine (go_lit5 w3 _).mono ?_
  rintro e w4 ⟨rfl, hB4⟩
  have HB4 := Lib.hid (HB3.out.trans (hB4.mono HB3.out.size)); clear hB4
  go_wp2
  go_ret
  exact ⟨rfl, HB4.out⟩

set_option maxHeartbeats 1000000 in
theorem ssize_any (a : Option Addr) (n cap : Nat) (r : Nat → Option Addr) (l c : Nat → Nat) (f : Nat → Nat → Nat) (hn : n ≤ 140737488355328) (hl : ∀ i, i < n → l i ≤ 140737488355328) (w : World) (hR : Rd w a n cap r l c f) :
    Calls Try.prog 7 #[.slice a n cap] w fun e w' => (∃ q : Nat, e = .returned (.int .i64 (q : Nat)) ∧ q ≤ 281474976730656 ∧ (q ≤ 20000 → n ≤ 20000 ∧ ∀ i, i < n → l i ≤ 20000)) ∧ w' = w := by
  have HR := Lib.hid hR; have HL := Lib.hid hl; clear hR hl
  go_enter Try.func7, Try.ntmps7
  go_wp2_with fail
  go_loop [3, 4] (fun v i => ∃ k q : Nat, k ≤ n ∧ i = .int .i64 k ∧ v = .int .i64 (q : Nat) ∧ n ≤ q ∧ q ≤ 281474976730656 ∧ Hid (∀ j, j < k → l j ≤ q)) (fun _ i => n - (intOf i).toNat)
  case atStart => exact ⟨0, n, by omega, rfl, rfl, by omega, by omega, Lib.hid (fun j hj => absurd hj (Nat.not_lt_zero j))⟩
  case round =>
    obtain ⟨k, q, hk, rfl, rfl, hq1, hq2, HQ⟩ := hrel
    by_cases hlt : k < n
    · have i1 : (k : Int) < (n : Int) := by omega
      obtain ⟨ab, ao, ea, hc⟩ := HR.out.at_ hlt
      subst ea
      have hlk := HL.out k hlt
      by_cases hq : q ≤ 20000
      · have i2 : (q : Int) ≤ 20000 := by omega
        go_wp2_with fail
        go_round
        case rel => exact ⟨k + 1, q + l k, by omega, by go_num, by go_num, by omega, by omega, Lib.hid (fun j hj => by
          by_cases e : j = k
          · rw [e]; omega
          · have := HQ.out j (by omega); omega)⟩
        case measure => simp [intOf]; omega
      · have i2 : ¬ (q : Int) ≤ 20000 := by omega
        go_wp2
        go_ret
        exact ⟨⟨q, rfl, hq2, fun h => absurd h hq⟩, rfl⟩
    · obtain rfl : k = n := by omega
      go_wp2
      go_ret
      exact ⟨⟨q, rfl, hq2, fun h => ⟨by omega, fun i hi => by have := HQ.out i hi; omega⟩⟩, rfl⟩
end Go.Proofs.Ytjnfghhochcpaaa
