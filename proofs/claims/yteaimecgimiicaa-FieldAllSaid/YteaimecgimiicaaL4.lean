import Derived.Test.YteaimecgimiicaaL3
namespace Go.Proofs.Yteaimecgimiicaa
open Go.RowKit

theorem IsField.below {fb B : Nat} {w w' : World} (h : IsField fb w) (hB : Below B w w') (hl : fb < B) : IsField fb w' := fun j hj => by
  rw [hB.cell (p := ⟨fb, j, none⟩) hl, hB.frozen (p := ⟨fb, j, none⟩) hl]; exact h j hj

/-- no field: nil, or one whose tables are not filled. -/
def NoField (p : Option Addr) (w : World) : Prop := p = none ∨ ∃ b, p = some ⟨b, 0, none⟩ ∧ w.cell? ⟨b, 0, none⟩ = some (.int .u8 0)
theorem cell_new2 (w : World) (o : Obj) (cs : Array Value) (t : TypeId) (i : Nat) : ((w.alloc o).alloc (.cells cs t)).cell? ⟨w.heap.size + 1, i, none⟩ = cs[i]? := by
  have := World.cell?_alloc_new (w.alloc o) cs t i
  rwa [World.size_alloc] at this
theorem NoField.alloc {p : Option Addr} {w : World} (h : NoField p w) (o : Obj) : NoField p (w.alloc o) := by
  rcases h with h | ⟨b, h, h0⟩
  · exact Or.inl h
  · exact Or.inr ⟨b, h, by rw [World.cell?_alloc_lt _ _ _ (World.block_lt_of_cell? _ _ h0)]; exact h0⟩
theorem NoField.drewN {p : Option Addr} {w : World} (h : NoField p w) (n : Nat) : NoField p (w.drewN n) := h

set_option maxHeartbeats 400000 in
theorem filled_no (b : Nat) (w : World) (h0 : w.cell? ⟨b, 0, none⟩ = some (.int .u8 0)) :
    Calls Try.prog 35 #[.pointer (some ⟨b, 0, none⟩)] w fun e w' => e = .returned (.bool false) ∧ w' = w := by
  go_enter Try.func35, Try.ntmps35
  go_wp2
  go_ret
  exact ⟨rfl, rfl⟩

set_option maxHeartbeats 400000 in
theorem none_yes (p : Option Addr) (w : World) (hF : NoField p w) :
    Calls Try.prog 30 #[.pointer p] w fun e w' => e = .returned (.bool true) ∧ w' = w := by
  rcases hF with rfl | ⟨b, rfl, h0⟩
  · go_enter Try.func30, Try.ntmps30
    go_wp2
    go_ret
    exact ⟨rfl, rfl⟩
  · have H0 := Lib.hid h0; clear h0
    go_enter Try.func30, Try.ntmps30
    go_wp2_with fail
    refine (filled_no _ _ H0.out).mono ?_
    rintro e w' ⟨rfl, rfl⟩
    go_wp2
    go_ret
    exact ⟨rfl, rfl⟩

set_option maxHeartbeats 400000 in
theorem mul_none (p : Option Addr) (x y : Int) (w : World) (hF : NoField p w) :
    Calls Try.prog 18 #[.pointer p, .int .u8 x, .int .u8 y] w fun e w' => e = .returned (.int .u8 0) ∧ w' = w := by
  have HF := Lib.hid hF; clear hF
  go_enter Try.func18, Try.ntmps18
  go_wp2_with fail
  refine (none_yes _ _ HF.out).mono ?_
  rintro e w' ⟨rfl, rfl⟩
  go_wp2
  go_ret
  exact ⟨rfl, rfl⟩

set_option maxHeartbeats 400000 in
theorem exp_none (p : Option Addr) (x : Int) (w : World) (hF : NoField p w) :
    Calls Try.prog 20 #[.pointer p, .int .i64 x] w fun e w' => e = .returned (.int .u8 0) ∧ w' = w := by
  have HF := Lib.hid hF; clear hF
  go_enter Try.func20, Try.ntmps20
  go_wp2_with fail
  refine (none_yes _ _ HF.out).mono ?_
  rintro e w' ⟨rfl, rfl⟩
  go_wp2
  go_ret
  exact ⟨rfl, rfl⟩

set_option maxHeartbeats 400000 in
theorem pow_none (p : Option Addr) (x n : Int) (w : World) (hF : NoField p w) :
    Calls Try.prog 13 #[.pointer p, .int .u8 x, .int .i64 n] w fun e w' => e = .returned (.tuple #[.int .u8 0, .int .i64 1]) ∧ w' = w := by
  have HF := Lib.hid hF; clear hF
  go_enter Try.func13, Try.ntmps13
  go_wp2_with fail
  refine (none_yes _ _ HF.out).mono ?_
  rintro e w' ⟨rfl, rfl⟩
  go_wp2
  go_ret2
  exact ⟨rfl, rfl⟩

set_option maxHeartbeats 400000 in
theorem inv_none (p : Option Addr) (x : Int) (w : World) (hF : NoField p w) :
    Calls Try.prog 9 #[.pointer p, .int .u8 x] w fun e w' => e = .returned (.tuple #[.int .u8 0, .int .i64 1]) ∧ w' = w := by
  have HF := Lib.hid hF; clear hF
  go_enter Try.func9, Try.ntmps9
  go_wp2_with fail
  refine (pow_none _ _ _ _ HF.out).mono ?_
  rintro e w' ⟨rfl, rfl⟩
  go_wp2
  go_ret2
  exact ⟨rfl, rfl⟩

set_option maxHeartbeats 400000 in
theorem div_none (p : Option Addr) (x y : Int) (w : World) (hF : NoField p w) :
    Calls Try.prog 11 #[.pointer p, .int .u8 x, .int .u8 y] w fun e w' => e = .returned (.tuple #[.int .u8 0, .int .i64 1]) ∧ w' = w := by
  have HF := Lib.hid hF; clear hF
  go_enter Try.func11, Try.ntmps11
  go_wp2_with fail
  refine (inv_none _ _ _ HF.out).mono ?_
  rintro e w' ⟨rfl, rfl⟩
  go_wp2
  go_ret2
  exact ⟨rfl, rfl⟩

set_option maxHeartbeats 400000 in
theorem log_none (p : Option Addr) (x : Int) (w : World) (hF : NoField p w) :
    Calls Try.prog 15 #[.pointer p, .int .u8 x] w fun e w' => e = .returned (.tuple #[.int .i64 0, .int .i64 1]) ∧ w' = w := by
  have HF := Lib.hid hF; clear hF
  go_enter Try.func15, Try.ntmps15
  go_wp2_with fail
  refine (none_yes _ _ HF.out).mono ?_
  rintro e w' ⟨rfl, rfl⟩
  go_wp2
  go_ret2
  exact ⟨rfl, rfl⟩

set_option maxHeartbeats 400000 in
theorem dot_none (p : Option Addr) (a b : Option Addr) (l c l' c' : Nat) (w : World) (hF : NoField p w) :
    Calls Try.prog 24 #[.pointer p, .slice a l c, .slice b l' c'] w fun e w' => e = .returned (.tuple #[.int .u8 0, .int .i64 1]) ∧ w' = w := by
  have HF := Lib.hid hF; clear hF
  go_enter Try.func24, Try.ntmps24
  go_wp2_with fail
  refine (none_yes _ _ HF.out).mono ?_
  rintro e w' ⟨rfl, rfl⟩
  go_wp2
  go_ret2
  exact ⟨rfl, rfl⟩

set_option maxHeartbeats 1000000 in
set_option maxRecDepth 100000 in
theorem nones_any (w : World) :
    Calls Try.prog 27 #[] w fun e w' => e = .returned (.bool true) ∧ Below w.heap.size w w' := by
  have hb := zero_field
  go_enter Try.func27, Try.ntmps27
  go_wp2_with fail
  go_loopw [2] (fun i wr => ∃ k : Nat, k ≤ 2 ∧ i = .int .i64 k ∧ Below (w.heap.size + 2) ((w.alloc (.cells zerosF 47)).alloc (.cells #[.pointer none, .pointer (some ⟨w.heap.size, 0, none⟩)] 22)) wr) (fun i _ => 2 - (intOf i).toNat)
  case atStart => exact ⟨0, by omega, rfl, Below.refl _ _⟩
  case round =>
    obtain ⟨k, hk, rfl, hB⟩ := hrel
    have c0 : wr.cell? ⟨w.heap.size + 1, 0, none⟩ = some (.pointer none) := by
      rw [hB.cell (by simp)]
      exact (cell_new2 _ _ _ _ _).trans rfl
    have c1 : wr.cell? ⟨w.heap.size + 1, 1, none⟩ = some (.pointer (some ⟨w.heap.size, 0, none⟩)) := by
      rw [hB.cell (by simp)]
      exact (cell_new2 _ _ _ _ _).trans rfl
    have z0 : wr.cell? ⟨w.heap.size, 0, none⟩ = some (.int .u8 0) := by
      rw [hB.cell (by simp), World.cell?_alloc_lt _ _ _ (by simp), World.cell?_alloc_new]; rfl
    have HB := Lib.hid hB; clear hB hb
    have hs : w.heap.size + 2 ≤ wr.heap.size := by have := HB.out.size; simp at this; omega
    rcases (show k = 0 ∨ k = 1 ∨ k = 2 by omega) with rfl | rfl | rfl
    · have HN := Lib.hid (show NoField none wr from Or.inl rfl)
      clear z0 c1
      go_wp2_with fail
      refine (inv_none _ _ _ HN.out).mono ?_
      rintro e w' ⟨rfl, rfl⟩
      go_wp2_with fail
      refine (div_none _ _ _ _ HN.out).mono ?_
      rintro e w' ⟨rfl, rfl⟩
      go_wp2_with fail
      refine (pow_none _ _ _ _ HN.out).mono ?_
      rintro e w' ⟨rfl, rfl⟩
      go_wp2_with fail
      refine (log_none _ _ _ HN.out).mono ?_
      rintro e w' ⟨rfl, rfl⟩
      go_wp2_with fail
      refine (dot_none _ _ _ _ _ _ _ _ (HN.out.alloc _)).mono ?_
      rintro e w' ⟨rfl, rfl⟩
      go_wp2_with fail
      refine (mul_none _ _ _ _ (HN.out.alloc _)).mono ?_
      rintro e w' ⟨rfl, rfl⟩
      go_wp2_with fail
      refine (exp_none _ _ _ (HN.out.alloc _)).mono ?_
      rintro e w' ⟨rfl, rfl⟩
      go_wp2
      go_roundw
      case rel => exact ⟨1, by omega, rfl, HB.out.alloc hs _⟩
      case measure => simp [intOf]
    · have HN := Lib.hid (show NoField (some ⟨w.heap.size, 0, none⟩) wr from Or.inr ⟨_, rfl, z0⟩)
      clear z0 c0
      go_wp2_with fail
      refine (inv_none _ _ _ HN.out).mono ?_
      rintro e w' ⟨rfl, rfl⟩
      go_wp2_with fail
      refine (div_none _ _ _ _ HN.out).mono ?_
      rintro e w' ⟨rfl, rfl⟩
      go_wp2_with fail
      refine (pow_none _ _ _ _ HN.out).mono ?_
      rintro e w' ⟨rfl, rfl⟩
      go_wp2_with fail
      refine (log_none _ _ _ HN.out).mono ?_
      rintro e w' ⟨rfl, rfl⟩
      go_wp2_with fail
      refine (dot_none _ _ _ _ _ _ _ _ (HN.out.alloc _)).mono ?_
      rintro e w' ⟨rfl, rfl⟩
      go_wp2_with fail
      refine (mul_none _ _ _ _ (HN.out.alloc _)).mono ?_
      rintro e w' ⟨rfl, rfl⟩
      go_wp2_with fail
      refine (exp_none _ _ _ (HN.out.alloc _)).mono ?_
      rintro e w' ⟨rfl, rfl⟩
      go_wp2
      go_roundw
      case rel => exact ⟨2, by omega, rfl, HB.out.alloc hs _⟩
      case measure => simp [intOf]
    · clear c0 c1 z0 hk
      go_wp2
      go_ret
      exact ⟨rfl, (((Below.refl _ _).alloc (Nat.le_refl _) _).alloc (by simp) _).trans (HB.out.mono (by omega))⟩

theorem fieldDoes_int (x y n : Int) (hx0 : 0 ≤ x) (hx : x < 256) (hy0 : 0 ≤ y) (hy : y < 256) (w : World) :
    Calls Try.prog 3 #[.int .u8 x, .int .u8 y, .int .i64 n] w fun e w' => e = .returned (.bool true) ∧ Below w.heap.size w w' := by
  obtain ⟨a, rfl⟩ := Int.eq_ofNat_of_zero_le hx0
  obtain ⟨b, rfl⟩ := Int.eq_ofNat_of_zero_le hy0
  exact fieldDoes_nat a b (by omega) (by omega) n w

set_option maxHeartbeats 2000000 in
set_option maxRecDepth 100000 in
theorem fieldAll_any (w : World) :
    Calls Try.prog 5 #[] w fun e w' => e = .returned (.bool true) ∧ Below w.heap.size w w' := by
  go_enter Try.func5, Try.ntmps5
  go_wp2_with fail
  refine (new_any _).mono ?_
  rintro e w1 ⟨rfl, hF, hB⟩
  have hs1 : w.heap.size < w1.heap.size := World.block_lt_of_cell? _ _ (hF 0 (by omega)).1
  have HF := Lib.hid hF; have HB := Lib.hid hB; clear hF hB
  generalize hfb : w.heap.size = fb at HF hs1
  have HFB := Lib.hid hfb; clear hfb
  go_wp2_with fail
  go_loopw [2] (fun i wr => ∃ k : Nat, k ≤ 256 ∧ i = .int .i64 k ∧ Below w1.heap.size w1 wr) (fun i _ => 256 - (intOf i).toNat)
  case atStart => exact ⟨0, by omega, rfl, Below.refl _ _⟩
  case round =>
    obtain ⟨a, ha, rfl, hB1⟩ := hrel
    obtain ⟨wo, rfl⟩ : ∃ wo : World, wo = wr := ⟨_, rfl⟩
    have HB1 := Lib.hid hB1; clear hB1
    by_cases hlt : a < 256
    · have hda : decide ((a : Int) < 256) = true := by simp; omega
      go_wp2_with fail
      go_loopw [3] (fun i wr => ∃ k : Nat, k ≤ 256 ∧ i = .int .i64 k ∧ Below w1.heap.size w1 wr) (fun i _ => 256 - (intOf i).toNat)
      case atStart => exact ⟨0, by omega, rfl, HB1.out⟩
      case round =>
        obtain ⟨b, hb, rfl, hB2⟩ := hrel
        obtain ⟨wi, rfl⟩ : ∃ wi : World, wi = wr := ⟨_, rfl⟩
        have HB2 := Lib.hid hB2; clear hB2
        by_cases hlb : b < 256
        · have HF2 := Lib.hid (HF.out.below HB2.out hs1)
          go_wp2_with fail
          refine (mul_nat _ a b hlt hlb _ HF2.out).mono ?_
          rintro e w' ⟨rfl, q, rfl⟩
          go_wp2_with fail
          refine (rmul_any a b hlt hlb _).mono ?_
          rintro e w' ⟨rfl, rfl⟩
          go_wp2
          go_roundw
          case rel => exact ⟨b + 1, by omega, by go_num, below_drewN HB2.out _⟩
          case measure => simp [intOf]; omega
        · have hdb : decide ((b : Int) < 256) = false := by simp; omega
          go_wp2_with fail
          generalize hw2 : World.alloc wi _ = w2
          have hs2 : wi.heap.size < w2.heap.size := by rw [← hw2]; simp
          have hB3 : Below w1.heap.size w1 w2 := by rw [← hw2]; exact HB2.out.alloc HB2.out.size _
          have hcs : ∀ i, i < 12 → ∃ v : Int, w2.cell? ⟨wi.heap.size, i, none⟩ = some (.int .i64 v) := by
            intro i hi
            rw [← hw2, World.cell?_alloc_new]
            rcases (show i = 0 ∨ i = 1 ∨ i = 2 ∨ i = 3 ∨ i = 4 ∨ i = 5 ∨ i = 6 ∨ i = 7 ∨ i = 8 ∨ i = 9 ∨ i = 10 ∨ i = 11 by omega) with rfl | rfl | rfl | rfl | rfl | rfl | rfl | rfl | rfl | rfl | rfl | rfl <;> exact ⟨_, rfl⟩
          have HCS := Lib.hid hcs; have HB3 := Lib.hid hB3; clear hcs hB3 hw2
          generalize hg : wi.heap.size = gb at *
          clear hg
          go_loopw [5] (fun i wr => ∃ k : Nat, k ≤ 12 ∧ i = .int .i64 k ∧ Below w2.heap.size w2 wr) (fun i _ => 12 - (intOf i).toNat)
          case atStart => exact ⟨0, by omega, rfl, Below.refl _ _⟩
          case round =>
            obtain ⟨i, hi, rfl, hB4⟩ := hrel
            obtain ⟨wj, rfl⟩ : ∃ wj : World, wj = wr := ⟨_, rfl⟩
            by_cases hli : i < 12
            · obtain ⟨v, hv⟩ := HCS.out i hli
              rw [← hB4.cell (p := ⟨gb, i, none⟩) hs2] at hv
              have HB4 := Lib.hid hB4; clear hB4
              by_cases h5 : a % 5 = 0
              · have h5' : ((a : Int) % 5 == 0) = true := by simp; omega
                clear h5
                go_wp2_with fail
                refine (fieldDoes_int _ _ _ (by omega) (by omega) (by omega) (by omega) _).mono ?_
                rintro e w3 ⟨rfl, hB5⟩
                have HB5 := Lib.hid hB5; clear hB5
                go_wp2
                go_roundw
                case rel => exact ⟨i + 1, by omega, by go_num, HB4.out.trans (HB5.out.mono HB4.out.size)⟩
                case measure => simp [intOf]; omega
              · have h5' : ((a : Int) % 5 == 0) = false := by simp; omega
                clear h5
                go_wp2
                go_roundw
                case rel => exact ⟨i + 1, by omega, by go_num, HB4.out⟩
                case measure => simp [intOf]; omega
            · have HB4 := Lib.hid hB4; clear hB4
              have hdi : decide ((i : Int) < 12) = false := by simp; omega
              go_wp2_with fail
              refine (fieldDoes_int _ _ _ (by omega) (by omega) (by omega) (by omega) _).mono ?_
              rintro e w3 ⟨rfl, hB5⟩
              have HB5 := Lib.hid hB5; clear hB5
              go_wp2
              go_roundw
              case rel => exact ⟨a + 1, by omega, by go_num, (HB3.out.trans (HB4.out.mono HB3.out.size)).trans (HB5.out.mono (Nat.le_trans HB3.out.size HB4.out.size))⟩
              case measure => simp [intOf]; omega
    · go_wp2_with fail
      refine (nones_any _).mono ?_
      rintro e w2 ⟨rfl, hB2⟩
      have HB2 := Lib.hid hB2; clear hB2
      go_wp2_with fail
      refine (awake_any _).mono ?_
      rintro e w3 ⟨rfl, hB3⟩
      have HB3 := Lib.hid hB3; clear hB3
      go_wp2
      go_ret
      have h1 : Below w1.heap.size w1 w3 := (HB1.out.trans (HB2.out.mono HB1.out.size)).trans (HB3.out.mono (Nat.le_trans HB1.out.size HB2.out.size))
      exact ⟨rfl, HB.out.trans (h1.mono HB.out.size)⟩
end Go.Proofs.Yteaimecgimiicaa
