import Derived.StillTailTactics
import Derived.Outline
import Derived.RegionTactic
import Derived.Deep.DeepCutAuto
import Derived.BigRegion
import Derived.Test.YtkejabhjlflknaaGreatMg7
namespace Go.Proofs.YtkejabhjlflknaaGreat
open Go.RowKit Go.Shelf

/-- how many columns there are. -/
def wd (n : Nat) (l : Nat → Nat) : Nat := if n = 0 then 0 else l 0

set_option maxHeartbeats 1000000 in
set_option maxRecDepth 100000 in
theorem sizes_yes (a : Option Addr) (n cap : Nat) (r : Nat → Option Addr) (l c : Nat → Nat) (f : Nat → Nat → Nat) (hn : n ≤ 1000000000000) (w : World) (hR : Rd w a n cap r l c f) (he : ∀ i, i < n → l i = l 0) :
    Calls Tryz.prog 142 #[.slice a n cap] w fun e w' => e = .returned (.tuple #[.int .i64 (n : Nat), .int .i64 (wd n l : Nat), .bool true]) ∧ ∃ q, w' = w.drewN q := by
  have HR := Lib.hid hR; have HE := Lib.hid he; clear hR he
  by_cases h0 : n = 0
  · have hz : (((n : Nat) : Int) == 0) = true := by simp [h0]
    have ew : wd n l = 0 := if_pos h0
    rw [ew, h0]
    rw [h0] at hz
    go_enter Tryz.func142, Tryz.ntmps142
    go_wp2
    go_ret3
    exact ⟨rfl, 0, rfl⟩
  · have hz : (((n : Nat) : Int) == 0) = false := by simp; omega
    have ew : wd n l = l 0 := if_neg h0
    rw [ew]
    clear ew
    obtain ⟨b, off, ea, c0⟩ := HR.out.at_ (k := 0) (by omega)
    subst ea
    rw [Nat.add_zero] at c0
    have hn0 : (0 : Int) < (n : Int) := by omega
    have hn1 : 0 < n := by omega
    go_enter Tryz.func142, Tryz.ntmps142
    go_wp2_with fail
    go_loop [12] (fun i => ∃ k : Nat, k ≤ n ∧ i = .int .i64 k) (fun i => n - (intOf i).toNat)
    case atStart => exact ⟨0, by omega, rfl⟩
    case round =>
      obtain ⟨k, hk, rfl⟩ := hrel
      by_cases hlt : k < n
      · have hc := HR.out.cell _ rfl k hlt
        have hne := ne_no (HE.out k hlt)
        have i1 : (k : Int) < (n : Int) := by omega
        go_wp2_with fail
        go_round
        case rel => exact ⟨k + 1, by omega, by go_num⟩
        case measure => simp [intOf]; omega
      · obtain rfl : k = n := by omega
        go_wp2_with fail
        go_quiet (fail)
        go_wp2
        go_ret3
        exact ⟨rfl, _, rfl⟩

set_option maxHeartbeats 1000000 in
set_option maxRecDepth 100000 in
theorem sizes_no (a : Option Addr) (n cap : Nat) (r : Nat → Option Addr) (l c : Nat → Nat) (f : Nat → Nat → Nat) (hn : n ≤ 1000000000000) (w : World) (hR : Rd w a n cap r l c f) (he : ¬ ∀ i, i < n → l i = l 0) :
    Calls Tryz.prog 142 #[.slice a n cap] w fun e w' => e = .returned (.tuple #[.int .i64 0, .int .i64 0, .bool false]) ∧ w' = w := by
  have HR := Lib.hid hR; have HE := Lib.hid he; clear hR he
  by_cases h0 : n = 0
  · exact absurd (fun i hi => by omega) HE.out
  · have hz : (((n : Nat) : Int) == 0) = false := by simp; omega
    obtain ⟨b, off, ea, c0⟩ := HR.out.at_ (k := 0) (by omega)
    subst ea
    rw [Nat.add_zero] at c0
    have hn0 : (0 : Int) < (n : Int) := by omega
    have hn1 : 0 < n := by omega
    go_enter Tryz.func142, Tryz.ntmps142
    go_wp2_with fail
    go_loop [12] (fun i => ∃ k : Nat, k ≤ n ∧ i = .int .i64 k ∧ ∀ j, j < k → l j = l 0) (fun i => n - (intOf i).toNat)
    case atStart => exact ⟨0, by omega, rfl, fun j hj => absurd hj (Nat.not_lt_zero j)⟩
    case round =>
      obtain ⟨k, hk, rfl, hev⟩ := hrel
      have HV := Lib.hid hev; clear hev
      by_cases hlt : k < n
      · have hc := HR.out.cell _ rfl k hlt
        have i1 : (k : Int) < (n : Int) := by omega
        by_cases hlk : l k = l 0
        · have hne := ne_no hlk
          have HLK := Lib.hid hlk; clear hlk
          go_wp2_with fail
          go_round
          case rel => exact ⟨k + 1, by omega, by go_num, fun j hj => by
            by_cases e : j = k
            · rw [e]; exact HLK.out
            · exact HV.out j (by omega)⟩
          case measure => simp [intOf]; omega
        · have hne := ne_yes hlk
          go_wp2
          go_ret3
          exact ⟨rfl, rfl⟩
      · obtain rfl : k = n := by omega
        exact absurd HV.out HE.out

theorem Tryz.infoRow : (Tryz.prog.info? 50).map (fun i => (i.zero, i.size, i.bytes)) = some (some (.slice none 0 0), 1, 24) := by kernel_rfl
theorem hmkGrid (N : Nat) (hN : N ≤ 1000000000) : ∀ W : World, (Instr.makeSlice 213 (.int .i64 (N : Nat)) (.int .i64 (N : Nat))).run Tryz.prog W = .ok (.slice (some ⟨W.heap.size, 0, none⟩) N N) (W.alloc (.cells (madeCells #[.slice none 0 0] N) 50)) := fun W => by
  obtain ⟨i0, hi, hz0, hz1, hz2⟩ := info_parts Tryz.infoRow
  have := run_make (P := Tryz.prog) W 213 50 i0 (.slice none 0 0) Tryz.underlying213 hi hz0 .i64 .i64 (N : Int) (N : Int) (by omega) (Int.le_refl _) (by rw [hz2]; omega) (by omega)
  have e : (Value.slice none 0 0).cells = #[.slice none 0 0] := rfl
  rw [hz1, e, Int.toNat_natCast, Nat.mul_one] at this; exact this
theorem hmkRows (N : Nat) (hN : N ≤ 1000000000) : ∀ W : World, (Instr.makeSlice 22 (.int .i64 (N : Nat)) (.int .i64 (N : Nat))).run Tryz.prog W = .ok (.slice (some ⟨W.heap.size, 0, none⟩) N N) (W.alloc (.cells (madeCells #[.slice none 0 0] N) 50)) := fun W => by
  obtain ⟨i0, hi, hz0, hz1, hz2⟩ := info_parts Tryz.infoRow
  have := run_make (P := Tryz.prog) W 22 50 i0 (.slice none 0 0) Tryz.underlying22 hi hz0 .i64 .i64 (N : Int) (N : Int) (by omega) (Int.le_refl _) (by rw [hz2]; omega) (by omega)
  have e : (Value.slice none 0 0).cells = #[.slice none 0 0] := rfl
  rw [hz1, e, Int.toNat_natCast, Nat.mul_one] at this; exact this
theorem gr_made (W : World) (B N : Nat) (b l c : Nat → Nat) (hN : N ≤ 1000000000) (hB : B ≤ W.heap.size) : Gr (W.alloc (.cells (madeCells #[.slice none 0 0] N) 50)) B W.heap.size 0 N b l c (fun _ _ => 0) :=
  gr_none (heap_alloc_new W _) (size_madeCells _ _) (by unfold maxLen; omega) hB
/-- what a call answers that hands out a matrix of so many rows and columns in new memory. -/
def Makes (w : World) (h wi : Nat) (f : Nat → Nat → Nat) (e : Ending) (w' : World) : Prop :=
  ∃ G b, e = .returned (.slice (some ⟨G, 0, none⟩) h h) ∧ Gr w' w.heap.size G h h b (fun _ => wi) (fun _ => wi) f ∧ Below w.heap.size w w'

set_option maxHeartbeats 1000000 in
set_option maxRecDepth 100000 in
theorem blank_any (h wi : Nat) (h1 : h ≤ 1000000000) (h2 : wi ≤ 1000000000) (w : World) :
    Calls Tryz.prog 144 #[.int .i64 (h : Nat), .int .i64 (wi : Nat)] w (Makes w h wi (fun _ _ => 0)) := by
  have hm1 := hmkGrid h h1
  have hm2 := hmk8 wi (by omega)
  have hG := gr_made w w.heap.size h (fun _ => 0) (fun _ => wi) (fun _ => wi) h1 (Nat.le_refl _)
  have hB := (Below.refl w.heap.size w).alloc (Nat.le_refl _) (.cells (madeCells #[.slice none 0 0] h) 50)
  have HG := Lib.hid hG; have HB := Lib.hid hB; clear hG hB
  go_enter Tryz.func144, Tryz.ntmps144
  go_wp2_with fail
  go_loopw [11] (fun i wr => ∃ (k : Nat) (b : Nat → Nat), k ≤ h ∧ i = .int .i64 k ∧ Gr wr w.heap.size w.heap.size k h b (fun _ => wi) (fun _ => wi) (fun _ _ => 0) ∧ Below w.heap.size w wr) (fun i _ => h - (intOf i).toNat)
  case atStart => exact ⟨0, fun _ => 0, by omega, rfl, HG.out, HB.out⟩
  case round =>
    rename_i wr
    obtain ⟨k, b, hk, rfl, hGr, hBe⟩ := hrel
    have hbl := bl_made wr wi
    have HBL := Lib.hid hbl
    have HR := Lib.hid hGr; have HBe := Lib.hid hBe
    have hlt := hGr.ltG
    clear hGr hBe hbl
    by_cases hkh : k < h
    · have i1 : (k : Int) < (h : Int) := by omega
      obtain ⟨vs, k1, k2, k3⟩ := HR.out.blk
      have hcell : ∃ v, (wr.alloc (.cells (madeCells #[.int .u8 0] wi) 5)).cell? ⟨w.heap.size, k, none⟩ = some v := by
        refine ⟨vs[k]'(by omega), ?_⟩
        rw [World.cell?_alloc_lt _ _ _ (by simpa using hlt), cell_of_row wr _ k vs _ _ k1]
        simp [show k < vs.size by omega]
      have hfr : (wr.alloc (.cells (madeCells #[.int .u8 0] wi) 5)).frozen? ⟨w.heap.size, k, none⟩ = false := (HR.out.same ((Below.refl _ _).alloc (Nat.le_refl _) _)).free k
      clear k1 k2 k3
      obtain ⟨v0, hcell⟩ := hcell
      go_wp2_with fail
      go_roundw
      case rel => exact ⟨k + 1, _, by omega, by go_num, World.setCell_alloc_past (w := wr) _ _ k _ hlt ▸ (HR.out.same ((Below.refl _ _).alloc (Nat.le_refl _) _)).pushU hkh HBL.out (by unfold maxLen; omega) HBe.out.size (fun i hi e => by have := HR.out.ltb hi; omega) zero_by (zero_up _) (fun _ _ => (by omega : 0 < 256)) (fun _ _ _ => rfl) (fun _ => rfl), (HBe.out.setCell (p := ⟨w.heap.size, k, none⟩) (Nat.le_refl _) _).alloc (by rw [World.size_setCell]; exact HBe.out.size) _⟩
      case measure => simp [intOf]; omega
    · obtain rfl : k = h := by omega
      go_wp2
      go_ret
      exact ⟨_, b, rfl, HR.out, HBe.out⟩
end Go.Proofs.YtkejabhjlflknaaGreat

namespace Go.Proofs.YtkejabhjlflknaaGreat
open Go.RowKit Go.Shelf

/-- the sum of the products at so many places. -/
def dotN (f g : Nat → Nat) (m : Nat) : Nat := Pf.xsum (fun k => Gf.mul (f k) (g k)) m
theorem dotN_lt {f g : Nat → Nat} (hf : Pf.By f) (hg : Pf.By g) (m : Nat) : dotN f g m < 256 := Pf.xsum_lt m fun k _ => Gf.mul_lt (hf k) (hg k)
theorem dotTo_ints (f g : Nat → Nat) (l : Nat) : ∀ k, k ≤ l → dotTo (ints f l) (ints g l) k = dotN f g k
  | 0, _ => rfl
  | k + 1, h => by
    show dotTo (ints f l) (ints g l) k ^^^ Gf.mul ((ints f l).getD k 0).toNat ((ints g l).getD k 0).toNat = dotN f g k ^^^ Gf.mul (f k) (g k)
    rw [dotTo_ints f g l k (by omega), ints_get (by omega), ints_get (by omega), Int.toNat_natCast, Int.toNat_natCast]
/-- a worker: a field, and rows. -/
def Wr (w : World) (W fb : Nat) (a : Option Addr) (n cap : Nat) : Prop := w.heap[W]? = some (.cells #[.pointer (some ⟨fb, 0, none⟩), .slice a n cap] 217 (0, 0))
section
variable {w w' : World} {W fb n cap : Nat} {a : Option Addr}
theorem Wr.c0 (h : Wr w W fb a n cap) : w.cell? ⟨W, 0, none⟩ = some (.pointer (some ⟨fb, 0, none⟩)) := by rw [cell_of_row w W 0 _ _ _ h]; rfl
theorem Wr.c1 (h : Wr w W fb a n cap) : w.cell? ⟨W, 1, none⟩ = some (.slice a n cap) := by rw [cell_of_row w W 1 _ _ _ h]; rfl
theorem Wr.lt (h : Wr w W fb a n cap) : W < w.heap.size := (Array.getElem?_eq_some_iff.1 h).1
theorem Wr.kept (h : Wr w W fb a n cap) (hk : w'.heap[W]? = w.heap[W]?) : Wr w' W fb a n cap := hk.trans h
theorem Wr.same (h : Wr w W fb a n cap) (hB : Below w.heap.size w w') : Wr w' W fb a n cap := h.kept (hB.block W h.lt)
theorem IsField.lt (h : IsField fb w) : fb < w.heap.size := World.block_lt_of_cell? _ _ (h 0 (by omega)).1
theorem IsField.same (h : IsField fb w) (hB : Below w.heap.size w w') : IsField fb w' := h.below hB h.lt
theorem IsField.grown {row : Option Nat} (h : IsField fb w) (hg : w.grownBy w' row) (hr : some fb ≠ row) : IsField fb w' := fun j hj => by
  have e := hg.block fb h.lt hr
  exact ⟨(World.cell?_of_block (a := ⟨fb, j, none⟩) e).trans (h j hj).1, (World.frozen?_of_block (a := ⟨fb, j, none⟩) e).trans (h j hj).2⟩
end

/-- of the first k rows the sums of products with g, else 0. -/
def dots (f : Nat → Nat → Nat) (g : Nat → Nat) (m k i : Nat) : Nat := if i < k then dotN (f i) g m else 0
theorem dots_by {f : Nat → Nat → Nat} {g : Nat → Nat} (hf : Mt.Bm f) (hg : Pf.By g) (m k : Nat) : Pf.By (dots f g m k) := fun i => by
  unfold dots; split
  · exact dotN_lt (hf i) hg m
  · omega
theorem dots_up (f : Nat → Nat → Nat) (g : Nat → Nat) (m k : Nat) : Pf.Up (dots f g m k) k := fun i hi => by unfold dots; rw [if_neg (by omega)]
theorem dots_s (f : Nat → Nat → Nat) (g : Nat → Nat) (m k i : Nat) : (if i = k then dotN (f k) g m else dots f g m k i) = dots f g m (k + 1) i := by
  unfold dots
  by_cases e : i = k
  · subst e; rw [if_pos rfl, if_pos (by omega)]
  · rw [if_neg e]
    by_cases h : i < k
    · rw [if_pos h, if_pos (by omega)]
    · rw [if_neg h, if_neg (by omega)]

end Go.Proofs.YtkejabhjlflknaaGreat
