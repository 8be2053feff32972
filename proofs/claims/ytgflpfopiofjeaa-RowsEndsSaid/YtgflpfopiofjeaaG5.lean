import Derived.Test.YtgflpfopiofjeaaG1
import Derived.Test.YtgflpfopiofjeaaFd
namespace Go.Proofs.Ytgflpfopiofjeaa
open Go.RowKit Go.Shelf

/-- the sum of the products at so many places. -/
def dotN (f g : Nat → Nat) (m : Nat) : Nat := Pf.xsum (fun k => Gf.mul (f k) (g k)) m
theorem dotN_lt {f g : Nat → Nat} (hf : Pf.By f) (hg : Pf.By g) (m : Nat) : dotN f g m < 256 := Pf.xsum_lt m fun k _ => Gf.mul_lt (hf k) (hg k)
theorem dotTo_ints (f g : Nat → Nat) (l : Nat) : ∀ k, k ≤ l → dotTo (ints f l) (ints g l) k = dotN f g k
  | 0, _ => rfl
  | k + 1, h => by
    show dotTo (ints f l) (ints g l) k ^^^ Gf.mul ((ints f l).getD k 0).toNat ((ints g l).getD k 0).toNat = dotN f g k ^^^ Gf.mul (f k) (g k)
    rw [dotTo_ints f g l k (by omega), ints_get (by omega), ints_get (by omega), Int.toNat_natCast, Int.toNat_natCast]
theorem dot_nat (fb : Nat) (a a' : Option Addr) (l c c' : Nat) (f g : Nat → Nat) (hl : l ≤ 1000000000000) (w : World) (hF : IsField fb w) (h1 : Sl w a l c f) (h2 : Sl w a' l c' g) :
    Calls Try.prog 48 #[.pointer (some ⟨fb, 0, none⟩), .slice a l c, .slice a' l c'] w fun e w' => e = .returned (.tuple #[.int .u8 (dotN f g l : Nat), .int .i64 0]) ∧ ∃ q, w' = w.drewN q := by
  have h := dot_any fb a a' l c l c' (ints f l) (ints g l) w hF h1.has8 h2.has8 hl hl
  rw [if_pos rfl, dotTo_ints f g l l (Nat.le_refl _)] at h
  exact h
theorem rdot_nat (a a' : Option Addr) (l c c' : Nat) (f g : Nat → Nat) (hl : l ≤ 1000000000000) (w : World) (h1 : Sl w a l c f) (h2 : Sl w a' l c' g) :
    Calls Try.prog 42 #[.slice a l c, .slice a' l c'] w fun e w' => e = .returned (.tuple #[.int .u8 (dotN f g l : Nat), .int .i64 0]) ∧ ∃ q, w' = w.drewN q := by
  have h := rdot_any a a' l c l c' (ints f l) (ints g l) w h1.has8 h2.has8 hl hl
  rw [if_pos rfl, dotTo_ints f g l l (Nat.le_refl _)] at h
  exact h

/-- a worker: a field, and rows. -/
def Wr (w : World) (W fb : Nat) (a : Option Addr) (n cap : Nat) : Prop := w.heap[W]? = some (.cells #[.pointer (some ⟨fb, 0, none⟩), .slice a n cap] 50 (0, 0))
section
variable {w w' : World} {W fb n cap : Nat} {a : Option Addr}
theorem Wr.c0 (h : Wr w W fb a n cap) : w.cell? ⟨W, 0, none⟩ = some (.pointer (some ⟨fb, 0, none⟩)) := by rw [cell_of_row w W 0 _ _ _ h]; rfl
theorem Wr.c1 (h : Wr w W fb a n cap) : w.cell? ⟨W, 1, none⟩ = some (.slice a n cap) := by rw [cell_of_row w W 1 _ _ _ h]; rfl
theorem Wr.lt (h : Wr w W fb a n cap) : W < w.heap.size := (Array.getElem?_eq_some_iff.1 h).1
theorem Wr.kept (h : Wr w W fb a n cap) (hk : w'.heap[W]? = w.heap[W]?) : Wr w' W fb a n cap := hk.trans h
theorem Wr.same (h : Wr w W fb a n cap) (hB : Below w.heap.size w w') : Wr w' W fb a n cap := h.kept (hB.block W h.lt)
theorem IsField.lt (h : IsField fb w) : fb < w.heap.size := World.block_lt_of_cell? _ _ (h 0 (by omega)).1
theorem IsField.same (h : IsField fb w) (hB : Below w.heap.size w w') : IsField fb w' := h.below hB h.lt
theorem IsField.grown {row : Option Nat} (h : IsField fb w) (hg : w.grownBy w' row) (hr : some fb ≠ row) : IsField fb w' := fun j hj => by
  have e := hg.block fb h.lt hr
  exact ⟨(World.cell?_of_block (a := ⟨fb, j, none⟩) e).trans (h j hj).1, (World.frozen?_of_block (a := ⟨fb, j, none⟩) e).trans (h j hj).2⟩
end

/-- of the first k rows the sums of products with g, else 0. -/
def dots (f : Nat → Nat → Nat) (g : Nat → Nat) (m k i : Nat) : Nat := if i < k then dotN (f i) g m else 0
theorem dots_by {f : Nat → Nat → Nat} {g : Nat → Nat} (hf : Mt.Bm f) (hg : Pf.By g) (m k : Nat) : Pf.By (dots f g m k) := fun i => by
  unfold dots; split
  · exact dotN_lt (hf i) hg m
  · omega
theorem dots_up (f : Nat → Nat → Nat) (g : Nat → Nat) (m k : Nat) : Pf.Up (dots f g m k) k := fun i hi => by unfold dots; rw [if_neg (by omega)]
theorem dots_s (f : Nat → Nat → Nat) (g : Nat → Nat) (m k i : Nat) : (if i = k then dotN (f k) g m else dots f g m k i) = dots f g m (k + 1) i := by
  unfold dots
  by_cases e : i = k
  · subst e; rw [if_pos rfl, if_pos (by omega)]
  · rw [if_neg e]
    by_cases h : i < k
    · rw [if_pos h, if_pos (by omega)]
    · rw [if_neg h, if_neg (by omega)]

set_option maxHeartbeats 1000000 in
set_option maxRecDepth 100000 in
theorem dots_any (W fb : Nat) (a va : Option Addr) (n cap m vc : Nat) (r : Nat → Option Addr) (l c : Nat → Nat) (f : Nat → Nat → Nat) (g : Nat → Nat) (hn : n ≤ 1000000) (hm : m ≤ 1000000000) (w : World) (hW : Wr w W fb a n cap) (hF : IsField fb w) (hR : Rd w a n cap r l c f) (he : ∀ i, i < n → l i = m) (hV : Sl w va m vc g) :
    Calls Try.prog 33 #[.pointer (some ⟨W, 0, none⟩), .slice va m vc] w fun e w' => e = .returned (.slice (some ⟨w.heap.size, 0, none⟩) n n) ∧ Bl w' w.heap.size n n (dots f g m n) ∧ Below w.heap.size w w' := by
  have hmk := hmk8 n (by omega)
  have HW := Lib.hid hW; have HF := Lib.hid hF; have HR := Lib.hid hR; have HE := Lib.hid he; have HV := Lib.hid hV
  have z0 := hW.c0; have z1 := hW.c1
  clear hW hF hR he hV
  have hB0 : Below w.heap.size w (w.alloc (.cells (madeCells #[.int .u8 0] n) 5)) := (Below.refl _ w).alloc (Nat.le_refl _) _
  have HS0 := Lib.hid ((bl_made w n).congr (h' := dots f g m 0) fun i _ => by unfold dots; rw [if_neg (by omega)])
  have hw0 := HW.out.lt
  have y0 := (HW.out.same hB0).c0; have y1 := (HW.out.same hB0).c1
  have HB0 := Lib.hid hB0; clear hB0
  go_enter Try.func33, Try.ntmps33
  go_wp2_with fail
  clear z0 z1 y0 y1
  go_loopw [19] (fun i wr => ∃ k : Nat, k ≤ n ∧ i = .int .i64 k ∧ Bl wr w.heap.size n n (dots f g m k) ∧ Below w.heap.size w wr) (fun i _ => n - (intOf i).toNat)
  case atStart => exact ⟨0, by omega, rfl, HS0.out, HB0.out⟩
  case round =>
    rename_i wr
    obtain ⟨k, hk, rfl, hBl, hBe⟩ := hrel
    have HBl := Lib.hid hBl; have HBe := Lib.hid hBe
    clear hBl hBe
    by_cases hkn : k < n
    · have i1 : (k : Int) < (n : Int) := by omega
      have hRk := HR.out.same HBe.out
      obtain ⟨ab, ao, ea, hca⟩ := hRk.at_ hkn
      subst ea
      have hrow := hRk.row k hkn
      rw [HE.out k hkn] at hca hrow
      have HROW := Lib.hid hrow; clear hrow hRk
      have z0 := (HW.out.same HBe.out).c0
      go_wp2_with fail
      refine (dot_nat fb (r k) va m (c k) vc (f k) g (by omega) wr (HF.out.same HBe.out) HROW.out (HV.out.same HBe.out)).mono ?_
      rintro e w2 ⟨rfl, q, hq⟩
      have hb2 : Bl w2 w.heap.size n n (dots f g m k) := by rw [hq]; exact HBl.out.drewN q
      have hbe2 : Below w.heap.size w w2 := by rw [hq]; exact below_dr HBe.out q
      have hcc := hb2.cell hkn
      have hfr := hb2.free k
      have HB2 := Lib.hid hb2; have HE2 := Lib.hid hbe2
      clear hq hb2 hbe2 z0 hca
      go_wp2_with fail
      go_roundw
      case rel => exact ⟨k + 1, by omega, by go_num, (HB2.out.set hkn _).congr (fun i _ => dots_s f g m k i), HE2.out.setCell (p := ⟨w.heap.size, k, none⟩) (Nat.le_refl _) _⟩
      case measure => simp [intOf]; omega
    · obtain rfl : k = n := by omega
      go_wp2
      go_ret
      exact ⟨rfl, HBl.out, HBe.out⟩
end Go.Proofs.Ytgflpfopiofjeaa
