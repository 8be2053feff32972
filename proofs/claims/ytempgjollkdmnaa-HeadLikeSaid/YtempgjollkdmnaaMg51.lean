import Derived.Lib.QuietBelow
import Derived.Laws.AppendOwnNone
import Derived.Test.YtempgjollkdmnaaMg37
import Derived.Test.YtempgjollkdmnaaMg47
import Derived.Test.YtempgjollkdmnaaMg50
namespace Go.Proofs.Ytempgjollkdmnaa.He
open Go.RowKit Go.Shelf
open Go.Proofs.Ytempgjollkdmnaa.Ly (TabOk RowOk off Tb tdl tdl_len tdl_at)
attribute [local go_sem] Oper.semAt_some

/-- a number at a place, if its bytes are there. -/
def val (N : Nat) (F : Nat → Nat) (k z : Nat) : Nat := if k + z ≤ N then vn (fun j => F (k + j)) z else 0
/-- a header as it is read of so many bytes. -/
def hdrN (N : Nat) (F : Nat → Nat) : Hr := ⟨(val N F 1 2 : Nat), (val N F 3 4 : Nat), (val N F 7 1 : Nat), (val N F 8 1 : Nat), (val N F 10 4 : Nat), val N F 9 1, fun i => (val N F (14 + 3 * i) 1 : Nat), fun i => (val N F (15 + 3 * i) 2 : Nat)⟩
theorem val_lt {N : Nat} {F : Nat → Nat} (hF : Pf.By F) (k z : Nat) : val N F k z < 256 ^ z := by
  unfold val; split
  · exact vn_lt (fun j => hF _) z
  · exact Nat.pow_pos (by decide)
theorem val_one {N : Nat} {F : Nat → Nat} {k : Nat} (h : k + 1 ≤ N) : val N F k 1 = F k := by
  unfold val; rw [if_pos h]; simp [vn]
/-- a reader of N bytes F, of which k were asked for. -/
def RS (w : World) (B H p s N : Nat) (F : Nat → Nat) (k : Nat) : Prop :=
  ∃ a c S, Rr w B p s a c S ∧ S.Ok ∧ (p < H ∧ s < H ∧ ∀ ad, a = some ad → ad.block < H) ∧ S.l ≤ 900000000 ∧ ((S.e = 0 ∧ k ≤ N ∧ S.l = N - k ∧ ∀ j, j < N - k → S.f j = F (k + j)) ∨ (S.e = 4 ∧ N < k))
section
variable {w w' : World} {B H p s N k : Nat} {F : Nat → Nat}
theorem RS.kept (h : RS w B H p s N F k) (hsz : w.heap.size ≤ w'.heap.size) (hk : ∀ i, i < H → w'.heap[i]? = w.heap[i]?) : RS w' B H p s N F k := by
  obtain ⟨a, c, S, h1, h2, ⟨hp, hs, ha⟩, h4⟩ := h
  exact ⟨a, c, S, h1.kept hsz (hk p hp) (hk s hs) (fun ad e => hk _ (ha ad e)), h2, ⟨hp, hs, ha⟩, h4⟩
theorem RS.same (h : RS w B H p s N F k) (hB : Below w.heap.size w w') (hH : H ≤ w.heap.size) : RS w' B H p s N F k := h.kept hB.size fun i hi => hB.block i (by omega)
theorem RS.set (h : RS w B H p s N F k) {g i : Nat} {v : Value} (hg : H ≤ g) : RS (w.setCell ⟨g, i, none⟩ v) B H p s N F k := h.kept (by simp) fun j hj => heap_setCell_other _ _ _ _ (fun e => by have e2 : j = g := e; omega)
theorem RS.drew (h : RS w B H p s N F k) : RS w.drew B H p s N F k := h.kept (Nat.le_refl _) fun _ _ => rfl
theorem but2_drew (s : Nat) (w : World) : But2 s s w w.drew := ⟨rfl, rfl, rfl, Nat.le_refl _, fun _ _ _ _ => rfl⟩
theorem RS.ltS (h : RS w B H p s N F k) : s < H := by obtain ⟨a, c, S, h1, h2, ⟨hp, hs, ha⟩, h4⟩ := h; exact hs
theorem RS.top (h : RS w B H p s N F k) : RS w B w.heap.size p s N F k := by
  obtain ⟨a, c, S, h1, h2, ⟨hp, hs, ha⟩, h4⟩ := h
  exact ⟨a, c, S, h1, h2, ⟨h1.box.lt, h1.lts, fun ad e => (h1.ha ad e).2.1⟩, h4⟩
/-- what a number that is read is. -/
theorem RS.num {x : Ending} {a : Option Addr} {S : Bs} (hO : S.Ok) (hH : p < H ∧ s < H ∧ ∀ ad, a = some ad → ad.block < H) (hl : S.l ≤ 900000000) (hc : (S.e = 0 ∧ k ≤ N ∧ S.l = N - k ∧ ∀ j, j < N - k → S.f j = F (k + j)) ∨ (S.e = 4 ∧ N < k)) {z : Nat} (h1 : 1 ≤ z) (h4 : z ≤ 4)
    (hx : x = .returned (.int .i64 (S.rval (z : Nat) : Nat))) (hr : Red w B p s a (S.rnum (z : Nat)) w') : x = .returned (.int .i64 (val N F k z : Nat)) ∧ RS w' B H p s N F (k + z) ∧ But2 s s w w' := by
  obtain ⟨⟨a', c', hrr, hab⟩, hbut⟩ := hr
  have hH' : p < H ∧ s < H ∧ ∀ ad, a' = some ad → ad.block < H := ⟨hH.1, hH.2.1, fun ad e => by
    obtain ⟨ad', e', hb⟩ := hab ad e
    rw [hb]; exact hH.2.2 ad' e'⟩
  have hO' := hO.rnum (z : Nat)
  have hl' := Nat.le_trans (Bs.rnum_len S (z : Nat)) hl
  rcases hc with ⟨he, hkN, hlN, hf⟩ | ⟨he, hkN⟩
  · by_cases hz : k + z ≤ N
    · have hv : S.rval (z : Nat) = val N F k z := by
        unfold Bs.rval val
        rw [if_pos ⟨he, by omega, by omega⟩, if_pos hz, Int.toNat_natCast]
        exact vn_congr z fun i hi => hf i (by omega)
      have hS : S.rnum (z : Nat) = S.cut z := by
        unfold Bs.rnum Bs.take
        rw [if_neg (by simp [he]), if_pos (by omega), if_neg (by simp [he]), if_neg (by omega), if_neg (by omega), Int.toNat_natCast]
      rw [hS] at hrr hO' hl'
      refine ⟨by rw [hx, hv], ⟨a', c', _, hrr, hO', hH', hl', Or.inl ⟨he, hz, ?_, fun j hj => ?_⟩⟩, hbut⟩
      · show S.l - z = N - (k + z)
        omega
      · show sub S.f z (S.l - z) j = _
        unfold sub
        rw [if_pos (by omega), hf (z + j) (by omega)]
        congr 1; omega
    · have hv : S.rval (z : Nat) = val N F k z := by
        unfold Bs.rval val
        rw [if_neg (by omega), if_neg hz]
      have hS : S.rnum (z : Nat) = S.broke 4 := by
        unfold Bs.rnum Bs.take
        rw [if_neg (by simp [he]), if_pos (by omega), if_neg (by simp [he]), if_neg (by omega), if_pos (by omega)]
      rw [hS] at hrr hO' hl'
      exact ⟨by rw [hx, hv], ⟨a', c', _, hrr, hO', hH', hl', Or.inr ⟨rfl, by omega⟩⟩, hbut⟩
  · have hv : S.rval (z : Nat) = val N F k z := by
      unfold Bs.rval val
      rw [if_neg (by rw [he]; omega), if_neg (by omega)]
    have hS : S.rnum (z : Nat) = S := by
      unfold Bs.rnum
      rw [if_pos (by rw [he]; decide)]
    rw [hS] at hrr hO' hl'
    exact ⟨by rw [hx, hv], ⟨a', c', _, hrr, hO', hH', hl', Or.inr ⟨he, by omega⟩⟩, hbut⟩
theorem rnumber_at (z : Nat) (h1 : 1 ≤ z) (h4 : z ≤ 4) (w : World) (h : RS w B H p s N F k) :
    Calls Try.prog 36 #[.pointer (some ⟨p, 0, none⟩), .int .i64 (z : Nat)] w fun x w' => x = .returned (.int .i64 (val N F k z : Nat)) ∧ RS w' B H p s N F (k + z) ∧ But2 s s w w' := by
  obtain ⟨a, c, S, hR, hO, hH, hl, hc⟩ := h
  exact (rnum_any B p s a c S (z : Nat) hO hl w hR).mono fun x w' hh => RS.num hO hH hl hc h1 h4 hh.1 hh.2
/-- a block that is not the stock's stays. -/
theorem but2_kept {g : Nat} (hb : But2 s s w w') (hg : g < w.heap.size) (hs : g ≠ s) : w'.heap[g]? = w.heap[g]? := hb.block g hg hs hs
theorem but2_set {W : World} {g i : Nat} {v : Value} (hb : But2 s s w W) (hg : w.heap.size ≤ g) : But2 s s w (W.setCell ⟨g, i, none⟩ v) :=
  ⟨hb.os, hb.tape, hb.output, by simp; exact hb.size, fun k h1 h2 h3 => (heap_setCell_other _ _ _ _ (fun e => by have e2 : k = g := e; omega)).trans (hb.block k h1 h2 h3)⟩
/-- rows that are being filled. -/
def RwS (w : World) (g m i j : Nat) (K L : Nat → Int) : Prop :=
  ∃ vs : Array Value, w.heap[g]? = some (.cells vs 42 (0, 0)) ∧ vs.size = m * 2 ∧ (∀ t, t < i → vs[t * 2]? = some (.int .i64 (K t))) ∧ ∀ t, t < j → vs[t * 2 + 1]? = some (.int .i64 (L t))
variable {g m i j : Nat} {K L : Nat → Int}
theorem RwS.lt (r : RwS w g m i j K L) : g < w.heap.size := by
  obtain ⟨vs, h1, _⟩ := r
  exact (Array.getElem?_eq_some_iff.1 h1).1
theorem RwS.kept (r : RwS w g m i j K L) (hk : w'.heap[g]? = w.heap[g]?) : RwS w' g m i j K L := by
  obtain ⟨vs, h1, h2⟩ := r
  exact ⟨vs, hk.trans h1, h2⟩
theorem RwS.cell (r : RwS w g m i j K L) {t : Nat} (ht : t < m * 2) : ∃ v, w.cell? ⟨g, t, none⟩ = some v := by
  obtain ⟨vs, h1, h2, _⟩ := r
  refine ⟨vs[t]'(by omega), ?_⟩
  rw [cell_of_row w g t vs _ _ h1]
  exact Array.getElem?_eq_getElem _
theorem RwS.free (r : RwS w g m i j K L) (t : Nat) : w.frozen? ⟨g, t, none⟩ = false := by
  obtain ⟨vs, h1, _⟩ := r
  exact frozen_of_row w g t vs _ h1
theorem RwS.setK (r : RwS w g m i j K L) (hi : i < m) : RwS (w.setCell ⟨g, i * 2, none⟩ (.int .i64 (K i))) g m (i + 1) j K L := by
  obtain ⟨vs, h1, h2, h3, h4⟩ := r
  refine ⟨vs.setIfInBounds (i * 2) (.int .i64 (K i)), heap_setCell_same w g (i * 2) _ _ _ h1, by simp [h2], fun t ht => ?_, fun t ht => ?_⟩
  · by_cases e : t = i
    · subst e; rw [Array.getElem?_setIfInBounds_self_of_lt (by omega)]
    · rw [Array.getElem?_setIfInBounds_ne (by omega)]; exact h3 t (by omega)
  · rw [Array.getElem?_setIfInBounds_ne (by omega)]; exact h4 t ht
theorem RwS.setL (r : RwS w g m i j K L) (hj : j < m) : RwS (w.setCell ⟨g, j * 2 + 1, none⟩ (.int .i64 (L j))) g m i (j + 1) K L := by
  obtain ⟨vs, h1, h2, h3, h4⟩ := r
  refine ⟨vs.setIfInBounds (j * 2 + 1) (.int .i64 (L j)), heap_setCell_same w g (j * 2 + 1) _ _ _ h1, by simp [h2], fun t ht => ?_, fun t ht => ?_⟩
  · rw [Array.getElem?_setIfInBounds_ne (by omega)]; exact h3 t ht
  · by_cases e : t = j
    · subst e; rw [Array.getElem?_setIfInBounds_self_of_lt (by omega)]
    · rw [Array.getElem?_setIfInBounds_ne (by omega)]; exact h4 t (by omega)
theorem RwS.new (w : World) (m : Nat) (K L : Nat → Int) : RwS (w.alloc (.cells (madeCells #[.int .i64 0, .int .i64 0] (m * 2)) 42)) w.heap.size m 0 0 K L :=
  ⟨_, heap_alloc_new w _, by rw [size_madeCells], fun i hi => absurd hi (Nat.not_lt_zero i), fun i hi => absurd hi (Nat.not_lt_zero i)⟩
theorem RwS.tb (r : RwS w g m m m K L) : Tb w (some ⟨g, 0, none⟩) m K L := ⟨fun i hi => by
  obtain ⟨vs, h1, h2, h3, h4⟩ := r
  exact ⟨g, 0, rfl, by rw [Nat.zero_add, cell_of_row w g _ vs _ _ h1]; exact h3 i hi, by rw [Nat.zero_add, cell_of_row w g _ vs _ _ h1]; exact h4 i hi⟩⟩
theorem RwS.own (r : RwS w g m m m K L) {B : Nat} (hB : B ≤ g) (hm : m ≤ 100000000) : w.ownsRow B 42 2 (.slice (some ⟨g, 0, none⟩) m m) m (tdl K L m) := by
  obtain ⟨vs, h1, h2, h3, h4⟩ := r
  refine ⟨tdl_len K L m, Or.inr ⟨g, m, vs, rfl, hB, h1, Nat.le_refl _, by unfold maxLen; omega, h2.symm ▸ rfl, ?_⟩⟩
  apply List.ext_getElem?
  intro x
  by_cases hx : x < m * 2
  · rw [List.getElem?_take_of_lt hx, Array.getElem?_toList]
    obtain ⟨t, ht⟩ : ∃ t, t = x / 2 := ⟨_, rfl⟩
    have hd := tdl_at K L m t (by omega)
    rcases (show x = t * 2 ∨ x = t * 2 + 1 by omega) with e | e
    · rw [e, hd.1, h3 t (by omega)]
    · rw [e, hd.2, h4 t (by omega)]
  · rw [List.getElem?_eq_none (by simp; omega), List.getElem?_eq_none (by rw [tdl_len]; omega)]
end
theorem Try.infoRowL : (Try.prog.info? 42).map (fun i => (i.zero, i.size, i.bytes)) = some (some (.agg #[.int .i64 0, .int .i64 0]), 2, 16) := by kernel_rfl
theorem hmkR (N : Nat) (hN : N ≤ 1000000000) : ∀ W : World, (Instr.makeSlice 22 (.int .i64 (N : Nat)) (.int .i64 (N : Nat))).run Try.prog W = .ok (.slice (some ⟨W.heap.size, 0, none⟩) N N) (W.alloc (.cells (madeCells #[.int .i64 0, .int .i64 0] (N * 2)) 42)) := fun W => by
  obtain ⟨i0, hi, hz0, hz1, hz2⟩ := info_parts Try.infoRowL
  have := run_make (P := Try.prog) W 22 42 i0 (.agg #[.int .i64 0, .int .i64 0]) Try.underlying22 hi hz0 .i64 .i64 (N : Int) (N : Int) (by omega) (Int.le_refl _) (by rw [hz2]; omega) (by omega)
  have e : (Value.agg #[.int .i64 0, .int .i64 0]).cells = #[.int .i64 0, .int .i64 0] := rfl
  rw [hz1, e, Int.toNat_natCast] at this; exact this
section
variable {W : World} {g cc : Nat} {h : Hr} {a : Option Addr}
theorem HAt.s0 (s : HAt W g h a cc) (x : Int) : HAt (W.setCell ⟨g, 0, none⟩ (.int .i64 x)) g ⟨x, h.F, h.I, h.N, h.D, h.m, h.K, h.L⟩ a cc := heap_setCell_same W g 0 _ _ _ s
theorem HAt.s1 (s : HAt W g h a cc) (x : Int) : HAt (W.setCell ⟨g, 1, none⟩ (.int .i64 x)) g ⟨h.S, x, h.I, h.N, h.D, h.m, h.K, h.L⟩ a cc := heap_setCell_same W g 1 _ _ _ s
theorem HAt.s2 (s : HAt W g h a cc) (x : Int) : HAt (W.setCell ⟨g, 2, none⟩ (.int .i64 x)) g ⟨h.S, h.F, x, h.N, h.D, h.m, h.K, h.L⟩ a cc := heap_setCell_same W g 2 _ _ _ s
theorem HAt.s3 (s : HAt W g h a cc) (x : Int) : HAt (W.setCell ⟨g, 3, none⟩ (.int .i64 x)) g ⟨h.S, h.F, h.I, x, h.D, h.m, h.K, h.L⟩ a cc := heap_setCell_same W g 3 _ _ _ s
theorem HAt.s4 (s : HAt W g h a cc) (x : Int) : HAt (W.setCell ⟨g, 4, none⟩ (.int .i64 x)) g ⟨h.S, h.F, h.I, h.N, x, h.m, h.K, h.L⟩ a cc := heap_setCell_same W g 4 _ _ _ s
theorem HAt.s5 (s : HAt W g h a cc) (b : Option Addr) (m c : Nat) (K L : Nat → Int) : HAt (W.setCell ⟨g, 5, none⟩ (.slice b m c)) g ⟨h.S, h.F, h.I, h.N, h.D, m, K, L⟩ b c := heap_setCell_same W g 5 _ _ _ s
theorem HAt.but {W' : World} {s : Nat} (x : HAt W g h a cc) (hb : But2 s s W W') (hs : g ≠ s) : HAt W' g h a cc := (but2_kept hb x.lt hs).trans x
theorem HAt.oth {W' : World} (x : HAt W g h a cc) (hk : W'.heap[g]? = W.heap[g]?) : HAt W' g h a cc := hk.trans x
end
def hz : Hr := ⟨0, 0, 0, 0, 0, 0, fun _ => 0, fun _ => 0⟩
set_option maxHeartbeats 4000000 in
set_option maxRecDepth 100000 in
theorem pheader_any (N : Nat) (F : Nat → Nat) (hF : Pf.By F) (B p s : Nat) (w : World) (hR : RS w B w.heap.size p s N F 1) :
    Calls Try.prog 17 #[.pointer (some ⟨p, 0, none⟩)] w fun e w' => ∃ G, e = .returned (hV (hdrN N F) (some ⟨G, 0, none⟩) (hdrN N F).m) ∧ w.heap.size ≤ G ∧ RwS w' G (hdrN N F).m (hdrN N F).m (hdrN N F).m (hdrN N F).K (hdrN N F).L ∧ RS w' B w.heap.size p s N F (14 + 3 * (hdrN N F).m) ∧ But2 s s w w' := by
  obtain ⟨w0, hw0⟩ : ∃ w0, w0 = w.alloc (.cells #[.int .i64 0, .int .i64 0, .int .i64 0, .int .i64 0, .int .i64 0, .slice none 0 0] 24) := ⟨_, rfl⟩
  obtain ⟨w1, hw1⟩ : ∃ w1, w1 = w0.alloc (.cells #[.int .i64 0, .int .i64 0, .int .i64 0, .int .i64 0, .int .i64 0, .slice none 0 0] 24) := ⟨_, rfl⟩
  have hz0 : w0.heap.size = w.heap.size + 1 := by rw [hw0, World.size_alloc]
  have hb0 : Below w.heap.size w w0 := by rw [hw0]; exact (Below.refl _ w).alloc (Nat.le_refl _) _
  have hb1 : Below w0.heap.size w0 w1 := by rw [hw1]; exact (Below.refl _ w0).alloc (Nat.le_refl _) _
  have hq0 : HAt w0 w.heap.size hz none 0 := by rw [hw0]; exact heap_alloc_new _ _
  have HQ := Lib.hid (hq0.same hb1)
  have HX1 := Lib.hid (show HAt w1 (w.heap.size + 1) hz none 0 by rw [hw1, ← hz0]; exact heap_alloc_new _ _)
  have hB1 := hb0.trans (hb1.mono hb0.size)
  have HB1 := Lib.hid (show But2 s s w w1 from But2.of hB1)
  have HR1 := Lib.hid (hR.same hB1 (Nat.le_refl _))
  have HS := Lib.hid hR.ltS
  have HW := Lib.hid (show w1 = (w.alloc (.cells #[.int .i64 0, .int .i64 0, .int .i64 0, .int .i64 0, .int .i64 0, .slice none 0 0] 24)).alloc (.cells #[.int .i64 0, .int .i64 0, .int .i64 0, .int .i64 0, .int .i64 0, .slice none 0 0] 24) by rw [hw1, hw0])
  have HQ1 := HQ
  obtain ⟨wg, hwg⟩ : ∃ wg, wg = w.heap.size := ⟨_, rfl⟩
  rw [← hwg] at HQ1 HX1 HR1 HS
  have HWG := Lib.hid hwg
  obtain ⟨S0, eS⟩ : ∃ x, x = val N F 1 2 := ⟨_, rfl⟩
  obtain ⟨F0, eF⟩ : ∃ x, x = val N F 3 4 := ⟨_, rfl⟩
  obtain ⟨I0, eI⟩ : ∃ x, x = val N F 7 1 := ⟨_, rfl⟩
  obtain ⟨N0, eN⟩ : ∃ x, x = val N F 8 1 := ⟨_, rfl⟩
  obtain ⟨m, em⟩ : ∃ x, x = val N F 9 1 := ⟨_, rfl⟩
  obtain ⟨D0, eD⟩ : ∃ x, x = val N F 10 4 := ⟨_, rfl⟩
  have HM := Lib.hid (show m < 256 by rw [em]; exact val_lt hF 9 1)
  have ES := Lib.hid eS; have EF := Lib.hid eF; have EI := Lib.hid eI; have EN := Lib.hid eN; have EM := Lib.hid em; have ED := Lib.hid eD
  have HH := Lib.hid (show hdrN N F = ⟨(S0 : Nat), (F0 : Nat), (I0 : Nat), (N0 : Nat), (D0 : Nat), m, (hdrN N F).K, (hdrN N F).L⟩ by rw [eS, eF, eI, eN, em, eD]; rfl)
  clear hw0 hw1 hz0 hb0 hb1 hq0 hR hB1 HQ eS eF eI eN em eD
  go_enter Try.func17, Try.ntmps17
  go_upto_region 2 with fail
  rw [← HW.out]
  clear HW
  rw [← hwg]
  clear hwg
  go_wp2_with fail
  refine (rnumber_at 2 (by decide) (by decide) w1 HR1.out).mono ?_
  rintro e w2 ⟨rfl, hr, hb⟩
  rw [← ES.out]
  have HX2 := Lib.hid (HX1.out.but hb (by have := HS.out; omega))
  have HQ2 := Lib.hid (HQ1.out.but hb (by have := HS.out; omega))
  have HB2 := Lib.hid (HB1.out.trans hb)
  have HR2 := Lib.hid hr
  clear hr hb HX1 HQ1 HB1 HR1
  obtain ⟨c0, c1, c2, c3, c4, c5⟩ := HX2.out.c
  have f0 := HX2.out.free 0
  go_upto_region 3 with fail
  obtain ⟨w3, hw3⟩ : ∃ w3, w3 = w2.setCell ⟨wg + 1, 0, none⟩ (.int .i64 (S0 : Nat)) := ⟨_, rfl⟩
  rw [← hw3]
  have HX3 := Lib.hid (show HAt w3 (wg + 1) ⟨(S0 : Nat), 0, 0, 0, 0, 0, fun _ => 0, fun _ => 0⟩ none 0 by rw [hw3]; exact HX2.out.s0 _)
  have HQ3 := Lib.hid (show HAt w3 wg hz none 0 from HQ2.out.oth (by rw [hw3]; exact heap_setCell_other _ _ _ _ (fun e => by have e2 : wg = wg + 1 := e; omega)))
  have HB3 := Lib.hid (show But2 s s w w3 by rw [hw3]; exact but2_set HB2.out (by have := HWG.out; omega))
  have HR3 := Lib.hid (show RS w3 B wg p s N F (1 + 2) by rw [hw3]; exact HR2.out.set (by omega))
  clear hw3 c0 c1 c2 c3 c4 c5 f0 HX2 HQ2 HB2 HR2
  go_wp2_with fail
  refine (rnumber_at 4 (by decide) (by decide) w3 HR3.out).mono ?_
  rintro e w4 ⟨rfl, hr, hb⟩
  rw [← EF.out]
  have HX4 := Lib.hid (HX3.out.but hb (by have := HS.out; omega))
  have HQ4 := Lib.hid (HQ3.out.but hb (by have := HS.out; omega))
  have HB4 := Lib.hid (HB3.out.trans hb)
  have HR4 := Lib.hid hr
  clear hr hb HX3 HQ3 HB3 HR3
  obtain ⟨c0, c1, c2, c3, c4, c5⟩ := HX4.out.c
  have f0 := HX4.out.free 1
  go_upto_region 4 with fail
  obtain ⟨w5, hw5⟩ : ∃ w5, w5 = w4.setCell ⟨wg + 1, 1, none⟩ (.int .i64 (F0 : Nat)) := ⟨_, rfl⟩
  rw [← hw5]
  have HX5 := Lib.hid (show HAt w5 (wg + 1) ⟨(S0 : Nat), (F0 : Nat), 0, 0, 0, 0, fun _ => 0, fun _ => 0⟩ none 0 by rw [hw5]; exact HX4.out.s1 _)
  have HQ5 := Lib.hid (show HAt w5 wg hz none 0 from HQ4.out.oth (by rw [hw5]; exact heap_setCell_other _ _ _ _ (fun e => by have e2 : wg = wg + 1 := e; omega)))
  have HB5 := Lib.hid (show But2 s s w w5 by rw [hw5]; exact but2_set HB4.out (by have := HWG.out; omega))
  have HR5 := Lib.hid (show RS w5 B wg p s N F (3 + 4) by rw [hw5]; exact HR4.out.set (by omega))
  clear hw5 c0 c1 c2 c3 c4 c5 f0 HX4 HQ4 HB4 HR4
  go_wp2_with fail
  refine (rnumber_at 1 (by decide) (by decide) w5 HR5.out).mono ?_
  rintro e w6 ⟨rfl, hr, hb⟩
  rw [← EI.out]
  have HX6 := Lib.hid (HX5.out.but hb (by have := HS.out; omega))
  have HQ6 := Lib.hid (HQ5.out.but hb (by have := HS.out; omega))
  have HB6 := Lib.hid (HB5.out.trans hb)
  have HR6 := Lib.hid hr
  clear hr hb HX5 HQ5 HB5 HR5
  obtain ⟨c0, c1, c2, c3, c4, c5⟩ := HX6.out.c
  have f0 := HX6.out.free 2
  go_upto_region 5 with fail
  obtain ⟨w7, hw7⟩ : ∃ w7, w7 = w6.setCell ⟨wg + 1, 2, none⟩ (.int .i64 (I0 : Nat)) := ⟨_, rfl⟩
  rw [← hw7]
  have HX7 := Lib.hid (show HAt w7 (wg + 1) ⟨(S0 : Nat), (F0 : Nat), (I0 : Nat), 0, 0, 0, fun _ => 0, fun _ => 0⟩ none 0 by rw [hw7]; exact HX6.out.s2 _)
  have HQ7 := Lib.hid (show HAt w7 wg hz none 0 from HQ6.out.oth (by rw [hw7]; exact heap_setCell_other _ _ _ _ (fun e => by have e2 : wg = wg + 1 := e; omega)))
  have HB7 := Lib.hid (show But2 s s w w7 by rw [hw7]; exact but2_set HB6.out (by have := HWG.out; omega))
  have HR7 := Lib.hid (show RS w7 B wg p s N F (7 + 1) by rw [hw7]; exact HR6.out.set (by omega))
  clear hw7 c0 c1 c2 c3 c4 c5 f0 HX6 HQ6 HB6 HR6
  go_wp2_with fail
  refine (rnumber_at 1 (by decide) (by decide) w7 HR7.out).mono ?_
  rintro e w8 ⟨rfl, hr, hb⟩
  rw [← EN.out]
  have HX8 := Lib.hid (HX7.out.but hb (by have := HS.out; omega))
  have HQ8 := Lib.hid (HQ7.out.but hb (by have := HS.out; omega))
  have HB8 := Lib.hid (HB7.out.trans hb)
  have HR8 := Lib.hid hr
  clear hr hb HX7 HQ7 HB7 HR7
  obtain ⟨c0, c1, c2, c3, c4, c5⟩ := HX8.out.c
  have f0 := HX8.out.free 3
  go_upto_region 6 with fail
  obtain ⟨w9, hw9⟩ : ∃ w9, w9 = w8.setCell ⟨wg + 1, 3, none⟩ (.int .i64 (N0 : Nat)) := ⟨_, rfl⟩
  rw [← hw9]
  have HX9 := Lib.hid (show HAt w9 (wg + 1) ⟨(S0 : Nat), (F0 : Nat), (I0 : Nat), (N0 : Nat), 0, 0, fun _ => 0, fun _ => 0⟩ none 0 by rw [hw9]; exact HX8.out.s3 _)
  have HQ9 := Lib.hid (show HAt w9 wg hz none 0 from HQ8.out.oth (by rw [hw9]; exact heap_setCell_other _ _ _ _ (fun e => by have e2 : wg = wg + 1 := e; omega)))
  have HB9 := Lib.hid (show But2 s s w w9 by rw [hw9]; exact but2_set HB8.out (by have := HWG.out; omega))
  have HR9 := Lib.hid (show RS w9 B wg p s N F (8 + 1) by rw [hw9]; exact HR8.out.set (by omega))
  clear hw9 c0 c1 c2 c3 c4 c5 f0 HX8 HQ8 HB8 HR8
  go_wp2_with fail
  refine (rnumber_at 1 (by decide) (by decide) w9 HR9.out).mono ?_
  rintro e w10 ⟨rfl, hr, hb⟩
  rw [← EM.out]
  have HX10 := Lib.hid (HX9.out.but hb (by have := HS.out; omega))
  have HQ10 := Lib.hid (HQ9.out.but hb (by have := HS.out; omega))
  have HB10 := Lib.hid (HB9.out.trans hb)
  have HR10 := Lib.hid (show RS w10 B wg p s N F 10 from hr)
  clear hr hb HX9 HQ9 HB9 HR9
  have hm256 := HM.out
  have hmk := hmkR m (by omega)
  obtain ⟨w11, hw11⟩ : ∃ w11, w11 = w10.alloc (.cells (madeCells #[.int .i64 0, .int .i64 0] (m * 2)) 42) := ⟨_, rfl⟩
  have hb11 : Below w10.heap.size w10 w11 := by rw [hw11]; exact (Below.refl _ _).alloc (Nat.le_refl _) _
  have HX11 := Lib.hid (HX10.out.same hb11)
  have HQ11 := Lib.hid (HQ10.out.same hb11)
  have HW11 := Lib.hid (show RwS w11 w10.heap.size m 0 0 (hdrN N F).K (hdrN N F).L by rw [hw11]; exact RwS.new w10 m _ _)
  have HB11 := Lib.hid (HB10.out.trans (But2.of hb11))
  have HR11 := Lib.hid (HR10.out.same hb11 (by have := HX10.out.lt; omega))
  obtain ⟨c0, c1, c2, c3, c4, c5⟩ := HX11.out.c
  have f0 := HX11.out.free 5
  rw [hw11] at c0 c1 c2 c3 c4 c5 f0
  obtain ⟨G, hG⟩ : ∃ G, G = w10.heap.size := ⟨_, rfl⟩
  have HGL := Lib.hid (show wg + 1 < G by rw [hG]; exact HX10.out.lt)
  go_upto_region 7 with fail
  rw [← hw11]
  rw [← hG]
  rw [← hG] at HW11
  obtain ⟨w12, hw12⟩ : ∃ w12, w12 = w11.setCell ⟨wg + 1, 5, none⟩ (.slice (some ⟨G, 0, none⟩) m m) := ⟨_, rfl⟩
  rw [← hw12]
  have HX12 := Lib.hid (show HAt w12 (wg + 1) ⟨(S0 : Nat), (F0 : Nat), (I0 : Nat), (N0 : Nat), 0, m, (hdrN N F).K, (hdrN N F).L⟩ (some ⟨G, 0, none⟩) m by rw [hw12]; exact HX11.out.s5 _ _ _ _ _)
  have HQ12 := Lib.hid (show HAt w12 wg hz none 0 from HQ11.out.oth (by rw [hw12]; exact heap_setCell_other _ _ _ _ (fun e => by have e2 : wg = wg + 1 := e; omega)))
  have HW12 := Lib.hid (show RwS w12 G m 0 0 (hdrN N F).K (hdrN N F).L from HW11.out.kept (by rw [hw12]; exact heap_setCell_other _ _ _ _ (fun e => by have e2 : G = wg + 1 := e; have := HGL.out; omega)))
  have HB12 := Lib.hid (show But2 s s w w12 by rw [hw12]; exact but2_set HB11.out (by have := HWG.out; omega))
  have HR12 := Lib.hid (show RS w12 B wg p s N F 10 by rw [hw12]; exact HR11.out.set (by omega))
  clear hw12 hw11 hb11 hG c0 c1 c2 c3 c4 c5 f0 HX10 HQ10 HB10 HR10 HX11 HQ11 HB11 HR11 HW11 hm256 hmk
  go_wp2_with fail
  refine (rnumber_at 4 (by decide) (by decide) w12 HR12.out).mono ?_
  rintro e w13 ⟨rfl, hr, hb⟩
  rw [← ED.out]
  have HX13 := Lib.hid (HX12.out.but hb (by have := HS.out; omega))
  have HQ13 := Lib.hid (HQ12.out.but hb (by have := HS.out; omega))
  have HW13 := Lib.hid (HW12.out.kept (but2_kept hb HW12.out.lt (by have := HS.out; have := HGL.out; omega)))
  have HB13 := Lib.hid (HB12.out.trans hb)
  have HR13 := Lib.hid (show RS w13 B wg p s N F 14 from hr)
  clear hr hb HX12 HQ12 HB12 HR12 HW12
  obtain ⟨c0, c1, c2, c3, c4, c5⟩ := HX13.out.c
  have f0 := HX13.out.free 4
  go_upto_region 8 with fail
  obtain ⟨w14, hw14⟩ : ∃ w14, w14 = w13.setCell ⟨wg + 1, 4, none⟩ (.int .i64 (D0 : Nat)) := ⟨_, rfl⟩
  rw [← hw14]
  have HX14 := Lib.hid (show HAt w14 (wg + 1) ⟨(S0 : Nat), (F0 : Nat), (I0 : Nat), (N0 : Nat), (D0 : Nat), m, (hdrN N F).K, (hdrN N F).L⟩ (some ⟨G, 0, none⟩) m by rw [hw14]; exact HX13.out.s4 _)
  rw [← HH.out] at HX14
  have HQ14 := Lib.hid (show HAt w14 wg hz none 0 from HQ13.out.oth (by rw [hw14]; exact heap_setCell_other _ _ _ _ (fun e => by have e2 : wg = wg + 1 := e; omega)))
  have HW14 := Lib.hid (show RwS w14 G m 0 0 (hdrN N F).K (hdrN N F).L from HW13.out.kept (by rw [hw14]; exact heap_setCell_other _ _ _ _ (fun e => by have e2 : G = wg + 1 := e; have := HGL.out; omega)))
  have HB14 := Lib.hid (show But2 s s w w14 by rw [hw14]; exact but2_set HB13.out (by have := HWG.out; omega))
  have HR14 := Lib.hid (show RS w14 B wg p s N F 14 by rw [hw14]; exact HR13.out.set (by omega))
  clear hw14 c0 c1 c2 c3 c4 c5 f0 HX13 HQ13 HB13 HR13 HW13
  have HEM := Lib.hid (show (hdrN N F).m = m from EM.out.symm)
  have HC5 := Lib.hid (fun (W : World) (hx : HAt W (wg + 1) (hdrN N F) (some ⟨G, 0, none⟩) m) => (show W.cell? ⟨wg + 1, 5, none⟩ = some (.slice (some ⟨G, 0, none⟩) m m) from by have := hx.c.2.2.2.2.2; rw [HEM.out] at this; exact this))
  have c5 := HC5.out _ HX14.out
  go_wp2_with fail
  clear c5
  go_loopw [4, 27] (fun _ i wr => ∃ (k : Nat) (W : World), W = wr ∧ k ≤ m ∧ i = .int .i64 (k : Nat) ∧ HAt wr (wg + 1) (hdrN N F) (some ⟨G, 0, none⟩) m ∧ HAt wr wg hz none 0 ∧ RwS wr G m k k (hdrN N F).K (hdrN N F).L ∧ But2 s s w wr ∧ RS wr B wg p s N F (14 + 3 * k)) (fun _ i _ => m - (intOf i).toNat)
  case atStart => exact ⟨0, _, rfl, by omega, rfl, HX14.out, HQ14.out, HW14.out, HB14.out, HR14.out⟩
  case round =>
    obtain ⟨k, wx, rfl, hk, rfl, hx, hq, hw, hb, hr⟩ := hrel
    have HX := Lib.hid hx; have HQ := Lib.hid hq; have HW := Lib.hid hw; have HB := Lib.hid hb; have HR := Lib.hid hr
    clear hx hq hw hb hr HX14 HQ14 HW14 HB14 HR14
    by_cases hlt : k < m
    · have i1 : (k : Int) < (m : Int) := by omega
      have HLT := Lib.hid hlt
      go_upto_region 11 with fail
      refine wp_region_held_drew (S := fun W => HAt W (wg + 1) (hdrN N F) (some ⟨G, 0, none⟩) m) (by kernel_rfl) (show HAt _ _ _ _ _ from HX.out) (fun hHeld => ?_)
      refine wpAnyH_take (i := 0) (oi := ⟨some 30, _, _, _, _, none⟩) (v := (.pointer (some ⟨wg + 1, 5, none⟩))) rfl (by kernel_rfl) (by kernel_rfl) (by kernel_rfl) (fun _ _ _ h => h) (Or.inl ⟨by rfl, fun W hW => ?_⟩) (by assumption) ?_
      · go_simp
      simp only [Act.put, List.setIfInBounds_toArray, List.set_cons_zero, List.set_cons_succ]
      refine wpAnyH_take (i := 1) (oi := ⟨some 31, _, _, _, _, none⟩) (v := (.slice (some ⟨G, 0, none⟩) m m)) rfl (by kernel_rfl) (by kernel_rfl) (by kernel_rfl) (fun _ _ _ h => h) (Or.inl ⟨by rfl, fun W hW => ?_⟩) (by assumption) ?_
      · have := HC5.out W hW; go_simp
      simp only [Act.put, List.setIfInBounds_toArray, List.set_cons_zero, List.set_cons_succ]
      refine wpAnyH_take (i := 2) (oi := ⟨some 32, _, _, _, _, none⟩) (v := (.int .i64 (k : Nat))) rfl (by kernel_rfl) (by kernel_rfl) (by kernel_rfl) (fun _ _ _ h => h) (Or.inl ⟨by rfl, fun W hW => ?_⟩) (by assumption) ?_
      · go_simp
      simp only [Act.put, List.setIfInBounds_toArray, List.set_cons_zero, List.set_cons_succ]
      refine wpAnyH_take (i := 3) (oi := ⟨some 33, _, _, _, _, none⟩) (v := (.pointer (some ⟨p, 0, none⟩))) rfl (by kernel_rfl) (by kernel_rfl) (by kernel_rfl) (fun _ _ _ h => h) (Or.inl ⟨by rfl, fun W hW => ?_⟩) (by assumption) ?_
      · go_simp
      simp only [Act.put, List.setIfInBounds_toArray, List.set_cons_zero, List.set_cons_succ]
      refine wpAnyH_ready (rs := [4]) (by kernel_rfl) (by simp) (AllReadyH.cons rfl (fun KK hKK => ?_) AllReadyH.nil)
      go_simp
      refine (rnumber_at 1 (by decide) (by decide) _ HR.out.drew).mono ?_
      rintro e wxa ⟨rfl, hr, hb⟩
      dsimp only
      replace hb : But2 s s wx wxa := (but2_drew s wx).trans hb
      obtain ⟨x, hx⟩ : ∃ x, x = val N F (14 + 3 * k) 1 := ⟨_, rfl⟩
      rw [← hx]
      have Ex := Lib.hid hx
      have HXa := Lib.hid (HX.out.but hb (by have := HS.out; omega))
      have HQa := Lib.hid (HQ.out.but hb (by have := HS.out; omega))
      have HWa := Lib.hid (HW.out.kept (but2_kept hb HW.out.lt (by have := HS.out; have := HGL.out; omega)))
      have HBa := Lib.hid (HB.out.trans hb)
      have HRa := Lib.hid (show RS wxa B wg p s N F (14 + 3 * k + 1) from hr)
      clear hr hb hx
      refine hKK.out _ _ HXa.out (fun hHeld => ?_)
      clear hKK KK
      try simp only [Act.put, List.setIfInBounds_toArray, List.set_cons_zero, List.set_cons_succ]
      refine wpAnyH_take (i := 5) (oi := ⟨some 35, _, _, _, _, none⟩) (v := (.pointer (some ⟨G, k * 2, none⟩))) rfl (by kernel_rfl) (by kernel_rfl) (by kernel_rfl) (fun _ _ _ h => h) (Or.inl ⟨by rfl, fun W hW => ?_⟩) (by assumption) ?_
      · have := i1; go_simp
      simp only [Act.put, List.setIfInBounds_toArray, List.set_cons_zero, List.set_cons_succ]
      refine wpAnyH_take (i := 6) (oi := ⟨some 36, _, _, _, _, none⟩) (v := (.pointer (some ⟨G, k * 2, none⟩))) rfl (by kernel_rfl) (by kernel_rfl) (by kernel_rfl) (fun _ _ _ h => h) (Or.inl ⟨by rfl, fun W hW => ?_⟩) (by assumption) ?_
      · go_simp
      simp only [Act.put, List.setIfInBounds_toArray, List.set_cons_zero, List.set_cons_succ]
      obtain ⟨v0, cv⟩ := HWa.out.cell (t := k * 2) (by have := HLT.out; omega)
      have fv := HWa.out.free (k * 2)
      refine wpAnyH_ready (rs := [7]) (by kernel_rfl) (by simp) (AllReadyH.cons rfl (fun KK hKK => ?_) AllReadyH.nil)
      go_simp
      obtain ⟨wxb, hwb⟩ : ∃ wxb, wxb = wxa.setCell ⟨G, k * 2, none⟩ (.int .i64 (x : Nat)) := ⟨_, rfl⟩
      rw [← hwb]
      have HXb := Lib.hid (show HAt wxb (wg + 1) (hdrN N F) (some ⟨G, 0, none⟩) m from HXa.out.oth (by rw [hwb]; exact heap_setCell_other _ _ _ _ (fun e => by have e2 : wg + 1 = G := e; have := HGL.out; omega)))
      have HQb := Lib.hid (show HAt wxb wg hz none 0 from HQa.out.oth (by rw [hwb]; exact heap_setCell_other _ _ _ _ (fun e => by have e2 : wg = G := e; have := HGL.out; omega)))
      have HWb := Lib.hid (show RwS wxb G m (k + 1) k (hdrN N F).K (hdrN N F).L by
        have h := HWa.out.setK HLT.out
        rw [show (hdrN N F).K k = ((x : Nat) : Int) by rw [Ex.out]; first | rfl | (rw [show 14 + 3 * k + 1 = 15 + 3 * k by omega]; rfl)] at h
        rw [hwb]; exact h)
      have HBb := Lib.hid (show But2 s s w wxb by rw [hwb]; exact but2_set HBa.out (by have := HWG.out; have := HGL.out; omega))
      have HRb := Lib.hid (show RS wxb B wg p s N F (14 + 3 * k + 1) by rw [hwb]; exact HRa.out.set (by have := HGL.out; omega))
      clear hwb cv fv
      refine hKK.out _ _ HXb.out (fun hHeld => ?_)
      clear hKK KK
      try simp only [Act.put, List.setIfInBounds_toArray, List.set_cons_zero, List.set_cons_succ]
      refine wpAnyH_done (by kernel_rfl) ?_ _
      clear HX HQ HW HB HR HXa HQa HWa HBa HRa
      go_upto_region 12 with fail
      refine wp_region_held_drew (S := fun W => HAt W (wg + 1) (hdrN N F) (some ⟨G, 0, none⟩) m) (by kernel_rfl) (show HAt _ _ _ _ _ from HXb.out) (fun hHeld => ?_)
      refine wpAnyH_take (i := 0) (oi := ⟨some 37, _, _, _, _, none⟩) (v := (.pointer (some ⟨wg + 1, 5, none⟩))) rfl (by kernel_rfl) (by kernel_rfl) (by kernel_rfl) (fun _ _ _ h => h) (Or.inl ⟨by rfl, fun W hW => ?_⟩) (by assumption) ?_
      · go_simp
      simp only [Act.put, List.setIfInBounds_toArray, List.set_cons_zero, List.set_cons_succ]
      refine wpAnyH_take (i := 1) (oi := ⟨some 38, _, _, _, _, none⟩) (v := (.slice (some ⟨G, 0, none⟩) m m)) rfl (by kernel_rfl) (by kernel_rfl) (by kernel_rfl) (fun _ _ _ h => h) (Or.inl ⟨by rfl, fun W hW => ?_⟩) (by assumption) ?_
      · have := HC5.out W hW; go_simp
      simp only [Act.put, List.setIfInBounds_toArray, List.set_cons_zero, List.set_cons_succ]
      refine wpAnyH_take (i := 2) (oi := ⟨some 39, _, _, _, _, none⟩) (v := (.int .i64 (k : Nat))) rfl (by kernel_rfl) (by kernel_rfl) (by kernel_rfl) (fun _ _ _ h => h) (Or.inl ⟨by rfl, fun W hW => ?_⟩) (by assumption) ?_
      · go_simp
      simp only [Act.put, List.setIfInBounds_toArray, List.set_cons_zero, List.set_cons_succ]
      refine wpAnyH_take (i := 3) (oi := ⟨some 40, _, _, _, _, none⟩) (v := (.pointer (some ⟨p, 0, none⟩))) rfl (by kernel_rfl) (by kernel_rfl) (by kernel_rfl) (fun _ _ _ h => h) (Or.inl ⟨by rfl, fun W hW => ?_⟩) (by assumption) ?_
      · go_simp
      simp only [Act.put, List.setIfInBounds_toArray, List.set_cons_zero, List.set_cons_succ]
      refine wpAnyH_ready (rs := [4]) (by kernel_rfl) (by simp) (AllReadyH.cons rfl (fun KK hKK => ?_) AllReadyH.nil)
      go_simp
      refine (rnumber_at 2 (by decide) (by decide) _ HRb.out.drew).mono ?_
      rintro e wxba ⟨rfl, hr, hb⟩
      dsimp only
      replace hb : But2 s s wxb wxba := (but2_drew s wxb).trans hb
      obtain ⟨y, hy⟩ : ∃ y, y = val N F (14 + 3 * k + 1) 2 := ⟨_, rfl⟩
      rw [← hy]
      have Ey := Lib.hid hy
      have HXba := Lib.hid (HXb.out.but hb (by have := HS.out; omega))
      have HQba := Lib.hid (HQb.out.but hb (by have := HS.out; omega))
      have HWba := Lib.hid (HWb.out.kept (but2_kept hb HWb.out.lt (by have := HS.out; have := HGL.out; omega)))
      have HBba := Lib.hid (HBb.out.trans hb)
      have HRba := Lib.hid (show RS wxba B wg p s N F (14 + 3 * k + 1 + 2) from hr)
      clear hr hb hy
      refine hKK.out _ _ HXba.out (fun hHeld => ?_)
      clear hKK KK
      try simp only [Act.put, List.setIfInBounds_toArray, List.set_cons_zero, List.set_cons_succ]
      refine wpAnyH_take (i := 5) (oi := ⟨some 42, _, _, _, _, none⟩) (v := (.pointer (some ⟨G, k * 2, none⟩))) rfl (by kernel_rfl) (by kernel_rfl) (by kernel_rfl) (fun _ _ _ h => h) (Or.inl ⟨by rfl, fun W hW => ?_⟩) (by assumption) ?_
      · have := i1; go_simp
      simp only [Act.put, List.setIfInBounds_toArray, List.set_cons_zero, List.set_cons_succ]
      refine wpAnyH_take (i := 6) (oi := ⟨some 43, _, _, _, _, none⟩) (v := (.pointer (some ⟨G, k * 2 + 1, none⟩))) rfl (by kernel_rfl) (by kernel_rfl) (by kernel_rfl) (fun _ _ _ h => h) (Or.inl ⟨by rfl, fun W hW => ?_⟩) (by assumption) ?_
      · go_simp
      simp only [Act.put, List.setIfInBounds_toArray, List.set_cons_zero, List.set_cons_succ]
      obtain ⟨v0, cv⟩ := HWba.out.cell (t := k * 2 + 1) (by have := HLT.out; omega)
      have fv := HWba.out.free (k * 2 + 1)
      refine wpAnyH_ready (rs := [7]) (by kernel_rfl) (by simp) (AllReadyH.cons rfl (fun KK hKK => ?_) AllReadyH.nil)
      go_simp
      obtain ⟨wxbb, hwb⟩ : ∃ wxbb, wxbb = wxba.setCell ⟨G, k * 2 + 1, none⟩ (.int .i64 (y : Nat)) := ⟨_, rfl⟩
      rw [← hwb]
      have HXbb := Lib.hid (show HAt wxbb (wg + 1) (hdrN N F) (some ⟨G, 0, none⟩) m from HXba.out.oth (by rw [hwb]; exact heap_setCell_other _ _ _ _ (fun e => by have e2 : wg + 1 = G := e; have := HGL.out; omega)))
      have HQbb := Lib.hid (show HAt wxbb wg hz none 0 from HQba.out.oth (by rw [hwb]; exact heap_setCell_other _ _ _ _ (fun e => by have e2 : wg = G := e; have := HGL.out; omega)))
      have HWbb := Lib.hid (show RwS wxbb G m (k + 1) (k + 1) (hdrN N F).K (hdrN N F).L by
        have h := HWba.out.setL HLT.out
        rw [show (hdrN N F).L k = ((y : Nat) : Int) by rw [Ey.out]; first | rfl | (rw [show 14 + 3 * k + 1 = 15 + 3 * k by omega]; rfl)] at h
        rw [hwb]; exact h)
      have HBbb := Lib.hid (show But2 s s w wxbb by rw [hwb]; exact but2_set HBba.out (by have := HWG.out; have := HGL.out; omega))
      have HRbb := Lib.hid (show RS wxbb B wg p s N F (14 + 3 * k + 1 + 2) by rw [hwb]; exact HRba.out.set (by have := HGL.out; omega))
      clear hwb cv fv
      refine hKK.out _ _ HXbb.out (fun hHeld => ?_)
      clear hKK KK
      try simp only [Act.put, List.setIfInBounds_toArray, List.set_cons_zero, List.set_cons_succ]
      refine wpAnyH_done (by kernel_rfl) ?_ _
      clear HXb HQb HWb HBb HRb HXba HQba HWba HBba HRba
      have HRe := Lib.hid (show RS wxbb B wg p s N F (14 + 3 * (k + 1)) from (show 14 + 3 * k + 1 + 2 = 14 + 3 * (k + 1) by omega) ▸ HRbb.out)
      have hm256 := HM.out
      go_wp2
      go_roundw
      case rel => exact ⟨k + 1, _, rfl, by omega, by go_num, HXbb.out, HQbb.out, HWbb.out, HBbb.out, HRe.out⟩
      case measure => simp [intOf]; omega
    · obtain rfl : k = m := by omega
      have i1 : ¬ (k : Int) < (k : Int) := by omega
      obtain ⟨c0, c1, c2, c3, c4, c5⟩ := HX.out.c
      go_upto_region 14 with fail
      have HRW := Lib.hid (show wx.heap[wg]? = some (.cells #[.int .i64 0, .int .i64 0, .int .i64 0, .int .i64 0, .int .i64 0, .slice none 0 0] 24 (0, 0)) from HQ.out)
      go_wp2_with (show wpList _ _ _ (⟨none, _, _, _, _, _⟩ :: _) _ _; refine wpList_store_row rfl 24 _ _ rfl wg #[.int .i64 (hdrN N F).S, .int .i64 (hdrN N F).F, .int .i64 (hdrN N F).I, .int .i64 (hdrN N F).N, .int .i64 (hdrN N F).D, .slice (some ⟨G, 0, none⟩) (hdrN N F).m k] rfl rfl 24 _ HRW.out (by kernel_rfl) rfl (by simp [Value.oneCell']) ?_)
      obtain ⟨wz, hwz⟩ : ∃ wz, wz = wx.setRow wg #[.int .i64 (hdrN N F).S, .int .i64 (hdrN N F).F, .int .i64 (hdrN N F).I, .int .i64 (hdrN N F).N, .int .i64 (hdrN N F).D, .slice (some ⟨G, 0, none⟩) (hdrN N F).m k] := ⟨_, rfl⟩
      rw [← hwz]
      have HZ := Lib.hid (show wz.heap[wg]? = some (.cells #[.int .i64 (hdrN N F).S, .int .i64 (hdrN N F).F, .int .i64 (hdrN N F).I, .int .i64 (hdrN N F).N, .int .i64 (hdrN N F).D, .slice (some ⟨G, 0, none⟩) (hdrN N F).m k] 24 (0, 0)) by rw [hwz]; exact setRow_heap _ _ _ _ _ _ HRW.out)
      have hne : ∀ j, j ≠ wg → wz.heap[j]? = wx.heap[j]? := fun j hj => by rw [hwz]; exact setRow_other wx wg j _ hj
      have HWZ := Lib.hid (HW.out.kept (hne G (by have := HGL.out; omega)))
      have HBZ := Lib.hid (show But2 s s w wz from ⟨by rw [hwz]; exact HB.out.os, by rw [hwz]; exact HB.out.tape, by rw [hwz]; exact HB.out.output, by rw [hwz]; simpa using HB.out.size, fun j h1 h2 h3 => (hne j (by have := HWG.out; omega)).trans (HB.out.block j h1 h2 h3)⟩)
      have HRZ := Lib.hid (show RS wz B wg p s N F (14 + 3 * k) from HR.out.kept (by rw [hwz]; simp) fun j hj => hne j (by omega))
      have HGW := Lib.hid (show w.heap.size ≤ G by have := HWG.out; have := HGL.out; omega)
      clear hwz hne c0 c1 c2 c3 c4 c5
      go_wp2
      (try simp only [Exit.inBlock, Exit.then])
      rw [← HWG.out, HEM.out]
      refine bodyPost_ret (results_cell_row rfl _ _ wg _ _ (0, 0) _ rfl HZ.out Try.underlying24 rfl (by kernel_rfl)) rfl ⟨G, ?_, by rw [HWG.out]; exact HGW.out, HWZ.out, HRZ.out, HBZ.out⟩
      unfold hV
      rw [HEM.out]
end Go.Proofs.Ytempgjollkdmnaa.He

namespace Go.Proofs.Ytempgjollkdmnaa.He
open Go.RowKit Go.Shelf
attribute [local go_sem] Oper.semAt_some

/-- a block is no row of bytes. -/
def NB (w : World) (k : Nat) : Prop := ∀ n cap f, ¬ Bl w k n cap f
theorem nb_of {w : World} {k : Nat} {vs : Array Value} {t : TypeId} {m : Nat × Nat} (h : w.heap[k]? = some (.cells vs t m)) (ht : t ≠ 5) : NB w k := fun n cap f ⟨us, h1, _⟩ => by
  rw [h] at h1
  simp at h1
  exact ht h1.2.1
theorem NB.kept {w w' : World} {k : Nat} (h : NB w k) (he : w'.heap[k]? = w.heap[k]?) : NB w' k := fun n cap f ⟨us, h1, h2⟩ => h n cap f ⟨us, by rw [← he]; exact h1, h2⟩
/-- all blocks stay but the stock's, and rows of bytes from B on. -/
structure Wf (B s : Nat) (w w' : World) : Prop where
  os : w'.os = w.os
  tape : w'.tape = w.tape
  output : w'.output = w.output
  size : w.heap.size ≤ w'.heap.size
  block : ∀ k, k < w.heap.size → k ≠ s → (k < B ∨ NB w k) → w'.heap[k]? = w.heap[k]?
theorem Wf.refl (B s : Nat) (w : World) : Wf B s w w := ⟨rfl, rfl, rfl, Nat.le_refl _, fun _ _ _ _ => rfl⟩
theorem Wf.trans {B s : Nat} {w w' w'' : World} (h : Wf B s w w') (k : Wf B s w' w'') : Wf B s w w'' :=
  ⟨k.os.trans h.os, k.tape.trans h.tape, k.output.trans h.output, Nat.le_trans h.size k.size, fun i h1 h2 h3 => by
    have e := h.block i h1 h2 h3
    exact (k.block i (Nat.lt_of_lt_of_le h1 h.size) h2 (h3.imp id fun q => q.kept e)).trans e⟩
theorem Wf.of {B s : Nat} {w w' : World} (h : Below w.heap.size w w') : Wf B s w w' := ⟨h.os, h.tape, h.output, h.size, fun k hk _ _ => h.block k hk⟩
theorem Wf.below {B s : Nat} {w w' : World} (h : Wf B s w w') (h0 : B ≤ w.heap.size) (h1 : B ≤ s) : Below B w w' := ⟨h.os, h.tape, h.output, h.size, fun k hk => h.block k (by omega) (by omega) (Or.inl hk)⟩
theorem Wf.but {B s p c b : Nat} {a : Option Addr} {S : Bs} {w w' : World} (hw : Wr w B p s a c S) (hb : b = s ∨ a = some ⟨b, 0, none⟩) (h : But2 s b w w') : Wf B s w w' :=
  ⟨h.os, h.tape, h.output, h.size, fun k h1 h2 h3 => by
    refine h.block k h1 h2 (fun e => ?_)
    rcases hb with rfl | hb
    · exact h2 e
    · obtain ⟨l, _, hR, _⟩ := hw.stk
      rcases hR with ⟨r, _⟩ | ⟨g, e', hg, hbl, _⟩
      · rw [r] at hb; cases hb
      · rw [e'] at hb
        cases hb
        subst e
        rcases h3 with h3 | h3
        · omega
        · exact h3 _ _ _ hbl⟩
/-- a writer that wrote so many bytes as they ought to be. -/
def PW (w : World) (B p s : Nat) (P : Nat → Nat) (L : Nat) : Prop := ∃ a c S, Wr w B p s a c S ∧ S.e = 0 ∧ S.l = L ∧ S.Ok ∧ ∀ i, i < L → S.f i = P i
section
variable {w w' : World} {B p s L : Nat} {P : Nat → Nat}
theorem PW.same (h : PW w B p s P L) (hB : Below w.heap.size w w') : PW w' B p s P L := by
  obtain ⟨a, c, S, h1, h2⟩ := h
  exact ⟨a, c, S, h1.same hB, h2⟩
theorem PW.mono {B' : Nat} (h : PW w B p s P L) (hB : B' ≤ B) : PW w B' p s P L := by
  obtain ⟨a, c, S, h1, h2⟩ := h
  obtain ⟨l, k1, k2, k3⟩ := h1.stk
  refine ⟨a, c, S, ⟨h1.box, ⟨l, k1, ?_, k3⟩, Nat.le_trans hB h1.hp, Nat.le_trans hB h1.hs⟩, h2⟩
  rcases k2 with k2 | ⟨g, e, q1, q2⟩
  · exact Or.inl k2
  · exact Or.inr ⟨g, e, Nat.le_trans hB q1, q2⟩
theorem PW.lts (h : PW w B p s P L) : s < w.heap.size ∧ B ≤ s := by
  obtain ⟨a, c, S, h1, h2⟩ := h
  exact ⟨h1.lts, h1.hs⟩
theorem PW.stk (h : PW w B p s P L) : ∃ vs, w.heap[s]? = some (.cells vs 82 (0, 0)) := by
  obtain ⟨a, c, S, h1, h2⟩ := h
  obtain ⟨l, k1, _⟩ := h1.stk
  exact ⟨_, k1⟩
theorem PW.ne (h : PW w B p s P L) {g : Nat} {vs : Array Value} {t : TypeId} {m : Nat × Nat} (hg : w.heap[g]? = some (.cells vs t m)) (ht : t ≠ 82) : g ≠ s := fun e => by
  obtain ⟨us, h1⟩ := h.stk
  rw [← e, hg] at h1
  simp at h1
  exact ht h1.2.1
/-- a block of another type stays. -/
theorem Wf.kept (h : Wf B s w w') (hP : PW w B p s P L) {g : Nat} {vs : Array Value} {t : TypeId} {m : Nat × Nat} (hg : w.heap[g]? = some (.cells vs t m)) (ht : t ≠ 82) (hu : t ≠ 5) : w'.heap[g]? = some (.cells vs t m) :=
  (h.block g (Array.getElem?_eq_some_iff.1 hg).1 (hP.ne hg ht) (Or.inr (nb_of hg hu))).trans hg
/-- what a number's bytes make of it. -/
theorem PW.num {x : Ending} {a : Option Addr} {c : Nat} {S : Bs} (hW : Wr w B p s a c S) (h0 : S.e = 0) (hL : S.l = L) (hO : S.Ok) (hf : ∀ i, i < L → S.f i = P i) {n : Int} {z : Nat} (hfit : Fit n z) (hP : ∀ j, j < z → dg n.toNat z j = P (L + j)) (h : Wrote w B p s a (S.num n z) x w') :
    x = .returned (.tuple #[]) ∧ PW w' B p s P (L + z) ∧ Wf B s w w' := by
  obtain ⟨a', c', hx, hw, ⟨b, hb, hbut⟩, _⟩ := h
  have he : S.num n z = S.add z (dg n.toNat z) := by unfold Bs.num; rw [if_neg (by simp [h0]), if_pos hfit, Int.toNat_natCast]
  rw [he] at hw
  refine ⟨hx, ⟨a', c', _, hw, h0, ?_, hO.add (dg_by _ _), fun i hi => ?_⟩, Wf.but hW hb hbut⟩
  · show S.l + z = L + z
    rw [hL]
  · show cpy S.l z (dg n.toNat z) S.f i = P i
    unfold cpy
    rw [hL]
    by_cases c : i < L
    · rw [if_neg (by omega)]; exact hf i c
    · rw [if_pos (by omega), hP _ (by omega), show L + (i - L) = i by omega]
theorem PW.put {x : Ending} {a : Option Addr} {c : Nat} {S : Bs} (hW : Wr w B p s a c S) (h0 : S.e = 0) (hL : S.l = L) (hO : S.Ok) (hf : ∀ i, i < L → S.f i = P i) {n : Nat} {g : Nat → Nat} (hg : Pf.By g) (hP : ∀ j, j < n → g j = P (L + j)) (h : Wrote w B p s a (S.put n g) x w') :
    x = .returned (.tuple #[]) ∧ PW w' B p s P (L + n) ∧ Wf B s w w' := by
  obtain ⟨a', c', hx, hw, ⟨b, hb, hbut⟩, _⟩ := h
  have he : S.put n g = S.add n g := by unfold Bs.put; rw [if_neg (by simp [h0])]
  rw [he] at hw
  refine ⟨hx, ⟨a', c', _, hw, h0, ?_, hO.add hg, fun i hi => ?_⟩, Wf.but hW hb hbut⟩
  · show S.l + n = L + n
    rw [hL]
  · show cpy S.l n g S.f i = P i
    unfold cpy
    rw [hL]
    by_cases c : i < L
    · rw [if_neg (by omega)]; exact hf i c
    · rw [if_pos (by omega), hP _ (by omega), show L + (i - L) = i by omega]
end
/-- numbers of one size. -/
def NumsOk (P : Nat → Nat) (L z k : Nat) (xs : Nat → Int) : Prop := ∀ i, i < k → Fit (xs i) z ∧ ∀ j, j < z → dg (xs i).toNat z j = P (L + i * z + j)
set_option maxHeartbeats 4000000 in
set_option maxRecDepth 100000 in
theorem numbers_any (B p s : Nat) (P : Nat → Nat) (L k z : Nat) (xs : Nat → Int) (g : Nat) (hk : k ≤ 3) (hL : L ≤ 800000000) (hz : z ≤ 4) (hfit : NumsOk P L z k xs) (w : World) (hB : B ≤ w.heap.size) (hW : PW w B p s P L)
    (vs : Array Value) (hg : w.heap[g]? = some (.cells vs 3 (0, 0))) (hv : ∀ i, i < k → vs[i]? = some (.int .i64 (xs i))) :
    Calls Try.prog 44 #[.agg #[.pointer (some ⟨p, 0, none⟩)], .int .i64 (z : Nat), .slice (some ⟨g, 0, none⟩) k k] w fun e w' => e = .returned (.tuple #[]) ∧ PW w' B p s P (L + k * z) ∧ Wf B s w w' := by
  obtain ⟨w1, hw1⟩ : ∃ w1, w1 = w.alloc (.cells #[.pointer (some ⟨p, 0, none⟩)] 56) := ⟨_, rfl⟩
  have hb1 : Below w.heap.size w w1 := by rw [hw1]; exact (Below.refl _ w).alloc (Nat.le_refl _) _
  have HX := Lib.hid (show w1.heap[w.heap.size]? = some (.cells #[.pointer (some ⟨p, 0, none⟩)] 56 (0, 0)) by rw [hw1]; exact heap_alloc_new _ _)
  have HG := Lib.hid (show w1.heap[g]? = some (.cells vs 3 (0, 0)) from (hb1.block g (Array.getElem?_eq_some_iff.1 hg).1).trans hg)
  have HW := Lib.hid (hW.same hb1); have HF := Lib.hid hfit; have HV := Lib.hid hv; have HB1 := Lib.hid hb1; have HBB := Lib.hid (Nat.le_trans hB hb1.size)
  have HK := Lib.hid hk; have HL := Lib.hid hL; have HZ := Lib.hid hz
  have HW1 := Lib.hid hw1
  clear hW hfit hg hv hb1 hw1 hB hk hL hz
  go_enter Try.func44, Try.ntmps44
  go_wp2_with fail
  rw [← HW1.out]
  generalize hwg : w.heap.size = wg at *
  clear HW1
  go_loopw [7, 10] (fun _ i wr => ∃ (j : Nat) (W : World), W = wr ∧ j ≤ k ∧ i = .int .i64 (j : Nat) ∧ PW wr B p s P (L + j * z) ∧ Wf B s w1 wr) (fun _ i _ => k - (intOf i).toNat)
  case atStart => exact ⟨0, _, rfl, by omega, rfl, by simpa using HW.out, Wf.refl _ _ _⟩
  case round =>
    obtain ⟨j, wx, rfl, hj, rfl, hP, hF⟩ := hrel
    by_cases hlt : j < k
    · have i1 : (j : Int) < (k : Int) := by omega
      have hxc := hF.kept HW.out HX.out (by decide) (by decide)
      have hgc := hF.kept HW.out HG.out (by decide) (by decide)
      have c0 : wx.cell? ⟨wg, 0, none⟩ = some (.pointer (some ⟨p, 0, none⟩)) := by rw [cell_of_row _ _ 0 _ _ _ hxc]; rfl
      have c1 : wx.cell? ⟨g, j, none⟩ = some (.int .i64 (xs j)) := by rw [cell_of_row _ _ j _ _ _ hgc]; exact HV.out j hlt
      have HF2 := Lib.hid hF
      obtain ⟨a, c, S, hw, h0, hl, hO, hf⟩ := hP
      have HWR := Lib.hid hw; have H0 := Lib.hid h0; have HLL := Lib.hid hl; have HO := Lib.hid hO; have HFF := Lib.hid hf
      have HBX := Lib.hid (Nat.le_trans HBB.out hF.size)
      have HJZ := Lib.hid (show j * z ≤ 3 * 4 from Nat.mul_le_mul (by have := HK.out; omega) HZ.out)
      have HSL := Lib.hid (show S.l ≤ 900000000 by rw [HLL.out]; have := HJZ.out; have := HL.out; omega)
      obtain ⟨x, hx⟩ : ∃ x, x = xs j := ⟨_, rfl⟩
      rw [← hx] at c1
      have HXJ := Lib.hid hx
      clear hw h0 hl hO hf hF hxc hgc hx
      go_wp2_with fail
      refine (wnum_any B p s a c S x z HSL.out wx HBX.out HWR.out).mono ?_
      intro e w2 hwr
      obtain ⟨rfl, hP2, hF3⟩ := PW.num HWR.out H0.out HLL.out HO.out HFF.out (by rw [HXJ.out]; exact (HF.out j hlt).1) (fun i hi => by rw [HXJ.out, (HF.out j hlt).2 i hi]) hwr
      have HP2 := Lib.hid hP2; have HF3 := Lib.hid (HF2.out.trans hF3)
      clear hP2 hF3 hwr c0 c1
      have hk3 := HK.out
      go_wp2
      go_roundw
      case rel => exact ⟨j + 1, _, rfl, by omega, by go_num, by rw [Nat.succ_mul, ← Nat.add_assoc]; exact HP2.out, HF3.out⟩
      case measure => simp [intOf]; omega
    · obtain rfl : j = k := by omega
      have i1 : ¬ (j : Int) < (j : Int) := by omega
      have HP := Lib.hid hP; have HF := Lib.hid hF
      clear hP hF
      go_wp2
      go_end0
      exact ⟨rfl, HP.out, (Wf.of (hwg ▸ HB1.out)).trans HF.out⟩
set_option maxHeartbeats 1000000 in
theorem fresh_any (P : Nat → Nat) (w : World) :
    Calls Try.prog 24 #[] w fun e w' => ∃ p s, e = .returned (.agg #[.pointer (some ⟨p, 0, none⟩)]) ∧ PW w' w.heap.size p s P 0 ∧ Below w.heap.size w w' := by
  obtain ⟨w1, hw1⟩ : ∃ w1, w1 = w.alloc (.cells #[.pointer none] 56) := ⟨_, rfl⟩
  have hb1 : Below w.heap.size w w1 := by rw [hw1]; exact (Below.refl _ w).alloc (Nat.le_refl _) _
  have HX := Lib.hid (show w1.heap[w.heap.size]? = some (.cells #[.pointer none] 56 (0, 0)) by rw [hw1]; exact heap_alloc_new _ _)
  have HS1 := Lib.hid (show w1.heap.size = w.heap.size + 1 by rw [hw1, World.size_alloc])
  have HB1 := Lib.hid hb1
  have HW1 := Lib.hid hw1
  clear hb1 hw1
  go_enter Try.func24, Try.ntmps24
  go_wp2_with fail
  rw [← HW1.out]
  refine (wnew_any w1).mono ?_
  rintro e w2 ⟨p, s, rfl, hwr, hB2⟩
  have hx2 := (hB2.block w.heap.size (by have := HS1.out; omega)).trans HX.out
  have c0 : w2.cell? ⟨w.heap.size, 0, none⟩ = some (.pointer none) := by rw [cell_of_row _ _ 0 _ _ _ hx2]; rfl
  have f0 : w2.frozen? ⟨w.heap.size, 0, none⟩ = false := frozen_of_row w2 _ 0 _ _ hx2
  have HWR := Lib.hid hwr; have HB2 := Lib.hid hB2; have HX2 := Lib.hid hx2
  have HN := Lib.hid (show w.heap.size ≠ p ∧ w.heap.size ≠ s by have := hwr.hp; have := hwr.hs; have := HS1.out; omega)
  clear hwr hB2 hx2
  obtain ⟨w3, hw3⟩ : ∃ w3, w3 = w2.setCell ⟨w.heap.size, 0, none⟩ (.pointer (some ⟨p, 0, none⟩)) := ⟨_, rfl⟩
  have HW3 := Lib.hid hw3
  have HX3 := Lib.hid (show w3.heap[w.heap.size]? = some (.cells #[.pointer (some ⟨p, 0, none⟩)] 56 (0, 0)) by rw [hw3]; exact heap_setCell_same w2 w.heap.size 0 _ _ _ HX2.out)
  have HB3 := Lib.hid (show Below w.heap.size w w3 by rw [hw3]; exact (HB1.out.trans (HB2.out.mono (by have := HS1.out; omega))).trans ((But2.set (s := w.heap.size) (b := w.heap.size) w2).below (by have := HB2.out.size; have := HS1.out; omega) (Nat.le_refl _) (Nat.le_refl _)))
  have HW := Lib.hid (show PW w3 w.heap.size p s P 0 from ⟨none, 0, ⟨0, fun _ => 0, 0⟩, by
    have h := HWR.out.kept (w' := w3) (by rw [hw3]; exact heap_setCell_other _ _ _ _ (Ne.symm HN.out.1)) (by rw [hw3]; exact heap_setCell_other _ _ _ _ (Ne.symm HN.out.2)) (fun g e => by cases e)
    obtain ⟨l, k1, k2, k3⟩ := h.stk
    refine ⟨⟨h.box, ⟨l, k1, ?_, k3⟩, by have := h.hp; have := HS1.out; omega, by have := h.hs; have := HS1.out; omega⟩, rfl, rfl, ⟨fun _ => (by show 0 < 256; omega), fun _ _ => rfl⟩, fun i hi => absurd hi (Nat.not_lt_zero i)⟩
    rcases k2 with k2 | ⟨g, e, _⟩
    · exact Or.inl k2
    · cases e⟩)
  clear hw3 HX2 HWR
  go_wp2
  rw [← HW3.out]
  exact bodyPost_ret (results_cell_row rfl _ _ w.heap.size _ _ (0, 0) _ rfl HX3.out Try.underlying56 rfl (by kernel_rfl)) rfl ⟨p, s, rfl, HW.out, HB3.out⟩
end Go.Proofs.Ytempgjollkdmnaa.He

namespace Go.Proofs.Ytempgjollkdmnaa.He
open Go.RowKit Go.Shelf
open Go.Proofs.Ytempgjollkdmnaa.Ly (TabOk RowOk off Tb)
attribute [local go_sem] Oper.semAt_some

theorem nums_one {P : Nat → Nat} {L z : Nat} {x : Int} (hf : Fit x z) (h : ∀ j, j < z → dg x.toNat z j = P (L + j)) : NumsOk P L z 1 (fun _ => x) := fun i hi => ⟨hf, fun j hj => by
  rw [show L + i * z + j = L + j by rw [show i = 0 by omega]; omega]; exact h j hj⟩
theorem dg_one (n : Nat) : dg n 1 0 = n % 256 := by
  unfold dg; rw [if_pos (by omega)]; simp
theorem nums_ver (h : Hr) (f : Nat → Nat) : NumsOk (pl h f) 0 1 1 (fun _ => 1) := nums_one (by decide) fun j hj => by
  obtain rfl : j = 0 := by omega
  rw [show (1 : Int).toNat = 1 from rfl, dg_one]; rfl
theorem fit_of {x : Int} {z : Nat} (h1 : 1 ≤ z) (h4 : z ≤ 4) (h : 0 ≤ x) {m : Nat} (hm : x ≤ (m : Int)) (hz : m < 256 ^ z) : Fit x z := ⟨by omega, by omega, h, by
  rw [Int.toNat_natCast]
  have h5 := Int.ofNat_lt.2 hz
  rw [Int.natCast_pow] at h5
  exact Int.lt_of_le_of_lt hm h5⟩
theorem nums_S {h : Hr} (hr : RH h) (f : Nat → Nat) : NumsOk (pl h f) 1 2 1 (fun _ => h.S) := nums_one (fit_of (by decide) (by decide) hr.1.1 (m := 65535) hr.1.2 (by decide)) (pl_S h f)
theorem nums_F {h : Hr} (hr : RH h) (f : Nat → Nat) : NumsOk (pl h f) 3 4 1 (fun _ => h.F) := nums_one (fit_of (by decide) (by decide) (by have := hr.2.1.1; omega) (m := 2147483647) hr.2.1.2 (by decide)) (pl_F h f)
theorem nums_D {h : Hr} (hr : RH h) (f : Nat → Nat) : NumsOk (pl h f) 10 4 1 (fun _ => h.D) := nums_one (fit_of (by decide) (by decide) hr.2.2.2.1.1 (m := 2147483647) hr.2.2.2.1.2 (by decide)) (pl_D h f)
/-- the three numbers of a byte each. -/
def three (h : Hr) (i : Nat) : Int := if i = 0 then h.I else if i = 1 then h.N else (h.m : Nat)
theorem nums_I {h : Hr} (hr : RH h) (f : Nat → Nat) : NumsOk (pl h f) 7 1 3 (three h) := fun i hi => by
  have h3 := hr.2.2.1
  have h5 := hr.2.2.2.2
  have hN := h5.2.1
  have hm := h5.2.2.2.1
  have hx : 0 ≤ three h i ∧ three h i ≤ ((255 : Nat) : Int) := by unfold three; split <;> (try split) <;> omega
  refine ⟨fit_of (by decide) (by decide) hx.1 hx.2 (by decide), fun j hj => ?_⟩
  obtain rfl : j = 0 := by omega
  rw [dg_one, show 7 + i * 1 + 0 = 7 + i by omega]
  unfold three
  rcases (show i = 0 ∨ i = 1 ∨ i = 2 by omega) with rfl | rfl | rfl
  · rfl
  · rfl
  · show ((h.m : Nat) : Int).toNat % 256 = h.m % 256
    rw [Int.toNat_natCast]
theorem nums_K {h : Hr} (hr : RH h) (f : Nat → Nat) {k : Nat} (hk : k < h.m) : NumsOk (pl h f) (14 + 3 * k) 1 1 (fun _ => h.K k) := by
  have h5 := hr.2.2.2.2.2.2.2.2 k hk
  have hN := hr.2.2.2.2.2.1
  unfold RowOk at h5
  refine nums_one (fit_of (by decide) (by decide) (by omega) (m := 255) (by omega) (by decide)) fun j hj => ?_
  obtain rfl : j = 0 := by omega
  rw [dg_one, Nat.add_zero, pl_K h f hk]
theorem nums_L {h : Hr} (hr : RH h) (f : Nat → Nat) {k : Nat} (hk : k < h.m) : NumsOk (pl h f) (14 + 3 * k + 1) 2 1 (fun _ => h.L k) := by
  have h5 := hr.2.2.2.2.2.2.2.2 k hk
  unfold RowOk at h5
  exact nums_one (fit_of (by decide) (by decide) h5.2.2.1 (m := 65535) h5.2.2.2.1 (by decide)) (pl_L h f hk)
theorem at_one (x : Int) : ∀ i, i < 1 → (#[Value.int .i64 x])[i]? = some (.int .i64 ((fun _ => x) i)) := fun i hi => by
  have e : i = 0 := by omega
  subst e; rfl
theorem at_three (h : Hr) : ∀ i, i < 3 → (#[Value.int .i64 h.I, .int .i64 h.N, .int .i64 (h.m : Nat)])[i]? = some (.int .i64 (three h i)) := fun i hi => by
  rcases (show i = 0 ∨ i = 1 ∨ i = 2 by omega) with rfl | rfl | rfl <;> rfl
section
variable {w w' : World} {B p s L : Nat} {P : Nat → Nat}
theorem Wf.hat (h : Wf B s w w') (hP : PW w B p s P L) {g : Nat} {x : Hr} {a : Option Addr} {c : Nat} (hx : HAt w g x a c) : HAt w' g x a c := h.kept hP hx (by decide) (by decide)
/-- a writer in its box. -/
def WAt (w : World) (g p : Nat) : Prop := w.heap[g]? = some (.cells #[.pointer (some ⟨p, 0, none⟩)] 56 (0, 0))
theorem WAt.lt {g : Nat} (h : WAt w g p) : g < w.heap.size := (Array.getElem?_eq_some_iff.1 h).1
theorem WAt.c0 {g : Nat} (h : WAt w g p) : w.cell? ⟨g, 0, none⟩ = some (.pointer (some ⟨p, 0, none⟩)) := by rw [cell_of_row _ _ 0 _ _ _ h]; rfl
theorem Wf.wat (h : Wf B s w w') (hP : PW w B p s P L) {g q : Nat} (hx : WAt w g q) : WAt w' g q := h.kept hP hx (by decide) (by decide)
theorem WAt.same {g q : Nat} (hx : WAt w g q) (hB : Below w.heap.size w w') : WAt w' g q := (hB.block _ hx.lt).trans hx
end
/-- a row of a table in its box. -/
def ZAt (w : World) (g : Nat) (x y : Int) : Prop := w.heap[g]? = some (.cells #[.int .i64 x, .int .i64 y] 42 (0, 0))
theorem ZAt.c {w : World} {g : Nat} {x y : Int} (h : ZAt w g x y) : w.cell? ⟨g, 0, none⟩ = some (.int .i64 x) ∧ w.cell? ⟨g, 1, none⟩ = some (.int .i64 y) :=
  ⟨by rw [cell_of_row _ _ 0 _ _ _ h]; rfl, by rw [cell_of_row _ _ 1 _ _ _ h]; rfl⟩
theorem Wf.zat {w w' : World} {B p s L : Nat} {P : Nat → Nat} (h : Wf B s w w') (hP : PW w B p s P L) {g : Nat} {x y : Int} (hx : ZAt w g x y) : ZAt w' g x y := h.kept hP hx (by decide) (by decide)
/-- a call of numbers whose row was just laid. -/
theorem numbers_at (B p s : Nat) (P : Nat → Nat) (L k z : Nat) (xs : Nat → Int) (hk : k ≤ 3) (hL : L ≤ 800000000) (hz : z ≤ 4) (hfit : NumsOk P L z k xs) (w : World) (hB : B ≤ w.heap.size) (hW : PW w B p s P L)
    (vs : Array Value) (hv : ∀ i, i < k → vs[i]? = some (.int .i64 (xs i))) :
    Calls Try.prog 44 #[.agg #[.pointer (some ⟨p, 0, none⟩)], .int .i64 (z : Nat), .slice (some ⟨w.heap.size, 0, none⟩) k k] (w.alloc (.cells vs 3)) fun e w' => e = .returned (.tuple #[]) ∧ PW w' B p s P (L + k * z) ∧ Wf B s w w' := by
  have hb : Below w.heap.size w (w.alloc (.cells vs 3)) := (Below.refl _ w).alloc (Nat.le_refl _) _
  refine (numbers_any B p s P L k z xs w.heap.size hk hL hz hfit _ (Nat.le_trans hB hb.size) (hW.same hb) vs (heap_alloc_new _ _) hv).mono ?_
  rintro e w' ⟨h1, h2, h3⟩
  exact ⟨h1, h2, (Wf.of hb).trans h3⟩
set_option maxHeartbeats 4000000 in
set_option maxRecDepth 100000 in
theorem wheader_any (h : Hr) (hr : RH h) (f : Nat → Nat) (a : Option Addr) (c B p s : Nat) (w : World) (hB : B ≤ w.heap.size) (hW : PW w B p s (pl h f) 0) (hT : ∀ W, Below B w W → Tb W a h.m h.K h.L) :
    Calls Try.prog 25 #[.agg #[.pointer (some ⟨p, 0, none⟩)], hV h a c] w fun e w' => e = .returned (.tuple #[]) ∧ PW w' B p s (pl h f) (14 + 3 * h.m) ∧ Wf B s w w' := by
  obtain ⟨w0, hw0⟩ : ∃ w0, w0 = w.alloc (.cells #[.pointer (some ⟨p, 0, none⟩)] 56) := ⟨_, rfl⟩
  obtain ⟨w1, hw1⟩ : ∃ w1, w1 = w0.alloc (.cells #[.int .i64 h.S, .int .i64 h.F, .int .i64 h.I, .int .i64 h.N, .int .i64 h.D, .slice a h.m c] 24) := ⟨_, rfl⟩
  have hz0 : w0.heap.size = w.heap.size + 1 := by rw [hw0, World.size_alloc]
  have hb0 : Below w.heap.size w w0 := by rw [hw0]; exact (Below.refl _ w).alloc (Nat.le_refl _) _
  have hb1 : Below w0.heap.size w0 w1 := by rw [hw1]; exact (Below.refl _ w0).alloc (Nat.le_refl _) _
  have hq0 : WAt w0 w.heap.size p := by rw [hw0]; exact heap_alloc_new _ _
  have HQ := Lib.hid (hq0.same hb1)
  have HX := Lib.hid (show HAt w1 (w.heap.size + 1) h a c by rw [hw1, ← hz0]; exact heap_alloc_new _ _)
  have HB := Lib.hid (hb0.trans (hb1.mono hb0.size))
  have HP := Lib.hid (hW.same HB.out)
  have HF := Lib.hid (show Wf B s w w1 from Wf.of HB.out)
  have HBB := Lib.hid (show B ≤ w1.heap.size from Nat.le_trans hB HB.out.size)
  have HW := Lib.hid (show w1 = (w.alloc (.cells #[.pointer (some ⟨p, 0, none⟩)] 56)).alloc (.cells #[.int .i64 h.S, .int .i64 h.F, .int .i64 h.I, .int .i64 h.N, .int .i64 h.D, .slice a h.m c] 24) by rw [hw1, hw0])
  have HR := Lib.hid hr; have HT := Lib.hid (fun W (hw : Wf B s w W) => hT W (hw.below hB hW.lts.2))
  have HM := Lib.hid (show h.m ≤ 8 from hr.2.2.2.2.2.2.2.1)
  unfold hV
  clear hw0 hw1 hz0 hb0 hb1 hq0 hW hB hr hT
  go_enter Try.func25, Try.ntmps25
  obtain ⟨c0, c1, c2, c3, c4, c5⟩ := HX.out.c
  have q0 := HQ.out.c0
  go_upto_region 1 with fail
  rw [← HW.out]
  clear HW HB
  generalize hwg : w.heap.size = wg at *
  clear hwg
  go_wp2_with fail
  clear c0 c1 c2 c3 c4 c5 q0
  refine (numbers_at B p s (pl h f) (0) 1 1 (fun _ => 1) (by decide) (by have := HM.out; omega) (by decide) (nums_ver h f) w1 HBB.out HP.out #[.int .i64 1] (at_one _)).mono ?_
  rintro e w2 ⟨rfl, hP, hF⟩
  have HX2 := Lib.hid (hF.hat HP.out HX.out)
  have HQ2 := Lib.hid (hF.wat HP.out HQ.out)
  have HF2 := Lib.hid (HF.out.trans hF)
  have HBB := Lib.hid (Nat.le_trans HBB.out hF.size)
  have HP := Lib.hid hP
  clear hP hF
  obtain ⟨c0, c1, c2, c3, c4, c5⟩ := HX2.out.c
  have q0 := HQ2.out.c0
  go_wp2_with fail
  clear c0 c1 c2 c3 c4 c5 q0
  refine (numbers_at B p s (pl h f) (1) 1 2 (fun _ => h.S) (by decide) (by have := HM.out; omega) (by decide) (nums_S HR.out f) w2 HBB.out HP.out #[.int .i64 h.S] (at_one _)).mono ?_
  rintro e w3 ⟨rfl, hP, hF⟩
  have HX3 := Lib.hid (hF.hat HP.out HX2.out)
  have HQ3 := Lib.hid (hF.wat HP.out HQ2.out)
  have HF3 := Lib.hid (HF2.out.trans hF)
  have HBB := Lib.hid (Nat.le_trans HBB.out hF.size)
  have HP := Lib.hid hP
  clear hP hF
  obtain ⟨c0, c1, c2, c3, c4, c5⟩ := HX3.out.c
  have q0 := HQ3.out.c0
  go_wp2_with fail
  clear c0 c1 c2 c3 c4 c5 q0
  refine (numbers_at B p s (pl h f) (3) 1 4 (fun _ => h.F) (by decide) (by have := HM.out; omega) (by decide) (nums_F HR.out f) w3 HBB.out HP.out #[.int .i64 h.F] (at_one _)).mono ?_
  rintro e w4 ⟨rfl, hP, hF⟩
  have HX4 := Lib.hid (hF.hat HP.out HX3.out)
  have HQ4 := Lib.hid (hF.wat HP.out HQ3.out)
  have HF4 := Lib.hid (HF3.out.trans hF)
  have HBB := Lib.hid (Nat.le_trans HBB.out hF.size)
  have HP := Lib.hid hP
  clear hP hF
  obtain ⟨c0, c1, c2, c3, c4, c5⟩ := HX4.out.c
  have q0 := HQ4.out.c0
  go_wp2_with fail
  clear c0 c1 c2 c3 c4 c5 q0
  refine (numbers_at B p s (pl h f) (7) 3 1 (three h) (by decide) (by have := HM.out; omega) (by decide) (nums_I HR.out f) w4 HBB.out HP.out #[.int .i64 h.I, .int .i64 h.N, .int .i64 (h.m : Nat)] (at_three h)).mono ?_
  rintro e w5 ⟨rfl, hP, hF⟩
  have HX5 := Lib.hid (hF.hat HP.out HX4.out)
  have HQ5 := Lib.hid (hF.wat HP.out HQ4.out)
  have HF5 := Lib.hid (HF4.out.trans hF)
  have HBB := Lib.hid (Nat.le_trans HBB.out hF.size)
  have HP := Lib.hid hP
  clear hP hF
  obtain ⟨c0, c1, c2, c3, c4, c5⟩ := HX5.out.c
  have q0 := HQ5.out.c0
  go_wp2_with fail
  clear c0 c1 c2 c3 c4 c5 q0
  refine (numbers_at B p s (pl h f) (10) 1 4 (fun _ => h.D) (by decide) (by have := HM.out; omega) (by decide) (nums_D HR.out f) w5 HBB.out HP.out #[.int .i64 h.D] (at_one _)).mono ?_
  rintro e w6 ⟨rfl, hP, hF⟩
  have HX6 := Lib.hid (hF.hat HP.out HX5.out)
  have HQ6 := Lib.hid (hF.wat HP.out HQ5.out)
  have HF6 := Lib.hid (HF5.out.trans hF)
  have HBB := Lib.hid (Nat.le_trans HBB.out hF.size)
  have HP := Lib.hid hP
  clear hP hF
  obtain ⟨c0, c1, c2, c3, c4, c5⟩ := HX6.out.c
  go_wp2_with fail
  clear c0 c1 c2 c3 c4 c5
  go_loopw [5, 37] (fun _ i wr => ∃ (k : Nat) (W : World), W = wr ∧ k ≤ h.m ∧ i = .int .i64 (k : Nat) ∧ PW wr B p s (pl h f) (14 + 3 * k) ∧ Wf B s w6 wr) (fun _ i _ => h.m - (intOf i).toNat)
  case atStart => exact ⟨0, _, rfl, by omega, rfl, HP.out, Wf.refl _ _ _⟩
  case round =>
    obtain ⟨k, wx, rfl, hk, rfl, hPx, hFx⟩ := hrel
    have HPx := Lib.hid hPx; have HFx := Lib.hid hFx
    clear hPx hFx
    by_cases hlt : k < h.m
    · have i1 : (k : Int) < (h.m : Int) := by omega
      have HLT := Lib.hid hlt
      obtain ⟨b, o, ea, d0, d1⟩ := (HT.out wx (HF6.out.trans HFx.out)).cell k hlt
      subst ea
      obtain ⟨x, hx⟩ : ∃ x, x = h.K k := ⟨_, rfl⟩
      obtain ⟨y, hy⟩ : ∃ y, y = h.L k := ⟨_, rfl⟩
      rw [← hx] at d0
      rw [← hy] at d1
      have EX := Lib.hid hx; have EY := Lib.hid hy
      clear hx hy hlt
      go_upto_region 9 with fail
      obtain ⟨wy, hwy⟩ : ∃ wy, wy = wx.alloc (.cells #[.int .i64 x, .int .i64 y] 42) := ⟨_, rfl⟩
      rw [← hwy]
      have hby : Below wx.heap.size wx wy := by rw [hwy]; exact (Below.refl _ _).alloc (Nat.le_refl _) _
      have HZ := Lib.hid (show ZAt wy wx.heap.size x y by rw [hwy]; exact heap_alloc_new _ _)
      have HQ7 := Lib.hid ((HFx.out.wat HP.out HQ6.out).same hby)
      have HP7 := Lib.hid (HPx.out.same hby)
      have HF7 := Lib.hid (HFx.out.trans (Wf.of hby))
      have HBB7 := Lib.hid (Nat.le_trans (Nat.le_trans HBB.out HFx.out.size) hby.size)
      generalize wx.heap.size = wh at *
      clear hwy hby d0 d1
      have q0 := HQ7.out.c0
      obtain ⟨z0, z1⟩ := HZ.out.c
      go_wp2_with fail
      clear q0 z0 z1
      refine (numbers_at B p s (pl h f) (14 + 3 * k) 1 1 (fun _ => x) (by decide) (by have := HM.out; omega) (by decide) (by rw [EX.out]; exact nums_K HR.out f HLT.out) wy HBB7.out HP7.out #[.int .i64 x] (at_one _)).mono ?_
      rintro e w8 ⟨rfl, hP8, hF8⟩
      have HQ8 := Lib.hid (hF8.wat HP7.out HQ7.out)
      have HZ8 := Lib.hid (hF8.zat HP7.out HZ.out)
      have HBB8 := Lib.hid (Nat.le_trans HBB7.out hF8.size)
      have HF8 := Lib.hid (HF7.out.trans hF8)
      have HP8 := Lib.hid hP8
      clear hP8 hF8
      have q0 := HQ8.out.c0
      obtain ⟨z0, z1⟩ := HZ8.out.c
      go_wp2_with fail
      clear q0 z0 z1
      refine (numbers_at B p s (pl h f) (14 + 3 * k + 1) 1 2 (fun _ => y) (by decide) (by have := HM.out; omega) (by decide) (by rw [EY.out]; exact nums_L HR.out f HLT.out) w8 HBB8.out HP8.out #[.int .i64 y] (at_one _)).mono ?_
      rintro e w9 ⟨rfl, hP9, hF9⟩
      have HP9 := Lib.hid (show PW w9 B p s (pl h f) (14 + 3 * (k + 1)) from (show 14 + 3 * k + 1 + 1 * 2 = 14 + 3 * (k + 1) by omega) ▸ hP9)
      have HF9 := Lib.hid (HF8.out.trans hF9)
      clear hP9 hF9
      have hlt := HLT.out
      have hm8 := HM.out
      go_wp2
      go_roundw
      case rel => exact ⟨k + 1, _, rfl, by omega, by go_num, HP9.out, HF9.out⟩
      case measure => simp [intOf]; omega
    · obtain rfl : k = h.m := by omega
      have i1 : ¬ (h.m : Int) < (h.m : Int) := by omega
      go_wp2
      go_end0
      exact ⟨rfl, HPx.out, HF6.out.trans HFx.out⟩
end Go.Proofs.Ytempgjollkdmnaa.He

namespace Go.Proofs.Ytempgjollkdmnaa.He
open Go.RowKit Go.Shelf
open Go.Proofs.Ytempgjollkdmnaa.Ly (TabOk RowOk off off_le Tb TabSays NumSays)
open Go.Proofs.Ytempgjollkdmnaa.Wg (BoSays BoSays.no BoSays.yes)
attribute [local go_sem] Oper.semAt_some

theorem sealed_same {f g : Nat → Nat} {n : Nat} (h : ∀ j, j < n → f j = g j) (i : Nat) : Crc.sealed f n i = Crc.sealed g n i := by
  unfold Crc.sealed
  rw [Crc.go_congr h]
  split
  · rw [h i (by assumption)]
  · rfl
set_option maxHeartbeats 4000000 in
set_option maxRecDepth 100000 in
theorem whole_any (h : Hr) (a ba : Option Addr) (c n bc : Nat) (w : World) (hT : Tb w a h.m h.K h.L) :
    Calls Try.prog 21 #[hV h a c, .slice ba n bc] w fun e w' => BoSays (RH h ∧ n = off h.K h.L h.m) e ∧ Below w.heap.size w w' := by
  obtain ⟨w0, hw0⟩ : ∃ w0, w0 = w.alloc (.cells #[.int .i64 h.S, .int .i64 h.F, .int .i64 h.I, .int .i64 h.N, .int .i64 h.D, .slice a h.m c] 24) := ⟨_, rfl⟩
  have HX0 := Lib.hid (show HAt w0 w.heap.size h a c by rw [hw0]; exact heap_alloc_new _ _)
  have HB0 := Lib.hid (show Below w.heap.size w w0 by rw [hw0]; exact (Below.refl _ w).alloc (Nat.le_refl _) _)
  have HT := Lib.hid hT; have HW0 := Lib.hid hw0
  have HLO := Lib.hid (fun W hT => Ly.lLong_any h.N a h.m c h.K h.L W hT)
  have HRI := Lib.hid (fun W hT => phright_any h a c W hT)
  unfold hV at HRI ⊢
  clear hT hw0
  go_enter Try.func21, Try.ntmps21
  go_upto_region 1 with fail
  rw [← HW0.out]
  clear HW0
  obtain ⟨c0, c1, c2, c3, c4, c5⟩ := HX0.out.c
  go_wp2_with fail
  clear c0 c1 c2 c3 c4 c5
  refine (HRI.out w0 (HT.out.same HB0.out)).mono ?_
  rintro e w1 ⟨⟨v, rfl, hv⟩, hB1⟩
  have HX1 := Lib.hid (HX0.out.same hB1); have HB1 := Lib.hid (HB0.out.trans (hB1.mono HB0.out.size))
  have HVV := Lib.hid hv
  have hs1 := HB1.out.size
  clear hv hB1
  cases v
  · have HN := Lib.hid (show ¬ (RH h ∧ n = off h.K h.L h.m) from fun q => absurd (HVV.out.2 q.1) (by simp))
    go_wp2
    go_ret
    exact ⟨BoSays.no HN.out, HB1.out⟩
  have HR := Lib.hid (show RH h by first | exact HVV.out.1 rfl | exact HVV.out.1 trivial)
  clear HVV
  obtain ⟨c0, c1, c2, c3, c4, c5⟩ := HX1.out.c
  go_wp2_with fail
  clear c0 c1 c2 c3 c4 c5
  refine (HLO.out w1 (HT.out.same HB1.out)).mono ?_
  rintro e w2 ⟨hlo, hB2⟩
  have HB2 := Lib.hid (HB1.out.trans (hB2.mono hs1))
  clear hB2
  rcases hlo with ⟨hno, rfl⟩ | ⟨hok, m, hm2, rfl⟩
  · exact absurd HR.out.2.2.2.2 hno
  · have HM := Lib.hid hm2
    clear hok hm2
    by_cases hnm : n = m
    · have g1 : ((n : Int) == (m : Int)) = true := by simp [hnm]
      have HN := Lib.hid (show RH h ∧ n = off h.K h.L h.m from ⟨HR.out, by rw [hnm]; exact HM.out⟩)
      clear hnm
      go_wp2
      go_ret
      exact ⟨BoSays.yes HN.out, HB2.out⟩
    · have g1 : ((n : Int) == (m : Int)) = false := by simp; omega
      have HN := Lib.hid (show ¬ (RH h ∧ n = off h.K h.L h.m) from fun q => hnm (by rw [HM.out]; exact q.2))
      clear hnm
      go_wp2
      go_ret
      exact ⟨BoSays.no HN.out, HB2.out⟩
set_option maxHeartbeats 4000000 in
set_option maxRecDepth 100000 in
theorem phput_any (h : Hr) (a ba : Option Addr) (c n bc : Nat) (f : Nat → Nat) (hn : n ≤ 1000000) (w : World) (hT : Tb w a h.m h.K h.L) (hb : Sl w ba n bc f) :
    Calls Try.prog 8 #[hV h a c, .slice ba n bc] w fun e w' => PutGoes w h n f e w' ∧ Below w.heap.size w w' := by
  obtain ⟨w0, hw0⟩ : ∃ w0, w0 = w.alloc (.cells #[.int .i64 h.S, .int .i64 h.F, .int .i64 h.I, .int .i64 h.N, .int .i64 h.D, .slice a h.m c] 24) := ⟨_, rfl⟩
  have HX0 := Lib.hid (show HAt w0 w.heap.size h a c by rw [hw0]; exact heap_alloc_new _ _)
  have HB0 := Lib.hid (show Below w.heap.size w w0 by rw [hw0]; exact (Below.refl _ w).alloc (Nat.le_refl _) _)
  have HT := Lib.hid hT; have HS := Lib.hid hb; have HW0 := Lib.hid hw0; have HN := Lib.hid hn
  have HRI := Lib.hid (fun W hT => whole_any h a ba c n bc W hT)
  have HHD := Lib.hid (fun hr B p s W hB hW hT => wheader_any h hr f a c B p s W hB hW hT)
  unfold hV at HRI HHD ⊢
  clear hT hw0 hb hn
  go_enter Try.func8, Try.ntmps8
  go_upto_region 1 with fail
  rw [← HW0.out]
  clear HW0
  obtain ⟨c0, c1, c2, c3, c4, c5⟩ := HX0.out.c
  go_wp2_with fail
  clear c0 c1 c2 c3 c4 c5
  refine (HRI.out w0 (HT.out.same HB0.out)).mono ?_
  rintro e w1 ⟨⟨v, rfl, hv⟩, hB1⟩
  have HX1 := Lib.hid (HX0.out.same hB1); have HB1 := Lib.hid (HB0.out.trans (hB1.mono HB0.out.size))
  have HVV := Lib.hid hv
  clear hv hB1
  cases v
  · have HN := Lib.hid (show ¬ (RH h ∧ n = off h.K h.L h.m) from fun q => absurd (HVV.out.2 q) (by simp))
    go_wp2
    go_ret2
    exact ⟨Or.inr ⟨HN.out, rfl⟩, HB1.out⟩
  have HR := Lib.hid (show RH h ∧ n = off h.K h.L h.m by first | exact HVV.out.1 rfl | exact HVV.out.1 trivial)
  clear HVV
  go_wp2_with fail
  refine (fresh_any (pl h f) w1).mono ?_
  rintro e w2 ⟨p, s, rfl, hP2, hB2⟩
  have HX2 := Lib.hid (HX1.out.same hB2)
  have HP2 := Lib.hid (show PW w2 w.heap.size p s (pl h f) 0 from hP2.mono HB1.out.size)
  have HB2 := Lib.hid (HB1.out.trans (hB2.mono HB1.out.size))
  clear hP2 hB2
  go_upto_region 4 with fail
  obtain ⟨w3, hw3⟩ : ∃ w3, w3 = w2.alloc (.cells #[.pointer (some ⟨p, 0, none⟩)] 56) := ⟨_, rfl⟩
  rw [← hw3]
  have hb3 : Below w2.heap.size w2 w3 := by rw [hw3]; exact (Below.refl _ _).alloc (Nat.le_refl _) _
  have HQ3 := Lib.hid (show WAt w3 w2.heap.size p by rw [hw3]; exact heap_alloc_new _ _)
  have HX3 := Lib.hid (HX2.out.same hb3)
  have HP3 := Lib.hid (HP2.out.same hb3)
  have HB3 := Lib.hid (HB2.out.trans (hb3.mono HB2.out.size))
  generalize w2.heap.size = g2 at *
  clear hw3 hb3
  obtain ⟨c0, c1, c2, c3, c4, c5⟩ := HX3.out.c
  have q0 := HQ3.out.c0
  go_wp2_with fail
  clear c0 c1 c2 c3 c4 c5 q0
  refine (HHD.out HR.out.1 w.heap.size p s w3 HB3.out.size HP3.out (fun W hB => HT.out.same (HB3.out.trans hB))).mono ?_
  rintro e w4 ⟨rfl, hP4, hF4⟩
  have HQ4 := Lib.hid (hF4.wat HP3.out HQ3.out)
  have HB4 := Lib.hid (HB3.out.trans (hF4.below HB3.out.size HP3.out.lts.2))
  obtain ⟨a4, c4, S4, hW4, h04, hL4, hO4, hf4⟩ := hP4
  have HW4 := Lib.hid hW4; have H04 := Lib.hid h04; have HL4 := Lib.hid hL4; have HO4 := Lib.hid hO4; have HF4 := Lib.hid hf4
  have HM := Lib.hid (show h.m ≤ 8 from HR.out.1.2.2.2.2.2.2.2.1)
  have HSL := Lib.hid (show S4.l + n ≤ 1000000000 by rw [hL4]; have := HM.out; have := HN.out; omega)
  have q0 := HQ4.out.c0
  clear hF4 hW4 h04 hL4 hO4 hf4
  go_wp2_with fail
  clear q0
  refine (wput_any w.heap.size p s a4 c4 S4 ba n bc f HSL.out w4 HB4.out.size HW4.out (HS.out.same HB4.out)).mono ?_
  intro e w5 hwr
  obtain ⟨rfl, hP5, hF5⟩ := PW.put HW4.out H04.out HL4.out HO4.out HF4.out HS.out.bytes (fun j hj => (pl_body h f j).symm) hwr
  have HQ5 := Lib.hid (hF5.wat ⟨a4, c4, S4, HW4.out, H04.out, HL4.out, HO4.out, HF4.out⟩ HQ4.out)
  have HB5 := Lib.hid (HB4.out.trans (hF5.below HB4.out.size HW4.out.hs))
  obtain ⟨a5, c5, S5, hW5, h05, hL5, hO5, hf5⟩ := hP5
  have HW5 := Lib.hid hW5; have H05 := Lib.hid h05; have HO5 := Lib.hid hO5; have HF5 := Lib.hid hf5
  have HL5 := Lib.hid (show S5.m = 14 + 3 * h.m + n by unfold Bs.m; rw [if_pos h05, hL5])
  have HSL5 := Lib.hid (show S5.l ≤ 900000000 by rw [hL5]; have := HM.out; have := HN.out; omega)
  have q0 := HQ5.out.c0
  clear hwr hF5 hW5 h05 hL5 hO5 hf5
  go_wp2_with fail
  clear q0
  refine (wbytes_any w.heap.size p s a5 c5 S5 HO5.out HSL5.out w5 HW5.out).mono ?_
  rintro e w6 ⟨a6, c6, rfl, hN6, hB6⟩
  rw [HL5.out] at hN6
  rw [HL5.out, H05.out]
  have HS6 := Lib.hid hN6.sl
  have HB6 := Lib.hid (HB5.out.trans (hB6.mono HB5.out.size))
  clear hN6 hB6
  go_wp2_with fail
  refine (pseal_any a6 (14 + 3 * h.m + n) c6 S5.g (by have := HM.out; have := HN.out; omega) w6 HS6.out).mono ?_
  rintro e w7 ⟨g, C, rfl, hg, hC, hbl, hB7⟩
  have HBL := Lib.hid (show Bl w7 g (14 + 3 * h.m + n + 4) C (Crc.sealed (pl h f) (14 + 3 * h.m + n)) from hbl.congr fun i hi => sealed_same (fun j hj => by unfold Bs.g; rw [if_pos H05.out]; exact HF5.out j hj) i)
  have HB7 := Lib.hid (HB6.out.trans (hB7.mono HB6.out.size))
  have HG := Lib.hid (Nat.le_trans HB6.out.size hg); have HC := Lib.hid hC
  clear hg hC hbl hB7
  go_wp2
  go_ret2
  exact ⟨Or.inl ⟨HR.out.1, HR.out.2, g, C, rfl, HG.out, HC.out, HBL.out⟩, HB7.out⟩
theorem pHPut : PHPut := fun h a ba c n bc f hn _ w hT hb => phput_any h a ba c n bc f hn w hT hb
end Go.Proofs.Ytempgjollkdmnaa.He

namespace Go.Proofs.Ytempgjollkdmnaa.He
open Go.RowKit Go.Shelf
open Go.Proofs.Ytempgjollkdmnaa.Ly (TabOk RowOk off Tb tdl tdl_len tdl_at)
open Go.Proofs.Ytempgjollkdmnaa.Wg (BoSays BoSays.no BoSays.yes)
attribute [local go_sem] Oper.semAt_some

/-- the error that opening tells. -/
def oerr (n : Nat) (f : Nat → Nat) : Int := if n < 4 then 4 else if okB f (n - 4) = false then 10 else if n = 4 then 4 else if f 0 ≠ 1 then 11 else 0
theorem perr_o {n : Nat} {f : Nat → Nat} (h : oerr n f ≠ 0) : perr n f = oerr n f := by
  unfold perr oerr at *
  by_cases h1 : n < 4
  · rw [if_pos h1, if_pos h1]
  rw [if_neg h1] at h
  rw [if_neg h1, if_neg h1]
  by_cases h2 : okB f (n - 4) = false
  · rw [if_pos h2, if_pos h2]
  rw [if_neg h2] at h
  rw [if_neg h2, if_neg h2]
  by_cases h3 : n = 4
  · rw [if_pos h3, if_pos h3]
  rw [if_neg h3] at h
  rw [if_neg h3, if_neg h3]
  by_cases h4 : f 0 ≠ 1
  · rw [if_pos h4, if_pos h4]
  rw [if_neg h4] at h
  exact absurd rfl h
theorem perr_z {n : Nat} {f : Nat → Nat} (h : oerr n f = 0) : 4 ≤ n ∧ (GoodP (n - 4) f → perr n f = 0) ∧ (¬ GoodP (n - 4) f → perr n f = 4) := by
  unfold perr oerr at *
  split at h
  · cases h
  · rename_i h4
    rw [if_neg h4]
    split at h
    · cases h
    · rename_i h5
      rw [if_neg h5]
      split at h
      · cases h
      · rename_i h6
        rw [if_neg h6]
        split at h
        · cases h
        · rename_i h7
          rw [if_neg h7]
          exact ⟨by omega, fun g => if_pos g, fun g => if_neg g⟩
theorem off_congr {K L K' L' : Nat → Int} : ∀ n, (∀ i, i < n → K i = K' i ∧ L i = L' i) → off K L n = off K' L' n
  | 0, _ => rfl
  | n + 1, h => by
    unfold off
    rw [off_congr n (fun i hi => h i (by omega)), (h n (by omega)).1, (h n (by omega)).2]
theorem tdl_congr {K L K' L' : Nat → Int} : ∀ n, (∀ i, i < n → K i = K' i ∧ L i = L' i) → tdl K L n = tdl K' L' n
  | 0, _ => rfl
  | n + 1, h => by
    unfold tdl
    rw [tdl_congr n (fun i hi => h i (by omega)), (h n (by omega)).1, (h n (by omega)).2]
theorem hdrN_eq {N : Nat} {F : Nat → Nat} (h : 14 + 3 * (hdrN N F).m ≤ N) : EH (hdrN N F) (hdr F) := by
  have hm : val N F 9 1 = F 9 := val_one (by omega)
  have h' : 14 + 3 * F 9 ≤ N := by
    have e : (hdrN N F).m = val N F 9 1 := rfl
    rw [e, hm] at h; exact h
  refine ⟨⟨?_, ?_, ?_, ?_, hm, fun i hi => ?_⟩, ?_⟩
  · show ((val N F 1 2 : Nat) : Int) = _; unfold val; rw [if_pos (by omega)]; rfl
  · show ((val N F 3 4 : Nat) : Int) = _; unfold val; rw [if_pos (by omega)]; rfl
  · show ((val N F 8 1 : Nat) : Int) = _; rw [val_one (by omega)]; rfl
  · show ((val N F 10 4 : Nat) : Int) = _; unfold val; rw [if_pos (by omega)]; rfl
  · have hi : i < F 9 := by
      have e : (hdrN N F).m = val N F 9 1 := rfl
      rw [e, hm] at hi; exact hi
    constructor
    · show ((val N F (14 + 3 * i) 1 : Nat) : Int) = _; rw [val_one (by omega)]; rfl
    · show ((val N F (15 + 3 * i) 2 : Nat) : Int) = _; unfold val; rw [if_pos (by omega)]; rfl
  · show ((val N F 7 1 : Nat) : Int) = _; rw [val_one (by omega)]; rfl
theorem goodP_m {N : Nat} {F : Nat → Nat} (h : GoodP N F) : 14 + 3 * (hdrN N F).m ≤ N := by
  have h1 := h.1
  have e : (hdrN N F).m = F 9 := val_one (by omega)
  rw [e]; exact h1
theorem eh_symm {h g : Hr} (e : EH h g) : EH g h := by
  obtain ⟨⟨e1, e2, e3, e4, e5, e6⟩, e7⟩ := e
  exact ⟨⟨e1.symm, e2.symm, e3.symm, e4.symm, e5.symm, fun i hi => ⟨(e6 i (by omega)).1.symm, (e6 i (by omega)).2.symm⟩⟩, e7.symm⟩
theorem goodP_iff {N : Nat} {F : Nat → Nat} (h : 14 + 3 * (hdrN N F).m ≤ N) : GoodP N F ↔ (RH (hdrN N F) ∧ N - (14 + 3 * (hdrN N F).m) = off (hdrN N F).K (hdrN N F).L (hdrN N F).m) := by
  have he := hdrN_eq h
  have em : (hdrN N F).m = F 9 := he.1.2.2.2.2.1
  have ho := off_congr _ he.1.2.2.2.2.2
  unfold GoodP
  rw [ho, em]
  constructor
  · rintro ⟨h1, h2, h3⟩
    exact ⟨rh_congr (eh_symm he) h2, h3⟩
  · rintro ⟨h2, h3⟩
    exact ⟨by omega, rh_congr he h2, h3⟩
theorem hV_eq {h g : Hr} (e : EH h g) (a : Option Addr) (c : Nat) : hV h a c = hV g a c := by
  obtain ⟨⟨e1, e2, e3, e4, e5, _⟩, e7⟩ := e
  unfold hV
  rw [e1, e2, e3, e4, e5, e7]
section
variable {w w' : World} {B H p s N k : Nat} {F : Nat → Nat}
theorem RS.monoB {B' : Nat} (h : RS w B H p s N F k) (hB : B' ≤ B) : RS w B' H p s N F k := by
  obtain ⟨a, c, S, h1, h2⟩ := h
  exact ⟨a, c, S, ⟨h1.box, h1.stk, Nat.le_trans hB h1.hp, Nat.le_trans hB h1.hs, fun ad e => ⟨Nat.le_trans hB (h1.ha ad e).1, (h1.ha ad e).2⟩⟩, h2⟩
theorem RS.bs (h : RS w B H p s N F k) : B ≤ s := by
  obtain ⟨a, c, S, h1, h2⟩ := h
  exact h1.hs
theorem RS.lts (h : RS w B H p s N F k) : s < w.heap.size := by
  obtain ⟨a, c, S, h1, h2⟩ := h
  exact h1.lts
end
theorem but2_below {s B : Nat} {w w' : World} (h : But2 s s w w') (h0 : B ≤ w.heap.size) (h1 : B ≤ s) : Below B w w' := h.below h0 h1 h1
set_option maxHeartbeats 4000000 in
set_option maxRecDepth 100000 in
theorem phopen_any (a : Option Addr) (n c : Nat) (f : Nat → Nat) (hn : n ≤ 1000000) (w : World) (hS : Sl w a n c f) :
    Calls Try.prog 16 #[.slice a n c] w fun e w' => ((oerr n f ≠ 0 ∧ e = .returned (.tuple #[.pointer none, .int .i64 (oerr n f)])) ∨ (oerr n f = 0 ∧ ∃ p s, e = .returned (.tuple #[.pointer (some ⟨p, 0, none⟩), .int .i64 0]) ∧ RS w' w.heap.size w'.heap.size p s (n - 4) f 1)) ∧ Below w.heap.size w w' := by
  have HO := Lib.hid (popen_any a n c f (by omega) w hS)
  have HN := Lib.hid hn; have HBY := Lib.hid hS.bytes
  clear hS hn
  obtain ⟨oe, hoe⟩ : ∃ oe, oe = oerr n f := ⟨_, rfl⟩
  rw [← hoe]
  have HOE := Lib.hid hoe
  clear hoe
  go_enter Try.func16, Try.ntmps16
  go_wp2_with fail
  refine HO.out.mono ?_
  rintro e w1 (⟨h4, rfl, hB⟩ | ⟨h4, hok, rfl, hB⟩ | ⟨h4, hok, b, cap, rfl, hN, hB⟩)
  · obtain rfl : oe = 4 := by rw [HOE.out]; unfold oerr; rw [if_pos h4]
    have HB := Lib.hid hB
    clear h4 hB
    go_wp2
    go_ret2
    exact ⟨Or.inl ⟨by decide, rfl⟩, HB.out⟩
  · obtain rfl : oe = 10 := by rw [HOE.out]; unfold oerr; rw [if_neg (by omega), if_pos hok]
    have HB := Lib.hid hB
    clear h4 hok hB
    go_wp2
    go_ret2
    exact ⟨Or.inl ⟨by decide, rfl⟩, HB.out⟩
  have HB := Lib.hid hB; have HNW := Lib.hid hN; have HS1 := Lib.hid hN.sl
  have HE := Lib.hid (show oe = if n = 4 then 4 else if f 0 ≠ 1 then 11 else 0 by rw [HOE.out]; unfold oerr; rw [if_neg (by omega), if_neg (by rw [hok]; decide)])
  obtain ⟨N, hNN⟩ : ∃ N, N = n - 4 := ⟨_, rfl⟩
  rw [← hNN] at HS1 ⊢
  have H4 := Lib.hid (show n = N + 4 by omega)
  clear hB hN h4 hok HOE HO HNW hNN
  go_wp2_with fail
  refine (rover_any b N cap (sub f 0 N) (by have := HN.out; have := H4.out; omega) w1 HS1.out).mono ?_
  rintro e w2 ⟨p, s, a', c', rfl, hR, hB2⟩
  have HR := Lib.hid hR
  have HB2 := Lib.hid (HB.out.trans (hB2.mono HB.out.size))
  clear hR hB2
  go_wp2_with fail
  refine (rleft_any w1.heap.size p s a' c' ⟨N, sub f 0 N, 0⟩ w2 HR.out).mono ?_
  rintro e w3 ⟨rfl, rfl⟩
  rw [show Bs.m ⟨N, sub f 0 N, 0⟩ = N from if_pos rfl]
  by_cases hz : N = 0
  · have g1 : ((N : Int) == 0) = true := by simp [hz]
    obtain rfl : oe = 4 := by rw [HE.out, if_pos (by have := H4.out; omega)]
    clear hz
    go_wp2
    go_ret2
    exact ⟨Or.inl ⟨by decide, rfl⟩, HB2.out⟩
  have g1 : ((N : Int) == 0) = false := by simp [hz]
  have HZ := Lib.hid (show 1 ≤ N by omega)
  have HRS := Lib.hid (show RS w3 w.heap.size w3.heap.size p s N f 0 from RS.monoB ⟨a', c', _, HR.out, ⟨HS1.out.bytes, HS1.out.up⟩, ⟨HR.out.box.lt, HR.out.lts, fun ad e => (HR.out.ha ad e).2.1⟩, by have := HN.out; have := H4.out; show N ≤ _; omega, Or.inl ⟨rfl, Nat.zero_le _, rfl, fun j hj => by show sub f 0 N j = _; unfold sub; rw [if_pos (by omega)]⟩⟩ HB.out.size)
  clear hz HR
  go_wp2_with fail
  refine (rnumber_at 1 (by decide) (by decide) w3 HRS.out).mono ?_
  rintro e w4 ⟨rfl, hr4, hb4⟩
  rw [val_one (by have := HZ.out; omega)]
  have HR4 := Lib.hid (show RS w4 w.heap.size w4.heap.size p s N f 1 from hr4.top)
  have HB4 := Lib.hid (HB2.out.trans (but2_below hb4 HB2.out.size HRS.out.bs))
  have HNE := Lib.hid (show ¬ n = 4 by have := HZ.out; have := H4.out; omega)
  clear hr4 hb4 g1
  obtain ⟨x, hx⟩ : ∃ x, x = f 0 := ⟨_, rfl⟩
  rw [← hx]
  by_cases h1 : x = 1
  · have g1 : ((x : Int) != 1) = false := by simp [h1]
    have HO0 := Lib.hid (show oe = 0 by rw [HE.out, if_neg HNE.out, if_neg (by rw [← hx, h1]; decide)])
    clear hx h1
    go_wp2
    go_ret2
    exact ⟨Or.inr ⟨HO0.out, p, s, rfl, by rw [show n - 4 = N by have := H4.out; omega]; exact HR4.out⟩, HB4.out⟩
  · have g1 : ((x : Int) != 1) = true := by simp; omega
    obtain rfl : oe = 11 := by rw [HE.out, if_neg HNE.out, if_pos (by rw [← hx]; exact h1)]
    clear hx h1
    go_wp2
    go_ret2
    exact ⟨Or.inl ⟨by decide, rfl⟩, HB4.out⟩
theorem results_head3 {fn : Func} {p q r : Tmp} (h : fn.results = #[.cell p 24, .tmp q, .tmp r]) (tmps : Array Value) (w : World) (g : Nat) (x : Hr) (a : Option Addr) (c : Nat)
    (hp : tmps.getD p undef = .pointer (some ⟨g, 0, none⟩)) (hg : HAt w g x a c) : (results fn tmps).run Try.prog w = .ok (.tuple #[hV x a c, tmps.getD q undef, tmps.getD r undef]) w := by
  have hp' : tmps[p]?.getD undef = .pointer (some ⟨g, 0, none⟩) := by simpa using hp
  have hr := run_loadVar_row (P := Try.prog) w g _ _ #[.int .i64 x.S, .int .i64 x.F, .int .i64 x.I, .int .i64 x.N, .int .i64 x.D, .slice a x.m c] (0, 0) _ hg Try.underlying24 rfl (by kernel_rfl)
  simp [results, h, hp', asAddr, hr, hV]
/-- what is left, when it is taken. -/
theorem rest_of_bs {S : Bs} {N k : Nat} {F : Nat → Nat} (hc : (S.e = 0 ∧ k ≤ N ∧ S.l = N - k ∧ ∀ j, j < N - k → S.f j = F (k + j)) ∨ (S.e = 4 ∧ N < k)) :
    S.tm (S.m : Nat) = N - k ∧ S.tf (S.m : Nat) = (fun j => if j < N - k then F (k + j) else 0) ∧ (S.take (S.m : Nat)).fin = if k ≤ N then 0 else 4 := by
  rcases hc with ⟨he, hk, hl, hf⟩ | ⟨he, hk⟩
  · have hm : S.m = N - k := by unfold Bs.m; rw [if_pos he, hl]
    rw [hm]
    refine ⟨?_, funext fun j => ?_, ?_⟩
    · unfold Bs.tm; rw [if_pos ⟨he, by omega, by omega⟩, Int.toNat_natCast]
    · unfold Bs.tf
      rw [if_pos ⟨he, by omega, by omega⟩, Int.toNat_natCast]
      unfold sub
      split
      · rw [Nat.zero_add, hf j (by assumption)]
      · rfl
    · unfold Bs.take
      rw [if_neg (by simp [he]), if_neg (by omega), if_neg (by omega), if_pos hk, Int.toNat_natCast]
      unfold Bs.fin Bs.cut
      rw [if_neg (by simp [he]), if_neg (by show ¬ 0 < S.l - (N - k); omega)]
  · have hm : S.m = 0 := by unfold Bs.m; rw [if_neg (by rw [he]; decide)]
    rw [hm]
    refine ⟨?_, funext fun j => ?_, ?_⟩
    · unfold Bs.tm; rw [if_neg (by rw [he]; omega)]; omega
    · unfold Bs.tf; rw [if_neg (by rw [he]; omega), if_neg (by omega)]
    · unfold Bs.take
      rw [if_pos (by rw [he]; decide), if_neg (by omega)]
      unfold Bs.fin
      rw [if_pos (by rw [he]; decide), he]
end Go.Proofs.Ytempgjollkdmnaa.He

namespace Go.Proofs.Ytempgjollkdmnaa.He
open Go.RowKit Go.Shelf
open Go.Proofs.Ytempgjollkdmnaa.Ly (TabOk RowOk off Tb tdl tdl_len tdl_at tdl_tb)
open Go.Proofs.Ytempgjollkdmnaa.Wg (BoSays BoSays.no BoSays.yes)
attribute [local go_sem] Oper.semAt_some

/-- a header that is stored whole. -/
theorem set_head {W : World} {g : Nat} {vs : Array Value} (h : Hr) (a : Option Addr) (c : Nat) (hg : W.heap[g]? = some (.cells vs 24 (0, 0))) :
    HAt (W.setRow g #[.int .i64 h.S, .int .i64 h.F, .int .i64 h.I, .int .i64 h.N, .int .i64 h.D, .slice a h.m c]) g h a c ∧ ∀ B, B ≤ g → Below B W (W.setRow g #[.int .i64 h.S, .int .i64 h.F, .int .i64 h.I, .int .i64 h.N, .int .i64 h.D, .slice a h.m c]) :=
  ⟨setRow_heap _ _ _ _ _ _ hg, fun B hB => ⟨rfl, rfl, rfl, by simp, fun k hk => setRow_other W g k _ (by omega)⟩⟩
set_option maxHeartbeats 4000000 in
set_option maxRecDepth 100000 in
theorem phparse_any (a : Option Addr) (n c : Nat) (f : Nat → Nat) (hn : n ≤ 1000000) (w : World) (hS : Sl w a n c f) :
    Calls Try.prog 6 #[.slice a n c] w fun e w' => ParSays w n f e w' ∧ Below w.heap.size w w' := by
  obtain ⟨w0, hw0⟩ : ∃ w0, w0 = w.alloc (.cells #[.int .i64 0, .int .i64 0, .int .i64 0, .int .i64 0, .int .i64 0, .slice none 0 0] 24) := ⟨_, rfl⟩
  have HX0 := Lib.hid (show HAt w0 w.heap.size hz none 0 by rw [hw0]; exact heap_alloc_new _ _)
  have hB0 : Below w.heap.size w w0 := by rw [hw0]; exact (Below.refl _ w).alloc (Nat.le_refl _) _
  have HB0 := Lib.hid hB0
  have HZ0 := Lib.hid (show w0.heap.size = w.heap.size + 1 by rw [hw0, World.size_alloc])
  have HO := Lib.hid (phopen_any a n c f hn w0 (hS.same hB0))
  have HW := Lib.hid hw0; have HBY := Lib.hid hS.bytes; have HN := Lib.hid hn
  clear hw0 hB0 hS hn
  obtain ⟨wg, hwg⟩ : ∃ wg, wg = w.heap.size := ⟨_, rfl⟩
  rw [← hwg] at HX0 HZ0
  have HWG := Lib.hid hwg
  go_enter Try.func6, Try.ntmps6
  go_upto_region 1 with fail
  rw [← HW.out, ← hwg]
  clear hwg HW
  go_wp2_with fail
  refine HO.out.mono ?_
  rintro e w1 ⟨hc, hB1⟩
  have HB1 := Lib.hid (HB0.out.trans (hB1.mono HB0.out.size))
  have HX1 := Lib.hid (HX0.out.same hB1)
  have HWL := Lib.hid (show w.heap.size < w1.heap.size by have := HZ0.out; have := hB1.size; have := HWG.out; omega)
  clear hB1 HB0 HO
  rcases hc with ⟨h0, rfl⟩ | ⟨h0, p, s, rfl, hR⟩
  · have HP := Lib.hid (perr_o h0)
    have HP0 := Lib.hid h0
    obtain ⟨er, her⟩ : ∃ er, er = oerr n f := ⟨_, rfl⟩
    rw [← her] at HP HP0 ⊢
    have g1 : (er != 0) = true := by simpa using HP0.out
    clear h0 her
    have HRW := Lib.hid (show w1.heap[wg]? = some (.cells #[.int .i64 0, .int .i64 0, .int .i64 0, .int .i64 0, .int .i64 0, .slice none 0 0] 24 (0, 0)) from HX1.out)
    go_wp2_with (show wpList _ _ _ (⟨none, _, _, _, _, _⟩ :: _) _ _; refine wpList_store_row rfl 24 _ _ rfl wg #[.int .i64 0, .int .i64 0, .int .i64 0, .int .i64 0, .int .i64 0, .slice none 0 0] rfl rfl 24 _ HRW.out (by kernel_rfl) rfl (by simp [Value.oneCell']) ?_)
    have hzz := set_head hz none 0 HRW.out
    exact bodyPost_ret (results_head3 rfl _ _ wg hz none 0 rfl hzz.1) rfl ⟨Or.inl ⟨by rw [HP.out]; exact HP0.out, by rw [HP.out]; rfl⟩, HB1.out.trans (hzz.2 _ (by have := HWG.out; omega))⟩
  · obtain ⟨hn4, hgood, hbad⟩ := perr_z h0
    have HGOOD := Lib.hid hgood; have HBAD := Lib.hid hbad
    obtain ⟨N, hNN⟩ : ∃ N, N = n - 4 := ⟨_, rfl⟩
    rw [← hNN] at hR HGOOD HBAD
    have HNN := Lib.hid (show n = N + 4 by omega)
    have HSZ := Lib.hid (show wg + 1 = w0.heap.size from HZ0.out.symm)
    have HR := Lib.hid hR
    have HS1 := Lib.hid (show w.heap.size ≤ s by have := hR.bs; have := HZ0.out; have := HWG.out; omega)
    clear h0 hn4 hgood hbad hNN hR
    have hh := pheader_any N f HBY.out w0.heap.size p s w1 HR.out
    obtain ⟨H, hH⟩ : ∃ H, H = hdrN N f := ⟨_, rfl⟩
    rw [← hH] at hh
    have HH := Lib.hid hH
    have HHH := Lib.hid hh
    unfold hV at HHH
    clear hh hH
    go_wp2_with fail
    refine HHH.out.mono ?_
    rintro e w2 ⟨G, rfl, hG, hw, hr, hb⟩
    have HX2 := Lib.hid (show HAt w2 wg hz none 0 from HX1.out.but hb (by have := HS1.out; have := HSZ.out; have := HR.out.bs; omega))
    have HRW := Lib.hid (show w2.heap[wg]? = some (.cells #[.int .i64 0, .int .i64 0, .int .i64 0, .int .i64 0, .int .i64 0, .slice none 0 0] 24 (0, 0)) from HX2.out)
    have HB2 := Lib.hid (HB1.out.trans (but2_below hb HB1.out.size HS1.out))
    have HW2 := Lib.hid hw; have HR2 := Lib.hid hr.top
    have HG := Lib.hid (show wg < G by have := HWG.out; have := HWL.out; omega)
    have HGS := Lib.hid (show s < G by have := HR.out.ltS; omega)
    clear hG hw hr hb HHH
    go_wp2_with (show wpList _ _ _ (⟨none, _, _, _, _, _⟩ :: _) _ _; refine wpList_store_row rfl 24 _ _ rfl wg #[.int .i64 H.S, .int .i64 H.F, .int .i64 H.I, .int .i64 H.N, .int .i64 H.D, .slice (some ⟨G, 0, none⟩) H.m H.m] rfl rfl 24 _ HRW.out (by kernel_rfl) rfl (by simp [Value.oneCell']) ?_)
    have hset := set_head H (some ⟨G, 0, none⟩) H.m HRW.out
    obtain ⟨w3, hw3⟩ : ∃ w3, w3 = w2.setRow wg #[.int .i64 H.S, .int .i64 H.F, .int .i64 H.I, .int .i64 H.N, .int .i64 H.D, .slice (some ⟨G, 0, none⟩) H.m H.m] := ⟨_, rfl⟩
    rw [← hw3] at hset ⊢
    have hne : ∀ j, j ≠ wg → w3.heap[j]? = w2.heap[j]? := fun j hj => by rw [hw3]; exact setRow_other w2 wg j _ hj
    have hz3 : w3.heap.size = w2.heap.size := by rw [hw3]; simp
    have HX3 := Lib.hid hset.1
    have HB3 := Lib.hid (HB2.out.trans (hset.2 w.heap.size (by have := HWG.out; omega)))
    have HW3 := Lib.hid (HW2.out.kept (hne G (by have := HG.out; omega)))
    have HR3 := Lib.hid (show ∃ a c S, Rr w3 w0.heap.size p s a c S ∧ S.Ok ∧ S.l ≤ 900000000 ∧ ((S.e = 0 ∧ 14 + 3 * H.m ≤ N ∧ S.l = N - (14 + 3 * H.m) ∧ ∀ j, j < N - (14 + 3 * H.m) → S.f j = f (14 + 3 * H.m + j)) ∨ (S.e = 4 ∧ N < 14 + 3 * H.m)) from by
      obtain ⟨a, c, S, q1, q2, q3, q4⟩ := HR2.out
      have q0 := HSZ.out
      exact ⟨a, c, S, q1.kept (by omega) (hne p (by have := q1.hp; omega)) (hne s (by have := q1.hs; omega)) (fun ad e => hne _ (by have := (q1.ha ad e).1; omega)), q2, q4⟩)
    clear hset hw3 hne hz3 HX2 HB2 HW2 HR2 HRW HR HB1 HX1
    obtain ⟨ra, rc, S, hRr, hO, hSl, hc⟩ := HR3.out
    obtain ⟨htm, htf, hfin⟩ := rest_of_bs hc
    have HRR := Lib.hid hRr; have HO := Lib.hid hO; have HSL := Lib.hid hSl; have HTM := Lib.hid htm; have HTF := Lib.hid htf; have HFI := Lib.hid hfin
    clear HR3 hRr hO hSl hc htm htf hfin
    refine (rleft_any w0.heap.size p s ra rc S w3 HRR.out).mono ?_
    rintro e w4 ⟨rfl, rfl⟩
    obtain ⟨M, hM⟩ : ∃ M, M = S.m := ⟨_, rfl⟩
    rw [← hM] at HTM HTF HFI ⊢
    clear hM
    go_wp2_with fail
    refine (rtake_any w0.heap.size p s ra rc S (M : Nat) HO.out HSL.out w4 HRR.out).mono ?_
    rintro e w5 ⟨ba, bc, rfl, hN5, ⟨⟨ra5, rc5, hR5, _⟩, hb5⟩⟩
    rw [HTM.out, HTF.out] at hN5
    rw [HTM.out]
    have HX5 := Lib.hid (HX3.out.but hb5 (by have := HS1.out; have := HSZ.out; have := HRR.out.hs; omega))
    have HW5 := Lib.hid (HW3.out.kept (but2_kept hb5 HW3.out.lt (fun e => by have := HGS.out; omega)))
    have HB5 := Lib.hid (HB3.out.trans (but2_below hb5 HB3.out.size HS1.out))
    have HN5 := Lib.hid (hN5.mono (show wg + 1 ≤ w4.heap.size from HX3.out.lt))
    have HR5 := Lib.hid hR5
    clear hN5 hR5 hb5
    go_wp2_with fail
    refine (rend_any w0.heap.size p s ra5 rc5 _ w5 HR5.out).mono ?_
    rintro e w6 ⟨rfl, rfl⟩
    rw [HFI.out]
    by_cases hk : 14 + 3 * H.m ≤ N
    rotate_left
    · rw [if_neg hk]
      have HP := Lib.hid (HBAD.out (fun g => hk (by rw [HH.out]; exact goodP_m g)))
      have HRW := Lib.hid (show w6.heap[wg]? = some (.cells #[.int .i64 H.S, .int .i64 H.F, .int .i64 H.I, .int .i64 H.N, .int .i64 H.D, .slice (some ⟨G, 0, none⟩) H.m H.m] 24 (0, 0)) from HX5.out)
      clear hk
      go_wp2_with (show wpList _ _ _ (⟨none, _, _, _, _, _⟩ :: _) _ _; refine wpList_store_row rfl 24 _ _ rfl wg #[.int .i64 0, .int .i64 0, .int .i64 0, .int .i64 0, .int .i64 0, .slice none 0 0] rfl rfl 24 _ HRW.out (by kernel_rfl) rfl (by simp [Value.oneCell']) ?_)
      have hzz := set_head hz none 0 HRW.out
      exact bodyPost_ret (results_head3 rfl _ _ wg hz none 0 rfl hzz.1) rfl ⟨Or.inl ⟨by rw [HP.out]; decide, by rw [HP.out]; rfl⟩, HB5.out.trans (hzz.2 _ (by have := HWG.out; omega))⟩
    rw [if_pos hk]
    have HK := Lib.hid hk
    clear hk
    have HT := Lib.hid (HW5.out.tb)
    have HWH := Lib.hid (whole_any H (some ⟨G, 0, none⟩) ba H.m (N - (14 + 3 * H.m)) bc w6 HT.out)
    unfold hV at HWH
    obtain ⟨c0, c1, c2, c3, c4, c5⟩ := HX5.out.c
    go_wp2_with fail
    clear c0 c1 c2 c3 c4 c5
    refine HWH.out.mono ?_
    rintro e w7 ⟨⟨v, rfl, hv⟩, hB7⟩
    have HV := Lib.hid (show v = true ↔ GoodP N f by rw [hv, HH.out]; exact (goodP_iff (by rw [← HH.out]; exact HK.out)).symm)
    have HX7 := Lib.hid (HX5.out.same hB7)
    have HB7 := Lib.hid (HB5.out.trans (hB7.mono HB5.out.size))
    have HW7 := Lib.hid (HW5.out.kept (hB7.block G HW5.out.lt))
    have HN7 := Lib.hid (HN5.out.below hB7)
    have HRW := Lib.hid (show w7.heap[wg]? = some (.cells #[.int .i64 H.S, .int .i64 H.F, .int .i64 H.I, .int .i64 H.N, .int .i64 H.D, .slice (some ⟨G, 0, none⟩) H.m H.m] 24 (0, 0)) from HX7.out)
    clear hv hB7 HWH
    cases v
    · have HP := Lib.hid (HBAD.out (fun g => absurd (HV.out.2 g) (by simp)))
      go_wp2_with (show wpList _ _ _ (⟨none, _, _, _, _, _⟩ :: _) _ _; refine wpList_store_row rfl 24 _ _ rfl wg #[.int .i64 0, .int .i64 0, .int .i64 0, .int .i64 0, .int .i64 0, .slice none 0 0] rfl rfl 24 _ HRW.out (by kernel_rfl) rfl (by simp [Value.oneCell']) ?_)
      have hzz := set_head hz none 0 HRW.out
      exact bodyPost_ret (results_head3 rfl _ _ wg hz none 0 rfl hzz.1) rfl ⟨Or.inl ⟨by rw [HP.out]; decide, by rw [HP.out]; rfl⟩, HB7.out.trans (hzz.2 _ (by have := HWG.out; omega))⟩
    · have HGP := Lib.hid (show GoodP N f by first | exact HV.out.1 rfl | exact HV.out.1 trivial)
      have HP := Lib.hid (HGOOD.out HGP.out)
      obtain ⟨c0, c1, c2, c3, c4, c5⟩ := HX7.out.c
      go_wp2_with (show wpList _ _ _ (⟨none, _, _, _, _, _⟩ :: _) _ _; refine wpList_store_row rfl 24 _ _ rfl wg #[.int .i64 H.S, .int .i64 H.F, .int .i64 H.I, .int .i64 H.N, .int .i64 H.D, .slice (some ⟨G, 0, none⟩) H.m H.m] rfl rfl 24 _ HRW.out (by kernel_rfl) rfl (by simp [Value.oneCell']) ?_)
      have hzz := set_head H (some ⟨G, 0, none⟩) H.m HRW.out
      have hbz := hzz.2 w.heap.size (by have := HWG.out; omega)
      have he : EH H (hdr f) := by
        have := hdrN_eq (N := N) (F := f) (by rw [← HH.out]; exact HK.out)
        rw [← HH.out] at this; exact this
      have em : H.m = f 9 := he.1.2.2.2.2.1
      refine bodyPost_ret (results_head3 rfl _ _ wg H (some ⟨G, 0, none⟩) H.m rfl hzz.1) rfl ⟨Or.inr ⟨HP.out, some ⟨G, 0, none⟩, H.m, ba, bc, ?_, ?_, ?_⟩, HB7.out.trans hbz⟩
      · rw [hV_eq he, show n - 4 = N by have := HNN.out; omega, ← em]; rfl
      · have ho := (HW7.out.kept (w' := w7.setRow wg #[.int .i64 H.S, .int .i64 H.F, .int .i64 H.I, .int .i64 H.N, .int .i64 H.D, .slice (some ⟨G, 0, none⟩) H.m H.m]) (setRow_other w7 wg G _ (by have := HG.out; omega))).own (B := w.heap.size) (by have := HG.out; have := HWG.out; omega) (by have := HGP.out.2.1.2.2.2.2.2.2.2.1; rw [em]; show f 9 ≤ _; have e : (hdr f).m = f 9 := rfl; omega)
        rw [tdl_congr _ he.1.2.2.2.2.2, em] at ho
        rw [em]; exact ho
      · rw [show n - 4 = N by have := HNN.out; omega, ← em]
        refine Nw.mono (B := wg + 1) ?_ (by have := HWG.out; omega)
        refine (HN7.out.grown (w' := w7.setRow wg #[.int .i64 H.S, .int .i64 H.F, .int .i64 H.I, .int .i64 H.N, .int .i64 H.D, .slice (some ⟨G, 0, none⟩) H.m H.m]) (row := some wg) ⟨rfl, rfl, rfl, by simp, fun k _ hk => setRow_other w7 wg k _ (fun e => hk (by rw [e]))⟩ (fun g e q => ?_))
        rcases HN7.out.ow with ⟨e0, _⟩ | ⟨g', vs, e0, hg', _⟩
        · rw [e0] at e; cases e
        · rw [e0] at e; cases e; cases q; omega
theorem pHParse : PHParse := fun a n c f hn w hS => phparse_any a n c f hn w hS
end Go.Proofs.Ytempgjollkdmnaa.He

namespace Go.Proofs.Ytempgjollkdmnaa.He
open Go.RowKit Go.Shelf
open Go.Proofs.Ytempgjollkdmnaa.Ly (TabOk RowOk off off_le widI Tb tdl tdl_len tdl_at tdl_tb)
open Go.Proofs.Ytempgjollkdmnaa.Wg (BoSays BoSays.no BoSays.yes)
attribute [local go_sem] Oper.semAt_some

theorem hdr_congr {f g : Nat → Nat} {M : Nat} (h : ∀ i, i < 14 + 3 * M → f i = g i) (hm : g 9 = M) : EH (hdr f) (hdr g) := by
  have e9 : f 9 = g 9 := h 9 (by omega)
  refine ⟨⟨?_, ?_, ?_, ?_, e9, fun i hi => ?_⟩, ?_⟩
  · show ((vn (fun j => f (1 + j)) 2 : Nat) : Int) = (vn (fun j => g (1 + j)) 2 : Nat)
    rw [vn_congr 2 fun j hj => h (1 + j) (by omega)]
  · show ((vn (fun j => f (3 + j)) 4 : Nat) : Int) = (vn (fun j => g (3 + j)) 4 : Nat)
    rw [vn_congr 4 fun j hj => h (3 + j) (by omega)]
  · show ((f 8 : Nat) : Int) = (g 8 : Nat)
    rw [h 8 (by omega)]
  · show ((vn (fun j => f (10 + j)) 4 : Nat) : Int) = (vn (fun j => g (10 + j)) 4 : Nat)
    rw [vn_congr 4 fun j hj => h (10 + j) (by omega)]
  · have hi : i < f 9 := hi
    constructor
    · show ((f (14 + 3 * i) : Nat) : Int) = (g (14 + 3 * i) : Nat)
      rw [h (14 + 3 * i) (by omega)]
    · show ((vn (fun j => f (15 + 3 * i + j)) 2 : Nat) : Int) = (vn (fun j => g (15 + 3 * i + j)) 2 : Nat)
      rw [vn_congr 2 fun j hj => h (15 + 3 * i + j) (by omega)]
  · show ((f 7 : Nat) : Int) = (g 7 : Nat)
    rw [h 7 (by omega)]
theorem eh_trans {h g k : Hr} (e : EH h g) (d : EH g k) : EH h k := by
  obtain ⟨⟨e1, e2, e3, e4, e5, e6⟩, e7⟩ := e
  obtain ⟨⟨d1, d2, d3, d4, d5, d6⟩, d7⟩ := d
  exact ⟨⟨e1.trans d1, e2.trans d2, e3.trans d3, e4.trans d4, e5.trans d5, fun i hi => ⟨(e6 i hi).1.trans (d6 i (by omega)).1, (e6 i hi).2.trans (d6 i (by omega)).2⟩⟩, e7.trans d7⟩
/-- what is put is a datagram. -/
theorem put_good {h : Hr} (hr : RH h) {n : Nat} (hn : n = off h.K h.L h.m) (body : Nat → Nat) :
    EH (hdr (Crc.sealed (pl h body) (14 + 3 * h.m + n))) h ∧ Crc.sealed (pl h body) (14 + 3 * h.m + n) 9 = h.m ∧ GoodP (14 + 3 * h.m + n) (Crc.sealed (pl h body) (14 + 3 * h.m + n)) ∧ (∀ j, j < n → Crc.sealed (pl h body) (14 + 3 * h.m + n) (14 + 3 * h.m + j) = body j) ∧ perr (14 + 3 * h.m + n + 4) (Crc.sealed (pl h body) (14 + 3 * h.m + n)) = 0 := by
  have hm8 : h.m ≤ 8 := hr.2.2.2.2.2.2.2.1
  have hp9 : pl h body 9 = h.m := by
    show h.m % 256 = _; omega
  have hlo : ∀ i, i < 14 + 3 * h.m + n → Crc.sealed (pl h body) (14 + 3 * h.m + n) i = pl h body i := fun i hi => Crc.sealed_lo hi
  have h9 : Crc.sealed (pl h body) (14 + 3 * h.m + n) 9 = h.m := by rw [hlo 9 (by omega), hp9]
  have he : EH (hdr (Crc.sealed (pl h body) (14 + 3 * h.m + n))) h := eh_trans (hdr_congr (M := h.m) (fun i hi => hlo i (by omega)) hp9) (hdr_pl hr body)
  have hg : GoodP (14 + 3 * h.m + n) (Crc.sealed (pl h body) (14 + 3 * h.m + n)) := by
    refine ⟨by rw [h9]; omega, rh_congr (eh_symm he) hr, ?_⟩
    rw [h9, off_congr h.m (fun i hi => he.1.2.2.2.2.2 i (by rw [he.1.2.2.2.2.1]; exact hi)), ← hn]
    omega
  refine ⟨he, h9, hg, fun j hj => ?_, ?_⟩
  · rw [hlo _ (by omega), pl_body]
  · unfold perr
    rw [if_neg (by omega), Nat.add_sub_cancel]
    have hok : okB (Crc.sealed (pl h body) (14 + 3 * h.m + n)) (14 + 3 * h.m + n) = true := sealed_ok _
    rw [hok, if_neg (by decide), if_neg (by omega), if_neg (by rw [hlo 0 (by omega)]; exact fun q => q rfl), if_pos hg]
theorem ParSays.put {w w' : World} {h : Hr} (hr : RH h) {n : Nat} (hn : n = off h.K h.L h.m) {body : Nat → Nat} {e : Ending} (hp : ParSays w (14 + 3 * h.m + n + 4) (Crc.sealed (pl h body) (14 + 3 * h.m + n)) e w') :
    ∃ a c ba bc, e = .returned (.tuple #[hV h a c, .slice ba n bc, .int .i64 0]) ∧ w'.ownsRow w.heap.size 42 2 (.slice a h.m c) h.m (tdl h.K h.L h.m) ∧ Nw w' w.heap.size ba n bc (fun j => if j < n then body j else 0) := by
  obtain ⟨he, h9, hg, hbody, hpe⟩ := put_good hr hn body
  rcases hp with ⟨h0, _⟩ | ⟨_, a, c, ba, bc, he2, ho, hN⟩
  · exact absurd hpe h0
  · have e2 : 14 + 3 * h.m + n + 4 - 4 - (14 + 3 * h.m) = n := by omega
    rw [h9, e2] at hN
    rw [h9, e2, hV_eq he] at he2
    rw [h9, tdl_congr h.m (fun i hi => he.1.2.2.2.2.2 i (by rw [he.1.2.2.2.2.1]; exact hi))] at ho
    refine ⟨a, c, ba, bc, he2, ho, ?_⟩
    have e3 : (fun j => if j < n then Crc.sealed (pl h body) (14 + 3 * h.m + n) (14 + 3 * h.m + j) else 0) = fun j => if j < n then body j else 0 := funext fun j => by
      split
      · exact hbody j (by assumption)
      · rfl
    rw [e3] at hN; exact hN
/-- the chapter's example. -/
def h0 : Hr := ⟨1, 2, 0, 1, 3, 1, fun _ => 1, fun _ => 1⟩
theorem h0_wid : off h0.K h0.L h0.m = 1 := by decide
theorem h0_right : RH h0 := by
  unfold RH TabOk RowOk h0
  refine ⟨by decide, by decide, by decide, by decide, by decide, by decide, by decide, by decide, fun i hi => ?_⟩
  exact ⟨by show (1 : Int) ≤ 1; decide, by show (1 : Int) ≤ 1; decide, by show (0 : Int) ≤ 1; decide, by show (1 : Int) ≤ 65535; decide, fun _ => by show (1 : Int) ≤ 1; decide⟩
def lit18 : List Nat := [1, 0, 1, 0, 0, 0, 2, 0, 1, 1, 0, 0, 0, 3, 1, 0, 1, 7]
theorem h0_bytes : sub (Crc.sealed (pl h0 (fun i => [7].getD i 0)) 18) 0 18 = fun i => lit18.getD i 0 := funext fun i => by
  by_cases hi : i < 18
  · unfold sub
    rw [if_pos hi, Nat.zero_add, Crc.sealed_lo hi]
    revert hi
    revert i
    decide
  · unfold sub
    rw [if_neg hi, List.getD_eq_getElem?_getD, List.getElem?_eq_none (by show 18 ≤ i; omega)]
    rfl
set_option maxHeartbeats 4000000 in
set_option maxRecDepth 100000 in
theorem awake14_any (w : World) :
    Calls Try.prog 5 #[] w fun e w' => e = .returned (.bool true) ∧ Below w.heap.size w w' := by
  obtain ⟨w1, hw1⟩ : ∃ w1, w1 = w.alloc (.cells #[.int .i64 1, .int .i64 1] 42) := ⟨_, rfl⟩
  obtain ⟨w2, hw2⟩ : ∃ w2, w2 = w1.alloc (.cells #[.int .i64 1, .int .i64 2, .int .i64 0, .int .i64 1, .int .i64 3, .slice (some ⟨w.heap.size, 0, none⟩) 1 1] 24) := ⟨_, rfl⟩
  have hz1 : w1.heap.size = w.heap.size + 1 := by rw [hw1, World.size_alloc]
  have hb1 : Below w.heap.size w w1 := by rw [hw1]; exact (Below.refl _ w).alloc (Nat.le_refl _) _
  have hb2 : Below w1.heap.size w1 w2 := by rw [hw2]; exact (Below.refl _ w1).alloc (Nat.le_refl _) _
  have hr1 : w1.heap[w.heap.size]? = some (.cells #[.int .i64 1, .int .i64 1] 42 (0, 0)) := by rw [hw1]; exact heap_alloc_new _ _
  have hr2 := (hb2.block _ (by omega : w.heap.size < w1.heap.size)).trans hr1
  have HT2 := Lib.hid (show Tb w2 (some ⟨w.heap.size, 0, none⟩) h0.m h0.K h0.L from ⟨fun i hi => ⟨w.heap.size, 0, rfl, by
    have e : i = 0 := by have : i < 1 := hi; omega
    subst e
    exact ⟨by rw [cell_of_row _ _ _ _ _ _ hr2]; rfl, by rw [cell_of_row _ _ _ _ _ _ hr2]; rfl⟩⟩⟩)
  have HX2 := Lib.hid (show HAt w2 (w.heap.size + 1) h0 (some ⟨w.heap.size, 0, none⟩) 1 by rw [hw2, ← hz1]; exact heap_alloc_new _ _)
  have HB2 := Lib.hid (hb1.trans (hb2.mono hb1.size))
  have HW := Lib.hid (show w2 = (w.alloc (.cells #[.int .i64 1, .int .i64 1] 42)).alloc (.cells #[.int .i64 1, .int .i64 2, .int .i64 0, .int .i64 1, .int .i64 3, .slice (some ⟨w.heap.size, 0, none⟩) 1 1] 24) by rw [hw2, hw1])
  clear hw1 hw2 hz1 hb1 hb2 hr1 hr2
  go_enter Try.func5, Try.ntmps5
  go_upto_region 2 with fail
  rw [← HW.out]
  obtain ⟨wg, hwg⟩ : ∃ wg, wg = w.heap.size := ⟨_, rfl⟩
  rw [← hwg] at HT2 HX2 ⊢
  clear HW hwg
  obtain ⟨c0, c1, c2, c3, c4, c5⟩ := HX2.out.c
  go_wp2_with fail
  clear c0 c1 c2 c3 c4 c5
  have hb3 : Below w2.heap.size w2 (w2.alloc (.cells #[.int .u8 7] 5)) := (Below.refl _ w2).alloc (Nat.le_refl _) _
  have HP := Lib.hid (phput_any h0 (some ⟨wg, 0, none⟩) (some ⟨w2.heap.size, 0, none⟩) 1 1 1 (fun i => [7].getD i 0) (by decide) (w2.alloc (.cells #[.int .u8 7] 5)) (HT2.out.same hb3) (sl_lit w2 [7] (by decide) (by decide)))
  refine HP.out.mono ?_
  rintro e w3 ⟨hput, hB3⟩
  have hB3 := hb3.trans (hB3.mono hb3.size)
  have HX3 := Lib.hid (HX2.out.same hB3)
  have HT3 := Lib.hid (HT2.out.same hB3)
  have HB3 := Lib.hid (HB2.out.trans (hB3.mono HB2.out.size))
  rcases hput with ⟨hq1, hq2, g, C, he, hg, hC, hbl⟩ | ⟨hno, _⟩
  rotate_left
  · exact absurd ⟨h0_right, h0_wid.symm⟩ hno
  have HSL := Lib.hid (show Sl w3 (some ⟨g, 0, none⟩) 22 22 (Crc.sealed (pl h0 (fun i => [7].getD i 0)) 18) from hbl.sl2 (Nat.le_refl _) (by unfold maxLen; decide) (sealed_bytes (pl_by _ (sl_lit w [7] (by decide) (by decide)).bytes) _) (sealed_upto _ _))
  obtain rfl : e = .returned (.tuple #[.slice (some ⟨g, 0, none⟩) 22 22, .int .i64 0]) := he
  clear hq1 hq2 hg hC hbl hB3 hb3 HP HX2 HT2 HB2
  go_wp2_with fail
  refine (phparse_any (some ⟨g, 0, none⟩) 22 22 _ (by decide) w3 HSL.out).mono ?_
  rintro e w4 ⟨hpar, hB4⟩
  obtain ⟨a, c, ba, bc, rfl, ho, hN⟩ := ParSays.put h0_right h0_wid.symm hpar
  have HX4 := Lib.hid (HX3.out.same hB4)
  have HT4 := Lib.hid (HT3.out.same hB4)
  have HS4 := Lib.hid (HSL.out.same hB4)
  have HB4 := Lib.hid (HB3.out.trans (hB4.mono HB3.out.size))
  have HO := Lib.hid (tdl_tb ho).1
  have HN := Lib.hid hN.sl
  clear hpar hB4 ho hN HX3 HT3 HSL HB3
  unfold hV
  go_upto_region 4 with fail
  obtain ⟨w5, hw5⟩ : ∃ w5, w5 = w4.alloc (.cells #[.int .i64 h0.S, .int .i64 h0.F, .int .i64 h0.I, .int .i64 h0.N, .int .i64 h0.D, .slice a h0.m c] 24) := ⟨_, rfl⟩
  rw [← hw5]
  have hb5 : Below w4.heap.size w4 w5 := by rw [hw5]; exact (Below.refl _ w4).alloc (Nat.le_refl _) _
  have HY5 := Lib.hid (show HAt w5 w4.heap.size h0 a c by rw [hw5]; exact heap_alloc_new _ _)
  have HX5 := Lib.hid (HX4.out.same hb5)
  have HT5 := Lib.hid (HT4.out.same hb5)
  have HS5 := Lib.hid (HS4.out.same hb5)
  have HO5 := Lib.hid (HO.out.same hb5)
  have HN5 := Lib.hid (HN.out.same hb5)
  have HB5 := Lib.hid (HB4.out.trans (hb5.mono HB4.out.size))
  generalize w4.heap.size = w4s at *
  clear hw5 hb5 HX4 HT4 HS4 HO HN HB4
  go_wp2_with fail
  obtain ⟨wA, hwA⟩ : ∃ wA, wA = w5.alloc (.cells #[.int .u8 1, .int .u8 0, .int .u8 1, .int .u8 0, .int .u8 0, .int .u8 0, .int .u8 2, .int .u8 0, .int .u8 1, .int .u8 1, .int .u8 0, .int .u8 0, .int .u8 0, .int .u8 3, .int .u8 1, .int .u8 0, .int .u8 1, .int .u8 7] 5) := ⟨_, rfl⟩
  have HLA := Lib.hid (show Sl wA (some ⟨w5.heap.size, 0, none⟩) 18 18 (fun i => lit18.getD i 0) by rw [hwA]; exact sl_lit w5 lit18 (by decide) (by decide))
  have hbA : Below w5.heap.size w5 wA := by rw [hwA]; exact (Below.refl _ w5).alloc (Nat.le_refl _) _
  have HSA := Lib.hid (show Sl wA (some ⟨g, 0, none⟩) 18 22 (fun i => lit18.getD i 0) by rw [← h0_bytes]; exact sl_lo (HS5.out.same hbA) (by decide))
  have HSM := Lib.hid (same_any (some ⟨g, 0, none⟩) (some ⟨w5.heap.size, 0, none⟩) 18 22 18 _ (by decide) wA HSA.out HLA.out)
  rw [← hwA]
  have HBA := Lib.hid hbA
  clear hwA hbA HSA HLA
  refine HSM.out.mono ?_
  rintro e w6 ⟨rfl, q6, hq6⟩
  have hb6 : Below w5.heap.size w5 w6 := HBA.out.trans ((show Below wA.heap.size wA w6 by rw [hq6]; exact below_dr (Below.refl _ _) q6).mono HBA.out.size)
  have HY6 := Lib.hid (HY5.out.same hb6)
  have HX6 := Lib.hid (HX5.out.same hb6)
  have HT6 := Lib.hid (HT5.out.same hb6)
  have HO6 := Lib.hid (HO5.out.same hb6)
  have HN6 := Lib.hid (HN5.out.same hb6)
  have HB6 := Lib.hid (HB5.out.trans (hb6.mono HB5.out.size))
  clear hb6 hq6 HSM HBA HY5 HX5 HT5 HO5 HN5 HB5 HS5
  obtain ⟨c0, c1, c2, c3, c4, c5⟩ := HX6.out.c
  obtain ⟨d0, d1, d2, d3, d4, d5⟩ := HY6.out.c
  have HSH := Lib.hid (sameHead_any h0 h0 a (some ⟨wg, 0, none⟩) c 1 (by decide) (by decide) w6 HO6.out HT6.out)
  unfold hV at HSH
  go_wp2_with fail
  clear c0 c1 c2 c3 c4 c5 d0 d1 d2 d3 d4 d5
  refine HSH.out.mono ?_
  rintro e w7 ⟨⟨v, rfl, hv⟩, hB7⟩
  obtain rfl : v = true := hv.2 ⟨⟨rfl, rfl, rfl, rfl, rfl, fun _ _ => ⟨rfl, rfl⟩⟩, rfl⟩
  have HN7 := Lib.hid (HN6.out.same hB7)
  have HB7 := Lib.hid (HB6.out.trans (hB7.mono HB6.out.size))
  clear hv hB7 HSH HY6 HX6 HT6 HO6 HN6 HB6
  go_wp2_with fail
  have hb8 : Below w7.heap.size w7 (w7.alloc (.cells #[.int .u8 7] 5)) := (Below.refl _ w7).alloc (Nat.le_refl _) _
  have HSM := Lib.hid (same_any ba (some ⟨w7.heap.size, 0, none⟩) 1 bc 1 (fun i => [7].getD i 0) (by decide) (w7.alloc (.cells #[.int .u8 7] 5)) (by
    have h := HN7.out.same hb8
    have e : (fun j => if j < 1 then (fun i => [7].getD i 0) j else 0) = fun i => [7].getD i 0 := funext fun j => by
      by_cases c : j < 1
      · rw [if_pos c]
      · rw [if_neg c, List.getD_eq_getElem?_getD, List.getElem?_eq_none (by simp; omega)]; rfl
    rw [e] at h; exact h) (sl_lit w7 [7] (by decide) (by decide)))
  refine HSM.out.mono ?_
  rintro e w8 ⟨rfl, q8, hq8⟩
  have HB8 := Lib.hid (show Below w.heap.size w w8 by rw [hq8]; exact below_dr (HB7.out.trans (hb8.mono HB7.out.size)) q8)
  clear hb8 hq8 HSM
  go_wp2
  go_ret
  exact ⟨rfl, HB8.out⟩
end Go.Proofs.Ytempgjollkdmnaa.He

namespace Go.Proofs.Ytempgjollkdmnaa.He
open Go.RowKit Go.Shelf
open Go.Proofs.Ytempgjollkdmnaa.Ly (TabOk RowOk off off_le widI Tb tdl tdl_len tdl_at tdl_tb)
open Go.Proofs.Ytempgjollkdmnaa.Wg (BoSays BoSays.no BoSays.yes)
attribute [local go_sem] Oper.semAt_some

/-- what was sealed, as it is parsed. -/
theorem sealed_perr {rn : Nat} {rf : Nat → Nat} (h : perr (rn + 4) (Crc.sealed rf rn) = 0) : Crc.sealed rf rn 0 = 1 ∧ GoodP rn (Crc.sealed rf rn) := by
  unfold perr at h
  rw [if_neg (by omega), Nat.add_sub_cancel] at h
  have hok : okB (Crc.sealed rf rn) rn = true := sealed_ok rn
  rw [hok, if_neg (by decide)] at h
  by_cases h4 : rn + 4 = 4
  · rw [if_pos h4] at h; cases h
  rw [if_neg h4] at h
  by_cases h1 : Crc.sealed rf rn 0 ≠ 1
  · rw [if_pos h1] at h; cases h
  rw [if_neg h1] at h
  by_cases hg : GoodP rn (Crc.sealed rf rn)
  · exact ⟨by omega, hg⟩
  · rw [if_neg hg] at h; cases h
/-- what is parsed is put again. -/
theorem put_again {rn : Nat} {rf : Nat → Nat} (hb : Pf.By rf) (h1 : Crc.sealed rf rn 0 = 1) (hg : GoodP rn (Crc.sealed rf rn)) (i : Nat) :
    Crc.sealed (pl (hdr (Crc.sealed rf rn)) (fun j => if j < rn - (14 + 3 * Crc.sealed rf rn 9) then Crc.sealed rf rn (14 + 3 * Crc.sealed rf rn 9 + j) else 0)) rn i = Crc.sealed rf rn i := by
  refine sealed_same (fun j hj => ?_) i
  have hF : Pf.By (Crc.sealed rf rn) := sealed_bytes hb rn
  have h2 := pl_hdr hF h1 j
  have h14 := hg.1
  rw [Crc.sealed_lo hj] at h2
  rw [← h2]
  unfold pl
  have em : (hdr (Crc.sealed rf rn)).m = Crc.sealed rf rn 9 := rfl
  (repeat' split) <;> first | rfl | skip
  all_goals (rw [em] at *; first | omega | skip)
  exact if_pos (by omega)
theorem put_len {rn : Nat} {F : Nat → Nat} (hg : GoodP rn F) : 14 + 3 * (hdr F).m + (rn - (14 + 3 * F 9)) = rn := by
  have h := hg.1
  show 14 + 3 * F 9 + _ = rn
  omega
theorem flip_one (s : Nat → Nat) (k : Nat) : ∀ i, 1 ≤ i → ∀ j, flipT s k 1 i j = if j = k / 8 then s (k / 8) ^^^ 2 ^ (k % 8) else s j
  | 0, h, _ => absurd h (by omega)
  | 1, _, j => by
    have h := flipT_yes (s := s) (k := k) (w := 1) (i := 0) (by decide) j
    rw [← h]; rfl
  | i + 2, _, j => by
    rw [← flipT_no (s := s) (k := k) (w := 1) (i := i + 1) (by rw [Nat.testBit_succ]; exact Nat.zero_testBit i) j]
    exact flip_one s k (i + 1) (by omega) j
theorem anyT_one : ∀ i, 1 ≤ i → anyT 1 i = true
  | 0, h => absurd h (by omega)
  | 1, _ => rfl
  | i + 2, _ => by unfold anyT; rw [anyT_one (i + 1) (by omega)]; rfl
/-- one bit turned is told. -/
theorem flip_perr {f : Nat → Nat} {n k : Nat} (hf : Pf.By f) (hk : k < 8 * (n + 4)) {F : Nat → Nat} (hF : ∀ j, F j = if j = k / 8 then Crc.sealed f n (k / 8) ^^^ 2 ^ (k % 8) else Crc.sealed f n j) : perr (n + 4) F = 10 := by
  obtain ⟨I, hI⟩ : ∃ I, I = min 32 (8 * (n + 4) - k) := ⟨_, rfl⟩
  have ht := flip_told (w := 1) (I := I) hf (by decide) (by omega) (by omega) (k := k) (n := n) (by omega) (anyT_one I (by omega))
  have hFF : F = flipT (Crc.sealed f n) k 1 I := funext fun j => by rw [hF j, flip_one _ _ I (by omega)]
  rw [← hFF] at ht
  unfold perr
  rw [if_neg (by omega), Nat.add_sub_cancel, if_pos (show okB F n = false from ht)]
set_option maxHeartbeats 8000000 in
set_option maxRecDepth 100000 in
theorem headBack_any (h : Hr) (a : Option Addr) (c : Nat) (hm : h.m ≤ 140737488355328) (ba : Option Addr) (n bc : Nat) (f : Nat → Nat) (ra : Option Addr) (rn rc : Nat) (rf : Nat → Nat) (bit : Int) (hnm : n ≤ 140737488355328) (hrm : rn ≤ 140737488355328) (w : World) (hT : Tb w a h.m h.K h.L) (hb : Sl w ba n bc f) (hr : Sl w ra rn rc rf) :
    Calls Try.prog 3 #[hV h a c, .slice ba n bc, .slice ra rn rc, .int .i64 bit] w fun e w' => e = .returned (.bool true) ∧ Below w.heap.size w w' := by
  obtain ⟨w0, hw0⟩ : ∃ w0, w0 = w.alloc (.cells #[.int .i64 h.S, .int .i64 h.F, .int .i64 h.I, .int .i64 h.N, .int .i64 h.D, .slice a h.m c] 24) := ⟨_, rfl⟩
  have HX0 := Lib.hid (show HAt w0 w.heap.size h a c by rw [hw0]; exact heap_alloc_new _ _)
  have HB0 := Lib.hid (show Below w.heap.size w w0 by rw [hw0]; exact (Below.refl _ w).alloc (Nat.le_refl _) _)
  have HT := Lib.hid hT; have HS := Lib.hid hb; have HR := Lib.hid hr; have HW0 := Lib.hid hw0
  have HPUT := Lib.hid (fun hn W hT hb => phput_any h a ba c n bc f hn W hT hb)
  have HOF := Lib.hid (fun W hT => Sz.of_any h.N a h.m c h.K h.L W hT)
  unfold hV at HPUT ⊢
  clear hT hb hr hw0
  obtain ⟨wg, hwg⟩ : ∃ wg, wg = w.heap.size := ⟨_, rfl⟩
  go_enter Try.func3, Try.ntmps3
  go_upto_region 1 with fail
  rw [← HW0.out, ← hwg]
  rw [← hwg] at HX0
  clear HW0 hwg
  have HM := Lib.hid hm
  go_wp2_with fail
  refine (awake14_any w0).mono ?_
  rintro e w1 ⟨rfl, hB1⟩
  have HX1 := Lib.hid (HX0.out.same hB1)
  have HB1 := Lib.hid (HB0.out.trans (hB1.mono HB0.out.size))
  clear hB1 HX0 HB0
  obtain ⟨c0, c1, c2, c3, c4, c5⟩ := HX1.out.c
  by_cases hbig : h.m + n + rn ≤ 20000
  rotate_left
  · have j1 : (20000 : Int) < (h.m : Int) + (n : Int) + (rn : Int) := by omega
    go_wp2
    go_ret
    exact ⟨rfl, HB1.out⟩
  have j1 : ¬ (20000 : Int) < (h.m : Int) + (n : Int) + (rn : Int) := by omega
  have HBIG := Lib.hid hbig
  go_wp2_with fail
  clear c0 c1 c2 c3 c4 c5 j1 hbig hnm hrm hm
  refine (pseal_any ra rn rc rf (by have := HBIG.out; omega) w1 (HR.out.same HB1.out)).mono ?_
  rintro e w2 ⟨g, C, rfl, hg, hC, hbl, hB2⟩
  obtain ⟨F, hF⟩ : ∃ F, F = Crc.sealed rf rn := ⟨_, rfl⟩
  rw [← hF] at hbl
  have HF := Lib.hid hF
  have HSL2 := Lib.hid (show Sl w2 (some ⟨g, 0, none⟩) (rn + 4) (rn + 4) F from hbl.sl2 (Nat.le_refl _) (by unfold maxLen; have := HBIG.out; omega) (by rw [hF]; exact sealed_bytes HR.out.bytes _) (by rw [hF]; exact sealed_upto _ _))
  have HX2 := Lib.hid (HX1.out.same hB2)
  have HB2 := Lib.hid (HB1.out.trans (hB2.mono HB1.out.size))
  obtain ⟨R, hRR⟩ : ∃ R, R = rn + 4 := ⟨_, rfl⟩
  rw [← hRR] at HSL2 ⊢
  have HRR := Lib.hid hRR
  clear hg hC hbl hB2 hF hRR HX1 HB1
  go_wp2_with fail
  refine (phparse_any (some ⟨g, 0, none⟩) R R F (by have := HBIG.out; have := HRR.out; omega) w2 HSL2.out).mono ?_
  rintro e w3 ⟨hpar, hB3⟩
  have HX3 := Lib.hid (HX2.out.same hB3)
  have HB3 := Lib.hid (HB2.out.trans (hB3.mono HB2.out.size))
  clear hB3 HX2 HB2 HSL2
  have HRE := Lib.hid (show ∃ hx qa qc pa pm pc er, e = .returned (.tuple #[hV hx qa qc, .slice pa pm pc, .int .i64 er]) ∧ (er ≠ 0 ∨ (er = 0 ∧ RH hx ∧ pm = off hx.K hx.L hx.m ∧ 14 + 3 * hx.m + pm = rn ∧ Tb w3 qa hx.m hx.K hx.L ∧ ∃ bf, Sl w3 pa pm pc bf ∧ ∀ i, Crc.sealed (pl hx bf) rn i = F i)) from by
    rcases hpar with ⟨hp0, rfl⟩ | ⟨hp0, qa, qc, pa, pc, rfl, ho, hN⟩
    · exact ⟨hz, none, 0, none, 0, 0, _, rfl, Or.inl hp0⟩
    · rw [HRR.out, HF.out] at hp0
      obtain ⟨hp1, hp2⟩ := sealed_perr hp0
      rw [HRR.out, HF.out, Nat.add_sub_cancel] at *
      refine ⟨_, qa, qc, pa, _, pc, 0, rfl, Or.inr ⟨rfl, hp2.2.1, hp2.2.2, put_len hp2, (tdl_tb ho).1, _, hN.sl, fun i => put_again HR.out.bytes hp1 hp2 i⟩⟩)
  obtain ⟨hx, qa, qc, pa, pm, pc, er, rfl, hcase⟩ := HRE.out
  have HC := Lib.hid hcase
  clear HRE hcase hpar
  unfold hV
  go_upto_region 6 with fail
  obtain ⟨w4, hw4⟩ : ∃ w4, w4 = w3.alloc (.cells #[.int .i64 hx.S, .int .i64 hx.F, .int .i64 hx.I, .int .i64 hx.N, .int .i64 hx.D, .slice qa hx.m qc] 24) := ⟨_, rfl⟩
  rw [← hw4]
  have hb4 : Below w3.heap.size w3 w4 := by rw [hw4]; exact (Below.refl _ w3).alloc (Nat.le_refl _) _
  have HY4 := Lib.hid (show HAt w4 w3.heap.size hx qa qc by rw [hw4]; exact heap_alloc_new _ _)
  have HX4 := Lib.hid (HX3.out.same hb4)
  have HB4 := Lib.hid (HB3.out.trans (hb4.mono HB3.out.size))
  have HC4 := Lib.hid (show er ≠ 0 ∨ (er = 0 ∧ RH hx ∧ pm = off hx.K hx.L hx.m ∧ 14 + 3 * hx.m + pm = rn ∧ Tb w4 qa hx.m hx.K hx.L ∧ ∃ bf, Sl w4 pa pm pc bf ∧ ∀ i, Crc.sealed (pl hx bf) rn i = F i) from HC.out.imp id fun ⟨q1, q2, q3, q4, q5, bf, q6, q7⟩ => ⟨q1, q2, q3, q4, q5.same hb4, bf, q6.same hb4, q7⟩)
  generalize w3.heap.size = w3s at *
  clear hw4 hb4 HX3 HB3 HC
  go_upto_if 45 with fail
  go_cut [12, 13] (fun _ _ wx => HAt wx wg h a c ∧ Below w.heap.size w wx)
  case first =>
    rcases HC4.out with h0 | ⟨h0, hRx, hpm, hlen, hTx, bf, hSx, hFx⟩
    · have g1 : (er == 0) = false := by simpa using h0
      clear h0
      go_wp2
      go_meet
      exact ⟨HX4.out, HB4.out⟩
    · have g1 : (er == 0) = true := by simpa using h0
      have HRX := Lib.hid hRx; have HPM := Lib.hid hpm; have HLEN := Lib.hid hlen; have HTX := Lib.hid hTx; have HSX := Lib.hid hSx; have HFX := Lib.hid hFx
      clear h0 hRx hpm hlen hTx hSx hFx HC4
      obtain ⟨c0, c1, c2, c3, c4, c5⟩ := HY4.out.c
      have HPX := Lib.hid (phput_any hx qa pa qc pm pc bf (by have := HLEN.out; have := HBIG.out; omega) w4 HTX.out HSX.out)
      unfold hV at HPX
      go_wp2_with fail
      clear c0 c1 c2 c3 c4 c5
      refine HPX.out.mono ?_
      rintro e w5 ⟨hput, hB5⟩
      rcases hput with ⟨hq1, hq2, g5, C5, rfl, hq3, hC5, hbl5⟩ | ⟨hno, _⟩
      rotate_left
      · exact absurd ⟨HRX.out, HPM.out⟩ hno
      have e5 : 14 + 3 * hx.m + pm + 4 = R := by have := HLEN.out; have := HRR.out; omega
      rw [e5] at hC5 hbl5 ⊢
      rw [HLEN.out] at hbl5
      have HBL5 := Lib.hid (show Bl w5 g5 R C5 F from hbl5.congr fun i _ => HFX.out i)
      have HX5 := Lib.hid (HX4.out.same hB5)
      have HY5 := Lib.hid (HY4.out.same hB5)
      have HT5 := Lib.hid (HTX.out.same hB5)
      have HB5 := Lib.hid (HB4.out.trans (hB5.mono HB4.out.size))
      clear hq1 hq2 hq3 hB5 hC5 hbl5 e5 HPX HX4 HY4 HTX HSX HFX HB4
      go_wp2_with fail
      refine (pseal_any ra rn rc rf (by have := HBIG.out; omega) w5 (HR.out.same HB5.out)).mono ?_
      rintro e w6 ⟨g6, C6, rfl, hg6, hC6, hbl6, hB6⟩
      rw [← HF.out, ← HRR.out] at hbl6
      rw [← HRR.out]
      have hFb : Pf.By F := by rw [HF.out]; exact sealed_bytes HR.out.bytes _
      have hFu : Pf.Up F R := by rw [HF.out, HRR.out]; exact sealed_upto _ _
      have hRm : R ≤ maxLen := by unfold maxLen; have := HRR.out; have := HBIG.out; omega
      have HS6 := Lib.hid (show Sl w6 (some ⟨g5, 0, none⟩) R R F from (HBL5.out.sl2 (Nat.le_refl _) hRm hFb hFu).same hB6)
      have HS7 := Lib.hid (show Sl w6 (some ⟨g6, 0, none⟩) R R F from hbl6.sl2 (Nat.le_refl _) hRm hFb hFu)
      have HX6 := Lib.hid (HX5.out.same hB6)
      have HY6 := Lib.hid (HY5.out.same hB6)
      have HT6 := Lib.hid (HT5.out.same hB6)
      have HB6 := Lib.hid (HB5.out.trans (hB6.mono HB5.out.size))
      clear hFb hFu hRm hg6 hC6 hbl6 hB6 HX5 HY5 HT5 HB5 HBL5
      go_wp2_with fail
      refine (same_any (some ⟨g5, 0, none⟩) (some ⟨g6, 0, none⟩) R R R F (by have := HRR.out; have := HBIG.out; omega) w6 HS6.out HS7.out).mono ?_
      rintro e w7 ⟨rfl, q7, hq7⟩
      have hB7 : Below w6.heap.size w6 w7 := by rw [hq7]; exact below_dr (Below.refl _ _) q7
      have HX7 := Lib.hid (HX6.out.same hB7)
      have HY7 := Lib.hid (HY6.out.same hB7)
      have HT7 := Lib.hid (HT6.out.same hB7)
      have HB7 := Lib.hid (HB6.out.trans (hB7.mono HB6.out.size))
      clear hq7 hB7 HX6 HY6 HT6 HB6 HS6 HS7
      obtain ⟨c0, c1, c2, c3, c4, c5⟩ := HY7.out.c
      have HRI := Lib.hid (phright_any hx qa qc w7 HT7.out)
      unfold hV at HRI
      go_wp2_with fail
      clear c0 c1 c2 c3 c4 c5
      refine HRI.out.mono ?_
      rintro e w8 ⟨⟨v, rfl, hv⟩, hB8⟩
      obtain rfl : v = true := hv.2 HRX.out
      have HX8 := Lib.hid (HX7.out.same hB8)
      have HB8 := Lib.hid (HB7.out.trans (hB8.mono HB7.out.size))
      clear hv hB8 HX7 HY7 HT7 HB7 HRI
      go_wp2
      go_meet
      exact ⟨HX8.out, HB8.out⟩
  case rest =>
    obtain ⟨hxc, hbc⟩ := hcut
    have HXc := Lib.hid hxc; have HBc := Lib.hid hbc
    clear hxc hbc HX4 HY4 HB4 HC4
    obtain ⟨c0, c1, c2, c3, c4, c5⟩ := HXc.out.c
    go_wp2_with fail
    clear c0 c1 c2 c3 c4 c5
    refine (HPUT.out (by have := HBIG.out; omega) wc (HT.out.same HBc.out) (HS.out.same HBc.out)).mono ?_
    rintro e wd ⟨hput, hBd⟩
    have HXd := Lib.hid (HXc.out.same hBd)
    have HBd := Lib.hid (HBc.out.trans (hBd.mono HBc.out.size))
    have HBc2 := Lib.hid HBc.out.size
    clear hBd HXc HBc HPUT
    rcases hput with ⟨hq1, hq2, gd, Cq, rfl, hq3, hCq, hbd⟩ | ⟨hno, rfl⟩
    rotate_left
    · clear hno
      go_wp2
      go_ret
      exact ⟨rfl, HBd.out⟩
    have HRH := Lib.hid hq1; have HNO := Lib.hid hq2
    have HM8 := Lib.hid (show h.m ≤ 8 from hq1.2.2.2.2.2.2.2.1)
    obtain ⟨T, hTT⟩ : ∃ T, T = 14 + 3 * h.m + n := ⟨_, rfl⟩
    have HTT := Lib.hid hTT
    obtain ⟨L, hL⟩ : ∃ L, L = 14 + 3 * h.m + n + 4 := ⟨_, rfl⟩
    rw [← hL] at hCq hbd ⊢
    rw [← hTT] at hbd
    have HL := Lib.hid (show L = T + 4 by omega)
    have HLB := Lib.hid (show L ≤ 20100 by have := HBIG.out; have := HM8.out; omega)
    have HBD := Lib.hid hbd; have HGD := Lib.hid (show w.heap.size ≤ gd from Nat.le_trans HBc2.out hq3)
    have HPB := Lib.hid (show Pf.By (pl h f) from pl_by h HS.out.bytes)
    have HSLd := Lib.hid (show Sl wd (some ⟨gd, 0, none⟩) L L (Crc.sealed (pl h f) T) from hbd.sl2 (Nat.le_refl _) (by unfold maxLen; have := HLB.out; omega) (sealed_bytes HPB.out _) (by rw [HL.out]; exact sealed_upto _ _))
    clear hq1 hq2 hq3 hCq hbd hTT hL
    go_wp2_with fail
    refine (phparse_any (some ⟨gd, 0, none⟩) L L (Crc.sealed (pl h f) T) (by have := HLB.out; omega) wd HSLd.out).mono ?_
    rintro e we ⟨hpar, hBe⟩
    have hpar2 : ParSays wd (14 + 3 * h.m + n + 4) (Crc.sealed (pl h f) (14 + 3 * h.m + n)) e we := by
      rw [← HTT.out, ← HL.out]; exact hpar
    obtain ⟨xa, xc, da, dc, rfl, ho, hN⟩ := ParSays.put HRH.out HNO.out hpar2
    have ef : (fun j => if j < n then f j else 0) = f := funext fun j => by
      split
      · rfl
      · exact (HS.out.up j (by omega)).symm
    rw [ef] at hN
    have HXe := Lib.hid (HXd.out.same hBe)
    have HTe := Lib.hid (tdl_tb ho).1
    have HNe := Lib.hid hN.sl
    have HDe := Lib.hid (HBD.out.kept (hBe.block gd HBD.out.lt))
    have HBe := Lib.hid (HBd.out.trans (hBe.mono HBd.out.size))
    clear hpar hpar2 hBe ho hN ef HXd HBd HBD HSLd
    unfold hV
    go_upto_region 14 with fail
    obtain ⟨wf, hwf⟩ : ∃ wf, wf = we.alloc (.cells #[.int .i64 h.S, .int .i64 h.F, .int .i64 h.I, .int .i64 h.N, .int .i64 h.D, .slice xa h.m xc] 24) := ⟨_, rfl⟩
    rw [← hwf]
    have hbf : Below we.heap.size we wf := by rw [hwf]; exact (Below.refl _ we).alloc (Nat.le_refl _) _
    have HYf := Lib.hid (show HAt wf we.heap.size h xa xc by rw [hwf]; exact heap_alloc_new _ _)
    have HXf := Lib.hid (HXe.out.same hbf)
    have HTf := Lib.hid (HTe.out.same hbf)
    have HNf := Lib.hid (HNe.out.same hbf)
    have HDf := Lib.hid (HDe.out.kept (hbf.block gd HDe.out.lt))
    have HBf := Lib.hid (HBe.out.trans (hbf.mono HBe.out.size))
    generalize we.heap.size = wes at *
    clear hwf hbf HXe HTe HNe HDe HBe
    obtain ⟨c0, c1, c2, c3, c4, c5⟩ := HXf.out.c
    go_wp2_with fail
    clear c0 c1 c2 c3 c4 c5
    refine (HOF.out wf (HT.out.same HBf.out)).mono ?_
    rintro e wg2 ⟨hof, hBg⟩
    have HXg := Lib.hid (HXf.out.same hBg)
    have HYg := Lib.hid (HYf.out.same hBg)
    have HTg := Lib.hid (HTf.out.same hBg)
    have HNg := Lib.hid (HNf.out.same hBg)
    have HDg := Lib.hid (HDf.out.kept (hBg.block gd HDf.out.lt))
    have HBg := Lib.hid (HBf.out.trans (hBg.mono HBf.out.size))
    clear hBg HXf HYf HTf HNf HDf HBf HOF
    rcases hof with ⟨hno, _⟩ | ⟨_, rfl⟩
    · exact absurd HRH.out.2.2.2.2 hno
    rw [show 18 + 3 * h.m + off h.K h.L h.m = L by rw [HL.out, HTT.out, ← HNO.out]; omega]
    obtain ⟨c0, c1, c2, c3, c4, c5⟩ := HXg.out.c
    obtain ⟨d0, d1, d2, d3, d4, d5⟩ := HYg.out.c
    have HSH := Lib.hid (sameHead_any h h xa a xc c (by have := HM8.out; omega) (by have := HM8.out; omega) wg2 HTg.out (HT.out.same HBg.out))
    unfold hV at HSH
    go_wp2_with fail
    clear c0 c1 c2 c3 c4 c5 d0 d1 d2 d3 d4 d5
    refine HSH.out.mono ?_
    rintro e wh ⟨⟨v, rfl, hv⟩, hBh⟩
    obtain rfl : v = true := hv.2 ⟨⟨rfl, rfl, rfl, rfl, rfl, fun _ _ => ⟨rfl, rfl⟩⟩, rfl⟩
    have HNh := Lib.hid (HNg.out.same hBh)
    have HDh := Lib.hid (HDg.out.kept (hBh.block gd HDg.out.lt))
    have HBh := Lib.hid (HBg.out.trans (hBh.mono HBg.out.size))
    clear hv hBh HSH HXg HYg HTg HNg HDg HBg
    go_wp2_with fail
    refine (same_any da ba n dc bc f (by have := HBIG.out; omega) wh HNh.out (HS.out.same HBh.out)).mono ?_
    rintro e wi ⟨rfl, qi, hqi⟩
    have hBi : Below wh.heap.size wh wi := by rw [hqi]; exact below_dr (Below.refl _ _) qi
    have HDi := Lib.hid (HDh.out.kept (hBi.block gd HDh.out.lt))
    have HBi := Lib.hid (HBh.out.trans (hBi.mono HBh.out.size))
    clear hqi hBi HNh HDh HBh
    obtain ⟨M, hM⟩ : ∃ M, M = 8 * L := ⟨_, rfl⟩
    have e3 : 8 * (L : Int) = (M : Int) := by omega
    have k1 : ((L : Int) != (L : Int)) = false := by simp
    have HMM := Lib.hid hM
    have hlb := HLB.out
    clear hM
    go_wp2_with fail
    refine (spick_any bit M (by have := HMM.out; have := HL.out; omega) (by have := HMM.out; omega) wi).mono ?_
    rintro e wj ⟨⟨k, hk, rfl⟩, rfl⟩
    have hd8 : k / 8 < L := by have := HMM.out; omega
    have hr8 : k % 8 < 8 := Nat.mod_lt _ (by omega)
    have hp8 : 2 ^ (k % 8) < 256 := Nat.lt_of_lt_of_le (Nat.pow_lt_pow_right (a := 2) (by omega) hr8) (by decide)
    have hc := HDi.out.cell hd8
    have hf := HDi.out.free (k / 8)
    have HKM := Lib.hid (show k < 8 * (T + 4) by have := HMM.out; have := HL.out; omega)
    obtain ⟨v, hv⟩ : ∃ v, v = Crc.sealed (pl h f) T (k / 8) := ⟨_, rfl⟩
    have hvb : v < 256 := by rw [hv]; exact sealed_bytes HPB.out _ _
    rw [← hv] at hc
    have HV := Lib.hid hv
    have hx := Crc.bit_in v (k % 8) hvb hr8
    have HXX := Lib.hid hx
    have hkm : k ≤ 1000000 := by have := HMM.out; omega
    have f2 : (k : Int).tdiv 8 = ((k / 8 : Nat) : Int) := rfl
    have f3 : (k : Int).tmod 8 = ((k % 8 : Nat) : Int) := rfl
    have f4 : IntKind.i64.wrap ((k / 8 : Nat) : Int) = ((k / 8 : Nat) : Int) := IntWalk.i64_in _ (by omega)
    clear hv hx k1 e3
    go_upto_region 18 with fail
    refine Rb.wp_region_quiet_tail 13 (by kernel_rfl) (by kernel_rfl) ?_
    simp only [List.take_succ_cons, List.take_zero, List.drop_succ_cons, List.drop_zero]
    repeat (go_big_quiet_step (fail))
    refine wpQuiet_nil ?_
    rintro _ ⟨kk, rfl⟩
    clear f2 f3 f4
    go_upto_region 19 with fail
    rw [HXX.out]
    have HDj := Lib.hid ((HDi.out.drewN kk).set hd8 (v ^^^ 2 ^ (k % 8)))
    have HBj := Lib.hid ((HBi.out.trans (below_dr (Below.refl _ wj) kk |>.mono HBi.out.size)).setCell (p := ⟨gd, k / 8, none⟩) (by have := HGD.out; exact this) (.int .u8 ((v ^^^ 2 ^ (k % 8) : Nat) : Int)))
    obtain ⟨wk, hwk⟩ : ∃ wk, wk = (wj.drewN kk).setCell ⟨gd, k / 8, none⟩ (.int .u8 ((v ^^^ 2 ^ (k % 8) : Nat) : Int)) := ⟨_, rfl⟩
    rw [← hwk] at HDj HBj ⊢
    obtain ⟨G, hG⟩ : ∃ G : Nat → Nat, G = fun j => if j = k / 8 then v ^^^ 2 ^ (k % 8) else Crc.sealed (pl h f) T j := ⟨_, rfl⟩
    have hGb : Pf.By G := fun j => by
      rw [hG]
      show (if _ then _ else _) < 256
      split
      · exact Nat.xor_lt_two_pow (n := 8) hvb (Nat.pow_lt_pow_right (by omega) hr8)
      · exact sealed_bytes HPB.out _ _
    have hGu : Pf.Up G L := fun j hj => by
      rw [hG]
      show (if _ then _ else _) = 0
      rw [if_neg (by omega)]
      exact sealed_upto _ _ j (by rw [← HL.out]; exact hj)
    have HSk := Lib.hid (show Sl wk (some ⟨gd, 0, none⟩) L L G from (show Bl wk gd L Cq G by rw [hG]; exact HDj.out).sl2 (Nat.le_refl _) (by unfold maxLen; omega) hGb hGu)
    have HPE := Lib.hid (show perr L G = 10 by
      rw [HL.out]
      refine flip_perr (f := pl h f) (n := T) HPB.out HKM.out (fun j => ?_)
      rw [hG, ← HV.out])
    clear hwk hG hGb hGu hc hf hvb hd8 hr8 hp8 hk HXX HDj HDi HBi
    go_wp2_with fail
    refine (phparse_any (some ⟨gd, 0, none⟩) L L G (by have := HLB.out; omega) wk HSk.out).mono ?_
    rintro e wl ⟨hpar, hBl⟩
    have HBl := Lib.hid (HBj.out.trans (hBl.mono HBj.out.size))
    clear hBl
    rcases hpar with ⟨_, rfl⟩ | ⟨h0, _⟩
    rotate_left
    · rw [HPE.out] at h0; cases h0
    rw [HPE.out]
    unfold zH
    go_wp2_with fail
    try (go_upto_region 20 with fail)
    obtain ⟨wm, hwm⟩ : ∃ wm, wm = wl.alloc (.cells #[.int .i64 0, .int .i64 0, .int .i64 0, .int .i64 0, .int .i64 0, .slice none 0 0] 24) := ⟨_, rfl⟩
    have HBm := Lib.hid (show Below w.heap.size w wm by rw [hwm]; exact HBl.out.alloc HBl.out.size _)
    rw [← hwm]
    clear hwm
    go_wp2
    go_ret
    exact ⟨rfl, HBm.out⟩
end Go.Proofs.Ytempgjollkdmnaa.He

namespace Go.Proofs.Ytempgjollkdmnaa.He
open Go.RowKit Go.Shelf
open Go.Proofs.Ytempgjollkdmnaa.Ly (TabOk RowOk off off_le widI Tb tdl tdl_len tdl_at tdl_tb tdl_ones tb_news cell_new2 int_ones)
open Go.Proofs.Ytempgjollkdmnaa.Wg (BoSays BoSays.no BoSays.yes)
attribute [local go_sem] Oper.semAt_some

set_option maxHeartbeats 1000000 in
theorem copyTable_any (a : Option Addr) (n cap : Nat) (K L : Nat → Int) (hn : n ≤ 1000000) (w : World) (hT : Tb w a n K L) (hnil : a = none → n = 0 ∧ cap = 0) :
    Calls Try.prog 32 #[.slice a n cap] w fun e w' => ∃ a' c', e = .returned (.slice a' n c') ∧ w'.ownsRow w.heap.size 42 2 (.slice a' n c') n (tdl K L n) ∧ Below w.heap.size w w' := by
  obtain ⟨i0, hi, hz0, hz1, hz2⟩ := info_parts Try.infoRowL
  have HI := Lib.hid hi; have HZ0 := Lib.hid hz0; have HZ1 := Lib.hid hz1; have HZ2 := Lib.hid hz2; have HT := Lib.hid hT
  clear hi hz0 hz1 hz2 hT
  go_enter Try.func32, Try.ntmps32
  cases a with
  | none =>
    obtain ⟨rfl, rfl⟩ := hnil rfl
    clear hnil
    go_wp2_with (at_builtin; refine wpList_append_own_none rfl _ _ 22 rfl w.heap.size 42 i0 2 Try.underlying22 HI.out HZ1.out _ 0 [] rfl (World.ownsRow_nil w w.heap.size 42 2) rfl ?_)
    go_ret
    exact ⟨none, 0, rfl, World.ownsRow_nil w w.heap.size 42 2, Below.refl _ _⟩
  | some ad =>
    clear hnil
    go_wp2_with (at_builtin; refine wpList_append_own _ rfl _ _ 22 rfl w.heap.size 42 i0 (.agg #[.int .i64 0, .int .i64 0]) 2 16 Try.underlying22 HI.out HZ0.out HZ1.out HZ2.out rfl (by decide) _ 0 [] rfl (World.ownsRow_nil w w.heap.size 42 2) ad n cap (tdl K L n) rfl (tdl_len K L n) (tb_news HT.out ad rfl) (tdl_ones K L n) (by unfold maxLen; omega) (by omega) (Nat.le_refl _) ?_; intro v' w2 hown hg _; have HO := Lib.hid hown; have HG := Lib.hid hg; clear hown hg)
    have ho := HO.out
    obtain ⟨a', c', he⟩ := own_sl ho
    rw [Nat.zero_add, List.nil_append] at ho
    rw [Nat.zero_add] at he
    subst he
    go_ret
    exact ⟨a', c', rfl, ho, (Below.refl _ w).grown HG.out (Nat.le_refl _) (fun r e => by cases e)⟩
theorem own_oth {w w' : World} {B s n : Nat} {e : TypeId} {v : Value} {xs : List Value} (h : w.ownsRow B e s v n xs) (hk : ∀ g, B ≤ g → g < w.heap.size → w'.heap[g]? = w.heap[g]?) : w'.ownsRow B e s v n xs := by
  obtain ⟨h1, h2 | ⟨g, cap, cur, q1, q2, q3, q4⟩⟩ := h
  · exact ⟨h1, Or.inl h2⟩
  · exact ⟨h1, Or.inr ⟨g, cap, cur, q1, q2, (hk g q2 (Array.getElem?_eq_some_iff.1 q3).1).trans q3, q4⟩⟩
theorem own_mono {w : World} {B B' s n : Nat} {e : TypeId} {v : Value} {xs : List Value} (h : w.ownsRow B e s v n xs) (hB : B' ≤ B) : w.ownsRow B' e s v n xs := by
  obtain ⟨h1, h2 | ⟨g, cap, cur, q1, q2, q3⟩⟩ := h
  · exact ⟨h1, Or.inl h2⟩
  · exact ⟨h1, Or.inr ⟨g, cap, cur, q1, Nat.le_trans hB q2, q3⟩⟩
set_option maxHeartbeats 4000000 in
set_option maxRecDepth 100000 in
theorem copyHead_any (h : Hr) (a : Option Addr) (c : Nat) (hn : h.m ≤ 1000000) (w : World) (hT : Tb w a h.m h.K h.L) (hnil : a = none → h.m = 0 ∧ c = 0) :
    Calls Try.prog 14 #[hV h a c] w fun e w' => ∃ a' c', e = .returned (hV h a' c') ∧ w'.ownsRow w.heap.size 42 2 (.slice a' h.m c') h.m (tdl h.K h.L h.m) ∧ Below w.heap.size w w' := by
  obtain ⟨w0, hw0⟩ : ∃ w0, w0 = w.alloc (.cells #[.int .i64 h.S, .int .i64 h.F, .int .i64 h.I, .int .i64 h.N, .int .i64 h.D, .slice a h.m c] 24) := ⟨_, rfl⟩
  obtain ⟨w1, hw1⟩ : ∃ w1, w1 = w0.alloc (.cells #[.int .i64 0, .int .i64 0, .int .i64 0, .int .i64 0, .int .i64 0, .slice none 0 0] 24) := ⟨_, rfl⟩
  have hz0 : w0.heap.size = w.heap.size + 1 := by rw [hw0, World.size_alloc]
  have hb0 : Below w.heap.size w w0 := by rw [hw0]; exact (Below.refl _ w).alloc (Nat.le_refl _) _
  have hb1 : Below w0.heap.size w0 w1 := by rw [hw1]; exact (Below.refl _ w0).alloc (Nat.le_refl _) _
  have hq0 : HAt w0 w.heap.size h a c := by rw [hw0]; exact heap_alloc_new _ _
  have HX := Lib.hid (hq0.same hb1)
  have HY := Lib.hid (show HAt w1 (w.heap.size + 1) hz none 0 by rw [hw1, ← hz0]; exact heap_alloc_new _ _)
  have HB := Lib.hid (hb0.trans (hb1.mono hb0.size))
  have HT := Lib.hid (hT.same HB.out)
  have HCT := Lib.hid (copyTable_any a h.m c h.K h.L hn w1 HT.out hnil)
  have HSZ := Lib.hid (show w.heap.size + 1 < w1.heap.size from HY.out.lt)
  have HW := Lib.hid (show w1 = (w.alloc (.cells #[.int .i64 h.S, .int .i64 h.F, .int .i64 h.I, .int .i64 h.N, .int .i64 h.D, .slice a h.m c] 24)).alloc (.cells #[.int .i64 0, .int .i64 0, .int .i64 0, .int .i64 0, .int .i64 0, .slice none 0 0] 24) by rw [hw1, hw0])
  obtain ⟨wg, hwg⟩ : ∃ wg, wg = w.heap.size := ⟨_, rfl⟩
  rw [← hwg] at HX HY HSZ
  have HWG := Lib.hid hwg
  unfold hV
  clear hw0 hw1 hz0 hb0 hb1 hq0 hT hnil
  go_enter Try.func14, Try.ntmps14
  go_upto_region 1 with fail
  rw [← HW.out, ← hwg]
  clear hwg HW
  obtain ⟨c0, c1, c2, c3, c4, c5⟩ := HX.out.c
  go_wp2_with fail
  clear c0 c1 c2 c3 c4 c5
  refine HCT.out.mono ?_
  rintro e w2 ⟨a', c', rfl, ho, hB2⟩
  have HX2 := Lib.hid (HX.out.same hB2)
  have HY2 := Lib.hid (HY.out.same hB2)
  have HO2 := Lib.hid ho
  have HB2 := Lib.hid (HB.out.trans (hB2.mono HB.out.size))
  clear ho hB2 HCT
  obtain ⟨c0, c1, c2, c3, c4, c5⟩ := HX2.out.c
  have f0 := HX2.out.free 5
  go_upto_region 2 with fail
  obtain ⟨w3, hw3⟩ : ∃ w3, w3 = w2.setCell ⟨wg, 5, none⟩ (.slice a' h.m c') := ⟨_, rfl⟩
  rw [← hw3]
  have HX3 := Lib.hid (show HAt w3 wg h a' c' by rw [hw3]; exact HX2.out.s5 _ _ _ _ _)
  have HY3 := Lib.hid (show HAt w3 (wg + 1) hz none 0 from HY2.out.oth (by rw [hw3]; exact heap_setCell_other _ _ _ _ (fun e => by have e2 : wg + 1 = wg := e; omega)))
  have HO3 := Lib.hid (own_oth (w' := w3) HO2.out (fun g hg _ => by rw [hw3]; exact heap_setCell_other _ _ _ _ (fun e => by have e2 : g = wg := e; have := HSZ.out; omega)))
  have HB3 := Lib.hid (show Below w.heap.size w w3 by rw [hw3]; exact HB2.out.setCell (by have := HWG.out; show w.heap.size ≤ wg; omega) _)
  clear hw3 c0 c1 c2 c3 c4 c5 f0 HX2 HY2 HO2 HB2
  have HRW := Lib.hid (show w3.heap[wg + 1]? = some (.cells #[.int .i64 0, .int .i64 0, .int .i64 0, .int .i64 0, .int .i64 0, .slice none 0 0] 24 (0, 0)) from HY3.out)
  obtain ⟨c0, c1, c2, c3, c4, c5⟩ := HX3.out.c
  go_wp2_with (show wpList _ _ _ (⟨none, _, _, _, _, _⟩ :: _) _ _; refine wpList_store_row rfl 24 _ _ rfl (wg + 1) #[.int .i64 h.S, .int .i64 h.F, .int .i64 h.I, .int .i64 h.N, .int .i64 h.D, .slice a' h.m c'] rfl rfl 24 _ HRW.out (by kernel_rfl) rfl (by simp [Value.oneCell']) ?_)
  have hset : w3.heap[wg + 1]? = some (.cells #[.int .i64 0, .int .i64 0, .int .i64 0, .int .i64 0, .int .i64 0, .slice none 0 0] 24 (0, 0)) := HRW.out
  refine bodyPost_ret (results_cell_row rfl _ _ (wg + 1) _ _ (0, 0) _ rfl (setRow_heap _ _ _ _ _ _ hset) Try.underlying24 rfl (by kernel_rfl)) rfl ⟨a', c', rfl, ?_, ?_⟩
  · exact own_mono (own_oth HO3.out fun g hg _ => setRow_other w3 (wg + 1) g _ (by have := HSZ.out; omega)) HB.out.size
  · exact HB3.out.trans ⟨rfl, rfl, rfl, by simp, fun k hk => setRow_other w3 (wg + 1) k _ (by have := HWG.out; omega)⟩
theorem xor_one_ne (S : Int) : bits .xor .i64 S 1 ≠ S := by
  intro h
  have h2 : IntKind.i64.wrap ((BitVec.ofInt 64 S ^^^ BitVec.ofInt 64 1).toNat : Int) = S := h
  have h3 : (BitVec.ofInt 64 S).toNat = (S % 2 ^ 64).toNat := BitVec.toNat_ofInt ..
  have h1 : (BitVec.ofInt 64 1).toNat = 1 := by decide
  rw [IntKind.wrap_i64, BitVec.toNat_xor, h1, h3] at h2
  obtain ⟨n, hn⟩ : ∃ n, n = (S % 2 ^ 64).toNat := ⟨_, rfl⟩
  rw [← hn] at h2
  obtain ⟨m, hm⟩ : ∃ m, m = n ^^^ 1 := ⟨_, rfl⟩
  rw [← hm] at h2
  have hb : (n ^^^ 1).testBit 0 = (n.testBit 0 ^^ (1 : Nat).testBit 0) := Nat.testBit_xor ..
  rw [← hm, Nat.testBit_zero, Nat.testBit_zero, Nat.testBit_zero] at hb
  have hp : m % 2 ≠ n % 2 := fun e => by
    rw [e] at hb
    cases hd : decide (n % 2 = 1) <;> rw [hd] at hb <;> simp at hb
  omega
/-- a row's length that is stored anew. -/
theorem tb_setL {w : World} {B g n c k : Nat} {K L : Nat → Int} {y : Int} (ho : w.ownsRow B 42 2 (.slice (some ⟨g, 0, none⟩) n c) n (tdl K L n)) (hk : k < n) :
    Tb (w.setCell ⟨g, k * 2 + 1, none⟩ (.int .i64 y)) (some ⟨g, 0, none⟩) n K (fun i => if i = k then y else L i) := ⟨fun i hi => by
  have hs := (ho.stored (k * 2 + 1) (.int .i64 y)).1
  obtain ⟨t1, t2⟩ := tdl_at K L n i hi
  refine ⟨g, 0, rfl, ?_, ?_⟩
  · rw [Nat.zero_add, hs.cellAt _ (by omega), List.getElem?_set_ne (by omega)]; exact t1
  · rw [Nat.zero_add, hs.cellAt _ (by omega)]
    by_cases e : i = k
    · subst e
      rw [List.getElem?_set_self (by rw [tdl_len]; omega), if_pos rfl]
    · rw [List.getElem?_set_ne (by omega), if_neg e]; exact t2⟩
theorem tb_gr {w w' : World} {a : Option Addr} {n : Nat} {K L : Nat → Int} (h : Tb w a n K L) (hk : ∀ ad, a = some ad → w'.heap[ad.block]? = w.heap[ad.block]?) : Tb w' a n K L := ⟨fun i hi => by
  obtain ⟨b, o, e, h1, h2⟩ := h.cell i hi
  have hb := hk _ e
  refine ⟨b, o, e, ?_, ?_⟩
  · unfold World.cell? at h1 ⊢
    simp only at h1 hb ⊢
    rw [hb]; exact h1
  · unfold World.cell? at h2 ⊢
    simp only at h2 hb ⊢
    rw [hb]; exact h2⟩
theorem HAt.grow {w w' : World} {g c : Nat} {h : Hr} {a : Option Addr} {row : Option Nat} (x : HAt w g h a c) (hg : w.grownBy w' row) (hr : some g ≠ row) : HAt w' g h a c := x.oth (hg.block g x.lt hr)
theorem ownNe {w : World} {B s n g : Nat} {e : TypeId} {v : Value} {xs : List Value} (h : w.ownsRow B e s v n xs) (hg : g < B) : some g ≠ v.ownBlock := fun q => by
  have := (h.lt g q.symm).1
  omega
theorem ownNe9 {a : Option Addr} {n c g : Nat} (h : ∀ q : Addr, a = some q → q.block ≠ g) : some g ≠ (Value.slice a n c).ownBlock := fun q => by
  cases a with
  | none => cases q
  | some ad => exact h ad rfl (Option.some.inj q).symm
theorem lh_refl (h : Hr) : LH h h := ⟨rfl, rfl, rfl, rfl, rfl, fun _ _ => ⟨rfl, rfl⟩⟩
theorem lh_symm {h g : Hr} (e : LH h g) : LH g h := by
  obtain ⟨e1, e2, e3, e4, e5, e6⟩ := e
  exact ⟨e1.symm, e2.symm, e3.symm, e4.symm, e5.symm, fun i hi => ⟨(e6 i (by omega)).1.symm, (e6 i (by omega)).2.symm⟩⟩
/-- what Like tells of two that lie in this world. -/
theorem like_at {wb : World} {h g : Hr} {a b : Option Addr} {c d : Nat} {x : Bool} (hx : x = true ↔ LH h g) (hn : h.m ≤ 140737488355328) (hm : g.m ≤ 140737488355328) (hT : Tb wb a h.m h.K h.L) (hU : Tb wb b g.m g.K g.L) (W : World) (hW : Below wb.heap.size wb W) :
    Calls Try.prog 15 #[hV h a c, hV g b d] W fun e w' => e = .returned (.bool x) ∧ Below W.heap.size W w' :=
  (phlike_any h g a b c d hn hm W (hT.same hW) (hU.same hW)).mono fun e w' ⟨⟨v, he, hv⟩, hB⟩ => ⟨by
    rw [he]
    have : v = x := by rw [Bool.eq_iff_iff]; exact hv.trans hx.symm
    rw [this], hB⟩
set_option maxHeartbeats 8000000 in
set_option maxRecDepth 100000 in
theorem headLike_any (h g : Hr) (a b : Option Addr) (c d : Nat) (hn : h.m ≤ 8796093022208) (hm : g.m ≤ 8796093022208) (ix tn : Int) (w : World) (hT : Tb w a h.m h.K h.L) (hU : Tb w b g.m g.K g.L) (hnil : a = none → h.m = 0 ∧ c = 0) :
    Calls Try.prog 4 #[hV h a c, hV g b d, .int .i64 ix, .int .i64 tn] w fun e w' => e = .returned (.bool true) ∧ Below w.heap.size w w' := by
  obtain ⟨w0, hw0⟩ : ∃ w0, w0 = w.alloc (.cells #[.int .i64 h.S, .int .i64 h.F, .int .i64 h.I, .int .i64 h.N, .int .i64 h.D, .slice a h.m c] 24) := ⟨_, rfl⟩
  obtain ⟨w1, hw1⟩ : ∃ w1, w1 = w0.alloc (.cells #[.int .i64 g.S, .int .i64 g.F, .int .i64 g.I, .int .i64 g.N, .int .i64 g.D, .slice b g.m d] 24) := ⟨_, rfl⟩
  have hz0 : w0.heap.size = w.heap.size + 1 := by rw [hw0, World.size_alloc]
  have hb0 : Below w.heap.size w w0 := by rw [hw0]; exact (Below.refl _ w).alloc (Nat.le_refl _) _
  have hb1 : Below w0.heap.size w0 w1 := by rw [hw1]; exact (Below.refl _ w0).alloc (Nat.le_refl _) _
  have hq0 : HAt w0 w.heap.size h a c := by rw [hw0]; exact heap_alloc_new _ _
  have HX := Lib.hid (hq0.same hb1)
  have HY := Lib.hid (show HAt w1 (w.heap.size + 1) g b d by rw [hw1, ← hz0]; exact heap_alloc_new _ _)
  have HB := Lib.hid (hb0.trans (hb1.mono hb0.size))
  have HW := Lib.hid (show w1 = (w.alloc (.cells #[.int .i64 h.S, .int .i64 h.F, .int .i64 h.I, .int .i64 h.N, .int .i64 h.D, .slice a h.m c] 24)).alloc (.cells #[.int .i64 g.S, .int .i64 g.F, .int .i64 g.I, .int .i64 g.N, .int .i64 g.D, .slice b g.m d] 24) by rw [hw1, hw0])
  have HT := Lib.hid hT; have HU := Lib.hid hU
  have HCH := Lib.hid (fun hn W hT => copyHead_any h a c hn W hT hnil)
  obtain ⟨wg, hwg⟩ : ∃ wg, wg = w.heap.size := ⟨_, rfl⟩
  rw [← hwg] at HX HY
  have HWG := Lib.hid hwg
  unfold hV at HCH ⊢
  clear hw0 hw1 hz0 hb0 hb1 hq0 hT hU hnil
  go_enter Try.func4, Try.ntmps4
  go_upto_region 1 with fail
  rw [← HW.out, ← hwg]
  clear hwg HW
  go_wp2_with fail
  refine (awake14_any w1).mono ?_
  rintro e w2 ⟨rfl, hB2⟩
  have HX2 := Lib.hid (HX.out.same hB2)
  have HY2 := Lib.hid (HY.out.same hB2)
  have HB2 := Lib.hid (HB.out.trans (hB2.mono HB.out.size))
  clear hB2 HX HY HB
  obtain ⟨c0, c1, c2, c3, c4, c5⟩ := HX2.out.c
  obtain ⟨d0, d1, d2, d3, d4, d5⟩ := HY2.out.c
  by_cases hbig : h.m + g.m ≤ 20000
  rotate_left
  · have j1 : (20000 : Int) < (h.m : Int) + (g.m : Int) := by omega
    go_wp2
    go_ret
    exact ⟨rfl, HB2.out⟩
  have j1 : ¬ (20000 : Int) < (h.m : Int) + (g.m : Int) := by omega
  have HBIG := Lib.hid hbig
  clear hbig
  go_wp2_with fail
  clear c0 c1 c2 c3 c4 c5 d0 d1 d2 d3 d4 d5 j1 hn hm
  refine (HCH.out (by have := HBIG.out; omega) w2 (HT.out.same HB2.out)).mono ?_
  rintro e w3 ⟨a', c', rfl, ho, hB3⟩
  have HX3 := Lib.hid (HX2.out.same hB3)
  have HY3 := Lib.hid (HY2.out.same hB3)
  have HB3 := Lib.hid (HB2.out.trans (hB3.mono HB2.out.size))
  have HO3 := Lib.hid (own_mono ho (show wg + 2 ≤ w2.heap.size by have := HY2.out.lt; omega))
  clear ho hB3 HX2 HY2 HB2 HCH
  go_upto_region 6 with fail
  obtain ⟨w4, hw4⟩ : ∃ w4, w4 = w3.alloc (.cells #[.int .i64 h.S, .int .i64 h.F, .int .i64 h.I, .int .i64 h.N, .int .i64 h.D, .slice a' h.m c'] 24) := ⟨_, rfl⟩
  rw [← hw4]
  have hb4 : Below w3.heap.size w3 w4 := by rw [hw4]; exact (Below.refl _ w3).alloc (Nat.le_refl _) _
  have HZ4 := Lib.hid (show HAt w4 w3.heap.size h a' c' by rw [hw4]; exact heap_alloc_new _ _)
  have HX4 := Lib.hid (HX3.out.same hb4)
  have HY4 := Lib.hid (HY3.out.same hb4)
  have HB4 := Lib.hid (HB3.out.trans (hb4.mono HB3.out.size))
  have HO4 := Lib.hid (own_be HO3.out hb4)
  have HOL := Lib.hid (HO3.out.lt)
  obtain ⟨g9, hg9⟩ : ∃ g9, g9 = w3.heap.size := ⟨_, rfl⟩
  rw [← hg9] at HZ4 HOL ⊢
  have HG9 := Lib.hid (show wg + 2 ≤ g9 by rw [hg9]; have := HY3.out.lt; omega)
  clear hw4 hb4 hg9 HX3 HY3 HB3 HO3
  obtain ⟨c0, c1, c2, c3, c4, c5⟩ := HZ4.out.c
  have f0 := HZ4.out.free 2
  go_upto_region 7 with fail
  obtain ⟨w5, hw5⟩ : ∃ w5, w5 = w4.setCell ⟨g9, 2, none⟩ (.int .i64 ix) := ⟨_, rfl⟩
  rw [← hw5]
  obtain ⟨k, hk⟩ : ∃ k : Hr, k = ⟨h.S, h.F, ix, h.N, h.D, h.m, h.K, h.L⟩ := ⟨_, rfl⟩
  have HZ5 := Lib.hid (show HAt w5 g9 k a' c' by rw [hw5, hk]; exact HZ4.out.s2 ix)
  have HX5 := Lib.hid (show HAt w5 wg h a c from HX4.out.oth (by rw [hw5]; exact heap_setCell_other _ _ _ _ (fun e => by have e2 : wg = g9 := e; have := HG9.out; omega)))
  have HY5 := Lib.hid (show HAt w5 (wg + 1) g b d from HY4.out.oth (by rw [hw5]; exact heap_setCell_other _ _ _ _ (fun e => by have e2 : wg + 1 = g9 := e; have := HG9.out; omega)))
  have HB5 := Lib.hid (show Below w.heap.size w w5 by rw [hw5]; exact HB4.out.setCell (by have := HWG.out; have := HG9.out; show w.heap.size ≤ g9; omega) _)
  have HO5 := Lib.hid (show w5.ownsRow (wg + 2) 42 2 (.slice a' h.m c') h.m (tdl h.K h.L h.m) by
    rw [hw5]
    refine HO4.out.kept (row := some g9) ⟨rfl, rfl, rfl, by simp, fun j _ hj => heap_setCell_other _ _ _ _ (fun e => hj (by rw [show j = g9 from e]))⟩ ?_
    cases a' with
    | none => exact Or.inl rfl
    | some ad => exact Or.inr (fun e => by
        have h1 := (HOL.out ad.block rfl).2
        have e2 : ad.block = g9 := Option.some.inj e
        omega))
  have HKK := Lib.hid hk
  have HCE := Lib.hid (show k.S = h.S ∧ k.F = h.F ∧ k.N = h.N ∧ k.D = h.D ∧ k.m = h.m ∧ k.K = h.K ∧ k.L = h.L by rw [hk]; exact ⟨rfl, rfl, rfl, rfl, rfl, rfl, rfl⟩)
  have HON := Lib.hid (show ∀ q : Addr, a' = some q → q.block ≠ g9 from fun q e => by subst e; have h1 := (HOL.out q.block rfl).2; omega)
  clear hw5 hk c0 c1 c2 c3 c4 c5 f0 HX4 HY4 HZ4 HB4 HO4 HOL
  have HTA := Lib.hid (HT.out.same HB5.out)
  have HTB := Lib.hid (HU.out.same HB5.out)
  have HTC := Lib.hid (show Tb w5 a' k.m k.K k.L by obtain ⟨_, _, _, _, e5, e6, e7⟩ := HCE.out; rw [e5, e6, e7]; exact (tdl_tb HO5.out).1)
  obtain ⟨x, hx⟩ : ∃ x : Bool, x = true ↔ LH h g := by
    by_cases q : LH h g
    · exact ⟨true, by simp [q]⟩
    · exact ⟨false, by simp [q]⟩
  have hak : LH h k := by obtain ⟨e1, e2, e3, e4, e5, e6, e7⟩ := HCE.out; exact ⟨e1.symm, e2.symm, e3.symm, e4.symm, e5.symm, fun i _ => ⟨by rw [e6], by rw [e7]⟩⟩
  have lt : ∀ {x y z : Hr}, LH x y → LH y z → LH x z := fun p q => ⟨p.1.trans q.1, p.2.1.trans q.2.1, p.2.2.1.trans q.2.2.1, p.2.2.2.1.trans q.2.2.2.1, p.2.2.2.2.1.trans q.2.2.2.2.1, fun i hi => ⟨(p.2.2.2.2.2 i hi).1.trans (q.2.2.2.2.2 i (by have := p.2.2.2.2.1; omega)).1, (p.2.2.2.2.2 i hi).2.trans (q.2.2.2.2.2 i (by have := p.2.2.2.2.1; omega)).2⟩⟩
  have b1 : h.m ≤ 140737488355328 := by have := HBIG.out; omega
  have b2 : g.m ≤ 140737488355328 := by have := HBIG.out; omega
  have b3 : k.m ≤ 140737488355328 := by have := HBIG.out; rw [HCE.out.2.2.2.2.1]; omega
  have HAA := Lib.hid (fun W => like_at (c := c) (d := c) (x := true) (show true = true ↔ LH h h from ⟨fun _ => lh_refl h, fun _ => rfl⟩) b1 b1 HTA.out HTA.out W)
  have HAC := Lib.hid (fun W => like_at (c := c) (d := c') (x := true) (show true = true ↔ LH h k from ⟨fun _ => hak, fun _ => rfl⟩) b1 b3 HTA.out HTC.out W)
  have HCA := Lib.hid (fun W => like_at (c := c') (d := c) (x := true) (show true = true ↔ LH k h from ⟨fun _ => lh_symm hak, fun _ => rfl⟩) b3 b1 HTC.out HTA.out W)
  have HAB := Lib.hid (fun W => like_at (c := c) (d := d) (x := x) hx b1 b2 HTA.out HTB.out W)
  have HBA := Lib.hid (fun W => like_at (c := d) (d := c) (x := x) (hx.trans ⟨lh_symm, lh_symm⟩) b2 b1 HTB.out HTA.out W)
  have HCB := Lib.hid (fun W => like_at (c := c') (d := d) (x := x) (hx.trans ⟨fun q => lt (lh_symm hak) q, fun q => lt hak q⟩) b3 b2 HTC.out HTB.out W)
  unfold hV at HAA HAC HCA HAB HBA HCB
  clear hx hak lt b1 b2 b3
  obtain ⟨c0, c1, c2, c3, c4, c5⟩ := HX5.out.c
  obtain ⟨d0, d1, d2, d3, d4, d5⟩ := HY5.out.c
  obtain ⟨k0, k1, k2, k3, k4, k5⟩ := HZ5.out.c
  have yc0 := fun d os => cell_regrown c0 d os
  have yc1 := fun d os => cell_regrown c1 d os
  have yc2 := fun d os => cell_regrown c2 d os
  have yc3 := fun d os => cell_regrown c3 d os
  have yc4 := fun d os => cell_regrown c4 d os
  have yc5 := fun d os => cell_regrown c5 d os
  have yd0 := fun d os => cell_regrown d0 d os
  have yd1 := fun d os => cell_regrown d1 d os
  have yd2 := fun d os => cell_regrown d2 d os
  have yd3 := fun d os => cell_regrown d3 d os
  have yd4 := fun d os => cell_regrown d4 d os
  have yd5 := fun d os => cell_regrown d5 d os
  have yk0 := fun d os => cell_regrown k0 d os
  have yk1 := fun d os => cell_regrown k1 d os
  have yk2 := fun d os => cell_regrown k2 d os
  have yk3 := fun d os => cell_regrown k3 d os
  have yk4 := fun d os => cell_regrown k4 d os
  have yk5 := fun d os => cell_regrown k5 d os
  have gx : (x != x) = false := by cases x <;> rfl
  refine wp_region_quiet_below (by kernel_rfl) (by kernel_rfl) ?_
  repeat (go_big_quiet_step ((go_at_call 15; first
    | (with_reducible exact Calls.regrown_of (HAA.out _ (below_regrown _ _ _)))
    | (with_reducible exact Calls.regrown_of (HAC.out _ (below_regrown _ _ _)))
    | (with_reducible exact Calls.regrown_of (HCA.out _ (below_regrown _ _ _)))
    | (with_reducible exact Calls.regrown_of (HAB.out _ (below_regrown _ _ _)))
    | (with_reducible exact Calls.regrown_of (HBA.out _ (below_regrown _ _ _)))
    | (with_reducible exact Calls.regrown_of (HCB.out _ (below_regrown _ _ _))))))
  refine wpQuiet_nil ?_
  rintro W1 ⟨pq, hW1⟩
  have hB1 : Below w5.heap.size w5 W1 := by rw [hW1]; exact below_regrown _ _ _
  have HX6 := Lib.hid (HX5.out.same hB1)
  have HZ6 := Lib.hid (HZ5.out.same hB1)
  have HB6 := Lib.hid (HB5.out.trans (hB1.mono HB5.out.size))
  have HO6 := Lib.hid (show W1.ownsRow (wg + 2) 42 2 (.slice a' k.m c') k.m (tdl k.K k.L k.m) by obtain ⟨_, _, _, _, e5, e6, e7⟩ := HCE.out; rw [e5, e6, e7]; exact own_be HO5.out hB1)
  have HTA6 := Lib.hid (HTA.out.same hB1)
  clear hW1 hB1 HAA HAC HCA HAB HBA HCB HTA HTB HTC HX5 HY5 HZ5 HB5 HO5 gx
  clear c0 c1 c2 c3 c4 c5 d0 d1 d2 d3 d4 d5 k0 k1 k2 k3 k4 k5
  clear yc0 yc1 yc2 yc3 yc4 yc5 yd0 yd1 yd2 yd3 yd4 yd5 yk0 yk1 yk2 yk3 yk4 yk5
  go_wp2_with fail
  refine (spick_any tn 6 (by decide) (by decide) W1).mono ?_
  rintro e w7 ⟨⟨r, hr, rfl⟩, rfl⟩
  obtain ⟨c0, c1, c2, c3, c4, c5⟩ := HX6.out.c
  obtain ⟨k0, k1, k2, k3, k4, k5⟩ := HZ6.out.c
  by_cases hr0 : r = 0
  · have g0 : ((r : Int) == 0) = true := by simp; omega
    clear hr0 hr 
    have f0 := HZ6.out.free 0
    go_upto_region 25 with fail
    obtain ⟨y, hy⟩ : ∃ y, y = bits .xor .i64 h.S 1 := ⟨_, rfl⟩
    rw [← hy]
    obtain ⟨w8, hw8⟩ : ∃ w8, w8 = w7.setCell ⟨g9, 0, none⟩ (.int .i64 y) := ⟨_, rfl⟩
    rw [← hw8]
    have HZ8 := Lib.hid (show HAt w8 g9 ⟨y, k.F, k.I, k.N, k.D, k.m, k.K, k.L⟩ a' c' by rw [hw8]; exact HZ6.out.s0 _)
    have hoth : ∀ j, j ≠ g9 → w8.heap[j]? = w7.heap[j]? := fun j hj => by rw [hw8]; exact heap_setCell_other _ _ _ _ hj
    have HX8 := Lib.hid (show HAt w8 wg h a c from HX6.out.oth (hoth wg (by have := HG9.out; omega)))
    have HTA8 := Lib.hid (HT.out.same (show Below w.heap.size w w8 by rw [hw8]; exact HB6.out.setCell (by have := HWG.out; have := HG9.out; show w.heap.size ≤ g9; omega) _))
    have HB8 := Lib.hid (show Below w.heap.size w w8 by rw [hw8]; exact HB6.out.setCell (by have := HWG.out; have := HG9.out; show w.heap.size ≤ g9; omega) _)
    have HTK8 := Lib.hid (show Tb w8 a' k.m k.K k.L from tb_gr (tdl_tb HO6.out).1 (fun q hq => hoth q.block (HON.out q hq)))
    have HNE := Lib.hid (show y ≠ h.S by rw [hy]; exact xor_one_ne _)
    clear hy hw8 hoth
    clear c0 c1 c2 c3 c4 c5 k0 k1 k2 k3 k4 k5 f0
    have HNO := Lib.hid (show ¬ LH h ⟨y, k.F, k.I, k.N, k.D, k.m, k.K, k.L⟩ from fun q => HNE.out q.1.symm)
    have HHK := Lib.hid (fun W => like_at (wb := w8) (h := h) (g := ⟨y, k.F, k.I, k.N, k.D, k.m, k.K, k.L⟩) (a := a) (b := a') (c := c) (d := c') (x := false) ⟨fun q => (by cases q), fun q => absurd q HNO.out⟩ (by have := HBIG.out; omega) (by have := HBIG.out; show k.m ≤ _; rw [HCE.out.2.2.2.2.1]; omega) HTA8.out HTK8.out W)
    have HKH := Lib.hid (fun W => like_at (wb := w8) (h := ⟨y, k.F, k.I, k.N, k.D, k.m, k.K, k.L⟩) (g := h) (a := a') (b := a) (c := c') (d := c) (x := false) ⟨fun q => (by cases q), fun q => absurd (lh_symm q) HNO.out⟩ (by have := HBIG.out; show k.m ≤ _; rw [HCE.out.2.2.2.2.1]; omega) (by have := HBIG.out; omega) HTK8.out HTA8.out W)
    unfold hV at HHK HKH
    obtain ⟨c0, c1, c2, c3, c4, c5⟩ := HX8.out.c
    obtain ⟨k0, k1, k2, k3, k4, k5⟩ := HZ8.out.c
    go_wp2_with fail
    clear c0 c1 c2 c3 c4 c5 k0 k1 k2 k3 k4 k5
    refine (HHK.out w8 (Below.refl _ _)).mono ?_
    rintro e w9 ⟨rfl, hB9⟩
    have HX9 := Lib.hid (HX8.out.same hB9)
    have HZ9 := Lib.hid (HZ8.out.same hB9)
    obtain ⟨c0, c1, c2, c3, c4, c5⟩ := HX9.out.c
    obtain ⟨k0, k1, k2, k3, k4, k5⟩ := HZ9.out.c
    have HB9 := Lib.hid hB9
    clear hB9
    go_wp2_with fail
    clear c0 c1 c2 c3 c4 c5 k0 k1 k2 k3 k4 k5
    refine (HKH.out w9 HB9.out).mono ?_
    rintro e wa ⟨rfl, hBa⟩
    have HBa := Lib.hid (HB8.out.trans ((HB9.out.trans (hBa.mono HB9.out.size)).mono HB8.out.size))
    clear hBa HB9 HHK HKH
    go_wp2
    go_ret
    exact ⟨rfl, HBa.out⟩
  by_cases hr1 : r = 1
  · have g0 : ((r : Int) == 0) = false := by simp; omega
    have g1 : ((r : Int) == 1) = true := by simp; omega
    clear hr1 hr hr0
    have f0 := HZ6.out.free 1
    go_upto_region 25 with fail
    obtain ⟨y, hy⟩ : ∃ y, y = bits .xor .i64 h.F 1 := ⟨_, rfl⟩
    rw [← hy]
    obtain ⟨w8, hw8⟩ : ∃ w8, w8 = w7.setCell ⟨g9, 1, none⟩ (.int .i64 y) := ⟨_, rfl⟩
    rw [← hw8]
    have HZ8 := Lib.hid (show HAt w8 g9 ⟨k.S, y, k.I, k.N, k.D, k.m, k.K, k.L⟩ a' c' by rw [hw8]; exact HZ6.out.s1 _)
    have hoth : ∀ j, j ≠ g9 → w8.heap[j]? = w7.heap[j]? := fun j hj => by rw [hw8]; exact heap_setCell_other _ _ _ _ hj
    have HX8 := Lib.hid (show HAt w8 wg h a c from HX6.out.oth (hoth wg (by have := HG9.out; omega)))
    have HTA8 := Lib.hid (HT.out.same (show Below w.heap.size w w8 by rw [hw8]; exact HB6.out.setCell (by have := HWG.out; have := HG9.out; show w.heap.size ≤ g9; omega) _))
    have HB8 := Lib.hid (show Below w.heap.size w w8 by rw [hw8]; exact HB6.out.setCell (by have := HWG.out; have := HG9.out; show w.heap.size ≤ g9; omega) _)
    have HTK8 := Lib.hid (show Tb w8 a' k.m k.K k.L from tb_gr (tdl_tb HO6.out).1 (fun q hq => hoth q.block (HON.out q hq)))
    have HNE := Lib.hid (show y ≠ h.F by rw [hy]; exact xor_one_ne _)
    clear hy hw8 hoth
    clear c0 c1 c2 c3 c4 c5 k0 k1 k2 k3 k4 k5 f0
    have HNO := Lib.hid (show ¬ LH h ⟨k.S, y, k.I, k.N, k.D, k.m, k.K, k.L⟩ from fun q => HNE.out q.2.1.symm)
    have HHK := Lib.hid (fun W => like_at (wb := w8) (h := h) (g := ⟨k.S, y, k.I, k.N, k.D, k.m, k.K, k.L⟩) (a := a) (b := a') (c := c) (d := c') (x := false) ⟨fun q => (by cases q), fun q => absurd q HNO.out⟩ (by have := HBIG.out; omega) (by have := HBIG.out; show k.m ≤ _; rw [HCE.out.2.2.2.2.1]; omega) HTA8.out HTK8.out W)
    have HKH := Lib.hid (fun W => like_at (wb := w8) (h := ⟨k.S, y, k.I, k.N, k.D, k.m, k.K, k.L⟩) (g := h) (a := a') (b := a) (c := c') (d := c) (x := false) ⟨fun q => (by cases q), fun q => absurd (lh_symm q) HNO.out⟩ (by have := HBIG.out; show k.m ≤ _; rw [HCE.out.2.2.2.2.1]; omega) (by have := HBIG.out; omega) HTK8.out HTA8.out W)
    unfold hV at HHK HKH
    obtain ⟨c0, c1, c2, c3, c4, c5⟩ := HX8.out.c
    obtain ⟨k0, k1, k2, k3, k4, k5⟩ := HZ8.out.c
    go_wp2_with fail
    clear c0 c1 c2 c3 c4 c5 k0 k1 k2 k3 k4 k5
    refine (HHK.out w8 (Below.refl _ _)).mono ?_
    rintro e w9 ⟨rfl, hB9⟩
    have HX9 := Lib.hid (HX8.out.same hB9)
    have HZ9 := Lib.hid (HZ8.out.same hB9)
    obtain ⟨c0, c1, c2, c3, c4, c5⟩ := HX9.out.c
    obtain ⟨k0, k1, k2, k3, k4, k5⟩ := HZ9.out.c
    have HB9 := Lib.hid hB9
    clear hB9
    go_wp2_with fail
    clear c0 c1 c2 c3 c4 c5 k0 k1 k2 k3 k4 k5
    refine (HKH.out w9 HB9.out).mono ?_
    rintro e wa ⟨rfl, hBa⟩
    have HBa := Lib.hid (HB8.out.trans ((HB9.out.trans (hBa.mono HB9.out.size)).mono HB8.out.size))
    clear hBa HB9 HHK HKH
    go_wp2
    go_ret
    exact ⟨rfl, HBa.out⟩
  by_cases hr2 : r = 2
  · have g0 : ((r : Int) == 0) = false := by simp; omega
    have g1 : ((r : Int) == 1) = false := by simp; omega
    have g2 : ((r : Int) == 2) = true := by simp; omega
    clear hr2 hr hr0 hr1
    have f0 := HZ6.out.free 3
    go_upto_region 25 with fail
    obtain ⟨y, hy⟩ : ∃ y, y = bits .xor .i64 h.N 1 := ⟨_, rfl⟩
    rw [← hy]
    obtain ⟨w8, hw8⟩ : ∃ w8, w8 = w7.setCell ⟨g9, 3, none⟩ (.int .i64 y) := ⟨_, rfl⟩
    rw [← hw8]
    have HZ8 := Lib.hid (show HAt w8 g9 ⟨k.S, k.F, k.I, y, k.D, k.m, k.K, k.L⟩ a' c' by rw [hw8]; exact HZ6.out.s3 _)
    have hoth : ∀ j, j ≠ g9 → w8.heap[j]? = w7.heap[j]? := fun j hj => by rw [hw8]; exact heap_setCell_other _ _ _ _ hj
    have HX8 := Lib.hid (show HAt w8 wg h a c from HX6.out.oth (hoth wg (by have := HG9.out; omega)))
    have HTA8 := Lib.hid (HT.out.same (show Below w.heap.size w w8 by rw [hw8]; exact HB6.out.setCell (by have := HWG.out; have := HG9.out; show w.heap.size ≤ g9; omega) _))
    have HB8 := Lib.hid (show Below w.heap.size w w8 by rw [hw8]; exact HB6.out.setCell (by have := HWG.out; have := HG9.out; show w.heap.size ≤ g9; omega) _)
    have HTK8 := Lib.hid (show Tb w8 a' k.m k.K k.L from tb_gr (tdl_tb HO6.out).1 (fun q hq => hoth q.block (HON.out q hq)))
    have HNE := Lib.hid (show y ≠ h.N by rw [hy]; exact xor_one_ne _)
    clear hy hw8 hoth
    clear c0 c1 c2 c3 c4 c5 k0 k1 k2 k3 k4 k5 f0
    have HNO := Lib.hid (show ¬ LH h ⟨k.S, k.F, k.I, y, k.D, k.m, k.K, k.L⟩ from fun q => HNE.out q.2.2.1.symm)
    have HHK := Lib.hid (fun W => like_at (wb := w8) (h := h) (g := ⟨k.S, k.F, k.I, y, k.D, k.m, k.K, k.L⟩) (a := a) (b := a') (c := c) (d := c') (x := false) ⟨fun q => (by cases q), fun q => absurd q HNO.out⟩ (by have := HBIG.out; omega) (by have := HBIG.out; show k.m ≤ _; rw [HCE.out.2.2.2.2.1]; omega) HTA8.out HTK8.out W)
    have HKH := Lib.hid (fun W => like_at (wb := w8) (h := ⟨k.S, k.F, k.I, y, k.D, k.m, k.K, k.L⟩) (g := h) (a := a') (b := a) (c := c') (d := c) (x := false) ⟨fun q => (by cases q), fun q => absurd (lh_symm q) HNO.out⟩ (by have := HBIG.out; show k.m ≤ _; rw [HCE.out.2.2.2.2.1]; omega) (by have := HBIG.out; omega) HTK8.out HTA8.out W)
    unfold hV at HHK HKH
    obtain ⟨c0, c1, c2, c3, c4, c5⟩ := HX8.out.c
    obtain ⟨k0, k1, k2, k3, k4, k5⟩ := HZ8.out.c
    go_wp2_with fail
    clear c0 c1 c2 c3 c4 c5 k0 k1 k2 k3 k4 k5
    refine (HHK.out w8 (Below.refl _ _)).mono ?_
    rintro e w9 ⟨rfl, hB9⟩
    have HX9 := Lib.hid (HX8.out.same hB9)
    have HZ9 := Lib.hid (HZ8.out.same hB9)
    obtain ⟨c0, c1, c2, c3, c4, c5⟩ := HX9.out.c
    obtain ⟨k0, k1, k2, k3, k4, k5⟩ := HZ9.out.c
    have HB9 := Lib.hid hB9
    clear hB9
    go_wp2_with fail
    clear c0 c1 c2 c3 c4 c5 k0 k1 k2 k3 k4 k5
    refine (HKH.out w9 HB9.out).mono ?_
    rintro e wa ⟨rfl, hBa⟩
    have HBa := Lib.hid (HB8.out.trans ((HB9.out.trans (hBa.mono HB9.out.size)).mono HB8.out.size))
    clear hBa HB9 HHK HKH
    go_wp2
    go_ret
    exact ⟨rfl, HBa.out⟩
  by_cases hr3 : r = 3
  · have g0 : ((r : Int) == 0) = false := by simp; omega
    have g1 : ((r : Int) == 1) = false := by simp; omega
    have g2 : ((r : Int) == 2) = false := by simp; omega
    have g3 : ((r : Int) == 3) = true := by simp; omega
    clear hr3 hr hr0 hr1 hr2
    have f0 := HZ6.out.free 4
    go_upto_region 25 with fail
    obtain ⟨y, hy⟩ : ∃ y, y = bits .xor .i64 h.D 1 := ⟨_, rfl⟩
    rw [← hy]
    obtain ⟨w8, hw8⟩ : ∃ w8, w8 = w7.setCell ⟨g9, 4, none⟩ (.int .i64 y) := ⟨_, rfl⟩
    rw [← hw8]
    have HZ8 := Lib.hid (show HAt w8 g9 ⟨k.S, k.F, k.I, k.N, y, k.m, k.K, k.L⟩ a' c' by rw [hw8]; exact HZ6.out.s4 _)
    have hoth : ∀ j, j ≠ g9 → w8.heap[j]? = w7.heap[j]? := fun j hj => by rw [hw8]; exact heap_setCell_other _ _ _ _ hj
    have HX8 := Lib.hid (show HAt w8 wg h a c from HX6.out.oth (hoth wg (by have := HG9.out; omega)))
    have HTA8 := Lib.hid (HT.out.same (show Below w.heap.size w w8 by rw [hw8]; exact HB6.out.setCell (by have := HWG.out; have := HG9.out; show w.heap.size ≤ g9; omega) _))
    have HB8 := Lib.hid (show Below w.heap.size w w8 by rw [hw8]; exact HB6.out.setCell (by have := HWG.out; have := HG9.out; show w.heap.size ≤ g9; omega) _)
    have HTK8 := Lib.hid (show Tb w8 a' k.m k.K k.L from tb_gr (tdl_tb HO6.out).1 (fun q hq => hoth q.block (HON.out q hq)))
    have HNE := Lib.hid (show y ≠ h.D by rw [hy]; exact xor_one_ne _)
    clear hy hw8 hoth
    clear c0 c1 c2 c3 c4 c5 k0 k1 k2 k3 k4 k5 f0
    have HNO := Lib.hid (show ¬ LH h ⟨k.S, k.F, k.I, k.N, y, k.m, k.K, k.L⟩ from fun q => HNE.out q.2.2.2.1.symm)
    have HHK := Lib.hid (fun W => like_at (wb := w8) (h := h) (g := ⟨k.S, k.F, k.I, k.N, y, k.m, k.K, k.L⟩) (a := a) (b := a') (c := c) (d := c') (x := false) ⟨fun q => (by cases q), fun q => absurd q HNO.out⟩ (by have := HBIG.out; omega) (by have := HBIG.out; show k.m ≤ _; rw [HCE.out.2.2.2.2.1]; omega) HTA8.out HTK8.out W)
    have HKH := Lib.hid (fun W => like_at (wb := w8) (h := ⟨k.S, k.F, k.I, k.N, y, k.m, k.K, k.L⟩) (g := h) (a := a') (b := a) (c := c') (d := c) (x := false) ⟨fun q => (by cases q), fun q => absurd (lh_symm q) HNO.out⟩ (by have := HBIG.out; show k.m ≤ _; rw [HCE.out.2.2.2.2.1]; omega) (by have := HBIG.out; omega) HTK8.out HTA8.out W)
    unfold hV at HHK HKH
    obtain ⟨c0, c1, c2, c3, c4, c5⟩ := HX8.out.c
    obtain ⟨k0, k1, k2, k3, k4, k5⟩ := HZ8.out.c
    go_wp2_with fail
    clear c0 c1 c2 c3 c4 c5 k0 k1 k2 k3 k4 k5
    refine (HHK.out w8 (Below.refl _ _)).mono ?_
    rintro e w9 ⟨rfl, hB9⟩
    have HX9 := Lib.hid (HX8.out.same hB9)
    have HZ9 := Lib.hid (HZ8.out.same hB9)
    obtain ⟨c0, c1, c2, c3, c4, c5⟩ := HX9.out.c
    obtain ⟨k0, k1, k2, k3, k4, k5⟩ := HZ9.out.c
    have HB9 := Lib.hid hB9
    clear hB9
    go_wp2_with fail
    clear c0 c1 c2 c3 c4 c5 k0 k1 k2 k3 k4 k5
    refine (HKH.out w9 HB9.out).mono ?_
    rintro e wa ⟨rfl, hBa⟩
    have HBa := Lib.hid (HB8.out.trans ((HB9.out.trans (hBa.mono HB9.out.size)).mono HB8.out.size))
    clear hBa HB9 HHK HKH
    go_wp2
    go_ret
    exact ⟨rfl, HBa.out⟩
  by_cases hr4 : r = 4
  · have g0 : ((r : Int) == 0) = false := by simp; omega
    have g1 : ((r : Int) == 1) = false := by simp; omega
    have g2 : ((r : Int) == 2) = false := by simp; omega
    have g3 : ((r : Int) == 3) = false := by simp; omega
    have g4 : ((r : Int) == 4) = true := by simp; omega
    clear hr4 hr hr0 hr1 hr2 hr3
    obtain ⟨i0, hi, hz0, hz1, hz2⟩ := info_parts Try.infoRowL
    have HI := Lib.hid hi; have HZ0 := Lib.hid hz0; have HZ1 := Lib.hid hz1; have HZ2 := Lib.hid hz2
    clear hi hz0 hz1 hz2
    have hb7 : Below w7.heap.size w7 (w7.alloc (.cells #[.int .i64 1, .int .i64 0] 42)) := (Below.refl _ w7).alloc (Nat.le_refl _) _
    have HOA := Lib.hid (own_be HO6.out hb7)
    have HXA := Lib.hid (HX6.out.same hb7)
    have HZA := Lib.hid (HZ6.out.same hb7)
    have HBA := Lib.hid (HB6.out.trans (hb7.mono HB6.out.size))
    have HSA := Lib.hid (show wg + 2 ≤ (w7.alloc (.cells #[.int .i64 1, .int .i64 0] 42)).heap.size by rw [World.size_alloc]; have := HZ6.out.lt; have := HG9.out; omega)
    have HKM := Lib.hid (show k.m ≤ 20000 by have := HBIG.out; rw [HCE.out.2.2.2.2.1]; omega)
    clear hb7
    go_upto_region 25 with (at_builtin; refine wpList_append_own _ rfl _ _ 22 rfl (wg + 2) 42 i0 (.agg #[.int .i64 0, .int .i64 0]) 2 16 Try.underlying22 HI.out HZ0.out HZ1.out HZ2.out rfl (by decide) (.slice a' k.m c') k.m (tdl k.K k.L k.m) rfl HOA.out ⟨w7.heap.size, 0, none⟩ 1 1 [.int .i64 1, .int .i64 0] rfl rfl (cell_new2 w7 _ _ _) (int_ones _ _) (by unfold maxLen; have := HKM.out; omega) (by have := HKM.out; omega) HSA.out ?_; intro v' wq hown hg _; obtain ⟨a2, cq2, rfl⟩ := own_sl hown; have HOQ := Lib.hid hown; have HGQ := Lib.hid hg; have hxq := HXA.out.grow HGQ.out (ownNe HOA.out (by omega)); have hzq := HZA.out.grow HGQ.out (ownNe9 HON.out); have HXQ := Lib.hid hxq; have HZQ := Lib.hid hzq; have HBQ := Lib.hid (HBA.out.grown HGQ.out (Nat.le_trans (by have := HWG.out; omega) HSA.out) (fun r e => Nat.le_trans (by have := HWG.out; omega) ((HOA.out.lt r e).1))); have f0 := HZQ.out.free 5; obtain ⟨k0, k1, k2, k3, k4, k5⟩ := HZQ.out.c; clear hown hg hxq hzq)
    obtain ⟨w8, hw8⟩ : ∃ w8, w8 = wq.setCell ⟨g9, 5, none⟩ (.slice a2 (k.m + 1) cq2) := ⟨_, rfl⟩
    rw [← hw8]
    obtain ⟨k2', hk2⟩ : ∃ k2' : Hr, k2' = ⟨k.S, k.F, k.I, k.N, k.D, k.m + 1, fun i => if i = k.m then 1 else k.K i, fun i => if i = k.m then 0 else k.L i⟩ := ⟨_, rfl⟩
    have HZ8 := Lib.hid (show HAt w8 g9 k2' a2 cq2 by rw [hw8, hk2]; exact HZQ.out.s5 _ _ _ _ _)
    have hoth : ∀ j, j ≠ g9 → w8.heap[j]? = wq.heap[j]? := fun j hj => by rw [hw8]; exact heap_setCell_other _ _ _ _ hj
    have HX8 := Lib.hid (show HAt w8 wg h a c from HXQ.out.oth (hoth wg (by have := HG9.out; omega)))
    have HB8 := Lib.hid (show Below w.heap.size w w8 by rw [hw8]; exact HBQ.out.setCell (by have := HWG.out; have := HG9.out; show w.heap.size ≤ g9; omega) _)
    have HTA8 := Lib.hid (HT.out.same HB8.out)
    have HTK8 := Lib.hid (show Tb w8 a2 k2'.m k2'.K k2'.L by
      have ho := HOQ.out
      have e1 : tdl k.K k.L k.m ++ [Value.int .i64 1, .int .i64 0] = tdl k2'.K k2'.L (k.m + 1) := by
        rw [hk2]
        show _ = tdl _ _ k.m ++ [_, _]
        rw [tdl_congr (K := fun i => if i = k.m then 1 else k.K i) (K' := k.K) (L := fun i => if i = k.m then 0 else k.L i) (L' := k.L) k.m (fun i hi => ⟨if_neg (by omega), if_neg (by omega)⟩)]
        simp
      rw [e1] at ho
      have hm2 : k2'.m = k.m + 1 := by rw [hk2]
      rw [hm2]
      refine tb_gr (tdl_tb ho).1 (fun q hq => hoth q.block (fun e => ?_))
      subst hq
      have h1 := ho.2
      rcases h1 with ⟨h1, _⟩ | ⟨g', _, _, h1, _, h3, _⟩
      · cases h1
      · cases h1
        have h4 : wq.heap[g9]? = some (.cells #[.int .i64 k.S, .int .i64 k.F, .int .i64 k.I, .int .i64 k.N, .int .i64 k.D, .slice a' k.m c'] 24 (0, 0)) := HZQ.out
        have e2 : g' = g9 := e
        rw [e2, h4] at h3
        simp at h3)
    have HNE := Lib.hid (show h.m ≠ k2'.m by rw [hk2]; show h.m ≠ k.m + 1; have := HCE.out.2.2.2.2.1; omega)
    have HK2 := Lib.hid (show k2'.m ≤ 20001 by rw [hk2]; show k.m + 1 ≤ _; have := HKM.out; omega)
    clear hk2 hw8 hoth HOQ HGQ HXQ HZQ HBQ HOA HXA HZA HBA HSA HI HZ0 HZ1 HZ2
    clear c0 c1 c2 c3 c4 c5 k0 k1 k2 k3 k4 k5 f0
    have HNO := Lib.hid (show ¬ LH h k2' from fun q => HNE.out q.2.2.2.2.1)
    have HHK := Lib.hid (fun W => like_at (wb := w8) (h := h) (g := k2') (a := a) (b := a2) (c := c) (d := cq2) (x := false) ⟨fun q => (by cases q), fun q => absurd q HNO.out⟩ (by have := HBIG.out; omega) (by have := HK2.out; omega) HTA8.out HTK8.out W)
    have HKH := Lib.hid (fun W => like_at (wb := w8) (h := k2') (g := h) (a := a2) (b := a) (c := cq2) (d := c) (x := false) ⟨fun q => (by cases q), fun q => absurd (lh_symm q) HNO.out⟩ (by have := HK2.out; omega) (by have := HBIG.out; omega) HTK8.out HTA8.out W)
    unfold hV at HHK HKH
    obtain ⟨c0, c1, c2, c3, c4, c5⟩ := HX8.out.c
    obtain ⟨k0, k1, k2, k3, k4, k5⟩ := HZ8.out.c
    go_wp2_with fail
    clear c0 c1 c2 c3 c4 c5 k0 k1 k2 k3 k4 k5
    refine (HHK.out w8 (Below.refl _ _)).mono ?_
    rintro e w9 ⟨rfl, hB9⟩
    have HX9 := Lib.hid (HX8.out.same hB9)
    have HZ9 := Lib.hid (HZ8.out.same hB9)
    obtain ⟨c0, c1, c2, c3, c4, c5⟩ := HX9.out.c
    obtain ⟨k0, k1, k2, k3, k4, k5⟩ := HZ9.out.c
    have HB9 := Lib.hid hB9
    clear hB9
    go_wp2_with fail
    clear c0 c1 c2 c3 c4 c5 k0 k1 k2 k3 k4 k5
    refine (HKH.out w9 HB9.out).mono ?_
    rintro e wa ⟨rfl, hBa⟩
    have HBa := Lib.hid (HB8.out.trans ((HB9.out.trans (hBa.mono HB9.out.size)).mono HB8.out.size))
    clear hBa HB9 HHK HKH
    go_wp2
    go_ret
    exact ⟨rfl, HBa.out⟩
  have hr5 : r = 5 := by omega
  have g0 : ((r : Int) == 0) = false := by simp; omega
  have g1 : ((r : Int) == 1) = false := by simp; omega
  have g2 : ((r : Int) == 2) = false := by simp; omega
  have g3 : ((r : Int) == 3) = false := by simp; omega
  have g4 : ((r : Int) == 4) = false := by simp; omega
  have g5 : ((r : Int) == 5) = true := by simp; omega
  clear hr5 hr hr0 hr1 hr2 hr3 hr4
  have HKM := Lib.hid (show k.m ≤ 20000 by have := HBIG.out; rw [HCE.out.2.2.2.2.1]; omega)
  by_cases hm0 : k.m = 0
  · have gz : ((k.m : Int) == 0) = true := by simp [hm0]
    clear hm0
    go_wp2
    go_ret
    exact ⟨rfl, HB6.out⟩
  have gz : ((k.m : Int) == 0) = false := by simp [hm0]
  obtain ⟨g', rfl⟩ : ∃ g', a' = some ⟨g', 0, none⟩ := by
    rcases HO6.out.2 with ⟨_, h0⟩ | ⟨g', cp, cur, e, _⟩
    · exact absurd h0 hm0
    · cases e; exact ⟨g', rfl⟩
  have HM0 := Lib.hid hm0
  clear hm0
  go_wp2_with fail
  refine (spick_any _ k.m (by have := HM0.out; omega) (by have := HKM.out; omega) w7).mono ?_
  rintro e w8 ⟨⟨q, hq, rfl⟩, rfl⟩
  have HQ := Lib.hid hq
  have hqk : q < k.m := hq
  have i1 : (q : Int) < (k.m : Int) := by omega
  obtain ⟨t1, t2⟩ := tdl_at k.K k.L k.m q hq
  have r2 : w8.cell? ⟨g', q * 2 + 1, none⟩ = some (.int .i64 (k.L q)) := by rw [HO6.out.cellAt _ (by omega)]; exact t2
  have fr := HO6.out.frozenAt (q * 2 + 1)
  have hg' : wg + 2 ≤ g' ∧ g' ≠ g9 := ⟨(HO6.out.lt g' rfl).1, HON.out _ rfl⟩
  have HGG := Lib.hid hg'
  clear hq t1 t2 hg' gz
  go_upto_region 24 with fail
  refine Rb.wp_region_quiet_tail 12 (by kernel_rfl) (by kernel_rfl) ?_
  simp only [List.take_succ_cons, List.take_zero, List.drop_succ_cons, List.drop_zero]
  repeat (go_big_quiet_step (fail))
  refine wpQuiet_nil ?_
  rintro _ ⟨kk, rfl⟩
  go_upto_region 25 with fail
  obtain ⟨y, hy⟩ : ∃ y, y = bits .xor .i64 (k.L q) 1 := ⟨_, rfl⟩
  rw [← hy]
  obtain ⟨w9, hw9⟩ : ∃ w9, w9 = (w8.drewN kk).setCell ⟨g', q * 2 + 1, none⟩ (.int .i64 y) := ⟨_, rfl⟩
  rw [← hw9]
  have HOD := Lib.hid (own_be HO6.out (below_dr (Below.refl _ w8) kk))
  have hoth : ∀ j, j ≠ g' → w9.heap[j]? = w8.heap[j]? := fun j hj => by rw [hw9]; exact heap_setCell_other _ _ _ _ hj
  obtain ⟨k2', hk2⟩ : ∃ k2' : Hr, k2' = ⟨k.S, k.F, k.I, k.N, k.D, k.m, k.K, fun i => if i = q then y else k.L i⟩ := ⟨_, rfl⟩
  have HZ8 := Lib.hid (show HAt w9 g9 k2' (some ⟨g', 0, none⟩) c' by rw [hk2]; exact HZ6.out.oth (hoth g9 (Ne.symm HGG.out.2)))
  have HX8 := Lib.hid (show HAt w9 wg h a c from HX6.out.oth (hoth wg (by have := HGG.out.1; omega)))
  have HB8 := Lib.hid (show Below w.heap.size w w9 by rw [hw9]; exact (below_dr HB6.out kk).setCell (by have := HWG.out; have := HGG.out.1; show w.heap.size ≤ g'; omega) _)
  have HTA8 := Lib.hid (HT.out.same HB8.out)
  have HTK8 := Lib.hid (show Tb w9 (some ⟨g', 0, none⟩) k2'.m k2'.K k2'.L by rw [hw9, hk2]; exact tb_setL HOD.out HQ.out)
  have HNE := Lib.hid (show ¬ (h.L q = k2'.L q) by
    rw [hk2]
    show ¬ (h.L q = if q = q then y else k.L q)
    rw [if_pos rfl, hy, HCE.out.2.2.2.2.2.2]
    exact fun e => xor_one_ne _ e.symm)
  have HQH := Lib.hid (show q < h.m by have := HCE.out.2.2.2.2.1; omega)
  have HK2 := Lib.hid (show k2'.m ≤ 20000 by rw [hk2]; exact HKM.out)
  clear hk2 hw9 hy hoth HOD r2 fr i1 hqk c0 c1 c2 c3 c4 c5 k0 k1 k2 k3 k4 k5
  have HNO := Lib.hid (show ¬ LH h k2' from fun q2 => HNE.out (q2.2.2.2.2.2 q HQH.out).2)
  have HHK := Lib.hid (fun W => like_at (wb := w9) (h := h) (g := k2') (a := a) (b := (some ⟨g', 0, none⟩)) (c := c) (d := c') (x := false) ⟨fun q => (by cases q), fun q => absurd q HNO.out⟩ (by have := HBIG.out; omega) (by have := HK2.out; omega) HTA8.out HTK8.out W)
  have HKH := Lib.hid (fun W => like_at (wb := w9) (h := k2') (g := h) (a := (some ⟨g', 0, none⟩)) (b := a) (c := c') (d := c) (x := false) ⟨fun q => (by cases q), fun q => absurd (lh_symm q) HNO.out⟩ (by have := HK2.out; omega) (by have := HBIG.out; omega) HTK8.out HTA8.out W)
  unfold hV at HHK HKH
  obtain ⟨c0, c1, c2, c3, c4, c5⟩ := HX8.out.c
  obtain ⟨k0, k1, k2, k3, k4, k5⟩ := HZ8.out.c
  go_wp2_with fail
  clear c0 c1 c2 c3 c4 c5 k0 k1 k2 k3 k4 k5
  refine (HHK.out w9 (Below.refl _ _)).mono ?_
  rintro e wb ⟨rfl, hB9⟩
  have HX9 := Lib.hid (HX8.out.same hB9)
  have HZ9 := Lib.hid (HZ8.out.same hB9)
  obtain ⟨c0, c1, c2, c3, c4, c5⟩ := HX9.out.c
  obtain ⟨k0, k1, k2, k3, k4, k5⟩ := HZ9.out.c
  have HB9 := Lib.hid hB9
  clear hB9
  go_wp2_with fail
  clear c0 c1 c2 c3 c4 c5 k0 k1 k2 k3 k4 k5
  refine (HKH.out wb HB9.out).mono ?_
  rintro e wa ⟨rfl, hBa⟩
  have HBa := Lib.hid (HB8.out.trans ((HB9.out.trans (hBa.mono HB9.out.size)).mono HB8.out.size))
  clear hBa HB9 HHK HKH
  go_wp2
  go_ret
  exact ⟨rfl, HBa.out⟩
end Go.Proofs.Ytempgjollkdmnaa.He
