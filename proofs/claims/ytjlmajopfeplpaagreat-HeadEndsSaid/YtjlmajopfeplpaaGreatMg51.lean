import Derived.Test.YtjlmajopfeplpaaGreatMg37
import Derived.Test.YtjlmajopfeplpaaGreatMg47
import Derived.Test.YtjlmajopfeplpaaGreatMg50
namespace Go.Proofs.YtjlmajopfeplpaaGreat.He
open Go.RowKit Go.Shelf
open Go.Proofs.YtjlmajopfeplpaaGreat.Ly (TabOk RowOk off Tb tdl tdl_len tdl_at)
attribute [local go_sem] Oper.semAt_some

/-- a number at a place, if its bytes are there. -/
def val (N : Nat) (F : Nat → Nat) (k z : Nat) : Nat := if k + z ≤ N then vn (fun j => F (k + j)) z else 0
/-- a header as it is read of so many bytes. -/
def hdrN (N : Nat) (F : Nat → Nat) : Hr := ⟨(val N F 1 2 : Nat), (val N F 3 4 : Nat), (val N F 7 1 : Nat), (val N F 8 1 : Nat), (val N F 10 4 : Nat), val N F 9 1, fun i => (val N F (14 + 3 * i) 1 : Nat), fun i => (val N F (15 + 3 * i) 2 : Nat)⟩
theorem val_lt {N : Nat} {F : Nat → Nat} (hF : Pf.By F) (k z : Nat) : val N F k z < 256 ^ z := by
  unfold val; split
  · exact vn_lt (fun j => hF _) z
  · exact Nat.pow_pos (by decide)
theorem val_one {N : Nat} {F : Nat → Nat} {k : Nat} (h : k + 1 ≤ N) : val N F k 1 = F k := by
  unfold val; rw [if_pos h]; simp [vn]
/-- a reader of N bytes F, of which k were asked for. -/
def RS (w : World) (B H p s N : Nat) (F : Nat → Nat) (k : Nat) : Prop :=
  ∃ a c S, Rr w B p s a c S ∧ S.Ok ∧ (p < H ∧ s < H ∧ ∀ ad, a = some ad → ad.block < H) ∧ S.l ≤ 900000000 ∧ ((S.e = 0 ∧ k ≤ N ∧ S.l = N - k ∧ ∀ j, j < N - k → S.f j = F (k + j)) ∨ (S.e = 4 ∧ N < k))
section
variable {w w' : World} {B H p s N k : Nat} {F : Nat → Nat}
theorem RS.kept (h : RS w B H p s N F k) (hsz : w.heap.size ≤ w'.heap.size) (hk : ∀ i, i < H → w'.heap[i]? = w.heap[i]?) : RS w' B H p s N F k := by
  obtain ⟨a, c, S, h1, h2, ⟨hp, hs, ha⟩, h4⟩ := h
  exact ⟨a, c, S, h1.kept hsz (hk p hp) (hk s hs) (fun ad e => hk _ (ha ad e)), h2, ⟨hp, hs, ha⟩, h4⟩
theorem RS.same (h : RS w B H p s N F k) (hB : Below w.heap.size w w') (hH : H ≤ w.heap.size) : RS w' B H p s N F k := h.kept hB.size fun i hi => hB.block i (by omega)
theorem RS.set (h : RS w B H p s N F k) {g i : Nat} {v : Value} (hg : H ≤ g) : RS (w.setCell ⟨g, i, none⟩ v) B H p s N F k := h.kept (by simp) fun j hj => heap_setCell_other _ _ _ _ (fun e => by have e2 : j = g := e; omega)
theorem RS.drew (h : RS w B H p s N F k) : RS w.drew B H p s N F k := h.kept (Nat.le_refl _) fun _ _ => rfl
theorem but2_drew (s : Nat) (w : World) : But2 s s w w.drew := ⟨rfl, rfl, rfl, Nat.le_refl _, fun _ _ _ _ => rfl⟩
theorem RS.ltS (h : RS w B H p s N F k) : s < H := by obtain ⟨a, c, S, h1, h2, ⟨hp, hs, ha⟩, h4⟩ := h; exact hs
theorem RS.top (h : RS w B H p s N F k) : RS w B w.heap.size p s N F k := by
  obtain ⟨a, c, S, h1, h2, ⟨hp, hs, ha⟩, h4⟩ := h
  exact ⟨a, c, S, h1, h2, ⟨h1.box.lt, h1.lts, fun ad e => (h1.ha ad e).2.1⟩, h4⟩
/-- what a number that is read is. -/
theorem RS.num {x : Ending} {a : Option Addr} {S : Bs} (hO : S.Ok) (hH : p < H ∧ s < H ∧ ∀ ad, a = some ad → ad.block < H) (hl : S.l ≤ 900000000) (hc : (S.e = 0 ∧ k ≤ N ∧ S.l = N - k ∧ ∀ j, j < N - k → S.f j = F (k + j)) ∨ (S.e = 4 ∧ N < k)) {z : Nat} (h1 : 1 ≤ z) (h4 : z ≤ 4)
    (hx : x = .returned (.int .i64 (S.rval (z : Nat) : Nat))) (hr : Red w B p s a (S.rnum (z : Nat)) w') : x = .returned (.int .i64 (val N F k z : Nat)) ∧ RS w' B H p s N F (k + z) ∧ But2 s s w w' := by
  obtain ⟨⟨a', c', hrr, hab⟩, hbut⟩ := hr
  have hH' : p < H ∧ s < H ∧ ∀ ad, a' = some ad → ad.block < H := ⟨hH.1, hH.2.1, fun ad e => by
    obtain ⟨ad', e', hb⟩ := hab ad e
    rw [hb]; exact hH.2.2 ad' e'⟩
  have hO' := hO.rnum (z : Nat)
  have hl' := Nat.le_trans (Bs.rnum_len S (z : Nat)) hl
  rcases hc with ⟨he, hkN, hlN, hf⟩ | ⟨he, hkN⟩
  · by_cases hz : k + z ≤ N
    · have hv : S.rval (z : Nat) = val N F k z := by
        unfold Bs.rval val
        rw [if_pos ⟨he, by omega, by omega⟩, if_pos hz, Int.toNat_natCast]
        exact vn_congr z fun i hi => hf i (by omega)
      have hS : S.rnum (z : Nat) = S.cut z := by
        unfold Bs.rnum Bs.take
        rw [if_neg (by simp [he]), if_pos (by omega), if_neg (by simp [he]), if_neg (by omega), if_neg (by omega), Int.toNat_natCast]
      rw [hS] at hrr hO' hl'
      refine ⟨by rw [hx, hv], ⟨a', c', _, hrr, hO', hH', hl', Or.inl ⟨he, hz, ?_, fun j hj => ?_⟩⟩, hbut⟩
      · show S.l - z = N - (k + z)
        omega
      · show sub S.f z (S.l - z) j = _
        unfold sub
        rw [if_pos (by omega), hf (z + j) (by omega)]
        congr 1; omega
    · have hv : S.rval (z : Nat) = val N F k z := by
        unfold Bs.rval val
        rw [if_neg (by omega), if_neg hz]
      have hS : S.rnum (z : Nat) = S.broke 4 := by
        unfold Bs.rnum Bs.take
        rw [if_neg (by simp [he]), if_pos (by omega), if_neg (by simp [he]), if_neg (by omega), if_pos (by omega)]
      rw [hS] at hrr hO' hl'
      exact ⟨by rw [hx, hv], ⟨a', c', _, hrr, hO', hH', hl', Or.inr ⟨rfl, by omega⟩⟩, hbut⟩
  · have hv : S.rval (z : Nat) = val N F k z := by
      unfold Bs.rval val
      rw [if_neg (by rw [he]; omega), if_neg (by omega)]
    have hS : S.rnum (z : Nat) = S := by
      unfold Bs.rnum
      rw [if_pos (by rw [he]; decide)]
    rw [hS] at hrr hO' hl'
    exact ⟨by rw [hx, hv], ⟨a', c', _, hrr, hO', hH', hl', Or.inr ⟨he, by omega⟩⟩, hbut⟩
theorem rnumber_at (z : Nat) (h1 : 1 ≤ z) (h4 : z ≤ 4) (w : World) (h : RS w B H p s N F k) :
    Calls Tryz.prog 82 #[.pointer (some ⟨p, 0, none⟩), .int .i64 (z : Nat)] w fun x w' => x = .returned (.int .i64 (val N F k z : Nat)) ∧ RS w' B H p s N F (k + z) ∧ But2 s s w w' := by
  obtain ⟨a, c, S, hR, hO, hH, hl, hc⟩ := h
  exact (rnum_any B p s a c S (z : Nat) hO hl w hR).mono fun x w' hh => RS.num hO hH hl hc h1 h4 hh.1 hh.2
/-- a block that is not the stock's stays. -/
theorem but2_kept {g : Nat} (hb : But2 s s w w') (hg : g < w.heap.size) (hs : g ≠ s) : w'.heap[g]? = w.heap[g]? := hb.block g hg hs hs
theorem but2_set {W : World} {g i : Nat} {v : Value} (hb : But2 s s w W) (hg : w.heap.size ≤ g) : But2 s s w (W.setCell ⟨g, i, none⟩ v) :=
  ⟨hb.os, hb.tape, hb.output, by simp; exact hb.size, fun k h1 h2 h3 => (heap_setCell_other _ _ _ _ (fun e => by have e2 : k = g := e; omega)).trans (hb.block k h1 h2 h3)⟩
/-- rows that are being filled. -/
def RwS (w : World) (g m i j : Nat) (K L : Nat → Int) : Prop :=
  ∃ vs : Array Value, w.heap[g]? = some (.cells vs 24 (0, 0)) ∧ vs.size = m * 2 ∧ (∀ t, t < i → vs[t * 2]? = some (.int .i64 (K t))) ∧ ∀ t, t < j → vs[t * 2 + 1]? = some (.int .i64 (L t))
variable {g m i j : Nat} {K L : Nat → Int}
theorem RwS.lt (r : RwS w g m i j K L) : g < w.heap.size := by
  obtain ⟨vs, h1, _⟩ := r
  exact (Array.getElem?_eq_some_iff.1 h1).1
theorem RwS.kept (r : RwS w g m i j K L) (hk : w'.heap[g]? = w.heap[g]?) : RwS w' g m i j K L := by
  obtain ⟨vs, h1, h2⟩ := r
  exact ⟨vs, hk.trans h1, h2⟩
theorem RwS.cell (r : RwS w g m i j K L) {t : Nat} (ht : t < m * 2) : ∃ v, w.cell? ⟨g, t, none⟩ = some v := by
  obtain ⟨vs, h1, h2, _⟩ := r
  refine ⟨vs[t]'(by omega), ?_⟩
  rw [cell_of_row w g t vs _ _ h1]
  exact Array.getElem?_eq_getElem _
theorem RwS.free (r : RwS w g m i j K L) (t : Nat) : w.frozen? ⟨g, t, none⟩ = false := by
  obtain ⟨vs, h1, _⟩ := r
  exact frozen_of_row w g t vs _ h1
theorem RwS.setK (r : RwS w g m i j K L) (hi : i < m) : RwS (w.setCell ⟨g, i * 2, none⟩ (.int .i64 (K i))) g m (i + 1) j K L := by
  obtain ⟨vs, h1, h2, h3, h4⟩ := r
  refine ⟨vs.setIfInBounds (i * 2) (.int .i64 (K i)), heap_setCell_same w g (i * 2) _ _ _ h1, by simp [h2], fun t ht => ?_, fun t ht => ?_⟩
  · by_cases e : t = i
    · subst e; rw [Array.getElem?_setIfInBounds_self_of_lt (by omega)]
    · rw [Array.getElem?_setIfInBounds_ne (by omega)]; exact h3 t (by omega)
  · rw [Array.getElem?_setIfInBounds_ne (by omega)]; exact h4 t ht
theorem RwS.setL (r : RwS w g m i j K L) (hj : j < m) : RwS (w.setCell ⟨g, j * 2 + 1, none⟩ (.int .i64 (L j))) g m i (j + 1) K L := by
  obtain ⟨vs, h1, h2, h3, h4⟩ := r
  refine ⟨vs.setIfInBounds (j * 2 + 1) (.int .i64 (L j)), heap_setCell_same w g (j * 2 + 1) _ _ _ h1, by simp [h2], fun t ht => ?_, fun t ht => ?_⟩
  · rw [Array.getElem?_setIfInBounds_ne (by omega)]; exact h3 t ht
  · by_cases e : t = j
    · subst e; rw [Array.getElem?_setIfInBounds_self_of_lt (by omega)]
    · rw [Array.getElem?_setIfInBounds_ne (by omega)]; exact h4 t (by omega)
theorem RwS.new (w : World) (m : Nat) (K L : Nat → Int) : RwS (w.alloc (.cells (madeCells #[.int .i64 0, .int .i64 0] (m * 2)) 24)) w.heap.size m 0 0 K L :=
  ⟨_, heap_alloc_new w _, by rw [size_madeCells], fun i hi => absurd hi (Nat.not_lt_zero i), fun i hi => absurd hi (Nat.not_lt_zero i)⟩
theorem RwS.tb (r : RwS w g m m m K L) : Tb w (some ⟨g, 0, none⟩) m K L := ⟨fun i hi => by
  obtain ⟨vs, h1, h2, h3, h4⟩ := r
  exact ⟨g, 0, rfl, by rw [Nat.zero_add, cell_of_row w g _ vs _ _ h1]; exact h3 i hi, by rw [Nat.zero_add, cell_of_row w g _ vs _ _ h1]; exact h4 i hi⟩⟩
theorem RwS.own (r : RwS w g m m m K L) {B : Nat} (hB : B ≤ g) (hm : m ≤ 100000000) : w.ownsRow B 24 2 (.slice (some ⟨g, 0, none⟩) m m) m (tdl K L m) := by
  obtain ⟨vs, h1, h2, h3, h4⟩ := r
  refine ⟨tdl_len K L m, Or.inr ⟨g, m, vs, rfl, hB, h1, Nat.le_refl _, by unfold maxLen; omega, h2.symm ▸ rfl, ?_⟩⟩
  apply List.ext_getElem?
  intro x
  by_cases hx : x < m * 2
  · rw [List.getElem?_take_of_lt hx, Array.getElem?_toList]
    obtain ⟨t, ht⟩ : ∃ t, t = x / 2 := ⟨_, rfl⟩
    have hd := tdl_at K L m t (by omega)
    rcases (show x = t * 2 ∨ x = t * 2 + 1 by omega) with e | e
    · rw [e, hd.1, h3 t (by omega)]
    · rw [e, hd.2, h4 t (by omega)]
  · rw [List.getElem?_eq_none (by simp; omega), List.getElem?_eq_none (by rw [tdl_len]; omega)]
end
theorem Tryz.infoRowL : (Tryz.prog.info? 24).map (fun i => (i.zero, i.size, i.bytes)) = some (some (.agg #[.int .i64 0, .int .i64 0]), 2, 16) := by kernel_rfl
theorem hmkR (N : Nat) (hN : N ≤ 1000000000) : ∀ W : World, (Instr.makeSlice 25 (.int .i64 (N : Nat)) (.int .i64 (N : Nat))).run Tryz.prog W = .ok (.slice (some ⟨W.heap.size, 0, none⟩) N N) (W.alloc (.cells (madeCells #[.int .i64 0, .int .i64 0] (N * 2)) 24)) := fun W => by
  obtain ⟨i0, hi, hz0, hz1, hz2⟩ := info_parts Tryz.infoRowL
  have := run_make (P := Tryz.prog) W 25 24 i0 (.agg #[.int .i64 0, .int .i64 0]) Tryz.underlying25 hi hz0 .i64 .i64 (N : Int) (N : Int) (by omega) (Int.le_refl _) (by rw [hz2]; omega) (by omega)
  have e : (Value.agg #[.int .i64 0, .int .i64 0]).cells = #[.int .i64 0, .int .i64 0] := rfl
  rw [hz1, e, Int.toNat_natCast] at this; exact this
section
variable {W : World} {g cc : Nat} {h : Hr} {a : Option Addr}
theorem HAt.s0 (s : HAt W g h a cc) (x : Int) : HAt (W.setCell ⟨g, 0, none⟩ (.int .i64 x)) g ⟨x, h.F, h.I, h.N, h.D, h.m, h.K, h.L⟩ a cc := heap_setCell_same W g 0 _ _ _ s
theorem HAt.s1 (s : HAt W g h a cc) (x : Int) : HAt (W.setCell ⟨g, 1, none⟩ (.int .i64 x)) g ⟨h.S, x, h.I, h.N, h.D, h.m, h.K, h.L⟩ a cc := heap_setCell_same W g 1 _ _ _ s
theorem HAt.s2 (s : HAt W g h a cc) (x : Int) : HAt (W.setCell ⟨g, 2, none⟩ (.int .i64 x)) g ⟨h.S, h.F, x, h.N, h.D, h.m, h.K, h.L⟩ a cc := heap_setCell_same W g 2 _ _ _ s
theorem HAt.s3 (s : HAt W g h a cc) (x : Int) : HAt (W.setCell ⟨g, 3, none⟩ (.int .i64 x)) g ⟨h.S, h.F, h.I, x, h.D, h.m, h.K, h.L⟩ a cc := heap_setCell_same W g 3 _ _ _ s
theorem HAt.s4 (s : HAt W g h a cc) (x : Int) : HAt (W.setCell ⟨g, 4, none⟩ (.int .i64 x)) g ⟨h.S, h.F, h.I, h.N, x, h.m, h.K, h.L⟩ a cc := heap_setCell_same W g 4 _ _ _ s
theorem HAt.s5 (s : HAt W g h a cc) (b : Option Addr) (m c : Nat) (K L : Nat → Int) : HAt (W.setCell ⟨g, 5, none⟩ (.slice b m c)) g ⟨h.S, h.F, h.I, h.N, h.D, m, K, L⟩ b c := heap_setCell_same W g 5 _ _ _ s
theorem HAt.but {W' : World} {s : Nat} (x : HAt W g h a cc) (hb : But2 s s W W') (hs : g ≠ s) : HAt W' g h a cc := (but2_kept hb x.lt hs).trans x
theorem HAt.oth {W' : World} (x : HAt W g h a cc) (hk : W'.heap[g]? = W.heap[g]?) : HAt W' g h a cc := hk.trans x
end
def hz : Hr := ⟨0, 0, 0, 0, 0, 0, fun _ => 0, fun _ => 0⟩
set_option maxHeartbeats 4000000 in
set_option maxRecDepth 100000 in
theorem pheader_any (N : Nat) (F : Nat → Nat) (hF : Pf.By F) (B p s : Nat) (w : World) (hR : RS w B w.heap.size p s N F 1) :
    Calls Tryz.prog 46 #[.pointer (some ⟨p, 0, none⟩)] w fun e w' => ∃ G, e = .returned (hV (hdrN N F) (some ⟨G, 0, none⟩) (hdrN N F).m) ∧ w.heap.size ≤ G ∧ RwS w' G (hdrN N F).m (hdrN N F).m (hdrN N F).m (hdrN N F).K (hdrN N F).L ∧ RS w' B w.heap.size p s N F (14 + 3 * (hdrN N F).m) ∧ But2 s s w w' := by
  obtain ⟨w0, hw0⟩ : ∃ w0, w0 = w.alloc (.cells #[.int .i64 0, .int .i64 0, .int .i64 0, .int .i64 0, .int .i64 0, .slice none 0 0] 27) := ⟨_, rfl⟩
  obtain ⟨w1, hw1⟩ : ∃ w1, w1 = w0.alloc (.cells #[.int .i64 0, .int .i64 0, .int .i64 0, .int .i64 0, .int .i64 0, .slice none 0 0] 27) := ⟨_, rfl⟩
  have hz0 : w0.heap.size = w.heap.size + 1 := by rw [hw0, World.size_alloc]
  have hb0 : Below w.heap.size w w0 := by rw [hw0]; exact (Below.refl _ w).alloc (Nat.le_refl _) _
  have hb1 : Below w0.heap.size w0 w1 := by rw [hw1]; exact (Below.refl _ w0).alloc (Nat.le_refl _) _
  have hq0 : HAt w0 w.heap.size hz none 0 := by rw [hw0]; exact heap_alloc_new _ _
  have HQ := Lib.hid (hq0.same hb1)
  have HX1 := Lib.hid (show HAt w1 (w.heap.size + 1) hz none 0 by rw [hw1, ← hz0]; exact heap_alloc_new _ _)
  have hB1 := hb0.trans (hb1.mono hb0.size)
  have HB1 := Lib.hid (show But2 s s w w1 from But2.of hB1)
  have HR1 := Lib.hid (hR.same hB1 (Nat.le_refl _))
  have HS := Lib.hid hR.ltS
  have HW := Lib.hid (show w1 = (w.alloc (.cells #[.int .i64 0, .int .i64 0, .int .i64 0, .int .i64 0, .int .i64 0, .slice none 0 0] 27)).alloc (.cells #[.int .i64 0, .int .i64 0, .int .i64 0, .int .i64 0, .int .i64 0, .slice none 0 0] 27) by rw [hw1, hw0])
  have HQ1 := HQ
  obtain ⟨wg, hwg⟩ : ∃ wg, wg = w.heap.size := ⟨_, rfl⟩
  rw [← hwg] at HQ1 HX1 HR1 HS
  have HWG := Lib.hid hwg
  obtain ⟨S0, eS⟩ : ∃ x, x = val N F 1 2 := ⟨_, rfl⟩
  obtain ⟨F0, eF⟩ : ∃ x, x = val N F 3 4 := ⟨_, rfl⟩
  obtain ⟨I0, eI⟩ : ∃ x, x = val N F 7 1 := ⟨_, rfl⟩
  obtain ⟨N0, eN⟩ : ∃ x, x = val N F 8 1 := ⟨_, rfl⟩
  obtain ⟨m, em⟩ : ∃ x, x = val N F 9 1 := ⟨_, rfl⟩
  obtain ⟨D0, eD⟩ : ∃ x, x = val N F 10 4 := ⟨_, rfl⟩
  have HM := Lib.hid (show m < 256 by rw [em]; exact val_lt hF 9 1)
  have ES := Lib.hid eS; have EF := Lib.hid eF; have EI := Lib.hid eI; have EN := Lib.hid eN; have EM := Lib.hid em; have ED := Lib.hid eD
  have HH := Lib.hid (show hdrN N F = ⟨(S0 : Nat), (F0 : Nat), (I0 : Nat), (N0 : Nat), (D0 : Nat), m, (hdrN N F).K, (hdrN N F).L⟩ by rw [eS, eF, eI, eN, em, eD]; rfl)
  clear hw0 hw1 hz0 hb0 hb1 hq0 hR hB1 HQ eS eF eI eN em eD
  go_enter Tryz.func46, Tryz.ntmps46
  go_upto_region 2 with fail
  rw [← HW.out]
  clear HW
  rw [← hwg]
  clear hwg
  go_wp2_with fail
  refine (rnumber_at 2 (by decide) (by decide) w1 HR1.out).mono ?_
  rintro e w2 ⟨rfl, hr, hb⟩
  rw [← ES.out]
  have HX2 := Lib.hid (HX1.out.but hb (by have := HS.out; omega))
  have HQ2 := Lib.hid (HQ1.out.but hb (by have := HS.out; omega))
  have HB2 := Lib.hid (HB1.out.trans hb)
  have HR2 := Lib.hid hr
  clear hr hb HX1 HQ1 HB1 HR1
  obtain ⟨c0, c1, c2, c3, c4, c5⟩ := HX2.out.c
  have f0 := HX2.out.free 0
  go_upto_region 3 with fail
  obtain ⟨w3, hw3⟩ : ∃ w3, w3 = w2.setCell ⟨wg + 1, 0, none⟩ (.int .i64 (S0 : Nat)) := ⟨_, rfl⟩
  rw [← hw3]
  have HX3 := Lib.hid (show HAt w3 (wg + 1) ⟨(S0 : Nat), 0, 0, 0, 0, 0, fun _ => 0, fun _ => 0⟩ none 0 by rw [hw3]; exact HX2.out.s0 _)
  have HQ3 := Lib.hid (show HAt w3 wg hz none 0 from HQ2.out.oth (by rw [hw3]; exact heap_setCell_other _ _ _ _ (fun e => by have e2 : wg = wg + 1 := e; omega)))
  have HB3 := Lib.hid (show But2 s s w w3 by rw [hw3]; exact but2_set HB2.out (by have := HWG.out; omega))
  have HR3 := Lib.hid (show RS w3 B wg p s N F (1 + 2) by rw [hw3]; exact HR2.out.set (by omega))
  clear hw3 c0 c1 c2 c3 c4 c5 f0 HX2 HQ2 HB2 HR2
  go_wp2_with fail
  refine (rnumber_at 4 (by decide) (by decide) w3 HR3.out).mono ?_
  rintro e w4 ⟨rfl, hr, hb⟩
  rw [← EF.out]
  have HX4 := Lib.hid (HX3.out.but hb (by have := HS.out; omega))
  have HQ4 := Lib.hid (HQ3.out.but hb (by have := HS.out; omega))
  have HB4 := Lib.hid (HB3.out.trans hb)
  have HR4 := Lib.hid hr
  clear hr hb HX3 HQ3 HB3 HR3
  obtain ⟨c0, c1, c2, c3, c4, c5⟩ := HX4.out.c
  have f0 := HX4.out.free 1
  go_upto_region 4 with fail
  obtain ⟨w5, hw5⟩ : ∃ w5, w5 = w4.setCell ⟨wg + 1, 1, none⟩ (.int .i64 (F0 : Nat)) := ⟨_, rfl⟩
  rw [← hw5]
  have HX5 := Lib.hid (show HAt w5 (wg + 1) ⟨(S0 : Nat), (F0 : Nat), 0, 0, 0, 0, fun _ => 0, fun _ => 0⟩ none 0 by rw [hw5]; exact HX4.out.s1 _)
  have HQ5 := Lib.hid (show HAt w5 wg hz none 0 from HQ4.out.oth (by rw [hw5]; exact heap_setCell_other _ _ _ _ (fun e => by have e2 : wg = wg + 1 := e; omega)))
  have HB5 := Lib.hid (show But2 s s w w5 by rw [hw5]; exact but2_set HB4.out (by have := HWG.out; omega))
  have HR5 := Lib.hid (show RS w5 B wg p s N F (3 + 4) by rw [hw5]; exact HR4.out.set (by omega))
  clear hw5 c0 c1 c2 c3 c4 c5 f0 HX4 HQ4 HB4 HR4
  go_wp2_with fail
  refine (rnumber_at 1 (by decide) (by decide) w5 HR5.out).mono ?_
  rintro e w6 ⟨rfl, hr, hb⟩
  rw [← EI.out]
  have HX6 := Lib.hid (HX5.out.but hb (by have := HS.out; omega))
  have HQ6 := Lib.hid (HQ5.out.but hb (by have := HS.out; omega))
  have HB6 := Lib.hid (HB5.out.trans hb)
  have HR6 := Lib.hid hr
  clear hr hb HX5 HQ5 HB5 HR5
  obtain ⟨c0, c1, c2, c3, c4, c5⟩ := HX6.out.c
  have f0 := HX6.out.free 2
  go_upto_region 5 with fail
  obtain ⟨w7, hw7⟩ : ∃ w7, w7 = w6.setCell ⟨wg + 1, 2, none⟩ (.int .i64 (I0 : Nat)) := ⟨_, rfl⟩
  rw [← hw7]
  have HX7 := Lib.hid (show HAt w7 (wg + 1) ⟨(S0 : Nat), (F0 : Nat), (I0 : Nat), 0, 0, 0, fun _ => 0, fun _ => 0⟩ none 0 by rw [hw7]; exact HX6.out.s2 _)
  have HQ7 := Lib.hid (show HAt w7 wg hz none 0 from HQ6.out.oth (by rw [hw7]; exact heap_setCell_other _ _ _ _ (fun e => by have e2 : wg = wg + 1 := e; omega)))
  have HB7 := Lib.hid (show But2 s s w w7 by rw [hw7]; exact but2_set HB6.out (by have := HWG.out; omega))
  have HR7 := Lib.hid (show RS w7 B wg p s N F (7 + 1) by rw [hw7]; exact HR6.out.set (by omega))
  clear hw7 c0 c1 c2 c3 c4 c5 f0 HX6 HQ6 HB6 HR6
  go_wp2_with fail
  refine (rnumber_at 1 (by decide) (by decide) w7 HR7.out).mono ?_
  rintro e w8 ⟨rfl, hr, hb⟩
  rw [← EN.out]
  have HX8 := Lib.hid (HX7.out.but hb (by have := HS.out; omega))
  have HQ8 := Lib.hid (HQ7.out.but hb (by have := HS.out; omega))
  have HB8 := Lib.hid (HB7.out.trans hb)
  have HR8 := Lib.hid hr
  clear hr hb HX7 HQ7 HB7 HR7
  obtain ⟨c0, c1, c2, c3, c4, c5⟩ := HX8.out.c
  have f0 := HX8.out.free 3
  go_upto_region 6 with fail
  obtain ⟨w9, hw9⟩ : ∃ w9, w9 = w8.setCell ⟨wg + 1, 3, none⟩ (.int .i64 (N0 : Nat)) := ⟨_, rfl⟩
  rw [← hw9]
  have HX9 := Lib.hid (show HAt w9 (wg + 1) ⟨(S0 : Nat), (F0 : Nat), (I0 : Nat), (N0 : Nat), 0, 0, fun _ => 0, fun _ => 0⟩ none 0 by rw [hw9]; exact HX8.out.s3 _)
  have HQ9 := Lib.hid (show HAt w9 wg hz none 0 from HQ8.out.oth (by rw [hw9]; exact heap_setCell_other _ _ _ _ (fun e => by have e2 : wg = wg + 1 := e; omega)))
  have HB9 := Lib.hid (show But2 s s w w9 by rw [hw9]; exact but2_set HB8.out (by have := HWG.out; omega))
  have HR9 := Lib.hid (show RS w9 B wg p s N F (8 + 1) by rw [hw9]; exact HR8.out.set (by omega))
  clear hw9 c0 c1 c2 c3 c4 c5 f0 HX8 HQ8 HB8 HR8
  go_wp2_with fail
  refine (rnumber_at 1 (by decide) (by decide) w9 HR9.out).mono ?_
  rintro e w10 ⟨rfl, hr, hb⟩
  rw [← EM.out]
  have HX10 := Lib.hid (HX9.out.but hb (by have := HS.out; omega))
  have HQ10 := Lib.hid (HQ9.out.but hb (by have := HS.out; omega))
  have HB10 := Lib.hid (HB9.out.trans hb)
  have HR10 := Lib.hid (show RS w10 B wg p s N F 10 from hr)
  clear hr hb HX9 HQ9 HB9 HR9
  have hm256 := HM.out
  have hmk := hmkR m (by omega)
  obtain ⟨w11, hw11⟩ : ∃ w11, w11 = w10.alloc (.cells (madeCells #[.int .i64 0, .int .i64 0] (m * 2)) 24) := ⟨_, rfl⟩
  have hb11 : Below w10.heap.size w10 w11 := by rw [hw11]; exact (Below.refl _ _).alloc (Nat.le_refl _) _
  have HX11 := Lib.hid (HX10.out.same hb11)
  have HQ11 := Lib.hid (HQ10.out.same hb11)
  have HW11 := Lib.hid (show RwS w11 w10.heap.size m 0 0 (hdrN N F).K (hdrN N F).L by rw [hw11]; exact RwS.new w10 m _ _)
  have HB11 := Lib.hid (HB10.out.trans (But2.of hb11))
  have HR11 := Lib.hid (HR10.out.same hb11 (by have := HX10.out.lt; omega))
  obtain ⟨c0, c1, c2, c3, c4, c5⟩ := HX11.out.c
  have f0 := HX11.out.free 5
  rw [hw11] at c0 c1 c2 c3 c4 c5 f0
  obtain ⟨G, hG⟩ : ∃ G, G = w10.heap.size := ⟨_, rfl⟩
  have HGL := Lib.hid (show wg + 1 < G by rw [hG]; exact HX10.out.lt)
  go_upto_region 7 with fail
  rw [← hw11]
  rw [← hG]
  rw [← hG] at HW11
  obtain ⟨w12, hw12⟩ : ∃ w12, w12 = w11.setCell ⟨wg + 1, 5, none⟩ (.slice (some ⟨G, 0, none⟩) m m) := ⟨_, rfl⟩
  rw [← hw12]
  have HX12 := Lib.hid (show HAt w12 (wg + 1) ⟨(S0 : Nat), (F0 : Nat), (I0 : Nat), (N0 : Nat), 0, m, (hdrN N F).K, (hdrN N F).L⟩ (some ⟨G, 0, none⟩) m by rw [hw12]; exact HX11.out.s5 _ _ _ _ _)
  have HQ12 := Lib.hid (show HAt w12 wg hz none 0 from HQ11.out.oth (by rw [hw12]; exact heap_setCell_other _ _ _ _ (fun e => by have e2 : wg = wg + 1 := e; omega)))
  have HW12 := Lib.hid (show RwS w12 G m 0 0 (hdrN N F).K (hdrN N F).L from HW11.out.kept (by rw [hw12]; exact heap_setCell_other _ _ _ _ (fun e => by have e2 : G = wg + 1 := e; have := HGL.out; omega)))
  have HB12 := Lib.hid (show But2 s s w w12 by rw [hw12]; exact but2_set HB11.out (by have := HWG.out; omega))
  have HR12 := Lib.hid (show RS w12 B wg p s N F 10 by rw [hw12]; exact HR11.out.set (by omega))
  clear hw12 hw11 hb11 hG c0 c1 c2 c3 c4 c5 f0 HX10 HQ10 HB10 HR10 HX11 HQ11 HB11 HR11 HW11 hm256 hmk
  go_wp2_with fail
  refine (rnumber_at 4 (by decide) (by decide) w12 HR12.out).mono ?_
  rintro e w13 ⟨rfl, hr, hb⟩
  rw [← ED.out]
  have HX13 := Lib.hid (HX12.out.but hb (by have := HS.out; omega))
  have HQ13 := Lib.hid (HQ12.out.but hb (by have := HS.out; omega))
  have HW13 := Lib.hid (HW12.out.kept (but2_kept hb HW12.out.lt (by have := HS.out; have := HGL.out; omega)))
  have HB13 := Lib.hid (HB12.out.trans hb)
  have HR13 := Lib.hid (show RS w13 B wg p s N F 14 from hr)
  clear hr hb HX12 HQ12 HB12 HR12 HW12
  obtain ⟨c0, c1, c2, c3, c4, c5⟩ := HX13.out.c
  have f0 := HX13.out.free 4
  go_upto_region 8 with fail
  obtain ⟨w14, hw14⟩ : ∃ w14, w14 = w13.setCell ⟨wg + 1, 4, none⟩ (.int .i64 (D0 : Nat)) := ⟨_, rfl⟩
  rw [← hw14]
  have HX14 := Lib.hid (show HAt w14 (wg + 1) ⟨(S0 : Nat), (F0 : Nat), (I0 : Nat), (N0 : Nat), (D0 : Nat), m, (hdrN N F).K, (hdrN N F).L⟩ (some ⟨G, 0, none⟩) m by rw [hw14]; exact HX13.out.s4 _)
  rw [← HH.out] at HX14
  have HQ14 := Lib.hid (show HAt w14 wg hz none 0 from HQ13.out.oth (by rw [hw14]; exact heap_setCell_other _ _ _ _ (fun e => by have e2 : wg = wg + 1 := e; omega)))
  have HW14 := Lib.hid (show RwS w14 G m 0 0 (hdrN N F).K (hdrN N F).L from HW13.out.kept (by rw [hw14]; exact heap_setCell_other _ _ _ _ (fun e => by have e2 : G = wg + 1 := e; have := HGL.out; omega)))
  have HB14 := Lib.hid (show But2 s s w w14 by rw [hw14]; exact but2_set HB13.out (by have := HWG.out; omega))
  have HR14 := Lib.hid (show RS w14 B wg p s N F 14 by rw [hw14]; exact HR13.out.set (by omega))
  clear hw14 c0 c1 c2 c3 c4 c5 f0 HX13 HQ13 HB13 HR13 HW13
  have HEM := Lib.hid (show (hdrN N F).m = m from EM.out.symm)
  have HC5 := Lib.hid (fun (W : World) (hx : HAt W (wg + 1) (hdrN N F) (some ⟨G, 0, none⟩) m) => (show W.cell? ⟨wg + 1, 5, none⟩ = some (.slice (some ⟨G, 0, none⟩) m m) from by have := hx.c.2.2.2.2.2; rw [HEM.out] at this; exact this))
  have c5 := HC5.out _ HX14.out
  go_wp2_with fail
  clear c5
  go_loopw [4, 27] (fun _ i wr => ∃ (k : Nat) (W : World), W = wr ∧ k ≤ m ∧ i = .int .i64 (k : Nat) ∧ HAt wr (wg + 1) (hdrN N F) (some ⟨G, 0, none⟩) m ∧ HAt wr wg hz none 0 ∧ RwS wr G m k k (hdrN N F).K (hdrN N F).L ∧ But2 s s w wr ∧ RS wr B wg p s N F (14 + 3 * k)) (fun _ i _ => m - (intOf i).toNat)
  case atStart => exact ⟨0, _, rfl, by omega, rfl, HX14.out, HQ14.out, HW14.out, HB14.out, HR14.out⟩
  case round =>
    obtain ⟨k, wx, rfl, hk, rfl, hx, hq, hw, hb, hr⟩ := hrel
    have HX := Lib.hid hx; have HQ := Lib.hid hq; have HW := Lib.hid hw; have HB := Lib.hid hb; have HR := Lib.hid hr
    clear hx hq hw hb hr HX14 HQ14 HW14 HB14 HR14
    by_cases hlt : k < m
    · have i1 : (k : Int) < (m : Int) := by omega
      have HLT := Lib.hid hlt
      go_upto_region 11 with fail
      refine wp_region_held_drew (S := fun W => HAt W (wg + 1) (hdrN N F) (some ⟨G, 0, none⟩) m) (by kernel_rfl) (show HAt _ _ _ _ _ from HX.out) (fun hHeld => ?_)
      refine wpAnyH_take (i := 0) (oi := ⟨some 30, _, _, _, _, none⟩) (v := (.pointer (some ⟨wg + 1, 5, none⟩))) rfl (by kernel_rfl) (by kernel_rfl) (by kernel_rfl) (fun _ _ _ h => h) (Or.inl ⟨by rfl, fun W hW => ?_⟩) (by assumption) ?_
      · go_simp
      simp only [Act.put, List.setIfInBounds_toArray, List.set_cons_zero, List.set_cons_succ]
      refine wpAnyH_take (i := 1) (oi := ⟨some 31, _, _, _, _, none⟩) (v := (.slice (some ⟨G, 0, none⟩) m m)) rfl (by kernel_rfl) (by kernel_rfl) (by kernel_rfl) (fun _ _ _ h => h) (Or.inl ⟨by rfl, fun W hW => ?_⟩) (by assumption) ?_
      · have := HC5.out W hW; go_simp
      simp only [Act.put, List.setIfInBounds_toArray, List.set_cons_zero, List.set_cons_succ]
      refine wpAnyH_take (i := 2) (oi := ⟨some 32, _, _, _, _, none⟩) (v := (.int .i64 (k : Nat))) rfl (by kernel_rfl) (by kernel_rfl) (by kernel_rfl) (fun _ _ _ h => h) (Or.inl ⟨by rfl, fun W hW => ?_⟩) (by assumption) ?_
      · go_simp
      simp only [Act.put, List.setIfInBounds_toArray, List.set_cons_zero, List.set_cons_succ]
      refine wpAnyH_take (i := 3) (oi := ⟨some 33, _, _, _, _, none⟩) (v := (.pointer (some ⟨p, 0, none⟩))) rfl (by kernel_rfl) (by kernel_rfl) (by kernel_rfl) (fun _ _ _ h => h) (Or.inl ⟨by rfl, fun W hW => ?_⟩) (by assumption) ?_
      · go_simp
      simp only [Act.put, List.setIfInBounds_toArray, List.set_cons_zero, List.set_cons_succ]
      refine wpAnyH_ready (rs := [4]) (by kernel_rfl) (by simp) (AllReadyH.cons rfl (fun KK hKK => ?_) AllReadyH.nil)
      go_simp
      refine (rnumber_at 1 (by decide) (by decide) _ HR.out.drew).mono ?_
      rintro e wxa ⟨rfl, hr, hb⟩
      dsimp only
      replace hb : But2 s s wx wxa := (but2_drew s wx).trans hb
      obtain ⟨x, hx⟩ : ∃ x, x = val N F (14 + 3 * k) 1 := ⟨_, rfl⟩
      rw [← hx]
      have Ex := Lib.hid hx
      have HXa := Lib.hid (HX.out.but hb (by have := HS.out; omega))
      have HQa := Lib.hid (HQ.out.but hb (by have := HS.out; omega))
      have HWa := Lib.hid (HW.out.kept (but2_kept hb HW.out.lt (by have := HS.out; have := HGL.out; omega)))
      have HBa := Lib.hid (HB.out.trans hb)
      have HRa := Lib.hid (show RS wxa B wg p s N F (14 + 3 * k + 1) from hr)
      clear hr hb hx
      refine hKK.out _ _ HXa.out (fun hHeld => ?_)
      clear hKK KK
      try simp only [Act.put, List.setIfInBounds_toArray, List.set_cons_zero, List.set_cons_succ]
      refine wpAnyH_take (i := 5) (oi := ⟨some 35, _, _, _, _, none⟩) (v := (.pointer (some ⟨G, k * 2, none⟩))) rfl (by kernel_rfl) (by kernel_rfl) (by kernel_rfl) (fun _ _ _ h => h) (Or.inl ⟨by rfl, fun W hW => ?_⟩) (by assumption) ?_
      · have := i1; go_simp
      simp only [Act.put, List.setIfInBounds_toArray, List.set_cons_zero, List.set_cons_succ]
      refine wpAnyH_take (i := 6) (oi := ⟨some 36, _, _, _, _, none⟩) (v := (.pointer (some ⟨G, k * 2, none⟩))) rfl (by kernel_rfl) (by kernel_rfl) (by kernel_rfl) (fun _ _ _ h => h) (Or.inl ⟨by rfl, fun W hW => ?_⟩) (by assumption) ?_
      · go_simp
      simp only [Act.put, List.setIfInBounds_toArray, List.set_cons_zero, List.set_cons_succ]
      obtain ⟨v0, cv⟩ := HWa.out.cell (t := k * 2) (by have := HLT.out; omega)
      have fv := HWa.out.free (k * 2)
      refine wpAnyH_ready (rs := [7]) (by kernel_rfl) (by simp) (AllReadyH.cons rfl (fun KK hKK => ?_) AllReadyH.nil)
      go_simp
      obtain ⟨wxb, hwb⟩ : ∃ wxb, wxb = wxa.setCell ⟨G, k * 2, none⟩ (.int .i64 (x : Nat)) := ⟨_, rfl⟩
      rw [← hwb]
      have HXb := Lib.hid (show HAt wxb (wg + 1) (hdrN N F) (some ⟨G, 0, none⟩) m from HXa.out.oth (by rw [hwb]; exact heap_setCell_other _ _ _ _ (fun e => by have e2 : wg + 1 = G := e; have := HGL.out; omega)))
      have HQb := Lib.hid (show HAt wxb wg hz none 0 from HQa.out.oth (by rw [hwb]; exact heap_setCell_other _ _ _ _ (fun e => by have e2 : wg = G := e; have := HGL.out; omega)))
      have HWb := Lib.hid (show RwS wxb G m (k + 1) k (hdrN N F).K (hdrN N F).L by
        have h := HWa.out.setK HLT.out
        rw [show (hdrN N F).K k = ((x : Nat) : Int) by rw [Ex.out]; first | rfl | (rw [show 14 + 3 * k + 1 = 15 + 3 * k by omega]; rfl)] at h
        rw [hwb]; exact h)
      have HBb := Lib.hid (show But2 s s w wxb by rw [hwb]; exact but2_set HBa.out (by have := HWG.out; have := HGL.out; omega))
      have HRb := Lib.hid (show RS wxb B wg p s N F (14 + 3 * k + 1) by rw [hwb]; exact HRa.out.set (by have := HGL.out; omega))
      clear hwb cv fv
      refine hKK.out _ _ HXb.out (fun hHeld => ?_)
      clear hKK KK
      try simp only [Act.put, List.setIfInBounds_toArray, List.set_cons_zero, List.set_cons_succ]
      refine wpAnyH_done (by kernel_rfl) ?_ _
      clear HX HQ HW HB HR HXa HQa HWa HBa HRa
      go_upto_region 12 with fail
      refine wp_region_held_drew (S := fun W => HAt W (wg + 1) (hdrN N F) (some ⟨G, 0, none⟩) m) (by kernel_rfl) (show HAt _ _ _ _ _ from HXb.out) (fun hHeld => ?_)
      refine wpAnyH_take (i := 0) (oi := ⟨some 37, _, _, _, _, none⟩) (v := (.pointer (some ⟨wg + 1, 5, none⟩))) rfl (by kernel_rfl) (by kernel_rfl) (by kernel_rfl) (fun _ _ _ h => h) (Or.inl ⟨by rfl, fun W hW => ?_⟩) (by assumption) ?_
      · go_simp
      simp only [Act.put, List.setIfInBounds_toArray, List.set_cons_zero, List.set_cons_succ]
      refine wpAnyH_take (i := 1) (oi := ⟨some 38, _, _, _, _, none⟩) (v := (.slice (some ⟨G, 0, none⟩) m m)) rfl (by kernel_rfl) (by kernel_rfl) (by kernel_rfl) (fun _ _ _ h => h) (Or.inl ⟨by rfl, fun W hW => ?_⟩) (by assumption) ?_
      · have := HC5.out W hW; go_simp
      simp only [Act.put, List.setIfInBounds_toArray, List.set_cons_zero, List.set_cons_succ]
      refine wpAnyH_take (i := 2) (oi := ⟨some 39, _, _, _, _, none⟩) (v := (.int .i64 (k : Nat))) rfl (by kernel_rfl) (by kernel_rfl) (by kernel_rfl) (fun _ _ _ h => h) (Or.inl ⟨by rfl, fun W hW => ?_⟩) (by assumption) ?_
      · go_simp
      simp only [Act.put, List.setIfInBounds_toArray, List.set_cons_zero, List.set_cons_succ]
      refine wpAnyH_take (i := 3) (oi := ⟨some 40, _, _, _, _, none⟩) (v := (.pointer (some ⟨p, 0, none⟩))) rfl (by kernel_rfl) (by kernel_rfl) (by kernel_rfl) (fun _ _ _ h => h) (Or.inl ⟨by rfl, fun W hW => ?_⟩) (by assumption) ?_
      · go_simp
      simp only [Act.put, List.setIfInBounds_toArray, List.set_cons_zero, List.set_cons_succ]
      refine wpAnyH_ready (rs := [4]) (by kernel_rfl) (by simp) (AllReadyH.cons rfl (fun KK hKK => ?_) AllReadyH.nil)
      go_simp
      refine (rnumber_at 2 (by decide) (by decide) _ HRb.out.drew).mono ?_
      rintro e wxba ⟨rfl, hr, hb⟩
      dsimp only
      replace hb : But2 s s wxb wxba := (but2_drew s wxb).trans hb
      obtain ⟨y, hy⟩ : ∃ y, y = val N F (14 + 3 * k + 1) 2 := ⟨_, rfl⟩
      rw [← hy]
      have Ey := Lib.hid hy
      have HXba := Lib.hid (HXb.out.but hb (by have := HS.out; omega))
      have HQba := Lib.hid (HQb.out.but hb (by have := HS.out; omega))
      have HWba := Lib.hid (HWb.out.kept (but2_kept hb HWb.out.lt (by have := HS.out; have := HGL.out; omega)))
      have HBba := Lib.hid (HBb.out.trans hb)
      have HRba := Lib.hid (show RS wxba B wg p s N F (14 + 3 * k + 1 + 2) from hr)
      clear hr hb hy
      refine hKK.out _ _ HXba.out (fun hHeld => ?_)
      clear hKK KK
      try simp only [Act.put, List.setIfInBounds_toArray, List.set_cons_zero, List.set_cons_succ]
      refine wpAnyH_take (i := 5) (oi := ⟨some 42, _, _, _, _, none⟩) (v := (.pointer (some ⟨G, k * 2, none⟩))) rfl (by kernel_rfl) (by kernel_rfl) (by kernel_rfl) (fun _ _ _ h => h) (Or.inl ⟨by rfl, fun W hW => ?_⟩) (by assumption) ?_
      · have := i1; go_simp
      simp only [Act.put, List.setIfInBounds_toArray, List.set_cons_zero, List.set_cons_succ]
      refine wpAnyH_take (i := 6) (oi := ⟨some 43, _, _, _, _, none⟩) (v := (.pointer (some ⟨G, k * 2 + 1, none⟩))) rfl (by kernel_rfl) (by kernel_rfl) (by kernel_rfl) (fun _ _ _ h => h) (Or.inl ⟨by rfl, fun W hW => ?_⟩) (by assumption) ?_
      · go_simp
      simp only [Act.put, List.setIfInBounds_toArray, List.set_cons_zero, List.set_cons_succ]
      obtain ⟨v0, cv⟩ := HWba.out.cell (t := k * 2 + 1) (by have := HLT.out; omega)
      have fv := HWba.out.free (k * 2 + 1)
      refine wpAnyH_ready (rs := [7]) (by kernel_rfl) (by simp) (AllReadyH.cons rfl (fun KK hKK => ?_) AllReadyH.nil)
      go_simp
      obtain ⟨wxbb, hwb⟩ : ∃ wxbb, wxbb = wxba.setCell ⟨G, k * 2 + 1, none⟩ (.int .i64 (y : Nat)) := ⟨_, rfl⟩
      rw [← hwb]
      have HXbb := Lib.hid (show HAt wxbb (wg + 1) (hdrN N F) (some ⟨G, 0, none⟩) m from HXba.out.oth (by rw [hwb]; exact heap_setCell_other _ _ _ _ (fun e => by have e2 : wg + 1 = G := e; have := HGL.out; omega)))
      have HQbb := Lib.hid (show HAt wxbb wg hz none 0 from HQba.out.oth (by rw [hwb]; exact heap_setCell_other _ _ _ _ (fun e => by have e2 : wg = G := e; have := HGL.out; omega)))
      have HWbb := Lib.hid (show RwS wxbb G m (k + 1) (k + 1) (hdrN N F).K (hdrN N F).L by
        have h := HWba.out.setL HLT.out
        rw [show (hdrN N F).L k = ((y : Nat) : Int) by rw [Ey.out]; first | rfl | (rw [show 14 + 3 * k + 1 = 15 + 3 * k by omega]; rfl)] at h
        rw [hwb]; exact h)
      have HBbb := Lib.hid (show But2 s s w wxbb by rw [hwb]; exact but2_set HBba.out (by have := HWG.out; have := HGL.out; omega))
      have HRbb := Lib.hid (show RS wxbb B wg p s N F (14 + 3 * k + 1 + 2) by rw [hwb]; exact HRba.out.set (by have := HGL.out; omega))
      clear hwb cv fv
      refine hKK.out _ _ HXbb.out (fun hHeld => ?_)
      clear hKK KK
      try simp only [Act.put, List.setIfInBounds_toArray, List.set_cons_zero, List.set_cons_succ]
      refine wpAnyH_done (by kernel_rfl) ?_ _
      clear HXb HQb HWb HBb HRb HXba HQba HWba HBba HRba
      have HRe := Lib.hid (show RS wxbb B wg p s N F (14 + 3 * (k + 1)) from (show 14 + 3 * k + 1 + 2 = 14 + 3 * (k + 1) by omega) ▸ HRbb.out)
      have hm256 := HM.out
      go_wp2
      go_roundw
      case rel => exact ⟨k + 1, _, rfl, by omega, by go_num, HXbb.out, HQbb.out, HWbb.out, HBbb.out, HRe.out⟩
      case measure => simp [intOf]; omega
    · obtain rfl : k = m := by omega
      have i1 : ¬ (k : Int) < (k : Int) := by omega
      obtain ⟨c0, c1, c2, c3, c4, c5⟩ := HX.out.c
      go_upto_region 14 with fail
      have HRW := Lib.hid (show wx.heap[wg]? = some (.cells #[.int .i64 0, .int .i64 0, .int .i64 0, .int .i64 0, .int .i64 0, .slice none 0 0] 27 (0, 0)) from HQ.out)
      go_wp2_with (show wpList _ _ _ (⟨none, _, _, _, _, _⟩ :: _) _ _; refine wpList_store_row rfl 27 _ _ rfl wg #[.int .i64 (hdrN N F).S, .int .i64 (hdrN N F).F, .int .i64 (hdrN N F).I, .int .i64 (hdrN N F).N, .int .i64 (hdrN N F).D, .slice (some ⟨G, 0, none⟩) (hdrN N F).m k] rfl rfl 27 _ HRW.out (by kernel_rfl) rfl (by simp [Value.oneCell']) ?_)
      obtain ⟨wz, hwz⟩ : ∃ wz, wz = wx.setRow wg #[.int .i64 (hdrN N F).S, .int .i64 (hdrN N F).F, .int .i64 (hdrN N F).I, .int .i64 (hdrN N F).N, .int .i64 (hdrN N F).D, .slice (some ⟨G, 0, none⟩) (hdrN N F).m k] := ⟨_, rfl⟩
      rw [← hwz]
      have HZ := Lib.hid (show wz.heap[wg]? = some (.cells #[.int .i64 (hdrN N F).S, .int .i64 (hdrN N F).F, .int .i64 (hdrN N F).I, .int .i64 (hdrN N F).N, .int .i64 (hdrN N F).D, .slice (some ⟨G, 0, none⟩) (hdrN N F).m k] 27 (0, 0)) by rw [hwz]; exact setRow_heap _ _ _ _ _ _ HRW.out)
      have hne : ∀ j, j ≠ wg → wz.heap[j]? = wx.heap[j]? := fun j hj => by rw [hwz]; exact setRow_other wx wg j _ hj
      have HWZ := Lib.hid (HW.out.kept (hne G (by have := HGL.out; omega)))
      have HBZ := Lib.hid (show But2 s s w wz from ⟨by rw [hwz]; exact HB.out.os, by rw [hwz]; exact HB.out.tape, by rw [hwz]; exact HB.out.output, by rw [hwz]; simpa using HB.out.size, fun j h1 h2 h3 => (hne j (by have := HWG.out; omega)).trans (HB.out.block j h1 h2 h3)⟩)
      have HRZ := Lib.hid (show RS wz B wg p s N F (14 + 3 * k) from HR.out.kept (by rw [hwz]; simp) fun j hj => hne j (by omega))
      have HGW := Lib.hid (show w.heap.size ≤ G by have := HWG.out; have := HGL.out; omega)
      clear hwz hne c0 c1 c2 c3 c4 c5
      go_wp2
      (try simp only [Exit.inBlock, Exit.then])
      rw [← HWG.out, HEM.out]
      refine bodyPost_ret (results_cell_row rfl _ _ wg _ _ (0, 0) _ rfl HZ.out Tryz.underlying27 rfl (by kernel_rfl)) rfl ⟨G, ?_, by rw [HWG.out]; exact HGW.out, HWZ.out, HRZ.out, HBZ.out⟩
      unfold hV
      rw [HEM.out]
end Go.Proofs.YtjlmajopfeplpaaGreat.He

namespace Go.Proofs.YtjlmajopfeplpaaGreat.He
open Go.RowKit Go.Shelf
attribute [local go_sem] Oper.semAt_some

/-- a block is no row of bytes. -/
def NB (w : World) (k : Nat) : Prop := ∀ n cap f, ¬ Bl w k n cap f
theorem nb_of {w : World} {k : Nat} {vs : Array Value} {t : TypeId} {m : Nat × Nat} (h : w.heap[k]? = some (.cells vs t m)) (ht : t ≠ 5) : NB w k := fun n cap f ⟨us, h1, _⟩ => by
  rw [h] at h1
  simp at h1
  exact ht h1.2.1
theorem NB.kept {w w' : World} {k : Nat} (h : NB w k) (he : w'.heap[k]? = w.heap[k]?) : NB w' k := fun n cap f ⟨us, h1, h2⟩ => h n cap f ⟨us, by rw [← he]; exact h1, h2⟩
/-- all blocks stay but the stock's, and rows of bytes from B on. -/
structure Wf (B s : Nat) (w w' : World) : Prop where
  os : w'.os = w.os
  tape : w'.tape = w.tape
  output : w'.output = w.output
  size : w.heap.size ≤ w'.heap.size
  block : ∀ k, k < w.heap.size → k ≠ s → (k < B ∨ NB w k) → w'.heap[k]? = w.heap[k]?
theorem Wf.refl (B s : Nat) (w : World) : Wf B s w w := ⟨rfl, rfl, rfl, Nat.le_refl _, fun _ _ _ _ => rfl⟩
theorem Wf.trans {B s : Nat} {w w' w'' : World} (h : Wf B s w w') (k : Wf B s w' w'') : Wf B s w w'' :=
  ⟨k.os.trans h.os, k.tape.trans h.tape, k.output.trans h.output, Nat.le_trans h.size k.size, fun i h1 h2 h3 => by
    have e := h.block i h1 h2 h3
    exact (k.block i (Nat.lt_of_lt_of_le h1 h.size) h2 (h3.imp id fun q => q.kept e)).trans e⟩
theorem Wf.of {B s : Nat} {w w' : World} (h : Below w.heap.size w w') : Wf B s w w' := ⟨h.os, h.tape, h.output, h.size, fun k hk _ _ => h.block k hk⟩
theorem Wf.below {B s : Nat} {w w' : World} (h : Wf B s w w') (h0 : B ≤ w.heap.size) (h1 : B ≤ s) : Below B w w' := ⟨h.os, h.tape, h.output, h.size, fun k hk => h.block k (by omega) (by omega) (Or.inl hk)⟩
theorem Wf.but {B s p c b : Nat} {a : Option Addr} {S : Bs} {w w' : World} (hw : Wr w B p s a c S) (hb : b = s ∨ a = some ⟨b, 0, none⟩) (h : But2 s b w w') : Wf B s w w' :=
  ⟨h.os, h.tape, h.output, h.size, fun k h1 h2 h3 => by
    refine h.block k h1 h2 (fun e => ?_)
    rcases hb with rfl | hb
    · exact h2 e
    · obtain ⟨l, _, hR, _⟩ := hw.stk
      rcases hR with ⟨r, _⟩ | ⟨g, e', hg, hbl, _⟩
      · rw [r] at hb; cases hb
      · rw [e'] at hb
        cases hb
        subst e
        rcases h3 with h3 | h3
        · omega
        · exact h3 _ _ _ hbl⟩
/-- a writer that wrote so many bytes as they ought to be. -/
def PW (w : World) (B p s : Nat) (P : Nat → Nat) (L : Nat) : Prop := ∃ a c S, Wr w B p s a c S ∧ S.e = 0 ∧ S.l = L ∧ S.Ok ∧ ∀ i, i < L → S.f i = P i
section
variable {w w' : World} {B p s L : Nat} {P : Nat → Nat}
theorem PW.same (h : PW w B p s P L) (hB : Below w.heap.size w w') : PW w' B p s P L := by
  obtain ⟨a, c, S, h1, h2⟩ := h
  exact ⟨a, c, S, h1.same hB, h2⟩
theorem PW.mono {B' : Nat} (h : PW w B p s P L) (hB : B' ≤ B) : PW w B' p s P L := by
  obtain ⟨a, c, S, h1, h2⟩ := h
  obtain ⟨l, k1, k2, k3⟩ := h1.stk
  refine ⟨a, c, S, ⟨h1.box, ⟨l, k1, ?_, k3⟩, Nat.le_trans hB h1.hp, Nat.le_trans hB h1.hs⟩, h2⟩
  rcases k2 with k2 | ⟨g, e, q1, q2⟩
  · exact Or.inl k2
  · exact Or.inr ⟨g, e, Nat.le_trans hB q1, q2⟩
theorem PW.lts (h : PW w B p s P L) : s < w.heap.size ∧ B ≤ s := by
  obtain ⟨a, c, S, h1, h2⟩ := h
  exact ⟨h1.lts, h1.hs⟩
theorem PW.stk (h : PW w B p s P L) : ∃ vs, w.heap[s]? = some (.cells vs 121 (0, 0)) := by
  obtain ⟨a, c, S, h1, h2⟩ := h
  obtain ⟨l, k1, _⟩ := h1.stk
  exact ⟨_, k1⟩
theorem PW.ne (h : PW w B p s P L) {g : Nat} {vs : Array Value} {t : TypeId} {m : Nat × Nat} (hg : w.heap[g]? = some (.cells vs t m)) (ht : t ≠ 121) : g ≠ s := fun e => by
  obtain ⟨us, h1⟩ := h.stk
  rw [← e, hg] at h1
  simp at h1
  exact ht h1.2.1
/-- a block of another type stays. -/
theorem Wf.kept (h : Wf B s w w') (hP : PW w B p s P L) {g : Nat} {vs : Array Value} {t : TypeId} {m : Nat × Nat} (hg : w.heap[g]? = some (.cells vs t m)) (ht : t ≠ 121) (hu : t ≠ 5) : w'.heap[g]? = some (.cells vs t m) :=
  (h.block g (Array.getElem?_eq_some_iff.1 hg).1 (hP.ne hg ht) (Or.inr (nb_of hg hu))).trans hg
/-- what a number's bytes make of it. -/
theorem PW.num {x : Ending} {a : Option Addr} {c : Nat} {S : Bs} (hW : Wr w B p s a c S) (h0 : S.e = 0) (hL : S.l = L) (hO : S.Ok) (hf : ∀ i, i < L → S.f i = P i) {n : Int} {z : Nat} (hfit : Fit n z) (hP : ∀ j, j < z → dg n.toNat z j = P (L + j)) (h : Wrote w B p s a (S.num n z) x w') :
    x = .returned (.tuple #[]) ∧ PW w' B p s P (L + z) ∧ Wf B s w w' := by
  obtain ⟨a', c', hx, hw, ⟨b, hb, hbut⟩, _⟩ := h
  have he : S.num n z = S.add z (dg n.toNat z) := by unfold Bs.num; rw [if_neg (by simp [h0]), if_pos hfit, Int.toNat_natCast]
  rw [he] at hw
  refine ⟨hx, ⟨a', c', _, hw, h0, ?_, hO.add (dg_by _ _), fun i hi => ?_⟩, Wf.but hW hb hbut⟩
  · show S.l + z = L + z
    rw [hL]
  · show cpy S.l z (dg n.toNat z) S.f i = P i
    unfold cpy
    rw [hL]
    by_cases c : i < L
    · rw [if_neg (by omega)]; exact hf i c
    · rw [if_pos (by omega), hP _ (by omega), show L + (i - L) = i by omega]
theorem PW.put {x : Ending} {a : Option Addr} {c : Nat} {S : Bs} (hW : Wr w B p s a c S) (h0 : S.e = 0) (hL : S.l = L) (hO : S.Ok) (hf : ∀ i, i < L → S.f i = P i) {n : Nat} {g : Nat → Nat} (hg : Pf.By g) (hP : ∀ j, j < n → g j = P (L + j)) (h : Wrote w B p s a (S.put n g) x w') :
    x = .returned (.tuple #[]) ∧ PW w' B p s P (L + n) ∧ Wf B s w w' := by
  obtain ⟨a', c', hx, hw, ⟨b, hb, hbut⟩, _⟩ := h
  have he : S.put n g = S.add n g := by unfold Bs.put; rw [if_neg (by simp [h0])]
  rw [he] at hw
  refine ⟨hx, ⟨a', c', _, hw, h0, ?_, hO.add hg, fun i hi => ?_⟩, Wf.but hW hb hbut⟩
  · show S.l + n = L + n
    rw [hL]
  · show cpy S.l n g S.f i = P i
    unfold cpy
    rw [hL]
    by_cases c : i < L
    · rw [if_neg (by omega)]; exact hf i c
    · rw [if_pos (by omega), hP _ (by omega), show L + (i - L) = i by omega]
end
/-- numbers of one size. -/
def NumsOk (P : Nat → Nat) (L z k : Nat) (xs : Nat → Int) : Prop := ∀ i, i < k → Fit (xs i) z ∧ ∀ j, j < z → dg (xs i).toNat z j = P (L + i * z + j)
set_option maxHeartbeats 4000000 in
set_option maxRecDepth 100000 in
theorem numbers_any (B p s : Nat) (P : Nat → Nat) (L k z : Nat) (xs : Nat → Int) (g : Nat) (hk : k ≤ 3) (hL : L ≤ 800000000) (hz : z ≤ 4) (hfit : NumsOk P L z k xs) (w : World) (hB : B ≤ w.heap.size) (hW : PW w B p s P L)
    (vs : Array Value) (hg : w.heap[g]? = some (.cells vs 3 (0, 0))) (hv : ∀ i, i < k → vs[i]? = some (.int .i64 (xs i))) :
    Calls Tryz.prog 57 #[.agg #[.pointer (some ⟨p, 0, none⟩)], .int .i64 (z : Nat), .slice (some ⟨g, 0, none⟩) k k] w fun e w' => e = .returned (.tuple #[]) ∧ PW w' B p s P (L + k * z) ∧ Wf B s w w' := by
  obtain ⟨w1, hw1⟩ : ∃ w1, w1 = w.alloc (.cells #[.pointer (some ⟨p, 0, none⟩)] 53) := ⟨_, rfl⟩
  have hb1 : Below w.heap.size w w1 := by rw [hw1]; exact (Below.refl _ w).alloc (Nat.le_refl _) _
  have HX := Lib.hid (show w1.heap[w.heap.size]? = some (.cells #[.pointer (some ⟨p, 0, none⟩)] 53 (0, 0)) by rw [hw1]; exact heap_alloc_new _ _)
  have HG := Lib.hid (show w1.heap[g]? = some (.cells vs 3 (0, 0)) from (hb1.block g (Array.getElem?_eq_some_iff.1 hg).1).trans hg)
  have HW := Lib.hid (hW.same hb1); have HF := Lib.hid hfit; have HV := Lib.hid hv; have HB1 := Lib.hid hb1; have HBB := Lib.hid (Nat.le_trans hB hb1.size)
  have HK := Lib.hid hk; have HL := Lib.hid hL; have HZ := Lib.hid hz
  have HW1 := Lib.hid hw1
  clear hW hfit hg hv hb1 hw1 hB hk hL hz
  go_enter Tryz.func57, Tryz.ntmps57
  go_wp2_with fail
  rw [← HW1.out]
  generalize hwg : w.heap.size = wg at *
  clear HW1
  go_loopw [7, 10] (fun _ i wr => ∃ (j : Nat) (W : World), W = wr ∧ j ≤ k ∧ i = .int .i64 (j : Nat) ∧ PW wr B p s P (L + j * z) ∧ Wf B s w1 wr) (fun _ i _ => k - (intOf i).toNat)
  case atStart => exact ⟨0, _, rfl, by omega, rfl, by simpa using HW.out, Wf.refl _ _ _⟩
  case round =>
    obtain ⟨j, wx, rfl, hj, rfl, hP, hF⟩ := hrel
    by_cases hlt : j < k
    · have i1 : (j : Int) < (k : Int) := by omega
      have hxc := hF.kept HW.out HX.out (by decide) (by decide)
      have hgc := hF.kept HW.out HG.out (by decide) (by decide)
      have c0 : wx.cell? ⟨wg, 0, none⟩ = some (.pointer (some ⟨p, 0, none⟩)) := by rw [cell_of_row _ _ 0 _ _ _ hxc]; rfl
      have c1 : wx.cell? ⟨g, j, none⟩ = some (.int .i64 (xs j)) := by rw [cell_of_row _ _ j _ _ _ hgc]; exact HV.out j hlt
      have HF2 := Lib.hid hF
      obtain ⟨a, c, S, hw, h0, hl, hO, hf⟩ := hP
      have HWR := Lib.hid hw; have H0 := Lib.hid h0; have HLL := Lib.hid hl; have HO := Lib.hid hO; have HFF := Lib.hid hf
      have HBX := Lib.hid (Nat.le_trans HBB.out hF.size)
      have HJZ := Lib.hid (show j * z ≤ 3 * 4 from Nat.mul_le_mul (by have := HK.out; omega) HZ.out)
      have HSL := Lib.hid (show S.l ≤ 900000000 by rw [HLL.out]; have := HJZ.out; have := HL.out; omega)
      obtain ⟨x, hx⟩ : ∃ x, x = xs j := ⟨_, rfl⟩
      rw [← hx] at c1
      have HXJ := Lib.hid hx
      clear hw h0 hl hO hf hF hxc hgc hx
      go_wp2_with fail
      refine (wnum_any B p s a c S x z HSL.out wx HBX.out HWR.out).mono ?_
      intro e w2 hwr
      obtain ⟨rfl, hP2, hF3⟩ := PW.num HWR.out H0.out HLL.out HO.out HFF.out (by rw [HXJ.out]; exact (HF.out j hlt).1) (fun i hi => by rw [HXJ.out, (HF.out j hlt).2 i hi]) hwr
      have HP2 := Lib.hid hP2; have HF3 := Lib.hid (HF2.out.trans hF3)
      clear hP2 hF3 hwr c0 c1
      have hk3 := HK.out
      go_wp2
      go_roundw
      case rel => exact ⟨j + 1, _, rfl, by omega, by go_num, by rw [Nat.succ_mul, ← Nat.add_assoc]; exact HP2.out, HF3.out⟩
      case measure => simp [intOf]; omega
    · obtain rfl : j = k := by omega
      have i1 : ¬ (j : Int) < (j : Int) := by omega
      have HP := Lib.hid hP; have HF := Lib.hid hF
      clear hP hF
      go_wp2
      go_end0
      exact ⟨rfl, HP.out, (Wf.of (hwg ▸ HB1.out)).trans HF.out⟩
set_option maxHeartbeats 1000000 in
theorem fresh_any (P : Nat → Nat) (w : World) :
    Calls Tryz.prog 31 #[] w fun e w' => ∃ p s, e = .returned (.agg #[.pointer (some ⟨p, 0, none⟩)]) ∧ PW w' w.heap.size p s P 0 ∧ Below w.heap.size w w' := by
  obtain ⟨w1, hw1⟩ : ∃ w1, w1 = w.alloc (.cells #[.pointer none] 53) := ⟨_, rfl⟩
  have hb1 : Below w.heap.size w w1 := by rw [hw1]; exact (Below.refl _ w).alloc (Nat.le_refl _) _
  have HX := Lib.hid (show w1.heap[w.heap.size]? = some (.cells #[.pointer none] 53 (0, 0)) by rw [hw1]; exact heap_alloc_new _ _)
  have HS1 := Lib.hid (show w1.heap.size = w.heap.size + 1 by rw [hw1, World.size_alloc])
  have HB1 := Lib.hid hb1
  have HW1 := Lib.hid hw1
  clear hb1 hw1
  go_enter Tryz.func31, Tryz.ntmps31
  go_wp2_with fail
  rw [← HW1.out]
  refine (wnew_any w1).mono ?_
  rintro e w2 ⟨p, s, rfl, hwr, hB2⟩
  have hx2 := (hB2.block w.heap.size (by have := HS1.out; omega)).trans HX.out
  have c0 : w2.cell? ⟨w.heap.size, 0, none⟩ = some (.pointer none) := by rw [cell_of_row _ _ 0 _ _ _ hx2]; rfl
  have f0 : w2.frozen? ⟨w.heap.size, 0, none⟩ = false := frozen_of_row w2 _ 0 _ _ hx2
  have HWR := Lib.hid hwr; have HB2 := Lib.hid hB2; have HX2 := Lib.hid hx2
  have HN := Lib.hid (show w.heap.size ≠ p ∧ w.heap.size ≠ s by have := hwr.hp; have := hwr.hs; have := HS1.out; omega)
  clear hwr hB2 hx2
  obtain ⟨w3, hw3⟩ : ∃ w3, w3 = w2.setCell ⟨w.heap.size, 0, none⟩ (.pointer (some ⟨p, 0, none⟩)) := ⟨_, rfl⟩
  have HW3 := Lib.hid hw3
  have HX3 := Lib.hid (show w3.heap[w.heap.size]? = some (.cells #[.pointer (some ⟨p, 0, none⟩)] 53 (0, 0)) by rw [hw3]; exact heap_setCell_same w2 w.heap.size 0 _ _ _ HX2.out)
  have HB3 := Lib.hid (show Below w.heap.size w w3 by rw [hw3]; exact (HB1.out.trans (HB2.out.mono (by have := HS1.out; omega))).trans ((But2.set (s := w.heap.size) (b := w.heap.size) w2).below (by have := HB2.out.size; have := HS1.out; omega) (Nat.le_refl _) (Nat.le_refl _)))
  have HW := Lib.hid (show PW w3 w.heap.size p s P 0 from ⟨none, 0, ⟨0, fun _ => 0, 0⟩, by
    have h := HWR.out.kept (w' := w3) (by rw [hw3]; exact heap_setCell_other _ _ _ _ (Ne.symm HN.out.1)) (by rw [hw3]; exact heap_setCell_other _ _ _ _ (Ne.symm HN.out.2)) (fun g e => by cases e)
    obtain ⟨l, k1, k2, k3⟩ := h.stk
    refine ⟨⟨h.box, ⟨l, k1, ?_, k3⟩, by have := h.hp; have := HS1.out; omega, by have := h.hs; have := HS1.out; omega⟩, rfl, rfl, ⟨fun _ => (by show 0 < 256; omega), fun _ _ => rfl⟩, fun i hi => absurd hi (Nat.not_lt_zero i)⟩
    rcases k2 with k2 | ⟨g, e, _⟩
    · exact Or.inl k2
    · cases e⟩)
  clear hw3 HX2 HWR
  go_wp2
  rw [← HW3.out]
  exact bodyPost_ret (results_cell_row rfl _ _ w.heap.size _ _ (0, 0) _ rfl HX3.out Tryz.underlying53 rfl (by kernel_rfl)) rfl ⟨p, s, rfl, HW.out, HB3.out⟩
end Go.Proofs.YtjlmajopfeplpaaGreat.He

namespace Go.Proofs.YtjlmajopfeplpaaGreat.He
open Go.RowKit Go.Shelf
open Go.Proofs.YtjlmajopfeplpaaGreat.Ly (TabOk RowOk off Tb)
attribute [local go_sem] Oper.semAt_some

theorem nums_one {P : Nat → Nat} {L z : Nat} {x : Int} (hf : Fit x z) (h : ∀ j, j < z → dg x.toNat z j = P (L + j)) : NumsOk P L z 1 (fun _ => x) := fun i hi => ⟨hf, fun j hj => by
  rw [show L + i * z + j = L + j by rw [show i = 0 by omega]; omega]; exact h j hj⟩
theorem dg_one (n : Nat) : dg n 1 0 = n % 256 := by
  unfold dg; rw [if_pos (by omega)]; simp
theorem nums_ver (h : Hr) (f : Nat → Nat) : NumsOk (pl h f) 0 1 1 (fun _ => 1) := nums_one (by decide) fun j hj => by
  obtain rfl : j = 0 := by omega
  rw [show (1 : Int).toNat = 1 from rfl, dg_one]; rfl
theorem fit_of {x : Int} {z : Nat} (h1 : 1 ≤ z) (h4 : z ≤ 4) (h : 0 ≤ x) {m : Nat} (hm : x ≤ (m : Int)) (hz : m < 256 ^ z) : Fit x z := ⟨by omega, by omega, h, by
  rw [Int.toNat_natCast]
  have h5 := Int.ofNat_lt.2 hz
  rw [Int.natCast_pow] at h5
  exact Int.lt_of_le_of_lt hm h5⟩
theorem nums_S {h : Hr} (hr : RH h) (f : Nat → Nat) : NumsOk (pl h f) 1 2 1 (fun _ => h.S) := nums_one (fit_of (by decide) (by decide) hr.1.1 (m := 65535) hr.1.2 (by decide)) (pl_S h f)
theorem nums_F {h : Hr} (hr : RH h) (f : Nat → Nat) : NumsOk (pl h f) 3 4 1 (fun _ => h.F) := nums_one (fit_of (by decide) (by decide) (by have := hr.2.1.1; omega) (m := 2147483647) hr.2.1.2 (by decide)) (pl_F h f)
theorem nums_D {h : Hr} (hr : RH h) (f : Nat → Nat) : NumsOk (pl h f) 10 4 1 (fun _ => h.D) := nums_one (fit_of (by decide) (by decide) hr.2.2.2.1.1 (m := 2147483647) hr.2.2.2.1.2 (by decide)) (pl_D h f)
/-- the three numbers of a byte each. -/
def three (h : Hr) (i : Nat) : Int := if i = 0 then h.I else if i = 1 then h.N else (h.m : Nat)
theorem nums_I {h : Hr} (hr : RH h) (f : Nat → Nat) : NumsOk (pl h f) 7 1 3 (three h) := fun i hi => by
  have h3 := hr.2.2.1
  have h5 := hr.2.2.2.2
  have hN := h5.2.1
  have hm := h5.2.2.2.1
  have hx : 0 ≤ three h i ∧ three h i ≤ ((255 : Nat) : Int) := by unfold three; split <;> (try split) <;> omega
  refine ⟨fit_of (by decide) (by decide) hx.1 hx.2 (by decide), fun j hj => ?_⟩
  obtain rfl : j = 0 := by omega
  rw [dg_one, show 7 + i * 1 + 0 = 7 + i by omega]
  unfold three
  rcases (show i = 0 ∨ i = 1 ∨ i = 2 by omega) with rfl | rfl | rfl
  · rfl
  · rfl
  · show ((h.m : Nat) : Int).toNat % 256 = h.m % 256
    rw [Int.toNat_natCast]
theorem nums_K {h : Hr} (hr : RH h) (f : Nat → Nat) {k : Nat} (hk : k < h.m) : NumsOk (pl h f) (14 + 3 * k) 1 1 (fun _ => h.K k) := by
  have h5 := hr.2.2.2.2.2.2.2.2 k hk
  have hN := hr.2.2.2.2.2.1
  unfold RowOk at h5
  refine nums_one (fit_of (by decide) (by decide) (by omega) (m := 255) (by omega) (by decide)) fun j hj => ?_
  obtain rfl : j = 0 := by omega
  rw [dg_one, Nat.add_zero, pl_K h f hk]
theorem nums_L {h : Hr} (hr : RH h) (f : Nat → Nat) {k : Nat} (hk : k < h.m) : NumsOk (pl h f) (14 + 3 * k + 1) 2 1 (fun _ => h.L k) := by
  have h5 := hr.2.2.2.2.2.2.2.2 k hk
  unfold RowOk at h5
  exact nums_one (fit_of (by decide) (by decide) h5.2.2.1 (m := 65535) h5.2.2.2.1 (by decide)) (pl_L h f hk)
theorem at_one (x : Int) : ∀ i, i < 1 → (#[Value.int .i64 x])[i]? = some (.int .i64 ((fun _ => x) i)) := fun i hi => by
  have e : i = 0 := by omega
  subst e; rfl
theorem at_three (h : Hr) : ∀ i, i < 3 → (#[Value.int .i64 h.I, .int .i64 h.N, .int .i64 (h.m : Nat)])[i]? = some (.int .i64 (three h i)) := fun i hi => by
  rcases (show i = 0 ∨ i = 1 ∨ i = 2 by omega) with rfl | rfl | rfl <;> rfl
section
variable {w w' : World} {B p s L : Nat} {P : Nat → Nat}
theorem Wf.hat (h : Wf B s w w') (hP : PW w B p s P L) {g : Nat} {x : Hr} {a : Option Addr} {c : Nat} (hx : HAt w g x a c) : HAt w' g x a c := h.kept hP hx (by decide) (by decide)
/-- a writer in its box. -/
def WAt (w : World) (g p : Nat) : Prop := w.heap[g]? = some (.cells #[.pointer (some ⟨p, 0, none⟩)] 53 (0, 0))
theorem WAt.lt {g : Nat} (h : WAt w g p) : g < w.heap.size := (Array.getElem?_eq_some_iff.1 h).1
theorem WAt.c0 {g : Nat} (h : WAt w g p) : w.cell? ⟨g, 0, none⟩ = some (.pointer (some ⟨p, 0, none⟩)) := by rw [cell_of_row _ _ 0 _ _ _ h]; rfl
theorem Wf.wat (h : Wf B s w w') (hP : PW w B p s P L) {g q : Nat} (hx : WAt w g q) : WAt w' g q := h.kept hP hx (by decide) (by decide)
theorem WAt.same {g q : Nat} (hx : WAt w g q) (hB : Below w.heap.size w w') : WAt w' g q := (hB.block _ hx.lt).trans hx
end
/-- a row of a table in its box. -/
def ZAt (w : World) (g : Nat) (x y : Int) : Prop := w.heap[g]? = some (.cells #[.int .i64 x, .int .i64 y] 24 (0, 0))
theorem ZAt.c {w : World} {g : Nat} {x y : Int} (h : ZAt w g x y) : w.cell? ⟨g, 0, none⟩ = some (.int .i64 x) ∧ w.cell? ⟨g, 1, none⟩ = some (.int .i64 y) :=
  ⟨by rw [cell_of_row _ _ 0 _ _ _ h]; rfl, by rw [cell_of_row _ _ 1 _ _ _ h]; rfl⟩
theorem Wf.zat {w w' : World} {B p s L : Nat} {P : Nat → Nat} (h : Wf B s w w') (hP : PW w B p s P L) {g : Nat} {x y : Int} (hx : ZAt w g x y) : ZAt w' g x y := h.kept hP hx (by decide) (by decide)
/-- a call of numbers whose row was just laid. -/
theorem numbers_at (B p s : Nat) (P : Nat → Nat) (L k z : Nat) (xs : Nat → Int) (hk : k ≤ 3) (hL : L ≤ 800000000) (hz : z ≤ 4) (hfit : NumsOk P L z k xs) (w : World) (hB : B ≤ w.heap.size) (hW : PW w B p s P L)
    (vs : Array Value) (hv : ∀ i, i < k → vs[i]? = some (.int .i64 (xs i))) :
    Calls Tryz.prog 57 #[.agg #[.pointer (some ⟨p, 0, none⟩)], .int .i64 (z : Nat), .slice (some ⟨w.heap.size, 0, none⟩) k k] (w.alloc (.cells vs 3)) fun e w' => e = .returned (.tuple #[]) ∧ PW w' B p s P (L + k * z) ∧ Wf B s w w' := by
  have hb : Below w.heap.size w (w.alloc (.cells vs 3)) := (Below.refl _ w).alloc (Nat.le_refl _) _
  refine (numbers_any B p s P L k z xs w.heap.size hk hL hz hfit _ (Nat.le_trans hB hb.size) (hW.same hb) vs (heap_alloc_new _ _) hv).mono ?_
  rintro e w' ⟨h1, h2, h3⟩
  exact ⟨h1, h2, (Wf.of hb).trans h3⟩
set_option maxHeartbeats 4000000 in
set_option maxRecDepth 100000 in
theorem wheader_any (h : Hr) (hr : RH h) (f : Nat → Nat) (a : Option Addr) (c B p s : Nat) (w : World) (hB : B ≤ w.heap.size) (hW : PW w B p s (pl h f) 0) (hT : ∀ W, Below B w W → Tb W a h.m h.K h.L) :
    Calls Tryz.prog 32 #[.agg #[.pointer (some ⟨p, 0, none⟩)], hV h a c] w fun e w' => e = .returned (.tuple #[]) ∧ PW w' B p s (pl h f) (14 + 3 * h.m) ∧ Wf B s w w' := by
  obtain ⟨w0, hw0⟩ : ∃ w0, w0 = w.alloc (.cells #[.pointer (some ⟨p, 0, none⟩)] 53) := ⟨_, rfl⟩
  obtain ⟨w1, hw1⟩ : ∃ w1, w1 = w0.alloc (.cells #[.int .i64 h.S, .int .i64 h.F, .int .i64 h.I, .int .i64 h.N, .int .i64 h.D, .slice a h.m c] 27) := ⟨_, rfl⟩
  have hz0 : w0.heap.size = w.heap.size + 1 := by rw [hw0, World.size_alloc]
  have hb0 : Below w.heap.size w w0 := by rw [hw0]; exact (Below.refl _ w).alloc (Nat.le_refl _) _
  have hb1 : Below w0.heap.size w0 w1 := by rw [hw1]; exact (Below.refl _ w0).alloc (Nat.le_refl _) _
  have hq0 : WAt w0 w.heap.size p := by rw [hw0]; exact heap_alloc_new _ _
  have HQ := Lib.hid (hq0.same hb1)
  have HX := Lib.hid (show HAt w1 (w.heap.size + 1) h a c by rw [hw1, ← hz0]; exact heap_alloc_new _ _)
  have HB := Lib.hid (hb0.trans (hb1.mono hb0.size))
  have HP := Lib.hid (hW.same HB.out)
  have HF := Lib.hid (show Wf B s w w1 from Wf.of HB.out)
  have HBB := Lib.hid (show B ≤ w1.heap.size from Nat.le_trans hB HB.out.size)
  have HW := Lib.hid (show w1 = (w.alloc (.cells #[.pointer (some ⟨p, 0, none⟩)] 53)).alloc (.cells #[.int .i64 h.S, .int .i64 h.F, .int .i64 h.I, .int .i64 h.N, .int .i64 h.D, .slice a h.m c] 27) by rw [hw1, hw0])
  have HR := Lib.hid hr; have HT := Lib.hid (fun W (hw : Wf B s w W) => hT W (hw.below hB hW.lts.2))
  have HM := Lib.hid (show h.m ≤ 8 from hr.2.2.2.2.2.2.2.1)
  unfold hV
  clear hw0 hw1 hz0 hb0 hb1 hq0 hW hB hr hT
  go_enter Tryz.func32, Tryz.ntmps32
  obtain ⟨c0, c1, c2, c3, c4, c5⟩ := HX.out.c
  have q0 := HQ.out.c0
  go_upto_region 1 with fail
  rw [← HW.out]
  clear HW HB
  generalize hwg : w.heap.size = wg at *
  clear hwg
  go_wp2_with fail
  clear c0 c1 c2 c3 c4 c5 q0
  refine (numbers_at B p s (pl h f) (0) 1 1 (fun _ => 1) (by decide) (by have := HM.out; omega) (by decide) (nums_ver h f) w1 HBB.out HP.out #[.int .i64 1] (at_one _)).mono ?_
  rintro e w2 ⟨rfl, hP, hF⟩
  have HX2 := Lib.hid (hF.hat HP.out HX.out)
  have HQ2 := Lib.hid (hF.wat HP.out HQ.out)
  have HF2 := Lib.hid (HF.out.trans hF)
  have HBB := Lib.hid (Nat.le_trans HBB.out hF.size)
  have HP := Lib.hid hP
  clear hP hF
  obtain ⟨c0, c1, c2, c3, c4, c5⟩ := HX2.out.c
  have q0 := HQ2.out.c0
  go_wp2_with fail
  clear c0 c1 c2 c3 c4 c5 q0
  refine (numbers_at B p s (pl h f) (1) 1 2 (fun _ => h.S) (by decide) (by have := HM.out; omega) (by decide) (nums_S HR.out f) w2 HBB.out HP.out #[.int .i64 h.S] (at_one _)).mono ?_
  rintro e w3 ⟨rfl, hP, hF⟩
  have HX3 := Lib.hid (hF.hat HP.out HX2.out)
  have HQ3 := Lib.hid (hF.wat HP.out HQ2.out)
  have HF3 := Lib.hid (HF2.out.trans hF)
  have HBB := Lib.hid (Nat.le_trans HBB.out hF.size)
  have HP := Lib.hid hP
  clear hP hF
  obtain ⟨c0, c1, c2, c3, c4, c5⟩ := HX3.out.c
  have q0 := HQ3.out.c0
  go_wp2_with fail
  clear c0 c1 c2 c3 c4 c5 q0
  refine (numbers_at B p s (pl h f) (3) 1 4 (fun _ => h.F) (by decide) (by have := HM.out; omega) (by decide) (nums_F HR.out f) w3 HBB.out HP.out #[.int .i64 h.F] (at_one _)).mono ?_
  rintro e w4 ⟨rfl, hP, hF⟩
  have HX4 := Lib.hid (hF.hat HP.out HX3.out)
  have HQ4 := Lib.hid (hF.wat HP.out HQ3.out)
  have HF4 := Lib.hid (HF3.out.trans hF)
  have HBB := Lib.hid (Nat.le_trans HBB.out hF.size)
  have HP := Lib.hid hP
  clear hP hF
  obtain ⟨c0, c1, c2, c3, c4, c5⟩ := HX4.out.c
  have q0 := HQ4.out.c0
  go_wp2_with fail
  clear c0 c1 c2 c3 c4 c5 q0
  refine (numbers_at B p s (pl h f) (7) 3 1 (three h) (by decide) (by have := HM.out; omega) (by decide) (nums_I HR.out f) w4 HBB.out HP.out #[.int .i64 h.I, .int .i64 h.N, .int .i64 (h.m : Nat)] (at_three h)).mono ?_
  rintro e w5 ⟨rfl, hP, hF⟩
  have HX5 := Lib.hid (hF.hat HP.out HX4.out)
  have HQ5 := Lib.hid (hF.wat HP.out HQ4.out)
  have HF5 := Lib.hid (HF4.out.trans hF)
  have HBB := Lib.hid (Nat.le_trans HBB.out hF.size)
  have HP := Lib.hid hP
  clear hP hF
  obtain ⟨c0, c1, c2, c3, c4, c5⟩ := HX5.out.c
  have q0 := HQ5.out.c0
  go_wp2_with fail
  clear c0 c1 c2 c3 c4 c5 q0
  refine (numbers_at B p s (pl h f) (10) 1 4 (fun _ => h.D) (by decide) (by have := HM.out; omega) (by decide) (nums_D HR.out f) w5 HBB.out HP.out #[.int .i64 h.D] (at_one _)).mono ?_
  rintro e w6 ⟨rfl, hP, hF⟩
  have HX6 := Lib.hid (hF.hat HP.out HX5.out)
  have HQ6 := Lib.hid (hF.wat HP.out HQ5.out)
  have HF6 := Lib.hid (HF5.out.trans hF)
  have HBB := Lib.hid (Nat.le_trans HBB.out hF.size)
  have HP := Lib.hid hP
  clear hP hF
  obtain ⟨c0, c1, c2, c3, c4, c5⟩ := HX6.out.c
  go_wp2_with fail
  clear c0 c1 c2 c3 c4 c5
  go_loopw [5, 37] (fun _ i wr => ∃ (k : Nat) (W : World), W = wr ∧ k ≤ h.m ∧ i = .int .i64 (k : Nat) ∧ PW wr B p s (pl h f) (14 + 3 * k) ∧ Wf B s w6 wr) (fun _ i _ => h.m - (intOf i).toNat)
  case atStart => exact ⟨0, _, rfl, by omega, rfl, HP.out, Wf.refl _ _ _⟩
  case round =>
    obtain ⟨k, wx, rfl, hk, rfl, hPx, hFx⟩ := hrel
    have HPx := Lib.hid hPx; have HFx := Lib.hid hFx
    clear hPx hFx
    by_cases hlt : k < h.m
    · have i1 : (k : Int) < (h.m : Int) := by omega
      have HLT := Lib.hid hlt
      obtain ⟨b, o, ea, d0, d1⟩ := (HT.out wx (HF6.out.trans HFx.out)).cell k hlt
      subst ea
      obtain ⟨x, hx⟩ : ∃ x, x = h.K k := ⟨_, rfl⟩
      obtain ⟨y, hy⟩ : ∃ y, y = h.L k := ⟨_, rfl⟩
      rw [← hx] at d0
      rw [← hy] at d1
      have EX := Lib.hid hx; have EY := Lib.hid hy
      clear hx hy hlt
      go_upto_region 9 with fail
      obtain ⟨wy, hwy⟩ : ∃ wy, wy = wx.alloc (.cells #[.int .i64 x, .int .i64 y] 24) := ⟨_, rfl⟩
      rw [← hwy]
      have hby : Below wx.heap.size wx wy := by rw [hwy]; exact (Below.refl _ _).alloc (Nat.le_refl _) _
      have HZ := Lib.hid (show ZAt wy wx.heap.size x y by rw [hwy]; exact heap_alloc_new _ _)
      have HQ7 := Lib.hid ((HFx.out.wat HP.out HQ6.out).same hby)
      have HP7 := Lib.hid (HPx.out.same hby)
      have HF7 := Lib.hid (HFx.out.trans (Wf.of hby))
      have HBB7 := Lib.hid (Nat.le_trans (Nat.le_trans HBB.out HFx.out.size) hby.size)
      generalize wx.heap.size = wh at *
      clear hwy hby d0 d1
      have q0 := HQ7.out.c0
      obtain ⟨z0, z1⟩ := HZ.out.c
      go_wp2_with fail
      clear q0 z0 z1
      refine (numbers_at B p s (pl h f) (14 + 3 * k) 1 1 (fun _ => x) (by decide) (by have := HM.out; omega) (by decide) (by rw [EX.out]; exact nums_K HR.out f HLT.out) wy HBB7.out HP7.out #[.int .i64 x] (at_one _)).mono ?_
      rintro e w8 ⟨rfl, hP8, hF8⟩
      have HQ8 := Lib.hid (hF8.wat HP7.out HQ7.out)
      have HZ8 := Lib.hid (hF8.zat HP7.out HZ.out)
      have HBB8 := Lib.hid (Nat.le_trans HBB7.out hF8.size)
      have HF8 := Lib.hid (HF7.out.trans hF8)
      have HP8 := Lib.hid hP8
      clear hP8 hF8
      have q0 := HQ8.out.c0
      obtain ⟨z0, z1⟩ := HZ8.out.c
      go_wp2_with fail
      clear q0 z0 z1
      refine (numbers_at B p s (pl h f) (14 + 3 * k + 1) 1 2 (fun _ => y) (by decide) (by have := HM.out; omega) (by decide) (by rw [EY.out]; exact nums_L HR.out f HLT.out) w8 HBB8.out HP8.out #[.int .i64 y] (at_one _)).mono ?_
      rintro e w9 ⟨rfl, hP9, hF9⟩
      have HP9 := Lib.hid (show PW w9 B p s (pl h f) (14 + 3 * (k + 1)) from (show 14 + 3 * k + 1 + 1 * 2 = 14 + 3 * (k + 1) by omega) ▸ hP9)
      have HF9 := Lib.hid (HF8.out.trans hF9)
      clear hP9 hF9
      have hlt := HLT.out
      have hm8 := HM.out
      go_wp2
      go_roundw
      case rel => exact ⟨k + 1, _, rfl, by omega, by go_num, HP9.out, HF9.out⟩
      case measure => simp [intOf]; omega
    · obtain rfl : k = h.m := by omega
      have i1 : ¬ (h.m : Int) < (h.m : Int) := by omega
      go_wp2
      go_end0
      exact ⟨rfl, HPx.out, HF6.out.trans HFx.out⟩
end Go.Proofs.YtjlmajopfeplpaaGreat.He

namespace Go.Proofs.YtjlmajopfeplpaaGreat.He
open Go.RowKit Go.Shelf
open Go.Proofs.YtjlmajopfeplpaaGreat.Ly (TabOk RowOk off off_le Tb TabSays NumSays)
open Go.Proofs.YtjlmajopfeplpaaGreat.Wg (BoSays BoSays.no BoSays.yes)
attribute [local go_sem] Oper.semAt_some

theorem sealed_same {f g : Nat → Nat} {n : Nat} (h : ∀ j, j < n → f j = g j) (i : Nat) : Crc.sealed f n i = Crc.sealed g n i := by
  unfold Crc.sealed
  rw [Crc.go_congr h]
  split
  · rw [h i (by assumption)]
  · rfl
set_option maxHeartbeats 4000000 in
set_option maxRecDepth 100000 in
theorem whole_any (h : Hr) (a ba : Option Addr) (c n bc : Nat) (w : World) (hT : Tb w a h.m h.K h.L) :
    Calls Tryz.prog 30 #[hV h a c, .slice ba n bc] w fun e w' => BoSays (RH h ∧ n = off h.K h.L h.m) e ∧ Below w.heap.size w w' := by
  obtain ⟨w0, hw0⟩ : ∃ w0, w0 = w.alloc (.cells #[.int .i64 h.S, .int .i64 h.F, .int .i64 h.I, .int .i64 h.N, .int .i64 h.D, .slice a h.m c] 27) := ⟨_, rfl⟩
  have HX0 := Lib.hid (show HAt w0 w.heap.size h a c by rw [hw0]; exact heap_alloc_new _ _)
  have HB0 := Lib.hid (show Below w.heap.size w w0 by rw [hw0]; exact (Below.refl _ w).alloc (Nat.le_refl _) _)
  have HT := Lib.hid hT; have HW0 := Lib.hid hw0
  have HLO := Lib.hid (fun W hT => Ly.lLong_any h.N a h.m c h.K h.L W hT)
  have HRI := Lib.hid (fun W hT => phright_any h a c W hT)
  unfold hV at HRI ⊢
  clear hT hw0
  go_enter Tryz.func30, Tryz.ntmps30
  go_upto_region 1 with fail
  rw [← HW0.out]
  clear HW0
  obtain ⟨c0, c1, c2, c3, c4, c5⟩ := HX0.out.c
  go_wp2_with fail
  clear c0 c1 c2 c3 c4 c5
  refine (HRI.out w0 (HT.out.same HB0.out)).mono ?_
  rintro e w1 ⟨⟨v, rfl, hv⟩, hB1⟩
  have HX1 := Lib.hid (HX0.out.same hB1); have HB1 := Lib.hid (HB0.out.trans (hB1.mono HB0.out.size))
  have HVV := Lib.hid hv
  have hs1 := HB1.out.size
  clear hv hB1
  cases v
  · have HN := Lib.hid (show ¬ (RH h ∧ n = off h.K h.L h.m) from fun q => absurd (HVV.out.2 q.1) (by simp))
    go_wp2
    go_ret
    exact ⟨BoSays.no HN.out, HB1.out⟩
  have HR := Lib.hid (show RH h by first | exact HVV.out.1 rfl | exact HVV.out.1 trivial)
  clear HVV
  obtain ⟨c0, c1, c2, c3, c4, c5⟩ := HX1.out.c
  go_wp2_with fail
  clear c0 c1 c2 c3 c4 c5
  refine (HLO.out w1 (HT.out.same HB1.out)).mono ?_
  rintro e w2 ⟨hlo, hB2⟩
  have HB2 := Lib.hid (HB1.out.trans (hB2.mono hs1))
  clear hB2
  rcases hlo with ⟨hno, rfl⟩ | ⟨hok, m, hm2, rfl⟩
  · exact absurd HR.out.2.2.2.2 hno
  · have HM := Lib.hid hm2
    clear hok hm2
    by_cases hnm : n = m
    · have g1 : ((n : Int) == (m : Int)) = true := by simp [hnm]
      have HN := Lib.hid (show RH h ∧ n = off h.K h.L h.m from ⟨HR.out, by rw [hnm]; exact HM.out⟩)
      clear hnm
      go_wp2
      go_ret
      exact ⟨BoSays.yes HN.out, HB2.out⟩
    · have g1 : ((n : Int) == (m : Int)) = false := by simp; omega
      have HN := Lib.hid (show ¬ (RH h ∧ n = off h.K h.L h.m) from fun q => hnm (by rw [HM.out]; exact q.2))
      clear hnm
      go_wp2
      go_ret
      exact ⟨BoSays.no HN.out, HB2.out⟩
set_option maxHeartbeats 4000000 in
set_option maxRecDepth 100000 in
theorem phput_any (h : Hr) (a ba : Option Addr) (c n bc : Nat) (f : Nat → Nat) (hn : n ≤ 1000000) (w : World) (hT : Tb w a h.m h.K h.L) (hb : Sl w ba n bc f) :
    Calls Tryz.prog 13 #[hV h a c, .slice ba n bc] w fun e w' => PutGoes w h n f e w' ∧ Below w.heap.size w w' := by
  obtain ⟨w0, hw0⟩ : ∃ w0, w0 = w.alloc (.cells #[.int .i64 h.S, .int .i64 h.F, .int .i64 h.I, .int .i64 h.N, .int .i64 h.D, .slice a h.m c] 27) := ⟨_, rfl⟩
  have HX0 := Lib.hid (show HAt w0 w.heap.size h a c by rw [hw0]; exact heap_alloc_new _ _)
  have HB0 := Lib.hid (show Below w.heap.size w w0 by rw [hw0]; exact (Below.refl _ w).alloc (Nat.le_refl _) _)
  have HT := Lib.hid hT; have HS := Lib.hid hb; have HW0 := Lib.hid hw0; have HN := Lib.hid hn
  have HRI := Lib.hid (fun W hT => whole_any h a ba c n bc W hT)
  have HHD := Lib.hid (fun hr B p s W hB hW hT => wheader_any h hr f a c B p s W hB hW hT)
  unfold hV at HRI HHD ⊢
  clear hT hw0 hb hn
  go_enter Tryz.func13, Tryz.ntmps13
  go_upto_region 1 with fail
  rw [← HW0.out]
  clear HW0
  obtain ⟨c0, c1, c2, c3, c4, c5⟩ := HX0.out.c
  go_wp2_with fail
  clear c0 c1 c2 c3 c4 c5
  refine (HRI.out w0 (HT.out.same HB0.out)).mono ?_
  rintro e w1 ⟨⟨v, rfl, hv⟩, hB1⟩
  have HX1 := Lib.hid (HX0.out.same hB1); have HB1 := Lib.hid (HB0.out.trans (hB1.mono HB0.out.size))
  have HVV := Lib.hid hv
  clear hv hB1
  cases v
  · have HN := Lib.hid (show ¬ (RH h ∧ n = off h.K h.L h.m) from fun q => absurd (HVV.out.2 q) (by simp))
    go_wp2
    go_ret2
    exact ⟨Or.inr ⟨HN.out, rfl⟩, HB1.out⟩
  have HR := Lib.hid (show RH h ∧ n = off h.K h.L h.m by first | exact HVV.out.1 rfl | exact HVV.out.1 trivial)
  clear HVV
  go_wp2_with fail
  refine (fresh_any (pl h f) w1).mono ?_
  rintro e w2 ⟨p, s, rfl, hP2, hB2⟩
  have HX2 := Lib.hid (HX1.out.same hB2)
  have HP2 := Lib.hid (show PW w2 w.heap.size p s (pl h f) 0 from hP2.mono HB1.out.size)
  have HB2 := Lib.hid (HB1.out.trans (hB2.mono HB1.out.size))
  clear hP2 hB2
  go_upto_region 4 with fail
  obtain ⟨w3, hw3⟩ : ∃ w3, w3 = w2.alloc (.cells #[.pointer (some ⟨p, 0, none⟩)] 53) := ⟨_, rfl⟩
  rw [← hw3]
  have hb3 : Below w2.heap.size w2 w3 := by rw [hw3]; exact (Below.refl _ _).alloc (Nat.le_refl _) _
  have HQ3 := Lib.hid (show WAt w3 w2.heap.size p by rw [hw3]; exact heap_alloc_new _ _)
  have HX3 := Lib.hid (HX2.out.same hb3)
  have HP3 := Lib.hid (HP2.out.same hb3)
  have HB3 := Lib.hid (HB2.out.trans (hb3.mono HB2.out.size))
  generalize w2.heap.size = g2 at *
  clear hw3 hb3
  obtain ⟨c0, c1, c2, c3, c4, c5⟩ := HX3.out.c
  have q0 := HQ3.out.c0
  go_wp2_with fail
  clear c0 c1 c2 c3 c4 c5 q0
  refine (HHD.out HR.out.1 w.heap.size p s w3 HB3.out.size HP3.out (fun W hB => HT.out.same (HB3.out.trans hB))).mono ?_
  rintro e w4 ⟨rfl, hP4, hF4⟩
  have HQ4 := Lib.hid (hF4.wat HP3.out HQ3.out)
  have HB4 := Lib.hid (HB3.out.trans (hF4.below HB3.out.size HP3.out.lts.2))
  obtain ⟨a4, c4, S4, hW4, h04, hL4, hO4, hf4⟩ := hP4
  have HW4 := Lib.hid hW4; have H04 := Lib.hid h04; have HL4 := Lib.hid hL4; have HO4 := Lib.hid hO4; have HF4 := Lib.hid hf4
  have HM := Lib.hid (show h.m ≤ 8 from HR.out.1.2.2.2.2.2.2.2.1)
  have HSL := Lib.hid (show S4.l + n ≤ 1000000000 by rw [hL4]; have := HM.out; have := HN.out; omega)
  have q0 := HQ4.out.c0
  clear hF4 hW4 h04 hL4 hO4 hf4
  go_wp2_with fail
  clear q0
  refine (wput_any w.heap.size p s a4 c4 S4 ba n bc f HSL.out w4 HB4.out.size HW4.out (HS.out.same HB4.out)).mono ?_
  intro e w5 hwr
  obtain ⟨rfl, hP5, hF5⟩ := PW.put HW4.out H04.out HL4.out HO4.out HF4.out HS.out.bytes (fun j hj => (pl_body h f j).symm) hwr
  have HQ5 := Lib.hid (hF5.wat ⟨a4, c4, S4, HW4.out, H04.out, HL4.out, HO4.out, HF4.out⟩ HQ4.out)
  have HB5 := Lib.hid (HB4.out.trans (hF5.below HB4.out.size HW4.out.hs))
  obtain ⟨a5, c5, S5, hW5, h05, hL5, hO5, hf5⟩ := hP5
  have HW5 := Lib.hid hW5; have H05 := Lib.hid h05; have HO5 := Lib.hid hO5; have HF5 := Lib.hid hf5
  have HL5 := Lib.hid (show S5.m = 14 + 3 * h.m + n by unfold Bs.m; rw [if_pos h05, hL5])
  have HSL5 := Lib.hid (show S5.l ≤ 900000000 by rw [hL5]; have := HM.out; have := HN.out; omega)
  have q0 := HQ5.out.c0
  clear hwr hF5 hW5 h05 hL5 hO5 hf5
  go_wp2_with fail
  clear q0
  refine (wbytes_any w.heap.size p s a5 c5 S5 HO5.out HSL5.out w5 HW5.out).mono ?_
  rintro e w6 ⟨a6, c6, rfl, hN6, hB6⟩
  rw [HL5.out] at hN6
  rw [HL5.out, H05.out]
  have HS6 := Lib.hid hN6.sl
  have HB6 := Lib.hid (HB5.out.trans (hB6.mono HB5.out.size))
  clear hN6 hB6
  go_wp2_with fail
  refine (pseal_any a6 (14 + 3 * h.m + n) c6 S5.g (by have := HM.out; have := HN.out; omega) w6 HS6.out).mono ?_
  rintro e w7 ⟨g, C, rfl, hg, hC, hbl, hB7⟩
  have HBL := Lib.hid (show Bl w7 g (14 + 3 * h.m + n + 4) C (Crc.sealed (pl h f) (14 + 3 * h.m + n)) from hbl.congr fun i hi => sealed_same (fun j hj => by unfold Bs.g; rw [if_pos H05.out]; exact HF5.out j hj) i)
  have HB7 := Lib.hid (HB6.out.trans (hB7.mono HB6.out.size))
  have HG := Lib.hid (Nat.le_trans HB6.out.size hg); have HC := Lib.hid hC
  clear hg hC hbl hB7
  go_wp2
  go_ret2
  exact ⟨Or.inl ⟨HR.out.1, HR.out.2, g, C, rfl, HG.out, HC.out, HBL.out⟩, HB7.out⟩
theorem pHPut : PHPut := fun h a ba c n bc f hn _ w hT hb => phput_any h a ba c n bc f hn w hT hb
end Go.Proofs.YtjlmajopfeplpaaGreat.He

namespace Go.Proofs.YtjlmajopfeplpaaGreat.He
open Go.RowKit Go.Shelf
open Go.Proofs.YtjlmajopfeplpaaGreat.Ly (TabOk RowOk off Tb tdl tdl_len tdl_at)
open Go.Proofs.YtjlmajopfeplpaaGreat.Wg (BoSays BoSays.no BoSays.yes)
attribute [local go_sem] Oper.semAt_some

/-- the error that opening tells. -/
def oerr (n : Nat) (f : Nat → Nat) : Int := if n < 4 then 4 else if okB f (n - 4) = false then 10 else if n = 4 then 4 else if f 0 ≠ 1 then 11 else 0
theorem perr_o {n : Nat} {f : Nat → Nat} (h : oerr n f ≠ 0) : perr n f = oerr n f := by
  unfold perr oerr at *
  by_cases h1 : n < 4
  · rw [if_pos h1, if_pos h1]
  rw [if_neg h1] at h
  rw [if_neg h1, if_neg h1]
  by_cases h2 : okB f (n - 4) = false
  · rw [if_pos h2, if_pos h2]
  rw [if_neg h2] at h
  rw [if_neg h2, if_neg h2]
  by_cases h3 : n = 4
  · rw [if_pos h3, if_pos h3]
  rw [if_neg h3] at h
  rw [if_neg h3, if_neg h3]
  by_cases h4 : f 0 ≠ 1
  · rw [if_pos h4, if_pos h4]
  rw [if_neg h4] at h
  exact absurd rfl h
theorem perr_z {n : Nat} {f : Nat → Nat} (h : oerr n f = 0) : 4 ≤ n ∧ (GoodP (n - 4) f → perr n f = 0) ∧ (¬ GoodP (n - 4) f → perr n f = 4) := by
  unfold perr oerr at *
  split at h
  · cases h
  · rename_i h4
    rw [if_neg h4]
    split at h
    · cases h
    · rename_i h5
      rw [if_neg h5]
      split at h
      · cases h
      · rename_i h6
        rw [if_neg h6]
        split at h
        · cases h
        · rename_i h7
          rw [if_neg h7]
          exact ⟨by omega, fun g => if_pos g, fun g => if_neg g⟩
theorem off_congr {K L K' L' : Nat → Int} : ∀ n, (∀ i, i < n → K i = K' i ∧ L i = L' i) → off K L n = off K' L' n
  | 0, _ => rfl
  | n + 1, h => by
    unfold off
    rw [off_congr n (fun i hi => h i (by omega)), (h n (by omega)).1, (h n (by omega)).2]
theorem tdl_congr {K L K' L' : Nat → Int} : ∀ n, (∀ i, i < n → K i = K' i ∧ L i = L' i) → tdl K L n = tdl K' L' n
  | 0, _ => rfl
  | n + 1, h => by
    unfold tdl
    rw [tdl_congr n (fun i hi => h i (by omega)), (h n (by omega)).1, (h n (by omega)).2]
theorem hdrN_eq {N : Nat} {F : Nat → Nat} (h : 14 + 3 * (hdrN N F).m ≤ N) : EH (hdrN N F) (hdr F) := by
  have hm : val N F 9 1 = F 9 := val_one (by omega)
  have h' : 14 + 3 * F 9 ≤ N := by
    have e : (hdrN N F).m = val N F 9 1 := rfl
    rw [e, hm] at h; exact h
  refine ⟨⟨?_, ?_, ?_, ?_, hm, fun i hi => ?_⟩, ?_⟩
  · show ((val N F 1 2 : Nat) : Int) = _; unfold val; rw [if_pos (by omega)]; rfl
  · show ((val N F 3 4 : Nat) : Int) = _; unfold val; rw [if_pos (by omega)]; rfl
  · show ((val N F 8 1 : Nat) : Int) = _; rw [val_one (by omega)]; rfl
  · show ((val N F 10 4 : Nat) : Int) = _; unfold val; rw [if_pos (by omega)]; rfl
  · have hi : i < F 9 := by
      have e : (hdrN N F).m = val N F 9 1 := rfl
      rw [e, hm] at hi; exact hi
    constructor
    · show ((val N F (14 + 3 * i) 1 : Nat) : Int) = _; rw [val_one (by omega)]; rfl
    · show ((val N F (15 + 3 * i) 2 : Nat) : Int) = _; unfold val; rw [if_pos (by omega)]; rfl
  · show ((val N F 7 1 : Nat) : Int) = _; rw [val_one (by omega)]; rfl
theorem goodP_m {N : Nat} {F : Nat → Nat} (h : GoodP N F) : 14 + 3 * (hdrN N F).m ≤ N := by
  have h1 := h.1
  have e : (hdrN N F).m = F 9 := val_one (by omega)
  rw [e]; exact h1
theorem eh_symm {h g : Hr} (e : EH h g) : EH g h := by
  obtain ⟨⟨e1, e2, e3, e4, e5, e6⟩, e7⟩ := e
  exact ⟨⟨e1.symm, e2.symm, e3.symm, e4.symm, e5.symm, fun i hi => ⟨(e6 i (by omega)).1.symm, (e6 i (by omega)).2.symm⟩⟩, e7.symm⟩
theorem goodP_iff {N : Nat} {F : Nat → Nat} (h : 14 + 3 * (hdrN N F).m ≤ N) : GoodP N F ↔ (RH (hdrN N F) ∧ N - (14 + 3 * (hdrN N F).m) = off (hdrN N F).K (hdrN N F).L (hdrN N F).m) := by
  have he := hdrN_eq h
  have em : (hdrN N F).m = F 9 := he.1.2.2.2.2.1
  have ho := off_congr _ he.1.2.2.2.2.2
  unfold GoodP
  rw [ho, em]
  constructor
  · rintro ⟨h1, h2, h3⟩
    exact ⟨rh_congr (eh_symm he) h2, h3⟩
  · rintro ⟨h2, h3⟩
    exact ⟨by omega, rh_congr he h2, h3⟩
theorem hV_eq {h g : Hr} (e : EH h g) (a : Option Addr) (c : Nat) : hV h a c = hV g a c := by
  obtain ⟨⟨e1, e2, e3, e4, e5, _⟩, e7⟩ := e
  unfold hV
  rw [e1, e2, e3, e4, e5, e7]
section
variable {w w' : World} {B H p s N k : Nat} {F : Nat → Nat}
theorem RS.monoB {B' : Nat} (h : RS w B H p s N F k) (hB : B' ≤ B) : RS w B' H p s N F k := by
  obtain ⟨a, c, S, h1, h2⟩ := h
  exact ⟨a, c, S, ⟨h1.box, h1.stk, Nat.le_trans hB h1.hp, Nat.le_trans hB h1.hs, fun ad e => ⟨Nat.le_trans hB (h1.ha ad e).1, (h1.ha ad e).2⟩⟩, h2⟩
theorem RS.bs (h : RS w B H p s N F k) : B ≤ s := by
  obtain ⟨a, c, S, h1, h2⟩ := h
  exact h1.hs
theorem RS.lts (h : RS w B H p s N F k) : s < w.heap.size := by
  obtain ⟨a, c, S, h1, h2⟩ := h
  exact h1.lts
end
theorem but2_below {s B : Nat} {w w' : World} (h : But2 s s w w') (h0 : B ≤ w.heap.size) (h1 : B ≤ s) : Below B w w' := h.below h0 h1 h1
set_option maxHeartbeats 4000000 in
set_option maxRecDepth 100000 in
theorem phopen_any (a : Option Addr) (n c : Nat) (f : Nat → Nat) (hn : n ≤ 1000000) (w : World) (hS : Sl w a n c f) :
    Calls Tryz.prog 45 #[.slice a n c] w fun e w' => ((oerr n f ≠ 0 ∧ e = .returned (.tuple #[.pointer none, .int .i64 (oerr n f)])) ∨ (oerr n f = 0 ∧ ∃ p s, e = .returned (.tuple #[.pointer (some ⟨p, 0, none⟩), .int .i64 0]) ∧ RS w' w.heap.size w'.heap.size p s (n - 4) f 1)) ∧ Below w.heap.size w w' := by
  have HO := Lib.hid (popen_any a n c f (by omega) w hS)
  have HN := Lib.hid hn; have HBY := Lib.hid hS.bytes
  clear hS hn
  obtain ⟨oe, hoe⟩ : ∃ oe, oe = oerr n f := ⟨_, rfl⟩
  rw [← hoe]
  have HOE := Lib.hid hoe
  clear hoe
  go_enter Tryz.func45, Tryz.ntmps45
  go_wp2_with fail
  refine HO.out.mono ?_
  rintro e w1 (⟨h4, rfl, hB⟩ | ⟨h4, hok, rfl, hB⟩ | ⟨h4, hok, b, cap, rfl, hN, hB⟩)
  · obtain rfl : oe = 4 := by rw [HOE.out]; unfold oerr; rw [if_pos h4]
    have HB := Lib.hid hB
    clear h4 hB
    go_wp2
    go_ret2
    exact ⟨Or.inl ⟨by decide, rfl⟩, HB.out⟩
  · obtain rfl : oe = 10 := by rw [HOE.out]; unfold oerr; rw [if_neg (by omega), if_pos hok]
    have HB := Lib.hid hB
    clear h4 hok hB
    go_wp2
    go_ret2
    exact ⟨Or.inl ⟨by decide, rfl⟩, HB.out⟩
  have HB := Lib.hid hB; have HNW := Lib.hid hN; have HS1 := Lib.hid hN.sl
  have HE := Lib.hid (show oe = if n = 4 then 4 else if f 0 ≠ 1 then 11 else 0 by rw [HOE.out]; unfold oerr; rw [if_neg (by omega), if_neg (by rw [hok]; decide)])
  obtain ⟨N, hNN⟩ : ∃ N, N = n - 4 := ⟨_, rfl⟩
  rw [← hNN] at HS1 ⊢
  have H4 := Lib.hid (show n = N + 4 by omega)
  clear hB hN h4 hok HOE HO HNW hNN
  go_wp2_with fail
  refine (rover_any b N cap (sub f 0 N) (by have := HN.out; have := H4.out; omega) w1 HS1.out).mono ?_
  rintro e w2 ⟨p, s, a', c', rfl, hR, hB2⟩
  have HR := Lib.hid hR
  have HB2 := Lib.hid (HB.out.trans (hB2.mono HB.out.size))
  clear hR hB2
  go_wp2_with fail
  refine (rleft_any w1.heap.size p s a' c' ⟨N, sub f 0 N, 0⟩ w2 HR.out).mono ?_
  rintro e w3 ⟨rfl, rfl⟩
  rw [show Bs.m ⟨N, sub f 0 N, 0⟩ = N from if_pos rfl]
  by_cases hz : N = 0
  · have g1 : ((N : Int) == 0) = true := by simp [hz]
    obtain rfl : oe = 4 := by rw [HE.out, if_pos (by have := H4.out; omega)]
    clear hz
    go_wp2
    go_ret2
    exact ⟨Or.inl ⟨by decide, rfl⟩, HB2.out⟩
  have g1 : ((N : Int) == 0) = false := by simp [hz]
  have HZ := Lib.hid (show 1 ≤ N by omega)
  have HRS := Lib.hid (show RS w3 w.heap.size w3.heap.size p s N f 0 from RS.monoB ⟨a', c', _, HR.out, ⟨HS1.out.bytes, HS1.out.up⟩, ⟨HR.out.box.lt, HR.out.lts, fun ad e => (HR.out.ha ad e).2.1⟩, by have := HN.out; have := H4.out; show N ≤ _; omega, Or.inl ⟨rfl, Nat.zero_le _, rfl, fun j hj => by show sub f 0 N j = _; unfold sub; rw [if_pos (by omega)]⟩⟩ HB.out.size)
  clear hz HR
  go_wp2_with fail
  refine (rnumber_at 1 (by decide) (by decide) w3 HRS.out).mono ?_
  rintro e w4 ⟨rfl, hr4, hb4⟩
  rw [val_one (by have := HZ.out; omega)]
  have HR4 := Lib.hid (show RS w4 w.heap.size w4.heap.size p s N f 1 from hr4.top)
  have HB4 := Lib.hid (HB2.out.trans (but2_below hb4 HB2.out.size HRS.out.bs))
  have HNE := Lib.hid (show ¬ n = 4 by have := HZ.out; have := H4.out; omega)
  clear hr4 hb4 g1
  obtain ⟨x, hx⟩ : ∃ x, x = f 0 := ⟨_, rfl⟩
  rw [← hx]
  by_cases h1 : x = 1
  · have g1 : ((x : Int) != 1) = false := by simp [h1]
    have HO0 := Lib.hid (show oe = 0 by rw [HE.out, if_neg HNE.out, if_neg (by rw [← hx, h1]; decide)])
    clear hx h1
    go_wp2
    go_ret2
    exact ⟨Or.inr ⟨HO0.out, p, s, rfl, by rw [show n - 4 = N by have := H4.out; omega]; exact HR4.out⟩, HB4.out⟩
  · have g1 : ((x : Int) != 1) = true := by simp; omega
    obtain rfl : oe = 11 := by rw [HE.out, if_neg HNE.out, if_pos (by rw [← hx]; exact h1)]
    clear hx h1
    go_wp2
    go_ret2
    exact ⟨Or.inl ⟨by decide, rfl⟩, HB4.out⟩
theorem results_head3 {fn : Func} {p q r : Tmp} (h : fn.results = #[.cell p 27, .tmp q, .tmp r]) (tmps : Array Value) (w : World) (g : Nat) (x : Hr) (a : Option Addr) (c : Nat)
    (hp : tmps.getD p undef = .pointer (some ⟨g, 0, none⟩)) (hg : HAt w g x a c) : (results fn tmps).run Tryz.prog w = .ok (.tuple #[hV x a c, tmps.getD q undef, tmps.getD r undef]) w := by
  have hp' : tmps[p]?.getD undef = .pointer (some ⟨g, 0, none⟩) := by simpa using hp
  have hr := run_loadVar_row (P := Tryz.prog) w g _ _ #[.int .i64 x.S, .int .i64 x.F, .int .i64 x.I, .int .i64 x.N, .int .i64 x.D, .slice a x.m c] (0, 0) _ hg Tryz.underlying27 rfl (by kernel_rfl)
  simp [results, h, hp', asAddr, hr, hV]
/-- what is left, when it is taken. -/
theorem rest_of_bs {S : Bs} {N k : Nat} {F : Nat → Nat} (hc : (S.e = 0 ∧ k ≤ N ∧ S.l = N - k ∧ ∀ j, j < N - k → S.f j = F (k + j)) ∨ (S.e = 4 ∧ N < k)) :
    S.tm (S.m : Nat) = N - k ∧ S.tf (S.m : Nat) = (fun j => if j < N - k then F (k + j) else 0) ∧ (S.take (S.m : Nat)).fin = if k ≤ N then 0 else 4 := by
  rcases hc with ⟨he, hk, hl, hf⟩ | ⟨he, hk⟩
  · have hm : S.m = N - k := by unfold Bs.m; rw [if_pos he, hl]
    rw [hm]
    refine ⟨?_, funext fun j => ?_, ?_⟩
    · unfold Bs.tm; rw [if_pos ⟨he, by omega, by omega⟩, Int.toNat_natCast]
    · unfold Bs.tf
      rw [if_pos ⟨he, by omega, by omega⟩, Int.toNat_natCast]
      unfold sub
      split
      · rw [Nat.zero_add, hf j (by assumption)]
      · rfl
    · unfold Bs.take
      rw [if_neg (by simp [he]), if_neg (by omega), if_neg (by omega), if_pos hk, Int.toNat_natCast]
      unfold Bs.fin Bs.cut
      rw [if_neg (by simp [he]), if_neg (by show ¬ 0 < S.l - (N - k); omega)]
  · have hm : S.m = 0 := by unfold Bs.m; rw [if_neg (by rw [he]; decide)]
    rw [hm]
    refine ⟨?_, funext fun j => ?_, ?_⟩
    · unfold Bs.tm; rw [if_neg (by rw [he]; omega)]; omega
    · unfold Bs.tf; rw [if_neg (by rw [he]; omega), if_neg (by omega)]
    · unfold Bs.take
      rw [if_pos (by rw [he]; decide), if_neg (by omega)]
      unfold Bs.fin
      rw [if_pos (by rw [he]; decide), he]
end Go.Proofs.YtjlmajopfeplpaaGreat.He

namespace Go.Proofs.YtjlmajopfeplpaaGreat.He
open Go.RowKit Go.Shelf
open Go.Proofs.YtjlmajopfeplpaaGreat.Ly (TabOk RowOk off Tb tdl tdl_len tdl_at tdl_tb)
open Go.Proofs.YtjlmajopfeplpaaGreat.Wg (BoSays BoSays.no BoSays.yes)
attribute [local go_sem] Oper.semAt_some

/-- a header that is stored whole. -/
theorem set_head {W : World} {g : Nat} {vs : Array Value} (h : Hr) (a : Option Addr) (c : Nat) (hg : W.heap[g]? = some (.cells vs 27 (0, 0))) :
    HAt (W.setRow g #[.int .i64 h.S, .int .i64 h.F, .int .i64 h.I, .int .i64 h.N, .int .i64 h.D, .slice a h.m c]) g h a c ∧ ∀ B, B ≤ g → Below B W (W.setRow g #[.int .i64 h.S, .int .i64 h.F, .int .i64 h.I, .int .i64 h.N, .int .i64 h.D, .slice a h.m c]) :=
  ⟨setRow_heap _ _ _ _ _ _ hg, fun B hB => ⟨rfl, rfl, rfl, by simp, fun k hk => setRow_other W g k _ (by omega)⟩⟩
set_option maxHeartbeats 4000000 in
set_option maxRecDepth 100000 in
theorem phparse_any (a : Option Addr) (n c : Nat) (f : Nat → Nat) (hn : n ≤ 1000000) (w : World) (hS : Sl w a n c f) :
    Calls Tryz.prog 25 #[.slice a n c] w fun e w' => ParSays w n f e w' ∧ Below w.heap.size w w' := by
  obtain ⟨w0, hw0⟩ : ∃ w0, w0 = w.alloc (.cells #[.int .i64 0, .int .i64 0, .int .i64 0, .int .i64 0, .int .i64 0, .slice none 0 0] 27) := ⟨_, rfl⟩
  have HX0 := Lib.hid (show HAt w0 w.heap.size hz none 0 by rw [hw0]; exact heap_alloc_new _ _)
  have hB0 : Below w.heap.size w w0 := by rw [hw0]; exact (Below.refl _ w).alloc (Nat.le_refl _) _
  have HB0 := Lib.hid hB0
  have HZ0 := Lib.hid (show w0.heap.size = w.heap.size + 1 by rw [hw0, World.size_alloc])
  have HO := Lib.hid (phopen_any a n c f hn w0 (hS.same hB0))
  have HW := Lib.hid hw0; have HBY := Lib.hid hS.bytes; have HN := Lib.hid hn
  clear hw0 hB0 hS hn
  obtain ⟨wg, hwg⟩ : ∃ wg, wg = w.heap.size := ⟨_, rfl⟩
  rw [← hwg] at HX0 HZ0
  have HWG := Lib.hid hwg
  go_enter Tryz.func25, Tryz.ntmps25
  go_upto_region 1 with fail
  rw [← HW.out, ← hwg]
  clear hwg HW
  go_wp2_with fail
  refine HO.out.mono ?_
  rintro e w1 ⟨hc, hB1⟩
  have HB1 := Lib.hid (HB0.out.trans (hB1.mono HB0.out.size))
  have HX1 := Lib.hid (HX0.out.same hB1)
  have HWL := Lib.hid (show w.heap.size < w1.heap.size by have := HZ0.out; have := hB1.size; have := HWG.out; omega)
  clear hB1 HB0 HO
  rcases hc with ⟨h0, rfl⟩ | ⟨h0, p, s, rfl, hR⟩
  · have HP := Lib.hid (perr_o h0)
    have HP0 := Lib.hid h0
    obtain ⟨er, her⟩ : ∃ er, er = oerr n f := ⟨_, rfl⟩
    rw [← her] at HP HP0 ⊢
    have g1 : (er != 0) = true := by simpa using HP0.out
    clear h0 her
    have HRW := Lib.hid (show w1.heap[wg]? = some (.cells #[.int .i64 0, .int .i64 0, .int .i64 0, .int .i64 0, .int .i64 0, .slice none 0 0] 27 (0, 0)) from HX1.out)
    go_wp2_with (show wpList _ _ _ (⟨none, _, _, _, _, _⟩ :: _) _ _; refine wpList_store_row rfl 27 _ _ rfl wg #[.int .i64 0, .int .i64 0, .int .i64 0, .int .i64 0, .int .i64 0, .slice none 0 0] rfl rfl 27 _ HRW.out (by kernel_rfl) rfl (by simp [Value.oneCell']) ?_)
    have hzz := set_head hz none 0 HRW.out
    exact bodyPost_ret (results_head3 rfl _ _ wg hz none 0 rfl hzz.1) rfl ⟨Or.inl ⟨by rw [HP.out]; exact HP0.out, by rw [HP.out]; rfl⟩, HB1.out.trans (hzz.2 _ (by have := HWG.out; omega))⟩
  · obtain ⟨hn4, hgood, hbad⟩ := perr_z h0
    have HGOOD := Lib.hid hgood; have HBAD := Lib.hid hbad
    obtain ⟨N, hNN⟩ : ∃ N, N = n - 4 := ⟨_, rfl⟩
    rw [← hNN] at hR HGOOD HBAD
    have HNN := Lib.hid (show n = N + 4 by omega)
    have HSZ := Lib.hid (show wg + 1 = w0.heap.size from HZ0.out.symm)
    have HR := Lib.hid hR
    have HS1 := Lib.hid (show w.heap.size ≤ s by have := hR.bs; have := HZ0.out; have := HWG.out; omega)
    clear h0 hn4 hgood hbad hNN hR
    have hh := pheader_any N f HBY.out w0.heap.size p s w1 HR.out
    obtain ⟨H, hH⟩ : ∃ H, H = hdrN N f := ⟨_, rfl⟩
    rw [← hH] at hh
    have HH := Lib.hid hH
    have HHH := Lib.hid hh
    unfold hV at HHH
    clear hh hH
    go_wp2_with fail
    refine HHH.out.mono ?_
    rintro e w2 ⟨G, rfl, hG, hw, hr, hb⟩
    have HX2 := Lib.hid (show HAt w2 wg hz none 0 from HX1.out.but hb (by have := HS1.out; have := HSZ.out; have := HR.out.bs; omega))
    have HRW := Lib.hid (show w2.heap[wg]? = some (.cells #[.int .i64 0, .int .i64 0, .int .i64 0, .int .i64 0, .int .i64 0, .slice none 0 0] 27 (0, 0)) from HX2.out)
    have HB2 := Lib.hid (HB1.out.trans (but2_below hb HB1.out.size HS1.out))
    have HW2 := Lib.hid hw; have HR2 := Lib.hid hr.top
    have HG := Lib.hid (show wg < G by have := HWG.out; have := HWL.out; omega)
    have HGS := Lib.hid (show s < G by have := HR.out.ltS; omega)
    clear hG hw hr hb HHH
    go_wp2_with (show wpList _ _ _ (⟨none, _, _, _, _, _⟩ :: _) _ _; refine wpList_store_row rfl 27 _ _ rfl wg #[.int .i64 H.S, .int .i64 H.F, .int .i64 H.I, .int .i64 H.N, .int .i64 H.D, .slice (some ⟨G, 0, none⟩) H.m H.m] rfl rfl 27 _ HRW.out (by kernel_rfl) rfl (by simp [Value.oneCell']) ?_)
    have hset := set_head H (some ⟨G, 0, none⟩) H.m HRW.out
    obtain ⟨w3, hw3⟩ : ∃ w3, w3 = w2.setRow wg #[.int .i64 H.S, .int .i64 H.F, .int .i64 H.I, .int .i64 H.N, .int .i64 H.D, .slice (some ⟨G, 0, none⟩) H.m H.m] := ⟨_, rfl⟩
    rw [← hw3] at hset ⊢
    have hne : ∀ j, j ≠ wg → w3.heap[j]? = w2.heap[j]? := fun j hj => by rw [hw3]; exact setRow_other w2 wg j _ hj
    have hz3 : w3.heap.size = w2.heap.size := by rw [hw3]; simp
    have HX3 := Lib.hid hset.1
    have HB3 := Lib.hid (HB2.out.trans (hset.2 w.heap.size (by have := HWG.out; omega)))
    have HW3 := Lib.hid (HW2.out.kept (hne G (by have := HG.out; omega)))
    have HR3 := Lib.hid (show ∃ a c S, Rr w3 w0.heap.size p s a c S ∧ S.Ok ∧ S.l ≤ 900000000 ∧ ((S.e = 0 ∧ 14 + 3 * H.m ≤ N ∧ S.l = N - (14 + 3 * H.m) ∧ ∀ j, j < N - (14 + 3 * H.m) → S.f j = f (14 + 3 * H.m + j)) ∨ (S.e = 4 ∧ N < 14 + 3 * H.m)) from by
      obtain ⟨a, c, S, q1, q2, q3, q4⟩ := HR2.out
      have q0 := HSZ.out
      exact ⟨a, c, S, q1.kept (by omega) (hne p (by have := q1.hp; omega)) (hne s (by have := q1.hs; omega)) (fun ad e => hne _ (by have := (q1.ha ad e).1; omega)), q2, q4⟩)
    clear hset hw3 hne hz3 HX2 HB2 HW2 HR2 HRW HR HB1 HX1
    obtain ⟨ra, rc, S, hRr, hO, hSl, hc⟩ := HR3.out
    obtain ⟨htm, htf, hfin⟩ := rest_of_bs hc
    have HRR := Lib.hid hRr; have HO := Lib.hid hO; have HSL := Lib.hid hSl; have HTM := Lib.hid htm; have HTF := Lib.hid htf; have HFI := Lib.hid hfin
    clear HR3 hRr hO hSl hc htm htf hfin
    refine (rleft_any w0.heap.size p s ra rc S w3 HRR.out).mono ?_
    rintro e w4 ⟨rfl, rfl⟩
    obtain ⟨M, hM⟩ : ∃ M, M = S.m := ⟨_, rfl⟩
    rw [← hM] at HTM HTF HFI ⊢
    clear hM
    go_wp2_with fail
    refine (rtake_any w0.heap.size p s ra rc S (M : Nat) HO.out HSL.out w4 HRR.out).mono ?_
    rintro e w5 ⟨ba, bc, rfl, hN5, ⟨⟨ra5, rc5, hR5, _⟩, hb5⟩⟩
    rw [HTM.out, HTF.out] at hN5
    rw [HTM.out]
    have HX5 := Lib.hid (HX3.out.but hb5 (by have := HS1.out; have := HSZ.out; have := HRR.out.hs; omega))
    have HW5 := Lib.hid (HW3.out.kept (but2_kept hb5 HW3.out.lt (fun e => by have := HGS.out; omega)))
    have HB5 := Lib.hid (HB3.out.trans (but2_below hb5 HB3.out.size HS1.out))
    have HN5 := Lib.hid (hN5.mono (show wg + 1 ≤ w4.heap.size from HX3.out.lt))
    have HR5 := Lib.hid hR5
    clear hN5 hR5 hb5
    go_wp2_with fail
    refine (rend_any w0.heap.size p s ra5 rc5 _ w5 HR5.out).mono ?_
    rintro e w6 ⟨rfl, rfl⟩
    rw [HFI.out]
    by_cases hk : 14 + 3 * H.m ≤ N
    rotate_left
    · rw [if_neg hk]
      have HP := Lib.hid (HBAD.out (fun g => hk (by rw [HH.out]; exact goodP_m g)))
      have HRW := Lib.hid (show w6.heap[wg]? = some (.cells #[.int .i64 H.S, .int .i64 H.F, .int .i64 H.I, .int .i64 H.N, .int .i64 H.D, .slice (some ⟨G, 0, none⟩) H.m H.m] 27 (0, 0)) from HX5.out)
      clear hk
      go_wp2_with (show wpList _ _ _ (⟨none, _, _, _, _, _⟩ :: _) _ _; refine wpList_store_row rfl 27 _ _ rfl wg #[.int .i64 0, .int .i64 0, .int .i64 0, .int .i64 0, .int .i64 0, .slice none 0 0] rfl rfl 27 _ HRW.out (by kernel_rfl) rfl (by simp [Value.oneCell']) ?_)
      have hzz := set_head hz none 0 HRW.out
      exact bodyPost_ret (results_head3 rfl _ _ wg hz none 0 rfl hzz.1) rfl ⟨Or.inl ⟨by rw [HP.out]; decide, by rw [HP.out]; rfl⟩, HB5.out.trans (hzz.2 _ (by have := HWG.out; omega))⟩
    rw [if_pos hk]
    have HK := Lib.hid hk
    clear hk
    have HT := Lib.hid (HW5.out.tb)
    have HWH := Lib.hid (whole_any H (some ⟨G, 0, none⟩) ba H.m (N - (14 + 3 * H.m)) bc w6 HT.out)
    unfold hV at HWH
    obtain ⟨c0, c1, c2, c3, c4, c5⟩ := HX5.out.c
    go_wp2_with fail
    clear c0 c1 c2 c3 c4 c5
    refine HWH.out.mono ?_
    rintro e w7 ⟨⟨v, rfl, hv⟩, hB7⟩
    have HV := Lib.hid (show v = true ↔ GoodP N f by rw [hv, HH.out]; exact (goodP_iff (by rw [← HH.out]; exact HK.out)).symm)
    have HX7 := Lib.hid (HX5.out.same hB7)
    have HB7 := Lib.hid (HB5.out.trans (hB7.mono HB5.out.size))
    have HW7 := Lib.hid (HW5.out.kept (hB7.block G HW5.out.lt))
    have HN7 := Lib.hid (HN5.out.below hB7)
    have HRW := Lib.hid (show w7.heap[wg]? = some (.cells #[.int .i64 H.S, .int .i64 H.F, .int .i64 H.I, .int .i64 H.N, .int .i64 H.D, .slice (some ⟨G, 0, none⟩) H.m H.m] 27 (0, 0)) from HX7.out)
    clear hv hB7 HWH
    cases v
    · have HP := Lib.hid (HBAD.out (fun g => absurd (HV.out.2 g) (by simp)))
      go_wp2_with (show wpList _ _ _ (⟨none, _, _, _, _, _⟩ :: _) _ _; refine wpList_store_row rfl 27 _ _ rfl wg #[.int .i64 0, .int .i64 0, .int .i64 0, .int .i64 0, .int .i64 0, .slice none 0 0] rfl rfl 27 _ HRW.out (by kernel_rfl) rfl (by simp [Value.oneCell']) ?_)
      have hzz := set_head hz none 0 HRW.out
      exact bodyPost_ret (results_head3 rfl _ _ wg hz none 0 rfl hzz.1) rfl ⟨Or.inl ⟨by rw [HP.out]; decide, by rw [HP.out]; rfl⟩, HB7.out.trans (hzz.2 _ (by have := HWG.out; omega))⟩
    · have HGP := Lib.hid (show GoodP N f by first | exact HV.out.1 rfl | exact HV.out.1 trivial)
      have HP := Lib.hid (HGOOD.out HGP.out)
      obtain ⟨c0, c1, c2, c3, c4, c5⟩ := HX7.out.c
      go_wp2_with (show wpList _ _ _ (⟨none, _, _, _, _, _⟩ :: _) _ _; refine wpList_store_row rfl 27 _ _ rfl wg #[.int .i64 H.S, .int .i64 H.F, .int .i64 H.I, .int .i64 H.N, .int .i64 H.D, .slice (some ⟨G, 0, none⟩) H.m H.m] rfl rfl 27 _ HRW.out (by kernel_rfl) rfl (by simp [Value.oneCell']) ?_)
      have hzz := set_head H (some ⟨G, 0, none⟩) H.m HRW.out
      have hbz := hzz.2 w.heap.size (by have := HWG.out; omega)
      have he : EH H (hdr f) := by
        have := hdrN_eq (N := N) (F := f) (by rw [← HH.out]; exact HK.out)
        rw [← HH.out] at this; exact this
      have em : H.m = f 9 := he.1.2.2.2.2.1
      refine bodyPost_ret (results_head3 rfl _ _ wg H (some ⟨G, 0, none⟩) H.m rfl hzz.1) rfl ⟨Or.inr ⟨HP.out, some ⟨G, 0, none⟩, H.m, ba, bc, ?_, ?_, ?_⟩, HB7.out.trans hbz⟩
      · rw [hV_eq he, show n - 4 = N by have := HNN.out; omega, ← em]; rfl
      · have ho := (HW7.out.kept (w' := w7.setRow wg #[.int .i64 H.S, .int .i64 H.F, .int .i64 H.I, .int .i64 H.N, .int .i64 H.D, .slice (some ⟨G, 0, none⟩) H.m H.m]) (setRow_other w7 wg G _ (by have := HG.out; omega))).own (B := w.heap.size) (by have := HG.out; have := HWG.out; omega) (by have := HGP.out.2.1.2.2.2.2.2.2.2.1; rw [em]; show f 9 ≤ _; have e : (hdr f).m = f 9 := rfl; omega)
        rw [tdl_congr _ he.1.2.2.2.2.2, em] at ho
        rw [em]; exact ho
      · rw [show n - 4 = N by have := HNN.out; omega, ← em]
        refine Nw.mono (B := wg + 1) ?_ (by have := HWG.out; omega)
        refine (HN7.out.grown (w' := w7.setRow wg #[.int .i64 H.S, .int .i64 H.F, .int .i64 H.I, .int .i64 H.N, .int .i64 H.D, .slice (some ⟨G, 0, none⟩) H.m H.m]) (row := some wg) ⟨rfl, rfl, rfl, by simp, fun k _ hk => setRow_other w7 wg k _ (fun e => hk (by rw [e]))⟩ (fun g e q => ?_))
        rcases HN7.out.ow with ⟨e0, _⟩ | ⟨g', vs, e0, hg', _⟩
        · rw [e0] at e; cases e
        · rw [e0] at e; cases e; cases q; omega
theorem pHParse : PHParse := fun a n c f hn w hS => phparse_any a n c f hn w hS
end Go.Proofs.YtjlmajopfeplpaaGreat.He

namespace Go.Proofs.YtjlmajopfeplpaaGreat.He
open Go.RowKit Go.Shelf
open Go.Proofs.YtjlmajopfeplpaaGreat.Ly (TabOk RowOk off Tb tdl tdl_len tdl_at tdl_tb cell_new2 int_ones)
attribute [local go_sem] Oper.semAt_some

theorem perr_4 {n : Nat} {f : Nat → Nat} (h : n < 4) : perr n f = 4 := by unfold perr; rw [if_pos h]
theorem perr_10 {n : Nat} {f : Nat → Nat} (h : 4 ≤ n) (hk : okB f (n - 4) = false) : perr n f = 10 := by unfold perr; rw [if_neg (by omega), if_pos hk]
theorem perr_n {n N : Nat} {f : Nat → Nat} (hn : n = N + 4) (hk : okB f N = true) (h0 : N = 0) : perr n f = 4 := by
  subst hn; unfold perr; rw [if_neg (by omega), Nat.add_sub_cancel, hk, if_neg (by decide), if_pos (by omega)]
theorem perr_v {n N : Nat} {f : Nat → Nat} (hn : n = N + 4) (hk : okB f N = true) (h0 : N ≠ 0) (h1 : f 0 ≠ 1) : perr n f = 11 := by
  subst hn; unfold perr; rw [if_neg (by omega), Nat.add_sub_cancel, hk, if_neg (by decide), if_neg (by omega), if_pos h1]
theorem perr_s {n N : Nat} {f : Nat → Nat} (hn : n = N + 4) (hk : okB f N = true) (h0 : N ≠ 0) (h1 : f 0 = 1) (hg : ¬ GoodP N f) : perr n f = 4 := by
  subst hn; unfold perr; rw [if_neg (by omega), Nat.add_sub_cancel, hk, if_neg (by decide), if_neg (by omega), if_neg (fun q => q h1), if_neg hg]
theorem perr_g {n N : Nat} {f : Nat → Nat} (hn : n = N + 4) (hk : okB f N = true) (h0 : N ≠ 0) (h1 : f 0 = 1) (hg : GoodP N f) : perr n f = 0 := by
  subst hn; unfold perr; rw [if_neg (by omega), Nat.add_sub_cancel, hk, if_neg (by decide), if_neg (by omega), if_neg (fun q => q h1), if_pos hg]
theorem growM {w w' : World} {g c : Nat} {h : Hr} {a : Option Addr} {row : Option Nat} (x : HAt w g h a c) (hg : w.grownBy w' row) (hr : some g ≠ row) : HAt w' g h a c := x.oth (hg.block g x.lt hr)
theorem ownNeM {w : World} {B s n g : Nat} {e : TypeId} {v : Value} {xs : List Value} (h : w.ownsRow B e s v n xs) (hg : g < B) : some g ≠ v.ownBlock := fun q => by
  have := (h.lt g q.symm).1
  omega
theorem ownM {w w' : World} {B s n : Nat} {e : TypeId} {v : Value} {xs : List Value} (h : w.ownsRow B e s v n xs) (hk : ∀ g, B ≤ g → g < w.heap.size → w'.heap[g]? = w.heap[g]?) : w'.ownsRow B e s v n xs := by
  obtain ⟨h1, h2 | ⟨g, cap, cur, q1, q2, q3, q4⟩⟩ := h
  · exact ⟨h1, Or.inl h2⟩
  · exact ⟨h1, Or.inr ⟨g, cap, cur, q1, q2, (hk g q2 (Array.getElem?_eq_some_iff.1 q3).1).trans q3, q4⟩⟩
theorem ownMono {w : World} {B B' s n : Nat} {e : TypeId} {v : Value} {xs : List Value} (h : w.ownsRow B e s v n xs) (hB : B' ≤ B) : w.ownsRow B' e s v n xs := by
  obtain ⟨h1, h2 | ⟨g, cap, cur, q1, q2, q3⟩⟩ := h
  · exact ⟨h1, Or.inl h2⟩
  · exact ⟨h1, Or.inr ⟨g, cap, cur, q1, Nat.le_trans hB q2, q3⟩⟩
theorem share14 {X G : Prop} (f : G → X) (g : G) : X := f g
theorem sat_any (a : Option Addr) (n c : Nat) (f : Nat → Nat) (at_ size : Nat) (h1 : at_ + size ≤ n) (h2 : size ≤ 4) (hn : n ≤ 1000000) (w : World) (hS : Sl w a n c (sub f 0 n)) :
    Calls Tryz.prog 51 #[.slice a n c, .int .i64 (at_ : Nat), .int .i64 (size : Nat)] w fun e w' => e = .returned (.int .i64 (vn (fun j => f (at_ + j)) size : Nat)) ∧ w' = w := by
  rw [← vn_congr (f := fun j => sub f 0 n (at_ + j)) size (fun j hj => by unfold sub; rw [if_pos (by omega), Nat.zero_add])]
  exact rat_any a n c (sub f 0 n) at_ size h1 h2 (by omega) w hS
set_option maxHeartbeats 8000000 in
set_option maxRecDepth 100000 in
theorem rparse_any (a : Option Addr) (n c : Nat) (f : Nat → Nat) (hn : n ≤ 1000000) (w : World) (hS : Sl w a n c f) :
    Calls Tryz.prog 26 #[.slice a n c] w fun e w' => ParSays w n f e w' ∧ Below w.heap.size w w' := by
  obtain ⟨w0, hw0⟩ : ∃ w0, w0 = w.alloc (.cells #[.int .i64 0, .int .i64 0, .int .i64 0, .int .i64 0, .int .i64 0, .slice none 0 0] 27) := ⟨_, rfl⟩
  have HX0 := Lib.hid (show HAt w0 w.heap.size hz none 0 by rw [hw0]; exact heap_alloc_new _ _)
  have hB0 : Below w.heap.size w w0 := by rw [hw0]; exact (Below.refl _ w).alloc (Nat.le_refl _) _
  have HB0 := Lib.hid hB0
  have HOP := Lib.hid (ropen_any a n c f (by omega) w0 (hS.same hB0))
  have HW := Lib.hid hw0; have HBY := Lib.hid hS.bytes; have HNB := Lib.hid hn
  clear hw0 hB0 hS hn
  obtain ⟨wg, hwg⟩ : ∃ wg, wg = w.heap.size := ⟨_, rfl⟩
  rw [← hwg] at HX0
  have HWG := Lib.hid hwg
  go_enter Tryz.func26, Tryz.ntmps26
  go_upto_region 1 with fail
  rw [← HW.out, ← hwg]
  clear hwg HW
  go_wp2_with fail
  refine HOP.out.mono ?_
  rintro e w1 (⟨h4, rfl, hB1⟩ | ⟨h4, hok, rfl, hB1⟩ | ⟨h4, hok, pa, pc, rfl, hN, hB1⟩)
  · have HX1 := Lib.hid (HX0.out.same hB1); have HB1 := Lib.hid (HB0.out.trans (hB1.mono HB0.out.size)); have H4 := Lib.hid h4
    clear hB1 h4
    have HE := Lib.hid (show perr n f = 4 from perr_4 H4.out)
    have HRW := Lib.hid (show w1.heap[wg]? = some (.cells #[.int .i64 0, .int .i64 0, .int .i64 0, .int .i64 0, .int .i64 0, .slice none 0 0] 27 (0, 0)) from HX1.out)
    go_wp2_with (show wpList _ _ _ (⟨none, _, _, _, _, _⟩ :: _) _ _; refine wpList_store_row rfl 27 _ _ rfl wg #[.int .i64 0, .int .i64 0, .int .i64 0, .int .i64 0, .int .i64 0, .slice none 0 0] rfl rfl 27 _ HRW.out (by kernel_rfl) rfl (by simp [Value.oneCell']) ?_)
    have hzz := set_head hz none 0 HRW.out
    exact bodyPost_ret (results_head3 rfl _ _ wg hz none 0 rfl hzz.1) rfl ⟨Or.inl ⟨by rw [HE.out]; decide, by rw [HE.out]; rfl⟩, HB1.out.trans (hzz.2 _ (by have := HWG.out; omega))⟩
  · have HX1 := Lib.hid (HX0.out.same hB1); have HB1 := Lib.hid (HB0.out.trans (hB1.mono HB0.out.size)); have H4 := Lib.hid h4; have HK := Lib.hid hok
    clear hB1 h4 hok
    have HE := Lib.hid (show perr n f = 10 from perr_10 H4.out HK.out)
    have HRW := Lib.hid (show w1.heap[wg]? = some (.cells #[.int .i64 0, .int .i64 0, .int .i64 0, .int .i64 0, .int .i64 0, .slice none 0 0] 27 (0, 0)) from HX1.out)
    go_wp2_with (show wpList _ _ _ (⟨none, _, _, _, _, _⟩ :: _) _ _; refine wpList_store_row rfl 27 _ _ rfl wg #[.int .i64 0, .int .i64 0, .int .i64 0, .int .i64 0, .int .i64 0, .slice none 0 0] rfl rfl 27 _ HRW.out (by kernel_rfl) rfl (by simp [Value.oneCell']) ?_)
    have hzz := set_head hz none 0 HRW.out
    exact bodyPost_ret (results_head3 rfl _ _ wg hz none 0 rfl hzz.1) rfl ⟨Or.inl ⟨by rw [HE.out]; decide, by rw [HE.out]; rfl⟩, HB1.out.trans (hzz.2 _ (by have := HWG.out; omega))⟩
  have HX1 := Lib.hid (HX0.out.same hB1); have HB1 := Lib.hid (HB0.out.trans (hB1.mono HB0.out.size))
  obtain ⟨N, hN4⟩ : ∃ N, N = n - 4 := ⟨_, rfl⟩
  rw [← hN4] at hok hN ⊢
  have HS1 := Lib.hid hN.sl; have HOK := Lib.hid hok; have HNN := Lib.hid (show n = N + 4 by omega)
  have hNb : N ≤ 1000000 := by have := HNB.out; omega
  have HGW := Lib.hid (show wg < w1.heap.size from HX1.out.lt)
  clear hB1 hN hok hN4 HOP HX0 HB0 h4
  by_cases e0 : N = 0
  · have i0 : ((N : Int) == 0) = true := by simp [e0]
    have E0 := Lib.hid e0
    clear e0
    have HE := Lib.hid (show perr n f = 4 from perr_n HNN.out HOK.out E0.out)
    have HRW := Lib.hid (show w1.heap[wg]? = some (.cells #[.int .i64 0, .int .i64 0, .int .i64 0, .int .i64 0, .int .i64 0, .slice none 0 0] 27 (0, 0)) from HX1.out)
    go_wp2_with (show wpList _ _ _ (⟨none, _, _, _, _, _⟩ :: _) _ _; refine wpList_store_row rfl 27 _ _ rfl wg #[.int .i64 0, .int .i64 0, .int .i64 0, .int .i64 0, .int .i64 0, .slice none 0 0] rfl rfl 27 _ HRW.out (by kernel_rfl) rfl (by simp [Value.oneCell']) ?_)
    have hzz := set_head hz none 0 HRW.out
    exact bodyPost_ret (results_head3 rfl _ _ wg hz none 0 rfl hzz.1) rfl ⟨Or.inl ⟨by rw [HE.out]; decide, by rw [HE.out]; rfl⟩, HB1.out.trans (hzz.2 _ (by have := HWG.out; omega))⟩
  have i0 : ((N : Int) == 0) = false := by simp [e0]
  have E0 := Lib.hid e0
  obtain ⟨pb, po, epa, q0⟩ := HS1.out.at_ (k := 0) (by omega)
  subst epa
  have hcell : ∀ j, j < N → ∀ W, Below w1.heap.size w1 W → W.cell? ⟨pb, po + j, none⟩ = some (.int .u8 (f j : Nat)) := fun j hj W hW => by
    have h := (HS1.out.same hW).cell _ rfl j hj
    unfold sub at h
    rw [if_pos hj, Nat.zero_add] at h; exact h
  have HCE := Lib.hid hcell
  have q0 := hcell 0 (by omega) w1 (Below.refl _ _)
  rw [Nat.add_zero] at q0
  have i1 : (0 : Int) < (N : Int) := by omega
  clear hcell e0
  obtain ⟨f0, hf0⟩ : ∃ f0, f0 = f 0 := ⟨_, rfl⟩
  rw [← hf0] at q0
  have HF0 := Lib.hid hf0
  clear hf0
  by_cases e1 : f0 = 1
  rotate_left
  · have g1 : ((f0 : Int) != 1) = true := by simp; omega
    have E1 := Lib.hid e1
    clear e1
    have HE := Lib.hid (show perr n f = 11 from perr_v HNN.out HOK.out E0.out (by rw [← HF0.out]; exact E1.out))
    have HRW := Lib.hid (show w1.heap[wg]? = some (.cells #[.int .i64 0, .int .i64 0, .int .i64 0, .int .i64 0, .int .i64 0, .slice none 0 0] 27 (0, 0)) from HX1.out)
    go_wp2_with (show wpList _ _ _ (⟨none, _, _, _, _, _⟩ :: _) _ _; refine wpList_store_row rfl 27 _ _ rfl wg #[.int .i64 0, .int .i64 0, .int .i64 0, .int .i64 0, .int .i64 0, .slice none 0 0] rfl rfl 27 _ HRW.out (by kernel_rfl) rfl (by simp [Value.oneCell']) ?_)
    have hzz := set_head hz none 0 HRW.out
    exact bodyPost_ret (results_head3 rfl _ _ wg hz none 0 rfl hzz.1) rfl ⟨Or.inl ⟨by rw [HE.out]; decide, by rw [HE.out]; rfl⟩, HB1.out.trans (hzz.2 _ (by have := HWG.out; omega))⟩
  have g1 : ((f0 : Int) != 1) = false := by simp [e1]
  have E1 := Lib.hid (show f 0 = 1 by rw [← HF0.out]; exact e1)
  clear e1
  by_cases e2 : N < 14
  · have g2 : decide ((N : Int) < 14) = true := by simp; omega
    have i2 : (N : Int) < 14 := by omega
    have E2 := Lib.hid e2
    clear e2
    have HE := Lib.hid (show perr n f = 4 from perr_s HNN.out HOK.out E0.out E1.out (fun q => by have := q.1; have := E2.out; omega))
    have HRW := Lib.hid (show w1.heap[wg]? = some (.cells #[.int .i64 0, .int .i64 0, .int .i64 0, .int .i64 0, .int .i64 0, .slice none 0 0] 27 (0, 0)) from HX1.out)
    go_wp2_with (show wpList _ _ _ (⟨none, _, _, _, _, _⟩ :: _) _ _; refine wpList_store_row rfl 27 _ _ rfl wg #[.int .i64 0, .int .i64 0, .int .i64 0, .int .i64 0, .int .i64 0, .slice none 0 0] rfl rfl 27 _ HRW.out (by kernel_rfl) rfl (by simp [Value.oneCell']) ?_)
    have hzz := set_head hz none 0 HRW.out
    exact bodyPost_ret (results_head3 rfl _ _ wg hz none 0 rfl hzz.1) rfl ⟨Or.inl ⟨by rw [HE.out]; decide, by rw [HE.out]; rfl⟩, HB1.out.trans (hzz.2 _ (by have := HWG.out; omega))⟩
  have i2 : ¬ (N : Int) < 14 := by omega
  have q9 := HCE.out 9 (by omega) w1 (Below.refl _ _)
  obtain ⟨m, hm⟩ : ∃ m, m = f 9 := ⟨_, rfl⟩
  rw [← hm] at q9
  have HM := Lib.hid hm
  have hm256 : m < 256 := by rw [hm]; exact HBY.out 9
  clear hm
  have i3 : (9 : Int) < (N : Int) := by omega
  by_cases e3 : N < 14 + 3 * m
  · have i4 : (N : Int) < 14 + 3 * (m : Int) := by omega
    have E3 := Lib.hid e3
    clear e3
    have HE := Lib.hid (show perr n f = 4 from perr_s HNN.out HOK.out E0.out E1.out (fun q => by have := q.1; have := E3.out; rw [← HM.out] at *; omega))
    have HRW := Lib.hid (show w1.heap[wg]? = some (.cells #[.int .i64 0, .int .i64 0, .int .i64 0, .int .i64 0, .int .i64 0, .slice none 0 0] 27 (0, 0)) from HX1.out)
    go_wp2_with (show wpList _ _ _ (⟨none, _, _, _, _, _⟩ :: _) _ _; refine wpList_store_row rfl 27 _ _ rfl wg #[.int .i64 0, .int .i64 0, .int .i64 0, .int .i64 0, .int .i64 0, .slice none 0 0] rfl rfl 27 _ HRW.out (by kernel_rfl) rfl (by simp [Value.oneCell']) ?_)
    have hzz := set_head hz none 0 HRW.out
    exact bodyPost_ret (results_head3 rfl _ _ wg hz none 0 rfl hzz.1) rfl ⟨Or.inl ⟨by rw [HE.out]; decide, by rw [HE.out]; rfl⟩, HB1.out.trans (hzz.2 _ (by have := HWG.out; omega))⟩
  have i4 : ¬ (N : Int) < 14 + 3 * (m : Int) := by omega
  have E3 := Lib.hid (show 14 + 3 * m ≤ N by omega)
  have H14 := Lib.hid (show 14 ≤ N by omega)
  go_upto_region 10 with fail
  clear i0 q0 i1 g1 i2 q9 i3 i4 e2 e3
  obtain ⟨s0, hs0⟩ : ∃ x, x = vn (fun j => f (1 + j)) 2 := ⟨_, rfl⟩
  obtain ⟨s1, hs1⟩ : ∃ x, x = vn (fun j => f (3 + j)) 4 := ⟨_, rfl⟩
  obtain ⟨s2, hs2⟩ : ∃ x, x = vn (fun j => f (10 + j)) 4 := ⟨_, rfl⟩
  obtain ⟨p7, hp7⟩ : ∃ x, x = f 7 := ⟨_, rfl⟩
  obtain ⟨p8, hp8⟩ : ∃ x, x = f 8 := ⟨_, rfl⟩
  have HHD := Lib.hid (show hdr f = ⟨(s0 : Nat), (s1 : Nat), (p7 : Nat), (p8 : Nat), (s2 : Nat), m, (hdr f).K, (hdr f).L⟩ by rw [hs0, hs1, hs2, hp7, hp8, HM.out]; rfl)
  have HA1 := Lib.hid (fun W (hW : Below w1.heap.size w1 W) => sat_any (some ⟨pb, po, none⟩) N pc f 1 2 (by have := H14.out; omega) (by decide) hNb W (HS1.out.same hW))
  have HA3 := Lib.hid (fun W (hW : Below w1.heap.size w1 W) => sat_any (some ⟨pb, po, none⟩) N pc f 3 4 (by have := H14.out; omega) (by decide) hNb W (HS1.out.same hW))
  have HA13 := Lib.hid (fun W (hW : Below w1.heap.size w1 W) => sat_any (some ⟨pb, po, none⟩) N pc f 10 4 (by have := H14.out; omega) (by decide) hNb W (HS1.out.same hW))
  rw [← hs0] at HA1
  rw [← hs1] at HA3
  rw [← hs2] at HA13
  have F7 := Lib.hid (fun W hW => HCE.out 7 (by have := H14.out; omega) W hW)
  have F8 := Lib.hid (fun W hW => HCE.out 8 (by have := H14.out; omega) W hW)
  rw [← hp7] at F7
  rw [← hp8] at F8
  have hb7 : p7 < 256 := by rw [hp7]; exact HBY.out 7
  have hb8 : p8 < 256 := by rw [hp8]; exact HBY.out 8
  have i7 : (7 : Int) < (N : Int) := by have := H14.out; omega
  have i8 : (8 : Int) < (N : Int) := by have := H14.out; omega
  clear hs0 hs1 hs2 hp7 hp8
  refine wp_region_held_drew (S := fun W => Below w1.heap.size w1 W) (by kernel_rfl) ((Below.refl _ w1).drew) (fun hHeld => ?_)
  have HS0 := Lib.hid hHeld
  generalize w1.drew = wd at *
  refine wpAnyH_take (i := 0) (oi := ⟨some 45, _, _, _, _, none⟩) (v := (.slice (some ⟨pb, po, none⟩) N pc)) rfl (by kernel_rfl) (by kernel_rfl) (by kernel_rfl) (fun _ _ _ h => h) (Or.inl ⟨by rfl, fun W hW => ?_⟩) (by assumption) ?_
  · go_simp
  simp only [Act.put, List.setIfInBounds_toArray, List.set_cons_zero, List.set_cons_succ]
  refine wpAnyH_take (i := 2) (oi := ⟨some 47, _, _, _, _, none⟩) (v := (.slice (some ⟨pb, po, none⟩) N pc)) rfl (by kernel_rfl) (by kernel_rfl) (by kernel_rfl) (fun _ _ _ h => h) (Or.inl ⟨by rfl, fun W hW => ?_⟩) (by assumption) ?_
  · go_simp
  simp only [Act.put, List.setIfInBounds_toArray, List.set_cons_zero, List.set_cons_succ]
  refine wpAnyH_take (i := 4) (oi := ⟨some 49, _, _, _, _, none⟩) (v := (.slice (some ⟨pb, po, none⟩) N pc)) rfl (by kernel_rfl) (by kernel_rfl) (by kernel_rfl) (fun _ _ _ h => h) (Or.inl ⟨by rfl, fun W hW => ?_⟩) (by assumption) ?_
  · go_simp
  simp only [Act.put, List.setIfInBounds_toArray, List.set_cons_zero, List.set_cons_succ]
  refine wpAnyH_take (i := 5) (oi := ⟨some 50, _, _, _, _, none⟩) (v := (.pointer (some ⟨pb, po + 7, none⟩))) rfl (by kernel_rfl) (by kernel_rfl) (by kernel_rfl) (fun _ _ _ h => h) (Or.inl ⟨by rfl, fun W hW => ?_⟩) (by assumption) ?_
  · go_simp
  simp only [Act.put, List.setIfInBounds_toArray, List.set_cons_zero, List.set_cons_succ]
  refine wpAnyH_take (i := 6) (oi := ⟨some 51, _, _, _, _, none⟩) (v := (.int .u8 (p7 : Nat))) rfl (by kernel_rfl) (by kernel_rfl) (by kernel_rfl) (fun _ _ _ h => h) (Or.inl ⟨by rfl, fun W hW => ?_⟩) (by assumption) ?_
  · (have y := F7.out W hW; go_simp)
  simp only [Act.put, List.setIfInBounds_toArray, List.set_cons_zero, List.set_cons_succ]
  refine wpAnyH_take (i := 7) (oi := ⟨some 52, _, _, _, _, none⟩) (v := (.int .i64 (p7 : Nat))) rfl (by kernel_rfl) (by kernel_rfl) (by kernel_rfl) (fun _ _ _ h => h) (Or.inl ⟨by rfl, fun W hW => ?_⟩) (by assumption) ?_
  · (go_simp; try exact IntWalk.i64_in _ (by omega))
  simp only [Act.put, List.setIfInBounds_toArray, List.set_cons_zero, List.set_cons_succ]
  refine wpAnyH_take (i := 8) (oi := ⟨some 53, _, _, _, _, none⟩) (v := (.slice (some ⟨pb, po, none⟩) N pc)) rfl (by kernel_rfl) (by kernel_rfl) (by kernel_rfl) (fun _ _ _ h => h) (Or.inl ⟨by rfl, fun W hW => ?_⟩) (by assumption) ?_
  · go_simp
  simp only [Act.put, List.setIfInBounds_toArray, List.set_cons_zero, List.set_cons_succ]
  refine wpAnyH_take (i := 9) (oi := ⟨some 54, _, _, _, _, none⟩) (v := (.pointer (some ⟨pb, po + 8, none⟩))) rfl (by kernel_rfl) (by kernel_rfl) (by kernel_rfl) (fun _ _ _ h => h) (Or.inl ⟨by rfl, fun W hW => ?_⟩) (by assumption) ?_
  · go_simp
  simp only [Act.put, List.setIfInBounds_toArray, List.set_cons_zero, List.set_cons_succ]
  refine wpAnyH_take (i := 10) (oi := ⟨some 55, _, _, _, _, none⟩) (v := (.int .u8 (p8 : Nat))) rfl (by kernel_rfl) (by kernel_rfl) (by kernel_rfl) (fun _ _ _ h => h) (Or.inl ⟨by rfl, fun W hW => ?_⟩) (by assumption) ?_
  · (have y := F8.out W hW; go_simp)
  simp only [Act.put, List.setIfInBounds_toArray, List.set_cons_zero, List.set_cons_succ]
  refine wpAnyH_take (i := 11) (oi := ⟨some 56, _, _, _, _, none⟩) (v := (.int .i64 (p8 : Nat))) rfl (by kernel_rfl) (by kernel_rfl) (by kernel_rfl) (fun _ _ _ h => h) (Or.inl ⟨by rfl, fun W hW => ?_⟩) (by assumption) ?_
  · (go_simp; try exact IntWalk.i64_in _ (by omega))
  simp only [Act.put, List.setIfInBounds_toArray, List.set_cons_zero, List.set_cons_succ]
  refine wpAnyH_take (i := 12) (oi := ⟨some 57, _, _, _, _, none⟩) (v := (.slice (some ⟨pb, po, none⟩) N pc)) rfl (by kernel_rfl) (by kernel_rfl) (by kernel_rfl) (fun _ _ _ h => h) (Or.inl ⟨by rfl, fun W hW => ?_⟩) (by assumption) ?_
  · go_simp
  simp only [Act.put, List.setIfInBounds_toArray, List.set_cons_zero, List.set_cons_succ]
  refine @share14 _ ?shP (fun hG => ?shF) ?shG
  case shF =>
    have HGH := Lib.hid hG; clear hG
    refine wpAnyH_ready (rs := [1, 15]) (by kernel_rfl) (by simp) (AllReadyH.cons rfl (fun KK hKK => ?_) (AllReadyH.cons rfl (fun KK hKK => ?_) AllReadyH.nil))
    · go_simp
      refine (HA1.out _ hHeld).mono ?_
      rintro e V ⟨rfl, hVV⟩
      rw [hVV]
      clear hVV V
      dsimp only
      refine hKK.out _ _ hHeld (fun hHeld => ?_)
      clear hKK KK
      try simp only [Act.put, List.setIfInBounds_toArray, List.set_cons_zero, List.set_cons_succ]
      refine wpAnyH_ready (rs := [3, 15]) (by kernel_rfl) (by simp) (AllReadyH.cons rfl (fun KK hKK => ?_) (AllReadyH.cons rfl (fun KK hKK => ?_) AllReadyH.nil))
      · go_simp
        refine (HA3.out _ hHeld).mono ?_
        rintro e V ⟨rfl, hVV⟩
        rw [hVV]
        clear hVV V
        dsimp only
        refine hKK.out _ _ hHeld (fun hHeld => ?_)
        clear hKK KK
        try simp only [Act.put, List.setIfInBounds_toArray, List.set_cons_zero, List.set_cons_succ]
        refine wpAnyH_ready (rs := [13, 15]) (by kernel_rfl) (by simp) (AllReadyH.cons rfl (fun KK hKK => ?_) (AllReadyH.cons rfl (fun KK hKK => ?_) AllReadyH.nil))
        · go_simp
          refine (HA13.out _ hHeld).mono ?_
          rintro e V ⟨rfl, hVV⟩
          rw [hVV]
          clear hVV V
          dsimp only
          refine hKK.out _ _ hHeld (fun hHeld => ?_)
          clear hKK KK
          try simp only [Act.put, List.setIfInBounds_toArray, List.set_cons_zero, List.set_cons_succ]
          refine wpAnyH_take (i := 14) (oi := ⟨some 59, _, _, _, _, none⟩) (v := (.agg #[.int .i64 (s0 : Nat), .int .i64 (s1 : Nat), .int .i64 (p7 : Nat), .int .i64 (p8 : Nat), .int .i64 (s2 : Nat), .slice none 0 0])) rfl (by kernel_rfl) (by kernel_rfl) (by kernel_rfl) (fun _ _ _ h => h) (Or.inl ⟨by rfl, fun W hW => ?_⟩) (by assumption) ?_
          · go_simp
          simp only [Act.put, List.setIfInBounds_toArray, List.set_cons_zero, List.set_cons_succ]
          refine wpAnyH_ready (rs := [15]) (by kernel_rfl) (by simp) (AllReadyH.cons rfl (fun KK hKK => ?_) AllReadyH.nil)
          go_simp
          refine hKK.out _ _ ((hHeld).alloc (Below.size hHeld) _) (fun hHeld => ?_)
          clear hKK KK
          try simp only [Act.put, List.setIfInBounds_toArray, List.set_cons_zero, List.set_cons_succ]
          have HALL := Lib.hid (show HAt (wd.alloc (.cells #[.int .i64 0, .int .i64 0, .int .i64 0, .int .i64 0, .int .i64 0, .slice none 0 0] 27)) wd.heap.size hz none 0 ∧ Below w1.heap.size w1 (wd.alloc (.cells #[.int .i64 0, .int .i64 0, .int .i64 0, .int .i64 0, .int .i64 0, .slice none 0 0] 27)) ∧ w1.heap.size ≤ wd.heap.size from ⟨heap_alloc_new wd _, HS0.out.trans (((Below.refl wd.heap.size wd).alloc (Nat.le_refl _) (.cells #[.int .i64 0, .int .i64 0, .int .i64 0, .int .i64 0, .int .i64 0, .slice none 0 0] 27)).mono HS0.out.size), HS0.out.size⟩)
          clear hHeld
          generalize wd.alloc (.cells #[.int .i64 0, .int .i64 0, .int .i64 0, .int .i64 0, .int .i64 0, .slice none 0 0] 27) = W9 at HALL ⊢
          generalize wd.heap.size = g7 at HALL ⊢
          revert g7 W9
          exact HGH.out
        · go_simp
          refine hKK.out _ _ ((hHeld).alloc (Below.size hHeld) _) (fun hHeld => ?_)
          clear hKK KK
          try simp only [Act.put, List.setIfInBounds_toArray, List.set_cons_zero, List.set_cons_succ]
          refine wpAnyH_ready (rs := [13]) (by kernel_rfl) (by simp) (AllReadyH.cons rfl (fun KK hKK => ?_) AllReadyH.nil)
          go_simp
          refine (HA13.out _ hHeld).mono ?_
          rintro e V ⟨rfl, hVV⟩
          rw [hVV]
          clear hVV V
          dsimp only
          refine hKK.out _ _ hHeld (fun hHeld => ?_)
          clear hKK KK
          try simp only [Act.put, List.setIfInBounds_toArray, List.set_cons_zero, List.set_cons_succ]
          refine wpAnyH_take (i := 14) (oi := ⟨some 59, _, _, _, _, none⟩) (v := (.agg #[.int .i64 (s0 : Nat), .int .i64 (s1 : Nat), .int .i64 (p7 : Nat), .int .i64 (p8 : Nat), .int .i64 (s2 : Nat), .slice none 0 0])) rfl (by kernel_rfl) (by kernel_rfl) (by kernel_rfl) (fun _ _ _ h => h) (Or.inl ⟨by rfl, fun W hW => ?_⟩) (by assumption) ?_
          · go_simp
          simp only [Act.put, List.setIfInBounds_toArray, List.set_cons_zero, List.set_cons_succ]
          exact HGH.out _ _ (Lib.hid ⟨heap_alloc_new wd _, HS0.out.trans (((Below.refl wd.heap.size wd).alloc (Nat.le_refl _) (.cells #[.int .i64 0, .int .i64 0, .int .i64 0, .int .i64 0, .int .i64 0, .slice none 0 0] 27)).mono HS0.out.size), HS0.out.size⟩)
      · go_simp
        refine hKK.out _ _ ((hHeld).alloc (Below.size hHeld) _) (fun hHeld => ?_)
        clear hKK KK
        try simp only [Act.put, List.setIfInBounds_toArray, List.set_cons_zero, List.set_cons_succ]
        refine wpAnyH_ready (rs := [3]) (by kernel_rfl) (by simp) (AllReadyH.cons rfl (fun KK hKK => ?_) AllReadyH.nil)
        go_simp
        refine (HA3.out _ hHeld).mono ?_
        rintro e V ⟨rfl, hVV⟩
        rw [hVV]
        clear hVV V
        dsimp only
        refine hKK.out _ _ hHeld (fun hHeld => ?_)
        clear hKK KK
        try simp only [Act.put, List.setIfInBounds_toArray, List.set_cons_zero, List.set_cons_succ]
        refine wpAnyH_ready (rs := [13]) (by kernel_rfl) (by simp) (AllReadyH.cons rfl (fun KK hKK => ?_) AllReadyH.nil)
        go_simp
        refine (HA13.out _ hHeld).mono ?_
        rintro e V ⟨rfl, hVV⟩
        rw [hVV]
        clear hVV V
        dsimp only
        refine hKK.out _ _ hHeld (fun hHeld => ?_)
        clear hKK KK
        try simp only [Act.put, List.setIfInBounds_toArray, List.set_cons_zero, List.set_cons_succ]
        refine wpAnyH_take (i := 14) (oi := ⟨some 59, _, _, _, _, none⟩) (v := (.agg #[.int .i64 (s0 : Nat), .int .i64 (s1 : Nat), .int .i64 (p7 : Nat), .int .i64 (p8 : Nat), .int .i64 (s2 : Nat), .slice none 0 0])) rfl (by kernel_rfl) (by kernel_rfl) (by kernel_rfl) (fun _ _ _ h => h) (Or.inl ⟨by rfl, fun W hW => ?_⟩) (by assumption) ?_
        · go_simp
        simp only [Act.put, List.setIfInBounds_toArray, List.set_cons_zero, List.set_cons_succ]
        exact HGH.out _ _ (Lib.hid ⟨heap_alloc_new wd _, HS0.out.trans (((Below.refl wd.heap.size wd).alloc (Nat.le_refl _) (.cells #[.int .i64 0, .int .i64 0, .int .i64 0, .int .i64 0, .int .i64 0, .slice none 0 0] 27)).mono HS0.out.size), HS0.out.size⟩)
    · go_simp
      refine hKK.out _ _ ((hHeld).alloc (Below.size hHeld) _) (fun hHeld => ?_)
      clear hKK KK
      try simp only [Act.put, List.setIfInBounds_toArray, List.set_cons_zero, List.set_cons_succ]
      refine wpAnyH_ready (rs := [1]) (by kernel_rfl) (by simp) (AllReadyH.cons rfl (fun KK hKK => ?_) AllReadyH.nil)
      go_simp
      refine (HA1.out _ hHeld).mono ?_
      rintro e V ⟨rfl, hVV⟩
      rw [hVV]
      clear hVV V
      dsimp only
      refine hKK.out _ _ hHeld (fun hHeld => ?_)
      clear hKK KK
      try simp only [Act.put, List.setIfInBounds_toArray, List.set_cons_zero, List.set_cons_succ]
      refine wpAnyH_ready (rs := [3]) (by kernel_rfl) (by simp) (AllReadyH.cons rfl (fun KK hKK => ?_) AllReadyH.nil)
      go_simp
      refine (HA3.out _ hHeld).mono ?_
      rintro e V ⟨rfl, hVV⟩
      rw [hVV]
      clear hVV V
      dsimp only
      refine hKK.out _ _ hHeld (fun hHeld => ?_)
      clear hKK KK
      try simp only [Act.put, List.setIfInBounds_toArray, List.set_cons_zero, List.set_cons_succ]
      refine wpAnyH_ready (rs := [13]) (by kernel_rfl) (by simp) (AllReadyH.cons rfl (fun KK hKK => ?_) AllReadyH.nil)
      go_simp
      refine (HA13.out _ hHeld).mono ?_
      rintro e V ⟨rfl, hVV⟩
      rw [hVV]
      clear hVV V
      dsimp only
      refine hKK.out _ _ hHeld (fun hHeld => ?_)
      clear hKK KK
      try simp only [Act.put, List.setIfInBounds_toArray, List.set_cons_zero, List.set_cons_succ]
      refine wpAnyH_take (i := 14) (oi := ⟨some 59, _, _, _, _, none⟩) (v := (.agg #[.int .i64 (s0 : Nat), .int .i64 (s1 : Nat), .int .i64 (p7 : Nat), .int .i64 (p8 : Nat), .int .i64 (s2 : Nat), .slice none 0 0])) rfl (by kernel_rfl) (by kernel_rfl) (by kernel_rfl) (fun _ _ _ h => h) (Or.inl ⟨by rfl, fun W hW => ?_⟩) (by assumption) ?_
      · go_simp
      simp only [Act.put, List.setIfInBounds_toArray, List.set_cons_zero, List.set_cons_succ]
      exact HGH.out _ _ (Lib.hid ⟨heap_alloc_new wd _, HS0.out.trans (((Below.refl wd.heap.size wd).alloc (Nat.le_refl _) (.cells #[.int .i64 0, .int .i64 0, .int .i64 0, .int .i64 0, .int .i64 0, .slice none 0 0] 27)).mono HS0.out.size), HS0.out.size⟩)
  case shG =>
    intro W9 g7 HALL
    obtain ⟨hh, hHeld, hge⟩ := HALL.out
    clear HALL
    have z0 : W9.cell? ⟨g7, 0, none⟩ = some (.int .i64 0) := by rw [cell_of_row W9 _ 0 _ _ _ hh]; rfl
    have z1 : W9.cell? ⟨g7, 1, none⟩ = some (.int .i64 0) := by rw [cell_of_row W9 _ 1 _ _ _ hh]; rfl
    have z2 : W9.cell? ⟨g7, 2, none⟩ = some (.int .i64 0) := by rw [cell_of_row W9 _ 2 _ _ _ hh]; rfl
    have z3 : W9.cell? ⟨g7, 3, none⟩ = some (.int .i64 0) := by rw [cell_of_row W9 _ 3 _ _ _ hh]; rfl
    have z4 : W9.cell? ⟨g7, 4, none⟩ = some (.int .i64 0) := by rw [cell_of_row W9 _ 4 _ _ _ hh]; rfl
    have z5 : W9.cell? ⟨g7, 5, none⟩ = some (.slice none 0 0) := by rw [cell_of_row W9 _ 5 _ _ _ hh]; rfl
    have f0 : W9.frozen? ⟨g7, 0, none⟩ = false := frozen_of_row W9 _ 0 _ _ hh
    have f1 : W9.frozen? ⟨g7, 1, none⟩ = false := frozen_of_row W9 _ 1 _ _ hh
    have f2 : W9.frozen? ⟨g7, 2, none⟩ = false := frozen_of_row W9 _ 2 _ _ hh
    have f3 : W9.frozen? ⟨g7, 3, none⟩ = false := frozen_of_row W9 _ 3 _ _ hh
    have f4 : W9.frozen? ⟨g7, 4, none⟩ = false := frozen_of_row W9 _ 4 _ _ hh
    have f5 : W9.frozen? ⟨g7, 5, none⟩ = false := frozen_of_row W9 _ 5 _ _ hh
    refine wpAnyH_ready (rs := [16]) (by kernel_rfl) (by simp) (AllReadyH.cons rfl (fun KK hKK => ?_) AllReadyH.nil)
    go_simp
    obtain ⟨w2, hw2⟩ : ∃ w2, w2 = ((((((W9.setCell ⟨g7, 0, none⟩ (.int .i64 (s0 : Nat))).setCell ⟨g7, 1, none⟩ (.int .i64 (s1 : Nat))).setCell ⟨g7, 2, none⟩ (.int .i64 (p7 : Nat))).setCell ⟨g7, 3, none⟩ (.int .i64 (p8 : Nat))).setCell ⟨g7, 4, none⟩ (.int .i64 (s2 : Nat))).setCell ⟨g7, 5, none⟩ (.slice none 0 0)) := ⟨_, rfl⟩
    rw [← hw2]
    have hb2 : Below w1.heap.size w1 w2 := by rw [hw2]; exact below6 hHeld hge _ _ _ _ _ _
    have HX2 := Lib.hid (show HAt w2 g7 ⟨(s0 : Nat), (s1 : Nat), (p7 : Nat), (p8 : Nat), (s2 : Nat), 0, (hdr f).K, (hdr f).L⟩ none 0 by rw [hw2]; exact put6 hh _ _ _ _ _ _)
    have HB2 := Lib.hid hb2
    have HGE := Lib.hid hge
    refine hKK.out _ _ hb2 (fun hHeld => ?_)
    clear hKK KK
    try simp only [Act.put, List.setIfInBounds_toArray, List.set_cons_zero, List.set_cons_succ]
    refine wpAnyH_done (by kernel_rfl) ?_ _
    clear z0 z1 z2 z3 z4 z5 f0 f1 f2 f3 f4 f5 hh hHeld hge hb2 hw2 HA1 HA3 HA13 F7 F8 hb7 hb8 i7 i8 HS0
    obtain ⟨i0', hi, hz0, hz1, hz2⟩ := info_parts Tryz.infoRowL
    have HI := Lib.hid hi; have HZ0 := Lib.hid hz0; have HZ1 := Lib.hid hz1; have HZ2 := Lib.hid hz2
    clear hi hz0 hz1 hz2
    go_upto_region 12 with fail
    go_loopw [8] (fun i wr => ∃ (k : Nat) (ar : Option Addr) (cr : Nat) (W : World), W = wr ∧ k ≤ m ∧ i = .int .i64 (k : Nat) ∧ HAt wr g7 ⟨(s0 : Nat), (s1 : Nat), (p7 : Nat), (p8 : Nat), (s2 : Nat), k, (hdr f).K, (hdr f).L⟩ ar cr ∧ wr.ownsRow (g7 + 1) 24 2 (.slice ar k cr) k (tdl (hdr f).K (hdr f).L k) ∧ Below w1.heap.size w1 wr) (fun i _ => m - (intOf i).toNat)
    case atStart => exact ⟨0, none, 0, _, rfl, by omega, rfl, HX2.out, World.ownsRow_nil _ _ _ _, HB2.out⟩
    case round =>
      obtain ⟨k, ar, cr, wx, rfl, hk, rfl, hx, ho, hb⟩ := hrel
      have HX := Lib.hid hx; have HO := Lib.hid ho; have HB := Lib.hid hb
      have q9 := HCE.out 9 (by have := H14.out; omega) wx hb
      rw [← HM.out] at q9
      have i3 : (9 : Int) < (N : Int) := by have := H14.out; omega
      clear hx ho hb HX2 HB2
      by_cases hlt : k < m
      · have i1 : (k : Int) < (m : Int) := by omega
        have HLT := Lib.hid hlt
        obtain ⟨x, hx⟩ : ∃ x, x = f (14 + 3 * k) := ⟨_, rfl⟩
        obtain ⟨y, hy⟩ : ∃ y, y = vn (fun j => f (15 + 3 * k + j)) 2 := ⟨_, rfl⟩
        obtain ⟨t1, ht1⟩ : ∃ t1, t1 = 3 * k := ⟨_, rfl⟩
        obtain ⟨t2, ht2⟩ : ∃ t2, t2 = 14 + 3 * k := ⟨_, rfl⟩
        obtain ⟨t3, ht3⟩ : ∃ t3, t3 = 15 + 3 * k := ⟨_, rfl⟩
        have HEX := Lib.hid (show (hdr f).K k = ((x : Nat) : Int) by rw [hx]; rfl)
        have HEY := Lib.hid (show (hdr f).L k = ((y : Nat) : Int) by rw [hy]; rfl)
        have hxb : x < 256 := by rw [hx]; exact HBY.out _
        have hyb : y < 65536 := by rw [hy]; exact vn_lt (fun j => HBY.out _) 2
        have u1 : 3 * (k : Int) = (t1 : Nat) := by omega
        have u2 : 14 + (t1 : Int) = (t2 : Nat) := by omega
        have u3 : 15 + (t1 : Int) = (t3 : Nat) := by omega
        have i6 : (t2 : Int) < (N : Int) := by have := E3.out; omega
        have i6' : t2 < N := by have := E3.out; omega
        have HCX := Lib.hid (fun W hW => HCE.out t2 i6' W hW)
        rw [ht2, ← hx, ← ht2] at HCX
        have HAT := Lib.hid (fun W (hW : Below w1.heap.size w1 W) => sat_any (some ⟨pb, po, none⟩) N pc f t3 2 (by have := E3.out; omega) (by decide) hNb W (HS1.out.same hW))
        rw [ht3, ← hy, ← ht3] at HAT
        have HC5 := Lib.hid (fun (W : World) (hW : HAt W g7 ⟨(s0 : Nat), (s1 : Nat), (p7 : Nat), (p8 : Nat), (s2 : Nat), k, (hdr f).K, (hdr f).L⟩ ar cr) => (show W.cell? ⟨g7, 5, none⟩ = some (.slice ar k cr) from hW.c.2.2.2.2.2))
        have hsz := HB.out.size
        have hg7 := HX.out.lt
        have hal : Below wx.heap.size wx (wx.drew.alloc (.cells #[.int .i64 (x : Nat), .int .i64 (y : Nat)] 24)) := (Below.refl _ wx).drew.alloc (Nat.le_refl _) _
        have HAL := Lib.hid hal
        have HOW := Lib.hid (own_be HO.out hal)
        have HBB := Lib.hid (show g7 + 1 ≤ (wx.drew.alloc (.cells #[.int .i64 (x : Nat), .int .i64 (y : Nat)] 24)).heap.size from Nat.le_trans hg7 hal.size)
        clear hx hy ht1 ht2 ht3 hal
        go_upto_region 14 with fail
        refine AnyU.start (S := fun X => Below w1.heap.size w1 X ∧ HAt X g7 ⟨(s0 : Nat), (s1 : Nat), (p7 : Nat), (p8 : Nat), (s2 : Nat), k, (hdr f).K, (hdr f).L⟩ ar cr) (z := 18) (by kernel_rfl) ⟨HB.out.trans ((Below.refl _ wx).drew.mono hsz), HX.out.same ((Below.refl _ wx).drew)⟩ (fun hHeld => ?_)
        refine AnyU.take (i := 0) (p := 0) (oi := ⟨some 68, _, _, _, _, none⟩) (v := (.pointer (some ⟨g7, 5, none⟩))) rfl (by kernel_rfl) (Or.inl rfl) (by kernel_rfl) (by kernel_rfl) (by kernel_rfl) (by kernel_rfl) (fun _ _ _ h => h) (Or.inl ⟨by rfl, fun W hW => ?_⟩) (by assumption) ?_
        · go_simp
        simp only [Act.put, List.setIfInBounds_toArray, List.set_cons_zero, List.set_cons_succ]
        refine AnyU.take (i := 1) (p := 1) (oi := ⟨some 69, _, _, _, _, none⟩) (v := (.slice ar k cr)) rfl (by kernel_rfl) (Or.inl rfl) (by kernel_rfl) (by kernel_rfl) (by kernel_rfl) (by kernel_rfl) (fun _ _ _ h => h) (Or.inl ⟨by rfl, fun W hW => ?_⟩) (by assumption) ?_
        · (have y5 := HC5.out W hW.2; go_simp)
        simp only [Act.put, List.setIfInBounds_toArray, List.set_cons_zero, List.set_cons_succ]
        refine AnyU.take (i := 2) (p := 2) (oi := ⟨some 70, _, _, _, _, none⟩) (v := (.slice (some ⟨pb, po, none⟩) N pc)) rfl (by kernel_rfl) (Or.inl rfl) (by kernel_rfl) (by kernel_rfl) (by kernel_rfl) (by kernel_rfl) (fun _ _ _ h => h) (Or.inl ⟨by rfl, fun W hW => ?_⟩) (by assumption) ?_
        · go_simp
        simp only [Act.put, List.setIfInBounds_toArray, List.set_cons_zero, List.set_cons_succ]
        refine AnyU.take (i := 3) (p := 3) (oi := ⟨some 71, _, _, _, _, none⟩) (v := (.int .i64 (k : Nat))) rfl (by kernel_rfl) (Or.inl rfl) (by kernel_rfl) (by kernel_rfl) (by kernel_rfl) (by kernel_rfl) (fun _ _ _ h => h) (Or.inl ⟨by rfl, fun W hW => ?_⟩) (by assumption) ?_
        · go_simp
        simp only [Act.put, List.setIfInBounds_toArray, List.set_cons_zero, List.set_cons_succ]
        refine AnyU.take (i := 4) (p := 4) (oi := ⟨some 72, _, _, _, _, none⟩) (v := (.int .i64 (t1 : Nat))) rfl (by kernel_rfl) (Or.inl rfl) (by kernel_rfl) (by kernel_rfl) (by kernel_rfl) (by kernel_rfl) (fun _ _ _ h => h) (Or.inl ⟨by rfl, fun W hW => ?_⟩) (by assumption) ?_
        · (go_simp; try exact IntWalk.i64_in _ (by omega))
        simp only [Act.put, List.setIfInBounds_toArray, List.set_cons_zero, List.set_cons_succ]
        refine AnyU.take (i := 5) (p := 5) (oi := ⟨some 73, _, _, _, _, none⟩) (v := (.int .i64 (t2 : Nat))) rfl (by kernel_rfl) (Or.inl rfl) (by kernel_rfl) (by kernel_rfl) (by kernel_rfl) (by kernel_rfl) (fun _ _ _ h => h) (Or.inl ⟨by rfl, fun W hW => ?_⟩) (by assumption) ?_
        · (go_simp; try exact IntWalk.i64_in _ (by omega))
        simp only [Act.put, List.setIfInBounds_toArray, List.set_cons_zero, List.set_cons_succ]
        refine AnyU.take (i := 6) (p := 6) (oi := ⟨some 74, _, _, _, _, none⟩) (v := (.pointer (some ⟨pb, po + t2, none⟩))) rfl (by kernel_rfl) (Or.inl rfl) (by kernel_rfl) (by kernel_rfl) (by kernel_rfl) (by kernel_rfl) (fun _ _ _ h => h) (Or.inl ⟨by rfl, fun W hW => ?_⟩) (by assumption) ?_
        · go_simp
        simp only [Act.put, List.setIfInBounds_toArray, List.set_cons_zero, List.set_cons_succ]
        refine AnyU.take (i := 7) (p := 7) (oi := ⟨some 75, _, _, _, _, none⟩) (v := (.int .u8 (x : Nat))) rfl (by kernel_rfl) (Or.inl rfl) (by kernel_rfl) (by kernel_rfl) (by kernel_rfl) (by kernel_rfl) (fun _ _ _ h => h) (Or.inl ⟨by rfl, fun W hW => ?_⟩) (by assumption) ?_
        · (have y7 := HCX.out W hW.1; go_simp)
        simp only [Act.put, List.setIfInBounds_toArray, List.set_cons_zero, List.set_cons_succ]
        refine AnyU.take (i := 8) (p := 8) (oi := ⟨some 76, _, _, _, _, none⟩) (v := (.int .i64 (x : Nat))) rfl (by kernel_rfl) (Or.inl rfl) (by kernel_rfl) (by kernel_rfl) (by kernel_rfl) (by kernel_rfl) (fun _ _ _ h => h) (Or.inl ⟨by rfl, fun W hW => ?_⟩) (by assumption) ?_
        · (go_simp; try exact IntWalk.i64_in _ (by omega))
        simp only [Act.put, List.setIfInBounds_toArray, List.set_cons_zero, List.set_cons_succ]
        refine AnyU.take (i := 9) (p := 9) (oi := ⟨some 77, _, _, _, _, none⟩) (v := (.slice (some ⟨pb, po, none⟩) N pc)) rfl (by kernel_rfl) (Or.inl rfl) (by kernel_rfl) (by kernel_rfl) (by kernel_rfl) (by kernel_rfl) (fun _ _ _ h => h) (Or.inl ⟨by rfl, fun W hW => ?_⟩) (by assumption) ?_
        · go_simp
        simp only [Act.put, List.setIfInBounds_toArray, List.set_cons_zero, List.set_cons_succ]
        refine AnyU.take (i := 10) (p := 10) (oi := ⟨some 78, _, _, _, _, none⟩) (v := (.int .i64 (k : Nat))) rfl (by kernel_rfl) (Or.inl rfl) (by kernel_rfl) (by kernel_rfl) (by kernel_rfl) (by kernel_rfl) (fun _ _ _ h => h) (Or.inl ⟨by rfl, fun W hW => ?_⟩) (by assumption) ?_
        · go_simp
        simp only [Act.put, List.setIfInBounds_toArray, List.set_cons_zero, List.set_cons_succ]
        refine AnyU.take (i := 11) (p := 11) (oi := ⟨some 79, _, _, _, _, none⟩) (v := (.int .i64 (t1 : Nat))) rfl (by kernel_rfl) (Or.inl rfl) (by kernel_rfl) (by kernel_rfl) (by kernel_rfl) (by kernel_rfl) (fun _ _ _ h => h) (Or.inl ⟨by rfl, fun W hW => ?_⟩) (by assumption) ?_
        · (go_simp; try exact IntWalk.i64_in _ (by omega))
        simp only [Act.put, List.setIfInBounds_toArray, List.set_cons_zero, List.set_cons_succ]
        refine AnyU.take (i := 12) (p := 12) (oi := ⟨some 80, _, _, _, _, none⟩) (v := (.int .i64 (t3 : Nat))) rfl (by kernel_rfl) (Or.inl rfl) (by kernel_rfl) (by kernel_rfl) (by kernel_rfl) (by kernel_rfl) (fun _ _ _ h => h) (Or.inl ⟨by rfl, fun W hW => ?_⟩) (by assumption) ?_
        · (go_simp; try exact IntWalk.i64_in _ (by omega))
        simp only [Act.put, List.setIfInBounds_toArray, List.set_cons_zero, List.set_cons_succ]
        refine AnyU.ready (rs := [13]) (by kernel_rfl) (by simp) (EachU.cons rfl (fun KK hKK => ?_) EachU.nil)
        go_simp
        refine (HAT.out _ hHeld.1).mono ?_
        rintro e V ⟨rfl, hVV⟩
        rw [hVV]
        clear hVV V
        dsimp only
        refine hKK.out _ _ (fun _ => hHeld) (fun hHeld => ?_)
        clear hKK KK
        have hHeld := hHeld (by decide)
        try simp only [Act.put, List.setIfInBounds_toArray, List.set_cons_zero, List.set_cons_succ]
        refine AnyU.take (i := 14) (p := 14) (oi := ⟨some 82, _, _, _, _, none⟩) (v := (.agg #[.int .i64 (x : Nat), .int .i64 (y : Nat)])) rfl (by kernel_rfl) (Or.inl rfl) (by kernel_rfl) (by kernel_rfl) (by kernel_rfl) (by kernel_rfl) (fun _ _ _ h => h) (Or.inl ⟨by rfl, fun W hW => ?_⟩) (by assumption) ?_
        · go_simp
        simp only [Act.put, List.setIfInBounds_toArray, List.set_cons_zero, List.set_cons_succ]
        refine AnyU.ready (rs := [15]) (by kernel_rfl) (by simp) (EachU.cons rfl (fun KK hKK => ?_) EachU.nil)
        go_simp
        refine hKK.out _ _ (fun _ => ⟨HB.out.trans (HAL.out.mono hsz), HX.out.same HAL.out⟩) (fun hHeld => ?_)
        clear hKK KK
        have hHeld := hHeld (by decide)
        try simp only [Act.put, List.setIfInBounds_toArray, List.set_cons_zero, List.set_cons_succ]
        refine AnyU.ready (rs := [16]) (by kernel_rfl) (by simp) (EachU.cons rfl (fun KK hKK => ?_) EachU.nil)
        refine Ly.step_apd rfl (.tmp 69) (.tmp 83) 25 rfl (g7 + 1) 24 i0' (.agg #[.int .i64 0, .int .i64 0]) 2 16 Tryz.underlying25 HI.out HZ0.out HZ1.out HZ2.out rfl (by decide) (.slice ar k cr) k _ rfl HOW.out ⟨wx.heap.size, 0, none⟩ 1 1 [.int .i64 (x : Nat), .int .i64 (y : Nat)] rfl rfl (cell_new2 wx.drew _ _ 24) (int_ones _ _) (by unfold maxLen; omega) (by omega) HBB.out ?_
        intro v6 w6 hown6 hgrow6
        obtain ⟨a6, c6, rfl⟩ := own_sl hown6
        have HX6 := Lib.hid (show HAt w6 g7 ⟨(s0 : Nat), (s1 : Nat), (p7 : Nat), (p8 : Nat), (s2 : Nat), k, (hdr f).K, (hdr f).L⟩ ar cr from growM (HX.out.same HAL.out) hgrow6 (ownNeM HOW.out (by omega)))
        have HB6 := Lib.hid (show Below w1.heap.size w1 w6 from HB.out.trans ((HAL.out.mono hsz).trans ((Below.refl w1.heap.size _).grown hgrow6 (Nat.le_trans hsz HAL.out.size) (fun r e => Nat.le_trans (Nat.le_succ_of_le HGE.out) ((HOW.out.lt r e).1)))))
        have HO6 := Lib.hid (show w6.ownsRow (g7 + 1) 24 2 (.slice a6 (k + 1) c6) (k + 1) (tdl (hdr f).K (hdr f).L (k + 1)) by
          have e : tdl (hdr f).K (hdr f).L (k + 1) = tdl (hdr f).K (hdr f).L k ++ [Value.int .i64 (x : Nat), .int .i64 (y : Nat)] := by
            show tdl _ _ k ++ [_, _] = _
            rw [HEX.out, HEY.out]
          rw [e]; exact hown6)
        clear hown6 hgrow6
        refine hKK.out _ _ (fun _ => ⟨HB6.out, HX6.out⟩) (fun hHeld => ?_)
        clear hKK KK
        have hHeld := hHeld (by decide)
        try simp only [Act.put, List.setIfInBounds_toArray]
        refine AnyU.take (i := 17) (p := 17) (oi := ⟨some 85, _, _, _, _, none⟩) (v := (.pointer (some ⟨g7, 5, none⟩))) rfl (by kernel_rfl) (Or.inl rfl) (by kernel_rfl) (by kernel_rfl) (by kernel_rfl) (by kernel_rfl) (fun _ _ _ h => h) (Or.inl ⟨by rfl, fun W hW => ?_⟩) (by assumption) ?_
        · go_simp
        simp only [Act.put, List.setIfInBounds_toArray, List.set_cons_zero, List.set_cons_succ]
        obtain ⟨c0, c1, c2, c3, c4, c5⟩ := HX6.out.c
        have f5 := HX6.out.free 5
        refine AnyU.ready (rs := [18]) (by kernel_rfl) (by simp) (EachU.cons rfl (fun KK hKK => ?_) EachU.nil)
        go_simp
        obtain ⟨w7, hw7⟩ : ∃ w7, w7 = w6.setCell ⟨g7, 5, none⟩ (.slice a6 (k + 1) c6) := ⟨_, rfl⟩
        rw [← hw7]
        have HX7 := Lib.hid (show HAt w7 g7 ⟨(s0 : Nat), (s1 : Nat), (p7 : Nat), (p8 : Nat), (s2 : Nat), k + 1, (hdr f).K, (hdr f).L⟩ a6 c6 by rw [hw7]; exact HX6.out.s5 _ _ _ _ _)
        have HB7 := Lib.hid (show Below w1.heap.size w1 w7 by rw [hw7]; exact HB6.out.setCell (show w1.heap.size ≤ g7 from HGE.out) _)
        have HO7 := Lib.hid (show w7.ownsRow (g7 + 1) 24 2 (.slice a6 (k + 1) c6) (k + 1) (tdl (hdr f).K (hdr f).L (k + 1)) from ownM HO6.out (fun g hg _ => by rw [hw7]; exact heap_setCell_other _ _ _ _ (fun e => by have e2 : g = g7 := e; omega)))
        clear hw7 c0 c1 c2 c3 c4 c5 f5
        refine hKK.out _ _ (fun h => absurd rfl h) (fun hHeld => ?_)
        clear hKK KK
        try simp only [Act.put, List.setIfInBounds_toArray, List.set_cons_zero, List.set_cons_succ]
        refine AnyU.done (by kernel_rfl) ?_ _
        clear hHeld HX HO HB HX6 HO6 HB6 HAL HOW HBB HAT HCX HC5 HEX HEY u1 u2 u3 i6 i6' hxb hyb q9 i3 hsz hg7
        go_wp2
        go_roundw
        case rel => exact ⟨k + 1, a6, c6, _, rfl, by omega, by go_num, HX7.out, HO7.out, HB7.out⟩
        case measure => simp [intOf]; omega
      · obtain rfl : k = m := by omega
        have i1 : ¬ (k : Int) < (k : Int) := by omega
        obtain ⟨t1, ht1⟩ : ∃ t1, t1 = 3 * k := ⟨_, rfl⟩
        obtain ⟨T, hT⟩ : ∃ T, T = 14 + 3 * k := ⟨_, rfl⟩
        obtain ⟨M, hMM⟩ : ∃ M, M = N - T := ⟨_, rfl⟩
        have u1 : 3 * (k : Int) = (t1 : Nat) := by omega
        have u2 : 14 + (t1 : Int) = (T : Nat) := by omega
        have HT := Lib.hid hT; have HMM := Lib.hid hMM
        have HTN := Lib.hid (show T ≤ N by have := E3.out; omega)
        have hsl := slice_l (some ⟨pb, po, none⟩) N pc T HTN.out
        have u4 : (N : Int) - (T : Int) = (M : Nat) := by have := HTN.out; omega
        have htb : t1 ≤ 3000 ∧ T ≤ 3000 := by omega
        have h15 := HTN.out
        rw [← hMM] at hsl
        have HBC := Lib.hid (show Below wx.heap.size wx (wx.alloc (.cells #[] 5)) from (Below.refl _ _).alloc (Nat.le_refl _) _)
        have HSC := Lib.hid (show Sl (wx.alloc (.cells #[] 5)) (cutA (some ⟨pb, po, none⟩) T pc) M (pc - T) (fun j => if j < M then f (T + j) else 0) by
          have h := sl_cutA (l := T) (m := M) (HS1.out.same (HB.out.trans (HBC.out.mono HB.out.size))) (by have := HTN.out; omega)
          have e : sub (sub f 0 N) T M = (fun j => if j < M then f (T + j) else 0) := funext fun j => by
            unfold sub
            by_cases c : j < M
            · rw [if_pos c, if_pos c, if_pos (by have := HTN.out; omega), Nat.zero_add]
            · rw [if_neg c, if_neg c]
          rw [e] at h; exact h)
        have q10 := HCE.out 9 (by have := H14.out; omega) (wx.alloc (.cells #[] 5)) (HB.out.trans (HBC.out.mono HB.out.size))
        rw [← HM.out] at q10
        clear ht1 hT hMM
        have hMb : M ≤ 1000000 := by have := HMM.out; omega
        go_upto_region 16 with (at_builtin; refine wpList_app rfl _ _ rfl wx.heap.size 0 M (pc - T) (fun j => if j < M then f (T + j) else 0) (fun j => if j < M then f (T + j) else 0) (.slice (some ⟨wx.heap.size, 0, none⟩) 0 0) rfl (World.ownsRow_made wx #[] 0 (Nat.le_refl _) (by unfold maxLen; omega) rfl) (cutA (some ⟨pb, po, none⟩) T pc) rfl HSC.out (fun j hj => by rw [Nat.zero_add]) (by omega) (Nat.le_trans (Nat.le_refl _) HBC.out.size) ?_; intro ba bc w8 hown8 hg8; rw [Nat.zero_add] at hown8; have HO8 := Lib.hid hown8; have HG8 := Lib.hid hg8; clear hown8 hg8)
        have hfb : Pf.By (fun j => if j < M then f (T + j) else 0) := fun j => by
          show (if _ then _ else _) < 256
          split
          · exact HBY.out _
          · omega
        have hfu : Pf.Up (fun j => if j < M then f (T + j) else 0) M := fun j hj => if_neg (by omega)
        obtain ⟨ba', bc', hv', hN8⟩ := owns_new HO8.out hfb hfu
        simp only [Value.slice.injEq, true_and] at hv'
        obtain ⟨rfl, rfl⟩ := hv'
        have hb8 : Below wx.heap.size wx w8 := HBC.out.trans ((Below.refl wx.heap.size _).grown HG8.out HBC.out.size (fun r e => by cases e; exact Nat.le_refl _))
        obtain ⟨H, hH⟩ : ∃ H, H = hdr f := ⟨_, rfl⟩
        have HHE := Lib.hid (show H = ⟨(s0 : Nat), (s1 : Nat), (p7 : Nat), (p8 : Nat), (s2 : Nat), k, (hdr f).K, (hdr f).L⟩ by rw [hH]; exact HHD.out)
        have HX8 := Lib.hid (show HAt w8 g7 H ar cr by rw [HHE.out]; exact HX.out.same hb8)
        have HHM := Lib.hid (show H.m = k by rw [HHE.out])
        have HO9 := Lib.hid (show w8.ownsRow (g7 + 1) 24 2 (.slice ar H.m cr) H.m (tdl H.K H.L H.m) by rw [HHM.out, hH]; exact own_be HO.out hb8)
        have HX0 := Lib.hid (show HAt w8 wg hz none 0 from (HX1.out.same HB.out).same hb8)
        have HB8 := Lib.hid (show Below w.heap.size w w8 from (HB1.out.trans (HB.out.mono HB1.out.size)).trans (hb8.mono (Nat.le_trans HB1.out.size HB.out.size)))
        have HN8 := Lib.hid (hN8.mono (show wg + 1 ≤ wx.heap.size from Nat.le_trans HGW.out HB.out.size))
        have HG7 := Lib.hid (show wg < g7 from Nat.lt_of_lt_of_le HGW.out HGE.out)
        have HH := Lib.hid hH
        have HGP := Lib.hid (show GoodP N f ↔ (RH H ∧ M = off H.K H.L H.m) by
          have e9 : f 9 = k := HM.out.symm
          rw [HHM.out, hH, HMM.out, HT.out]
          unfold GoodP
          rw [e9]
          exact ⟨fun q => ⟨q.2.1, q.2.2⟩, fun q => ⟨by have := HTN.out; have := HT.out; omega, q.1, q.2⟩⟩)
        clear hb8 hfb hfu hN8 hH HO HO8 HG8 HX HB HSC HBC HX1 HB1 q9 q10 hsl u1 u2 u4 htb h15 i1 i3
        have HRP := Lib.hid (rput_any H ar ba cr M bc (fun j => if j < M then f (T + j) else 0) hMb (by rw [HHM.out]; omega) w8 (tdl_tb HO9.out).1 HN8.out.sl)
        unfold hV at HRP
        obtain ⟨c0, c1, c2, c3, c4, c5⟩ := HX8.out.c
        go_wp2_with fail
        clear c0 c1 c2 c3 c4 c5
        refine HRP.out.mono ?_
        rintro e w9 ⟨hput, hB9⟩
        have HX9 := Lib.hid (HX8.out.same hB9)
        have HX0' := Lib.hid (HX0.out.same hB9)
        have HO10 := Lib.hid (own_be HO9.out hB9)
        have HN9 := Lib.hid (HN8.out.below hB9)
        have HB9 := Lib.hid (HB8.out.trans (hB9.mono HB8.out.size))
        clear hB9 HX8 HX0 HO9 HN8 HB8 HRP
        rcases hput with ⟨hq1, hq2, pa, qc, rfl, _⟩ | ⟨hno, rfl⟩
        rotate_left
        · have HE := Lib.hid (show perr n f = 4 from perr_s HNN.out HOK.out E0.out E1.out (fun g => hno (HGP.out.1 g)))
          have HRW := Lib.hid (show w9.heap[wg]? = some (.cells #[.int .i64 0, .int .i64 0, .int .i64 0, .int .i64 0, .int .i64 0, .slice none 0 0] 27 (0, 0)) from HX0'.out)
          clear hno
          go_wp2_with (show wpList _ _ _ (⟨none, _, _, _, _, _⟩ :: _) _ _; refine wpList_store_row rfl 27 _ _ rfl wg #[.int .i64 0, .int .i64 0, .int .i64 0, .int .i64 0, .int .i64 0, .slice none 0 0] rfl rfl 27 _ HRW.out (by kernel_rfl) rfl (by simp [Value.oneCell']) ?_)
          have hzz := set_head hz none 0 HRW.out
          exact bodyPost_ret (results_head3 rfl _ _ wg hz none 0 rfl hzz.1) rfl ⟨Or.inl ⟨by rw [HE.out]; decide, by rw [HE.out]; rfl⟩, HB9.out.trans (hzz.2 _ (by have := HWG.out; omega))⟩
        have HP := Lib.hid (show perr n f = 0 from perr_g HNN.out HOK.out E0.out E1.out (HGP.out.2 ⟨hq1, hq2⟩))
        have HM8 := Lib.hid (show H.m ≤ 8 from hq1.2.2.2.2.2.2.2.1)
        have HRW := Lib.hid (show w9.heap[wg]? = some (.cells #[.int .i64 0, .int .i64 0, .int .i64 0, .int .i64 0, .int .i64 0, .slice none 0 0] 27 (0, 0)) from HX0'.out)
        clear hq1 hq2
        obtain ⟨c0, c1, c2, c3, c4, c5⟩ := HX9.out.c
        go_wp2_with (show wpList _ _ _ (⟨none, _, _, _, _, _⟩ :: _) _ _; refine wpList_store_row rfl 27 _ _ rfl wg #[.int .i64 H.S, .int .i64 H.F, .int .i64 H.I, .int .i64 H.N, .int .i64 H.D, .slice ar H.m cr] rfl rfl 27 _ HRW.out (by kernel_rfl) rfl (by simp [Value.oneCell']) ?_)
        have hzz := set_head H ar cr HRW.out
        have hbz := hzz.2 w.heap.size (by have := HWG.out; omega)
        have e9 : H.m = f 9 := by rw [HHM.out]; exact HM.out
        refine bodyPost_ret (results_head3 rfl _ _ wg H ar cr rfl hzz.1) rfl ⟨Or.inr ⟨HP.out, ar, cr, ba, bc, ?_, ?_, ?_⟩, HB9.out.trans hbz⟩
        · rw [show n - 4 = N by have := HNN.out; omega, ← HH.out, ← e9, HHM.out, ← HT.out, ← HMM.out]; rfl
        · rw [← HH.out, ← e9]
          exact ownMono (ownM HO10.out (fun g hg _ => setRow_other w9 wg g _ (by have := HG7.out; omega))) (by have := HG7.out; have := HWG.out; omega)
        · rw [show n - 4 = N by have := HNN.out; omega, show f 9 = k from HM.out.symm, ← HT.out, ← HMM.out]
          refine Nw.mono (B := wg + 1) ?_ (by have := HWG.out; omega)
          refine HN9.out.grown (w' := w9.setRow wg #[.int .i64 H.S, .int .i64 H.F, .int .i64 H.I, .int .i64 H.N, .int .i64 H.D, .slice ar H.m cr]) (row := some wg) ⟨rfl, rfl, rfl, by simp, fun j _ hk => setRow_other w9 wg j _ (fun e => hk (by rw [e]))⟩ (fun g e q => ?_)
          rcases HN9.out.ow with ⟨e0, _⟩ | ⟨g', vs, e0, hg', _⟩
          · rw [e0] at e; cases e
          · rw [e0] at e; cases e; cases q; omega
end Go.Proofs.YtjlmajopfeplpaaGreat.He

namespace Go.Proofs.YtjlmajopfeplpaaGreat.He
open Go.RowKit Go.Shelf
open Go.Proofs.YtjlmajopfeplpaaGreat.Ly (TabOk RowOk off off_le widI Tb tdl tdl_len tdl_at tdl_tb)
open Go.Proofs.YtjlmajopfeplpaaGreat.Wg (BoSays BoSays.no BoSays.yes)
attribute [local go_sem] Oper.semAt_some

theorem hdr_congr {f g : Nat → Nat} {M : Nat} (h : ∀ i, i < 14 + 3 * M → f i = g i) (hm : g 9 = M) : EH (hdr f) (hdr g) := by
  have e9 : f 9 = g 9 := h 9 (by omega)
  refine ⟨⟨?_, ?_, ?_, ?_, e9, fun i hi => ?_⟩, ?_⟩
  · show ((vn (fun j => f (1 + j)) 2 : Nat) : Int) = (vn (fun j => g (1 + j)) 2 : Nat)
    rw [vn_congr 2 fun j hj => h (1 + j) (by omega)]
  · show ((vn (fun j => f (3 + j)) 4 : Nat) : Int) = (vn (fun j => g (3 + j)) 4 : Nat)
    rw [vn_congr 4 fun j hj => h (3 + j) (by omega)]
  · show ((f 8 : Nat) : Int) = (g 8 : Nat)
    rw [h 8 (by omega)]
  · show ((vn (fun j => f (10 + j)) 4 : Nat) : Int) = (vn (fun j => g (10 + j)) 4 : Nat)
    rw [vn_congr 4 fun j hj => h (10 + j) (by omega)]
  · have hi : i < f 9 := hi
    constructor
    · show ((f (14 + 3 * i) : Nat) : Int) = (g (14 + 3 * i) : Nat)
      rw [h (14 + 3 * i) (by omega)]
    · show ((vn (fun j => f (15 + 3 * i + j)) 2 : Nat) : Int) = (vn (fun j => g (15 + 3 * i + j)) 2 : Nat)
      rw [vn_congr 2 fun j hj => h (15 + 3 * i + j) (by omega)]
  · show ((f 7 : Nat) : Int) = (g 7 : Nat)
    rw [h 7 (by omega)]
theorem eh_trans {h g k : Hr} (e : EH h g) (d : EH g k) : EH h k := by
  obtain ⟨⟨e1, e2, e3, e4, e5, e6⟩, e7⟩ := e
  obtain ⟨⟨d1, d2, d3, d4, d5, d6⟩, d7⟩ := d
  exact ⟨⟨e1.trans d1, e2.trans d2, e3.trans d3, e4.trans d4, e5.trans d5, fun i hi => ⟨(e6 i hi).1.trans (d6 i (by omega)).1, (e6 i hi).2.trans (d6 i (by omega)).2⟩⟩, e7.trans d7⟩
/-- what is put is a datagram. -/
theorem put_good {h : Hr} (hr : RH h) {n : Nat} (hn : n = off h.K h.L h.m) (body : Nat → Nat) :
    EH (hdr (Crc.sealed (pl h body) (14 + 3 * h.m + n))) h ∧ Crc.sealed (pl h body) (14 + 3 * h.m + n) 9 = h.m ∧ GoodP (14 + 3 * h.m + n) (Crc.sealed (pl h body) (14 + 3 * h.m + n)) ∧ (∀ j, j < n → Crc.sealed (pl h body) (14 + 3 * h.m + n) (14 + 3 * h.m + j) = body j) ∧ perr (14 + 3 * h.m + n + 4) (Crc.sealed (pl h body) (14 + 3 * h.m + n)) = 0 := by
  have hm8 : h.m ≤ 8 := hr.2.2.2.2.2.2.2.1
  have hp9 : pl h body 9 = h.m := by
    show h.m % 256 = _; omega
  have hlo : ∀ i, i < 14 + 3 * h.m + n → Crc.sealed (pl h body) (14 + 3 * h.m + n) i = pl h body i := fun i hi => Crc.sealed_lo hi
  have h9 : Crc.sealed (pl h body) (14 + 3 * h.m + n) 9 = h.m := by rw [hlo 9 (by omega), hp9]
  have he : EH (hdr (Crc.sealed (pl h body) (14 + 3 * h.m + n))) h := eh_trans (hdr_congr (M := h.m) (fun i hi => hlo i (by omega)) hp9) (hdr_pl hr body)
  have hg : GoodP (14 + 3 * h.m + n) (Crc.sealed (pl h body) (14 + 3 * h.m + n)) := by
    refine ⟨by rw [h9]; omega, rh_congr (eh_symm he) hr, ?_⟩
    rw [h9, off_congr h.m (fun i hi => he.1.2.2.2.2.2 i (by rw [he.1.2.2.2.2.1]; exact hi)), ← hn]
    omega
  refine ⟨he, h9, hg, fun j hj => ?_, ?_⟩
  · rw [hlo _ (by omega), pl_body]
  · unfold perr
    rw [if_neg (by omega), Nat.add_sub_cancel]
    have hok : okB (Crc.sealed (pl h body) (14 + 3 * h.m + n)) (14 + 3 * h.m + n) = true := sealed_ok _
    rw [hok, if_neg (by decide), if_neg (by omega), if_neg (by rw [hlo 0 (by omega)]; exact fun q => q rfl), if_pos hg]
theorem ParSays.put {w w' : World} {h : Hr} (hr : RH h) {n : Nat} (hn : n = off h.K h.L h.m) {body : Nat → Nat} {e : Ending} (hp : ParSays w (14 + 3 * h.m + n + 4) (Crc.sealed (pl h body) (14 + 3 * h.m + n)) e w') :
    ∃ a c ba bc, e = .returned (.tuple #[hV h a c, .slice ba n bc, .int .i64 0]) ∧ w'.ownsRow w.heap.size 24 2 (.slice a h.m c) h.m (tdl h.K h.L h.m) ∧ Nw w' w.heap.size ba n bc (fun j => if j < n then body j else 0) := by
  obtain ⟨he, h9, hg, hbody, hpe⟩ := put_good hr hn body
  rcases hp with ⟨h0, _⟩ | ⟨_, a, c, ba, bc, he2, ho, hN⟩
  · exact absurd hpe h0
  · have e2 : 14 + 3 * h.m + n + 4 - 4 - (14 + 3 * h.m) = n := by omega
    rw [h9, e2] at hN
    rw [h9, e2, hV_eq he] at he2
    rw [h9, tdl_congr h.m (fun i hi => he.1.2.2.2.2.2 i (by rw [he.1.2.2.2.2.1]; exact hi))] at ho
    refine ⟨a, c, ba, bc, he2, ho, ?_⟩
    have e3 : (fun j => if j < n then Crc.sealed (pl h body) (14 + 3 * h.m + n) (14 + 3 * h.m + j) else 0) = fun j => if j < n then body j else 0 := funext fun j => by
      split
      · exact hbody j (by assumption)
      · rfl
    rw [e3] at hN; exact hN
/-- the chapter's example. -/
def h0 : Hr := ⟨1, 2, 0, 1, 3, 1, fun _ => 1, fun _ => 1⟩
theorem h0_wid : off h0.K h0.L h0.m = 1 := by decide
theorem h0_right : RH h0 := by
  unfold RH TabOk RowOk h0
  refine ⟨by decide, by decide, by decide, by decide, by decide, by decide, by decide, by decide, fun i hi => ?_⟩
  exact ⟨by show (1 : Int) ≤ 1; decide, by show (1 : Int) ≤ 1; decide, by show (0 : Int) ≤ 1; decide, by show (1 : Int) ≤ 65535; decide, fun _ => by show (1 : Int) ≤ 1; decide⟩
def lit18 : List Nat := [1, 0, 1, 0, 0, 0, 2, 0, 1, 1, 0, 0, 0, 3, 1, 0, 1, 7]
theorem h0_bytes : sub (Crc.sealed (pl h0 (fun i => [7].getD i 0)) 18) 0 18 = fun i => lit18.getD i 0 := funext fun i => by
  by_cases hi : i < 18
  · unfold sub
    rw [if_pos hi, Nat.zero_add, Crc.sealed_lo hi]
    revert hi
    revert i
    decide
  · unfold sub
    rw [if_neg hi, List.getD_eq_getElem?_getD, List.getElem?_eq_none (by show 18 ≤ i; omega)]
    rfl
set_option maxHeartbeats 4000000 in
set_option maxRecDepth 100000 in
theorem awake14_any (w : World) :
    Calls Tryz.prog 9 #[] w fun e w' => e = .returned (.bool true) ∧ Below w.heap.size w w' := by
  obtain ⟨w1, hw1⟩ : ∃ w1, w1 = w.alloc (.cells #[.int .i64 1, .int .i64 1] 24) := ⟨_, rfl⟩
  obtain ⟨w2, hw2⟩ : ∃ w2, w2 = w1.alloc (.cells #[.int .i64 1, .int .i64 2, .int .i64 0, .int .i64 1, .int .i64 3, .slice (some ⟨w.heap.size, 0, none⟩) 1 1] 27) := ⟨_, rfl⟩
  have hz1 : w1.heap.size = w.heap.size + 1 := by rw [hw1, World.size_alloc]
  have hb1 : Below w.heap.size w w1 := by rw [hw1]; exact (Below.refl _ w).alloc (Nat.le_refl _) _
  have hb2 : Below w1.heap.size w1 w2 := by rw [hw2]; exact (Below.refl _ w1).alloc (Nat.le_refl _) _
  have hr1 : w1.heap[w.heap.size]? = some (.cells #[.int .i64 1, .int .i64 1] 24 (0, 0)) := by rw [hw1]; exact heap_alloc_new _ _
  have hr2 := (hb2.block _ (by omega : w.heap.size < w1.heap.size)).trans hr1
  have HT2 := Lib.hid (show Tb w2 (some ⟨w.heap.size, 0, none⟩) h0.m h0.K h0.L from ⟨fun i hi => ⟨w.heap.size, 0, rfl, by
    have e : i = 0 := by have : i < 1 := hi; omega
    subst e
    exact ⟨by rw [cell_of_row _ _ _ _ _ _ hr2]; rfl, by rw [cell_of_row _ _ _ _ _ _ hr2]; rfl⟩⟩⟩)
  have HX2 := Lib.hid (show HAt w2 (w.heap.size + 1) h0 (some ⟨w.heap.size, 0, none⟩) 1 by rw [hw2, ← hz1]; exact heap_alloc_new _ _)
  have HB2 := Lib.hid (hb1.trans (hb2.mono hb1.size))
  have HW := Lib.hid (show w2 = (w.alloc (.cells #[.int .i64 1, .int .i64 1] 24)).alloc (.cells #[.int .i64 1, .int .i64 2, .int .i64 0, .int .i64 1, .int .i64 3, .slice (some ⟨w.heap.size, 0, none⟩) 1 1] 27) by rw [hw2, hw1])
  clear hw1 hw2 hz1 hb1 hb2 hr1 hr2
  go_enter Tryz.func9, Tryz.ntmps9
  go_upto_region 2 with fail
  rw [← HW.out]
  obtain ⟨wg, hwg⟩ : ∃ wg, wg = w.heap.size := ⟨_, rfl⟩
  rw [← hwg] at HT2 HX2 ⊢
  clear HW hwg
  obtain ⟨c0, c1, c2, c3, c4, c5⟩ := HX2.out.c
  go_wp2_with fail
  clear c0 c1 c2 c3 c4 c5
  have hb3 : Below w2.heap.size w2 (w2.alloc (.cells #[.int .u8 7] 5)) := (Below.refl _ w2).alloc (Nat.le_refl _) _
  have HP := Lib.hid (phput_any h0 (some ⟨wg, 0, none⟩) (some ⟨w2.heap.size, 0, none⟩) 1 1 1 (fun i => [7].getD i 0) (by decide) (w2.alloc (.cells #[.int .u8 7] 5)) (HT2.out.same hb3) (sl_lit w2 [7] (by decide) (by decide)))
  refine HP.out.mono ?_
  rintro e w3 ⟨hput, hB3⟩
  have hB3 := hb3.trans (hB3.mono hb3.size)
  have HX3 := Lib.hid (HX2.out.same hB3)
  have HT3 := Lib.hid (HT2.out.same hB3)
  have HB3 := Lib.hid (HB2.out.trans (hB3.mono HB2.out.size))
  rcases hput with ⟨hq1, hq2, g, C, he, hg, hC, hbl⟩ | ⟨hno, _⟩
  rotate_left
  · exact absurd ⟨h0_right, h0_wid.symm⟩ hno
  have HSL := Lib.hid (show Sl w3 (some ⟨g, 0, none⟩) 22 22 (Crc.sealed (pl h0 (fun i => [7].getD i 0)) 18) from hbl.sl2 (Nat.le_refl _) (by unfold maxLen; decide) (sealed_bytes (pl_by _ (sl_lit w [7] (by decide) (by decide)).bytes) _) (sealed_upto _ _))
  obtain rfl : e = .returned (.tuple #[.slice (some ⟨g, 0, none⟩) 22 22, .int .i64 0]) := he
  clear hq1 hq2 hg hC hbl hB3 hb3 HP HX2 HT2 HB2
  go_wp2_with fail
  refine (phparse_any (some ⟨g, 0, none⟩) 22 22 _ (by decide) w3 HSL.out).mono ?_
  rintro e w4 ⟨hpar, hB4⟩
  obtain ⟨a, c, ba, bc, rfl, ho, hN⟩ := ParSays.put h0_right h0_wid.symm hpar
  have HX4 := Lib.hid (HX3.out.same hB4)
  have HT4 := Lib.hid (HT3.out.same hB4)
  have HS4 := Lib.hid (HSL.out.same hB4)
  have HB4 := Lib.hid (HB3.out.trans (hB4.mono HB3.out.size))
  have HO := Lib.hid (tdl_tb ho).1
  have HN := Lib.hid hN.sl
  clear hpar hB4 ho hN HX3 HT3 HSL HB3
  unfold hV
  go_upto_region 4 with fail
  obtain ⟨w5, hw5⟩ : ∃ w5, w5 = w4.alloc (.cells #[.int .i64 h0.S, .int .i64 h0.F, .int .i64 h0.I, .int .i64 h0.N, .int .i64 h0.D, .slice a h0.m c] 27) := ⟨_, rfl⟩
  rw [← hw5]
  have hb5 : Below w4.heap.size w4 w5 := by rw [hw5]; exact (Below.refl _ w4).alloc (Nat.le_refl _) _
  have HY5 := Lib.hid (show HAt w5 w4.heap.size h0 a c by rw [hw5]; exact heap_alloc_new _ _)
  have HX5 := Lib.hid (HX4.out.same hb5)
  have HT5 := Lib.hid (HT4.out.same hb5)
  have HS5 := Lib.hid (HS4.out.same hb5)
  have HO5 := Lib.hid (HO.out.same hb5)
  have HN5 := Lib.hid (HN.out.same hb5)
  have HB5 := Lib.hid (HB4.out.trans (hb5.mono HB4.out.size))
  generalize w4.heap.size = w4s at *
  clear hw5 hb5 HX4 HT4 HS4 HO HN HB4
  go_wp2_with fail
  obtain ⟨wA, hwA⟩ : ∃ wA, wA = w5.alloc (.cells #[.int .u8 1, .int .u8 0, .int .u8 1, .int .u8 0, .int .u8 0, .int .u8 0, .int .u8 2, .int .u8 0, .int .u8 1, .int .u8 1, .int .u8 0, .int .u8 0, .int .u8 0, .int .u8 3, .int .u8 1, .int .u8 0, .int .u8 1, .int .u8 7] 5) := ⟨_, rfl⟩
  have HLA := Lib.hid (show Sl wA (some ⟨w5.heap.size, 0, none⟩) 18 18 (fun i => lit18.getD i 0) by rw [hwA]; exact sl_lit w5 lit18 (by decide) (by decide))
  have hbA : Below w5.heap.size w5 wA := by rw [hwA]; exact (Below.refl _ w5).alloc (Nat.le_refl _) _
  have HSA := Lib.hid (show Sl wA (some ⟨g, 0, none⟩) 18 22 (fun i => lit18.getD i 0) by rw [← h0_bytes]; exact sl_lo (HS5.out.same hbA) (by decide))
  have HSM := Lib.hid (same_any (some ⟨g, 0, none⟩) (some ⟨w5.heap.size, 0, none⟩) 18 22 18 _ (by decide) wA HSA.out HLA.out)
  rw [← hwA]
  have HBA := Lib.hid hbA
  clear hwA hbA HSA HLA
  refine HSM.out.mono ?_
  rintro e w6 ⟨rfl, q6, hq6⟩
  have hb6 : Below w5.heap.size w5 w6 := HBA.out.trans ((show Below wA.heap.size wA w6 by rw [hq6]; exact below_dr (Below.refl _ _) q6).mono HBA.out.size)
  have HY6 := Lib.hid (HY5.out.same hb6)
  have HX6 := Lib.hid (HX5.out.same hb6)
  have HT6 := Lib.hid (HT5.out.same hb6)
  have HO6 := Lib.hid (HO5.out.same hb6)
  have HN6 := Lib.hid (HN5.out.same hb6)
  have HB6 := Lib.hid (HB5.out.trans (hb6.mono HB5.out.size))
  clear hb6 hq6 HSM HBA HY5 HX5 HT5 HO5 HN5 HB5 HS5
  obtain ⟨c0, c1, c2, c3, c4, c5⟩ := HX6.out.c
  obtain ⟨d0, d1, d2, d3, d4, d5⟩ := HY6.out.c
  have HSH := Lib.hid (sameHead_any h0 h0 a (some ⟨wg, 0, none⟩) c 1 (by decide) (by decide) w6 HO6.out HT6.out)
  unfold hV at HSH
  go_wp2_with fail
  clear c0 c1 c2 c3 c4 c5 d0 d1 d2 d3 d4 d5
  refine HSH.out.mono ?_
  rintro e w7 ⟨⟨v, rfl, hv⟩, hB7⟩
  obtain rfl : v = true := hv.2 ⟨⟨rfl, rfl, rfl, rfl, rfl, fun _ _ => ⟨rfl, rfl⟩⟩, rfl⟩
  have HN7 := Lib.hid (HN6.out.same hB7)
  have HB7 := Lib.hid (HB6.out.trans (hB7.mono HB6.out.size))
  clear hv hB7 HSH HY6 HX6 HT6 HO6 HN6 HB6
  go_wp2_with fail
  have hb8 : Below w7.heap.size w7 (w7.alloc (.cells #[.int .u8 7] 5)) := (Below.refl _ w7).alloc (Nat.le_refl _) _
  have HSM := Lib.hid (same_any ba (some ⟨w7.heap.size, 0, none⟩) 1 bc 1 (fun i => [7].getD i 0) (by decide) (w7.alloc (.cells #[.int .u8 7] 5)) (by
    have h := HN7.out.same hb8
    have e : (fun j => if j < 1 then (fun i => [7].getD i 0) j else 0) = fun i => [7].getD i 0 := funext fun j => by
      by_cases c : j < 1
      · rw [if_pos c]
      · rw [if_neg c, List.getD_eq_getElem?_getD, List.getElem?_eq_none (by simp; omega)]; rfl
    rw [e] at h; exact h) (sl_lit w7 [7] (by decide) (by decide)))
  refine HSM.out.mono ?_
  rintro e w8 ⟨rfl, q8, hq8⟩
  have HB8 := Lib.hid (show Below w.heap.size w w8 by rw [hq8]; exact below_dr (HB7.out.trans (hb8.mono HB7.out.size)) q8)
  clear hb8 hq8 HSM
  go_wp2
  go_ret
  exact ⟨rfl, HB8.out⟩
end Go.Proofs.YtjlmajopfeplpaaGreat.He

namespace Go.Proofs.YtjlmajopfeplpaaGreat.He
open Go.RowKit Go.Shelf
open Go.Proofs.YtjlmajopfeplpaaGreat.Ly (TabOk RowOk off Tb tdl tdl_len tdl_at tdl_tb)
open Go.Proofs.YtjlmajopfeplpaaGreat.Wg (BoSays BoSays.no BoSays.yes)
attribute [local go_sem] Oper.semAt_some

def of2 {α : Type} (x y : α) (i : Nat) : α := if i = 0 then x else y
theorem bag_two {w : World} {B N : Nat} {a0 a1 : Option Addr} {n0 n1 c0 c1 : Nat} {h0 h1 : Nat → Nat} (hN : N = w.heap.size)
    (o0 : Oz.OzRow w B 5 1 (.slice a0 n0 c0) n0 (rowv h0 n0)) (o1 : Oz.OzRow w B 5 1 (.slice a1 n1 c1) n1 (rowv h1 n1)) :
    Oz.Bag (w.alloc (.cells #[.slice a0 n0 c0, .slice a1 n1 c1] 28)) B N 2 (of2 a0 a1) (of2 n0 n1) (of2 n0 n1) (of2 c0 c1) (of2 h0 h1) := by
  subst hN
  refine ⟨fun k hk => ?_, fun k hk => ?_⟩
  · rw [World.cell?_alloc_new]
    match k, hk with
    | 0, _ => rfl | 1, _ => rfl
    | k + 2, hk => exact absurd hk (by omega)
  · match k, hk with
    | 0, _ => exact o0.alloc _
    | 1, _ => exact o1.alloc _
    | k + 2, hk => exact absurd hk (by omega)
theorem sep_two {a0 a1 : Option Addr} (h01 : Oz.blk a0 ≠ Oz.blk a1) : Oz.Sep (of2 a0 a1) 2 := by
  intro i j hi hj hij
  match i, j, hi, hj, hij with
  | 0, 0, _, _, h => exact absurd rfl h
  | 0, 1, _, _, _ => exact Or.inr h01
  | 1, 0, _, _, _ => exact Or.inr (Ne.symm h01)
  | 1, 1, _, _, h => exact absurd rfl h
  | i + 2, _, hi, _, _ => exact absurd hi (by omega)
  | _, j + 2, _, hj, _ => exact absurd hj (by omega)
/-- two rows lie apart. -/
theorem apart_pair (B : Nat) (a0 a1 : Option Addr) (n0 n1 c0 c1 : Nat) (h0 h1 : Nat → Nat) (w : World) (hB : B ≤ w.heap.size)
    (o0 : Oz.OzRow w B 5 1 (.slice a0 n0 c0) n0 (rowv h0 n0)) (o1 : Oz.OzRow w B 5 1 (.slice a1 n1 c1) n1 (rowv h1 n1)) (h01 : Oz.blk a0 ≠ Oz.blk a1) (l0 : n0 ≤ 1000000) (l1 : n1 ≤ 1000000) :
    Calls Tryz.prog 21 #[.slice (some ⟨w.heap.size, 0, none⟩) 2 2] (w.alloc (.cells #[.slice a0 n0 c0, .slice a1 n1 c1] 28)) fun e w' => e = .returned (.bool true) ∧ Below B w w' := by
  have hb : Below B w (w.alloc (.cells #[.slice a0 n0 c0, .slice a1 n1 c1] 28)) := (Below.refl B w).alloc hB _
  refine (Oz.apartBytes_any B w.heap.size 2 2 _ _ _ _ _ (bag_two rfl o0 o1) (sep_two h01) (by simp) (Nat.le_trans hB hb.size) (Nat.le_refl _) (by omega) (by omega) (fun k => by unfold of2; split <;> omega)).mono ?_
  rintro e w' ⟨he, h⟩
  exact ⟨he, hb.trans h⟩
/-- what Parse tells, as far as bytes go. -/
noncomputable def pH (n : Nat) (f : Nat → Nat) : Hr := if perr n f = 0 then hdr f else hz
noncomputable def pM (n : Nat) (f : Nat → Nat) : Nat := if perr n f = 0 then n - 4 - (14 + 3 * f 9) else 0
noncomputable def pF (n : Nat) (f : Nat → Nat) : Nat → Nat := if perr n f = 0 then (fun j => if j < n - 4 - (14 + 3 * f 9) then f (14 + 3 * f 9 + j) else 0) else fun _ => 0
theorem pM_le (n : Nat) (f : Nat → Nat) : pM n f ≤ n := by unfold pM; split <;> omega
theorem pH_m (n : Nat) {f : Nat → Nat} (hb : Pf.By f) : (pH n f).m < 256 := by
  unfold pH; split
  · exact hb 9
  · decide
theorem nw_none (w : World) (B : Nat) : Nw w B none 0 0 (fun _ => 0) := ⟨Sl.none_ w none 0 (Nat.zero_le _) (fun _ => rfl), Or.inl ⟨rfl, rfl⟩⟩
theorem ParSays.out {w w' : World} {n : Nat} {f : Nat → Nat} {e : Ending} (h : ParSays w n f e w') :
    ∃ a c ba bc, e = .returned (.tuple #[hV (pH n f) a c, .slice ba (pM n f) bc, .int .i64 (perr n f)]) ∧ Tb w' a (pH n f).m (pH n f).K (pH n f).L ∧ Nw w' w.heap.size ba (pM n f) bc (pF n f) := by
  rcases h with ⟨h0, he⟩ | ⟨h0, a, c, ba, bc, he, ho, hN⟩
  · refine ⟨none, 0, none, 0, ?_, ?_, ?_⟩
    · unfold pH pM; rw [if_neg h0, if_neg h0, he]; rfl
    · unfold pH; rw [if_neg h0]; exact ⟨fun i hi => absurd hi (Nat.not_lt_zero i)⟩
    · unfold pM pF; rw [if_neg h0, if_neg h0]; exact nw_none _ _
  · refine ⟨a, c, ba, bc, ?_, ?_, ?_⟩
    · unfold pH pM; rw [if_pos h0, if_pos h0, he, h0]
    · unfold pH; rw [if_pos h0]; exact (tdl_tb ho).1
    · unfold pM pF; rw [if_pos h0, if_pos h0]; exact hN
set_option maxHeartbeats 4000000 in
set_option maxRecDepth 100000 in
theorem parses_any (a : Option Addr) (n c : Nat) (f : Nat → Nat) (hn : n ≤ 100000) (w : World) (hS : Sl w a n c f) :
    Calls Tryz.prog 8 #[.slice a n c] w fun e w' => e = .returned (.bool true) ∧ Below w.heap.size w w' := by
  obtain ⟨H, hH⟩ : ∃ H, H = pH n f := ⟨_, rfl⟩
  obtain ⟨M, hM⟩ : ∃ M, M = pM n f := ⟨_, rfl⟩
  obtain ⟨F, hF⟩ : ∃ F, F = pF n f := ⟨_, rfl⟩
  obtain ⟨er, her⟩ : ∃ er, er = perr n f := ⟨_, rfl⟩
  have HHM := Lib.hid (show H.m < 256 by rw [hH]; exact pH_m n hS.bytes)
  have HMB := Lib.hid (show M ≤ 100000 by rw [hM]; exact Nat.le_trans (pM_le n f) hn)
  have HPP := Lib.hid (fun g W (hW : Sl W (some ⟨g, 0, none⟩) n (n + 12) f) => (phparse_any (some ⟨g, 0, none⟩) n (n + 12) f (by omega) W hW).mono (R' := fun e w' => (∃ a c ba bc, e = .returned (.tuple #[hV H a c, .slice ba M bc, .int .i64 er]) ∧ Tb w' a H.m H.K H.L ∧ Nw w' W.heap.size ba M bc F) ∧ Below W.heap.size W w') (fun e w' ⟨h, hB⟩ => ⟨by rw [hH, hM, hF, her]; exact h.out, hB⟩))
  have HRP := Lib.hid (fun W (hW : Sl W a n c f) => (rparse_any a n c f (by omega) W hW).mono (R' := fun e w' => (∃ a c ba bc, e = .returned (.tuple #[hV H a c, .slice ba M bc, .int .i64 er]) ∧ Tb w' a H.m H.K H.L ∧ Nw w' W.heap.size ba M bc F) ∧ Below W.heap.size W w') (fun e w' ⟨h, hB⟩ => ⟨by rw [hH, hM, hF, her]; exact h.out, hB⟩))
  have HS := Lib.hid hS; have HN := Lib.hid hn
  clear hH hM hF her hS hn
  have hee : (er == er) = true := by simp
  go_enter Tryz.func8, Tryz.ntmps8
  go_wp2_with fail
  refine (lentS_any a n c f w HS.out (by have := HN.out; omega)).mono ?_
  rintro e w1 ⟨rfl, hbk, hB1⟩
  obtain ⟨I, hI⟩ : ∃ I, I = w.heap.size := ⟨_, rfl⟩
  rw [← hI] at hbk ⊢
  have HI := Lib.hid hI
  have HBK1 := Lib.hid hbk; have HB1 := Lib.hid hB1
  have HSI := Lib.hid ((hbk.nw (Nat.zero_le _) HS.out.bytes HS.out.up (by have := HN.out; omega)).sl)
  clear hI hbk hB1
  go_wp2_with fail
  refine (HPP.out I w1 HSI.out).mono ?_
  rintro e w2 ⟨⟨ha, hc, pa, pc, rfl, hT, hN⟩, hB2⟩
  have HT2 := Lib.hid hT; have HN2 := Lib.hid hN
  have HBK2 := Lib.hid (HBK1.out.same hB2)
  have HB2 := Lib.hid (HB1.out.trans (hB2.mono HB1.out.size))
  have HSZ := Lib.hid (show I < w1.heap.size from (Array.getElem?_eq_some_iff.1 HBK1.out).1)
  clear hT hN hB2 HPP
  unfold hV
  go_upto_region 3 with fail
  obtain ⟨w3, hw3⟩ : ∃ w3, w3 = w2.alloc (.cells #[.int .i64 H.S, .int .i64 H.F, .int .i64 H.I, .int .i64 H.N, .int .i64 H.D, .slice ha H.m hc] 27) := ⟨_, rfl⟩
  rw [← hw3]
  have hb3 : Below w2.heap.size w2 w3 := by rw [hw3]; exact (Below.refl _ w2).alloc (Nat.le_refl _) _
  have HX3 := Lib.hid (show HAt w3 w2.heap.size H ha hc by rw [hw3]; exact heap_alloc_new _ _)
  have HT3 := Lib.hid (HT2.out.same hb3); have HN3 := Lib.hid (HN2.out.below hb3)
  have HBK3 := Lib.hid (HBK2.out.same hb3)
  have HB3 := Lib.hid (HB2.out.trans (hb3.mono HB2.out.size))
  generalize w2.heap.size = w2s at *
  clear hw3 hb3 HT2 HN2 HBK2 HB2
  go_wp2_with fail
  refine (HRP.out w3 (HS.out.same HB3.out)).mono ?_
  rintro e w4 ⟨⟨ka, kc, qa, qc, rfl, hT, hN⟩, hB4⟩
  have HU4 := Lib.hid hT; have HQ4 := Lib.hid hN
  have HX4 := Lib.hid (HX3.out.same hB4)
  have HT4 := Lib.hid (HT3.out.same hB4); have HN4 := Lib.hid (HN3.out.below hB4)
  have HBK4 := Lib.hid (HBK3.out.same hB4)
  have HB4 := Lib.hid (HB3.out.trans (hB4.mono HB3.out.size))
  clear hT hN hB4 HX3 HT3 HN3 HBK3 HB3 HRP
  unfold hV
  go_upto_region 4 with fail
  obtain ⟨w5, hw5⟩ : ∃ w5, w5 = w4.alloc (.cells #[.int .i64 H.S, .int .i64 H.F, .int .i64 H.I, .int .i64 H.N, .int .i64 H.D, .slice ka H.m kc] 27) := ⟨_, rfl⟩
  rw [← hw5]
  have hb5 : Below w4.heap.size w4 w5 := by rw [hw5]; exact (Below.refl _ w4).alloc (Nat.le_refl _) _
  have HY5 := Lib.hid (show HAt w5 w4.heap.size H ka kc by rw [hw5]; exact heap_alloc_new _ _)
  have HX5 := Lib.hid (HX4.out.same hb5)
  have HT5 := Lib.hid (HT4.out.same hb5); have HN5 := Lib.hid (HN4.out.below hb5)
  have HU5 := Lib.hid (HU4.out.same hb5); have HQ5 := Lib.hid (HQ4.out.below hb5)
  have HBK5 := Lib.hid (HBK4.out.same hb5)
  have HB5 := Lib.hid (HB4.out.trans (hb5.mono HB4.out.size))
  generalize w4.heap.size = w4s at *
  clear hw5 hb5 HX4 HT4 HN4 HU4 HQ4 HBK4 HB4
  obtain ⟨c0, c1, c2, c3, c4, c5⟩ := HX5.out.c
  obtain ⟨d0, d1, d2, d3, d4, d5⟩ := HY5.out.c
  have HSH := Lib.hid (sameHead_any H H ha ka hc kc (by have := HHM.out; omega) (by have := HHM.out; omega) w5 HT5.out HU5.out)
  unfold hV at HSH
  go_wp2_with fail
  clear c0 c1 c2 c3 c4 c5 d0 d1 d2 d3 d4 d5
  refine HSH.out.mono ?_
  rintro e w6 ⟨⟨v, rfl, hv⟩, hB6⟩
  obtain rfl : v = true := hv.2 ⟨⟨rfl, rfl, rfl, rfl, rfl, fun _ _ => ⟨rfl, rfl⟩⟩, rfl⟩
  have HN6 := Lib.hid (HN5.out.below hB6); have HQ6 := Lib.hid (HQ5.out.below hB6)
  have HBK6 := Lib.hid (HBK5.out.same hB6)
  have HB6 := Lib.hid (HB5.out.trans (hB6.mono HB5.out.size))
  clear hv hB6 HSH HX5 HY5 HT5 HU5 HN5 HQ5 HBK5 HB5
  go_wp2_with fail
  refine (same_any pa qa M pc qc F (by have := HMB.out; omega) w6 HN6.out.sl HQ6.out.sl).mono ?_
  rintro e w7 ⟨rfl, q7, hq7⟩
  have hB7 : Below w6.heap.size w6 w7 := by rw [hq7]; exact below_dr (Below.refl _ _) q7
  have HN7 := Lib.hid (HN6.out.below hB7)
  have HBK7 := Lib.hid (HBK6.out.same hB7)
  have HB7 := Lib.hid (HB6.out.trans (hB7.mono HB6.out.size))
  clear hq7 hB7 HN6 HQ6 HBK6 HB6
  go_wp2_with fail
  refine (keptS_any I a n c f w7 (HS.out.same HB7.out) HBK7.out (by have := HN.out; omega)).mono ?_
  rintro e w8 ⟨rfl, q8, hq8⟩
  have hB8 : Below w7.heap.size w7 w8 := by rw [hq8]; exact below_dr (Below.refl _ _) q8
  have HN8 := Lib.hid (HN7.out.below hB8)
  have HBK8 := Lib.hid (HBK7.out.same hB8)
  have HB8 := Lib.hid (HB7.out.trans (hB8.mono HB7.out.size))
  clear hq8 hB8 HN7 HBK7 HB7
  go_wp2_with fail
  have HAP := Lib.hid (apart_pair w.heap.size (some ⟨I, 0, none⟩) pa n M (n + 12) pc f F w8 HB8.out.size (HBK8.out.bl.oz (by omega) (Nat.le_refl _) (by unfold maxLen; have := HN.out; omega) (by have := HI.out; omega)) (HN8.out.mono HB1.out.size).oz (by
    rcases HN8.out.ow with ⟨e0, _⟩ | ⟨g', vs, e0, hg', _⟩
    · rw [e0]; simp [Oz.blk]
    · rw [e0]; simp [Oz.blk]; have := HSZ.out; omega) (by have := HN.out; omega) (by have := HMB.out; omega))
  refine HAP.out.mono ?_
  rintro e w9 ⟨rfl, hB9⟩
  have HB9 := Lib.hid (HB8.out.trans hB9)
  clear hB9 HAP
  go_wp2
  go_ret
  exact ⟨rfl, HB9.out⟩
set_option maxHeartbeats 2000000 in
theorem headParses_any (a : Option Addr) (n c : Nat) (f : Nat → Nat) (w : World) (hS : Sl w a n c f) :
    Calls Tryz.prog 7 #[.slice a n c] w fun e w' => e = .returned (.bool true) ∧ Below w.heap.size w w' := by
  have HS := Lib.hid hS
  clear hS
  go_enter Tryz.func7, Tryz.ntmps7
  by_cases hbig : n ≤ 20000
  rotate_left
  · have j1 : (20000 : Int) < (n : Int) := by omega
    go_wp2_with fail
    refine (awake14_any w).mono ?_
    rintro e w1 ⟨rfl, hB1⟩
    have HB1 := Lib.hid hB1
    clear hB1
    go_wp2
    go_ret
    exact ⟨rfl, HB1.out⟩
  have j1 : ¬ (20000 : Int) < (n : Int) := by omega
  have HN := Lib.hid hbig
  clear hbig
  go_wp2_with fail
  clear j1
  refine (rseal_any a n c f (by have := HN.out; omega) w HS.out).mono ?_
  rintro e w1 ⟨sa, sc, rfl, hN1, hB1⟩
  have HSL := Lib.hid hN1.sl; have HB1 := Lib.hid hB1
  clear hN1 hB1
  go_wp2_with fail
  refine (parses_any a n c f (by have := HN.out; omega) w1 (HS.out.same HB1.out)).mono ?_
  rintro e w2 ⟨rfl, hB2⟩
  have HSL2 := Lib.hid (HSL.out.same hB2)
  have HB2 := Lib.hid (HB1.out.trans (hB2.mono HB1.out.size))
  clear hB2 HSL HB1
  go_wp2_with fail
  refine (parses_any sa (n + 4) sc _ (by have := HN.out; omega) w2 HSL2.out).mono ?_
  rintro e w3 ⟨rfl, hB3⟩
  have HB3 := Lib.hid (HB2.out.trans (hB3.mono HB2.out.size))
  clear hB3 HSL2 HB2
  go_wp2_with fail
  refine (awake14_any w3).mono ?_
  rintro e w4 ⟨rfl, hB4⟩
  have HB4 := Lib.hid (HB3.out.trans (hB4.mono HB3.out.size))
  clear hB4 HB3
  go_wp2
  go_ret
  exact ⟨rfl, HB4.out⟩
end Go.Proofs.YtjlmajopfeplpaaGreat.He
