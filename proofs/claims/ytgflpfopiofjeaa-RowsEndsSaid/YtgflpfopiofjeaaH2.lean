import Derived.Test.YtgflpfopiofjeaaH1
namespace Go.Proofs.Ytgflpfopiofjeaa
open Go.RowKit Go.Shelf

/-- a matrix in memory of its own, or none, without rows. -/
def Go_ (w : World) (B : Nat) (a : Option Addr) (n cap : Nat) (b l c : Nat → Nat) (f : Nat → Nat → Nat) : Prop := Mt.Bm f ∧ ((a = none ∧ n = 0 ∧ cap = 0) ∨ ∃ G, a = some ⟨G, 0, none⟩ ∧ Gr w B G n cap b l c f)
section
variable {w w' : World} {B n cap : Nat} {a : Option Addr} {b l c : Nat → Nat} {f : Nat → Nat → Nat}
theorem Go_.pos (h : Go_ w B a n cap b l c f) (hn : 0 < n) : ∃ G, a = some ⟨G, 0, none⟩ ∧ Gr w B G n cap b l c f := by
  rcases h.2 with h | h
  · omega
  · exact h
theorem Go_.same (h : Go_ w B a n cap b l c f) (hB : Below w.heap.size w w') : Go_ w' B a n cap b l c f := ⟨h.1, by
  rcases h.2 with h | ⟨G, e, h⟩
  · exact Or.inl h
  · exact Or.inr ⟨G, e, h.same hB⟩⟩
theorem Go_.rd (h : Go_ w B a n cap b l c f) : Rd w a n cap (fun i => some ⟨b i, 0, none⟩) l c f := by
  rcases h with ⟨hb, ⟨rfl, rfl, rfl⟩ | ⟨G, rfl, h⟩⟩
  · exact ⟨Nat.le_refl _, by unfold maxLen; omega, hb, fun _ => ⟨rfl, rfl⟩, fun _ e => (by cases e), fun _ e => (by cases e), fun i hi => absurd hi (Nat.not_lt_zero i)⟩
  · exact h.rd
theorem Go_.mono (h : Go_ w B a n cap b l c f) {B' : Nat} (hB : B' ≤ B) : Go_ w B' a n cap b l c f := ⟨h.1, by
  rcases h.2 with h | ⟨G, e, h⟩
  · exact Or.inl h
  · exact Or.inr ⟨G, e, h.mono hB⟩⟩
theorem Gr.go {G : Nat} (h : Gr w B G n cap b l c f) : Go_ w B (some ⟨G, 0, none⟩) n cap b l c f := ⟨h.bm, Or.inr ⟨G, rfl, h⟩⟩
theorem go_none (w : World) (B : Nat) (b l c : Nat → Nat) : Go_ w B none 0 0 b l c (fun _ _ => 0) := ⟨fun _ _ => (by omega : 0 < 256), Or.inl ⟨rfl, rfl, rfl⟩⟩
end

/-- rows that are put into a list, one behind the other. -/
structure Pr (w : World) (B : Nat) (a : Option Addr) (k cap : Nat) (b l c : Nat → Nat) (f : Nat → Nat → Nat) : Prop where
  own : w.ownsRow B 23 1 (.slice a k cap) k ((List.range k).map fun i => Value.slice (some ⟨b i, 0, none⟩) (l i) (c i))
  row : ∀ i, i < k → Bl w (b i) (l i) (c i) (f i)
  lc : ∀ i, i < k → l i ≤ c i ∧ c i ≤ maxLen
  lo : ∀ i, i < k → B ≤ b i
  inj : ∀ i j, i < k → j < k → b i = b j → i = j
  bm : Mt.Bm f
  up : ∀ i, i < k → Pf.Up (f i) (l i)
section
variable {w w' : World} {B k cap : Nat} {a : Option Addr} {b l c : Nat → Nat} {f : Nat → Nat → Nat}
theorem own_ne_bl {w : World} {B g n cap x m cp : Nat} {xs : List Value} {h : Nat → Nat} (ho : w.ownsRow B 23 1 (.slice (some ⟨g, 0, none⟩) n cap) n xs) (hb : Bl w x m cp h) : x ≠ g := by
  rintro rfl
  obtain ⟨h1, h2 | ⟨g', cap', cur, e, _, hh, _⟩⟩ := ho
  · exact absurd h2.1 (by simp)
  · simp only [Value.slice.injEq, Option.some.injEq, Addr.mk.injEq, and_true, true_and] at e
    obtain ⟨rfl, rfl⟩ := e
    obtain ⟨vs, h1, _⟩ := hb
    rw [hh] at h1
    injection h1 with h1
    injection h1 with _ h2
    exact absurd h2 (by decide)
theorem Pr.go (h : Pr w B a k cap b l c f) : Go_ w B a k cap b l c f := by
  refine ⟨h.bm, ?_⟩
  obtain ⟨h1, ⟨e, h2⟩ | ⟨g', cap', cur, e, hg, hh, hnc, hcm, hs, ht⟩⟩ := h.own
  · left
    simp only [Value.slice.injEq] at e
    exact e
  · simp only [Value.slice.injEq, true_and] at e
    obtain ⟨rfl, rfl⟩ := e
    refine Or.inr ⟨g', rfl, ⟨cur, hh, by simpa using hs, fun i hi => ?_⟩, h.row, h.lc, ⟨hnc, hcm⟩, ⟨hg, h.lo⟩, h.inj, h.bm, h.up⟩
    have : (cur.toList.take (k * 1))[i]? = some (.slice (some ⟨b i, 0, none⟩) (l i) (c i)) := by rw [ht]; simp [hi]
    rw [List.getElem?_take, if_pos (by omega), Array.getElem?_toList] at this
    exact this
theorem pr_none (w : World) (B : Nat) (b l c : Nat → Nat) : Pr w B none 0 0 b l c (fun _ _ => 0) :=
  ⟨World.ownsRow_nil _ _ _ _, fun i hi => absurd hi (Nat.not_lt_zero i), fun i hi => absurd hi (Nat.not_lt_zero i), fun i hi => absurd hi (Nat.not_lt_zero i), fun i _ hi => absurd hi (Nat.not_lt_zero i), fun _ _ => (by omega : 0 < 256), fun i hi => absurd hi (Nat.not_lt_zero i)⟩
/-- one row more: made in w1, put in w2. -/
theorem Pr.step {w1 w2 : World} {g ll cc G' cap' : Nat} {x : Nat → Nat} (h : Pr w B a k cap b l c f) (hW : Below w.heap.size w w1) (hx : Bl w1 g ll cc x) (hg : w.heap.size ≤ g) (hB : B ≤ w.heap.size) (h1 : ll ≤ cc ∧ cc ≤ maxLen) (hy : Pf.By x) (hu : Pf.Up x ll)
    (hown : w2.ownsRow B 23 1 (.slice (some ⟨G', 0, none⟩) (k + 1) cap') (k + 1) (((List.range k).map fun i => Value.slice (some ⟨b i, 0, none⟩) (l i) (c i)) ++ [.slice (some ⟨g, 0, none⟩) ll cc]))
    (hc : a = some ⟨G', 0, none⟩ ∧ cap' = cap ∧ w1.grownBy w2 (some G') ∨ w1.heap.size ≤ G' ∧ w1.grownBy w2 none) :
    Pr w2 B (some ⟨G', 0, none⟩) (k + 1) cap' (fun i => if i = k then g else b i) (fun i => if i = k then ll else l i) (fun i => if i = k then cc else c i) (fun i j => if i = k then x j else f i j) := by
  have hlt : ∀ i, i < k → b i < w.heap.size := fun i hi => (h.row i hi).lt
  have hkeep : ∀ y m cp (z : Nat → Nat), Bl w1 y m cp z → Bl w2 y m cp z := fun y m cp z hz => by
    refine hz.kept ?_
    rcases hc with ⟨e, _, hgr⟩ | ⟨hG, hgr⟩
    · refine hgr.block y hz.lt (fun e2 => ?_)
      injection e2 with e2
      subst e
      exact own_ne_bl (own_below h.own hW) hz e2
    · exact hgr.block y hz.lt (by simp)
  refine ⟨?_, fun i hi => ?_, fun i hi => ?_, fun i hi => ?_, fun i j hi hj e => ?_, fun i j => ?_, fun i hi => ?_⟩
  · rw [List.range_succ, List.map_append]
    have e1 : ((List.range k).map fun i => Value.slice (some ⟨if i = k then g else b i, 0, none⟩) (if i = k then ll else l i) (if i = k then cc else c i)) = (List.range k).map fun i => Value.slice (some ⟨b i, 0, none⟩) (l i) (c i) :=
      List.map_congr_left fun i hi => by
        have := List.mem_range.1 hi
        rw [if_neg (by omega), if_neg (by omega), if_neg (by omega)]
    rw [e1]
    simp only [List.map_cons, List.map_nil, if_true]
    exact hown
  · by_cases e : i = k
    · subst e
      simp only [if_true]
      exact hkeep _ _ _ _ hx
    · simp only [if_neg e]
      exact hkeep _ _ _ _ ((h.row i (by omega)).kept (hW.block _ (hlt i (by omega))))
  · by_cases e : i = k
    · subst e; simp only [if_true]; exact h1
    · simp only [if_neg e]; exact h.lc i (by omega)
  · by_cases e : i = k
    · subst e; simp only [if_true]; omega
    · simp only [if_neg e]; exact h.lo i (by omega)
  · have e' : (if i = k then g else b i) = (if j = k then g else b j) := e
    by_cases e1 : i = k <;> by_cases e2 : j = k
    · omega
    · rw [if_pos e1, if_neg e2] at e'; have := hlt j (by omega); omega
    · rw [if_neg e1, if_pos e2] at e'; have := hlt i (by omega); omega
    · rw [if_neg e1, if_neg e2] at e'; exact h.inj i j (by omega) (by omega) e'
  · show (if i = k then x j else f i j) < 256
    split
    · exact hy j
    · exact h.bm i j
  · by_cases e : i = k
    · subst e; simp only [if_true]; exact hu
    · simp only [if_neg e]; exact h.up i (by omega)
end
theorem Pr.congr {w : World} {B k cap : Nat} {a : Option Addr} {b l c l' c' : Nat → Nat} {f f' : Nat → Nat → Nat} (h : Pr w B a k cap b l c f) (hl : ∀ i, i < k → l i = l' i) (hc : ∀ i, i < k → c i = c' i) (hf : Mt.Bm f') (e : ∀ i j, i < k → f i j = f' i j) : Pr w B a k cap b l' c' f' := by
  have e1 : ((List.range k).map fun i => Value.slice (some ⟨b i, 0, none⟩) (l i) (c i)) = (List.range k).map fun i => Value.slice (some ⟨b i, 0, none⟩) (l' i) (c' i) :=
    List.map_congr_left fun i hi => by
      have := List.mem_range.1 hi
      rw [hl i this, hc i this]
  refine ⟨e1 ▸ h.own, fun i hi => ?_, fun i hi => by rw [← hl i hi, ← hc i hi]; exact h.lc i hi, h.lo, h.inj, hf, fun i hi j hj => ?_⟩
  · rw [← hl i hi, ← hc i hi]; exact (h.row i hi).congr fun j _ => e i j hi
  · rw [← e i j hi]; exact h.up i hi j (by rw [hl i hi]; exact hj)

theorem below_apn {B g cap cap' : Nat} {a : Option Addr} {w0 w w' : World} (hB : Below B w0 w) (hw : B ≤ w.heap.size) (hc : a = some ⟨g, 0, none⟩ ∧ cap' = cap ∧ w.grownBy w' (some g) ∨ w.heap.size ≤ g ∧ w.grownBy w' none) (ha : ∀ g, a = some ⟨g, 0, none⟩ → B ≤ g) : Below B w0 w' := by
  rcases hc with ⟨e, _, hg⟩ | ⟨_, hg⟩
  · exact hB.grown hg hw (fun k e2 => by cases e2; exact ha g e)
  · exact hB.grown hg hw (fun k e2 => by cases e2)

/-- what a call answers that hands out a matrix of so many rows and columns, made row by row. -/
def Puts (w : World) (h wi : Nat) (f : Nat → Nat → Nat) (e : Ending) (w' : World) : Prop :=
  ∃ a cap b, e = .returned (.slice a h cap) ∧ Go_ w' w.heap.size a h cap b (fun _ => wi) (fun _ => wi) f ∧ Below w.heap.size w w'

set_option maxHeartbeats 2000000 in
set_option maxRecDepth 100000 in
theorem zeros_any (h wi : Nat) (h1 : h ≤ 1000000) (h2 : wi ≤ 1000000) (w : World) :
    Calls Try.prog 35 #[.int .i64 (h : Nat), .int .i64 (wi : Nat)] w (Puts w h wi (fun _ _ => 0)) := by
  have hmk := hmk8 wi (by omega)
  obtain ⟨i0, hi', hz0', hz1', hz2'⟩ := info_parts Try.infoRow
  have HI := Lib.hid hi'; have HZ0 := Lib.hid hz0'; have HZ1 := Lib.hid hz1'; have HZ2 := Lib.hid hz2'
  clear hi' hz0' hz1' hz2'
  have HP0 := Lib.hid (pr_none w w.heap.size (fun _ => 0) (fun _ => wi) (fun _ => wi))
  have HB0 := Lib.hid (Below.refl w.heap.size w)
  go_enter Try.func35, Try.ntmps35
  go_wp2_with fail
  go_loopw [5, 6] (fun v i wr => ∃ (k : Nat) (pa : Option Addr) (pc : Nat) (b : Nat → Nat), k ≤ h ∧ i = .int .i64 k ∧ v = .slice pa k pc ∧ Pr wr w.heap.size pa k pc b (fun _ => wi) (fun _ => wi) (fun _ _ => 0) ∧ Below w.heap.size w wr) (fun _ i _ => h - (intOf i).toNat)
  case atStart => exact ⟨0, none, 0, fun _ => 0, by omega, rfl, rfl, HP0.out, HB0.out⟩
  case round =>
    rename_i wr
    obtain ⟨k, pa, pc, b, hk, rfl, rfl, hP, hB⟩ := hrel
    have HP := Lib.hid hP; have HB := Lib.hid hB
    clear hP hB
    by_cases hkh : k < h
    · have i1 : (k : Int) < (h : Int) := by omega
      have HBL := Lib.hid (bl_made wr wi)
      have hb1 : Below wr.heap.size wr (wr.alloc (.cells (madeCells #[.int .u8 0] wi) 5)) := (Below.refl _ _).alloc (Nat.le_refl _) _
      have HB1 := Lib.hid hb1
      have hs1 : (wr.alloc (.cells (madeCells #[.int .u8 0] wi) 5)).heap.size = wr.heap.size + 1 := by simp
      have HS1 := Lib.hid hs1
      clear hb1 hs1
      have hw := HB.out.size
      go_wp2_with ((refine wpList_append_bag _ rfl (.tmp 12) (.tmp 15) 22 rfl w.heap.size 23 i0 (.slice none 0 0) 24 Try.underlying22 HI.out HZ0.out HZ1.out HZ2.out rfl pa k pc ((List.range k).map fun i => Value.slice (some ⟨b i, 0, none⟩) wi wi) rfl (own_below (own_below HP.out.own HB1.out) ((Below.refl _ _).alloc (Nat.le_refl _) _)) ⟨wr.heap.size + 1, 0, none⟩ 1 1 [.slice (some ⟨wr.heap.size, 0, none⟩) wi wi] rfl rfl (by have := cell_new1 (wr.alloc (.cells (madeCells #[.int .u8 0] wi) 5)) (.slice (some ⟨wr.heap.size, 0, none⟩) wi wi) 23; rw [HS1.out] at this; exact this) (fun u hu => by rw [List.mem_singleton.1 hu]; rfl) (by omega) (by unfold maxLen; omega) (by omega) (by simp; omega) ?_); intro g' cap' w2 hown hc hlt; have HO := Lib.hid hown; have HC := Lib.hid hc; clear hown hc hlt)
      have hb2 : Below wr.heap.size wr ((wr.alloc (.cells (madeCells #[.int .u8 0] wi) 5)).alloc (.cells #[.slice (some ⟨wr.heap.size, 0, none⟩) wi wi] 23)) := HB1.out.alloc (by rw [HS1.out]; omega) _
      have hst := HP.out.step hb2 (HBL.out.kept (Below.heap_alloc _ _ _ (by rw [HS1.out]; omega))) (Nat.le_refl _) hw ⟨Nat.le_refl _, by unfold maxLen; omega⟩ zero_by (zero_up wi) HO.out HC.out
      have HST := Lib.hid (hst.congr (l' := fun _ => wi) (c' := fun _ => wi) (f' := fun _ _ => 0) (fun i _ => by split <;> rfl) (fun i _ => by split <;> rfl) (fun _ _ => (by omega : 0 < 256)) (fun i j _ => by split <;> rfl))
      have HB2 := Lib.hid (below_apn (HB.out.trans (hb2.mono hw)) (by have := hb2.size; omega) HC.out (fun g e => by subst e; exact (HP.out.own.lt g rfl).1))
      clear hb2 hst
      go_wp2_with fail
      go_roundw
      case rel => exact ⟨k + 1, _, _, _, by omega, by go_num, rfl, HST.out, HB2.out⟩
      case measure => simp [intOf]; omega
    · obtain rfl : k = h := by omega
      go_wp2
      go_ret
      exact ⟨pa, pc, b, rfl, HP.out.go, HB.out⟩
end Go.Proofs.Ytgflpfopiofjeaa
