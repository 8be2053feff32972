import Derived.WalkKit
import Derived.WalkSpells
import Derived.WalkLawsBesides
import Derived.Deep.WholeRow
import Derived.Deep.RegionWith
import Derived.Deep.RegionLaw
import Derived.Deep.RegionHeld3
import Derived.BigFrame
import Derived.Lib.Hide
import Derived.OpenShut
import Derived.Deep.QuietTactic
import Derived.BigQuiet
import Derived.Test.YtfiafccfkfillaaMg1
import Derived.Test.YtfiafccfkfillaaMg22
namespace Go.Proofs.Ytfiafccfkfillaa
open Go.RowKit Go.Shelf

/-- what a shelf's deeds leave as it was. -/
structure But (s b : Nat) (w w' : World) : Prop where
  os : w'.os = w.os
  tape : w'.tape = w.tape
  output : w'.output = w.output
  size : w.heap.size ≤ w'.heap.size
  block : ∀ k, k < w.heap.size → k ≠ s → k ≠ b → w'.heap[k]? = w.heap[k]?
theorem But.refl (s b : Nat) (w : World) : But s b w w := ⟨rfl, rfl, rfl, Nat.le_refl _, fun _ _ _ _ => rfl⟩
theorem But.trans {s b : Nat} {w w' w'' : World} (h : But s b w w') (k : But s b w' w'') : But s b w w'' :=
  ⟨k.os.trans h.os, k.tape.trans h.tape, k.output.trans h.output, Nat.le_trans h.size k.size, fun i h1 h2 h3 => (k.block i (Nat.lt_of_lt_of_le h1 h.size) h2 h3).trans (h.block i h1 h2 h3)⟩
theorem But.of {s b : Nat} {w w' : World} (h : Below w.heap.size w w') : But s b w w' := ⟨h.os, h.tape, h.output, h.size, fun k hk _ _ => h.block k hk⟩
theorem But.below {s b B : Nat} {w w' : World} (h : But s b w w') (h0 : B ≤ w.heap.size) (h1 : B ≤ s) (h2 : B ≤ b) : Below B w w' := ⟨h.os, h.tape, h.output, h.size, fun k hk => h.block k (by omega) (by omega) (by omega)⟩
theorem But.turned {s b : Nat} {w w' : World} (h : w.mapTurned w' b) : But s b w w' := by
  have g := h.grown
  exact ⟨g.os, g.tape, g.output, g.size, fun k hk _ hb => g.block k hk (fun e => hb (by cases e; rfl))⟩

/-- a shelf: its block, its map. -/
structure Sh (w : World) (s b room : Nat) (hi mi tp : Int) (L : List Lit) (T : Lit → Tv) : Prop where
  blk : w.heap[s]? = some (.cells #[.int .i64 (room : Nat), .map (some b), .int .i64 hi, .int .i64 mi] 85 (0, 0))
  map : Mp w b L T
  inc : L.Pairwise fun x y => (T x).2.2.2 < (T y).2.2.2
  top : ∀ x, x ∈ L → 0 ≤ (T x).2.2.2 ∧ (T x).2.2.2 ≤ tp
  room : L.length ≤ room ∧ 1 ≤ room ∧ room ≤ 64
section
variable {w w' : World} {s b room : Nat} {hi mi tp : Int} {L : List Lit} {T : Lit → Tv}
theorem Sh.ne (h : Sh w s b room hi mi tp L T) : s ≠ b := fun e => by
  obtain ⟨es, clock, hb⟩ := h.map.blk
  have := h.blk
  rw [e, hb] at this
  cases this
theorem Sh.lt (h : Sh w s b room hi mi tp L T) : s < w.heap.size := (Array.getElem?_eq_some_iff.1 h.blk).1
theorem Sh.same (h : Sh w s b room hi mi tp L T) (hB : Below w.heap.size w w') : Sh w' s b room hi mi tp L T := ⟨(hB.block s h.lt).trans h.blk, h.map.kept (hB.block b h.map.lt), h.inc, h.top, h.room⟩
theorem Sh.c0 (h : Sh w s b room hi mi tp L T) : w.cell? ⟨s, 0, none⟩ = some (.int .i64 (room : Nat)) := by rw [cell_of_row w s 0 _ _ _ h.blk]; rfl
theorem Sh.c1 (h : Sh w s b room hi mi tp L T) : w.cell? ⟨s, 1, none⟩ = some (.map (some b)) := by rw [cell_of_row w s 1 _ _ _ h.blk]; rfl
theorem Sh.c2 (h : Sh w s b room hi mi tp L T) : w.cell? ⟨s, 2, none⟩ = some (.int .i64 hi) := by rw [cell_of_row w s 2 _ _ _ h.blk]; rfl
theorem Sh.c3 (h : Sh w s b room hi mi tp L T) : w.cell? ⟨s, 3, none⟩ = some (.int .i64 mi) := by rw [cell_of_row w s 3 _ _ _ h.blk]; rfl
theorem Sh.free (h : Sh w s b room hi mi tp L T) (i : Nat) : w.frozen? ⟨s, i, none⟩ = false := frozen_of_row w s i _ _ h.blk
theorem Sh.topup (h : Sh w s b room hi mi tp L T) {tp' : Int} (ht : tp ≤ tp') : Sh w s b room hi mi tp' L T := ⟨h.blk, h.map, h.inc, fun x hx => ⟨(h.top x hx).1, Int.le_trans (h.top x hx).2 ht⟩, h.room⟩
theorem Sh.setHi (h : Sh w s b room hi mi tp L T) (v : Int) : Sh (w.setCell ⟨s, 2, none⟩ (.int .i64 v)) s b room v mi tp L T :=
  ⟨by rw [heap_setCell_same w s 2 _ _ _ h.blk]; rfl, h.map.kept (heap_setCell_other _ _ _ _ h.ne.symm), h.inc, h.top, h.room⟩
theorem Sh.setMi (h : Sh w s b room hi mi tp L T) (v : Int) : Sh (w.setCell ⟨s, 3, none⟩ (.int .i64 v)) s b room hi v tp L T :=
  ⟨by rw [heap_setCell_same w s 3 _ _ _ h.blk]; rfl, h.map.kept (heap_setCell_other _ _ _ _ h.ne.symm), h.inc, h.top, h.room⟩
theorem but_set {s b i : Nat} {v : Value} (w : World) : But s b w (w.setCell ⟨s, i, none⟩ v) := ⟨rfl, rfl, rfl, by simp, fun k _ hs _ => heap_setCell_other _ _ _ _ hs⟩
end

/-- a key that lies in a block. -/
theorem load_key {w : World} {g : Nat} {K : Int} {f : Nat → Int} (h : w.heap[g]? = some (.cells (kc K f) 59 (0, 0))) : (Instr.loadAt 59 (.pointer (some ⟨g, 0, none⟩))).run Try.prog w = .ok (.agg (kc K f)) w := by
  simp only [Instr.loadAt, Instr.sureAddr, Sem.run_bind, Sem.run_pure, Result.andThen_ok]
  exact run_loadVar_row w g _ _ (kc K f) (0, 0) _ h Try.underlying59 rfl (by rw [kc_size]; kernel_rfl)

theorem cells_key {w : World} {g : Nat} {K : Int} {f : Nat → Int} (h : w.heap[g]? = some (.cells (kc K f) 59 (0, 0))) : (loadCellsFrom ⟨g, 0, none⟩ 0 256 #[]).run Try.prog w = .ok (kc K f) w := by
  have := run_loadCells_list (P := Try.prog) w ⟨g, 0, none⟩ (kcl K f) (fun j v hv => by
    have hadd : (⟨g, 0, none⟩ : Addr).add j = ⟨g, j, none⟩ := by unfold Addr.add; split <;> simp_all
    rw [hadd, cell_of_row w g j _ _ _ h]
    simpa [kc] using hv)
  rw [kcl_len] at this
  exact this

set_option maxHeartbeats 400000 in
theorem kept_any' (s b room : Nat) (hi mi tp : Int) (L : List Lit) (T : Lit → Tv) (w : World) (h : Sh w s b room hi mi tp L T) :
    Calls Try.prog 33 #[.pointer (some ⟨s, 0, none⟩)] w fun e w' => e = .returned (.int .i64 (L.length : Nat)) ∧ w' = w := by
  have c1 := h.c1
  obtain ⟨D, ho, hd⟩ := h.map
  have hsz := hd.size
  have HSZ := Lib.hid hsz; clear hsz hd h
  go_enter Try.func33, Try.ntmps33
  go_wp2_with (at_len; refine wpList_len_own _ rfl _ 83 rfl 59 110 Try.underlying83 _ b L.length D rfl ho ?_; rw [HSZ.out])
  go_ret
  exact ⟨rfl, rfl⟩

/-- the load of a key, and the look at the map, in a region that draws. -/
theorem yields_key {ops : Array Oper} {S : World → Prop} {a : Act} {dst : Option Tmp} {typ : TypeId} {pos : String} {aft : Array Edge} {x : Operand} {g : Nat} {K : Int} {f : Nat → Int} (hx : a.eval x = .pointer (some ⟨g, 0, none⟩)) (hS : ∀ W, S W → W.heap[g]? = some (.cells (kc K f) 59 (0, 0))) :
    YieldsIf Try.prog ops S ⟨dst, .load 59 x, typ, pos, aft, none⟩ (.agg (kc K f)) a := Or.inl ⟨by simp [Region.wanted], fun W hW => by
  unfold execOp
  simp only [hx]
  rw [Sem.run_bind, load_key (hS W hW)]
  rfl⟩
theorem yields_look {ops : Array Oper} {S : World → Prop} {a : Act} {dst : Option Tmp} {typ : TypeId} {pos : String} {aft : Array Edge} {m x : Operand} {t : TypeId} {mv key v : Value} (hm : a.eval m = mv) (hx : a.eval x = key) (hS : ∀ W, S W → (Instr.lookup t mv key true).run Try.prog W = .ok v W) :
    YieldsIf Try.prog ops S ⟨dst, .lookup t m x true, typ, pos, aft, none⟩ v a := Or.inl ⟨by simp [Region.wanted], fun W hW => by
  unfold execOp
  simp only [hx, hm]
  rw [Sem.run_bind, hS W hW]
  rfl⟩

def HasSays (L : List Lit) (k : Lit) (w : World) (e : Ending) (w' : World) : Prop := ∃ v : Bool, e = .returned (.bool v) ∧ (v = true ↔ k ∈ L) ∧ Below w.heap.size w w'
set_option maxHeartbeats 1000000 in
set_option maxRecDepth 100000 in
theorem shas_any (s b room : Nat) (hi mi tp : Int) (L : List Lit) (T : Lit → Tv) (K : Int) (f : Nat → Int) (hK : KeyOk K f) (w : World) (h : Sh w s b room hi mi tp L T) :
    Calls Try.prog 35 #[.pointer (some ⟨s, 0, none⟩), .agg (kc K f)] w (HasSays L (klOf K f) w) := by
  have hkey := klOf_eq hK
  obtain ⟨w1, hw1⟩ : ∃ w1, w1 = w.alloc (.cells (kc K f) 59) := ⟨_, rfl⟩
  have hal : Below w.heap.size w w1 := by rw [hw1]; exact (Below.refl _ w).alloc (Nat.le_refl _) _
  have hk1 : w1.heap[w.heap.size]? = some (.cells (kc K f) 59 (0, 0)) := by rw [hw1]; exact heap_alloc_new _ _
  have hs1 := h.same hal
  have HW1 := Lib.hid hw1; have HAL := Lib.hid hal
  have hsz : w.heap.size < w1.heap.size := (Array.getElem?_eq_some_iff.1 hk1).1
  have HC := Lib.hid (fun W (hW : Below w1.heap.size w1 W) => (hs1.same hW).c1)
  have HL := Lib.hid (fun W (hW : Below w1.heap.size w1 W) => ((hW.block _ hsz).trans hk1))
  have HS1 := Lib.hid hs1
  by_cases hm : klOf K f ∈ L
  · have HQ := Lib.hid (fun W (hW : Below w1.heap.size w1 W) => (hs1.same hW).map.look_yes hkey hm)
    have HM := Lib.hid hm
    unfold sv at HQ
    clear h hkey hw1 hal hk1 hs1 hm
    go_enter Try.func35, Try.ntmps35
    go_wp2_with fail
    rw [← HW1.out]
    refine wp_region_held_drew (S := fun W => Below w1.heap.size w1 W) (by kernel_rfl) (below_dr (Below.refl _ w1) 1) (fun hHeld => ?_)
    refine wpAnyH_take (i := 0) (oi := ⟨some 8, .move (.tmp 0), _, _, _, none⟩) (v := (.pointer (some ⟨s, 0, none⟩))) rfl (by kernel_rfl) (by kernel_rfl) (by kernel_rfl) (fun _ _ _ h => h) (Or.inl ⟨by rfl, fun W hW => ?_⟩) (by assumption) ?_
    · go_simp
    simp only [Act.put, List.setIfInBounds_toArray, List.set_cons_zero, List.set_cons_succ]
    refine wpAnyH_take (i := 1) (oi := ⟨some 9, .nilCheck (.tmp 8), _, _, _, none⟩) (v := (.pointer (some ⟨s, 0, none⟩))) rfl (by kernel_rfl) (by kernel_rfl) (by kernel_rfl) (fun _ _ _ h => h) (Or.inl ⟨by rfl, fun W hW => ?_⟩) (by assumption) ?_
    · go_simp
    simp only [Act.put, List.setIfInBounds_toArray, List.set_cons_zero, List.set_cons_succ]
    refine wpAnyH_take (i := 2) (oi := ⟨some 10, .fieldAddr 85 (.tmp 9) 1, _, _, _, none⟩) (v := (.pointer (some ⟨s, 1, none⟩))) rfl (by kernel_rfl) (by kernel_rfl) (by kernel_rfl) (fun _ _ _ h => h) (Or.inl ⟨by rfl, fun W hW => ?_⟩) (by assumption) ?_
    · go_simp
    simp only [Act.put, List.setIfInBounds_toArray, List.set_cons_zero, List.set_cons_succ]
    refine wpAnyH_take (i := 3) (oi := ⟨some 11, .load 83 (.tmp 10), _, _, _, none⟩) (v := (.map (some b))) rfl (by kernel_rfl) (by kernel_rfl) (by kernel_rfl) (fun _ _ _ h => h) (Or.inl ⟨by rfl, fun W hW => ?_⟩) (by assumption) ?_
    · have := HC.out W hW; go_simp
    simp only [Act.put, List.setIfInBounds_toArray, List.set_cons_zero, List.set_cons_succ]
    refine wpAnyH_take (i := 4) (oi := ⟨some 12, .load 59 (.tmp 3), _, _, _, none⟩) (v := (.agg (kc K f))) rfl (by kernel_rfl) (by kernel_rfl) (by kernel_rfl) (fun _ _ _ h => h) (yields_key (g := w.heap.size) (by rfl) (fun W hW => HL.out W hW)) (by assumption) ?_
    simp only [Act.put, List.setIfInBounds_toArray, List.set_cons_zero, List.set_cons_succ]
    refine wpAnyH_take (i := 5) (oi := ⟨some 13, .lookup 83 (.tmp 11) (.tmp 12) true, _, _, _, none⟩) (v := (.tuple #[(.agg #[.slice (T (klOf K f)).1 (T (klOf K f)).2.1 (T (klOf K f)).2.2.1, .int .i64 (T (klOf K f)).2.2.2]), .bool true])) rfl (by kernel_rfl) (by kernel_rfl) (by kernel_rfl) (fun _ _ _ h => h) (yields_look (by rfl) (by rfl) (fun W hW => HQ.out W hW)) (by assumption) ?_
    simp only [Act.put, List.setIfInBounds_toArray, List.set_cons_zero, List.set_cons_succ]
    refine wpAnyH_take (i := 6) (oi := ⟨some 7, .move (.tmp 13), _, _, _, none⟩) (v := (.tuple #[(.agg #[.slice (T (klOf K f)).1 (T (klOf K f)).2.1 (T (klOf K f)).2.2.1, .int .i64 (T (klOf K f)).2.2.2]), .bool true])) rfl (by kernel_rfl) (by kernel_rfl) (by kernel_rfl) (fun _ _ _ h => h) (Or.inl ⟨by rfl, fun W hW => ?_⟩) (by assumption) ?_
    · go_simp
    simp only [Act.put, List.setIfInBounds_toArray, List.set_cons_zero, List.set_cons_succ]
    refine wpAnyH_take (i := 7) (oi := ⟨some 14, .extract (.tmp 7) 0, _, _, _, none⟩) (v := (.agg #[.slice (T (klOf K f)).1 (T (klOf K f)).2.1 (T (klOf K f)).2.2.1, .int .i64 (T (klOf K f)).2.2.2])) rfl (by kernel_rfl) (by kernel_rfl) (by kernel_rfl) (fun _ _ _ h => h) (Or.inl ⟨by rfl, fun W hW => ?_⟩) (by assumption) ?_
    · go_simp
    simp only [Act.put, List.setIfInBounds_toArray, List.set_cons_zero, List.set_cons_succ]
    refine wpAnyH_take (i := 8) (oi := ⟨some 15, .extract (.tmp 7) 1, _, _, _, none⟩) (v := (.bool true)) rfl (by kernel_rfl) (by kernel_rfl) (by kernel_rfl) (fun _ _ _ h => h) (Or.inl ⟨by rfl, fun W hW => ?_⟩) (by assumption) ?_
    · go_simp
    simp only [Act.put, List.setIfInBounds_toArray, List.set_cons_zero, List.set_cons_succ]
    refine wpAnyH_ready (rs := [9]) (by kernel_rfl) (by simp) (AllReadyH.cons rfl (fun KK hKK => ?_) AllReadyH.nil)
    go_simp
    refine hKK.out _ _ ((by assumption : Below w1.heap.size w1 w1.drew).alloc (Nat.le_refl _) _) (fun hHeld => ?_)
    clear hKK KK
    try simp only [Act.put, List.setIfInBounds_toArray, List.set_cons_zero, List.set_cons_succ]
    refine wpAnyH_ready (rs := [10]) (by kernel_rfl) (by simp) (AllReadyH.cons rfl (fun KK hKK => ?_) AllReadyH.nil)
    go_simp
    refine hKK.out _ _ (by first | exact (hHeld.setCell (Nat.le_refl _) _).setCell (Nat.le_refl _) _ | exact below_dr ((Below.refl _ w1).alloc (Nat.le_refl _) _) 1) (fun hHeld => ?_)
    clear hKK KK
    try simp only [Act.put, List.setIfInBounds_toArray, List.set_cons_zero, List.set_cons_succ]
    refine wpAnyH_take (i := 11) (oi := ⟨some 6, .assign (.tmp 15), _, _, _, none⟩) (v := (.bool true)) rfl (by kernel_rfl) (by kernel_rfl) (by kernel_rfl) (fun _ _ _ h => h) (Or.inl ⟨by rfl, fun W hW => ?_⟩) (by assumption) ?_
    · go_simp
    simp only [Act.put, List.setIfInBounds_toArray, List.set_cons_zero, List.set_cons_succ]
    refine wpAnyH_done (by kernel_rfl) ?_ _
    go_wp2
    go_ret
    exact ⟨true, rfl, ⟨fun _ => HM.out, fun _ => rfl⟩, HAL.out.trans (hHeld.mono (Nat.le_of_lt hsz))⟩
  · have HQ := Lib.hid (fun W (hW : Below w1.heap.size w1 W) => (hs1.same hW).map.look_no hkey hm)
    have HM := Lib.hid hm
    unfold sv at HQ
    clear h hkey hw1 hal hk1 hs1 hm
    go_enter Try.func35, Try.ntmps35
    go_wp2_with fail
    rw [← HW1.out]
    refine wp_region_held_drew (S := fun W => Below w1.heap.size w1 W) (by kernel_rfl) (below_dr (Below.refl _ w1) 1) (fun hHeld => ?_)
    refine wpAnyH_take (i := 0) (oi := ⟨some 8, .move (.tmp 0), _, _, _, none⟩) (v := (.pointer (some ⟨s, 0, none⟩))) rfl (by kernel_rfl) (by kernel_rfl) (by kernel_rfl) (fun _ _ _ h => h) (Or.inl ⟨by rfl, fun W hW => ?_⟩) (by assumption) ?_
    · go_simp
    simp only [Act.put, List.setIfInBounds_toArray, List.set_cons_zero, List.set_cons_succ]
    refine wpAnyH_take (i := 1) (oi := ⟨some 9, .nilCheck (.tmp 8), _, _, _, none⟩) (v := (.pointer (some ⟨s, 0, none⟩))) rfl (by kernel_rfl) (by kernel_rfl) (by kernel_rfl) (fun _ _ _ h => h) (Or.inl ⟨by rfl, fun W hW => ?_⟩) (by assumption) ?_
    · go_simp
    simp only [Act.put, List.setIfInBounds_toArray, List.set_cons_zero, List.set_cons_succ]
    refine wpAnyH_take (i := 2) (oi := ⟨some 10, .fieldAddr 85 (.tmp 9) 1, _, _, _, none⟩) (v := (.pointer (some ⟨s, 1, none⟩))) rfl (by kernel_rfl) (by kernel_rfl) (by kernel_rfl) (fun _ _ _ h => h) (Or.inl ⟨by rfl, fun W hW => ?_⟩) (by assumption) ?_
    · go_simp
    simp only [Act.put, List.setIfInBounds_toArray, List.set_cons_zero, List.set_cons_succ]
    refine wpAnyH_take (i := 3) (oi := ⟨some 11, .load 83 (.tmp 10), _, _, _, none⟩) (v := (.map (some b))) rfl (by kernel_rfl) (by kernel_rfl) (by kernel_rfl) (fun _ _ _ h => h) (Or.inl ⟨by rfl, fun W hW => ?_⟩) (by assumption) ?_
    · have := HC.out W hW; go_simp
    simp only [Act.put, List.setIfInBounds_toArray, List.set_cons_zero, List.set_cons_succ]
    refine wpAnyH_take (i := 4) (oi := ⟨some 12, .load 59 (.tmp 3), _, _, _, none⟩) (v := (.agg (kc K f))) rfl (by kernel_rfl) (by kernel_rfl) (by kernel_rfl) (fun _ _ _ h => h) (yields_key (g := w.heap.size) (by rfl) (fun W hW => HL.out W hW)) (by assumption) ?_
    simp only [Act.put, List.setIfInBounds_toArray, List.set_cons_zero, List.set_cons_succ]
    refine wpAnyH_take (i := 5) (oi := ⟨some 13, .lookup 83 (.tmp 11) (.tmp 12) true, _, _, _, none⟩) (v := (.tuple #[(.agg #[.slice none 0 0, .int .i64 0]), .bool false])) rfl (by kernel_rfl) (by kernel_rfl) (by kernel_rfl) (fun _ _ _ h => h) (yields_look (by rfl) (by rfl) (fun W hW => HQ.out W hW)) (by assumption) ?_
    simp only [Act.put, List.setIfInBounds_toArray, List.set_cons_zero, List.set_cons_succ]
    refine wpAnyH_take (i := 6) (oi := ⟨some 7, .move (.tmp 13), _, _, _, none⟩) (v := (.tuple #[(.agg #[.slice none 0 0, .int .i64 0]), .bool false])) rfl (by kernel_rfl) (by kernel_rfl) (by kernel_rfl) (fun _ _ _ h => h) (Or.inl ⟨by rfl, fun W hW => ?_⟩) (by assumption) ?_
    · go_simp
    simp only [Act.put, List.setIfInBounds_toArray, List.set_cons_zero, List.set_cons_succ]
    refine wpAnyH_take (i := 7) (oi := ⟨some 14, .extract (.tmp 7) 0, _, _, _, none⟩) (v := (.agg #[.slice none 0 0, .int .i64 0])) rfl (by kernel_rfl) (by kernel_rfl) (by kernel_rfl) (fun _ _ _ h => h) (Or.inl ⟨by rfl, fun W hW => ?_⟩) (by assumption) ?_
    · go_simp
    simp only [Act.put, List.setIfInBounds_toArray, List.set_cons_zero, List.set_cons_succ]
    refine wpAnyH_take (i := 8) (oi := ⟨some 15, .extract (.tmp 7) 1, _, _, _, none⟩) (v := (.bool false)) rfl (by kernel_rfl) (by kernel_rfl) (by kernel_rfl) (fun _ _ _ h => h) (Or.inl ⟨by rfl, fun W hW => ?_⟩) (by assumption) ?_
    · go_simp
    simp only [Act.put, List.setIfInBounds_toArray, List.set_cons_zero, List.set_cons_succ]
    refine wpAnyH_ready (rs := [9]) (by kernel_rfl) (by simp) (AllReadyH.cons rfl (fun KK hKK => ?_) AllReadyH.nil)
    go_simp
    refine hKK.out _ _ ((by assumption : Below w1.heap.size w1 w1.drew).alloc (Nat.le_refl _) _) (fun hHeld => ?_)
    clear hKK KK
    try simp only [Act.put, List.setIfInBounds_toArray, List.set_cons_zero, List.set_cons_succ]
    refine wpAnyH_ready (rs := [10]) (by kernel_rfl) (by simp) (AllReadyH.cons rfl (fun KK hKK => ?_) AllReadyH.nil)
    go_simp
    refine hKK.out _ _ (by first | exact (hHeld.setCell (Nat.le_refl _) _).setCell (Nat.le_refl _) _ | exact below_dr ((Below.refl _ w1).alloc (Nat.le_refl _) _) 1) (fun hHeld => ?_)
    clear hKK KK
    try simp only [Act.put, List.setIfInBounds_toArray, List.set_cons_zero, List.set_cons_succ]
    refine wpAnyH_take (i := 11) (oi := ⟨some 6, .assign (.tmp 15), _, _, _, none⟩) (v := (.bool false)) rfl (by kernel_rfl) (by kernel_rfl) (by kernel_rfl) (fun _ _ _ h => h) (Or.inl ⟨by rfl, fun W hW => ?_⟩) (by assumption) ?_
    · go_simp
    simp only [Act.put, List.setIfInBounds_toArray, List.set_cons_zero, List.set_cons_succ]
    refine wpAnyH_done (by kernel_rfl) ?_ _
    go_wp2
    go_ret
    exact ⟨false, rfl, ⟨fun hh => absurd hh Bool.false_ne_true, fun hh => absurd hh HM.out⟩, HAL.out.trans (hHeld.mono (Nat.le_of_lt hsz))⟩
end Go.Proofs.Ytfiafccfkfillaa

namespace Go.Proofs.Ytfiafccfkfillaa
open Go.RowKit Go.Shelf

/-- a thing put into a map, as one step of a region that draws. -/
theorem step_put {ops : Array Oper} {o : Oper} {a : Act} {w : World} {K : Act → World → Prop} {Q : Exit → Act → World → Prop} {E : Prop} (hg : o.guard = none) (m x v : Operand) (t : TypeId) (hop : o.op = .mapUpdate t m x v) (mv key vv : Value)
    (hm : a.eval m = mv) (hx : a.eval x = key) (hv : a.eval v = vv) (w' : World) (hr : (Instr.mapUpdate t mv key vv).run Try.prog w = .ok () w') (hK : K (a.put o.dst undef) w') :
    if Region.wanted o (yielded ops a.tmps) = true then Oper.wp Try.prog o a w K Q else E := by
  have hw : Region.wanted o (yielded ops a.tmps) = true := by simp [Region.wanted, hg]
  rw [if_pos hw]
  unfold Oper.wp
  simp [execOp, hop, hm, hx, hv, hr, Result.andThen]
  exact hK

/-- what a use leaves. -/
def UseSays (s b room : Nat) (hi mi : Int) (L : List Lit) (T : Lit → Tv) (k : Lit) (a : Option Addr) (l c : Nat) (w : World) (e : Ending) (w' : World) : Prop :=
  e = .returned (.tuple #[]) ∧ Sh w' s b room hi mi (hi + mi) (out L k ++ [k]) (onT T k (a, l, c, hi + mi)) ∧ But s b w w'
theorem pairwise_on {L : List Lit} {T : Lit → Tv} {k : Lit} {x : Tv} (h : L.Pairwise fun x y => (T x).2.2.2 < (T y).2.2.2) (ht : ∀ y, y ∈ L → (T y).2.2.2 < x.2.2.2) : (out L k ++ [k]).Pairwise fun y z => (onT T k x y).2.2.2 < (onT T k x z).2.2.2 := by
  rw [List.pairwise_append]
  refine ⟨?_, List.pairwise_singleton _ _, fun y hy z hz => ?_⟩
  · have : (out L k).Pairwise fun x y => (T x).2.2.2 < (T y).2.2.2 := h.filter _
    refine List.Pairwise.imp_of_mem ?_ this
    intro y z hy hz hyz
    rw [onT_other (mem_out.1 hy).2, onT_other (mem_out.1 hz).2]; exact hyz
  · rw [List.mem_singleton] at hz
    subst hz
    rw [onT_same, onT_other (mem_out.1 hy).2]
    exact ht y (mem_out.1 hy).1
theorem Sh.put {w w' : World} {s b room : Nat} {hi mi tp : Int} {L : List Lit} {T : Lit → Tv} {k : Lit} {x : Tv} (h : Sh w s b room hi mi tp L T) (hm : Mp w' b (out L k ++ [k]) (onT T k x)) (ht : w.mapTurned w' b) (h0 : 0 ≤ x.2.2.2) (hx : ∀ y, y ∈ L → (T y).2.2.2 < x.2.2.2) (hr : (out L k ++ [k]).length ≤ room) :
    Sh w' s b room hi mi x.2.2.2 (out L k ++ [k]) (onT T k x) where
  blk := by rw [ht.grown.block s h.lt (fun e => h.ne (by cases e; rfl))]; exact h.blk
  map := hm
  inc := pairwise_on h.inc hx
  top y hy := by
    rw [List.mem_append, List.mem_singleton] at hy
    by_cases e : y = k
    · subst e; rw [onT_same]; exact ⟨h0, Int.le_refl _⟩
    · rw [onT_other e]
      rcases hy with hy | hy
      · have h1 := h.top y (mem_out.1 hy).1; have h2 := hx y (mem_out.1 hy).1
        exact ⟨h1.1, Int.le_of_lt h2⟩
      · exact absurd hy e
  room := ⟨hr, h.room.2⟩

set_option maxHeartbeats 1000000 in
set_option maxRecDepth 100000 in
theorem suse_any (s b room : Nat) (hi mi tp : Int) (L : List Lit) (T : Lit → Tv) (K : Int) (f : Nat → Int) (hK : KeyOk K f) (a : Option Addr) (l c : Nat) (h1 : 0 ≤ hi) (h2 : 0 ≤ mi) (h3 : hi + mi ≤ 1000000000000) (h4 : tp < hi + mi) (hr : (out L (klOf K f) ++ [klOf K f]).length ≤ room) (w : World) (h : Sh w s b room hi mi tp L T) :
    Calls Try.prog 53 #[.pointer (some ⟨s, 0, none⟩), .agg (kc K f), .slice a l c] w (UseSays s b room hi mi L T (klOf K f) a l c w) := by
  have hkey := klOf_eq hK
  obtain ⟨w1, hw1⟩ : ∃ w1, w1 = w.alloc (.cells (kc K f) 59) := ⟨_, rfl⟩
  have hal : Below w.heap.size w w1 := by rw [hw1]; exact (Below.refl _ w).alloc (Nat.le_refl _) _
  have hk1 : w1.heap[w.heap.size]? = some (.cells (kc K f) 59 (0, 0)) := by rw [hw1]; exact heap_alloc_new _ _
  have hs1 := h.same hal
  obtain ⟨w2, hrun, hm2, ht2⟩ := (show Mp w1.drew b L T from hs1.map).put (by have := hs1.room; unfold maxLen; omega) hkey (a, l, c, hi + mi)
  have hsh2 := Sh.put (w := w1.drew) (show Sh w1.drew s b room hi mi tp L T from hs1.same (below_dr (Below.refl _ w1) 1)) hm2 ht2 (by show 0 ≤ hi + mi; omega) (fun y hy => Int.lt_of_le_of_lt (hs1.top y hy).2 h4) hr
  have hsz : w.heap.size < w1.heap.size := (Array.getElem?_eq_some_iff.1 hk1).1
  have hbut : But s b w w2 := (But.of hal).trans ((But.of (below_dr (Below.refl _ w1) 1)).trans (But.turned ht2))
  have hblt := hs1.map.lt
  have hgb : w.heap.size ≠ b := by have := h.map.lt; omega
  have HC1 := Lib.hid (fun (W : World) (hW : W.heap[s]? = w1.heap[s]? ∧ W.heap[w.heap.size]? = w1.heap[w.heap.size]?) => (show W.cell? ⟨s, 1, none⟩ = some (.map (some b)) from by rw [cell_of_row W s 1 _ _ _ (hW.1.trans hs1.blk)]; rfl))
  have HC2 := Lib.hid (fun (W : World) (hW : W.heap[s]? = w1.heap[s]? ∧ W.heap[w.heap.size]? = w1.heap[w.heap.size]?) => (show W.cell? ⟨s, 2, none⟩ = some (.int .i64 hi) from by rw [cell_of_row W s 2 _ _ _ (hW.1.trans hs1.blk)]; rfl))
  have HC3 := Lib.hid (fun (W : World) (hW : W.heap[s]? = w1.heap[s]? ∧ W.heap[w.heap.size]? = w1.heap[w.heap.size]?) => (show W.cell? ⟨s, 3, none⟩ = some (.int .i64 mi) from by rw [cell_of_row W s 3 _ _ _ (hW.1.trans hs1.blk)]; rfl))
  have HL := Lib.hid (fun (W : World) (hW : W.heap[s]? = w1.heap[s]? ∧ W.heap[w.heap.size]? = w1.heap[w.heap.size]?) => hW.2.trans hk1)
  have HRUN := Lib.hid hrun
  have HF := Lib.hid (show w2.heap[s]? = w1.heap[s]? ∧ w2.heap[w.heap.size]? = w1.heap[w.heap.size]? from ⟨ht2.grown.block s hs1.lt (fun e => hs1.ne (by cases e; rfl)), ht2.grown.block _ hsz (fun e => hgb (by cases e; rfl))⟩)
  have HSH := Lib.hid hsh2; have HBUT := Lib.hid hbut; have HW1 := Lib.hid hw1
  have hadd : IntKind.i64.wrap (hi + mi) = hi + mi := IntWalk.i64_in _ (by omega)
  clear hkey hw1 hal hk1 hs1 hrun hm2 ht2 hsh2 hbut hblt hgb h
  go_enter Try.func53, Try.ntmps53
  go_wp2_with fail
  rw [← HW1.out]
  refine wp_region_held_drew (S := fun W => W.heap[s]? = w1.heap[s]? ∧ W.heap[w.heap.size]? = w1.heap[w.heap.size]?) (by kernel_rfl) ⟨rfl, rfl⟩ (fun hHeld => ?_)
  refine wpAnyH_take (i := 0) (oi := ⟨some 6, .move (.tmp 0), _, _, _, none⟩) (v := (.pointer (some ⟨s, 0, none⟩))) rfl (by kernel_rfl) (by kernel_rfl) (by kernel_rfl) (fun _ _ _ h => h) (Or.inl ⟨by rfl, fun W hW => ?_⟩) (by assumption) ?_
  · go_simp
  simp only [Act.put, List.setIfInBounds_toArray, List.set_cons_zero, List.set_cons_succ]
  refine wpAnyH_take (i := 1) (oi := ⟨some 7, .nilCheck (.tmp 6), _, _, _, none⟩) (v := (.pointer (some ⟨s, 0, none⟩))) rfl (by kernel_rfl) (by kernel_rfl) (by kernel_rfl) (fun _ _ _ h => h) (Or.inl ⟨by rfl, fun W hW => ?_⟩) (by assumption) ?_
  · go_simp
  simp only [Act.put, List.setIfInBounds_toArray, List.set_cons_zero, List.set_cons_succ]
  refine wpAnyH_take (i := 2) (oi := ⟨some 8, .fieldAddr 85 (.tmp 7) 1, _, _, _, none⟩) (v := (.pointer (some ⟨s, 1, none⟩))) rfl (by kernel_rfl) (by kernel_rfl) (by kernel_rfl) (fun _ _ _ h => h) (Or.inl ⟨by rfl, fun W hW => ?_⟩) (by assumption) ?_
  · go_simp
  simp only [Act.put, List.setIfInBounds_toArray, List.set_cons_zero, List.set_cons_succ]
  refine wpAnyH_take (i := 3) (oi := ⟨some 9, .load 83 (.tmp 8), _, _, _, none⟩) (v := (.map (some b))) rfl (by kernel_rfl) (by kernel_rfl) (by kernel_rfl) (fun _ _ _ h => h) (Or.inl ⟨by rfl, fun W hW => ?_⟩) (by assumption) ?_
  · have := HC1.out W hW; go_simp
  simp only [Act.put, List.setIfInBounds_toArray, List.set_cons_zero, List.set_cons_succ]
  refine wpAnyH_take (i := 4) (oi := ⟨some 10, .load 59 (.tmp 4), _, _, _, none⟩) (v := (.agg (kc K f))) rfl (by kernel_rfl) (by kernel_rfl) (by kernel_rfl) (fun _ _ _ h => h) (yields_key (g := w.heap.size) (by rfl) (fun W hW => HL.out W hW)) (by assumption) ?_
  simp only [Act.put, List.setIfInBounds_toArray, List.set_cons_zero, List.set_cons_succ]
  refine wpAnyH_take (i := 5) (oi := ⟨some 11, .move (.tmp 2), _, _, _, none⟩) (v := (.slice a l c)) rfl (by kernel_rfl) (by kernel_rfl) (by kernel_rfl) (fun _ _ _ h => h) (Or.inl ⟨by rfl, fun W hW => ?_⟩) (by assumption) ?_
  · go_simp
  simp only [Act.put, List.setIfInBounds_toArray, List.set_cons_zero, List.set_cons_succ]
  refine wpAnyH_take (i := 6) (oi := ⟨some 12, .move (.tmp 0), _, _, _, none⟩) (v := (.pointer (some ⟨s, 0, none⟩))) rfl (by kernel_rfl) (by kernel_rfl) (by kernel_rfl) (fun _ _ _ h => h) (Or.inl ⟨by rfl, fun W hW => ?_⟩) (by assumption) ?_
  · go_simp
  simp only [Act.put, List.setIfInBounds_toArray, List.set_cons_zero, List.set_cons_succ]
  refine wpAnyH_take (i := 7) (oi := ⟨some 13, .nilCheck (.tmp 12), _, _, _, none⟩) (v := (.pointer (some ⟨s, 0, none⟩))) rfl (by kernel_rfl) (by kernel_rfl) (by kernel_rfl) (fun _ _ _ h => h) (Or.inl ⟨by rfl, fun W hW => ?_⟩) (by assumption) ?_
  · go_simp
  simp only [Act.put, List.setIfInBounds_toArray, List.set_cons_zero, List.set_cons_succ]
  refine wpAnyH_take (i := 8) (oi := ⟨some 14, .fieldAddr 85 (.tmp 13) 2, _, _, _, none⟩) (v := (.pointer (some ⟨s, 2, none⟩))) rfl (by kernel_rfl) (by kernel_rfl) (by kernel_rfl) (fun _ _ _ h => h) (Or.inl ⟨by rfl, fun W hW => ?_⟩) (by assumption) ?_
  · go_simp
  simp only [Act.put, List.setIfInBounds_toArray, List.set_cons_zero, List.set_cons_succ]
  refine wpAnyH_take (i := 9) (oi := ⟨some 15, .load 3 (.tmp 14), _, _, _, none⟩) (v := (.int .i64 hi)) rfl (by kernel_rfl) (by kernel_rfl) (by kernel_rfl) (fun _ _ _ h => h) (Or.inl ⟨by rfl, fun W hW => ?_⟩) (by assumption) ?_
  · have := HC2.out W hW; go_simp
  simp only [Act.put, List.setIfInBounds_toArray, List.set_cons_zero, List.set_cons_succ]
  refine wpAnyH_take (i := 10) (oi := ⟨some 16, .move (.tmp 0), _, _, _, none⟩) (v := (.pointer (some ⟨s, 0, none⟩))) rfl (by kernel_rfl) (by kernel_rfl) (by kernel_rfl) (fun _ _ _ h => h) (Or.inl ⟨by rfl, fun W hW => ?_⟩) (by assumption) ?_
  · go_simp
  simp only [Act.put, List.setIfInBounds_toArray, List.set_cons_zero, List.set_cons_succ]
  refine wpAnyH_take (i := 11) (oi := ⟨some 17, .nilCheck (.tmp 16), _, _, _, none⟩) (v := (.pointer (some ⟨s, 0, none⟩))) rfl (by kernel_rfl) (by kernel_rfl) (by kernel_rfl) (fun _ _ _ h => h) (Or.inl ⟨by rfl, fun W hW => ?_⟩) (by assumption) ?_
  · go_simp
  simp only [Act.put, List.setIfInBounds_toArray, List.set_cons_zero, List.set_cons_succ]
  refine wpAnyH_take (i := 12) (oi := ⟨some 18, .fieldAddr 85 (.tmp 17) 3, _, _, _, none⟩) (v := (.pointer (some ⟨s, 3, none⟩))) rfl (by kernel_rfl) (by kernel_rfl) (by kernel_rfl) (fun _ _ _ h => h) (Or.inl ⟨by rfl, fun W hW => ?_⟩) (by assumption) ?_
  · go_simp
  simp only [Act.put, List.setIfInBounds_toArray, List.set_cons_zero, List.set_cons_succ]
  refine wpAnyH_take (i := 13) (oi := ⟨some 19, .load 3 (.tmp 18), _, _, _, none⟩) (v := (.int .i64 mi)) rfl (by kernel_rfl) (by kernel_rfl) (by kernel_rfl) (fun _ _ _ h => h) (Or.inl ⟨by rfl, fun W hW => ?_⟩) (by assumption) ?_
  · have := HC3.out W hW; go_simp
  simp only [Act.put, List.setIfInBounds_toArray, List.set_cons_zero, List.set_cons_succ]
  refine wpAnyH_take (i := 14) (oi := ⟨some 20, .binOp .add 3 (.tmp 15) (.tmp 19) 3, _, _, _, none⟩) (v := (.int .i64 (hi + mi))) rfl (by kernel_rfl) (by kernel_rfl) (by kernel_rfl) (fun _ _ _ h => h) (Or.inl ⟨by rfl, fun W hW => ?_⟩) (by assumption) ?_
  · go_simp
  simp only [Act.put, List.setIfInBounds_toArray, List.set_cons_zero, List.set_cons_succ]
  refine wpAnyH_take (i := 15) (oi := ⟨some 21, .build 110 #[(0, .tmp 11), (1, .tmp 20)], _, _, _, none⟩) (v := (sv (a, l, c, hi + mi))) rfl (by kernel_rfl) (by kernel_rfl) (by kernel_rfl) (fun _ _ _ h => h) (Or.inl ⟨by rfl, fun W hW => ?_⟩) (by assumption) ?_
  · unfold sv; go_simp
  simp only [Act.put, List.setIfInBounds_toArray, List.set_cons_zero, List.set_cons_succ]
  refine wpAnyH_ready (rs := [16]) (by kernel_rfl) (by simp) (AllReadyH.cons rfl (fun KK hKK => ?_) AllReadyH.nil)
  refine step_put rfl _ _ _ _ rfl (.map (some b)) (.agg (kc K f)) (sv (a, l, c, hi + mi)) (by rfl) (by rfl) (by rfl) w2 HRUN.out ?_
  refine hKK.out _ _ HF.out (fun hHeld => ?_)
  clear hKK KK
  refine wpAnyH_done (by kernel_rfl) ?_ _
  go_wp2
  go_end0
  exact ⟨rfl, HSH.out, HBUT.out⟩
end Go.Proofs.Ytfiafccfkfillaa

namespace Go.Proofs.Ytfiafccfkfillaa
open Go.RowKit Go.Shelf

/-- what a take answers. -/
def TkSays (s b room : Nat) (hi mi : Int) (L : List Lit) (T : Lit → Tv) (k : Lit) (w : World) (e : Ending) (w' : World) : Prop :=
  (k ∉ L ∧ e = .returned (.tuple #[.slice none 0 0, .bool false]) ∧ Below w.heap.size w w') ∨
  (k ∈ L ∧ e = .returned (.tuple #[.slice (T k).1 (T k).2.1 (T k).2.2.1, .bool true]) ∧ Sh w' s b room (hi + 1) mi (hi + 1 + mi) (out L k ++ [k]) (onT T k ((T k).1, (T k).2.1, (T k).2.2.1, hi + 1 + mi)) ∧ But s b w w')
set_option maxHeartbeats 1000000 in
set_option maxRecDepth 100000 in
theorem stake_any (s b room : Nat) (hi mi : Int) (L : List Lit) (T : Lit → Tv) (K : Int) (f : Nat → Int) (hK : KeyOk K f) (h1 : 0 ≤ hi) (h2 : 0 ≤ mi) (h3 : hi + mi ≤ 100000000000) (w : World) (h : Sh w s b room hi mi (hi + mi) L T) :
    Calls Try.prog 40 #[.pointer (some ⟨s, 0, none⟩), .agg (kc K f)] w (TkSays s b room hi mi L T (klOf K f) w) := by
  have hkey := klOf_eq hK
  obtain ⟨w1, hw1⟩ : ∃ w1, w1 = w.alloc (.cells (kc K f) 59) := ⟨_, rfl⟩
  have hal : Below w.heap.size w w1 := by rw [hw1]; exact (Below.refl _ w).alloc (Nat.le_refl _) _
  have hk1 : w1.heap[w.heap.size]? = some (.cells (kc K f) 59 (0, 0)) := by rw [hw1]; exact heap_alloc_new _ _
  have hs1 := h.same hal
  have HW1 := Lib.hid hw1; have HAL := Lib.hid hal
  have hsz : w.heap.size < w1.heap.size := (Array.getElem?_eq_some_iff.1 hk1).1
  have HC := Lib.hid (fun W (hW : Below w1.heap.size w1 W) => (hs1.same hW).c1)
  have HL := Lib.hid (fun W (hW : Below w1.heap.size w1 W) => ((hW.block _ hsz).trans hk1))
  have HS1 := Lib.hid hs1
  have HSS := Lib.hid h
  by_cases hm : klOf K f ∈ L
  · have HQ := Lib.hid (fun W (hW : Below w1.heap.size w1 W) => (hs1.same hW).map.look_yes hkey hm)
    have HM := Lib.hid hm
    unfold sv at HQ
    rcases hT : T (klOf K f) with ⟨ta, tl, tcp, tu⟩
    rw [hT] at HQ
    dsimp only at HQ
    have HT := Lib.hid hT
    have htu := hs1.top _ hm
    rw [hT] at htu
    have hroom : (out L (klOf K f) ++ [klOf K f]).length ≤ room := by
      have h4 := out_len hs1.map.nodup hm; have h5 := hs1.room.1
      rw [List.length_append, List.length_singleton]; omega
    clear hT
    clear h hkey hw1 hal hk1 hs1 hm
    go_enter Try.func40, Try.ntmps40
    go_wp2_with fail
    rw [← HW1.out]
    refine wp_region_held_drew (S := fun W => Below w1.heap.size w1 W) (by kernel_rfl) (below_dr (Below.refl _ w1) 1) (fun hHeld => ?_)
    refine wpAnyH_take (i := 0) (oi := ⟨some 9, .move (.tmp 0), _, _, _, none⟩) (v := (.pointer (some ⟨s, 0, none⟩))) rfl (by kernel_rfl) (by kernel_rfl) (by kernel_rfl) (fun _ _ _ h => h) (Or.inl ⟨by rfl, fun W hW => ?_⟩) (by assumption) ?_
    · go_simp
    simp only [Act.put, List.setIfInBounds_toArray, List.set_cons_zero, List.set_cons_succ]
    refine wpAnyH_take (i := 1) (oi := ⟨some 10, .nilCheck (.tmp 9), _, _, _, none⟩) (v := (.pointer (some ⟨s, 0, none⟩))) rfl (by kernel_rfl) (by kernel_rfl) (by kernel_rfl) (fun _ _ _ h => h) (Or.inl ⟨by rfl, fun W hW => ?_⟩) (by assumption) ?_
    · go_simp
    simp only [Act.put, List.setIfInBounds_toArray, List.set_cons_zero, List.set_cons_succ]
    refine wpAnyH_take (i := 2) (oi := ⟨some 11, .fieldAddr 85 (.tmp 10) 1, _, _, _, none⟩) (v := (.pointer (some ⟨s, 1, none⟩))) rfl (by kernel_rfl) (by kernel_rfl) (by kernel_rfl) (fun _ _ _ h => h) (Or.inl ⟨by rfl, fun W hW => ?_⟩) (by assumption) ?_
    · go_simp
    simp only [Act.put, List.setIfInBounds_toArray, List.set_cons_zero, List.set_cons_succ]
    refine wpAnyH_take (i := 3) (oi := ⟨some 12, .load 83 (.tmp 11), _, _, _, none⟩) (v := (.map (some b))) rfl (by kernel_rfl) (by kernel_rfl) (by kernel_rfl) (fun _ _ _ h => h) (Or.inl ⟨by rfl, fun W hW => ?_⟩) (by assumption) ?_
    · have := HC.out W hW; go_simp
    simp only [Act.put, List.setIfInBounds_toArray, List.set_cons_zero, List.set_cons_succ]
    refine wpAnyH_take (i := 4) (oi := ⟨some 13, .load 59 (.tmp 3), _, _, _, none⟩) (v := (.agg (kc K f))) rfl (by kernel_rfl) (by kernel_rfl) (by kernel_rfl) (fun _ _ _ h => h) (yields_key (g := w.heap.size) (by rfl) (fun W hW => HL.out W hW)) (by assumption) ?_
    simp only [Act.put, List.setIfInBounds_toArray, List.set_cons_zero, List.set_cons_succ]
    refine wpAnyH_take (i := 5) (oi := ⟨some 14, .lookup 83 (.tmp 12) (.tmp 13) true, _, _, _, none⟩) (v := (.tuple #[(.agg #[.slice ta tl tcp, .int .i64 tu]), .bool true])) rfl (by kernel_rfl) (by kernel_rfl) (by kernel_rfl) (fun _ _ _ h => h) (yields_look (by rfl) (by rfl) (fun W hW => HQ.out W hW)) (by assumption) ?_
    simp only [Act.put, List.setIfInBounds_toArray, List.set_cons_zero, List.set_cons_succ]
    refine wpAnyH_take (i := 6) (oi := ⟨some 8, .move (.tmp 14), _, _, _, none⟩) (v := (.tuple #[(.agg #[.slice ta tl tcp, .int .i64 tu]), .bool true])) rfl (by kernel_rfl) (by kernel_rfl) (by kernel_rfl) (fun _ _ _ h => h) (Or.inl ⟨by rfl, fun W hW => ?_⟩) (by assumption) ?_
    · go_simp
    simp only [Act.put, List.setIfInBounds_toArray, List.set_cons_zero, List.set_cons_succ]
    refine wpAnyH_take (i := 7) (oi := ⟨some 15, .extract (.tmp 8) 0, _, _, _, none⟩) (v := (.agg #[.slice ta tl tcp, .int .i64 tu])) rfl (by kernel_rfl) (by kernel_rfl) (by kernel_rfl) (fun _ _ _ h => h) (Or.inl ⟨by rfl, fun W hW => ?_⟩) (by assumption) ?_
    · go_simp
    simp only [Act.put, List.setIfInBounds_toArray, List.set_cons_zero, List.set_cons_succ]
    refine wpAnyH_take (i := 8) (oi := ⟨some 16, .extract (.tmp 8) 1, _, _, _, none⟩) (v := (.bool true)) rfl (by kernel_rfl) (by kernel_rfl) (by kernel_rfl) (fun _ _ _ h => h) (Or.inl ⟨by rfl, fun W hW => ?_⟩) (by assumption) ?_
    · go_simp
    simp only [Act.put, List.setIfInBounds_toArray, List.set_cons_zero, List.set_cons_succ]
    refine wpAnyH_ready (rs := [9]) (by kernel_rfl) (by simp) (AllReadyH.cons rfl (fun KK hKK => ?_) AllReadyH.nil)
    go_simp
    refine hKK.out _ _ ((by assumption : Below w1.heap.size w1 w1.drew).alloc (Nat.le_refl _) _) (fun hHeld => ?_)
    clear hKK KK
    try simp only [Act.put, List.setIfInBounds_toArray, List.set_cons_zero, List.set_cons_succ]
    refine wpAnyH_ready (rs := [10]) (by kernel_rfl) (by simp) (AllReadyH.cons rfl (fun KK hKK => ?_) AllReadyH.nil)
    go_simp
    refine hKK.out _ _ (by first | exact (hHeld.setCell (Nat.le_refl _) _).setCell (Nat.le_refl _) _ | exact below_dr ((Below.refl _ w1).alloc (Nat.le_refl _) _) 1) (fun hHeld => ?_)
    clear hKK KK
    try simp only [Act.put, List.setIfInBounds_toArray, List.set_cons_zero, List.set_cons_succ]
    refine wpAnyH_take (i := 11) (oi := ⟨some 7, .assign (.tmp 16), _, _, _, none⟩) (v := (.bool true)) rfl (by kernel_rfl) (by kernel_rfl) (by kernel_rfl) (fun _ _ _ h => h) (Or.inl ⟨by rfl, fun W hW => ?_⟩) (by assumption) ?_
    · go_simp
    simp only [Act.put, List.setIfInBounds_toArray, List.set_cons_zero, List.set_cons_succ]
    refine wpAnyH_done (by kernel_rfl) ?_ _
    clear hHeld
    obtain ⟨w3, hw3⟩ : ∃ w3, w3 = (w1.alloc (.cells #[.slice ta tl tcp, .int .i64 tu] 110)).drew := ⟨_, rfl⟩
    rw [← hw3]
    have hb3 : Below w1.heap.size w1 w3 := by rw [hw3]; exact below_dr ((Below.refl _ w1).alloc (Nat.le_refl _) _) 1
    have sp3 : w3.heap[w1.heap.size]? = some (.cells #[.slice ta tl tcp, .int .i64 tu] 110 (0, 0)) := by rw [hw3]; exact heap_alloc_new _ _
    have hs3 := HS1.out.same hb3
    have c2 := hs3.c2
    have f2 := hs3.free 2
    have hlt3 := HS1.out.lt
    have hs4 := hs3.setHi (hi + 1)
    have hk4 : (w3.setCell ⟨s, 2, none⟩ (.int .i64 (hi + 1))).heap[w.heap.size]? = some (.cells (kc K f) 59 (0, 0)) := (heap_setCell_other w3 ⟨s, 2, none⟩ w.heap.size _ (by have := HSS.out.lt; show w.heap.size ≠ s; omega)).trans (HL.out w3 hb3)
    have sp4 : (w3.setCell ⟨s, 2, none⟩ (.int .i64 (hi + 1))).cell? ⟨w1.heap.size, 0, none⟩ = some (.slice ta tl tcp) := by
      rw [cell_of_row _ w1.heap.size 0 _ _ _ ((heap_setCell_other w3 ⟨s, 2, none⟩ w1.heap.size _ (by show w1.heap.size ≠ s; omega)).trans sp3)]; rfl
    have HB4 := Lib.hid ((But.of HAL.out).trans ((But.of (hb3)).trans (but_set (s := s) (b := b) (i := 2) (v := .int .i64 (hi + 1)) w3)) : But s b w _)
    have hadd : IntKind.i64.wrap (hi + 1) = hi + 1 := IntWalk.i64_in _ (by omega)
    have hsz3 : w1.heap.size < w3.heap.size := (Array.getElem?_eq_some_iff.1 sp3).1
    have hnb : w1.heap.size ≠ b := by have := HS1.out.map.lt; omega
    have hns : w1.heap.size ≠ s := by omega
    have HS4 := Lib.hid hs4; have HK4 := Lib.hid hk4; have HSP := Lib.hid sp3
    clear hw3 hs3 hs4 hk4 hb3 sp3
    have hinfo : (Try.prog.info? 59).map (·.size) = some (kc K f).size := by rw [kc_size]; kernel_rfl
    have HIN := Lib.hid hinfo; clear hinfo
    obtain ⟨w4, hw4⟩ : ∃ w4, w4 = w3.setCell ⟨s, 2, none⟩ (.int .i64 (hi + 1)) := ⟨_, rfl⟩
    have HSZ4 := Lib.hid (show w4.heap.size = w3.heap.size by rw [hw4]; simp)
    go_wp2_with (first | (refine wpList_load_row rfl 59 _ rfl w.heap.size rfl 59 (kc K f) (0, 0) _ HK4.out Try.underlying59 rfl HIN.out ?_) | fail)
    refine (suse_any s b room (hi + 1) mi (hi + mi) L T K f hK ta tl tcp (by omega) h2 (by omega) (by omega) hroom _ HS4.out).mono ?_
    rintro e w5 ⟨rfl, hS5, hB5⟩
    have HS5 := Lib.hid hS5; have HB5 := Lib.hid (HB4.out.trans hB5)
    have sp5 : w5.cell? ⟨w1.heap.size, 0, none⟩ = some (.slice ta tl tcp) := by
      rw [cell_of_row _ w1.heap.size 0 _ _ _ ((hB5.block w1.heap.size (by simp; omega) hns hnb).trans ((heap_setCell_other w3 ⟨s, 2, none⟩ w1.heap.size _ hns).trans HSP.out))]; rfl
    clear hw4 hS5 hB5 sp4 c2 f2
    go_wp2
    go_ret2
    refine Or.inr ⟨HM.out, ?_, ?_, HB5.out⟩
    · rw [HT.out]; rfl
    · rw [HT.out]; exact HS5.out
  · have HQ := Lib.hid (fun W (hW : Below w1.heap.size w1 W) => (hs1.same hW).map.look_no hkey hm)
    have HM := Lib.hid hm
    unfold sv at HQ
    clear h hkey hw1 hal hk1 hs1 hm
    go_enter Try.func40, Try.ntmps40
    go_wp2_with fail
    rw [← HW1.out]
    refine wp_region_held_drew (S := fun W => Below w1.heap.size w1 W) (by kernel_rfl) (below_dr (Below.refl _ w1) 1) (fun hHeld => ?_)
    refine wpAnyH_take (i := 0) (oi := ⟨some 9, .move (.tmp 0), _, _, _, none⟩) (v := (.pointer (some ⟨s, 0, none⟩))) rfl (by kernel_rfl) (by kernel_rfl) (by kernel_rfl) (fun _ _ _ h => h) (Or.inl ⟨by rfl, fun W hW => ?_⟩) (by assumption) ?_
    · go_simp
    simp only [Act.put, List.setIfInBounds_toArray, List.set_cons_zero, List.set_cons_succ]
    refine wpAnyH_take (i := 1) (oi := ⟨some 10, .nilCheck (.tmp 9), _, _, _, none⟩) (v := (.pointer (some ⟨s, 0, none⟩))) rfl (by kernel_rfl) (by kernel_rfl) (by kernel_rfl) (fun _ _ _ h => h) (Or.inl ⟨by rfl, fun W hW => ?_⟩) (by assumption) ?_
    · go_simp
    simp only [Act.put, List.setIfInBounds_toArray, List.set_cons_zero, List.set_cons_succ]
    refine wpAnyH_take (i := 2) (oi := ⟨some 11, .fieldAddr 85 (.tmp 10) 1, _, _, _, none⟩) (v := (.pointer (some ⟨s, 1, none⟩))) rfl (by kernel_rfl) (by kernel_rfl) (by kernel_rfl) (fun _ _ _ h => h) (Or.inl ⟨by rfl, fun W hW => ?_⟩) (by assumption) ?_
    · go_simp
    simp only [Act.put, List.setIfInBounds_toArray, List.set_cons_zero, List.set_cons_succ]
    refine wpAnyH_take (i := 3) (oi := ⟨some 12, .load 83 (.tmp 11), _, _, _, none⟩) (v := (.map (some b))) rfl (by kernel_rfl) (by kernel_rfl) (by kernel_rfl) (fun _ _ _ h => h) (Or.inl ⟨by rfl, fun W hW => ?_⟩) (by assumption) ?_
    · have := HC.out W hW; go_simp
    simp only [Act.put, List.setIfInBounds_toArray, List.set_cons_zero, List.set_cons_succ]
    refine wpAnyH_take (i := 4) (oi := ⟨some 13, .load 59 (.tmp 3), _, _, _, none⟩) (v := (.agg (kc K f))) rfl (by kernel_rfl) (by kernel_rfl) (by kernel_rfl) (fun _ _ _ h => h) (yields_key (g := w.heap.size) (by rfl) (fun W hW => HL.out W hW)) (by assumption) ?_
    simp only [Act.put, List.setIfInBounds_toArray, List.set_cons_zero, List.set_cons_succ]
    refine wpAnyH_take (i := 5) (oi := ⟨some 14, .lookup 83 (.tmp 12) (.tmp 13) true, _, _, _, none⟩) (v := (.tuple #[(.agg #[.slice none 0 0, .int .i64 0]), .bool false])) rfl (by kernel_rfl) (by kernel_rfl) (by kernel_rfl) (fun _ _ _ h => h) (yields_look (by rfl) (by rfl) (fun W hW => HQ.out W hW)) (by assumption) ?_
    simp only [Act.put, List.setIfInBounds_toArray, List.set_cons_zero, List.set_cons_succ]
    refine wpAnyH_take (i := 6) (oi := ⟨some 8, .move (.tmp 14), _, _, _, none⟩) (v := (.tuple #[(.agg #[.slice none 0 0, .int .i64 0]), .bool false])) rfl (by kernel_rfl) (by kernel_rfl) (by kernel_rfl) (fun _ _ _ h => h) (Or.inl ⟨by rfl, fun W hW => ?_⟩) (by assumption) ?_
    · go_simp
    simp only [Act.put, List.setIfInBounds_toArray, List.set_cons_zero, List.set_cons_succ]
    refine wpAnyH_take (i := 7) (oi := ⟨some 15, .extract (.tmp 8) 0, _, _, _, none⟩) (v := (.agg #[.slice none 0 0, .int .i64 0])) rfl (by kernel_rfl) (by kernel_rfl) (by kernel_rfl) (fun _ _ _ h => h) (Or.inl ⟨by rfl, fun W hW => ?_⟩) (by assumption) ?_
    · go_simp
    simp only [Act.put, List.setIfInBounds_toArray, List.set_cons_zero, List.set_cons_succ]
    refine wpAnyH_take (i := 8) (oi := ⟨some 16, .extract (.tmp 8) 1, _, _, _, none⟩) (v := (.bool false)) rfl (by kernel_rfl) (by kernel_rfl) (by kernel_rfl) (fun _ _ _ h => h) (Or.inl ⟨by rfl, fun W hW => ?_⟩) (by assumption) ?_
    · go_simp
    simp only [Act.put, List.setIfInBounds_toArray, List.set_cons_zero, List.set_cons_succ]
    refine wpAnyH_ready (rs := [9]) (by kernel_rfl) (by simp) (AllReadyH.cons rfl (fun KK hKK => ?_) AllReadyH.nil)
    go_simp
    refine hKK.out _ _ ((by assumption : Below w1.heap.size w1 w1.drew).alloc (Nat.le_refl _) _) (fun hHeld => ?_)
    clear hKK KK
    try simp only [Act.put, List.setIfInBounds_toArray, List.set_cons_zero, List.set_cons_succ]
    refine wpAnyH_ready (rs := [10]) (by kernel_rfl) (by simp) (AllReadyH.cons rfl (fun KK hKK => ?_) AllReadyH.nil)
    go_simp
    refine hKK.out _ _ (by first | exact (hHeld.setCell (Nat.le_refl _) _).setCell (Nat.le_refl _) _ | exact below_dr ((Below.refl _ w1).alloc (Nat.le_refl _) _) 1) (fun hHeld => ?_)
    clear hKK KK
    try simp only [Act.put, List.setIfInBounds_toArray, List.set_cons_zero, List.set_cons_succ]
    refine wpAnyH_take (i := 11) (oi := ⟨some 7, .assign (.tmp 16), _, _, _, none⟩) (v := (.bool false)) rfl (by kernel_rfl) (by kernel_rfl) (by kernel_rfl) (fun _ _ _ h => h) (Or.inl ⟨by rfl, fun W hW => ?_⟩) (by assumption) ?_
    · go_simp
    simp only [Act.put, List.setIfInBounds_toArray, List.set_cons_zero, List.set_cons_succ]
    refine wpAnyH_done (by kernel_rfl) ?_ _
    have HB3 := Lib.hid (HAL.out.trans (hHeld.mono (Nat.le_of_lt hsz)))
    clear hHeld
    go_wp2
    go_ret2
    exact Or.inl ⟨HM.out, rfl, HB3.out⟩
end Go.Proofs.Ytfiafccfkfillaa

namespace Go.Proofs.Ytfiafccfkfillaa
open Go.RowKit Go.Shelf Go.Maps

/-- one block has turned. -/
structure Only (g : Nat) (w w' : World) : Prop where
  os : w'.os = w.os
  tape : w'.tape = w.tape
  output : w'.output = w.output
  size : w'.heap.size = w.heap.size
  block : ∀ k, k ≠ g → w'.heap[k]? = w.heap[k]?
theorem Only.below {g B : Nat} {w w' : World} (h : Only g w w') (hg : B ≤ g) : Below B w w' := ⟨h.os, h.tape, h.output, Nat.le_of_eq h.size.symm, fun k hk => h.block k (by omega)⟩
theorem Only.grown {g : Nat} {w w' : World} (h : Only g w w') : w.grownBy w' (some g) := ⟨h.os, h.tape, h.output, Nat.le_of_eq h.size.symm, fun k _ hk => h.block k (fun e => hk (by rw [e]))⟩
theorem only_row (w : World) (g : Nat) (cs : Array Value) : Only g w (w.setRow g cs) := ⟨rfl, rfl, rfl, by simp, fun k hk => setRow_other w g k cs hk⟩
theorem key_info (K : Int) (f : Nat → Int) : (Try.prog.info? 59).map (·.size) = some (kc K f).size := by rw [kc_size]; kernel_rfl
theorem key_ones (K : Int) (f : Nat → Int) : (kc K f).all (·.oneCell') = true := by
  refine Array.all_eq_true_iff_forall_mem.2 fun v hv => ?_
  have hv : v ∈ kcl K f := by simpa [kc] using hv
  rcases List.mem_cons.1 hv with rfl | hv
  · rfl
  · obtain ⟨i, _, rfl⟩ := List.mem_map.1 hv; rfl
/-- a key stored, as a step of the list, and of a region that draws. -/
theorem wp_store_key {o : Oper} {a : Act} {w : World} {K' : Act → World → Prop} {Q : Exit → Act → World → Prop} (x y : Operand) (ho : o.op = .store 59 x y) (g : Nat) (hx : a.eval x = .pointer (some ⟨g, 0, none⟩)) (K : Int) (f : Nat → Int) (hy : a.eval y = .agg (kc K f))
    (K0 : Int) (f0 : Nat → Int) (hg : w.heap[g]? = some (.cells (kc K0 f0) 59 (0, 0))) (h : ∀ W', Only g w W' → W'.heap[g]? = some (.cells (kc K f) 59 (0, 0)) → K' (a.put o.dst undef) W') : o.wp Try.prog a w K' Q :=
  wp_store_row _ x y ho g (kc K f) hx hy _ (kc K0 f0) hg (key_info K f) (by rw [kc_size, kc_size]) (key_ones K f) (h _ (only_row _ _ _) (setRow_heap w g _ _ _ _ hg))
theorem wpList_store_key {ops : Array Oper} {rest : List Oper} {o : Oper} {a : Act} {w : World} {Q : Exit → Act → World → Prop} (hgd : o.guard = none) (x y : Operand) (ho : o.op = .store 59 x y) (g : Nat) (hx : a.eval x = .pointer (some ⟨g, 0, none⟩)) (K : Int) (f : Nat → Int) (hy : a.eval y = .agg (kc K f))
    (K0 : Int) (f0 : Nat → Int) (hg : w.heap[g]? = some (.cells (kc K0 f0) 59 (0, 0))) (h : ∀ W', Only g w W' → W'.heap[g]? = some (.cells (kc K f) 59 (0, 0)) → wpList Try.prog ops Q rest (a.put o.dst undef) W') : wpList Try.prog ops Q (o :: rest) a w :=
  wpList_plain hgd fun _ hK => wp_store_key x y ho g hx K f hy K0 f0 hg (fun W' h1 h2 => hK _ _ (h W' h1 h2))
theorem step_store_key {ops : Array Oper} {o : Oper} {a : Act} {w : World} {K' : Act → World → Prop} {Q : Exit → Act → World → Prop} {E : Prop} (hgd : o.guard = none) (x y : Operand) (ho : o.op = .store 59 x y) (g : Nat) (hx : a.eval x = .pointer (some ⟨g, 0, none⟩)) (K : Int) (f : Nat → Int) (hy : a.eval y = .agg (kc K f))
    (K0 : Int) (f0 : Nat → Int) (hg : w.heap[g]? = some (.cells (kc K0 f0) 59 (0, 0))) (h : ∀ W', Only g w W' → W'.heap[g]? = some (.cells (kc K f) 59 (0, 0)) → K' (a.put o.dst undef) W') : if Region.wanted o (yielded ops a.tmps) = true then Oper.wp Try.prog o a w K' Q else E := by
  have hw : Region.wanted o (yielded ops a.tmps) = true := by simp [Region.wanted, hgd]
  rw [if_pos hw]
  exact wp_store_key x y ho g hx K f hy K0 f0 hg h

set_option maxRecDepth 100000 in
/-- every key has a key's cells. -/
theorem key_agg {key : Value} {kl : Lit} (h : keyOf Try.prog 59 key = some kl) : ∃ x : Array Value, key = .agg x := by
  unfold keyOf at h
  rw [Try.underlying59] at h
  simp only at h
  split at h
  · rename_i hc
    rw [Bool.and_eq_true] at hc
    have hf := hc.2
    cases key <;> simp [Value.formed, Try.underlying59] at hf
    exact ⟨_, rfl⟩
  · cases h
theorem sv_inj {x y : Tv} (h : sv x = sv y) : x = y := by
  unfold sv at h
  simp only [Value.agg.injEq, Array.mk.injEq, List.cons.injEq, Value.slice.injEq, Value.int.injEq, and_true, true_and] at h
  obtain ⟨⟨h1, h2, h3⟩, h4⟩ := h
  rcases x with ⟨a, b, c, d⟩; rcases y with ⟨a', b', c', d'⟩
  simp only at h1 h2 h3 h4
  rw [h1, h2, h3, h4]

/-- keys of numbers. -/
def Kok (L : List Lit) : Prop := ∀ kl, kl ∈ L → ∃ K f, KeyOk K f ∧ kl = klOf K f
/-- the key that was used longest ago. -/
def OldSays (L : List Lit) (T : Lit → Tv) (w : World) (e : Ending) (w' : World) : Prop := ∃ K f, e = .returned (.agg (kc K f)) ∧ KeyOk K f ∧ klOf K f ∈ L ∧ (∀ y, y ∈ L → (T (klOf K f)).2.2.2 ≤ (T y).2.2.2) ∧ Below w.heap.size w w'
def OldRel (w : World) (b r : Nat) (L : List Lit) (T : Lit → Tv) (D : DataW Value) (tp : Int) (v : Value) (wr : World) (left : Lit → Bool) (cnt : Nat) (ls : Int) (K : Int) (f : Nat → Int) : Prop :=
  v = .int .i64 ls ∧ wr.ranges Try.prog 59 Rv b r L.length D left cnt ∧ (∀ kl, left kl = true → kl ∈ L) ∧ (∀ kl, kl ∈ L → left kl = false → ls ≤ (T kl).2.2.2) ∧ ls ≤ tp ∧
    wr.heap[w.heap.size + 1]? = some (.cells (kc K f) 59 (0, 0)) ∧ (ls = tp ∨ (KeyOk K f ∧ klOf K f ∈ L ∧ (T (klOf K f)).2.2.2 = ls)) ∧ wr.heap[w.heap.size]? = some (.cells (kc 0 fun _ => 0) 59 (0, 0)) ∧ Below w.heap.size w wr

set_option maxHeartbeats 2000000 in
set_option maxRecDepth 100000 in
theorem soldest_any (s b room : Nat) (hi mi tp : Int) (L : List Lit) (T : Lit → Tv) (hk : Kok L) (hL : L ≠ []) (h1 : 0 ≤ hi) (h2 : 0 ≤ mi) (h3 : hi + mi ≤ 1000000000000) (h4 : tp < hi + mi) (w : World) (h : Sh w s b room hi mi tp L T) :
    Calls Try.prog 54 #[.pointer (some ⟨s, 0, none⟩)] w (OldSays L T w) := by
  have hzk : ∀ w, (zeroValue 59).run Try.prog w = .ok (.agg kzero) w := zero_key
  rw [kzero_eq] at hzk
  have hzs : ∀ w, (zeroValue 110).run Try.prog w = .ok (sv (none, 0, 0, 0)) w := zero_spot
  unfold sv at hzs
  obtain ⟨w2, hw2⟩ : ∃ w2, w2 = (w.alloc (.cells (kc 0 fun _ => 0) 59)).alloc (.cells (kc 0 fun _ => 0) 59) := ⟨_, rfl⟩
  have hb2 : Below w.heap.size w w2 := by rw [hw2]; exact ((Below.refl _ w).alloc (Nat.le_refl _) _).alloc (by simp) _
  have k2 : w2.heap[w.heap.size]? = some (.cells (kc 0 fun _ => 0) 59 (0, 0)) := by rw [hw2]; exact heap_alloc2_old w _ _
  have k3 : w2.heap[w.heap.size + 1]? = some (.cells (kc 0 fun _ => 0) 59 (0, 0)) := by rw [hw2]; exact heap_alloc2_new w _ _
  have hs2 := h.same hb2
  have c1 := hs2.c1; have c2 := hs2.c2; have c3 := hs2.c3
  have hadd : IntKind.i64.wrap (hi + mi) = hi + mi := IntWalk.i64_in _ (by omega)
  obtain ⟨D, ho2, hd2⟩ := hs2.map
  have HO2 := Lib.hid (show w2.drew.ownsMap Try.prog 59 Rv b L.length D from ho2); have HD := Lib.hid hd2
  have HBL := Lib.hid h.map.lt
  have HLT := Lib.hid (show w.heap.size + 1 < w2.heap.size from (Array.getElem?_eq_some_iff.1 k3).1)
  have HW2 := Lib.hid hw2; have HB2 := Lib.hid hb2; have HK2 := Lib.hid k2; have HK3 := Lib.hid k3; have HS2 := Lib.hid hs2; have HKK := Lib.hid hk; have HLL := Lib.hid hL
  have HZK := Lib.hid hzk
  clear hw2 hb2 k2 k3 hs2 hk hL h ho2 hd2
  go_enter Try.func54, Try.ntmps54
  go_wp2_with fail
  rw [← HW2.out]
  go_region
  go_wp2_with (at_range; refine wpList_range_own _ rfl _ 83 rfl 59 110 key_law Try.underlying83 Rv b L.length D rfl HO2.out ?_; intro w0 hrg0 hg0 hs0)
  go_frame
  have HR0 := Lib.hid (show w0.ranges Try.prog 59 Rv b w2.heap.size L.length D (Maps.has D) (Maps.size D) from hrg0)
  have hb0 : Below w2.heap.size w2 w0 := ⟨hg0.os, hg0.tape, hg0.output, hg0.size, fun k hk => hg0.block k hk (by simp)⟩
  have HB0 := Lib.hid hb0
  have hlt2 : w.heap.size + 1 < w2.heap.size := HLT.out
  clear hrg0 hg0 hs0 hb0 c1 c2 c3
  go_loopw [4] (fun v wr => ∃ left cnt ls K f, OldRel w b w2.heap.size L T D (hi + mi) v wr left cnt ls K f) (fun _ wr => wr.rangeLeft b w2.heap.size)
  case atStart =>
    refine ⟨Maps.has D, Maps.size D, hi + mi, 0, fun _ => 0, rfl, HR0.out, fun kl hkl => ?_, fun kl hkl hf => ?_, Int.le_refl _, ?_, Or.inl rfl, ?_, HB2.out.trans (HB0.out.mono HB2.out.size)⟩
    · exact HD.out.hasIn kl hkl
    · rw [(HD.out.has kl (HD.out.key kl hkl)).2 hkl] at hf
      cases hf
    · rw [HB0.out.block _ hlt2]; exact HK3.out
    · rw [HB0.out.block _ (by omega)]; exact HK2.out
  case round =>
    obtain ⟨left, cnt, ls, K, f, rfl, hrg, hle, hdone, hls, hk3, hcand, hk2, hB⟩ := hrel
    have HRG := Lib.hid hrg; have HLE := Lib.hid hle; have HDO := Lib.hid hdone; have HK3r := Lib.hid hk3; have HCA := Lib.hid hcand; have HK2r := Lib.hid hk2; have HBr := Lib.hid hB
    have hszr := hB.size
    have hltr : w.heap.size + 1 < wr.heap.size := (Array.getElem?_eq_some_iff.1 hk3).1
    clear hrg hle hdone hk3 hcand hk2 hB
    go_wp2_with (at_next; refine wpList_next_ranges _ rfl _ rfl 59 key_law Rv Value.agg sv (fun key kl hk => key_agg hk) (fun v y hv => by obtain ⟨x, hx, _⟩ := Rv_inv hv; exact ⟨x, hx⟩) b w2.heap.size L.length D left cnt rfl HRG.out ?_ ?_)
    · intro hc0 hl0
      obtain ⟨y0, hy0⟩ : ∃ y, y ∈ L := by
        cases hLc : L with
        | nil => exact absurd hLc HLL.out
        | cons a t => exact ⟨a, by simp⟩
      have hall := fun y hy => HDO.out y hy (hl0 y)
      have hlt0 : ls < hi + mi := by
        have h5 := hall y0 hy0; have h6 := (HS2.out.top y0 hy0).2; omega
      have hca : KeyOk K f ∧ klOf K f ∈ L ∧ (T (klOf K f)).2.2.2 = ls := by
        rcases HCA.out with h5 | h5
        · omega
        · exact h5
      have HALL := Lib.hid hall; have HCC := Lib.hid hca
      clear hl0 hall hca hlt0 hy0 hc0
      go_wp2_with (first | (refine wpList_load_row rfl 59 _ rfl (w.heap.size + 1) rfl 59 (kc K f) (0, 0) _ HK3r.out Try.underlying59 rfl (key_info K f) ?_) | (refine wpList_store_key rfl _ _ rfl w.heap.size rfl K f rfl 0 (fun _ => 0) HK2r.out ?_; intro W' hO hk'; have HO' := Lib.hid hO; have HK' := Lib.hid hk'; clear hO hk'))
      (try simp only [Exit.inBlock, Exit.then])
      refine bodyPost_ret (results_cell_row rfl _ _ w.heap.size _ (kc K f) (0, 0) _ rfl HK'.out Try.underlying59 rfl (key_info K f)) rfl ?_
      exact ⟨K, f, rfl, HCC.out.1, HCC.out.2.1, fun y hy => by rw [HCC.out.2.2]; exact HALL.out y hy, HBr.out.trans (HO'.out.below (Nat.le_refl _))⟩
    · intro x ta tl tcp tu kl y1 y2 w3 cnt3 hkx hlk hRc hat hrg3 hlt3 hg3 hs3 hen
      have hklL := HLE.out kl hlk
      obtain ⟨K', f', hK', rfl⟩ := HKK.out kl hklL
      have hxx := key_law.inj hkx (klOf_eq hK')
      injection hxx with hxx
      subst hxx
      have htt : (ta, tl, tcp, tu) = T (klOf K' f') := by
        have h5 := hat .nil
        rw [HD.out.at_ _ hklL] at h5
        obtain ⟨x', hx', hy'⟩ := Rv_inv hRc
        have hy1 := congrArg Prod.fst hy'
        dsimp only at hy1
        rw [hy1] at h5
        simp only [DataW.held.injEq] at h5
        exact (sv_inj h5).symm
      have hu : (T (klOf K' f')).2.2.2 = tu := by rw [← htt]
      unfold sv at hen ⊢
      dsimp only at hen ⊢
      have hk33 : w3.heap[w.heap.size + 1]? = some (.cells (kc K f) 59 (0, 0)) := (hg3.block _ hltr (by simp; omega)).trans HK3r.out
      have hk23 : w3.heap[w.heap.size]? = some (.cells (kc 0 fun _ => 0) 59 (0, 0)) := (hg3.block _ (by omega) (by simp; omega)).trans HK2r.out
      have hB3 : Below w.heap.size w w3 := HBr.out.grown hg3 (Nat.le_of_lt (by omega)) (by intro k hk; cases hk; omega)
      have HRG3 := Lib.hid hrg3; have HK33 := Lib.hid hk33; have HK23 := Lib.hid hk23; have HB3 := Lib.hid hB3; have HU := Lib.hid hu; have HKL := Lib.hid hklL; have HKO := Lib.hid hK'
      have HLT3 := Lib.hid hlt3
      have hs3' : w.heap.size + 1 < w3.heap.size := by omega
      have hs3w : w2.heap.size < w3.heap.size := HRG3.out.lt
      have hbw : b < w.heap.size := HBL.out
      have hinf := 0
      clear hinf hs3
      clear hkx hlk hRc hat hrg3 hlt3 hg3 hk33 hk23 hB3 hu hklL hK' htt
      by_cases hc : tu < ls
      · go_wp2_with (refine wpList_store_key rfl _ _ rfl w3.heap.size rfl K' f' rfl 0 (fun _ => 0) (heap_alloc2_old w3 _ _) ?_; intro W' hO hk'; have sp' := (hO.block (w3.heap.size + 1) (by omega)).trans (heap_alloc2_new w3 _ _); have d0 := (cell_of_row W' (w3.heap.size + 1) 0 _ _ _ sp'); have d1 := (cell_of_row W' (w3.heap.size + 1) 1 _ _ _ sp'); have e0 := frozen_of_row W' (w3.heap.size + 1) 0 _ _ sp'; have e1 := frozen_of_row W' (w3.heap.size + 1) 1 _ _ sp'; have HO' := Lib.hid hO; have HK' := Lib.hid hk'; have HSP' := Lib.hid sp'; clear hO hk' sp')
        obtain ⟨w5, hw5⟩ : ∃ w5, w5 = (W'.setCell ⟨w3.heap.size + 1, 0, none⟩ (.slice ta tl tcp)).setCell ⟨w3.heap.size + 1, 1, none⟩ (.int .i64 tu) := ⟨_, rfl⟩
        have hkw : w5.heap[w3.heap.size]? = some (.cells (kc K' f') 59 (0, 0)) := by
          rw [hw5, heap_setCell_other _ _ _ _ (by show w3.heap.size ≠ w3.heap.size + 1; omega), heap_setCell_other _ _ _ _ (by show w3.heap.size ≠ w3.heap.size + 1; omega)]; exact HK'.out
        have hb5 : Below w3.heap.size w3 w5 := by
          rw [hw5]
          exact (((((Below.refl _ w3).alloc (Nat.le_refl _) _).alloc (by simp) _).trans (HO'.out.below (Nat.le_refl _))).setCell (by show w3.heap.size ≤ w3.heap.size + 1; omega) _).setCell (by show w3.heap.size ≤ w3.heap.size + 1; omega) _
        have hc5 : w5.cell? ⟨w3.heap.size + 1, 1, none⟩ = some (.int .i64 tu) := by
          have h6 : (W'.setCell ⟨w3.heap.size + 1, 0, none⟩ (.slice ta tl tcp)).cell? ⟨w3.heap.size + 1, 1, none⟩ = some (.int .i64 0) := by
            rw [World.cell?_setCell_other _ _ _ _ (by intro hh; cases hh)]; exact d1
          rw [hw5, World.cell?_setCell_same _ _ _ h6]
        have hk35 := (hb5.block _ hs3').trans HK33.out
        rw [← hw5]
        have HKW := Lib.hid (fun (W : World) (hW : W.heap[w3.heap.size]? = w5.heap[w3.heap.size]? ∧ W.heap[w3.heap.size + 1]? = w5.heap[w3.heap.size + 1]?) => hW.1.trans hkw)
        have HCW := Lib.hid (fun (W : World) (hW : W.heap[w3.heap.size]? = w5.heap[w3.heap.size]? ∧ W.heap[w3.heap.size + 1]? = w5.heap[w3.heap.size + 1]?) => (show W.cell? ⟨w3.heap.size + 1, 1, none⟩ = some (.int .i64 tu) from by rw [← hc5]; simp only [World.cell?, hW.2]))
        have HB5 := Lib.hid hb5; have HK35 := Lib.hid hk35
        clear d0 d1 e0 e1 hw5 hkw hb5 hc5 hk35 HO' HK' HSP' hen
        refine wp_region_held_drew (S := fun W => W.heap[w3.heap.size]? = w5.heap[w3.heap.size]? ∧ W.heap[w3.heap.size + 1]? = w5.heap[w3.heap.size + 1]?) (by kernel_rfl) ⟨rfl, rfl⟩ (fun hHeld => ?_)
        refine wpAnyH_take (i := 0) (oi := ⟨some 30, .load 59 (.tmp 5), _, _, _, none⟩) (v := (.agg (kc K' f'))) rfl (by kernel_rfl) (by kernel_rfl) (by kernel_rfl) (fun _ _ _ h => h) (yields_key (g := w3.heap.size) (by rfl) (fun W hW => HKW.out W hW)) (by assumption) ?_
        simp only [Act.put, List.setIfInBounds_toArray, List.set_cons_zero, List.set_cons_succ]
        refine wpAnyH_take (i := 1) (oi := ⟨some 31, .fieldAddr 110 (.tmp 6) 1, _, _, _, none⟩) (v := (.pointer (some ⟨w3.heap.size + 1, 1, none⟩))) rfl (by kernel_rfl) (by kernel_rfl) (by kernel_rfl) (fun _ _ _ h => h) (Or.inl ⟨by rfl, fun W hW => ?_⟩) (by assumption) ?_
        · go_simp
        simp only [Act.put, List.setIfInBounds_toArray, List.set_cons_zero, List.set_cons_succ]
        refine wpAnyH_take (i := 2) (oi := ⟨some 32, .load 3 (.tmp 31), _, _, _, none⟩) (v := (.int .i64 tu)) rfl (by kernel_rfl) (by kernel_rfl) (by kernel_rfl) (fun _ _ _ h => h) (Or.inl ⟨by rfl, fun W hW => ?_⟩) (by assumption) ?_
        · have := HCW.out W hW; go_simp
        simp only [Act.put, List.setIfInBounds_toArray, List.set_cons_zero, List.set_cons_succ]
        refine wpAnyH_ready (rs := [3]) (by kernel_rfl) (by simp) (AllReadyH.cons rfl (fun KK hKK => ?_) AllReadyH.nil)
        refine step_store_key rfl _ _ rfl (w.heap.size + 1) (by rfl) K' f' (by rfl) K f HK35.out ?_
        intro w6 hO6 hk6
        refine hKK.out _ _ ⟨hO6.block _ (by omega), hO6.block _ (by omega)⟩ (fun hHeld => ?_)
        clear hKK KK
        have HO6 := Lib.hid hO6; have HK6 := Lib.hid hk6
        clear hO6 hk6
        refine wpAnyH_take (i := 4) (oi := ⟨some 4, .assign (.tmp 32), _, _, _, none⟩) (v := (.int .i64 tu)) rfl (by kernel_rfl) (by kernel_rfl) (by kernel_rfl) (fun _ _ _ h => h) (Or.inl ⟨by rfl, fun W hW => ?_⟩) (by assumption) ?_
        · go_simp
        simp only [Act.put, List.setIfInBounds_toArray, List.set_cons_zero, List.set_cons_succ]
        refine wpAnyH_done (by kernel_rfl) ?_ _
        clear hHeld
        have hgr : w3.grownBy w6 (some (w.heap.size + 1)) := (show w3.grownBy w5.drew _ from grownBelow (below_dr HB5.out 1) _).trans HO6.out.grown
        have hrg6 := HRG3.out.kept hgr (by simp; omega) (by simp; omega)
        have hB6 : Below w.heap.size w w6 := (show Below w.heap.size w w5.drew from below_dr (HB3.out.trans (HB5.out.mono (Nat.le_of_lt (by omega)))) 1).trans (HO6.out.below (Nat.le_succ _))
        have hk26 : w6.heap[w.heap.size]? = some (.cells (kc 0 fun _ => 0) 59 (0, 0)) := (HO6.out.block _ (by omega)).trans ((HB5.out.block _ (by omega)).trans HK23.out)
        have HRG6 := Lib.hid hrg6; have HB6 := Lib.hid hB6; have HK26 := Lib.hid hk26
        clear hgr hrg6 hB6 hk26
        go_wp2
        go_roundw
        case rel => exact ⟨_, cnt3, tu, K', f', rfl, HRG6.out, fun kl hkl => HLE.out kl (by simp at hkl; exact hkl.1), fun kl hkl hf => by
            by_cases e : left kl = true
            · rw [e] at hf
              simp only [Bool.true_and, Bool.not_eq_false'] at hf
              rw [WideAt.sameKey_eq hf, HU.out]; exact Int.le_refl _
            · have := HDO.out kl hkl (by simpa using e); omega, by omega, HK6.out, Or.inr ⟨HKO.out, HKL.out, HU.out⟩, HK26.out, HB6.out⟩
        case measure => rw [HRG6.out.left_eq, HRG.out.left_eq]; exact HLT3.out
      · go_wp2_with (refine wpList_store_key rfl _ _ rfl w3.heap.size rfl K' f' rfl 0 (fun _ => 0) (heap_alloc2_old w3 _ _) ?_; intro W' hO hk'; have sp' := (hO.block (w3.heap.size + 1) (by omega)).trans (heap_alloc2_new w3 _ _); have d0 := (cell_of_row W' (w3.heap.size + 1) 0 _ _ _ sp'); have d1 := (cell_of_row W' (w3.heap.size + 1) 1 _ _ _ sp'); have e0 := frozen_of_row W' (w3.heap.size + 1) 0 _ _ sp'; have e1 := frozen_of_row W' (w3.heap.size + 1) 1 _ _ sp'; have HO' := Lib.hid hO; have HK' := Lib.hid hk'; have HSP' := Lib.hid sp'; clear hO hk' sp')
        obtain ⟨w5, hw5⟩ : ∃ w5, w5 = (W'.setCell ⟨w3.heap.size + 1, 0, none⟩ (.slice ta tl tcp)).setCell ⟨w3.heap.size + 1, 1, none⟩ (.int .i64 tu) := ⟨_, rfl⟩
        have hb5 : Below w3.heap.size w3 w5 := by
          rw [hw5]
          exact (((((Below.refl _ w3).alloc (Nat.le_refl _) _).alloc (by simp) _).trans (HO'.out.below (Nat.le_refl _))).setCell (by show w3.heap.size ≤ w3.heap.size + 1; omega) _).setCell (by show w3.heap.size ≤ w3.heap.size + 1; omega) _
        rw [← hw5]
        have hrg6 := HRG3.out.kept (grownBelow hb5 none) (by simp) (by simp)
        have hB6 : Below w.heap.size w w5 := HB3.out.trans (hb5.mono (by omega))
        have hk26 : w5.heap[w.heap.size]? = some (.cells (kc 0 fun _ => 0) 59 (0, 0)) := (hb5.block _ (by omega)).trans HK23.out
        have hk36 : w5.heap[w.heap.size + 1]? = some (.cells (kc K f) 59 (0, 0)) := (hb5.block _ (by omega)).trans HK33.out
        have HRG6 := Lib.hid hrg6; have HB6 := Lib.hid hB6; have HK26 := Lib.hid hk26; have HK36 := Lib.hid hk36
        clear hrg6 hB6 hk26 hk36 hb5 hw5 d0 d1 e0 e1 HO' HK' HSP' hen
        go_wp2
        go_roundw
        case rel => exact ⟨_, cnt3, ls, K, f, rfl, HRG6.out, fun kl hkl => HLE.out kl (by simp at hkl; exact hkl.1), fun kl hkl hf => by
            by_cases e : left kl = true
            · rw [e] at hf
              simp only [Bool.true_and, Bool.not_eq_false'] at hf
              rw [WideAt.sameKey_eq hf, HU.out]; omega
            · exact HDO.out kl hkl (by simpa using e), hls, HK36.out, HCA.out, HK26.out, HB6.out⟩
        case measure => rw [HRG6.out.left_eq, HRG.out.left_eq]; exact HLT3.out
end Go.Proofs.Ytfiafccfkfillaa

namespace Go.Proofs.Ytfiafccfkfillaa
open Go.RowKit Go.Shelf Go.Maps

/-- how many things a map holds, in a region that draws. -/
theorem yields_len {ops : Array Oper} {S : World → Prop} {a : Act} {dst : Option Tmp} {typ : TypeId} {pos : String} {aft : Array Edge} {x : Operand} {b : Nat} {L : List Lit} {T : Lit → Tv} (hx : a.eval x = .map (some b)) (hS : ∀ W, S W → Mp W b L T) :
    YieldsIf Try.prog ops S ⟨dst, .call { callee := Callee.builtin Builtin.len, args := #[x], argTypes := #[83] }, typ, pos, aft, none⟩ (.int .i64 (L.length : Nat)) a := Or.inl ⟨by simp [Region.wanted], fun W hW => by
  have h := (hS W hW).len typ
  simp [execOp, resolve, invoke, builtin, hx, h, Result.andThen]⟩
/-- a key struck, as a step of a region that draws. -/
theorem step_del {ops : Array Oper} {o : Oper} {a : Act} {w : World} {K : Act → World → Prop} {Q : Exit → Act → World → Prop} {E : Prop} (hg : o.guard = none) (m x : Operand) (t k : TypeId) (hop : o.op = Op.call { callee := Callee.builtin Builtin.delete, args := #[m, x], argTypes := #[t, k] }) (mv key : Value)
    (hm : a.eval m = mv) (hx : a.eval x = key) (w' : World) (hr : (Builtin.delete_ #[t, k] o.type #[mv, key]).run Try.prog w = .ok (.tuple #[]) w') (hK : K (a.put o.dst (.tuple #[])) w') :
    if Region.wanted o (yielded ops a.tmps) = true then Oper.wp Try.prog o a w K Q else E := by
  have hw : Region.wanted o (yielded ops a.tmps) = true := by simp [Region.wanted, hg]
  rw [if_pos hw]
  unfold Oper.wp
  simp [execOp, hop, resolve, invoke, builtin, hm, hx, hr, Result.andThen]
  exact hK
theorem Sh.del {w w' : World} {s b room : Nat} {hi mi tp : Int} {L : List Lit} {T : Lit → Tv} {k : Lit} (h : Sh w s b room hi mi tp L T) (hm : Mp w' b (out L k) T) (ht : w.mapTurned w' b) : Sh w' s b room hi mi tp (out L k) T where
  blk := by rw [ht.grown.block s h.lt (fun e => h.ne (by cases e; rfl))]; exact h.blk
  map := hm
  inc := h.inc.filter _
  top y hy := h.top y (mem_out.1 hy).1
  room := ⟨Nat.le_trans (List.length_filter_le _ _) h.room.1, h.room.2⟩
/-- what is left where there is no room. -/
def dropL (room : Nat) (L : List Lit) : List Lit := if L.length = room then L.tail else L
theorem out_first {L : List Lit} {T : Lit → Tv} {k : Lit} (h : L.Pairwise fun x y => (T x).2.2.2 < (T y).2.2.2) (hk : k ∈ L) (hm : ∀ y, y ∈ L → (T k).2.2.2 ≤ (T y).2.2.2) : out L k = L.tail := by
  cases L with
  | nil => cases hk
  | cons a t =>
    obtain ⟨h1, h2⟩ := List.pairwise_cons.1 h
    have e : a = k := by
      rcases List.mem_cons.1 hk with e | e
      · exact e.symm
      · have h3 := h1 k e; have h4 := hm a (by simp); omega
    subst e
    have : out (a :: t) a = out t a := by simp [out]
    rw [this, out_no (fun hh => by have := h1 a hh; omega)]; rfl

/-- what a put leaves. -/
def PutSays (s b room : Nat) (hi mi : Int) (L : List Lit) (T : Lit → Tv) (k : Lit) (a : Option Addr) (l c : Nat) (w : World) (e : Ending) (w' : World) : Prop :=
  e = .returned (.tuple #[]) ∧ Sh w' s b room hi (mi + 1) (hi + (mi + 1)) (dropL room L ++ [k]) (onT T k (a, l, c, hi + (mi + 1))) ∧ But s b w w'

set_option maxHeartbeats 2000000 in
set_option maxRecDepth 100000 in
theorem sput_any (s b room : Nat) (hi mi : Int) (L : List Lit) (T : Lit → Tv) (K : Int) (f : Nat → Int) (hK : KeyOk K f) (a : Option Addr) (l c : Nat) (hk : Kok L) (hn : klOf K f ∉ L) (h1 : 0 ≤ hi) (h2 : 0 ≤ mi) (h3 : hi + mi ≤ 100000000000) (w : World) (h : Sh w s b room hi mi (hi + mi) L T) :
    Calls Try.prog 41 #[.pointer (some ⟨s, 0, none⟩), .agg (kc K f), .slice a l c] w (PutSays s b room hi mi L T (klOf K f) a l c w) := by
  have hal : Below w.heap.size w (w.alloc (.cells (kc K f) 59)) := (Below.refl _ w).alloc (Nat.le_refl _) _
  have c3 := (h.same hal).c3
  have f3 := (h.same hal).free 3
  have hadd : IntKind.i64.wrap (mi + 1) = mi + 1 := IntWalk.i64_in _ (by omega)
  have hslt := h.lt; have hblt := h.map.lt
  obtain ⟨w2, hw2⟩ : ∃ w2, w2 = (w.setCell ⟨s, 3, none⟩ (.int .i64 (mi + 1))).alloc (.cells (kc K f) 59) := ⟨_, rfl⟩
  have hal2 : Below w.heap.size (w.setCell ⟨s, 3, none⟩ (.int .i64 (mi + 1))) w2 := by rw [hw2]; exact (Below.refl _ _).alloc (by simp) _
  have hs2 : Sh w2 s b room hi (mi + 1) (hi + mi) L T := (h.setMi (mi + 1)).same (hal2.mono (by simp))
  have hk2 : w2.heap[w.heap.size]? = some (.cells (kc K f) 59 (0, 0)) := by
    rw [hw2]
    have := heap_alloc_new (w.setCell ⟨s, 3, none⟩ (.int .i64 (mi + 1))) (.cells (kc K f) 59)
    simpa using this
  have hb2 : But s b w w2 := (but_set w).trans (But.of (hal2.mono (by simp)))
  have HW2 := Lib.hid hw2; have HKK := Lib.hid hk; have HN := Lib.hid hn
  have HC0 := Lib.hid (fun (W : World) (hW : Below w2.heap.size w2 W) => (hs2.same hW).c0)
  have HC1 := Lib.hid (fun (W : World) (hW : Below w2.heap.size w2 W) => (hs2.same hW).c1)
  have HM := Lib.hid (fun (W : World) (hW : Below w2.heap.size w2 W) => (hs2.same hW).map)
  have HS2 := Lib.hid hs2; have HK2 := Lib.hid hk2; have HB2 := Lib.hid hb2
  have hrm := hs2.room
  clear hal h hk hn hw2 hal2 hs2 hk2 hb2
  go_enter Try.func41, Try.ntmps41
  go_wp2_with fail
  rw [← HW2.out]
  clear c3 f3
  refine wp_region_held_drew (S := fun W => Below w2.heap.size w2 W) (by kernel_rfl) (below_dr (Below.refl _ w2) 1) (fun hHeld => ?_)
  refine wpAnyH_take (i := 0) (oi := ⟨some 13, .move (.tmp 0), _, _, _, none⟩) (v := (.pointer (some ⟨s, 0, none⟩))) rfl (by kernel_rfl) (by kernel_rfl) (by kernel_rfl) (fun _ _ _ h => h) (Or.inl ⟨by rfl, fun W hW => ?_⟩) (by assumption) ?_
  · go_simp
  simp only [Act.put, List.setIfInBounds_toArray, List.set_cons_zero, List.set_cons_succ]
  refine wpAnyH_take (i := 1) (oi := ⟨some 14, .nilCheck (.tmp 13), _, _, _, none⟩) (v := (.pointer (some ⟨s, 0, none⟩))) rfl (by kernel_rfl) (by kernel_rfl) (by kernel_rfl) (fun _ _ _ h => h) (Or.inl ⟨by rfl, fun W hW => ?_⟩) (by assumption) ?_
  · go_simp
  simp only [Act.put, List.setIfInBounds_toArray, List.set_cons_zero, List.set_cons_succ]
  refine wpAnyH_take (i := 2) (oi := ⟨some 15, .fieldAddr 85 (.tmp 14) 1, _, _, _, none⟩) (v := (.pointer (some ⟨s, 1, none⟩))) rfl (by kernel_rfl) (by kernel_rfl) (by kernel_rfl) (fun _ _ _ h => h) (Or.inl ⟨by rfl, fun W hW => ?_⟩) (by assumption) ?_
  · go_simp
  simp only [Act.put, List.setIfInBounds_toArray, List.set_cons_zero, List.set_cons_succ]
  refine wpAnyH_take (i := 3) (oi := ⟨some 16, .load 83 (.tmp 15), _, _, _, none⟩) (v := (.map (some b))) rfl (by kernel_rfl) (by kernel_rfl) (by kernel_rfl) (fun _ _ _ h => h) (Or.inl ⟨by rfl, fun W hW => ?_⟩) (by assumption) ?_
  · have := HC1.out W hW; go_simp
  simp only [Act.put, List.setIfInBounds_toArray, List.set_cons_zero, List.set_cons_succ]
  refine wpAnyH_take (i := 4) (oi := ⟨some 17, .call { callee := Callee.builtin Builtin.len, args := #[.tmp 16], argTypes := #[83] }, _, _, _, none⟩) (v := (.int .i64 (L.length : Nat))) rfl (by kernel_rfl) (by kernel_rfl) (by kernel_rfl) (fun _ _ _ h => h) (yields_len (T := T) (by rfl) (fun W hW => HM.out W hW)) (by assumption) ?_
  simp only [Act.put, List.setIfInBounds_toArray, List.set_cons_zero, List.set_cons_succ]
  refine wpAnyH_take (i := 5) (oi := ⟨some 18, .move (.tmp 0), _, _, _, none⟩) (v := (.pointer (some ⟨s, 0, none⟩))) rfl (by kernel_rfl) (by kernel_rfl) (by kernel_rfl) (fun _ _ _ h => h) (Or.inl ⟨by rfl, fun W hW => ?_⟩) (by assumption) ?_
  · go_simp
  simp only [Act.put, List.setIfInBounds_toArray, List.set_cons_zero, List.set_cons_succ]
  refine wpAnyH_take (i := 6) (oi := ⟨some 19, .nilCheck (.tmp 18), _, _, _, none⟩) (v := (.pointer (some ⟨s, 0, none⟩))) rfl (by kernel_rfl) (by kernel_rfl) (by kernel_rfl) (fun _ _ _ h => h) (Or.inl ⟨by rfl, fun W hW => ?_⟩) (by assumption) ?_
  · go_simp
  simp only [Act.put, List.setIfInBounds_toArray, List.set_cons_zero, List.set_cons_succ]
  refine wpAnyH_take (i := 7) (oi := ⟨some 20, .fieldAddr 85 (.tmp 19) 0, _, _, _, none⟩) (v := (.pointer (some ⟨s, 0, none⟩))) rfl (by kernel_rfl) (by kernel_rfl) (by kernel_rfl) (fun _ _ _ h => h) (Or.inl ⟨by rfl, fun W hW => ?_⟩) (by assumption) ?_
  · go_simp
  simp only [Act.put, List.setIfInBounds_toArray, List.set_cons_zero, List.set_cons_succ]
  refine wpAnyH_take (i := 8) (oi := ⟨some 21, .load 3 (.tmp 20), _, _, _, none⟩) (v := (.int .i64 (room : Nat))) rfl (by kernel_rfl) (by kernel_rfl) (by kernel_rfl) (fun _ _ _ h => h) (Or.inl ⟨by rfl, fun W hW => ?_⟩) (by assumption) ?_
  · have := HC0.out W hW; go_simp
  simp only [Act.put, List.setIfInBounds_toArray, List.set_cons_zero, List.set_cons_succ]
  refine wpAnyH_take (i := 9) (oi := ⟨some 22, .binOp .eql 3 (.tmp 17) (.tmp 21) 3, _, _, _, none⟩) (v := (.bool ((L.length : Int) == (room : Int)))) rfl (by kernel_rfl) (by kernel_rfl) (by kernel_rfl) (fun _ _ _ h => h) (Or.inl ⟨by rfl, fun W hW => ?_⟩) (by assumption) ?_
  · go_simp
  simp only [Act.put, List.setIfInBounds_toArray, List.set_cons_zero, List.set_cons_succ]
  refine wpAnyH_done (by kernel_rfl) ?_ _
  clear hHeld
  obtain ⟨w3, hw3⟩ : ∃ w3, w3 = w2.drew := ⟨_, rfl⟩
  rw [← hw3]
  have hb3 : Below w2.heap.size w2 w3 := by rw [hw3]; exact below_dr (Below.refl _ w2) 1
  have HS3 := Lib.hid (HS2.out.same hb3); have HB3 := Lib.hid (HB2.out.trans (But.of hb3))
  have hlt2 : w.heap.size < w2.heap.size := (Array.getElem?_eq_some_iff.1 HK2.out).1
  have HK3 := Lib.hid ((hb3.block _ hlt2).trans HK2.out)
  clear hw3 hb3
  by_cases hroom : L.length = room
  · have g1 : ((L.length : Int) == (room : Int)) = true := by simp [hroom]
    have HR := Lib.hid hroom; clear hroom
    go_wp2_with fail
    have HCW := Lib.hid (fun (W : World) (hW : W.heap[s]? = w3.heap[s]?) => (show W.cell? ⟨s, 1, none⟩ = some (.map (some b)) from by rw [cell_of_row W s 1 _ _ _ (hW.trans HS3.out.blk)]; rfl))
    have hL : L ≠ [] := by
      intro e
      have := HR.out
      rw [e] at this
      simp at this; omega
    have HLN := Lib.hid hL; clear hL
    refine wp_region_held_drew (S := fun W => W.heap[s]? = w3.heap[s]?) (by kernel_rfl) rfl (fun hHeld => ?_)
    refine wpAnyH_take (i := 0) (oi := ⟨some 23, .move (.tmp 0), _, _, _, none⟩) (v := (.pointer (some ⟨s, 0, none⟩))) rfl (by kernel_rfl) (by kernel_rfl) (by kernel_rfl) (fun _ _ _ h => h) (Or.inl ⟨by rfl, fun W hW => ?_⟩) (by assumption) ?_
    · go_simp
    simp only [Act.put, List.setIfInBounds_toArray, List.set_cons_zero, List.set_cons_succ]
    refine wpAnyH_take (i := 1) (oi := ⟨some 24, .nilCheck (.tmp 23), _, _, _, none⟩) (v := (.pointer (some ⟨s, 0, none⟩))) rfl (by kernel_rfl) (by kernel_rfl) (by kernel_rfl) (fun _ _ _ h => h) (Or.inl ⟨by rfl, fun W hW => ?_⟩) (by assumption) ?_
    · go_simp
    simp only [Act.put, List.setIfInBounds_toArray, List.set_cons_zero, List.set_cons_succ]
    refine wpAnyH_take (i := 2) (oi := ⟨some 25, .fieldAddr 85 (.tmp 24) 1, _, _, _, none⟩) (v := (.pointer (some ⟨s, 1, none⟩))) rfl (by kernel_rfl) (by kernel_rfl) (by kernel_rfl) (fun _ _ _ h => h) (Or.inl ⟨by rfl, fun W hW => ?_⟩) (by assumption) ?_
    · go_simp
    simp only [Act.put, List.setIfInBounds_toArray, List.set_cons_zero, List.set_cons_succ]
    refine wpAnyH_take (i := 3) (oi := ⟨some 26, .load 83 (.tmp 25), _, _, _, none⟩) (v := (.map (some b))) rfl (by kernel_rfl) (by kernel_rfl) (by kernel_rfl) (fun _ _ _ h => h) (Or.inl ⟨by rfl, fun W hW => ?_⟩) (by assumption) ?_
    · have := HCW.out W hW; go_simp
    simp only [Act.put, List.setIfInBounds_toArray, List.set_cons_zero, List.set_cons_succ]
    refine wpAnyH_take (i := 4) (oi := ⟨some 27, .move (.tmp 0), _, _, _, none⟩) (v := (.pointer (some ⟨s, 0, none⟩))) rfl (by kernel_rfl) (by kernel_rfl) (by kernel_rfl) (fun _ _ _ h => h) (Or.inl ⟨by rfl, fun W hW => ?_⟩) (by assumption) ?_
    · go_simp
    simp only [Act.put, List.setIfInBounds_toArray, List.set_cons_zero, List.set_cons_succ]
    refine wpAnyH_ready (rs := [5]) (by kernel_rfl) (by simp) (AllReadyH.cons rfl (fun KK hKK => ?_) AllReadyH.nil)
    go_simp
    refine (soldest_any s b room hi (mi + 1) (hi + mi) L T HKK.out HLN.out h1 (by omega) (by omega) (by omega) _ (HS3.out.same (below_dr (Below.refl _ w3) 1))).mono ?_
    rintro e w4 ⟨K0, f0, rfl, hK0, hk0, hmin, hB4⟩
    dsimp only
    have hs4 := HS3.out.same ((below_dr (Below.refl _ w3) 1).trans hB4)
    refine hKK.out _ _ (hB4.block s HS3.out.lt) (fun hHeld => ?_)
    clear hKK KK
    obtain ⟨w5, hr5, hm5, ht5⟩ := hs4.map.del (klOf_eq hK0) 0
    have hs5 := hs4.del hm5 ht5
    have hk4 : w4.heap[w.heap.size]? = some (.cells (kc K f) 59 (0, 0)) := (hB4.block _ (Array.getElem?_eq_some_iff.1 HK3.out).1).trans HK3.out
    have hk5 : w5.heap[w.heap.size]? = some (.cells (kc K f) 59 (0, 0)) := (ht5.grown.block _ (Array.getElem?_eq_some_iff.1 hk4).1 (by simp; omega)).trans hk4
    have hb5 : But s b w w5 := HB3.out.trans ((But.of (show Below w3.heap.size w3 w4 from (below_dr (Below.refl _ w3) 1).trans hB4)).trans (But.turned ht5))
    have hout := out_first HS3.out.inc hk0 hmin
    rw [hout] at hs5
    have HS5 := Lib.hid hs5; have HK5 := Lib.hid hk5; have HB5 := Lib.hid hb5; have HR5 := Lib.hid hr5
    have HH5 := Lib.hid (show w5.heap[s]? = w3.heap[s]? from (ht5.grown.block s hs4.lt (fun e => hs4.ne (by cases e; rfl))).trans (hB4.block s HS3.out.lt))
    clear hs4 hr5 hm5 ht5 hs5 hk4 hk5 hb5 hout hB4 hK0 hk0 hmin hHeld
    refine wpAnyH_ready (rs := [6]) (by kernel_rfl) (by simp) (AllReadyH.cons rfl (fun KK hKK => ?_) AllReadyH.nil)
    refine step_del rfl _ _ _ _ rfl (.map (some b)) (.agg (kc K0 f0)) (by rfl) (by rfl) w5 HR5.out ?_
    refine hKK.out _ _ HH5.out (fun hHeld => ?_)
    clear hKK KK hHeld
    refine wpAnyH_done (by kernel_rfl) ?_ _
    have hroom2 : (out L.tail (klOf K f) ++ [klOf K f]).length ≤ room := by
      rw [out_no (fun hh => HN.out (List.mem_of_mem_tail hh)), List.length_append, List.length_singleton]
      rw [List.length_tail, HR.out]; omega
    have HLE := Lib.hid (fun hh => HN.out (List.mem_of_mem_tail hh) : klOf K f ∉ L.tail)
    go_wp2_with (refine wpList_load_row rfl 59 _ rfl w.heap.size rfl 59 (kc K f) (0, 0) _ HK5.out Try.underlying59 rfl (key_info K f) ?_)
    refine (suse_any s b room hi (mi + 1) (hi + mi) L.tail T K f hK a l c h1 (by omega) (by omega) (by omega) hroom2 _ HS5.out).mono ?_
    rintro e w6 ⟨rfl, hS6, hB6⟩
    have HS6 := Lib.hid hS6; have HB6 := Lib.hid (HB5.out.trans hB6)
    clear hS6 hB6
    go_wp2
    go_end0
    refine ⟨rfl, ?_, HB6.out⟩
    have h5 := HS6.out
    rw [out_no HLE.out] at h5
    unfold dropL
    rw [if_pos HR.out]
    exact h5
  · have g1 : ((L.length : Int) == (room : Int)) = false := eq_no hroom
    have HR := Lib.hid hroom; clear hroom
    have hroom2 : (out L (klOf K f) ++ [klOf K f]).length ≤ room := by
      rw [out_no (HN.out), List.length_append, List.length_singleton]
      have := HR.out; omega
    have HLE := Lib.hid (HN.out : klOf K f ∉ L)
    go_wp2_with (refine wpList_load_row rfl 59 _ rfl w.heap.size rfl 59 (kc K f) (0, 0) _ HK3.out Try.underlying59 rfl (key_info K f) ?_)
    refine (suse_any s b room hi (mi + 1) (hi + mi) L T K f hK a l c h1 (by omega) (by omega) (by omega) hroom2 _ HS3.out).mono ?_
    rintro e w6 ⟨rfl, hS6, hB6⟩
    have HS6 := Lib.hid hS6; have HB6 := Lib.hid (HB3.out.trans hB6)
    clear hS6 hB6
    go_wp2
    go_end0
    refine ⟨rfl, ?_, HB6.out⟩
    have h5 := HS6.out
    rw [out_no HLE.out] at h5
    unfold dropL
    rw [if_neg HR.out]
    exact h5
end Go.Proofs.Ytfiafccfkfillaa

namespace Go.Proofs.Ytfiafccfkfillaa
open Go.RowKit Go.Shelf Go.Maps

theorem built_key (K : Int) : Try.prog.built 59 [(0, .int .i64 K)] = some (kc K fun _ => 0) := by kernel_rfl
theorem built_none : Try.prog.built 59 [] = some (kc 0 fun _ => 0) := by kernel_rfl
theorem wpList_build_key {ops : Array Oper} {rest : List Oper} {o : Oper} {a : Act} {w : World} {Q : Exit → Act → World → Prop} (hgd : o.guard = none) (x : Operand) (ho : o.op = .build 59 #[(0, x)]) (K : Int) (hx : a.eval x = .int .i64 K)
    (h : wpList Try.prog ops Q rest (a.put o.dst (.agg (kc K fun _ => 0))) w) : wpList Try.prog ops Q (o :: rest) a w :=
  wpList_plain hgd fun K' hK => by
    unfold Oper.wp execOp
    have hr := run_build (P := Try.prog) w 59 #[(0, .int .i64 K)] (kc K fun _ => 0) (built_key K)
    simp only [ho, List.map_toArray, List.map_cons, List.map_nil, hx, Sem.run_bind, hr, Result.andThen_ok]
    exact hK _ _ h
theorem wpList_build_none {ops : Array Oper} {rest : List Oper} {o : Oper} {a : Act} {w : World} {Q : Exit → Act → World → Prop} (hgd : o.guard = none) (ho : o.op = .build 59 #[])
    (h : wpList Try.prog ops Q rest (a.put o.dst (.agg (kc 0 fun _ => 0))) w) : wpList Try.prog ops Q (o :: rest) a w :=
  wpList_plain hgd fun K' hK => by
    unfold Oper.wp execOp
    have hr := run_build (P := Try.prog) w 59 #[] (kc 0 fun _ => 0) built_none
    simp only [ho, List.map_toArray, List.map_nil, Sem.run_bind, hr, Result.andThen_ok]
    exact hK _ _ h

/-- the first indexes, as a key has them. -/
def ky (k : Nat) (h : Nat → Int) (i : Nat) : Int := if i < k then h i else 0
/-- a key that there is. -/
def GoodK (K : Int) (m : Nat) (h : Nat → Int) : Prop := 1 ≤ K ∧ K ≤ 255 ∧ K ≤ m ∧ ∀ i : Nat, (i : Int) < K → 0 ≤ h i ∧ h i < 255
theorem good_ok {k m : Nat} {h : Nat → Int} (g : GoodK (k : Nat) m h) : KeyOk (k : Nat) (ky k h) := ⟨⟨by have := g.1; omega, g.2.1⟩, fun i _ => by
  unfold ky; split
  · have := g.2.2.2 i (by omega); omega
  · omega⟩
theorem kc_set {K : Int} {f f' : Nat → Int} {t : Nat} {v : Int} (ht : t < 255) (hv : f' t = v) (ho : ∀ i, i ≠ t → f' i = f i) : (kc K f).setIfInBounds (1 + t) (.int .u8 v) = kc K f' := by
  refine Array.ext_getElem? fun j => ?_
  rw [Array.getElem?_setIfInBounds]
  rcases j with _ | j
  · rw [if_neg (by omega), kc_0, kc_0]
  · by_cases e : j = t
    · subst e
      rw [if_pos (by omega), if_pos (by rw [kc_size]; omega), kc_s _ _ ht, hv]
    · rw [if_neg (by omega)]
      by_cases hj : j < 255
      · rw [kc_s _ _ hj, kc_s _ _ hj, ho j e]
      · rw [Array.getElem?_eq_none (by rw [kc_size]; omega), Array.getElem?_eq_none (by rw [kc_size]; omega)]
/-- what keyOf answers. -/
def KeySays (K : Int) (m : Nat) (h : Nat → Int) (w : World) (e : Ending) (w' : World) : Prop :=
  ((¬ GoodK K m h ∧ e = .returned (.tuple #[.agg (kc 0 fun _ => 0), .bool false])) ∨ (GoodK K m h ∧ e = .returned (.tuple #[.agg (kc K (ky K.toNat h)), .bool true]))) ∧ Below w.heap.size w w'

theorem results_key_two {fn : Func} {p q : Tmp} (h : fn.results = #[.cell p 59, .tmp q]) (tmps : Array Value) (w : World) (g : Nat) (K : Int) (f : Nat → Int)
    (hp : tmps.getD p undef = .pointer (some ⟨g, 0, none⟩)) (hg : w.heap[g]? = some (.cells (kc K f) 59 (0, 0))) : (results fn tmps).run Try.prog w = .ok (.tuple #[.agg (kc K f), tmps.getD q undef]) w := by
  have hp' : tmps[p]?.getD undef = .pointer (some ⟨g, 0, none⟩) := by simpa using hp
  have hr := run_loadVar_row (P := Try.prog) w g _ _ (kc K f) (0, 0) _ hg Try.underlying59 rfl (key_info K f)
  simp [results, h, hp', asAddr, hr]

set_option maxHeartbeats 2000000 in
set_option maxRecDepth 100000 in
theorem keyOf_any (K : Int) (a : Option Addr) (m cap : Nat) (h : Nat → Int) (hm : m ≤ 1000000000000) (hmc : m ≤ cap) (hcm : cap ≤ maxLen) (w : World) (hS : Si w a m h) :
    Calls Try.prog 34 #[.int .i64 K, .slice a m cap] w (KeySays K m h w) := by
  have hzk : ∀ w, (zeroValue 59).run Try.prog w = .ok (.agg kzero) w := zero_key
  rw [kzero_eq] at hzk
  obtain ⟨w1, hw1⟩ : ∃ w1, w1 = w.alloc (.cells (kc 0 fun _ => 0) 59) := ⟨_, rfl⟩
  have hal : Below w.heap.size w w1 := by rw [hw1]; exact (Below.refl _ w).alloc (Nat.le_refl _) _
  have hk1 : w1.heap[w.heap.size]? = some (.cells (kc 0 fun _ => 0) 59 (0, 0)) := by rw [hw1]; exact heap_alloc_new _ _
  have HW1 := Lib.hid hw1; have HAL := Lib.hid hal; have HK1 := Lib.hid hk1; have HS := Lib.hid hS
  have hsz : w.heap.size < w1.heap.size := (Array.getElem?_eq_some_iff.1 hk1).1
  have hkw0 : (w.alloc (.cells (kc 0 fun _ => 0) 59)).heap[w.heap.size]? = some (.cells (kc 0 fun _ => 0) 59 (0, 0)) := heap_alloc_new _ _
  have HKW := Lib.hid hkw0
  clear hw1 hal hk1 hS hkw0
  by_cases hb : 1 ≤ K ∧ K ≤ 255 ∧ K ≤ m
  · obtain ⟨k, rfl⟩ : ∃ k : Nat, K = (k : Nat) := ⟨K.toNat, by omega⟩
    have i1 : ¬ (k : Int) < 1 := by omega
    have i2 : ¬ (255 : Int) < (k : Int) := by omega
    have i3 : ¬ (m : Int) < (k : Int) := by omega
    have i4 : k ≤ m := by omega
    have i5 : k ≤ cap := by omega
    have i6 : (k : Int) ≤ (cap : Int) := by omega
    have i7 : (0 : Int) ≤ (k : Int) := by omega
    have i8 : 1 ≤ k := by omega
    unfold maxLen at hcm
    go_enter Try.func34, Try.ntmps34
    go_wp2_with (first | (refine wpList_build_key rfl _ rfl (k : Nat) rfl ?_) | (refine wpList_store_key rfl _ _ rfl (w.heap.size + 1) rfl (k : Nat) (fun _ => 0) rfl 0 (fun _ => 0) (heap_alloc2_new w _ _) ?_; intro W' hO hk'; have HO := Lib.hid hO; have HK' := Lib.hid hk'; clear hO hk'))
    have hkr : w.heap.size < W'.heap.size := by rw [HO.out.size]; simp; omega
    have HR1 := Lib.hid (show W'.heap[w.heap.size]? = some (.cells (kc 0 fun _ => 0) 59 (0, 0)) from (HO.out.block _ (by omega)).trans (heap_alloc2_old w _ _))
    have HM1 := Lib.hid (show W'.heap[w.heap.size + 1]? = some (.cells (kc (k : Nat) (ky 0 h)) 59 (0, 0)) from HK'.out)
    have HB1 := Lib.hid (show Below w.heap.size w W' from (((Below.refl _ w).alloc (Nat.le_refl _) _).alloc (by simp) _).trans (HO.out.below (Nat.le_succ _)))
    clear HO HK'
    go_loopw [28] (fun i wr => ∃ t : Nat, t ≤ k ∧ i = .int .i64 t ∧ (∀ j, j < t → 0 ≤ h j ∧ h j < 255) ∧ wr.heap[w.heap.size]? = some (.cells (kc 0 fun _ => 0) 59 (0, 0)) ∧ wr.heap[w.heap.size + 1]? = some (.cells (kc (k : Nat) (ky t h)) 59 (0, 0)) ∧ Below w.heap.size w wr) (fun i _ => k - (intOf i).toNat)
    case atStart => exact ⟨0, by omega, rfl, fun j hj => absurd hj (Nat.not_lt_zero j), HR1.out, HM1.out, HB1.out⟩
    case round =>
      clear HR1 HM1 HB1
      obtain ⟨t, ht, rfl, hin, hr, hmd, hB⟩ := hrel
      have HIN := Lib.hid hin; have HR := Lib.hid hr; have HM := Lib.hid hmd; have HB := Lib.hid hB
      by_cases htk : t < k
      · obtain ⟨ab, ao, ea, hca⟩ := (HS.out.same hB).cell t (by omega)
        have EA := Lib.hid (show a = some ⟨ab, ao, none⟩ from ea)
        have j1 : (t : Int) < (k : Int) := by omega
        have hcs := cell_of_row wr (w.heap.size + 1) (1 + t) _ _ _ hmd
        have hfs := frozen_of_row wr (w.heap.size + 1) (1 + t) _ _ hmd
        rw [Nat.add_comm 1 t, kc_s _ _ (show t < 255 by omega), Nat.add_comm t 1] at hcs
        have j2 : (t : Int) < 255 := by omega
        subst ea
        clear hin hr hmd hB
        by_cases hlo : 0 ≤ h t ∧ h t < 255
        · have j3 : ¬ h t < 0 := by omega
          have j4 : ¬ 255 ≤ h t := by omega
          have j5 : IntKind.u8.wrap (h t) = h t := IntWalk.u8_in _ (by omega)
          have HLO := Lib.hid hlo
          clear hlo
          go_wp2
          go_roundw
          case rel => exact ⟨t + 1, by omega, by go_num, fun j hj => by
            by_cases e : j = t
            · rw [e]; exact HLO.out
            · exact HIN.out j (by omega), by rw [heap_setCell_other _ _ _ _ (by show w.heap.size ≠ w.heap.size + 1; omega)]; exact HR.out, by
            rw [heap_setCell_same _ _ _ _ _ _ HM.out, kc_set (by omega) (show ky (t + 1) h t = h t by unfold ky; rw [if_pos (by omega)]) (fun i hi => by
              unfold ky
              by_cases c : i < t
              · rw [if_pos c, if_pos (by omega)]
              · rw [if_neg c, if_neg (by omega)])], HB.out.setCell (p := ⟨w.heap.size + 1, 1 + t, none⟩) (Nat.le_succ _) _⟩
          case measure => simp [intOf]; omega
        · have HBAD := Lib.hid (show ¬ GoodK (k : Nat) m h from fun g => hlo (g.2.2.2 t j1))
          by_cases hneg : h t < 0
          · clear hlo
            go_wp2_with (first | (refine wpList_build_none rfl rfl ?_) | (refine wpList_store_key rfl _ _ rfl w.heap.size rfl 0 (fun _ => 0) rfl 0 (fun _ => 0) HR.out ?_; intro W' hO hk'; have HO := Lib.hid hO; have HK' := Lib.hid hk'; clear hO hk'))
            (try simp only [Exit.inBlock, Exit.then])
            refine bodyPost_ret (results_key_two rfl _ _ w.heap.size 0 (fun _ => 0) rfl HK'.out) rfl ?_
            exact ⟨Or.inl ⟨HBAD.out, rfl⟩, HB.out.trans (HO.out.below (Nat.le_refl _))⟩
          · have j4 : 255 ≤ h t := by omega
            clear hlo
            go_wp2_with (first | (refine wpList_build_none rfl rfl ?_) | (refine wpList_store_key rfl _ _ rfl w.heap.size rfl 0 (fun _ => 0) rfl 0 (fun _ => 0) HR.out ?_; intro W' hO hk'; have HO := Lib.hid hO; have HK' := Lib.hid hk'; clear hO hk'))
            (try simp only [Exit.inBlock, Exit.then])
            refine bodyPost_ret (results_key_two rfl _ _ w.heap.size 0 (fun _ => 0) rfl HK'.out) rfl ?_
            exact ⟨Or.inl ⟨HBAD.out, rfl⟩, HB.out.trans (HO.out.below (Nat.le_refl _))⟩
      · obtain rfl : t = k := by omega
        have HGO := Lib.hid (show GoodK (t : Nat) m h from ⟨by omega, by omega, by omega, fun i hi => hin i (by omega)⟩)
        clear hin hr hmd hB
        go_wp2_with (first | (refine wpList_load_row rfl 59 _ rfl (w.heap.size + 1) rfl 59 (kc (t : Nat) (ky t h)) (0, 0) _ HM.out Try.underlying59 rfl (key_info _ _) ?_) | (refine wpList_store_key rfl _ _ rfl w.heap.size rfl (t : Nat) (ky t h) rfl 0 (fun _ => 0) HR.out ?_; intro W' hO hk'; have HO := Lib.hid hO; have HK' := Lib.hid hk'; clear hO hk'))
        (try simp only [Exit.inBlock, Exit.then])
        refine bodyPost_ret (results_key_two rfl _ _ w.heap.size (t : Nat) (ky t h) rfl HK'.out) rfl ?_
        exact ⟨Or.inr ⟨HGO.out, by rw [Int.toNat_natCast]; rfl⟩, HB.out.trans (HO.out.below (Nat.le_refl _))⟩
  · by_cases q1 : K < 1
    · have HBAD := Lib.hid (show ¬ GoodK K m h from fun g => hb ⟨g.1, g.2.1, g.2.2.1⟩)
      clear hb
      go_enter Try.func34, Try.ntmps34
      go_wp2_with (first | (refine wpList_build_none rfl rfl ?_) | (refine wpList_store_key rfl _ _ rfl w.heap.size rfl 0 (fun _ => 0) rfl 0 (fun _ => 0) HKW.out ?_; intro W' hO hk'; have HO := Lib.hid hO; have HK' := Lib.hid hk'; clear hO hk'))
      (try simp only [Exit.inBlock, Exit.then])
      refine bodyPost_ret (results_key_two rfl _ _ w.heap.size 0 (fun _ => 0) rfl HK'.out) rfl ?_
      exact ⟨Or.inl ⟨HBAD.out, rfl⟩, ((Below.refl _ w).alloc (Nat.le_refl _) _).trans (HO.out.below (Nat.le_refl _))⟩
    · by_cases q2 : 255 < K
      · have HBAD := Lib.hid (show ¬ GoodK K m h from fun g => hb ⟨g.1, g.2.1, g.2.2.1⟩)
        clear hb
        go_enter Try.func34, Try.ntmps34
        go_wp2_with (first | (refine wpList_build_none rfl rfl ?_) | (refine wpList_store_key rfl _ _ rfl w.heap.size rfl 0 (fun _ => 0) rfl 0 (fun _ => 0) HKW.out ?_; intro W' hO hk'; have HO := Lib.hid hO; have HK' := Lib.hid hk'; clear hO hk'))
        (try simp only [Exit.inBlock, Exit.then])
        refine bodyPost_ret (results_key_two rfl _ _ w.heap.size 0 (fun _ => 0) rfl HK'.out) rfl ?_
        exact ⟨Or.inl ⟨HBAD.out, rfl⟩, ((Below.refl _ w).alloc (Nat.le_refl _) _).trans (HO.out.below (Nat.le_refl _))⟩
      · have q3 : (m : Int) < K := by omega
        have HBAD := Lib.hid (show ¬ GoodK K m h from fun g => hb ⟨g.1, g.2.1, g.2.2.1⟩)
        clear hb
        go_enter Try.func34, Try.ntmps34
        go_wp2_with (first | (refine wpList_build_none rfl rfl ?_) | (refine wpList_store_key rfl _ _ rfl w.heap.size rfl 0 (fun _ => 0) rfl 0 (fun _ => 0) HKW.out ?_; intro W' hO hk'; have HO := Lib.hid hO; have HK' := Lib.hid hk'; clear hO hk'))
        (try simp only [Exit.inBlock, Exit.then])
        refine bodyPost_ret (results_key_two rfl _ _ w.heap.size 0 (fun _ => 0) rfl HK'.out) rfl ?_
        exact ⟨Or.inl ⟨HBAD.out, rfl⟩, ((Below.refl _ w).alloc (Nat.le_refl _) _).trans (HO.out.below (Nat.le_refl _))⟩
end Go.Proofs.Ytfiafccfkfillaa

namespace Go.Proofs.Ytfiafccfkfillaa
open Go.RowKit Go.Shelf Go.Maps

/-- indexes that a coder of n symbols takes. -/
def SoundSays (m N : Nat) (h : Nat → Int) (w : World) (e : Ending) (w' : World) : Prop := ∃ v : Bool, e = .returned (.bool v) ∧ (v = true ↔ InR h m N ∧ DsI h m) ∧ Below w.heap.size w w'
set_option maxHeartbeats 2000000 in
set_option maxRecDepth 100000 in
theorem sound_any (N : Nat) (a : Option Addr) (m cap : Nat) (h : Nat → Int) (hN : N ≤ 255) (hm : m ≤ 1000000000000) (w : World) (hS : Si w a m h) :
    Calls Try.prog 39 #[.int .i64 (N : Nat), .slice a m cap] w (SoundSays m N h w) := by
  have hzs := zero_seen
  have HS := Lib.hid hS; clear hS
  have HSN0 := Lib.hid (Sn.new w h)
  have HAL := Lib.hid (show Below w.heap.size w (w.alloc (.cells zerosB 121)) from (Below.refl _ w).alloc (Nat.le_refl _) _)
  go_enter Try.func39, Try.ntmps39
  go_wp2_with fail
  go_loopw [10] (fun i wr => ∃ t : Nat, t ≤ m ∧ i = .int .i64 t ∧ Sn wr w.heap.size h t ∧ (∀ j, j < t → 0 ≤ h j ∧ h j < N) ∧ (∀ i j, i < j → j < t → h i ≠ h j) ∧ Below w.heap.size w wr) (fun i _ => m - (intOf i).toNat)
  case atStart => exact ⟨0, by omega, rfl, HSN0.out, fun j hj => absurd hj (Nat.not_lt_zero j), fun i j _ hj => absurd hj (Nat.not_lt_zero j), HAL.out⟩
  case round =>
    clear HSN0 HAL
    obtain ⟨t, ht, rfl, hsn, hin, hds, hB⟩ := hrel
    have HSN := Lib.hid hsn; have HIN := Lib.hid hin; have HDS := Lib.hid hds; have HB := Lib.hid hB
    clear hsn hin hds hB
    by_cases htk : t < m
    · have i1 : (t : Int) < (m : Int) := by omega
      obtain ⟨ab, ao, ea, hca⟩ := (HS.out.same HB.out).cell t htk
      have EA := Lib.hid (show a = some ⟨ab, ao, none⟩ from ea)
      subst ea
      by_cases hlo : h t < 0
      · have HNO := Lib.hid (show ¬ (InR h m N ∧ DsI h m) from fun g => by have := g.1 t htk; omega)
        go_wp2
        go_ret
        exact ⟨false, rfl, ⟨fun hh => absurd hh Bool.false_ne_true, fun hh => absurd hh HNO.out⟩, HB.out⟩
      · by_cases hhi : (N : Int) ≤ h t
        · have HNO := Lib.hid (show ¬ (InR h m N ∧ DsI h m) from fun g => by have := g.1 t htk; omega)
          go_wp2
          go_ret
          exact ⟨false, rfl, ⟨fun hh => absurd hh Bool.false_ne_true, fun hh => absurd hh HNO.out⟩, HB.out⟩
        · obtain ⟨x, hx2⟩ : ∃ x : Nat, h t = (x : Nat) := ⟨(h t).toNat, by omega⟩
          have hx5 : x < 255 := by omega
          have HX2 := Lib.hid hx2
          have hxN : x < N := by omega
          rw [hx2] at hca
          obtain ⟨cs, fs⟩ := HSN.out x hx5
          have j1 : (x : Int) < 255 := by omega
          have j2 : ¬ (x : Int) < 0 := by omega
          have j3 : ¬ (N : Int) ≤ (x : Int) := by omega
          have j4 : decide (N ≤ x) = false := by simp; omega
          clear hlo hhi hx2
          cases hh : hit h (x : Nat) t
          · rw [hh] at cs
            have HH := Lib.hid hh; clear hh
            go_wp2
            go_roundw
            case rel => exact ⟨t + 1, by omega, by go_num, HSN.out.set hx5 HX2.out, fun j hj => by
              by_cases e : j = t
              · rw [e, HX2.out]; omega
              · exact HIN.out j (by omega), fun i j hij hj => by
              by_cases e : j = t
              · rw [e, HX2.out]; exact hit_no t HH.out i (by omega)
              · exact HDS.out i j hij (by omega), HB.out.setCell (p := ⟨w.heap.size, x, none⟩) (Nat.le_refl _) _⟩
            case measure => simp [intOf]; omega
          · rw [hh] at cs
            have HNO := Lib.hid (show ¬ (InR h m N ∧ DsI h m) from fun g => by
              obtain ⟨i, h1, h2⟩ := hit_yes t hh
              exact g.2 i t h1 htk (h2.trans HX2.out.symm))
            clear hh
            go_wp2
            go_ret
            exact ⟨false, rfl, ⟨fun hh => absurd hh Bool.false_ne_true, fun hh => absurd hh HNO.out⟩, HB.out⟩
    · obtain rfl : t = m := by omega
      go_wp2
      go_ret
      exact ⟨true, rfl, ⟨fun _ => ⟨HIN.out, HDS.out⟩, fun _ => rfl⟩, HB.out⟩

set_option maxHeartbeats 1000000 in
set_option maxRecDepth 100000 in
theorem bclone_any (ad : Addr) (len cap : Nat) (f : Nat → Nat) (hm : len ≤ 1000000000000) (w : World) (hS : Sl w (some ad) len cap f) :
    Calls Try.prog 42 #[.slice (some ad) len cap] w (Gives w len f) := by
  obtain ⟨i0, hi, hz0, hz1, hz2⟩ := info_parts Try.infoU8
  have HS := Lib.hid hS; clear hS
  have HI := Lib.hid hi; have HZ0 := Lib.hid hz0; have HZ1 := Lib.hid hz1; have HZ2 := Lib.hid hz2
  clear hi hz0 hz1 hz2
  have hn := Lib.run_eql_slice_nil (P := Try.prog) w
  go_enter Try.func42, Try.ntmps42
  go_wp2_with (at_builtin; refine wpList_append_own _ rfl _ _ 74 rfl w.heap.size 5 i0 (.int .u8 0) 1 1 Try.underlying74 HI.out HZ0.out HZ1.out HZ2.out rfl (by decide) _ 0 [] rfl (World.ownsRow_made w #[] 0 (Nat.le_refl _) (by unfold maxLen; omega) rfl) ad len cap ((List.range len).map fun i => Value.int .u8 (f i : Nat)) rfl (by simp) (Sl.reads (HS.out.same ((Below.refl _ _).alloc (Nat.le_refl _) _)) _ rfl) (ones_map _ _) (by unfold maxLen; omega) (by omega) (by simp) ?_; intro v' w1 hown hgrow _; rw [Nat.zero_add, List.nil_append] at hown; have HO := Lib.hid (owns_new hown HS.out.bytes HS.out.up); have HB := Lib.hid (((Below.refl w.heap.size w).alloc (Nat.le_refl _) (.cells #[] 5)).grown hgrow (by simp) (by intro k hk; cases hk; exact Nat.le_refl _)); clear hown hgrow)
  obtain ⟨a1, cap1, e, hN⟩ := HO.out
  subst e
  go_ret
  exact ⟨a1, cap1, rfl, hN, HB.out⟩


/-- the rows up to k. -/
def upTo (f : Nat → Nat → Nat) (k i j : Nat) : Nat := if i < k then f i j else 0
theorem upTo_bm {f : Nat → Nat → Nat} (h : Mt.Bm f) (k : Nat) : Mt.Bm (upTo f k) := fun i j => by
  unfold upTo; split
  · exact h i j
  · omega
theorem gr_wide {w : World} {B G n cap k K : Nat} {b c : Nat → Nat} {f : Nat → Nat → Nat} (h : Gr w B G n cap b (fun i => if i = k then K else K) c f) : Gr w B G n cap b (fun _ => K) c f := by
  rw [show (fun i => if i = k then K else K) = fun _ => K from funext fun i => by split <;> rfl] at h
  exact h
/-- a copy. -/
def CopySays (w : World) (m K : Nat) (f : Nat → Nat → Nat) (e : Ending) (w' : World) : Prop := ∃ G b c, e = .returned (.slice (some ⟨G, 0, none⟩) m m) ∧ Gr w' w.heap.size G m m b (fun _ => K) c f ∧ Below w.heap.size w w'
set_option maxHeartbeats 2000000 in
set_option maxRecDepth 100000 in
theorem copied_any (B G m K : Nat) (b : Nat → Nat) (f : Nat → Nat → Nat) (hm : m ≤ 1000000) (hK : K ≤ 1000000) (hK1 : 0 < K) (w : World) (h : Gr w B G m m b (fun _ => K) (fun _ => K) f) :
    Calls Try.prog 24 #[.slice (some ⟨G, 0, none⟩) m m] w (CopySays w m K f) := by
  have hmk := hmkRows m (by omega)
  have H := Lib.hid h
  have hG := gr_made w w.heap.size m (fun _ => 0) (fun _ => K) (fun _ => K) (by omega) (Nat.le_refl _)
  have HG0 := Lib.hid (hG.congr (upTo_bm h.bm 0) (fun i j h => absurd h (Nat.not_lt_zero i)))
  have HB0 := Lib.hid (show Below w.heap.size w (w.alloc (.cells (madeCells #[.slice none 0 0] m) 74)) from (Below.refl _ w).alloc (Nat.le_refl _) _)
  clear hG h
  go_enter Try.func24, Try.ntmps24
  go_wp2_with fail
  go_loopw [11] (fun i wr => ∃ (k : Nat) (b c : Nat → Nat), k ≤ m ∧ i = .int .i64 k ∧ Gr wr w.heap.size w.heap.size k m b (fun _ => K) c (upTo f k) ∧ Below w.heap.size w wr) (fun i _ => m - (intOf i).toNat)
  case atStart => exact ⟨0, _, _, by omega, rfl, HG0.out, HB0.out⟩
  case round =>
    rename_i wr
    clear hmk HG0 HB0
    obtain ⟨k, bb, cc, hk, rfl, hG, hBe⟩ := hrel
    have HG := Lib.hid hG; have HBe := Lib.hid hBe
    clear hG hBe
    by_cases hkm : k < m
    · have i1 : (k : Int) < (m : Int) := by omega
      have hRk := H.out.same HBe.out
      have hca := hRk.cell hkm
      have HRW := Lib.hid ((hRk.row k hkm).sl (Nat.le_refl _) (by unfold maxLen; omega) (hRk.bm k) (hRk.up k hkm))
      clear hRk
      go_wp2_with fail
      refine (bclone_any _ K K (f k) (by omega) _ HRW.out).mono ?_
      rintro e w2 ⟨a2, c2, rfl, hN, hB2⟩
      have hG2 := HG.out.same hB2
      obtain ⟨vs, k1, k2, k3⟩ := hG2.blk
      obtain ⟨v0, hcell⟩ : ∃ v, w2.cell? ⟨w.heap.size, k, none⟩ = some v := by
        refine ⟨vs[k]'(by omega), ?_⟩
        rw [cell_of_row w2 _ k vs _ _ k1]
        simp [show k < vs.size by omega]
      have hfr := hG2.free k
      have hsz2 := HBe.out.size
      obtain ⟨g2, ea2, hg2, hb2, hcc, hmx⟩ : ∃ g, a2 = some ⟨g, 0, none⟩ ∧ wr.heap.size ≤ g ∧ Bl w2 g K c2 (f k) ∧ K ≤ c2 ∧ c2 ≤ maxLen := by
        rcases hN.cond with ⟨_, h0, _⟩ | ⟨g, e, hg, hb⟩
        · omega
        · exact ⟨g, e, hg, hb, hN.sl.capOk, hN.sl.maxOk⟩
      subst ea2
      have HG2 := Lib.hid hG2; have HBL := Lib.hid hb2; have HB2 := Lib.hid (HBe.out.trans (hB2.mono HBe.out.size))
      have hltb := Lib.hid (fun i hi => HG.out.ltb (i := i) hi)
      clear hG2 hb2 hB2 k1 k2 k3 hN
      go_wp2_with fail
      go_roundw
      case rel => exact ⟨k + 1, _, _, by omega, by go_num, gr_wide ((HG2.out.push hkm HBL.out ⟨hcc, hmx⟩ (Nat.le_trans hsz2 hg2) (fun i hi e => by have := hltb.out i hi; omega) (H.out.bm k) (H.out.up k hkm)).congr (upTo_bm H.out.bm (k + 1)) (fun i j hi => by
          unfold upTo
          by_cases c : i = k
          · subst c; rw [if_pos rfl, if_pos (by omega)]
          · rw [if_neg c, if_pos (by omega), if_pos (by omega)])), HB2.out.setCell (p := ⟨w.heap.size, k, none⟩) (Nat.le_refl _) _⟩
      case measure => simp [intOf]; omega
    · obtain rfl : k = m := by omega
      go_wp2
      go_ret
      exact ⟨_, bb, cc, rfl, HG.out.congr H.out.bm (fun i j hi => by unfold upTo; rw [if_pos hi]), HBe.out⟩
end Go.Proofs.Ytfiafccfkfillaa

namespace Go.Proofs.Ytfiafccfkfillaa
open Go.RowKit Go.Shelf Go.Maps

section
variable {w w' : World} {s b room : Nat} {hi mi tp : Int} {L : List Lit} {T : Lit → Tv}
theorem But.at_ (h : But s b w w') (S : Sh w s b room hi mi tp L T) {i : Nat} {vs : Array Value} {t : TypeId} {z : Nat × Nat} (hc : w.heap[i]? = some (.cells vs t z)) (ht : t ≠ 85) : w'.heap[i]? = w.heap[i]? := by
  refine h.block i (Array.getElem?_eq_some_iff.1 hc).1 (fun e => ?_) (fun e => ?_)
  · rw [e, S.blk] at hc
    injection hc with hc
    injection hc with _ h2
    exact ht h2.symm
  · obtain ⟨es, clock, hb⟩ := S.map.blk
    rw [e, hb] at hc
    cases hc
theorem But.cell (h : But s b w w') (S : Sh w s b room hi mi tp L T) {i j : Nat} {v : Value} (hc : w.cell? ⟨i, j, none⟩ = some v) (hs : i ≠ s) : w'.heap[i]? = w.heap[i]? := by
  refine h.block i (World.block_lt_of_cell? _ _ hc) hs (fun e => ?_)
  obtain ⟨es, clock, hb⟩ := S.map.blk
  rw [e] at hc
  simp [World.cell?, hb] at hc
theorem IsField.but {fb : Nat} (h : IsField fb w) (hB : But s b w w') (S : Sh w s b room hi mi tp L T) : IsField fb w' := by
  have h0 := (h 0 (by omega)).1
  have hne : fb ≠ s := fun e => by
    rw [e, S.c0] at h0
    cases h0
  have hh := hB.cell S h0 hne
  intro j hj
  have hj' := h j hj
  refine ⟨?_, ?_⟩
  · simp only [World.cell?, hh]; exact hj'.1
  · simp only [World.frozen?, hh]; exact hj'.2
theorem Bl.but {g n cap : Nat} {h : Nat → Nat} (x : Bl w g n cap h) (hB : But s b w w') (S : Sh w s b room hi mi tp L T) : Bl w' g n cap h := by
  obtain ⟨vs, h1, h2⟩ := x
  exact ⟨vs, (hB.at_ S h1 (by decide)).trans h1, h2⟩
theorem Gr.but {B G n cap : Nat} {bI l c : Nat → Nat} {f : Nat → Nat → Nat} (x : Gr w B G n cap bI l c f) (hB : But s b w w') (S : Sh w s b room hi mi tp L T) : Gr w' B G n cap bI l c f := by
  obtain ⟨vs, h1, h2, h3⟩ := x.blk
  exact ⟨⟨vs, (hB.at_ S h1 (by decide)).trans h1, h2, h3⟩, fun i hi => (x.row i hi).but hB S, x.lc, x.nc, x.lo, x.inj, x.bm, x.up⟩
theorem Cd.but {cb fb G N K : Nat} {b2 : Nat → Nat} (x : Cd w cb fb G N K b2) (hB : But s b w w') (S : Sh w s b room hi mi tp L T) : Cd w' cb fb G N K b2 :=
  ⟨(hB.at_ S x.blk (by decide)).trans x.blk, x.fi.but hB S, x.tb.but hB S, x.k1, x.kn, x.nm⟩
end

/-- what is kept: keys, and the matrices of them. -/
def Ent (w : World) (N : Nat) (L : List Lit) (T : Lit → Tv) : Prop := ∀ kl, kl ∈ L → ∃ (K : Nat) (h : Nat → Int) (g : Nat) (bI : Nat → Nat) (u : Int), kl = klOf (K : Nat) (ky K h) ∧ 1 ≤ K ∧ K ≤ N ∧ (∀ i, i < K → 0 ≤ h i ∧ h i < N) ∧ T kl = (some ⟨g, 0, none⟩, K, K, u) ∧ Gr w 0 g K K bI (fun _ => K) (fun _ => K) (trn h K)
/-- a cache. -/
structure Ca (w : World) (N room c0 cb s b : Nat) (hi mi : Int) (L : List Lit) (T : Lit → Tv) : Prop where
  blk : w.heap[c0]? = some (.cells #[.int .i64 (N : Nat), .pointer (some ⟨cb, 0, none⟩), .pointer (some ⟨s, 0, none⟩)] 62 (0, 0))
  co : ∃ fb G b2, Cd w cb fb G 255 2 b2
  sh : Sh w s b room hi mi (hi + mi) L T
  ent : Ent w N L T
  nm : 1 ≤ N ∧ N ≤ 255
  cnt : 0 ≤ hi ∧ (L.length : Int) ≤ mi
section
variable {w w' : World} {N room c0 cb s b : Nat} {hi mi : Int} {L : List Lit} {T : Lit → Tv}
theorem ky_ok {K : Nat} {h : Nat → Int} (hK : K ≤ 255) (hh : ∀ i, i < K → 0 ≤ h i ∧ h i < 255) : KeyOk (K : Nat) (ky K h) := ⟨⟨by omega, by omega⟩, fun i _ => by
  unfold ky; split
  · have := hh i (by omega); omega
  · omega⟩
theorem Ca.kok (h : Ca w N room c0 cb s b hi mi L T) : Kok L := fun kl hk => by
  obtain ⟨K, f, g, bI, u, e, h1, h2, h3, _⟩ := h.ent kl hk
  have := h.nm
  exact ⟨_, _, ky_ok (by omega) (fun i hi => by have := h3 i hi; omega), e⟩
theorem Ent.same (h : Ent w N L T) (hB : Below w.heap.size w w') : Ent w' N L T := fun kl hk => by
  obtain ⟨K, f, g, bI, u, e, h1, h2, h3, h4, h5⟩ := h kl hk
  exact ⟨K, f, g, bI, u, e, h1, h2, h3, h4, h5.same hB⟩
theorem Ent.but {s b room : Nat} {hi mi tp : Int} {L' : List Lit} {T' : Lit → Tv} (h : Ent w N L T) (hB : But s b w w') (S : Sh w s b room hi mi tp L' T') : Ent w' N L T := fun kl hk => by
  obtain ⟨K, f, g, bI, u, e, h1, h2, h3, h4, h5⟩ := h kl hk
  exact ⟨K, f, g, bI, u, e, h1, h2, h3, h4, h5.but hB S⟩
theorem Ca.lt0 (h : Ca w N room c0 cb s b hi mi L T) : c0 < w.heap.size := (Array.getElem?_eq_some_iff.1 h.blk).1
theorem Ca.same (h : Ca w N room c0 cb s b hi mi L T) (hB : Below w.heap.size w w') : Ca w' N room c0 cb s b hi mi L T :=
  ⟨(hB.block c0 h.lt0).trans h.blk, let ⟨fb, G, b2, hc⟩ := h.co; ⟨fb, G, b2, hc.same hB⟩, h.sh.same hB, h.ent.same hB, h.nm, h.cnt⟩
theorem Ca.d0 (h : Ca w N room c0 cb s b hi mi L T) : w.cell? ⟨c0, 0, none⟩ = some (.int .i64 (N : Nat)) := by rw [cell_of_row w c0 0 _ _ _ h.blk]; rfl
theorem Ca.d1 (h : Ca w N room c0 cb s b hi mi L T) : w.cell? ⟨c0, 1, none⟩ = some (.pointer (some ⟨cb, 0, none⟩)) := by rw [cell_of_row w c0 1 _ _ _ h.blk]; rfl
theorem Ca.d2 (h : Ca w N room c0 cb s b hi mi L T) : w.cell? ⟨c0, 2, none⟩ = some (.pointer (some ⟨s, 0, none⟩)) := by rw [cell_of_row w c0 2 _ _ _ h.blk]; rfl
/-- what another cache's deeds leave. -/
theorem Ca.but {s' b' room' : Nat} {hi' mi' tp' : Int} {L' : List Lit} {T' : Lit → Tv} (h : Ca w N room c0 cb s b hi mi L T) (hB : But s' b' w w') (S : Sh w s' b' room' hi' mi' tp' L' T') (h1 : s ≠ s') (h2 : b ≠ b') : Ca w' N room c0 cb s b hi mi L T := by
  refine ⟨(hB.at_ S h.blk (by decide)).trans h.blk, let ⟨fb, G, b2, hc⟩ := h.co; ⟨fb, G, b2, hc.but hB S⟩, ⟨?_, h.sh.map.kept ?_, h.sh.inc, h.sh.top, h.sh.room⟩, h.ent.but hB S, h.nm, h.cnt⟩
  · rw [hB.block s h.sh.lt h1 (fun e => ?_)]
    · exact h.sh.blk
    · obtain ⟨es, clock, hb⟩ := S.map.blk
      have := h.sh.blk
      rw [e, hb] at this
      cases this
  · refine hB.block b h.sh.map.lt (fun e => ?_) h2
    obtain ⟨es, clock, hb⟩ := h.sh.map.blk
    rw [e, S.blk] at hb
    cases hb
end

set_option maxHeartbeats 400000 in
theorem canone_any (N room c0 cb s b : Nat) (hi mi : Int) (L : List Lit) (T : Lit → Tv) (w : World) (h : Ca w N room c0 cb s b hi mi L T) :
    Calls Try.prog 22 #[.pointer (some ⟨c0, 0, none⟩)] w fun e w' => e = .returned (.bool false) ∧ w' = w := by
  have c2 := h.d2
  clear h
  go_enter Try.func22, Try.ntmps22
  go_wp2
  go_ret
  exact ⟨rfl, rfl⟩

/-- a coder, where a line is written on. -/
theorem Cd.line {w w' : World} {cb fb G N K g : Nat} {b2 : Nat → Nat} (x : Cd w cb fb G N K b2) (hg : w.heap[g]? = some (.cells #[.pointer none] 52 (0, 0))) (hk : ∀ k, k ≠ g → w'.heap[k]? = w.heap[k]?) : Cd w' cb fb G N K b2 := by
  have ne : ∀ {i : Nat} {vs : Array Value} {t : TypeId} {z : Nat × Nat}, w.heap[i]? = some (.cells vs t z) → t ≠ 52 → i ≠ g := fun hc ht e => by
    rw [e, hg] at hc
    injection hc with hc
    injection hc with _ h2
    exact ht h2.symm
  refine ⟨(hk _ (ne x.blk (by decide))).trans x.blk, ?_, x.tb.kept (hk _ ?_) (fun i hi => hk _ ?_), x.k1, x.kn, x.nm⟩
  · have h0 := (x.fi 0 (by omega)).1
    have hne : fb ≠ g := fun e => by
      rw [e, cell_of_row w g 0 _ _ _ hg] at h0
      cases h0
    intro j hj
    have hj' := x.fi j hj
    refine ⟨?_, ?_⟩
    · simp only [World.cell?, hk _ hne]; exact hj'.1
    · simp only [World.frozen?, hk _ hne]; exact hj'.2
  · obtain ⟨vs, h1, _⟩ := x.tb.blk
    exact ne h1 (by decide)
  · obtain ⟨vs, h1, _⟩ := x.tb.row i hi
    exact ne h1 (by decide)
def LineSays (w : World) (e : Ending) (w' : World) : Prop := ∃ cb fb G b, e = .returned (.tuple #[.agg #[.pointer (some ⟨cb, 0, none⟩)], .int .i64 0]) ∧ Cd w' cb fb G 255 2 b ∧ Below w.heap.size w w'
set_option maxHeartbeats 1000000 in
theorem newLine_any (w : World) : Calls Try.prog 18 #[] w (LineSays w) := by
  have hal : Below w.heap.size w (w.alloc (.cells #[.pointer none] 52)) := (Below.refl _ w).alloc (Nat.le_refl _) _
  have HAL := Lib.hid hal; clear hal
  go_enter Try.func18, Try.ntmps18
  go_wp2_with fail
  refine (cnew_yes 255 2 (by omega) (by omega) (by omega) _).mono ?_
  rintro e w1 ⟨cb, fb, G, b, rfl, hC, hB⟩
  have hg := (hB.block w.heap.size (by simp)).trans (heap_alloc_new w (.cells #[.pointer none] 52))
  have c0 := cell_of_row w1 w.heap.size 0 _ _ _ hg
  have f0 := frozen_of_row w1 w.heap.size 0 _ _ hg
  have HC := Lib.hid (hC.line hg (w' := w1.setCell ⟨w.heap.size, 0, none⟩ (.pointer (some ⟨cb, 0, none⟩))) (fun k hk => heap_setCell_other _ _ _ _ hk)); have HB := Lib.hid ((HAL.out.trans (hB.mono HAL.out.size)).setCell (p := ⟨w.heap.size, 0, none⟩) (Nat.le_refl _) (.pointer (some ⟨cb, 0, none⟩)))
  have hc2 : (w1.setCell ⟨w.heap.size, 0, none⟩ (.pointer (some ⟨cb, 0, none⟩))).cell? ⟨w.heap.size, 0, none⟩ = some (.pointer (some ⟨cb, 0, none⟩)) := World.cell?_setCell_same _ _ _ c0
  have HC2 := Lib.hid hc2
  clear hC hB hg hc2
  go_wp2
  have hc2 := HC2.out
  exact bodyPost_ret (v := .tuple #[.agg #[.pointer (some ⟨cb, 0, none⟩)], .int .i64 0]) (by simp [results, Try.results18, go_sem, hc2]) rfl ⟨cb, fb, G, b, rfl, HC.out, HB.out⟩

def ShelfSays (room : Nat) (w : World) (e : Ending) (w' : World) : Prop := ∃ s b, e = .returned (.pointer (some ⟨s, 0, none⟩)) ∧ Sh w' s b room 0 0 0 [] (fun _ => (none, 0, 0, 0)) ∧ w.heap.size ≤ s ∧ w.heap.size ≤ b ∧ Below w.heap.size w w'
set_option maxHeartbeats 1000000 in
theorem newShelf_any (room : Nat) (h1 : 1 ≤ room) (h2 : room ≤ 64) (w : World) : Calls Try.prog 19 #[.int .i64 (room : Nat)] w (ShelfSays room w) := by
  have hmm := @run_makeMap Try.prog
  go_enter Try.func19, Try.ntmps19
  go_wp2
  go_ret
  refine ⟨_, _, rfl, ⟨?_, ?_, List.Pairwise.nil, fun x hx => absurd hx List.not_mem_nil, ⟨Nat.zero_le _, h1, h2⟩⟩, Nat.le_succ _, Nat.le_refl _, ((Below.refl _ w).alloc (Nat.le_refl _) _).alloc (by simp) _⟩
  · exact heap_alloc2_new w _ _
  · exact (Mp.made w).kept (by first | exact heap_alloc_old _ _ _ (by simp) | exact heap_alloc_old _ _ (by simp))

/-- what New answers. -/
def CNewSays (N room : Nat) (w : World) (e : Ending) (w' : World) : Prop := ∃ c0 cb s b, e = .returned (.tuple #[.pointer (some ⟨c0, 0, none⟩), .int .i64 0]) ∧ Ca w' N room c0 cb s b 0 0 [] (fun _ => (none, 0, 0, 0)) ∧ w.heap.size ≤ c0 ∧ (w.heap.size ≤ s ∧ s < w'.heap.size) ∧ (w.heap.size ≤ b ∧ b < w'.heap.size) ∧ Below w.heap.size w w'
set_option maxHeartbeats 1000000 in
set_option maxRecDepth 100000 in
theorem canew_no (n room : Int) (h : ¬ (1 ≤ n ∧ n ≤ 255 ∧ 1 ≤ room ∧ room ≤ 64)) (w : World) :
    Calls Try.prog 6 #[.int .i64 n, .int .i64 room] w fun e w' => e = .returned (.tuple #[.pointer none, .int .i64 2]) ∧ w' = w := by
  by_cases q1 : n < 1
  · clear h
    go_enter Try.func6, Try.ntmps6
    go_wp2
    go_ret2
    exact ⟨rfl, rfl⟩
  · by_cases q2 : 255 < n
    · clear h
      go_enter Try.func6, Try.ntmps6
      go_wp2
      go_ret2
      exact ⟨rfl, rfl⟩
    · by_cases q3 : room < 1
      · clear h
        go_enter Try.func6, Try.ntmps6
        go_wp2
        go_ret2
        exact ⟨rfl, rfl⟩
      · have q4 : 64 < room := by omega
        clear h
        go_enter Try.func6, Try.ntmps6
        go_wp2
        go_ret2
        exact ⟨rfl, rfl⟩
set_option maxHeartbeats 2000000 in
set_option maxRecDepth 100000 in
theorem canew_yes (N room : Nat) (h1 : 1 ≤ N) (h2 : N ≤ 255) (h3 : 1 ≤ room) (h4 : room ≤ 64) (w : World) :
    Calls Try.prog 6 #[.int .i64 (N : Nat), .int .i64 (room : Nat)] w (CNewSays N room w) := by
  have i1 : ¬ (N : Int) < 1 := by omega
  have i2 : ¬ (255 : Int) < (N : Int) := by omega
  have i3 : ¬ (room : Int) < 1 := by omega
  have i4 : ¬ (64 : Int) < (room : Int) := by omega
  go_enter Try.func6, Try.ntmps6
  go_wp2_with fail
  refine (newLine_any _).mono ?_
  rintro e w1 ⟨cb, fb, G, b2, rfl, hC, hB⟩
  have HC := Lib.hid hC; have HB := Lib.hid hB
  clear hC hB i1 i2 i3 i4
  go_wp2_with fail
  obtain ⟨w2, hw2⟩ : ∃ w2, w2 = w1.alloc (.cells #[.pointer (some ⟨cb, 0, none⟩)] 52) := ⟨_, rfl⟩
  rw [← hw2]
  have hb2 : Below w1.heap.size w1 w2 := by rw [hw2]; exact (Below.refl _ w1).alloc (Nat.le_refl _) _
  have hg2 : w2.heap[w1.heap.size]? = some (.cells #[.pointer (some ⟨cb, 0, none⟩)] 52 (0, 0)) := by rw [hw2]; exact heap_alloc_new _ _
  have HC2 := Lib.hid (HC.out.same hb2); have HB2 := Lib.hid (HB.out.trans (hb2.mono HB.out.size))
  have hlt2 : w1.heap.size < w2.heap.size := (Array.getElem?_eq_some_iff.1 hg2).1
  have HL := Lib.hid (fun (W : World) (hW : Below w2.heap.size w2 W) => (show W.cell? ⟨w1.heap.size, 0, none⟩ = some (.pointer (some ⟨cb, 0, none⟩)) from by rw [cell_of_row W w1.heap.size 0 _ _ _ ((hW.block _ hlt2).trans hg2)]; rfl))
  have hsz := HB.out.size
  clear hw2 hb2 hg2
  refine wp_region_held_drew (S := fun W => Below w2.heap.size w2 W) (by kernel_rfl) (below_dr (Below.refl _ w2) 1) (fun hHeld => ?_)
  refine wpAnyH_take (i := 0) (oi := ⟨some 29, .move (.tmp 0), _, _, _, none⟩) (v := (.int .i64 (N : Nat))) rfl (by kernel_rfl) (by kernel_rfl) (by kernel_rfl) (fun _ _ _ h => h) (Or.inl ⟨by rfl, fun W hW => ?_⟩) (by assumption) ?_
  · go_simp
  simp only [Act.put, List.setIfInBounds_toArray, List.set_cons_zero, List.set_cons_succ]
  refine wpAnyH_take (i := 1) (oi := ⟨some 30, .load 52 (.tmp 6), _, _, _, none⟩) (v := (.agg #[.pointer (some ⟨cb, 0, none⟩)])) rfl (by kernel_rfl) (by kernel_rfl) (by kernel_rfl) (fun _ _ _ h => h) (Or.inl ⟨by rfl, fun W hW => ?_⟩) (by assumption) ?_
  · have := HL.out W hW; go_simp
  simp only [Act.put, List.setIfInBounds_toArray, List.set_cons_zero, List.set_cons_succ]
  refine wpAnyH_take (i := 2) (oi := ⟨some 31, .move (.tmp 1), _, _, _, none⟩) (v := (.int .i64 (room : Nat))) rfl (by kernel_rfl) (by kernel_rfl) (by kernel_rfl) (fun _ _ _ h => h) (Or.inl ⟨by rfl, fun W hW => ?_⟩) (by assumption) ?_
  · go_simp
  simp only [Act.put, List.setIfInBounds_toArray, List.set_cons_zero, List.set_cons_succ]
  refine wpAnyH_ready (rs := [3]) (by kernel_rfl) (by simp) (AllReadyH.cons rfl (fun KK hKK => ?_) AllReadyH.nil)
  go_simp
  refine (newShelf_any room h3 h4 _).mono ?_
  rintro e w3 ⟨s, b, rfl, hS, hs, hb, hB3⟩
  dsimp only
  have hB3' : Below w2.heap.size w2 w3 := (below_dr (Below.refl _ w2) 1).trans hB3
  refine hKK.out _ _ hB3' (fun hHeld => ?_)
  clear hKK KK
  have HS := Lib.hid hS; have HB3 := Lib.hid hB3'
  have hs' : w2.heap.size ≤ s := hs
  have hb' : w2.heap.size ≤ b := hb
  have hsl := hS.lt; have hbl := hS.map.lt
  clear hS hB3 hB3' hs hb
  refine wpAnyH_take (i := 4) (oi := ⟨some 33, .build 62 #[(0, .tmp 29), (1, .tmp 30), (2, .tmp 32)], _, _, _, none⟩) (v := (.agg #[.int .i64 (N : Nat), .pointer (some ⟨cb, 0, none⟩), .pointer (some ⟨s, 0, none⟩)])) rfl (by kernel_rfl) (by kernel_rfl) (by kernel_rfl) (fun _ _ _ h => h) (Or.inl ⟨by rfl, fun W hW => ?_⟩) (by assumption) ?_
  · go_simp
  simp only [Act.put, List.setIfInBounds_toArray, List.set_cons_zero, List.set_cons_succ]
  refine wpAnyH_ready (rs := [5]) (by kernel_rfl) (by simp) (AllReadyH.cons rfl (fun KK hKK => ?_) AllReadyH.nil)
  go_simp
  refine hKK.out _ _ (HB3.out.alloc (by have := HB3.out.size; omega) _) (fun hHeld => ?_)
  clear hKK KK
  try simp only [Act.put, List.setIfInBounds_toArray, List.set_cons_zero, List.set_cons_succ]
  refine wpAnyH_take (i := 6) (oi := ⟨some 4, .assign (.tmp 34), _, _, _, none⟩) (v := (.pointer (some ⟨w3.heap.size, 0, none⟩))) rfl (by kernel_rfl) (by kernel_rfl) (by kernel_rfl) (fun _ _ _ h => h) (Or.inl ⟨by rfl, fun W hW => ?_⟩) (by assumption) ?_
  · go_simp
  simp only [Act.put, List.setIfInBounds_toArray, List.set_cons_zero, List.set_cons_succ]
  refine wpAnyH_take (i := 7) (oi := ⟨some 5, .assign (.const (.int .i64 0)), _, _, _, none⟩) (v := (.int .i64 0)) rfl (by kernel_rfl) (by kernel_rfl) (by kernel_rfl) (fun _ _ _ h => h) (Or.inl ⟨by rfl, fun W hW => ?_⟩) (by assumption) ?_
  · go_simp
  simp only [Act.put, List.setIfInBounds_toArray, List.set_cons_zero, List.set_cons_succ]
  refine wpAnyH_done (by kernel_rfl) ?_ _
  clear hHeld
  go_wp2
  go_ret2
  have hsz3 := HB3.out.size
  have hal : Below w3.heap.size w3 (w3.alloc (.cells #[.int .i64 (N : Nat), .pointer (some ⟨cb, 0, none⟩), .pointer (some ⟨s, 0, none⟩)] 62)) := (Below.refl _ w3).alloc (Nat.le_refl _) _
  refine ⟨w3.heap.size, cb, s, b, rfl, ⟨heap_alloc_new _ _, ⟨fb, G, b2, (HC2.out.same HB3.out).same hal⟩, HS.out.same hal, fun kl hk => absurd hk List.not_mem_nil, ⟨h1, h2⟩, ⟨Int.le_refl _, Int.le_refl _⟩⟩, by omega, ⟨by omega, by simp; omega⟩, ⟨by omega, by simp; omega⟩, (HB2.out.trans (HB3.out.mono HB2.out.size)).trans (hal.mono (by omega))⟩
end Go.Proofs.Ytfiafccfkfillaa

namespace Go.Proofs.Ytfiafccfkfillaa
open Go.RowKit Go.Shelf Go.Maps

theorem trn_congr {h h' : Nat → Int} {K : Nat} (e : ∀ i, i < K → h i = h' i) : trn h K = trn h' K := by
  funext i j
  unfold trn
  rw [Pf.lw_congr (P' := pts h') (fun j hj => by unfold pts; rw [e j hj])]
open Classical in
/-- what is kept behind an ask. -/
noncomputable def askL (room : Nat) (L : List Lit) (k : Lit) : List Lit := if k ∈ L then out L k ++ [k] else dropL room L ++ [k]
open Classical in
noncomputable def askH (L : List Lit) (k : Lit) (hi : Int) : Int := if k ∈ L then hi + 1 else hi
open Classical in
noncomputable def askM (L : List Lit) (k : Lit) (mi : Int) : Int := if k ∈ L then mi else mi + 1
/-- the key of an ask. -/
noncomputable def kk (K : Nat) (h : Nat → Int) : Lit := klOf (K : Nat) (ky K h)
/-- what an ask answers. -/
def AskSays (N room c0 cb s b : Nat) (hi mi : Int) (L : List Lit) (K : Int) (m : Nat) (h : Nat → Int) (w : World) (e : Ending) (w' : World) : Prop :=
  (∃ E : Int, E ≠ 0 ∧ e = .returned (.tuple #[.slice none 0 0, .int .i64 E]) ∧ ((¬ (1 ≤ K ∧ K ≤ N) ∧ E = 2) ∨ (1 ≤ K ∧ K ≤ N ∧ Chk h m N K.toNat E)) ∧ Below w.heap.size w w') ∨
  (1 ≤ K ∧ K ≤ N ∧ Chk h m N K.toNat 0 ∧ ∃ G bI T', e = .returned (.tuple #[.slice (some ⟨G, 0, none⟩) K.toNat K.toNat, .int .i64 0]) ∧ Gr w' 0 G K.toNat K.toNat bI (fun _ => K.toNat) (fun _ => K.toNat) (trn h K.toNat) ∧
    Ca w' N room c0 cb s b (askH L (kk K.toNat h) hi) (askM L (kk K.toNat h) mi) (askL room L (kk K.toNat h)) T' ∧ But s b w w')
theorem good_of {K : Nat} {m N : Nat} {h : Nat → Int} (h1 : 1 ≤ K) (h2 : K ≤ N) (h3 : N ≤ 255) (c : Chk h m N K 0) : GoodK (K : Nat) m h ∧ InR h m N ∧ DsI h m := by
  obtain ⟨a, b, d⟩ := chk_ok c
  exact ⟨⟨by omega, by omega, by omega, fun i hi => by have := a i (by omega); omega⟩, a, b⟩
theorem Ca.hit {w w' : World} {N room c0 cb s b : Nat} {hi mi : Int} {L : List Lit} {T : Lit → Tv} (x : Ca w N room c0 cb s b hi mi L T) {k : Lit} (hk : k ∈ L) {a : Option Addr} {l c : Nat} {u : Int} (hT : T k = (a, l, c, u)) {v : Int} (hS : Sh w' s b room (hi + 1) mi (hi + 1 + mi) (out L k ++ [k]) (onT T k (a, l, c, v))) (hB : But s b w w') :
    Ca w' N room c0 cb s b (askH L k hi) (askM L k mi) (askL room L k) (onT T k (a, l, c, v)) := by
  unfold askH askM askL
  rw [if_pos hk, if_pos hk, if_pos hk]
  refine ⟨(hB.at_ x.sh x.blk (by decide)).trans x.blk, let ⟨fb, G, b2, hc⟩ := x.co; ⟨fb, G, b2, hc.but hB x.sh⟩, hS, fun kl hkl => ?_, x.nm, ⟨by have := x.cnt.1; omega, ?_⟩⟩
  · rw [List.mem_append, List.mem_singleton] at hkl
    have hkl' : kl ∈ L := by
      rcases hkl with hkl | hkl
      · exact (mem_out.1 hkl).1
      · rw [hkl]; exact hk
    obtain ⟨K', h', g, bI, u', e, h1, h2, h3, h4, h5⟩ := x.ent.but hB x.sh kl hkl'
    by_cases c1 : kl = k
    · have h6 := h4
      rw [c1, hT] at h6
      simp only [Prod.mk.injEq] at h6
      obtain ⟨e1, e2, e3, e4⟩ := h6
      exact ⟨K', h', g, bI, v, e, h1, h2, h3, by rw [c1, onT_same, e1, e2, e3], h5⟩
    · exact ⟨K', h', g, bI, u', e, h1, h2, h3, by rw [onT_other c1]; exact h4, h5⟩
  · have h4 := out_len x.sh.map.nodup hk; have h5 := x.cnt.2
    rw [List.length_append, List.length_singleton]; omega
theorem dropL_mem {room : Nat} {L : List Lit} {k : Lit} (h : k ∈ dropL room L) : k ∈ L := by
  unfold dropL at h
  split at h
  · exact List.mem_of_mem_tail h
  · exact h
theorem dropL_len (room : Nat) (L : List Lit) : (dropL room L).length ≤ L.length := by
  unfold dropL
  split
  · rw [List.length_tail]; omega
  · exact Nat.le_refl _
theorem Ca.miss {w w' : World} {N room c0 cb s b : Nat} {hi mi : Int} {L : List Lit} {T : Lit → Tv} (x : Ca w N room c0 cb s b hi mi L T) {k : Lit} {K : Nat} {h : Nat → Int} (hkk : k = klOf (K : Nat) (ky K h)) (hk : k ∉ L) (h1 : 1 ≤ K) (h2 : K ≤ N) (h3 : ∀ i, i < K → 0 ≤ h i ∧ h i < N) {g : Nat} {bI : Nat → Nat} (hG : Gr w' 0 g K K bI (fun _ => K) (fun _ => K) (trn h K)) {v : Int} (hS : Sh w' s b room hi (mi + 1) (hi + (mi + 1)) (dropL room L ++ [k]) (onT T k (some ⟨g, 0, none⟩, K, K, v))) (hB : But s b w w') :
    Ca w' N room c0 cb s b (askH L k hi) (askM L k mi) (askL room L k) (onT T k (some ⟨g, 0, none⟩, K, K, v)) := by
  unfold askH askM askL
  rw [if_neg hk, if_neg hk, if_neg hk]
  refine ⟨(hB.at_ x.sh x.blk (by decide)).trans x.blk, let ⟨fb, G, b2, hc⟩ := x.co; ⟨fb, G, b2, hc.but hB x.sh⟩, hS, fun kl hkl => ?_, x.nm, ⟨x.cnt.1, ?_⟩⟩
  · by_cases c1 : kl = k
    · exact ⟨K, h, g, bI, v, c1.trans hkk, h1, h2, h3, by rw [c1, onT_same], hG⟩
    · rw [List.mem_append, List.mem_singleton] at hkl
      obtain ⟨K', h', g', bI', u', e, q1, q2, q3, q4, q5⟩ := x.ent.but hB x.sh kl (dropL_mem (hkl.resolve_right c1))
      exact ⟨K', h', g', bI', u', e, q1, q2, q3, by rw [onT_other c1]; exact q4, q5⟩
  · have h4 := dropL_len room L; have h5 := x.cnt.2
    rw [List.length_append, List.length_singleton]; omega

set_option maxHeartbeats 4000000 in
set_option maxRecDepth 100000 in
theorem ask_any (N room c0 cb s b : Nat) (hi mi : Int) (L : List Lit) (T : Lit → Tv) (K : Int) (a : Option Addr) (m cap : Nat) (h : Nat → Int) (hm : m ≤ 1000000000000) (hmc : m ≤ cap) (hcm : cap ≤ maxLen) (hbig : hi + mi ≤ 10000000000) (w : World) (hC : Ca w N room c0 cb s b hi mi L T) (hS : Si w a m h) :
    Calls Try.prog 23 #[.pointer (some ⟨c0, 0, none⟩), .int .i64 K, .slice a m cap] w (AskSays N room c0 cb s b hi mi L K m h w) := by
  have hzk : ∀ w, (zeroValue 59).run Try.prog w = .ok (.agg kzero) w := zero_key
  rw [kzero_eq] at hzk
  have HC := Lib.hid hC; have HS := Lib.hid hS
  have hN1 := hC.nm.1; have hN2 := hC.nm.2
  have h0h := hC.cnt.1
  have h0m : 0 ≤ mi := by have := hC.cnt.2; omega
  clear hC hS
  go_enter Try.func23, Try.ntmps23
  go_wp2_with fail
  refine (keyOf_any K a m cap h hm hmc hcm _ HS.out).mono ?_
  rintro e w1 ⟨hk, hB1⟩
  have HB1 := Lib.hid hB1; clear hB1
  rcases hk with ⟨hng, rfl⟩ | ⟨hg, rfl⟩
  · have HNG := Lib.hid hng; clear hng
    go_wp2_with (refine wpList_store_key rfl _ _ rfl w1.heap.size rfl 0 (fun _ => 0) rfl 0 (fun _ => 0) (heap_alloc_new w1 _) ?_; intro w2 hO hk'; have hb2 : Below w1.heap.size w1 w2 := ((Below.refl _ w1).alloc (Nat.le_refl _) _).trans (hO.below (Nat.le_refl _)); have HB2 := Lib.hid (HB1.out.trans (hb2.mono HB1.out.size)); have hca := (HC.out.same HB1.out).same hb2; have d0 := hca.d0; have HCA := Lib.hid hca; have HK2 := Lib.hid hk'; clear hO hk' hb2 hca)
    clear d0
    by_cases hKN : 1 ≤ K ∧ K ≤ (N : Int)
    · obtain ⟨k, rfl⟩ : ∃ k : Nat, K = (k : Nat) := ⟨K.toNat, by omega⟩
      have j1 : 1 ≤ k := by omega
      have j2 : k ≤ N := by omega
      clear hKN
      refine (cnew_yes N k j1 j2 hN2 _).mono ?_
      rintro e w5 ⟨cb5, fb5, G5, b5, rfl, hC5, hB5⟩
      have HC5 := Lib.hid hC5; have HB5 := Lib.hid (HB2.out.trans (hB5.mono HB2.out.size))
      clear hC5 hB5
      go_wp2_with fail
      refine (cTurn_any cb5 fb5 G5 N k b5 a m cap h hm _ HC5.out (HS.out.same HB5.out)).mono ?_
      rintro e w6 (⟨E, hE, hc, rfl, hB6⟩ | ⟨hc, G6, b6, rfl, hG6, hB6⟩)
      · have g1 : (E != 0) = true := by simp [hE]
        have HE := Lib.hid hE; have HCK := Lib.hid hc; have HB6 := Lib.hid (HB5.out.trans (hB6.mono HB5.out.size))
        clear hE hc hB6
        go_wp2
        go_ret2
        exact Or.inl ⟨E, HE.out, rfl, Or.inr ⟨by omega, by omega, by rw [Int.toNat_natCast]; exact HCK.out⟩, HB6.out⟩
      · have hgd := good_of j1 j2 hN2 hc
        exact absurd hgd.1 HNG.out
    · have HQ := Lib.hid (cnew_no (N : Nat) K (by omega) w2)
      have HKN := Lib.hid hKN; clear hKN
      refine HQ.out.mono ?_
      rintro e w5 ⟨rfl, hB5⟩
      have HB5 := Lib.hid (HB2.out.trans (hB5.mono HB2.out.size))
      clear hB5
      go_wp2
      go_ret2
      exact Or.inl ⟨2, by omega, rfl, Or.inl ⟨HKN.out, rfl⟩, HB5.out⟩
  · have HG := Lib.hid hg
    obtain ⟨k, rfl⟩ : ∃ k : Nat, K = (k : Nat) := ⟨K.toNat, by have := hg.1; omega⟩
    rw [Int.toNat_natCast]
    clear hg
    go_wp2_with (refine wpList_store_key rfl _ _ rfl w1.heap.size rfl (k : Nat) (ky k h) rfl 0 (fun _ => 0) (heap_alloc_new w1 _) ?_; intro w2 hO hk'; have hb2 : Below w1.heap.size w1 w2 := ((Below.refl _ w1).alloc (Nat.le_refl _) _).trans (hO.below (Nat.le_refl _)); have HB2 := Lib.hid (HB1.out.trans (hb2.mono HB1.out.size)); have hca := (HC.out.same HB1.out).same hb2; have d0 := hca.d0; have HCA := Lib.hid hca; have HK2 := Lib.hid hk'; clear hO hk' hb2 hca)
    refine (sound_any N a m cap h hN2 hm _ (HS.out.same HB2.out)).mono ?_
    rintro e w3 ⟨v, rfl, hv, hB3⟩
    have hca3 := HCA.out.same hB3
    have hlt1 : w1.heap.size < w2.heap.size := (Array.getElem?_eq_some_iff.1 HK2.out).1
    have HK3 := Lib.hid ((hB3.block _ hlt1).trans HK2.out)
    have HB3 := Lib.hid (HB2.out.trans (hB3.mono HB2.out.size)); have HV := Lib.hid hv; have HCA3 := Lib.hid hca3
    have d3 := hca3.d0
    clear hca3 hB3 hv d0 HCA HK2
    cases v
    · go_wp2_with fail
      by_cases hKN : 1 ≤ (k : Int) ∧ (k : Int) ≤ (N : Int)
      · have hdum := 0; clear hdum
        have j1 : 1 ≤ k := by omega
        have j2 : k ≤ N := by omega
        clear hKN
        refine (cnew_yes N k j1 j2 hN2 _).mono ?_
        rintro e w5 ⟨cb5, fb5, G5, b5, rfl, hC5, hB5⟩
        have HC5 := Lib.hid hC5; have HB5 := Lib.hid (HB3.out.trans (hB5.mono HB3.out.size))
        clear hC5 hB5
        go_wp2_with fail
        refine (cTurn_any cb5 fb5 G5 N k b5 a m cap h hm _ HC5.out (HS.out.same HB5.out)).mono ?_
        rintro e w6 (⟨E, hE, hc, rfl, hB6⟩ | ⟨hc, G6, b6, rfl, hG6, hB6⟩)
        · have g1 : (E != 0) = true := by simp [hE]
          have HE := Lib.hid hE; have HCK := Lib.hid hc; have HB6 := Lib.hid (HB5.out.trans (hB6.mono HB5.out.size))
          clear hE hc hB6
          go_wp2
          go_ret2
          exact Or.inl ⟨E, HE.out, rfl, Or.inr ⟨by omega, by omega, by rw [Int.toNat_natCast]; exact HCK.out⟩, HB6.out⟩
        · have hgd := good_of j1 j2 hN2 hc
          exact absurd hgd.2 (fun hh => absurd (HV.out.2 hh) Bool.false_ne_true)
      · have HQ := Lib.hid (cnew_no (N : Nat) (k : Int) (by omega) w3)
        have HKN := Lib.hid hKN; clear hKN
        refine HQ.out.mono ?_
        rintro e w5 ⟨rfl, hB5⟩
        have HB5 := Lib.hid (HB3.out.trans (hB5.mono HB3.out.size))
        clear hB5
        go_wp2
        go_ret2
        exact Or.inl ⟨2, by omega, rfl, Or.inl ⟨HKN.out, rfl⟩, HB5.out⟩
    · clear d3
      have hsd := HV.out.1 rfl
      have HSD := Lib.hid hsd; clear hsd
      go_wp2_with fail
      have hS3 := HCA3.out.sh
      have hKs : KeyOk (k : Nat) (ky k h) := ky_ok (by have := HG.out.2.1; omega) (fun i hi => by have := HG.out.2.2.2 i (by omega); omega)
      have HKS := Lib.hid hKs
      have HD2 := Lib.hid (fun (W : World) (hW : W.heap[c0]? = w3.heap[c0]? ∧ W.heap[w1.heap.size]? = w3.heap[w1.heap.size]?) => (show W.cell? ⟨c0, 2, none⟩ = some (.pointer (some ⟨s, 0, none⟩)) from by rw [cell_of_row W c0 2 _ _ _ (hW.1.trans HCA3.out.blk)]; rfl))
      have HDK := Lib.hid (fun (W : World) (hW : W.heap[c0]? = w3.heap[c0]? ∧ W.heap[w1.heap.size]? = w3.heap[w1.heap.size]?) => hW.2.trans HK3.out)
      have HTK := Lib.hid (stake_any s b room hi mi L T (k : Nat) (ky k h) hKs h0h h0m (by omega) w3.drew (hS3.same (below_dr (Below.refl _ w3) 1)))
      clear hS3 hKs
      refine wp_region_held_drew (S := fun W => W.heap[c0]? = w3.heap[c0]? ∧ W.heap[w1.heap.size]? = w3.heap[w1.heap.size]?) (by kernel_rfl) ⟨rfl, rfl⟩ (fun hHeld => ?_)
      refine wpAnyH_take (i := 0) (oi := ⟨some 31, .move (.tmp 0), _, _, _, none⟩) (v := (.pointer (some ⟨c0, 0, none⟩))) rfl (by kernel_rfl) (by kernel_rfl) (by kernel_rfl) (fun _ _ _ h => h) (Or.inl ⟨by rfl, fun W hW => ?_⟩) (by assumption) ?_
      · go_simp
      simp only [Act.put, List.setIfInBounds_toArray, List.set_cons_zero, List.set_cons_succ]
      refine wpAnyH_take (i := 1) (oi := ⟨some 32, .nilCheck (.tmp 31), _, _, _, none⟩) (v := (.pointer (some ⟨c0, 0, none⟩))) rfl (by kernel_rfl) (by kernel_rfl) (by kernel_rfl) (fun _ _ _ h => h) (Or.inl ⟨by rfl, fun W hW => ?_⟩) (by assumption) ?_
      · go_simp
      simp only [Act.put, List.setIfInBounds_toArray, List.set_cons_zero, List.set_cons_succ]
      refine wpAnyH_take (i := 2) (oi := ⟨some 33, .fieldAddr 62 (.tmp 32) 2, _, _, _, none⟩) (v := (.pointer (some ⟨c0, 2, none⟩))) rfl (by kernel_rfl) (by kernel_rfl) (by kernel_rfl) (fun _ _ _ h => h) (Or.inl ⟨by rfl, fun W hW => ?_⟩) (by assumption) ?_
      · go_simp
      simp only [Act.put, List.setIfInBounds_toArray, List.set_cons_zero, List.set_cons_succ]
      refine wpAnyH_take (i := 3) (oi := ⟨some 34, .load 55 (.tmp 33), _, _, _, none⟩) (v := (.pointer (some ⟨s, 0, none⟩))) rfl (by kernel_rfl) (by kernel_rfl) (by kernel_rfl) (fun _ _ _ h => h) (Or.inl ⟨by rfl, fun W hW => ?_⟩) (by assumption) ?_
      · have := HD2.out W hW; go_simp
      simp only [Act.put, List.setIfInBounds_toArray, List.set_cons_zero, List.set_cons_succ]
      refine wpAnyH_take (i := 4) (oi := ⟨some 35, .load 59 (.tmp 8), _, _, _, none⟩) (v := (.agg (kc (k : Nat) (ky k h)))) rfl (by kernel_rfl) (by kernel_rfl) (by kernel_rfl) (fun _ _ _ h => h) (yields_key (g := w1.heap.size) (by rfl) (fun W hW => HDK.out W hW)) (by assumption) ?_
      simp only [Act.put, List.setIfInBounds_toArray, List.set_cons_zero, List.set_cons_succ]
      refine wpAnyH_ready (rs := [5]) (by kernel_rfl) (by simp) (AllReadyH.cons rfl (fun KK hKK => ?_) AllReadyH.nil)
      go_simp
      refine HTK.out.mono ?_
      rintro e w4 (⟨hnm, rfl, hB4⟩ | ⟨hmm, rfl, hS4, hB4⟩)
      · dsimp only
        have hb4 : Below w3.heap.size w3 w4 := (below_dr (Below.refl _ w3) 1).trans hB4
        have hlt3 : w1.heap.size < w3.heap.size := (Array.getElem?_eq_some_iff.1 HK3.out).1
        refine hKK.out _ _ ⟨hb4.block _ HCA3.out.lt0, hb4.block _ hlt3⟩ (fun hHeld => ?_)
        clear hKK KK HTK
        have hca4 := HCA3.out.same hb4
        have d4 := hca4.d0
        have HCA4 := Lib.hid hca4; have HK4 := Lib.hid ((hb4.block _ hlt3).trans HK3.out); have HB4 := Lib.hid (HB3.out.trans (hb4.mono HB3.out.size)); have HNM := Lib.hid hnm
        clear hca4 hb4 hB4 hnm HD2 HDK
        refine wpAnyH_take (i := 6) (oi := ⟨some 30, .move (.tmp 36), _, _, _, none⟩) (v := (.tuple #[(.slice none 0 0), .bool false])) rfl (by kernel_rfl) (by kernel_rfl) (by kernel_rfl) (fun _ _ _ h => h) (Or.inl ⟨by rfl, fun W hW => ?_⟩) (by assumption) ?_
        · go_simp
        simp only [Act.put, List.setIfInBounds_toArray, List.set_cons_zero, List.set_cons_succ]
        refine wpAnyH_take (i := 7) (oi := ⟨some 37, .extract (.tmp 30) 0, _, _, _, none⟩) (v := (.slice none 0 0)) rfl (by kernel_rfl) (by kernel_rfl) (by kernel_rfl) (fun _ _ _ h => h) (Or.inl ⟨by rfl, fun W hW => ?_⟩) (by assumption) ?_
        · go_simp
        simp only [Act.put, List.setIfInBounds_toArray, List.set_cons_zero, List.set_cons_succ]
        refine wpAnyH_take (i := 8) (oi := ⟨some 38, .extract (.tmp 30) 1, _, _, _, none⟩) (v := (.bool false)) rfl (by kernel_rfl) (by kernel_rfl) (by kernel_rfl) (fun _ _ _ h => h) (Or.inl ⟨by rfl, fun W hW => ?_⟩) (by assumption) ?_
        · go_simp
        simp only [Act.put, List.setIfInBounds_toArray, List.set_cons_zero, List.set_cons_succ]
        refine wpAnyH_take (i := 9) (oi := ⟨some 10, .assign (.tmp 37), _, _, _, none⟩) (v := (.slice none 0 0)) rfl (by kernel_rfl) (by kernel_rfl) (by kernel_rfl) (fun _ _ _ h => h) (Or.inl ⟨by rfl, fun W hW => ?_⟩) (by assumption) ?_
        · go_simp
        simp only [Act.put, List.setIfInBounds_toArray, List.set_cons_zero, List.set_cons_succ]
        refine wpAnyH_take (i := 10) (oi := ⟨some 11, .assign (.tmp 38), _, _, _, none⟩) (v := (.bool false)) rfl (by kernel_rfl) (by kernel_rfl) (by kernel_rfl) (fun _ _ _ h => h) (Or.inl ⟨by rfl, fun W hW => ?_⟩) (by assumption) ?_
        · go_simp
        simp only [Act.put, List.setIfInBounds_toArray, List.set_cons_zero, List.set_cons_succ]
        refine wpAnyH_done (by kernel_rfl) ?_ _
        clear hHeld
        go_wp2_with fail
        have hKN1 : 1 ≤ k := by have := HG.out.1; omega
        by_cases j2 : k ≤ N
        · refine (cnew_yes N k hKN1 j2 hN2 _).mono ?_
          rintro e w5 ⟨cb5, fb5, G5, b5, rfl, hC5, hB5⟩
          have HC5 := Lib.hid hC5; have HB5 := Lib.hid (HB4.out.trans (hB5.mono HB4.out.size))
          have HCA5 := Lib.hid (HCA4.out.same hB5)
          have hlt4 : w1.heap.size < w4.heap.size := (Array.getElem?_eq_some_iff.1 HK4.out).1
          have HK5 := Lib.hid ((hB5.block _ hlt4).trans HK4.out)
          clear hC5 hB5 d4
          go_wp2_with fail
          refine (cTurn_any cb5 fb5 G5 N k b5 a m cap h hm _ HC5.out (HS.out.same HB5.out)).mono ?_
          rintro e w6 (⟨E, hE, hc, rfl, hB6⟩ | ⟨hc, G6, b6, rfl, hG6, hB6⟩)
          · exact absurd (hc.uniq (Or.inr (Or.inr (Or.inr ⟨HSD.out.1, HSD.out.2, by have := HG.out.2.2.1; omega, rfl⟩)))) hE
          · have hlt5 : w1.heap.size < w5.heap.size := (Array.getElem?_eq_some_iff.1 HK5.out).1
            have HCK := Lib.hid hc; have HG6 := Lib.hid (hG6.mono (Nat.zero_le _)); have HB6 := Lib.hid (HB5.out.trans (hB6.mono HB5.out.size)); have HCA6 := Lib.hid (HCA5.out.same hB6); have HK6 := Lib.hid ((hB6.block _ hlt5).trans HK5.out)
            clear hc hG6 hB6
            go_wp2_with fail
            have HD2 := Lib.hid (fun (W : World) (hW : W.heap[c0]? = w6.heap[c0]? ∧ W.heap[w1.heap.size]? = w6.heap[w1.heap.size]?) => (show W.cell? ⟨c0, 2, none⟩ = some (.pointer (some ⟨s, 0, none⟩)) from by rw [cell_of_row W c0 2 _ _ _ (hW.1.trans HCA6.out.blk)]; rfl))
            have HDK := Lib.hid (fun (W : World) (hW : W.heap[c0]? = w6.heap[c0]? ∧ W.heap[w1.heap.size]? = w6.heap[w1.heap.size]?) => hW.2.trans HK6.out)
            have HPT := Lib.hid (sput_any s b room hi mi L T (k : Nat) (ky k h) HKS.out (some ⟨G6, 0, none⟩) k k HCA6.out.kok HNM.out h0h h0m (by omega) w6.drew (HCA6.out.sh.same (below_dr (Below.refl _ w6) 1)))
            refine wp_region_held_drew (S := fun W => W.heap[c0]? = w6.heap[c0]? ∧ W.heap[w1.heap.size]? = w6.heap[w1.heap.size]?) (by kernel_rfl) ⟨rfl, rfl⟩ (fun hHeld => ?_)
            refine wpAnyH_take (i := 0) (oi := ⟨some 62, .move (.tmp 0), _, _, _, none⟩) (v := (.pointer (some ⟨c0, 0, none⟩))) rfl (by kernel_rfl) (by kernel_rfl) (by kernel_rfl) (fun _ _ _ h => h) (Or.inl ⟨by rfl, fun W hW => ?_⟩) (by assumption) ?_
            · go_simp
            simp only [Act.put, List.setIfInBounds_toArray, List.set_cons_zero, List.set_cons_succ]
            refine wpAnyH_take (i := 1) (oi := ⟨some 63, .nilCheck (.tmp 62), _, _, _, none⟩) (v := (.pointer (some ⟨c0, 0, none⟩))) rfl (by kernel_rfl) (by kernel_rfl) (by kernel_rfl) (fun _ _ _ h => h) (Or.inl ⟨by rfl, fun W hW => ?_⟩) (by assumption) ?_
            · go_simp
            simp only [Act.put, List.setIfInBounds_toArray, List.set_cons_zero, List.set_cons_succ]
            refine wpAnyH_take (i := 2) (oi := ⟨some 64, .fieldAddr 62 (.tmp 63) 2, _, _, _, none⟩) (v := (.pointer (some ⟨c0, 2, none⟩))) rfl (by kernel_rfl) (by kernel_rfl) (by kernel_rfl) (fun _ _ _ h => h) (Or.inl ⟨by rfl, fun W hW => ?_⟩) (by assumption) ?_
            · go_simp
            simp only [Act.put, List.setIfInBounds_toArray, List.set_cons_zero, List.set_cons_succ]
            refine wpAnyH_take (i := 3) (oi := ⟨some 65, .load 55 (.tmp 64), _, _, _, none⟩) (v := (.pointer (some ⟨s, 0, none⟩))) rfl (by kernel_rfl) (by kernel_rfl) (by kernel_rfl) (fun _ _ _ h => h) (Or.inl ⟨by rfl, fun W hW => ?_⟩) (by assumption) ?_
            · have := HD2.out W hW; go_simp
            simp only [Act.put, List.setIfInBounds_toArray, List.set_cons_zero, List.set_cons_succ]
            refine wpAnyH_take (i := 4) (oi := ⟨some 66, .load 59 (.tmp 8), _, _, _, none⟩) (v := (.agg (kc (k : Nat) (ky k h)))) rfl (by kernel_rfl) (by kernel_rfl) (by kernel_rfl) (fun _ _ _ h => h) (yields_key (g := w1.heap.size) (by rfl) (fun W hW => HDK.out W hW)) (by assumption) ?_
            simp only [Act.put, List.setIfInBounds_toArray, List.set_cons_zero, List.set_cons_succ]
            refine wpAnyH_take (i := 5) (oi := ⟨some 67, .move (.tmp 14), _, _, _, none⟩) (v := (.slice (some ⟨G6, 0, none⟩) k k)) rfl (by kernel_rfl) (by kernel_rfl) (by kernel_rfl) (fun _ _ _ h => h) (Or.inl ⟨by rfl, fun W hW => ?_⟩) (by assumption) ?_
            · go_simp
            simp only [Act.put, List.setIfInBounds_toArray, List.set_cons_zero, List.set_cons_succ]
            refine wpAnyH_ready (rs := [6]) (by kernel_rfl) (by simp) (AllReadyH.cons rfl (fun KK hKK => ?_) AllReadyH.nil)
            go_simp
            refine HPT.out.mono ?_
            rintro e w7 ⟨rfl, hS7, hB7⟩
            dsimp only
            have hb7 : But s b w6 w7 := (But.of (below_dr (Below.refl _ w6) 1)).trans hB7
            refine hKK.out _ _ ⟨hb7.at_ HCA6.out.sh HCA6.out.blk (by decide), hb7.at_ HCA6.out.sh HK6.out (by decide)⟩ (fun hHeld => ?_)
            clear hKK KK HPT
            have HIN : ∀ i, i < k → 0 ≤ h i ∧ h i < N := fun i hi => HSD.out.1 i (by have := HG.out.2.2.1; omega)
            have HCA7 := Lib.hid (HCA6.out.miss rfl HNM.out hKN1 j2 HIN (HG6.out.but hb7 HCA6.out.sh) hS7 hb7)
            have HB7 := Lib.hid ((But.of HB6.out : But s b w w6).trans hb7); have HG7 := Lib.hid (HG6.out.but hb7 HCA6.out.sh)
            clear hS7 hB7 hb7 HD2 HDK HIN
            refine wpAnyH_done (by kernel_rfl) ?_ _
            clear hHeld
            go_wp2
            go_ret2
            refine Or.inr ⟨by omega, by omega, by rw [Int.toNat_natCast]; exact HCK.out, G6, b6, onT T (kk k h) (some ⟨G6, 0, none⟩, k, k, hi + (mi + 1)), by rw [Int.toNat_natCast]; rfl, ?_, ?_, HB7.out⟩
            · rw [Int.toNat_natCast]; exact HG7.out
            · rw [Int.toNat_natCast]; exact HCA7.out
        · have HQ := Lib.hid (cnew_no (N : Nat) (k : Int) (by omega) w4)
          have HKN := Lib.hid (show ¬ (1 ≤ (k : Int) ∧ (k : Int) ≤ N) from by omega)
          refine HQ.out.mono ?_
          rintro e w5 ⟨rfl, hB5⟩
          have HB5 := Lib.hid (HB4.out.trans (hB5.mono HB4.out.size))
          clear hB5
          go_wp2
          go_ret2
          exact Or.inl ⟨2, by omega, rfl, Or.inl ⟨HKN.out, rfl⟩, HB5.out⟩
      · dsimp only
        have hb4 : But s b w3 w4 := (But.of (below_dr (Below.refl _ w3) 1)).trans hB4
        refine hKK.out _ _ ⟨hb4.at_ HCA3.out.sh HCA3.out.blk (by decide), hb4.at_ HCA3.out.sh HK3.out (by decide)⟩ (fun hHeld => ?_)
        clear hKK KK HTK
        obtain ⟨K', h', g', bI, u, eT, q1, q2, q3, q4, q5⟩ := HCA3.out.ent _ hmm
        have hN3 := HCA3.out.nm.2
        have hinj := klOf_inj HKS.out (ky_ok (show K' ≤ 255 by omega) (fun i hi => by have := q3 i hi; omega)) eT
        obtain rfl : k = K' := by have := hinj.1; omega
        have htr : trn h' k = trn h k := trn_congr (fun i hi => by
          have h5 := hinj.2 i (by have := HG.out.2.1; omega)
          unfold ky at h5
          rw [if_pos hi, if_pos hi] at h5
          exact h5.symm)
        rw [q4] at hS4 ⊢
        rw [htr] at q5
        have HCA7 := Lib.hid (HCA3.out.hit hmm q4 hS4 hb4)
        have HB7 := Lib.hid ((But.of HB3.out : But s b w w3).trans hb4); have HG7 := Lib.hid (q5.but hb4 HCA3.out.sh)
        have HQ2 := Lib.hid q2
        have HCK := Lib.hid (show Chk h m N k 0 from Or.inr (Or.inr (Or.inr ⟨HSD.out.1, HSD.out.2, by have := HG.out.2.2.1; omega, rfl⟩)))
        clear hS4 hB4 hb4 HD2 HDK hmm eT q3 q4 q5 hinj htr
        refine wpAnyH_take (i := 6) (oi := ⟨some 30, .move (.tmp 36), _, _, _, none⟩) (v := (.tuple #[(.slice (some ⟨g', 0, none⟩) k k), .bool true])) rfl (by kernel_rfl) (by kernel_rfl) (by kernel_rfl) (fun _ _ _ h => h) (Or.inl ⟨by rfl, fun W hW => ?_⟩) (by assumption) ?_
        · go_simp
        simp only [Act.put, List.setIfInBounds_toArray, List.set_cons_zero, List.set_cons_succ]
        refine wpAnyH_take (i := 7) (oi := ⟨some 37, .extract (.tmp 30) 0, _, _, _, none⟩) (v := (.slice (some ⟨g', 0, none⟩) k k)) rfl (by kernel_rfl) (by kernel_rfl) (by kernel_rfl) (fun _ _ _ h => h) (Or.inl ⟨by rfl, fun W hW => ?_⟩) (by assumption) ?_
        · go_simp
        simp only [Act.put, List.setIfInBounds_toArray, List.set_cons_zero, List.set_cons_succ]
        refine wpAnyH_take (i := 8) (oi := ⟨some 38, .extract (.tmp 30) 1, _, _, _, none⟩) (v := (.bool true)) rfl (by kernel_rfl) (by kernel_rfl) (by kernel_rfl) (fun _ _ _ h => h) (Or.inl ⟨by rfl, fun W hW => ?_⟩) (by assumption) ?_
        · go_simp
        simp only [Act.put, List.setIfInBounds_toArray, List.set_cons_zero, List.set_cons_succ]
        refine wpAnyH_take (i := 9) (oi := ⟨some 10, .assign (.tmp 37), _, _, _, none⟩) (v := (.slice (some ⟨g', 0, none⟩) k k)) rfl (by kernel_rfl) (by kernel_rfl) (by kernel_rfl) (fun _ _ _ h => h) (Or.inl ⟨by rfl, fun W hW => ?_⟩) (by assumption) ?_
        · go_simp
        simp only [Act.put, List.setIfInBounds_toArray, List.set_cons_zero, List.set_cons_succ]
        refine wpAnyH_take (i := 10) (oi := ⟨some 11, .assign (.tmp 38), _, _, _, none⟩) (v := (.bool true)) rfl (by kernel_rfl) (by kernel_rfl) (by kernel_rfl) (fun _ _ _ h => h) (Or.inl ⟨by rfl, fun W hW => ?_⟩) (by assumption) ?_
        · go_simp
        simp only [Act.put, List.setIfInBounds_toArray, List.set_cons_zero, List.set_cons_succ]
        refine wpAnyH_done (by kernel_rfl) ?_ _
        clear hHeld
        go_wp2
        go_ret2
        refine Or.inr ⟨by omega, by have := HQ2.out; omega, by rw [Int.toNat_natCast]; exact HCK.out, g', bI, onT T (kk k h) (some ⟨g', 0, none⟩, k, k, hi + 1 + mi), by rw [Int.toNat_natCast]; rfl, ?_, ?_, HB7.out⟩
        · rw [Int.toNat_natCast]; exact HG7.out
        · rw [Int.toNat_natCast]; exact HCA7.out
end Go.Proofs.Ytfiafccfkfillaa

namespace Go.Proofs.Ytfiafccfkfillaa
open Go.RowKit Go.Shelf Go.Maps

/-- what Turn answers. -/
def CTurnSays (N room c0 cb s b : Nat) (hi mi : Int) (L : List Lit) (K : Int) (m : Nat) (h : Nat → Int) (w : World) (e : Ending) (w' : World) : Prop :=
  (∃ E : Int, E ≠ 0 ∧ e = .returned (.tuple #[.slice none 0 0, .int .i64 E]) ∧ ((¬ (1 ≤ K ∧ K ≤ N) ∧ E = 2) ∨ (1 ≤ K ∧ K ≤ N ∧ Chk h m N K.toNat E)) ∧ Below w.heap.size w w') ∨
  (1 ≤ K ∧ K ≤ N ∧ Chk h m N K.toNat 0 ∧ ∃ G bI c T', e = .returned (.tuple #[.slice (some ⟨G, 0, none⟩) K.toNat K.toNat, .int .i64 0]) ∧ Gr w' w.heap.size G K.toNat K.toNat bI (fun _ => K.toNat) c (trn h K.toNat) ∧
    Ca w' N room c0 cb s b (askH L (kk K.toNat h) hi) (askM L (kk K.toNat h) mi) (askL room L (kk K.toNat h)) T' ∧ But s b w w')
set_option maxHeartbeats 1000000 in
set_option maxRecDepth 100000 in
theorem caturn_any (N room c0 cb s b : Nat) (hi mi : Int) (L : List Lit) (T : Lit → Tv) (K : Int) (a : Option Addr) (m cap : Nat) (h : Nat → Int) (hm : m ≤ 1000000000000) (hmc : m ≤ cap) (hcm : cap ≤ maxLen) (hbig : hi + mi ≤ 10000000000) (w : World) (hC : Ca w N room c0 cb s b hi mi L T) (hS : Si w a m h) :
    Calls Try.prog 10 #[.pointer (some ⟨c0, 0, none⟩), .int .i64 K, .slice a m cap] w (CTurnSays N room c0 cb s b hi mi L K m h w) := by
  have HC := Lib.hid hC; have HS := Lib.hid hS
  have hN2 := hC.nm.2
  clear hC hS
  go_enter Try.func10, Try.ntmps10
  go_wp2_with fail
  refine (canone_any N room c0 cb s b hi mi L T _ HC.out).mono ?_
  rintro e w' ⟨rfl, hw'⟩
  rw [hw']; clear hw'
  go_wp2_with fail
  refine (ask_any N room c0 cb s b hi mi L T K a m cap h hm hmc hcm hbig _ HC.out HS.out).mono ?_
  rintro e w1 (⟨E, hE, rfl, hc, hB⟩ | ⟨hK1, hK2, hc, G, bI, T', rfl, hG, hCa, hB⟩)
  · have g1 : (E != 0) = true := by simp [hE]
    have HE := Lib.hid hE; have HCK := Lib.hid hc; have HB := Lib.hid hB
    clear hE hc hB
    go_wp2
    go_ret2
    exact Or.inl ⟨E, HE.out, rfl, HCK.out, HB.out⟩
  · obtain ⟨k, rfl⟩ : ∃ k : Nat, K = (k : Nat) := ⟨K.toNat, by omega⟩
    rw [Int.toNat_natCast] at hc hG hCa ⊢
    have HCK := Lib.hid hc; have HG := Lib.hid hG; have HCA := Lib.hid hCa; have HB := Lib.hid hB
    clear hc hG hCa hB
    go_wp2_with fail
    refine (copied_any 0 G k k bI (trn h k) (by omega) (by omega) (by omega) _ HG.out).mono ?_
    rintro e w2 ⟨G2, b2, c2, rfl, hG2, hB2⟩
    have HG2 := Lib.hid (hG2.mono HB.out.size); have HCA2 := Lib.hid (HCA.out.same hB2); have HB2 := Lib.hid (HB.out.trans (But.of hB2))
    clear hG2 hB2
    go_wp2
    go_ret2
    refine Or.inr ⟨by omega, by omega, by rw [Int.toNat_natCast]; exact HCK.out, G2, b2, c2, T', by rw [Int.toNat_natCast]; rfl, ?_, ?_, HB2.out⟩
    · rw [Int.toNat_natCast]; exact HG2.out
    · rw [Int.toNat_natCast]; exact HCA2.out

/-- what Stat answers. -/
def StatSays (k hi mi : Int) (w : World) (e : Ending) (w' : World) : Prop := e = .returned (.agg #[.int .i64 k, .int .i64 hi, .int .i64 mi, .int .i64 (mi - k)]) ∧ Below w.heap.size w w'
set_option maxHeartbeats 2000000 in
set_option maxRecDepth 100000 in
theorem castat_any (N room c0 cb s b : Nat) (hi mi : Int) (L : List Lit) (T : Lit → Tv) (hbig : hi + mi ≤ 10000000000) (w : World) (hC : Ca w N room c0 cb s b hi mi L T) :
    Calls Try.prog 16 #[.pointer (some ⟨c0, 0, none⟩)] w (StatSays (L.length : Nat) hi mi w) := by
  obtain ⟨w1, hw1⟩ : ∃ w1, w1 = w.alloc (.cells #[.int .i64 0, .int .i64 0, .int .i64 0, .int .i64 0] 46) := ⟨_, rfl⟩
  have hal : Below w.heap.size w w1 := by rw [hw1]; exact (Below.refl _ w).alloc (Nat.le_refl _) _
  have hg1 : w1.heap[w.heap.size]? = some (.cells #[.int .i64 0, .int .i64 0, .int .i64 0, .int .i64 0] 46 (0, 0)) := by rw [hw1]; exact heap_alloc_new _ _
  have hca := hC.same hal
  have d2 := hca.d2; have c2 := hca.sh.c2; have c3 := hca.sh.c3
  have hlen := hC.cnt.2
  have hhi := hC.cnt.1
  have hsub : IntKind.i64.wrap (mi - (L.length : Nat)) = mi - (L.length : Nat) := IntWalk.i64_in _ (by omega)
  have HW1 := Lib.hid hw1; have HCA := Lib.hid hca; have HAL := Lib.hid hal; have HG1 := Lib.hid hg1
  clear hw1 hal hg1 hca hC
  go_enter Try.func16, Try.ntmps16
  go_wp2_with fail
  rw [← HW1.out]
  refine (canone_any N room c0 cb s b hi mi L T _ HCA.out).mono ?_
  rintro e w' ⟨rfl, hw'⟩
  rw [hw']; clear hw'
  go_wp2_with fail
  refine Rb.wp_region_quiet_tail 33 (by kernel_rfl) (by kernel_rfl) ?_
  simp only [List.take_succ_cons, List.take_zero, List.drop_succ_cons, List.drop_zero]
  repeat (go_big_quiet_step ((go_at_call 33; exact Calls.quiet_of_same (kept_any' s b room hi mi (hi + mi) L T _ (HCA.out.sh.same (below_dr (Below.refl _ _) _))))))
  refine wpQuiet_nil ?_
  rintro _ ⟨k2, rfl⟩
  have HG2 := Lib.hid (show (w1.drewN k2).heap[w.heap.size]? = some (.cells #[.int .i64 0, .int .i64 0, .int .i64 0, .int .i64 0] 46 (0, 0)) from HG1.out)
  have HB2 := Lib.hid (show Below w.heap.size w (w1.drewN k2) from below_dr HAL.out k2)
  refine wpList_store_row rfl 46 _ _ rfl w.heap.size #[.int .i64 (L.length : Nat), .int .i64 hi, .int .i64 mi, .int .i64 (mi - (L.length : Nat))] rfl rfl 46 _ HG2.out (by kernel_rfl) rfl (by simp [Value.oneCell']) ?_
  obtain ⟨w3, hw3⟩ : ∃ w3, w3 = (w1.drewN k2).setRow w.heap.size #[.int .i64 (L.length : Nat), .int .i64 hi, .int .i64 mi, .int .i64 (mi - (L.length : Nat))] := ⟨_, rfl⟩
  rw [← hw3]
  have HG3 := Lib.hid (show w3.heap[w.heap.size]? = some (.cells #[.int .i64 (L.length : Nat), .int .i64 hi, .int .i64 mi, .int .i64 (mi - (L.length : Nat))] 46 (0, 0)) from by rw [hw3]; exact setRow_heap _ _ _ _ _ _ HG2.out)
  have HB3 := Lib.hid (show Below w.heap.size w w3 from by rw [hw3]; exact HB2.out.trans ((only_row _ _ _).below (Nat.le_refl _)))
  clear hw3
  go_wp2
  (try simp only [Exit.inBlock, Exit.then])
  exact bodyPost_ret (results_cell_row rfl _ _ w.heap.size _ _ (0, 0) _ rfl HG3.out Try.underlying46 rfl (by kernel_rfl)) rfl ⟨rfl, HB3.out⟩

/-- the load of a key, under a guard. -/
theorem yields_keyG {ops : Array Oper} {S : World → Prop} {a : Act} {dst : Option Tmp} {typ : TypeId} {pos : String} {aft : Array Edge} {gd : Option (Nat × Bool)} {x : Operand} {g : Nat} {K : Int} {f : Nat → Int} (hw : Region.wanted ⟨dst, .load 59 x, typ, pos, aft, gd⟩ (yielded ops a.tmps) = true) (hx : a.eval x = .pointer (some ⟨g, 0, none⟩)) (hS : ∀ W, S W → W.heap[g]? = some (.cells (kc K f) 59 (0, 0))) :
    YieldsIf Try.prog ops S ⟨dst, .load 59 x, typ, pos, aft, gd⟩ (.agg (kc K f)) a := Or.inl ⟨hw, fun W hW => by
  unfold execOp
  simp only [hx]
  rw [Sem.run_bind, load_key (hS W hW)]
  rfl⟩
/-- what Has answers. -/
def CHasSays (L : List Lit) (K : Int) (m : Nat) (h : Nat → Int) (w : World) (e : Ending) (w' : World) : Prop := ∃ v : Bool, e = .returned (.bool v) ∧ (v = true ↔ GoodK K m h ∧ kk K.toNat h ∈ L) ∧ Below w.heap.size w w'
set_option maxHeartbeats 2000000 in
set_option maxRecDepth 100000 in
theorem cahas_any (N room c0 cb s b : Nat) (hi mi : Int) (L : List Lit) (T : Lit → Tv) (K : Int) (a : Option Addr) (m cap : Nat) (h : Nat → Int) (hm : m ≤ 1000000000000) (hmc : m ≤ cap) (hcm : cap ≤ maxLen) (w : World) (hC : Ca w N room c0 cb s b hi mi L T) (hS : Si w a m h) :
    Calls Try.prog 17 #[.pointer (some ⟨c0, 0, none⟩), .int .i64 K, .slice a m cap] w (CHasSays L K m h w) := by
  have hzk : ∀ w, (zeroValue 59).run Try.prog w = .ok (.agg kzero) w := zero_key
  rw [kzero_eq] at hzk
  have HC := Lib.hid hC; have HS := Lib.hid hS
  clear hC hS
  go_enter Try.func17, Try.ntmps17
  go_wp2_with fail
  refine (canone_any N room c0 cb s b hi mi L T _ HC.out).mono ?_
  rintro e w' ⟨rfl, hw'⟩
  rw [hw']; clear hw'
  go_wp2_with fail
  refine (keyOf_any K a m cap h hm hmc hcm _ HS.out).mono ?_
  rintro e w1 ⟨hk, hB1⟩
  have HB1 := Lib.hid hB1; clear hB1
  rcases hk with ⟨hng, rfl⟩ | ⟨hg, rfl⟩
  · have HNG := Lib.hid hng; clear hng
    go_wp2_with (refine wpList_store_key rfl _ _ rfl w1.heap.size rfl 0 (fun _ => 0) rfl 0 (fun _ => 0) (heap_alloc_new w1 _) ?_; intro w2 hO hk'; have hb2 : Below w1.heap.size w1 w2 := ((Below.refl _ w1).alloc (Nat.le_refl _) _).trans (hO.below (Nat.le_refl _)); have HB2 := Lib.hid (HB1.out.trans (hb2.mono HB1.out.size)); have HCA := Lib.hid ((HC.out.same HB1.out).same hb2); have HK2 := Lib.hid hk'; clear hO hk' hb2)
    refine wp_region_held_drew (S := fun W => Below w2.heap.size w2 W) (by kernel_rfl) (below_dr (Below.refl _ w2) 1) (fun hHeld => ?_)
    refine wpAnyH_take (i := 0) (oi := ⟨some 17, .move (.tmp 8), _, _, _, none⟩) (v := (.bool false)) rfl (by kernel_rfl) (by kernel_rfl) (by kernel_rfl) (fun _ _ _ h => h) (Or.inl ⟨by rfl, fun W hW => ?_⟩) (by assumption) ?_
    · go_simp
    simp only [Act.put, List.setIfInBounds_toArray, List.set_cons_zero, List.set_cons_succ]
    refine wpAnyH_take (i := 1) (oi := ⟨some 18, .move (.tmp 17), _, _, _, none⟩) (v := (.bool false)) rfl (by kernel_rfl) (by kernel_rfl) (by kernel_rfl) (fun _ _ _ h => h) (Or.inl ⟨by rfl, fun W hW => ?_⟩) (by assumption) ?_
    · go_simp
    simp only [Act.put, List.setIfInBounds_toArray, List.set_cons_zero, List.set_cons_succ]
    refine wpAnyH_take (i := 2) (oi := ⟨some 19, _, _, _, _, some (1, true)⟩) (v := undef) rfl (by kernel_rfl) (by kernel_rfl) (by kernel_rfl) (fun _ _ _ h => h) (Or.inr ⟨by rfl, rfl⟩) (by assumption) ?_
    simp only [Act.put, List.setIfInBounds_toArray, List.set_cons_zero, List.set_cons_succ]
    refine wpAnyH_take (i := 3) (oi := ⟨some 20, _, _, _, _, some (1, true)⟩) (v := undef) rfl (by kernel_rfl) (by kernel_rfl) (by kernel_rfl) (fun _ _ _ h => h) (Or.inr ⟨by rfl, rfl⟩) (by assumption) ?_
    simp only [Act.put, List.setIfInBounds_toArray, List.set_cons_zero, List.set_cons_succ]
    refine wpAnyH_take (i := 4) (oi := ⟨some 21, _, _, _, _, some (1, true)⟩) (v := undef) rfl (by kernel_rfl) (by kernel_rfl) (by kernel_rfl) (fun _ _ _ h => h) (Or.inr ⟨by rfl, rfl⟩) (by assumption) ?_
    simp only [Act.put, List.setIfInBounds_toArray, List.set_cons_zero, List.set_cons_succ]
    refine wpAnyH_take (i := 5) (oi := ⟨some 22, _, _, _, _, some (1, true)⟩) (v := undef) rfl (by kernel_rfl) (by kernel_rfl) (by kernel_rfl) (fun _ _ _ h => h) (Or.inr ⟨by rfl, rfl⟩) (by assumption) ?_
    simp only [Act.put, List.setIfInBounds_toArray, List.set_cons_zero, List.set_cons_succ]
    refine wpAnyH_take (i := 6) (oi := ⟨some 23, _, _, _, _, some (1, true)⟩) (v := undef) rfl (by kernel_rfl) (by kernel_rfl) (by kernel_rfl) (fun _ _ _ h => h) (Or.inr ⟨by rfl, rfl⟩) (by assumption) ?_
    simp only [Act.put, List.setIfInBounds_toArray, List.set_cons_zero, List.set_cons_succ]
    refine wpAnyH_take (i := 7) (oi := ⟨some 24, _, _, _, _, some (1, true)⟩) (v := undef) rfl (by kernel_rfl) (by kernel_rfl) (by kernel_rfl) (fun _ _ _ h => h) (Or.inr ⟨by rfl, rfl⟩) (by assumption) ?_
    simp only [Act.put, List.setIfInBounds_toArray, List.set_cons_zero, List.set_cons_succ]
    refine wpAnyH_take (i := 8) (oi := ⟨some 25, .pick (.tmp 18) (.tmp 24) (.const (.bool false)), _, _, _, none⟩) (v := (.bool false)) rfl (by kernel_rfl) (by kernel_rfl) (by kernel_rfl) (fun _ _ _ h => h) (Or.inl ⟨by rfl, fun W hW => ?_⟩) (by assumption) ?_
    · go_simp
    simp only [Act.put, List.setIfInBounds_toArray, List.set_cons_zero, List.set_cons_succ]
    refine wpAnyH_take (i := 9) (oi := ⟨some 6, .assign (.tmp 25), _, _, _, none⟩) (v := (.bool false)) rfl (by kernel_rfl) (by kernel_rfl) (by kernel_rfl) (fun _ _ _ h => h) (Or.inl ⟨by rfl, fun W hW => ?_⟩) (by assumption) ?_
    · go_simp
    simp only [Act.put, List.setIfInBounds_toArray, List.set_cons_zero, List.set_cons_succ]
    refine wpAnyH_done (by kernel_rfl) ?_ _
    have HB3 := Lib.hid (HB2.out.trans (hHeld.mono HB2.out.size))
    clear hHeld
    go_wp2
    go_ret
    exact ⟨false, rfl, ⟨fun hh => absurd hh Bool.false_ne_true, fun hh => absurd hh.1 HNG.out⟩, HB3.out⟩
  · obtain ⟨k, rfl⟩ : ∃ k : Nat, K = (k : Nat) := ⟨K.toNat, by have := hg.1; omega⟩
    rw [Int.toNat_natCast]
    have HG := Lib.hid hg; clear hg
    go_wp2_with (refine wpList_store_key rfl _ _ rfl w1.heap.size rfl (k : Nat) (ky k h) rfl 0 (fun _ => 0) (heap_alloc_new w1 _) ?_; intro w2 hO hk'; have hb2 : Below w1.heap.size w1 w2 := ((Below.refl _ w1).alloc (Nat.le_refl _) _).trans (hO.below (Nat.le_refl _)); have HB2 := Lib.hid (HB1.out.trans (hb2.mono HB1.out.size)); have HCA := Lib.hid ((HC.out.same HB1.out).same hb2); have HK2 := Lib.hid hk'; clear hO hk' hb2)
    have HD2 := Lib.hid (fun (W : World) (hW : Below w2.heap.size w2 W) => (HCA.out.same hW).d2)
    have hlt1 : w1.heap.size < w2.heap.size := (Array.getElem?_eq_some_iff.1 HK2.out).1
    have HDK := Lib.hid (fun (W : World) (hW : Below w2.heap.size w2 W) => (hW.block _ hlt1).trans HK2.out)
    have hKs : KeyOk (k : Nat) (ky k h) := ky_ok (by have := HG.out.2.1; omega) (fun i hi => by have := HG.out.2.2.2 i (by omega); omega)
    have HHS := Lib.hid (shas_any s b room hi mi (hi + mi) L T (k : Nat) (ky k h) hKs w2.drew (HCA.out.sh.same (below_dr (Below.refl _ w2) 1)))
    clear hKs
    refine wp_region_held_drew (S := fun W => Below w2.heap.size w2 W) (by kernel_rfl) (below_dr (Below.refl _ w2) 1) (fun hHeld => ?_)
    refine wpAnyH_take (i := 0) (oi := ⟨some 17, .move (.tmp 8), _, _, _, none⟩) (v := (.bool true)) rfl (by kernel_rfl) (by kernel_rfl) (by kernel_rfl) (fun _ _ _ h => h) (Or.inl ⟨by rfl, fun W hW => ?_⟩) (by assumption) ?_
    · go_simp
    simp only [Act.put, List.setIfInBounds_toArray, List.set_cons_zero, List.set_cons_succ]
    refine wpAnyH_take (i := 1) (oi := ⟨some 18, .move (.tmp 17), _, _, _, none⟩) (v := (.bool true)) rfl (by kernel_rfl) (by kernel_rfl) (by kernel_rfl) (fun _ _ _ h => h) (Or.inl ⟨by rfl, fun W hW => ?_⟩) (by assumption) ?_
    · go_simp
    simp only [Act.put, List.setIfInBounds_toArray, List.set_cons_zero, List.set_cons_succ]
    refine wpAnyH_take (i := 2) (oi := ⟨some 19, .move (.tmp 0), _, _, _, some (1, true)⟩) (v := (.pointer (some ⟨c0, 0, none⟩))) rfl (by kernel_rfl) (by kernel_rfl) (by kernel_rfl) (fun _ _ _ h => h) (Or.inl ⟨by rfl, fun W hW => ?_⟩) (by assumption) ?_
    · go_simp
    simp only [Act.put, List.setIfInBounds_toArray, List.set_cons_zero, List.set_cons_succ]
    refine wpAnyH_take (i := 3) (oi := ⟨some 20, .nilCheck (.tmp 19), _, _, _, some (1, true)⟩) (v := (.pointer (some ⟨c0, 0, none⟩))) rfl (by kernel_rfl) (by kernel_rfl) (by kernel_rfl) (fun _ _ _ h => h) (Or.inl ⟨by rfl, fun W hW => ?_⟩) (by assumption) ?_
    · go_simp
    simp only [Act.put, List.setIfInBounds_toArray, List.set_cons_zero, List.set_cons_succ]
    refine wpAnyH_take (i := 4) (oi := ⟨some 21, .fieldAddr 62 (.tmp 20) 2, _, _, _, some (1, true)⟩) (v := (.pointer (some ⟨c0, 2, none⟩))) rfl (by kernel_rfl) (by kernel_rfl) (by kernel_rfl) (fun _ _ _ h => h) (Or.inl ⟨by rfl, fun W hW => ?_⟩) (by assumption) ?_
    · go_simp
    simp only [Act.put, List.setIfInBounds_toArray, List.set_cons_zero, List.set_cons_succ]
    refine wpAnyH_take (i := 5) (oi := ⟨some 22, .load 55 (.tmp 21), _, _, _, some (1, true)⟩) (v := (.pointer (some ⟨s, 0, none⟩))) rfl (by kernel_rfl) (by kernel_rfl) (by kernel_rfl) (fun _ _ _ h => h) (Or.inl ⟨by rfl, fun W hW => ?_⟩) (by assumption) ?_
    · have := HD2.out W hW; go_simp
    simp only [Act.put, List.setIfInBounds_toArray, List.set_cons_zero, List.set_cons_succ]
    refine wpAnyH_take (i := 6) (oi := ⟨some 23, .load 59 (.tmp 7), _, _, _, some (1, true)⟩) (v := (.agg (kc (k : Nat) (ky k h)))) rfl (by kernel_rfl) (by kernel_rfl) (by kernel_rfl) (fun _ _ _ h => h) (yields_keyG (g := w1.heap.size) (by rfl) (by rfl) (fun W hW => HDK.out W hW)) (by assumption) ?_
    simp only [Act.put, List.setIfInBounds_toArray, List.set_cons_zero, List.set_cons_succ]
    refine wpAnyH_ready (rs := [7]) (by kernel_rfl) (by simp) (AllReadyH.cons rfl (fun KK hKK => ?_) AllReadyH.nil)
    go_simp
    refine HHS.out.mono ?_
    rintro e w4 ⟨v, rfl, hv, hB4⟩
    dsimp only
    have hb4 : Below w2.heap.size w2 w4 := (below_dr (Below.refl _ w2) 1).trans hB4
    refine hKK.out _ _ hb4 (fun hHeld => ?_)
    clear hKK KK HHS
    have HV := Lib.hid hv; have HB4 := Lib.hid (HB2.out.trans (hb4.mono HB2.out.size))
    clear hv hB4 hb4
    refine wpAnyH_take (i := 8) (oi := ⟨some 25, .pick (.tmp 18) (.tmp 24) (.const (.bool false)), _, _, _, none⟩) (v := (.bool v)) rfl (by kernel_rfl) (by kernel_rfl) (by kernel_rfl) (fun _ _ _ h => h) (Or.inl ⟨by rfl, fun W hW => ?_⟩) (by assumption) ?_
    · go_simp
    simp only [Act.put, List.setIfInBounds_toArray, List.set_cons_zero, List.set_cons_succ]
    refine wpAnyH_take (i := 9) (oi := ⟨some 6, .assign (.tmp 25), _, _, _, none⟩) (v := (.bool v)) rfl (by kernel_rfl) (by kernel_rfl) (by kernel_rfl) (fun _ _ _ h => h) (Or.inl ⟨by rfl, fun W hW => ?_⟩) (by assumption) ?_
    · go_simp
    simp only [Act.put, List.setIfInBounds_toArray, List.set_cons_zero, List.set_cons_succ]
    refine wpAnyH_done (by kernel_rfl) ?_ _
    clear hHeld
    go_wp2
    go_ret
    exact ⟨v, rfl, ⟨fun hh => ⟨HG.out, by rw [Int.toNat_natCast]; exact HV.out.1 hh⟩, fun hh => HV.out.2 (by have := hh.2; rw [Int.toNat_natCast] at this; exact this)⟩, HB4.out⟩
end Go.Proofs.Ytfiafccfkfillaa

namespace Go.Proofs.Ytfiafccfkfillaa
open Go.RowKit Go.Shelf Go.Maps

theorem and_one : ∀ a : Nat, a < 256 → bits .and .u8 (a : Int) 1 = ((a % 2 : Nat) : Int) := by decide +kernel
theorem notand_one : ∀ a : Nat, a < 256 → bits .andNot .u8 (a : Int) 1 = ((a - a % 2 : Nat) : Int) := by decide +kernel
theorem split_one : ∀ a : Nat, a < 256 → a = (a % 2) ^^^ (a - a % 2) := by decide +kernel
theorem line_lw : ∀ x : Nat, x < 256 → Pf.lw Pf.idn 2 x 1 = x := by decide +kernel
/-- a row by an index, as a symbol of two rows. -/
theorem line_mul {f : Nat → Nat → Nat} (h0 : ∀ j, f 0 j = 0) {x : Nat} (hx : x < 255) (j : Nat) : enc 2 f x j = Gf.mul x (f 1 j) := by
  unfold enc Pf.mv
  rw [Pf.idn_at (by omega)]
  show Pf.xsum (fun p => Gf.mul (Pf.lw Pf.idn 2 x p) (f p j)) 2 = _
  simp only [Pf.xsum]
  rw [line_lw x (by omega), h0, Gf.mul_zero]
  simp
theorem split_mul {a b : Nat} (ha : a < 256) (hb : b < 256) : Gf.mul a b = Gf.mul (a % 2) b ^^^ Gf.mul (a - a % 2) b := by
  rw [← Gf.xor_mul (by omega) (by omega) hb, ← split_one a ha]

/-- the first k bytes summed. -/
def adf (F R : Nat → Nat) (k i : Nat) : Nat := if i < k then F i ^^^ R i else F i
theorem adf_s (F R : Nat → Nat) (k i : Nat) : (if i = k then F k ^^^ R k else adf F R k i) = adf F R (k + 1) i := by
  unfold adf
  by_cases e : i = k
  · subst e; rw [if_pos rfl, if_pos (by omega)]
  · rw [if_neg e]
    by_cases c : i < k
    · rw [if_pos c, if_pos (by omega)]
    · rw [if_neg c, if_neg (by omega)]
theorem adf_at (F R : Nat → Nat) (k : Nat) : adf F R k k = F k := by unfold adf; rw [if_neg (by omega)]
set_option maxHeartbeats 1000000 in
set_option maxRecDepth 100000 in
theorem cadd_any (g n : Nat) (ra : Option Addr) (c : Nat) (F R : Nat → Nat) (hn : n ≤ 1000000) (hF : Pf.By F) (hR : Pf.By R) (w : World) (hb : Bl w g n n F) (hr : Sl w ra n c R) (hne : ∀ ad, ra = some ad → n ≠ 0 → ad.block ≠ g) :
    Calls Try.prog 61 #[.slice (some ⟨g, 0, none⟩) n n, .slice ra n c] w fun e w' => e = .returned (.tuple #[]) ∧ w.grownBy w' (some g) ∧ Bl w' g n n (fun i => F i ^^^ R i) := by
  have HB := Lib.hid hb; have HR := Lib.hid hr; have HF := Lib.hid hF; have HRR := Lib.hid hR; have HNE := Lib.hid hne
  have HST := Lib.hid (hb.congr (h' := adf F R 0) fun j _ => by unfold adf; rw [if_neg (by omega)])
  have hgr0 : w.grownBy w (some g) := ⟨rfl, rfl, rfl, Nat.le_refl _, fun _ _ _ => rfl⟩
  have HGR0 := Lib.hid hgr0
  clear hb hr hF hR hne hgr0
  go_enter Try.func61, Try.ntmps61
  go_wp2_with fail
  go_loopw [8] (fun i wr => ∃ k : Nat, k ≤ n ∧ i = .int .i64 k ∧ Bl wr g n n (adf F R k) ∧ w.grownBy wr (some g)) (fun i _ => n - (intOf i).toNat)
  case atStart => exact ⟨0, by omega, rfl, HST.out, HGR0.out⟩
  case round =>
    rename_i wr
    obtain ⟨k, hk, rfl, hBl, hGr⟩ := hrel
    by_cases hkm : k < n
    · have i1 : (k : Int) < (n : Int) := by omega
      have c1 := hBl.cell (i := k) hkm
      have f1 := hBl.free k
      rw [adf_at] at c1
      obtain ⟨b2, o2, e2, c2⟩ := (HR.out.grown hGr (fun ad e hl => by have := HNE.out ad e hl; simp; exact this)).at_ hkm
      have E2 := Lib.hid (show ra = some ⟨b2, o2, none⟩ from e2)
      subst e2
      have d1 := HF.out k
      have d2 := HRR.out k
      have HBl := Lib.hid hBl; have HGr := Lib.hid hGr
      have hx : bits .xor .u8 ((F k : Nat) : Int) ((R k : Nat) : Int) = ((F k ^^^ R k : Nat) : Int) := u8_xor_nat _ _ d1 d2
      clear hBl hGr
      go_wp2
      go_roundw
      case rel => exact ⟨k + 1, by omega, by go_num, (HBl.out.set hkm _).congr (fun i _ => by rw [← adf_s]), HGr.out.trans (grownSet _ _ _ _)⟩
      case measure => simp [intOf]; omega
    · obtain rfl : k = n := by omega
      have HBl := Lib.hid (hBl.congr (h' := fun i => F i ^^^ R i) (fun i hi => by unfold adf; rw [if_pos hi])); have HGr := Lib.hid hGr
      clear hBl hGr
      go_wp2
      go_end0
      exact ⟨rfl, HGr.out, HBl.out⟩
end Go.Proofs.Ytfiafccfkfillaa

namespace Go.Proofs.Ytfiafccfkfillaa
open Go.RowKit Go.Shelf Go.Maps

/-- two rows, the first of noughts. -/
def two (R : Nat → Nat) (i j : Nat) : Nat := if i = 1 then R j else 0
theorem two_bm {R : Nat → Nat} (h : Pf.By R) : Mt.Bm (two R) := fun i j => by unfold two; split; exact h j; omega
theorem two_rd {w : World} {g z n c : Nat} {ra : Option Addr} {R : Nat → Nat} (hn : n ≤ 1000000) (hg : w.heap[g]? = some (.cells #[.slice (some ⟨z, 0, none⟩) n n, .slice ra n c] 74 (0, 0))) (hz : Bl w z n n (fun _ => 0)) (hr : Sl w ra n c R) :
    Rd w (some ⟨g, 0, none⟩) 2 2 (fun i => if i = 1 then ra else some ⟨z, 0, none⟩) (fun _ => n) (fun i => if i = 1 then c else n) (two R) where
  capOk := Nat.le_refl _
  maxOk := by unfold maxLen; omega
  bm := two_bm hr.bytes
  nil e := by cases e
  spot ad e _ := by cases e; rfl
  cell ad e i hi := by
    cases e
    show w.cell? ⟨g, 0 + i, none⟩ = _
    rw [Nat.zero_add, cell_of_row w g i _ _ _ hg]
    rcases i with _ | _ | i
    · rfl
    · rfl
    · omega
  row i hi := by
    rcases i with _ | _ | i
    · exact (hz.congr (fun j _ => rfl)).sl (Nat.le_refl _) (by unfold maxLen; omega) (fun j => by show 0 < 256; omega) (fun j _ => rfl)
    · exact hr
    · omega

set_option maxHeartbeats 2000000 in
set_option maxRecDepth 100000 in
theorem times_any (cb fb G : Nat) (b : Nat → Nat) (ra : Option Addr) (n c x : Nat) (R : Nat → Nat) (hn : n ≤ 1000000) (hx : x < 255) (w : World) (hC : Cd w cb fb G 255 2 b) (hr : Sl w ra n c R) :
    Calls Try.prog 62 #[.agg #[.pointer (some ⟨cb, 0, none⟩)], .slice ra n c, .int .i64 (x : Nat)] w fun e w' => ∃ g, e = .returned (.slice (some ⟨g, 0, none⟩) n n) ∧ w.heap.size ≤ g ∧ Bl w' g n n (fun j => Gf.mul x (R j)) ∧ Below w.heap.size w w' := by
  have hmk := hmk8 n (by omega)
  obtain ⟨w1, hw1⟩ : ∃ w1, w1 = w.alloc (.cells #[.pointer (some ⟨cb, 0, none⟩)] 52) := ⟨_, rfl⟩
  have hal : Below w.heap.size w w1 := by rw [hw1]; exact (Below.refl _ w).alloc (Nat.le_refl _) _
  have hg1 : w1.heap[w.heap.size]? = some (.cells #[.pointer (some ⟨cb, 0, none⟩)] 52 (0, 0)) := by rw [hw1]; exact heap_alloc_new _ _
  have hlt1 : w.heap.size < w1.heap.size := (Array.getElem?_eq_some_iff.1 hg1).1
  have HW1 := Lib.hid hw1; have HAL := Lib.hid hal; have HC1 := Lib.hid (hC.same hal); have HR1 := Lib.hid (hr.same hal)
  have HL := Lib.hid (fun (W : World) (hW : Below w1.heap.size w1 W) => (show W.cell? ⟨w.heap.size, 0, none⟩ = some (.pointer (some ⟨cb, 0, none⟩)) from by rw [cell_of_row W w.heap.size 0 _ _ _ ((hW.block _ hlt1).trans hg1)]; rfl))
  obtain ⟨w2, hw2⟩ : ∃ w2, w2 = (w1.alloc (.cells (madeCells #[.int .u8 0] n) 5)).drew := ⟨_, rfl⟩
  have hb2 : Below w1.heap.size w1 w2 := by rw [hw2]; exact below_dr ((Below.refl _ w1).alloc (Nat.le_refl _) _) 1
  have hz2 : Bl w2 w1.heap.size n n (fun _ => 0) := by rw [hw2]; exact bl_made w1 n
  obtain ⟨w3, hw3⟩ : ∃ w3, w3 = w2.alloc (.cells #[.slice (some ⟨w1.heap.size, 0, none⟩) n n, .slice ra n c] 74) := ⟨_, rfl⟩
  have hb3 : Below w2.heap.size w2 w3 := by rw [hw3]; exact (Below.refl _ w2).alloc (Nat.le_refl _) _
  have hg3 : w3.heap[w2.heap.size]? = some (.cells #[.slice (some ⟨w1.heap.size, 0, none⟩) n n, .slice ra n c] 74 (0, 0)) := by rw [hw3]; exact heap_alloc_new _ _
  have hz3 := hz2.kept (hb3.block _ hz2.lt)
  have hrd := two_rd hn hg3 hz3 ((HR1.out.same hb2).same hb3)
  have HRD := Lib.hid hrd; have HC3 := Lib.hid ((HC1.out.same hb2).same hb3)
  have hs12 := hb2.size
  have HB3 := Lib.hid (hb2.trans (hb3.mono hs12))
  have HB2 := Lib.hid hb2
  have HW2 := Lib.hid hw2; have HW3 := Lib.hid hw3
  have HBY := Lib.hid hr.bytes
  clear hw1 hal hg1 hC hr hw2 hb2 hz2 hw3 hb3 hg3 hz3 hrd
  go_enter Try.func62, Try.ntmps62
  go_wp2_with fail
  rw [← HW1.out]
  refine wp_region_held_drew (S := fun W => Below w1.heap.size w1 W) (by kernel_rfl) (below_dr (Below.refl _ w1) 1) (fun hHeld => ?_)
  refine wpAnyH_take (i := 0) (oi := ⟨some 10, .fieldAddr 52 (.tmp 3) 0, _, _, _, none⟩) (v := (.pointer (some ⟨w.heap.size, 0, none⟩))) rfl (by kernel_rfl) (by kernel_rfl) (by kernel_rfl) (fun _ _ _ h => h) (Or.inl ⟨by rfl, fun W hW => ?_⟩) (by assumption) ?_
  · go_simp
  simp only [Act.put, List.setIfInBounds_toArray, List.set_cons_zero, List.set_cons_succ]
  refine wpAnyH_take (i := 1) (oi := ⟨some 11, .load 32 (.tmp 10), _, _, _, none⟩) (v := (.pointer (some ⟨cb, 0, none⟩))) rfl (by kernel_rfl) (by kernel_rfl) (by kernel_rfl) (fun _ _ _ h => h) (Or.inl ⟨by rfl, fun W hW => ?_⟩) (by assumption) ?_
  · have := HL.out W hW; go_simp
  simp only [Act.put, List.setIfInBounds_toArray, List.set_cons_zero, List.set_cons_succ]
  refine wpAnyH_take (i := 2) (oi := ⟨some 12, .move (.tmp 1), _, _, _, none⟩) (v := (.slice ra n c)) rfl (by kernel_rfl) (by kernel_rfl) (by kernel_rfl) (fun _ _ _ h => h) (Or.inl ⟨by rfl, fun W hW => ?_⟩) (by assumption) ?_
  · go_simp
  simp only [Act.put, List.setIfInBounds_toArray, List.set_cons_zero, List.set_cons_succ]
  refine wpAnyH_take (i := 3) (oi := ⟨some 13, .call { callee := Callee.builtin Builtin.len, args := #[.tmp 12], argTypes := #[74] }, _, _, _, none⟩) (v := (.int .i64 (n : Nat))) rfl (by kernel_rfl) (by kernel_rfl) (by kernel_rfl) (fun _ _ _ h => h) (Or.inl ⟨by rfl, fun W hW => ?_⟩) (by assumption) ?_
  · go_simp
  simp only [Act.put, List.setIfInBounds_toArray, List.set_cons_zero, List.set_cons_succ]
  refine wpAnyH_take (i := 5) (oi := ⟨some 15, .move (.tmp 1), _, _, _, none⟩) (v := (.slice ra n c)) rfl (by kernel_rfl) (by kernel_rfl) (by kernel_rfl) (fun _ _ _ h => h) (Or.inl ⟨by rfl, fun W hW => ?_⟩) (by assumption) ?_
  · go_simp
  simp only [Act.put, List.setIfInBounds_toArray, List.set_cons_zero, List.set_cons_succ]
  refine wpAnyH_take (i := 7) (oi := ⟨some 17, .move (.tmp 2), _, _, _, none⟩) (v := (.int .i64 (x : Nat))) rfl (by kernel_rfl) (by kernel_rfl) (by kernel_rfl) (fun _ _ _ h => h) (Or.inl ⟨by rfl, fun W hW => ?_⟩) (by assumption) ?_
  · go_simp
  simp only [Act.put, List.setIfInBounds_toArray, List.set_cons_zero, List.set_cons_succ]
  refine wpAnyH_ready (rs := [4]) (by kernel_rfl) (by simp) (AllReadyH.cons rfl (fun KK hKK => ?_) AllReadyH.nil)
  go_simp
  rw [← HW2.out]
  refine hKK.out _ _ HB2.out (fun hHeld => ?_)
  clear hKK KK hmk
  try simp only [Act.put, List.setIfInBounds_toArray, List.set_cons_zero, List.set_cons_succ]
  refine wpAnyH_ready (rs := [6]) (by kernel_rfl) (by simp) (AllReadyH.cons rfl (fun KK hKK => ?_) AllReadyH.nil)
  go_simp
  rw [← HW3.out]
  refine hKK.out _ _ HB3.out (fun hHeld => ?_)
  clear hKK KK
  have HSY := Lib.hid (csymbol_any cb fb G 255 2 b (some ⟨w2.heap.size, 0, none⟩) 2 2 (x : Nat) _ _ _ (two R) (by omega) (fun i _ => hn) w3 HC3.out HRD.out)
  refine wpAnyH_ready (rs := [8]) (by kernel_rfl) (by simp) (AllReadyH.cons rfl (fun KK hKK => ?_) AllReadyH.nil)
  go_simp
  refine HSY.out.mono ?_
  rintro e w4 (⟨hno, _⟩ | ⟨_, _, _, g, rfl, hg, hb, hB4⟩)
  · exact absurd ⟨⟨rfl, fun i _ => rfl⟩, by omega, by omega⟩ hno
  dsimp only
  refine hKK.out _ _ (HB3.out.trans (hB4.mono HB3.out.size)) (fun hHeld => ?_)
  clear hKK KK HSY
  have HB4 := Lib.hid (HAL.out.trans ((HB3.out.trans (hB4.mono HB3.out.size)).mono HAL.out.size))
  have hs3 := HB3.out.size
  have HBL := Lib.hid (hb.congr (h' := fun j => Gf.mul x (R j)) (fun j _ => by rw [Int.toNat_natCast, line_mul (fun j => rfl) hx]; rfl))
  clear hb hB4
  refine wpAnyH_take (i := 9) (oi := ⟨some 9, .move (.tmp 18), _, _, _, none⟩) (v := (.tuple #[.slice (some ⟨g, 0, none⟩) n n, .int .i64 0])) rfl (by kernel_rfl) (by kernel_rfl) (by kernel_rfl) (fun _ _ _ h => h) (Or.inl ⟨by rfl, fun W hW => ?_⟩) (by assumption) ?_
  · go_simp
  simp only [Act.put, List.setIfInBounds_toArray, List.set_cons_zero, List.set_cons_succ]
  refine wpAnyH_take (i := 10) (oi := ⟨some 19, .extract (.tmp 9) 0, _, _, _, none⟩) (v := (.slice (some ⟨g, 0, none⟩) n n)) rfl (by kernel_rfl) (by kernel_rfl) (by kernel_rfl) (fun _ _ _ h => h) (Or.inl ⟨by rfl, fun W hW => ?_⟩) (by assumption) ?_
  · go_simp
  simp only [Act.put, List.setIfInBounds_toArray, List.set_cons_zero, List.set_cons_succ]
  refine wpAnyH_take (i := 11) (oi := ⟨some 20, .extract (.tmp 9) 1, _, _, _, none⟩) (v := (.int .i64 0)) rfl (by kernel_rfl) (by kernel_rfl) (by kernel_rfl) (fun _ _ _ h => h) (Or.inl ⟨by rfl, fun W hW => ?_⟩) (by assumption) ?_
  · go_simp
  simp only [Act.put, List.setIfInBounds_toArray, List.set_cons_zero, List.set_cons_succ]
  refine wpAnyH_take (i := 12) (oi := ⟨some 7, .assign (.tmp 19), _, _, _, none⟩) (v := (.slice (some ⟨g, 0, none⟩) n n)) rfl (by kernel_rfl) (by kernel_rfl) (by kernel_rfl) (fun _ _ _ h => h) (Or.inl ⟨by rfl, fun W hW => ?_⟩) (by assumption) ?_
  · go_simp
  simp only [Act.put, List.setIfInBounds_toArray, List.set_cons_zero, List.set_cons_succ]
  refine wpAnyH_take (i := 13) (oi := ⟨some 8, .assign (.tmp 20), _, _, _, none⟩) (v := (.int .i64 0)) rfl (by kernel_rfl) (by kernel_rfl) (by kernel_rfl) (fun _ _ _ h => h) (Or.inl ⟨by rfl, fun W hW => ?_⟩) (by assumption) ?_
  · go_simp
  simp only [Act.put, List.setIfInBounds_toArray, List.set_cons_zero, List.set_cons_succ]
  refine wpAnyH_done (by kernel_rfl) ?_ _
  clear hHeld
  go_wp2
  go_ret
  exact ⟨g, rfl, by omega, HBL.out, HB4.out⟩

/-- what is summed so far. -/
theorem smv_s (wt : Nat → Nat) (f : Nat → Nat → Nat) (k j : Nat) : smv wt f (k + 1) j = smv wt f k j ^^^ Gf.mul (wt k) (f k j) := rfl
set_option maxHeartbeats 2000000 in
set_option maxRecDepth 100000 in
theorem lsum_any (cb fb G : Nat) (b : Nat → Nat) (wa : Option Addr) (m wc : Nat) (wt : Nat → Nat) (ha : Option Addr) (hn hc : Nat) (h : Nat → Int) (r : Nat → Option Addr) (l c : Nat → Nat) (f : Nat → Nat → Nat) (hm : m ≤ hn) (h0 : 0 < hn) (he : ∀ i, i < hn → l i = l 0) (hl : l 0 ≤ 1000000) (hhn : hn ≤ 1000000) (w : World) (hC : Cd w cb fb G 255 2 b) (hW : Sl w wa m wc wt) (hH : Hs w ha hn h r l c f) :
    Calls Try.prog 46 #[.agg #[.pointer (some ⟨cb, 0, none⟩)], .slice wa m wc, .slice ha hn hc] w fun e w' => ∃ g, e = .returned (.slice (some ⟨g, 0, none⟩) (l 0) (l 0)) ∧ w.heap.size ≤ g ∧ Bl w' g (l 0) (l 0) (smv wt f m) ∧ Below w.heap.size w w' := by
  obtain ⟨wi, hwi⟩ : ∃ wi, l 0 = wi := ⟨_, rfl⟩
  have HE := Lib.hid (fun i (hi : i < hn) => (he i hi).trans hwi)
  have HWI := Lib.hid hwi
  rw [hwi] at hl ⊢
  have hmk := hmk8 wi (by omega)
  have hal : Below w.heap.size w (w.alloc (.cells #[.pointer (some ⟨cb, 0, none⟩)] 52)) := (Below.refl _ w).alloc (Nat.le_refl _) _
  obtain ⟨b0, o0, ea0, _, hc0⟩ := (hH.same hal).cell 0 h0
  have EA0 := Lib.hid (show ha = some ⟨b0, o0, none⟩ from ea0)
  subst ea0
  rw [hwi] at hc0
  simp only [Nat.zero_mul, Nat.add_zero] at hc0
  have hbm := hH.bm
  obtain ⟨w1, hw1⟩ : ∃ w1, w1 = (w.alloc (.cells #[.pointer (some ⟨cb, 0, none⟩)] 52)).alloc (.cells (madeCells #[.int .u8 0] wi) 5) := ⟨_, rfl⟩
  have hB1 : Below w.heap.size w w1 := by rw [hw1]; exact ((Below.refl _ w).alloc (Nat.le_refl _) _).alloc (by simp) _
  have hb1 : Bl w1 (w.heap.size + 1) wi wi (fun _ => 0) := by
    rw [hw1]
    have := bl_made (w.alloc (.cells #[.pointer (some ⟨cb, 0, none⟩)] 52)) wi
    simpa using this
  have hg1 : w1.heap[w.heap.size]? = some (.cells #[.pointer (some ⟨cb, 0, none⟩)] 52 (0, 0)) := by rw [hw1]; exact heap_alloc2_old w _ _
  have HW1 := Lib.hid hw1; have HB1 := Lib.hid hB1; have HBL1 := Lib.hid hb1; have HG1 := Lib.hid hg1
  have HC := Lib.hid hC; have HWT := Lib.hid hW; have HH := Lib.hid hH
  have hlt1 : w.heap.size < w1.heap.size := (Array.getElem?_eq_some_iff.1 hg1).1
  have HBM := Lib.hid hbm
  clear hw1 hB1 hb1 hg1 hC hW hH hal hwi he hbm
  go_enter Try.func46, Try.ntmps46
  go_wp2_with fail
  rw [← HW1.out]
  clear hc0
  go_loopw [20] (fun i wr => ∃ k : Nat, k ≤ m ∧ i = .int .i64 k ∧ Bl wr (w.heap.size + 1) wi wi (smv wt f k) ∧ wr.heap[w.heap.size]? = some (.cells #[.pointer (some ⟨cb, 0, none⟩)] 52 (0, 0)) ∧ Below w.heap.size w wr) (fun i _ => m - (intOf i).toNat)
  case atStart => exact ⟨0, by omega, rfl, HBL1.out.congr (fun i _ => rfl), HG1.out, HB1.out⟩
  case round =>
    clear hmk HBL1 HG1 HB1 HW1
    rename_i wr
    obtain ⟨k, hk, rfl, hBl, hg, hB⟩ := hrel
    by_cases hkm : k < m
    · have i1 : (k : Int) < (m : Int) := by omega
      have i2 : (k : Int) < (hn : Int) := by omega
      obtain ⟨ab, ao, ea, hcw⟩ := (HWT.out.same hB).at_ hkm
      have EAW := Lib.hid (show wa = some ⟨ab, ao, none⟩ from ea)
      subst ea
      have d1 := HWT.out.bytes k
      obtain ⟨hb, ho, eh, _, hch⟩ := (HH.out.same hB).cell k (by omega)
      have EAH := Lib.hid eh
      have e1 : b0 = hb := by injection eh with e; injection e
      have e2 : o0 = ho := by injection eh with e; injection e
      subst e1 e2
      have hrow := HH.out.row k (by omega)
      rw [HE.out k (by omega)] at hrow hch
      have hlt := hrow.lt
      have HROW := Lib.hid hrow
      have HRN := Lib.hid (show ∀ ad, r k = some ad → wi ≠ 0 → ad.block ≠ w.heap.size + 1 from fun ad e hl => by have := hlt ad e hl; omega)
      have hsz := hB.size
      have hlb := hBl.lt
      have HBl := Lib.hid hBl; have HG := Lib.hid hg; have HB := Lib.hid hB
      have HSB := Lib.hid (smv_by HWT.out.bytes HBM.out k)
      have HFB := Lib.hid (HBM.out k)
      clear hBl hg hB hrow hlt eh
      generalize hv : wt k = v at hcw d1
      have HV := Lib.hid hv; clear hv
      have a1 := and_one v d1
      have a2 := notand_one v d1
      by_cases hodd : v % 2 = 1
      · by_cases hrest : v - v % 2 = 0
        · have hd1 := 0
          clear hd1
          have g1 : (((v % 2 : Nat) : Int) == 1) = true := by simp; omega
          have g2 : ((((v - v % 2 : Nat) : Int)) != 0) = false := by simp; omega
          have g3 : IntKind.i64.wrap ((v - v % 2 : Nat) : Int) = ((v - v % 2 : Nat) : Int) := IntWalk.i64_in _ (by omega)
          generalize hq : v % 2 = q at a1 a2 g1 g2 g3
          generalize hrr : v - q = rs at a2 g2 g3
          have HQ := Lib.hid hq; have HRR := Lib.hid hrr
          have HQ1 := Lib.hid (show q = 1 from by omega)
          have HR1 := Lib.hid (show rs = 0 from by omega)
          clear hq hrr
          have hgl := cell_of_row wr w.heap.size 0 _ _ _ HG.out
          go_wp2_with fail
          have hgr0 : wr.grownBy wr (some (w.heap.size + 1)) := ⟨rfl, rfl, rfl, Nat.le_refl _, fun _ _ _ => rfl⟩
          have HR0 := Lib.hid hgr0; clear hgr0
          refine (cadd_any (w.heap.size + 1) wi (r k) (c k) (smv wt f k) (f k) hl HSB.out HFB.out _ HBl.out (HROW.out.same HB.out) HRN.out).mono ?_
          rintro e w2 ⟨rfl, hgr, hbl2⟩
          have HR2 := Lib.hid hgr; have HBl2 := Lib.hid hbl2
          have HB2 := Lib.hid (HB.out.grown hgr hsz (by intro j hj; cases hj; omega))
          have hsz2 := HB2.out.size
          have hsz2' := hgr.size
          have HG2 := Lib.hid ((hgr.block w.heap.size (by omega) (by simp)).trans HG.out)
          clear hgl
          have hgl := cell_of_row w2 w.heap.size 0 _ _ _ HG2.out
          have HSB2 := Lib.hid (show Pf.By (fun j => smv wt f k j ^^^ f k j) from fun j => Gf.xor_lt (HSB.out j) (HFB.out j))
          clear hgr hbl2
          go_wp2_with fail
          go_wp2
          go_roundw
          case rel => exact ⟨k + 1, by omega, by go_num, HBl2.out.congr (fun j _ => by
              have key : smv wt f (k + 1) j = smv wt f k j ^^^ (Gf.mul q (f k j) ^^^ Gf.mul rs (f k j)) := by rw [smv_s, HV.out, split_mul d1 (HFB.out j), HQ.out, HRR.out]
              rw [key, HQ1.out, HR1.out]
              simp [Gf.mul_one _ (HFB.out j), Gf.zero_mul, Nat.xor_assoc]), HG2.out, HB2.out⟩
          case measure => simp [intOf]; omega
        · have hd1 := 0
          clear hd1
          have g1 : (((v % 2 : Nat) : Int) == 1) = true := by simp; omega
          have g2 : ((((v - v % 2 : Nat) : Int)) != 0) = true := by simp; omega
          have g3 : IntKind.i64.wrap ((v - v % 2 : Nat) : Int) = ((v - v % 2 : Nat) : Int) := IntWalk.i64_in _ (by omega)
          generalize hq : v % 2 = q at a1 a2 g1 g2 g3
          generalize hrr : v - q = rs at a2 g2 g3
          have HQ := Lib.hid hq; have HRR := Lib.hid hrr
          have HQ1 := Lib.hid (show q = 1 from by omega)
          have hrs1 : rs < 255 := by omega
          clear hq hrr
          have hgl := cell_of_row wr w.heap.size 0 _ _ _ HG.out
          go_wp2_with fail
          have hgr0 : wr.grownBy wr (some (w.heap.size + 1)) := ⟨rfl, rfl, rfl, Nat.le_refl _, fun _ _ _ => rfl⟩
          have HR0 := Lib.hid hgr0; clear hgr0
          refine (cadd_any (w.heap.size + 1) wi (r k) (c k) (smv wt f k) (f k) hl HSB.out HFB.out _ HBl.out (HROW.out.same HB.out) HRN.out).mono ?_
          rintro e w2 ⟨rfl, hgr, hbl2⟩
          have HR2 := Lib.hid hgr; have HBl2 := Lib.hid hbl2
          have HB2 := Lib.hid (HB.out.grown hgr hsz (by intro j hj; cases hj; omega))
          have hsz2 := HB2.out.size
          have hsz2' := hgr.size
          have HG2 := Lib.hid ((hgr.block w.heap.size (by omega) (by simp)).trans HG.out)
          clear hgl
          have hgl := cell_of_row w2 w.heap.size 0 _ _ _ HG2.out
          have HSB2 := Lib.hid (show Pf.By (fun j => smv wt f k j ^^^ f k j) from fun j => Gf.xor_lt (HSB.out j) (HFB.out j))
          clear hgr hbl2
          go_wp2_with fail
          refine (times_any cb fb G b (r k) wi (c k) rs (f k) hl hrs1 _ (HC.out.same HB2.out) (HROW.out.same HB2.out)).mono ?_
          rintro e w3 ⟨g3', rfl, hg3', hbl3, hB3⟩
          have hsz3 := hB3.size
          have hs3w := HB2.out.size
          have HB3 := Lib.hid (HB2.out.trans (hB3.mono HB2.out.size)); have HBl3 := Lib.hid (HBl2.out.below hB3 HBl2.out.lt); have HT3 := Lib.hid hbl3
          have hlb3 := HBl2.out.lt
          have HG3 := Lib.hid ((hB3.block w.heap.size (by omega)).trans HG2.out)
          have HMB := Lib.hid (show Pf.By (fun j => Gf.mul rs (f k j)) from fun j => Gf.mul_lt (by omega) (HFB.out j))
          have HMU := Lib.hid (show Pf.Up (fun j => Gf.mul rs (f k j)) wi from fun j hj => by show Gf.mul rs (f k j) = 0; rw [show f k j = 0 from HROW.out.up j hj, Gf.mul_zero])
          have hgne : g3' ≠ w.heap.size + 1 := by omega
          clear hg3' hbl3 hB3 hgl
          go_wp2_with fail
          refine (cadd_any (w.heap.size + 1) wi (some ⟨g3', 0, none⟩) wi (fun j => smv wt f k j ^^^ f k j) (fun j => Gf.mul rs (f k j)) hl HSB2.out HMB.out _ HBl3.out (HT3.out.sl (Nat.le_refl _) (by unfold maxLen; omega) HMB.out HMU.out) (fun ad e _ => by cases e; exact hgne)).mono ?_
          rintro e w4 ⟨rfl, hgr4, hbl4⟩
          have HB4 := Lib.hid (HB3.out.grown hgr4 HB3.out.size (by intro j hj; cases hj; omega))
          have HG4 := Lib.hid ((hgr4.block w.heap.size (by omega) (by simp)).trans HG3.out); have HBl4 := Lib.hid hbl4
          clear hgr4 hbl4
          go_wp2
          go_roundw
          case rel => exact ⟨k + 1, by omega, by go_num, HBl4.out.congr (fun j _ => by
              have key : smv wt f (k + 1) j = smv wt f k j ^^^ (Gf.mul q (f k j) ^^^ Gf.mul rs (f k j)) := by rw [smv_s, HV.out, split_mul d1 (HFB.out j), HQ.out, HRR.out]
              rw [key, HQ1.out]
              simp [Gf.mul_one _ (HFB.out j), Gf.zero_mul, Nat.xor_assoc]), HG4.out, HB4.out⟩
          case measure => simp [intOf]; omega
      · by_cases hrest : v - v % 2 = 0
        · have hd1 := 0
          clear hd1
          have g1 : (((v % 2 : Nat) : Int) == 1) = false := by simp; omega
          have g2 : ((((v - v % 2 : Nat) : Int)) != 0) = false := by simp; omega
          have g3 : IntKind.i64.wrap ((v - v % 2 : Nat) : Int) = ((v - v % 2 : Nat) : Int) := IntWalk.i64_in _ (by omega)
          generalize hq : v % 2 = q at a1 a2 g1 g2 g3
          generalize hrr : v - q = rs at a2 g2 g3
          have HQ := Lib.hid hq; have HRR := Lib.hid hrr
          have HQ1 := Lib.hid (show q = 0 from by omega)
          have HR1 := Lib.hid (show rs = 0 from by omega)
          clear hq hrr
          have hgl := cell_of_row wr w.heap.size 0 _ _ _ HG.out
          go_wp2_with fail
          have hgr0 : wr.grownBy wr (some (w.heap.size + 1)) := ⟨rfl, rfl, rfl, Nat.le_refl _, fun _ _ _ => rfl⟩
          have HR0 := Lib.hid hgr0; clear hgr0
          have hsz2 := hsz
          go_wp2
          go_roundw
          case rel => exact ⟨k + 1, by omega, by go_num, HBl.out.congr (fun j _ => by
              have key : smv wt f (k + 1) j = smv wt f k j ^^^ (Gf.mul q (f k j) ^^^ Gf.mul rs (f k j)) := by rw [smv_s, HV.out, split_mul d1 (HFB.out j), HQ.out, HRR.out]
              rw [key, HQ1.out, HR1.out]
              simp [Gf.mul_one _ (HFB.out j), Gf.zero_mul, Nat.xor_assoc]), HG.out, HB.out⟩
          case measure => simp [intOf]; omega
        · have hd1 := 0
          clear hd1
          have g1 : (((v % 2 : Nat) : Int) == 1) = false := by simp; omega
          have g2 : ((((v - v % 2 : Nat) : Int)) != 0) = true := by simp; omega
          have g3 : IntKind.i64.wrap ((v - v % 2 : Nat) : Int) = ((v - v % 2 : Nat) : Int) := IntWalk.i64_in _ (by omega)
          generalize hq : v % 2 = q at a1 a2 g1 g2 g3
          generalize hrr : v - q = rs at a2 g2 g3
          have HQ := Lib.hid hq; have HRR := Lib.hid hrr
          have HQ1 := Lib.hid (show q = 0 from by omega)
          have hrs1 : rs < 255 := by omega
          clear hq hrr
          have hgl := cell_of_row wr w.heap.size 0 _ _ _ HG.out
          go_wp2_with fail
          have hgr0 : wr.grownBy wr (some (w.heap.size + 1)) := ⟨rfl, rfl, rfl, Nat.le_refl _, fun _ _ _ => rfl⟩
          have HR0 := Lib.hid hgr0; clear hgr0
          have hsz2 := hsz
          refine (times_any cb fb G b (r k) wi (c k) rs (f k) hl hrs1 _ (HC.out.same HB.out) (HROW.out.same HB.out)).mono ?_
          rintro e w3 ⟨g3', rfl, hg3', hbl3, hB3⟩
          have hsz3 := hB3.size
          have hs3w := HB.out.size
          have HB3 := Lib.hid (HB.out.trans (hB3.mono HB.out.size)); have HBl3 := Lib.hid (HBl.out.below hB3 HBl.out.lt); have HT3 := Lib.hid hbl3
          have hlb3 := HBl.out.lt
          have HG3 := Lib.hid ((hB3.block w.heap.size (by omega)).trans HG.out)
          have HMB := Lib.hid (show Pf.By (fun j => Gf.mul rs (f k j)) from fun j => Gf.mul_lt (by omega) (HFB.out j))
          have HMU := Lib.hid (show Pf.Up (fun j => Gf.mul rs (f k j)) wi from fun j hj => by show Gf.mul rs (f k j) = 0; rw [show f k j = 0 from HROW.out.up j hj, Gf.mul_zero])
          have hgne : g3' ≠ w.heap.size + 1 := by omega
          clear hg3' hbl3 hB3 hgl
          go_wp2_with fail
          refine (cadd_any (w.heap.size + 1) wi (some ⟨g3', 0, none⟩) wi (smv wt f k) (fun j => Gf.mul rs (f k j)) hl HSB.out HMB.out _ HBl3.out (HT3.out.sl (Nat.le_refl _) (by unfold maxLen; omega) HMB.out HMU.out) (fun ad e _ => by cases e; exact hgne)).mono ?_
          rintro e w4 ⟨rfl, hgr4, hbl4⟩
          have HB4 := Lib.hid (HB3.out.grown hgr4 HB3.out.size (by intro j hj; cases hj; omega))
          have HG4 := Lib.hid ((hgr4.block w.heap.size (by omega) (by simp)).trans HG3.out); have HBl4 := Lib.hid hbl4
          clear hgr4 hbl4
          go_wp2
          go_roundw
          case rel => exact ⟨k + 1, by omega, by go_num, HBl4.out.congr (fun j _ => by
              have key : smv wt f (k + 1) j = smv wt f k j ^^^ (Gf.mul q (f k j) ^^^ Gf.mul rs (f k j)) := by rw [smv_s, HV.out, split_mul d1 (HFB.out j), HQ.out, HRR.out]
              rw [key, HQ1.out]
              simp [Gf.mul_one _ (HFB.out j), Gf.zero_mul, Nat.xor_assoc]), HG4.out, HB4.out⟩
          case measure => simp [intOf]; omega
    · obtain rfl : k = m := by omega
      have hsz := hB.size
      have HBl := Lib.hid hBl; have HB := Lib.hid hB
      clear hBl hg hB
      go_wp2
      go_ret
      exact ⟨w.heap.size + 1, rfl, Nat.le_succ _, HBl.out, HB.out⟩
end Go.Proofs.Ytfiafccfkfillaa

namespace Go.Proofs.Ytfiafccfkfillaa
open Go.RowKit Go.Shelf Go.Maps

set_option maxHeartbeats 2000000 in
set_option maxRecDepth 100000 in
theorem lsums_any (cb fb G0 : Nat) (b0 : Nat → Nat) (B G k : Nat) (bI : Nat → Nat) (M : Nat → Nat → Nat) (ha : Option Addr) (hn hc : Nat) (h : Nat → Int) (r : Nat → Option Addr) (l c : Nat → Nat) (f : Nat → Nat → Nat) (hk : k ≤ hn) (h0 : 0 < hn) (he : ∀ i, i < hn → l i = l 0) (hl : l 0 ≤ 1000000) (hhn : hn ≤ 1000000) (w : World) (hC : Cd w cb fb G0 255 2 b0) (hG : Gr w B G k k bI (fun _ => k) (fun _ => k) M) (hH : Hs w ha hn h r l c f) :
    Calls Try.prog 29 #[.agg #[.pointer (some ⟨cb, 0, none⟩)], .slice (some ⟨G, 0, none⟩) k k, .slice ha hn hc] w (SumsSays w k (l 0) (fun i => smv (M i) f k)) := by
  obtain ⟨wi, hwi⟩ : ∃ wi, l 0 = wi := ⟨_, rfl⟩
  have HWI := Lib.hid hwi; have HE0 := Lib.hid he; have HL0 := Lib.hid hl
  rw [hwi] at hl ⊢
  have hmk := hmkRows k (by omega)
  have hal : Below w.heap.size w (w.alloc (.cells #[.pointer (some ⟨cb, 0, none⟩)] 52)) := (Below.refl _ w).alloc (Nat.le_refl _) _
  obtain ⟨w1, hw1⟩ : ∃ w1, w1 = (w.alloc (.cells #[.pointer (some ⟨cb, 0, none⟩)] 52)).alloc (.cells (madeCells #[.slice none 0 0] k) 74) := ⟨_, rfl⟩
  have hB1 : Below w.heap.size w w1 := by rw [hw1]; exact ((Below.refl _ w).alloc (Nat.le_refl _) _).alloc (by simp) _
  have hg1 : w1.heap[w.heap.size]? = some (.cells #[.pointer (some ⟨cb, 0, none⟩)] 52 (0, 0)) := by rw [hw1]; exact heap_alloc2_old w _ _
  have hGr := gr_made (w.alloc (.cells #[.pointer (some ⟨cb, 0, none⟩)] 52)) w.heap.size k (fun _ => 0) (fun _ => wi) (fun _ => wi) (by omega) (by simp)
  rw [← hw1] at hGr
  have hGr1 : Gr w1 w.heap.size (w.heap.size + 1) 0 k (fun _ => 0) (fun _ => wi) (fun _ => wi) (fun _ _ => 0) := by simpa using hGr
  have HG0 := Lib.hid (hGr1.congr (smk_bm hG.bm hH.bm (fun _ => k) 0) (fun i j h => absurd h (Nat.not_lt_zero i)))
  have HB1 := Lib.hid hB1; have HG1 := Lib.hid hg1; have HW1 := Lib.hid hw1
  have HC := Lib.hid hC; have HG := Lib.hid hG; have HH := Lib.hid hH
  clear hw1 hB1 hg1 hGr hGr1 hC hG hH hal hwi he
  go_enter Try.func29, Try.ntmps29
  go_wp2_with fail
  rw [← HW1.out]
  go_loopw [15] (fun i wr => ∃ (t : Nat) (b : Nat → Nat), t ≤ k ∧ i = .int .i64 t ∧ Gr wr w.heap.size (w.heap.size + 1) t k b (fun _ => wi) (fun _ => wi) (smk M f (fun _ => k) t) ∧ wr.heap[w.heap.size]? = some (.cells #[.pointer (some ⟨cb, 0, none⟩)] 52 (0, 0)) ∧ Below w.heap.size w wr) (fun i _ => k - (intOf i).toNat)
  case atStart => exact ⟨0, _, by omega, rfl, HG0.out, HG1.out, HB1.out⟩
  case round =>
    rename_i wr
    clear hmk HG0 HB1 HG1 HW1
    obtain ⟨t, bb, ht, rfl, hGt, hg, hBe⟩ := hrel
    have HGT := Lib.hid hGt; have HBe := Lib.hid hBe; have HLG := Lib.hid hg
    clear hGt hBe hg
    by_cases htk : t < k
    · have i1 : (t : Int) < (k : Int) := by omega
      have hRk := HG.out.same HBe.out
      have hca := hRk.cell htk
      have hgl := cell_of_row wr w.heap.size 0 _ _ _ HLG.out
      have hc' := lsum_any cb fb G0 b0 (some ⟨bI t, 0, none⟩) k k (M t) ha hn hc h r l c f hk h0 HE0.out HL0.out hhn wr (HC.out.same HBe.out) (hRk.rd.row t htk) (HH.out.same HBe.out)
      rw [HWI.out] at hc'
      have HCC := Lib.hid hc'
      clear hc' hRk
      go_wp2_with fail
      refine HCC.out.mono ?_
      rintro e w2 ⟨g2, rfl, hg2, hb, hB2⟩
      have hG2 := HGT.out.same hB2
      obtain ⟨vs, k1, k2, k3⟩ := hG2.blk
      obtain ⟨v0, hcell⟩ : ∃ v, w2.cell? ⟨w.heap.size + 1, t, none⟩ = some v := by
        refine ⟨vs[t]'(by omega), ?_⟩
        rw [cell_of_row w2 _ t vs _ _ k1]
        simp [show t < vs.size by omega]
      have hfr := hG2.free t
      have hsz2 := HBe.out.size
      have hltb := Lib.hid (fun i hi => HGT.out.ltb (i := i) hi)
      have hlg := (Array.getElem?_eq_some_iff.1 HLG.out).1
      have HG2 := Lib.hid hG2; have HBL := Lib.hid hb; have HB2 := Lib.hid (HBe.out.trans (hB2.mono HBe.out.size)); have HLG2 := Lib.hid ((hB2.block _ hlg).trans HLG.out)
      clear hG2 hb hB2 k1 k2 k3 hgl
      go_wp2_with fail
      go_roundw
      case rel => exact ⟨t + 1, _, by omega, by go_num, HG2.out.pushU htk HBL.out (by unfold maxLen; omega) (by omega) (fun i hi e => by have := hltb.out i hi; omega) (smv_by (HG.out.bm t) HH.out.bm _) (smv_up fun p hp => by have := (HH.out.row p (by omega)).up; rw [HE0.out p (by omega), HWI.out] at this; exact this) (smk_bm HG.out.bm HH.out.bm (fun _ => k) (t + 1)) (fun i j hi => by
          unfold smk; rw [if_pos hi, if_pos (by omega)]) (fun j => by unfold smk; rw [if_pos (by omega)]), by rw [heap_setCell_other _ _ _ _ (by show w.heap.size ≠ w.heap.size + 1; omega)]; exact HLG2.out, HB2.out.setCell (p := ⟨w.heap.size + 1, t, none⟩) (Nat.le_succ _) _⟩
      case measure => simp [intOf]; omega
    · obtain rfl : t = k := by omega
      go_wp2
      go_ret
      exact ⟨w.heap.size + 1, bb, rfl, HGT.out.congr (fun i j => smv_by (HG.out.bm i) HH.out.bm _ j) (fun i j hi => by unfold smk; rw [if_pos hi]), HBe.out⟩

def CEvenSays (n : Nat) (l : Nat → Nat) (w : World) (e : Ending) (w' : World) : Prop := ∃ v : Bool, e = .returned (.bool v) ∧ (v = true ↔ ∀ i, i < n → l i = l 0) ∧ Below w.heap.size w w'
set_option maxHeartbeats 2000000 in
set_option maxRecDepth 100000 in
theorem ceven_any (ha : Option Addr) (n hc : Nat) (h : Nat → Int) (r : Nat → Option Addr) (l c : Nat → Nat) (f : Nat → Nat → Nat) (hn : n ≤ 1000000000000) (w : World) (hH : Hs w ha n h r l c f) :
    Calls Try.prog 28 #[.slice ha n hc] w (CEvenSays n l w) := by
  have HH := Lib.hid hH; clear hH
  go_enter Try.func28, Try.ntmps28
  go_wp2_with fail
  go_loopw [7] (fun i wr => ∃ k : Nat, k ≤ n ∧ i = .int .i64 k ∧ (∀ j, j < k → l j = l 0) ∧ Below w.heap.size w wr) (fun i _ => n - (intOf i).toNat)
  case atStart => exact ⟨0, by omega, rfl, fun j hj => absurd hj (Nat.not_lt_zero j), Below.refl _ _⟩
  case round =>
    rename_i wr
    obtain ⟨k, hk, rfl, hev, hB⟩ := hrel
    have HE := Lib.hid hev; have HB := Lib.hid hB
    clear hev hB
    by_cases hlt : k < n
    · have i1 : (k : Int) < (n : Int) := by omega
      obtain ⟨b, o, ea, q1, q2⟩ := (HH.out.same HB.out).cell k hlt
      obtain ⟨b', o', ea', q3, q4⟩ := (HH.out.same HB.out).cell 0 (by omega)
      have EA := Lib.hid (show ha = some ⟨b, o, none⟩ from ea)
      subst ea
      have e1 : b = b' := by injection ea' with e; injection e
      have e2 : o = o' := by injection ea' with e; injection e
      subst e1 e2
      have i3 : (0 : Int) < (n : Int) := by omega
      simp only [Nat.zero_mul, Nat.add_zero] at q3 q4
      have hsz := HB.out.size
      have hbl := World.block_lt_of_cell? _ _ q1
      have hbl : b < wr.heap.size := hbl
      have hal : Below wr.heap.size wr (wr.alloc (.cells #[.int .i64 (h k), .slice (r k) (l k) (c k)] 77)) := (Below.refl _ wr).alloc (Nat.le_refl _) _
      have HAL := Lib.hid (HB.out.trans (hal.mono hsz))
      clear ea' hal
      by_cases hel : l k = l 0
      · have g1 : (((l k : Nat) : Int) != ((l 0 : Nat) : Int)) = false := ne_no hel
        have HEE := Lib.hid hel; clear hel
        go_wp2_with fail
        go_quiet (fail)
        go_wp2
        go_roundw
        case rel => exact ⟨k + 1, by omega, by go_num, fun j hj => by
          by_cases e : j = k
          · rw [e]; exact HEE.out
          · exact HE.out j (by omega), below_dr HAL.out _⟩
        case measure => simp [intOf]; omega
      · have g1 : (((l k : Nat) : Int) != ((l 0 : Nat) : Int)) = true := ne_yes hel
        have HEE := Lib.hid (show ¬ ∀ i, i < n → l i = l 0 from fun h => hel (h k hlt)); clear hel
        go_wp2_with fail
        go_quiet (fail)
        go_wp2
        go_ret
        exact ⟨false, rfl, ⟨fun hh => absurd hh Bool.false_ne_true, fun hh => absurd hh HEE.out⟩, below_dr HAL.out _⟩
    · obtain rfl : k = n := by omega
      go_wp2
      go_ret
      exact ⟨true, rfl, ⟨fun _ => HE.out, fun _ => rfl⟩, HB.out⟩
end Go.Proofs.Ytfiafccfkfillaa

namespace Go.Proofs.Ytfiafccfkfillaa
open Go.RowKit Go.Shelf Go.Maps

section
variable {w w' : World} {s b room : Nat} {hi mi tp : Int} {L : List Lit} {T : Lit → Tv}
theorem Sh.notin (S : Sh w s b room hi mi tp L T) {i j : Nat} {v : Value} (h : w.cell? ⟨i, j, none⟩ = some v) (h1 : ∀ n, v ≠ .int .i64 n) (h2 : ∀ x, v ≠ .map x) : i ≠ s := fun e => by
  rw [e, cell_of_row w s j _ _ _ S.blk] at h
  rcases j with _ | _ | _ | _ | j
  · exact h1 _ (Option.some.inj h).symm
  · exact h2 _ (Option.some.inj h).symm
  · exact h1 _ (Option.some.inj h).symm
  · exact h1 _ (Option.some.inj h).symm
  · cases h
theorem But.cellv (h : But s b w w') (S : Sh w s b room hi mi tp L T) {i j : Nat} {v : Value} (hc : w.cell? ⟨i, j, none⟩ = some v) (h1 : ∀ n, v ≠ .int .i64 n) (h2 : ∀ x, v ≠ .map x) : w'.heap[i]? = w.heap[i]? := h.cell S hc (S.notin hc h1 h2)
theorem Sl.but {a : Option Addr} {l c : Nat} {f : Nat → Nat} (x : Sl w a l c f) (hB : But s b w w') (S : Sh w s b room hi mi tp L T) : Sl w' a l c f :=
  ⟨x.capOk, x.maxOk, x.bytes, x.up, x.nil, x.spot, fun ad e i hi => by
    have h := x.cell ad e i hi
    have hh := hB.cellv S h (fun n e => by cases e) (fun n e => by cases e)
    rw [← h]
    simp only [World.cell?, hh]⟩
theorem Hs.but {a : Option Addr} {m : Nat} {h : Nat → Int} {r : Nat → Option Addr} {l c : Nat → Nat} {f : Nat → Nat → Nat} (x : Hs w a m h r l c f) (hB : But s b w w') (S : Sh w s b room hi mi tp L T) : Hs w' a m h r l c f :=
  ⟨x.bm, fun i hi => by
    obtain ⟨g, o, e, h1, h2⟩ := x.cell i hi
    have hh := hB.cellv S h2 (fun n e => by cases e) (fun n e => by cases e)
    exact ⟨g, o, e, by rw [← h1]; simp only [World.cell?, hh], by rw [← h2]; simp only [World.cell?, hh]⟩, fun i hi => (x.row i hi).but hB S⟩
end
/-- what a cache's Decode answers. -/
def CDecSays (N room c0 cb s b : Nat) (hi mi : Int) (L : List Lit) (K : Int) (m : Nat) (h : Nat → Int) (l : Nat → Nat) (f : Nat → Nat → Nat) (w : World) (e : Ending) (w' : World) : Prop :=
  (∃ E : Int, E ≠ 0 ∧ e = .returned (.tuple #[.slice none 0 0, .int .i64 E]) ∧ ((¬ (∀ i, i < m → l i = l 0) ∧ E = 2) ∨ ((∀ i, i < m → l i = l 0) ∧ ((¬ (1 ≤ K ∧ K ≤ N) ∧ E = 2) ∨ (1 ≤ K ∧ K ≤ N ∧ Chk h m N K.toNat E)))) ∧ Below w.heap.size w w') ∨
  ((∀ i, i < m → l i = l 0) ∧ 1 ≤ K ∧ K ≤ N ∧ Chk h m N K.toNat 0 ∧ ∃ G bI T', e = .returned (.tuple #[.slice (some ⟨G, 0, none⟩) K.toNat K.toNat, .int .i64 0]) ∧ Gr w' w.heap.size G K.toNat K.toNat bI (fun _ => l 0) (fun _ => l 0) (dcd h K.toNat f) ∧
    Ca w' N room c0 cb s b (askH L (kk K.toNat h) hi) (askM L (kk K.toNat h) mi) (askL room L (kk K.toNat h)) T' ∧ But s b w w')

set_option maxHeartbeats 4000000 in
set_option maxRecDepth 100000 in
theorem cadecode_any (N room c0 cb s b : Nat) (hi mi : Int) (L : List Lit) (T : Lit → Tv) (K : Int) (a : Option Addr) (m cap : Nat) (h : Nat → Int) (r : Nat → Option Addr) (l c : Nat → Nat) (f : Nat → Nat → Nat) (hm : m ≤ 1000000) (hl : ∀ i, i < m → l i ≤ 1000000) (hbig : hi + mi ≤ 10000000000) (w : World) (hC : Ca w N room c0 cb s b hi mi L T) (hH : Hs w a m h r l c f) :
    Calls Try.prog 13 #[.pointer (some ⟨c0, 0, none⟩), .int .i64 K, .slice a m cap] w (CDecSays N room c0 cb s b hi mi L K m h l f w) := by
  have hmk := hmkI m (by omega)
  have HMK := Lib.hid hmk
  have HC := Lib.hid hC; have HH := Lib.hid hH; have HL := Lib.hid hl
  have hN2 := hC.nm.2
  clear hC hH hl hmk
  go_enter Try.func13, Try.ntmps13
  go_wp2_with fail
  refine (canone_any N room c0 cb s b hi mi L T _ HC.out).mono ?_
  rintro e w' ⟨rfl, hw'⟩
  rw [hw']; clear hw'
  go_wp2_with fail
  refine (ceven_any a m cap h r l c f (by omega) _ HH.out).mono ?_
  rintro e w0 ⟨v, rfl, hv, hB0⟩
  have HV := Lib.hid hv; have HB0 := Lib.hid hB0
  clear hv hB0
  cases v
  · go_wp2
    go_ret2
    exact Or.inl ⟨2, by omega, rfl, Or.inl ⟨fun hh => Bool.false_ne_true (HV.out.2 hh), rfl⟩, HB0.out⟩
  · have HEV := Lib.hid (HV.out.1 rfl)
    have hmk := HMK.out
    have hal : Below w0.heap.size w0 (w0.alloc (.cells (madeCells #[.int .i64 0] m) 3)) := (Below.refl _ w0).alloc (Nat.le_refl _) _
    have HBI := Lib.hid ((bi_made w0 m).congr (h' := fun i => if i < 0 then h i else 0) (fun i _ => rfl)); have HAL := Lib.hid hal
    clear hal
    go_wp2_with fail
    clear hmk
    go_loopw [23] (fun i wr => ∃ k : Nat, k ≤ m ∧ i = .int .i64 k ∧ Bi wr w0.heap.size m (fun i => if i < k then h i else 0) ∧ Below w0.heap.size w0 wr) (fun i _ => m - (intOf i).toNat)
    case atStart => exact ⟨0, by omega, rfl, HBI.out, HAL.out⟩
    case round =>
      clear HBI HAL
      obtain ⟨k, hk, rfl, hbi, hB⟩ := hrel
      have HBI := Lib.hid hbi; have HB := Lib.hid hB
      by_cases hlt : k < m
      · have i1 : (k : Int) < (m : Int) := by omega
        obtain ⟨ab, ao, ea, c1, c2⟩ := ((HH.out.same HB0.out).same hB).cell k hlt
        have hal : Below wr.heap.size wr (wr.alloc (.cells #[.int .i64 (h k), .slice (r k) (l k) (c k)] 77)) := (Below.refl _ wr).alloc (Nat.le_refl _) _
        have hbi2 : Bi (wr.alloc (.cells #[.int .i64 (h k), .slice (r k) (l k) (c k)] 77)) w0.heap.size m (fun i => if i < k then h i else 0) := hbi.kept (hal.block _ hbi.lt)
        have c3 := hbi2.cell hlt
        have f3 := hbi2.free k
        have HBI2 := Lib.hid hbi2
        have hsz := hB.size
        have HB2 := Lib.hid (hB.trans (hal.mono hsz))
        have EA := Lib.hid (show a = some ⟨ab, ao, none⟩ from ea)
        subst ea
        clear hbi hB hal hbi2
        go_wp2
        go_roundw
        case rel => exact ⟨k + 1, by omega, by go_num, (HBI2.out.set hlt (h k)).congr (fun i _ => by
          by_cases e : i = k
          · subst e; rw [if_pos rfl, if_pos (by omega)]
          · rw [if_neg e]
            by_cases e2 : i < k
            · rw [if_pos e2, if_pos (by omega)]
            · rw [if_neg e2, if_neg (by omega)]), HB2.out.setCell (p := ⟨w0.heap.size, k, none⟩) (Nat.le_refl _) _⟩
        case measure => simp [intOf]; omega
      · obtain rfl : k = m := by omega
        have HSI := Lib.hid ((hbi.congr (h' := h) (fun i hi => by rw [if_pos hi])).si)
        have hsz := HB0.out.size
        have hszr := hB.size
        have HBW := Lib.hid (HB0.out.trans (hB.mono hsz))
        have HCW := Lib.hid ((HC.out.same HB0.out).same hB)
        have HHW := Lib.hid ((HH.out.same HB0.out).same hB)
        clear hbi hB
        go_wp2_with fail
        refine (ask_any N room c0 cb s b hi mi L T K _ k k h (by omega) (Nat.le_refl _) (by unfold maxLen; omega) hbig wr HCW.out HSI.out).mono ?_
        rintro e w1 (⟨E, hE, rfl, hc, hB1⟩ | ⟨hK1, hK2, hc, G, bI, T', rfl, hG, hCa, hB1⟩)
        · have g1 : (E != 0) = true := by simp [hE]
          have HE := Lib.hid hE; have HCK := Lib.hid hc; have HB1 := Lib.hid (HBW.out.trans (hB1.mono (Nat.le_trans hsz hszr)))
          clear hE hc hB1
          go_wp2
          go_ret2
          exact Or.inl ⟨E, HE.out, rfl, Or.inr ⟨HEV.out, HCK.out⟩, HB1.out⟩
        · obtain ⟨kn, rfl⟩ : ∃ kn : Nat, K = (kn : Nat) := ⟨K.toNat, by omega⟩
          rw [Int.toNat_natCast] at hc hG hCa ⊢
          have hok := chk_ok hc
          have hKm := hok.2.2
          have hd1 := hCa.d1
          obtain ⟨fb2, G2, b2, hco⟩ := hCa.co
          have hH1 : Hs w1 a k h r l c f := HHW.out.but hB1 HCW.out.sh
          have HCK := Lib.hid hc; have HOK := Lib.hid hok; have HG := Lib.hid hG; have HCA := Lib.hid hCa; have HB1 := Lib.hid ((But.of HBW.out : But s b w wr).trans hB1); have HCO := Lib.hid hco; have HH1 := Lib.hid hH1
          have hkn1 : 1 ≤ kn := by omega
          have hsw := Nat.le_trans hsz hszr
          have hs1 := hB1.size
          clear hc hok hG hCa hB1 hco hH1
          go_wp2_with fail
          refine (lsums_any cb fb2 G2 b2 0 G kn bI (trn h kn) a k cap h r l c f hKm (by omega) HEV.out (HL.out 0 (by omega)) hm _ HCO.out HG.out HH1.out).mono ?_
          rintro e w2 ⟨G3, b3, rfl, hG3, hB2⟩
          have HG3 := Lib.hid (hG3.mono (show w.heap.size ≤ w1.heap.size by omega)); have HCA2 := Lib.hid (HCA.out.same hB2); have HB2 := Lib.hid (HB1.out.trans (But.of hB2))
          clear hG3 hB2 hd1
          go_wp2
          go_ret2
          refine Or.inr ⟨HEV.out, by omega, by omega, by rw [Int.toNat_natCast]; exact HCK.out, G3, b3, T', by rw [Int.toNat_natCast]; rfl, ?_, ?_, HB2.out⟩
          · rw [Int.toNat_natCast]
            exact HG3.out.congr (dcd_bm h (by omega) HH.out.bm) (fun i j hi => by
              unfold dcd
              rw [if_pos hi]
              show Pf.xsum (fun p => Gf.mul (trn h kn i p) (f p j)) kn = Pf.xsum (fun p => Gf.mul (Pf.lw (pts h) kn i p) (f p j)) kn
              refine Pf.xsum_congr kn fun p _ => ?_
              unfold trn
              rw [if_pos hi])
          · rw [Int.toNat_natCast]; exact HCA2.out
end Go.Proofs.Ytfiafccfkfillaa

namespace Go.Proofs.Ytfiafccfkfillaa
open Go.RowKit Go.Shelf Go.Maps

theorem kk_inj {K K' : Nat} {h h' : Nat → Int} (hK : K ≤ 255) (hK' : K' ≤ 255) (hh : ∀ i, i < K → 0 ≤ h i ∧ h i < 255) (hh' : ∀ i, i < K' → 0 ≤ h' i ∧ h' i < 255) (e : kk K h = kk K' h') : K = K' ∧ ∀ i, i < K → h i = h' i := by
  unfold kk at e
  obtain ⟨h1, h2⟩ := klOf_inj (ky_ok hK hh) (ky_ok hK' hh') e
  have h3 : K = K' := by omega
  refine ⟨h3, fun i hi => ?_⟩
  have := h2 i (by omega)
  unfold ky at this
  rw [if_pos hi, if_pos (by omega)] at this
  exact this
theorem kk_congr {K : Nat} {h h' : Nat → Int} (e : ∀ i, i < K → h i = h' i) : kk K h = kk K h' := by
  unfold kk klOf
  have : kc (K : Nat) (ky K h) = kc (K : Nat) (ky K h') := kc_congr fun i _ => by
    unfold ky
    by_cases c : i < K
    · rw [if_pos c, if_pos c, e i c]
    · rw [if_neg c, if_neg c]
  rw [this]
/-- a turn without an error. -/
def TurnOk (N room c0 cb s b : Nat) (hi mi : Int) (L : List Lit) (K : Nat) (h : Nat → Int) (w : World) (e : Ending) (w' : World) : Prop :=
  ∃ G bI c T', e = .returned (.tuple #[.slice (some ⟨G, 0, none⟩) K K, .int .i64 0]) ∧ Gr w' w.heap.size G K K bI (fun _ => K) c (trn h K) ∧ Ca w' N room c0 cb s b (askH L (kk K h) hi) (askM L (kk K h) mi) (askL room L (kk K h)) T' ∧ But s b w w'
theorem caturn_ok (N room c0 cb s b : Nat) (hi mi : Int) (L : List Lit) (T : Lit → Tv) (K : Nat) (a : Option Addr) (m cap : Nat) (h : Nat → Int) (hm : m ≤ 1000000000000) (hmc : m ≤ cap) (hcm : cap ≤ maxLen) (hbig : hi + mi ≤ 10000000000) (h1 : 1 ≤ K) (h2 : K ≤ N) (hc : Chk h m N K 0) (w : World) (hC : Ca w N room c0 cb s b hi mi L T) (hS : Si w a m h) :
    Calls Try.prog 10 #[.pointer (some ⟨c0, 0, none⟩), .int .i64 (K : Nat), .slice a m cap] w (TurnOk N room c0 cb s b hi mi L K h w) := by
  refine (caturn_any N room c0 cb s b hi mi L T (K : Nat) a m cap h hm hmc hcm hbig w hC hS).mono ?_
  rintro e w' (⟨E, hE, _, hc', _⟩ | ⟨_, _, _, G, bI, c, T', he, hG, hCa, hB⟩)
  · rcases hc' with ⟨h3, _⟩ | ⟨_, _, h3⟩
    · exact absurd ⟨by omega, by omega⟩ h3
    · rw [Int.toNat_natCast] at h3
      exact absurd (h3.uniq hc) hE
  · rw [Int.toNat_natCast] at he hG hCa
    exact ⟨G, bI, c, T', he, hG, hCa, hB⟩
theorem si_two (w : World) (x y : Int) : Si (w.alloc (.cells #[.int .i64 x, .int .i64 y] 3)) (some ⟨w.heap.size, 0, none⟩) 2 (fun i => if i = 0 then x else y) := ⟨fun i hi => ⟨w.heap.size, 0, rfl, by
  rw [Nat.zero_add, cell_of_row _ w.heap.size i _ _ _ (heap_alloc_new w _)]
  rcases i with _ | _ | i
  · rfl
  · rfl
  · omega⟩⟩
theorem chk_two {x y : Int} (hx : 0 ≤ x ∧ x < 4) (hy : 0 ≤ y ∧ y < 4) (hne : x ≠ y) : Chk (fun i => if i = 0 then x else y) 2 4 2 0 := Or.inr (Or.inr (Or.inr ⟨fun i hi => by
  show 0 ≤ (if i = 0 then x else y) ∧ (if i = 0 then x else y) < (4 : Nat)
  split <;> omega, fun i j hij hj => by
  show (if i = 0 then x else y) ≠ (if j = 0 then x else y)
  rw [if_pos (by omega), if_neg (by omega)]; exact hne, Nat.le_refl _, rfl⟩))
/-- the awake's keys. -/
noncomputable def ak (y : Int) : Lit := kk 2 (fun i => if i = 0 then 0 else y)
theorem ak_ne : ak 1 ≠ ak 2 := fun e => by
  have := (kk_inj (by omega) (by omega) (fun i _ => by split <;> omega) (fun i _ => by split <;> omega) e).2 1 (by omega)
  simp at this
theorem askL_no {room : Nat} {L : List Lit} {k : Lit} (h : k ∉ L) : askL room L k = dropL room L ++ [k] := by unfold askL; rw [if_neg h]
theorem askL_yes {room : Nat} {L : List Lit} {k : Lit} (h : k ∈ L) : askL room L k = out L k ++ [k] := by unfold askL; rw [if_pos h]
theorem askH_no {L : List Lit} {k : Lit} (h : k ∉ L) (hi : Int) : askH L k hi = hi := by unfold askH; rw [if_neg h]
theorem askH_yes {L : List Lit} {k : Lit} (h : k ∈ L) (hi : Int) : askH L k hi = hi + 1 := by unfold askH; rw [if_pos h]
theorem askM_no {L : List Lit} {k : Lit} (h : k ∉ L) (mi : Int) : askM L k mi = mi + 1 := by unfold askM; rw [if_neg h]
theorem askM_yes {L : List Lit} {k : Lit} (h : k ∈ L) (mi : Int) : askM L k mi = mi := by unfold askM; rw [if_pos h]

set_option maxHeartbeats 2000000 in
set_option maxRecDepth 100000 in
theorem awake6_any (w : World) : Calls Try.prog 5 #[] w fun e w' => e = .returned (.bool true) ∧ Below w.heap.size w w' := by
  go_enter Try.func5, Try.ntmps5
  go_wp2_with fail
  refine (canew_yes 4 1 (by omega) (by omega) (by omega) (by omega) _).mono ?_
  rintro e w1 ⟨c0, cb, s, b, rfl, hC1, hc0, hs, hb, hB1⟩
  have HC1 := Lib.hid hC1; have HB1 := Lib.hid hB1
  have hs1 := hs.1; have hb1 := hb.1
  clear hC1 hB1 hs hb hc0
  go_wp2_with fail
  have hal1 : Below w1.heap.size w1 (w1.alloc (.cells #[.int .i64 0, .int .i64 1] 3)) := (Below.refl _ w1).alloc (Nat.le_refl _) _
  refine (caturn_ok 4 1 c0 cb s b 0 0 [] _ 2 _ 2 2 _ (by omega) (Nat.le_refl _) (by unfold maxLen; omega) (by omega) (by omega) (by omega) (chk_two (x := 0) (y := 1) (by omega) (by omega) (by omega)) _ (HC1.out.same hal1) (si_two w1 0 1)).mono ?_
  rintro e w2 ⟨G2, bI2, cc2, T2, rfl, _, hC2, hB2⟩
  have hk1 : ak 1 ∉ ([] : List Lit) := List.not_mem_nil
  change Ca w2 4 1 c0 cb s b (askH [] (ak 1) 0) (askM [] (ak 1) 0) (askL 1 [] (ak 1)) T2 at hC2
  rw [askH_no hk1, askM_no hk1, askL_no hk1] at hC2
  have hd1 : dropL 1 [] ++ [ak 1] = [ak 1] := rfl
  rw [hd1] at hC2
  have HB2 := Lib.hid (HB1.out.trans ((hal1.mono HB1.out.size).trans (hB2.below (by simp; have := HB1.out.size; omega) hs1 hb1)))
  have HC2 := Lib.hid hC2
  clear hal1 hB2 hC2 hd1 hk1
  go_wp2_with fail
  have hal2 : Below w2.heap.size w2 (w2.alloc (.cells #[.int .i64 0, .int .i64 2] 3)) := (Below.refl _ w2).alloc (Nat.le_refl _) _
  refine (caturn_ok 4 1 c0 cb s b 0 (0 + 1) [ak 1] T2 2 _ 2 2 _ (by omega) (Nat.le_refl _) (by unfold maxLen; omega) (by omega) (by omega) (by omega) (chk_two (x := 0) (y := 2) (by omega) (by omega) (by omega)) _ (HC2.out.same hal2) (si_two w2 0 2)).mono ?_
  rintro e w3 ⟨G3, bI3, cc3, T3, rfl, _, hC3, hB3⟩
  have hk2 : ak 2 ∉ [ak 1] := fun hh => ak_ne (List.mem_singleton.1 hh).symm
  change Ca w3 4 1 c0 cb s b (askH [ak 1] (ak 2) 0) (askM [ak 1] (ak 2) (0 + 1)) (askL 1 [ak 1] (ak 2)) T3 at hC3
  rw [askH_no hk2, askM_no hk2, askL_no hk2] at hC3
  have hd2 : dropL 1 [ak 1] ++ [ak 2] = [ak 2] := rfl
  rw [hd2] at hC3
  have HB3 := Lib.hid (HB2.out.trans ((hal2.mono HB2.out.size).trans (hB3.below (by simp; have := HB2.out.size; omega) hs1 hb1)))
  have HC3 := Lib.hid hC3
  clear hal2 hB3 hC3 hd2 hk2
  go_wp2_with fail
  have hal3 : Below w3.heap.size w3 (w3.alloc (.cells #[.int .i64 0, .int .i64 1] 3)) := (Below.refl _ w3).alloc (Nat.le_refl _) _
  refine (caturn_ok 4 1 c0 cb s b 0 (0 + 1 + 1) [ak 2] T3 2 _ 2 2 _ (by omega) (Nat.le_refl _) (by unfold maxLen; omega) (by omega) (by omega) (by omega) (chk_two (x := 0) (y := 1) (by omega) (by omega) (by omega)) _ (HC3.out.same hal3) (si_two w3 0 1)).mono ?_
  rintro e w4 ⟨G4, bI4, cc4, T4, rfl, _, hC4, hB4⟩
  have hk3 : ak 1 ∉ [ak 2] := fun hh => ak_ne (List.mem_singleton.1 hh)
  change Ca w4 4 1 c0 cb s b (askH [ak 2] (ak 1) 0) (askM [ak 2] (ak 1) (0 + 1 + 1)) (askL 1 [ak 2] (ak 1)) T4 at hC4
  rw [askH_no hk3, askM_no hk3, askL_no hk3] at hC4
  have hd3 : dropL 1 [ak 2] ++ [ak 1] = [ak 1] := rfl
  rw [hd3] at hC4
  have HB4 := Lib.hid (HB3.out.trans ((hal3.mono HB3.out.size).trans (hB4.below (by simp; have := HB3.out.size; omega) hs1 hb1)))
  have HC4 := Lib.hid hC4
  clear hal3 hB4 hC4 hd3 hk3
  go_wp2_with fail
  have hal4 : Below w4.heap.size w4 (w4.alloc (.cells #[.int .i64 0, .int .i64 1] 3)) := (Below.refl _ w4).alloc (Nat.le_refl _) _
  refine (caturn_ok 4 1 c0 cb s b 0 (0 + 1 + 1 + 1) [ak 1] T4 2 _ 2 2 _ (by omega) (Nat.le_refl _) (by unfold maxLen; omega) (by omega) (by omega) (by omega) (chk_two (x := 0) (y := 1) (by omega) (by omega) (by omega)) _ (HC4.out.same hal4) (si_two w4 0 1)).mono ?_
  rintro e w5 ⟨G5, bI5, cc5, T5, rfl, _, hC5, hB5⟩
  have hk4 : ak 1 ∈ [ak 1] := List.mem_singleton.2 rfl
  change Ca w5 4 1 c0 cb s b (askH [ak 1] (ak 1) 0) (askM [ak 1] (ak 1) (0 + 1 + 1 + 1)) (askL 1 [ak 1] (ak 1)) T5 at hC5
  rw [askH_yes hk4, askM_yes hk4, askL_yes hk4] at hC5
  have hd4 : out [ak 1] (ak 1) ++ [ak 1] = [ak 1] := by simp [out]
  rw [hd4] at hC5
  have HB5 := Lib.hid (HB4.out.trans ((hal4.mono HB4.out.size).trans (hB5.below (by simp; have := HB4.out.size; omega) hs1 hb1)))
  have HC5 := Lib.hid hC5
  clear hal4 hB5 hC5 hd4 hk4
  go_wp2_with fail
  refine (castat_any 4 1 c0 cb s b (0 + 1) (0 + 1 + 1 + 1) [ak 1] T5 (by omega) _ HC5.out).mono ?_
  rintro e w6 ⟨rfl, hB6⟩
  have HB6 := Lib.hid (HB5.out.trans (hB6.mono HB5.out.size))
  clear hB6
  go_wp2
  go_ret
  exact ⟨rfl, HB6.out⟩
end Go.Proofs.Ytfiafccfkfillaa

namespace Go.Proofs.Ytfiafccfkfillaa
open Go.RowKit Go.Shelf Go.Maps

/-- what Pick picks. -/
def pkv (x n : Int) : Int := if x.tmod n < 0 then x.tmod n + n else x.tmod n
theorem pkv_bd (x : Int) {n : Int} (h : 1 ≤ n) : 0 ≤ pkv x n ∧ pkv x n < n := by
  have a1 := Int.tmod_lt_of_pos x (show (0 : Int) < n by omega)
  have a2 := Int.lt_tmod_of_pos x (show (0 : Int) < n by omega)
  unfold pkv; split <;> omega
set_option maxHeartbeats 1000000 in
theorem pickv_any (x n : Int) (h1 : 1 ≤ n) (h2 : n ≤ 1000) (w : World) :
    Calls Try.prog 9 #[.int .i64 x, .int .i64 n] w fun e w' => e = .returned (.int .i64 (pkv x n)) ∧ w' = w := by
  have a1 := Int.tmod_lt_of_pos x (show (0 : Int) < n by omega)
  have a2 := Int.lt_tmod_of_pos x (show (0 : Int) < n by omega)
  have g1 : ¬ n < 1 := by omega
  have g2 : ¬ n = 0 := by omega
  unfold pkv
  generalize hr : x.tmod n = r at *
  by_cases h : r < 0
  · rw [if_pos h]
    have HR := Lib.hid hr
    go_enter Try.func9, Try.ntmps9
    go_wp2
    go_ret
    exact ⟨rfl, rfl⟩
  · rw [if_neg h]
    have HR := Lib.hid hr
    go_enter Try.func9, Try.ntmps9
    go_wp2
    go_ret
    exact ⟨rfl, rfl⟩

/-- asks, as they read. -/
structure As (w : World) (a : Option Addr) (m : Nat) (wh kq lg : Nat → Int) (fs : Nat → Nat) (ia : Nat → Option Addr) (il ic : Nat → Nat) (hI : Nat → Nat → Int) : Prop where
  cell : ∀ i, i < m → ∃ b o, a = some ⟨b, o, none⟩ ∧ w.cell? ⟨b, o + i * 5, none⟩ = some (.int .i64 (wh i)) ∧ w.cell? ⟨b, o + i * 5 + 1, none⟩ = some (.int .i64 (kq i)) ∧ w.cell? ⟨b, o + i * 5 + 2, none⟩ = some (.int .i64 (lg i)) ∧ w.cell? ⟨b, o + i * 5 + 3, none⟩ = some (.int .u8 (fs i : Nat)) ∧ w.cell? ⟨b, o + i * 5 + 4, none⟩ = some (.slice (ia i) (il i) (ic i))
  ind : ∀ i, i < m → Si w (ia i) (il i) (hI i)
  ok : ∀ i, i < m → il i ≤ ic i ∧ ic i ≤ maxLen ∧ il i ≤ 140737488355328 ∧ fs i < 256
section
variable {w w' : World} {a : Option Addr} {m : Nat} {wh kq lg : Nat → Int} {fs : Nat → Nat} {ia : Nat → Option Addr} {il ic : Nat → Nat} {hI : Nat → Nat → Int}
theorem As.same (s : As w a m wh kq lg fs ia il ic hI) (hB : Below w.heap.size w w') : As w' a m wh kq lg fs ia il ic hI :=
  ⟨fun i hi => by
    obtain ⟨b, o, e, h1, h2, h3, h4, h5⟩ := s.cell i hi
    exact ⟨b, o, e, by rw [hB.cell (World.block_lt_of_cell? _ _ h1)]; exact h1, by rw [hB.cell (World.block_lt_of_cell? _ _ h2)]; exact h2, by rw [hB.cell (World.block_lt_of_cell? _ _ h3)]; exact h3, by rw [hB.cell (World.block_lt_of_cell? _ _ h4)]; exact h4, by rw [hB.cell (World.block_lt_of_cell? _ _ h5)]; exact h5⟩, fun i hi => (s.ind i hi).same hB, s.ok⟩
end

/-- whether more is asked than is gone through. -/
def GreatSays (n : Int) (m : Nat) (il : Nat → Nat) (w : World) (e : Ending) (w' : World) : Prop := ∃ v : Bool, e = .returned (.bool v) ∧ (v = false → n ≤ 12 ∧ m ≤ 300 ∧ ∀ i, i < m → il i ≤ 300) ∧ Below w.heap.size w w'
set_option maxHeartbeats 4000000 in
set_option maxRecDepth 100000 in
theorem great6_any (n : Int) (a : Option Addr) (m cap : Nat) (wh kq lg : Nat → Int) (fs : Nat → Nat) (ia : Nat → Option Addr) (il ic : Nat → Nat) (hI : Nat → Nat → Int) (hm : m ≤ 1000000000000000) (w : World) (hA : As w a m wh kq lg fs ia il ic hI) :
    Calls Try.prog 7 #[.int .i64 n, .slice a m cap] w (GreatSays n m il w) := by
  have HA := Lib.hid hA; clear hA
  go_enter Try.func7, Try.ntmps7
  go_wp2_with fail
  go_loopw [5, 6] (fun vm i wr => ∃ k M : Nat, k ≤ m ∧ i = .int .i64 k ∧ vm = .int .i64 M ∧ m ≤ M ∧ M ≤ 2000000000000000 ∧ (∀ j, j < k → il j ≤ M) ∧ Below w.heap.size w wr) (fun _ i _ => m - (intOf i).toNat)
  case atStart => exact ⟨0, m, by omega, rfl, rfl, Nat.le_refl _, by omega, fun j hj => absurd hj (Nat.not_lt_zero j), Below.refl _ _⟩
  case round =>
    rename_i wr
    obtain ⟨k, M, hk, rfl, rfl, hmM, hM, hil, hB⟩ := hrel
    have HIL := Lib.hid hil; have HB := Lib.hid hB
    clear hil hB
    by_cases hgo : k < m ∧ M ≤ 300
    · obtain ⟨hkm, hM3⟩ := hgo
      have i1 : (k : Int) < (m : Int) := by omega
      have i2 : (M : Int) ≤ 300 := by omega
      obtain ⟨b, o, ea, c0, c1, c2, c3, c4⟩ := (HA.out.same HB.out).cell k hkm
      have EA := Lib.hid (show a = some ⟨b, o, none⟩ from ea)
      have hok := (HA.out.ok k hkm).2.2.1
      have hpb := pkv_bd (lg k) (n := 6) (by omega)
      subst ea
      generalize hp : pkv (lg k) 6 = p at hpb
      obtain ⟨pn, rfl⟩ : ∃ pn : Nat, p = (pn : Nat) := ⟨p.toNat, by omega⟩
      have HP := Lib.hid hp
      generalize hl : il k = li at c4 hok
      have HLI := Lib.hid hl
      clear hp hl
      have hmul : ∃ q : Nat, (li : Int) * (1 + (pn : Int)) = (q : Nat) ∧ li ≤ q ∧ q ≤ 844424930131968 := ⟨li * (1 + pn), by push_cast; rfl, Nat.le_mul_of_pos_right _ (by omega), Nat.le_trans (Nat.mul_le_mul hok (show 1 + pn ≤ 6 by omega)) (by omega)⟩
      obtain ⟨q, hq, hq1, hq2⟩ := hmul
      have hw1 : IntKind.i64.wrap (1 + (pn : Int)) = 1 + (pn : Int) := IntWalk.i64_in _ (by omega)
      have hw2 : IntKind.i64.wrap ((li : Int) * (1 + (pn : Int))) = (q : Int) := by rw [hq]; exact IntWalk.i64_in _ (by omega)
      have hw3 : IntKind.i64.wrap ((M : Int) + (q : Int)) = (M : Int) + (q : Int) := IntWalk.i64_in _ (by omega)
      have HPK := Lib.hid (pickv_any (lg k) 6 (by omega) (by omega))
      rw [HP.out] at HPK
      clear hpb hq
      go_wp2_with fail
      go_quiet ((go_at_call 9; exact Calls.quiet_of_same (HPK.out _)))
      go_wp2
      go_roundw
      case rel => exact ⟨k + 1, M + q, by omega, by go_num, by go_num, by omega, by omega, fun j hj => by
        by_cases e : j = k
        · rw [e, HLI.out]; omega
        · have := HIL.out j (by omega); omega, below_dr HB.out _⟩
      case measure => simp [intOf]; omega
    · by_cases hbig : 300 < M
      · have i2 : ¬ (M : Int) ≤ 300 := by omega
        have i3 : (300 : Int) < (M : Int) := by omega
        clear hgo
        by_cases hkm : k < m
        · have i1 : (k : Int) < (m : Int) := by omega
          by_cases h12 : 12 < n
          · go_wp2
            go_ret
            exact ⟨true, rfl, fun hh => absurd hh.symm Bool.false_ne_true, HB.out⟩
          · go_wp2
            go_ret
            exact ⟨true, rfl, fun hh => absurd hh.symm Bool.false_ne_true, HB.out⟩
        · have i1 : ¬ (k : Int) < (m : Int) := by omega
          by_cases h12 : 12 < n
          · go_wp2
            go_ret
            exact ⟨true, rfl, fun hh => absurd hh.symm Bool.false_ne_true, HB.out⟩
          · go_wp2
            go_ret
            exact ⟨true, rfl, fun hh => absurd hh.symm Bool.false_ne_true, HB.out⟩
      · obtain rfl : k = m := by omega
        have i3 : ¬ (300 : Int) < (M : Int) := by omega
        clear hgo
        by_cases h12 : 12 < n
        · go_wp2
          go_ret
          exact ⟨true, rfl, fun hh => absurd hh.symm Bool.false_ne_true, HB.out⟩
        · go_wp2
          go_ret
          exact ⟨false, rfl, fun _ => ⟨by omega, by omega, fun i hi => by have := HIL.out i (by omega); omega⟩, HB.out⟩

/-- what held makes. -/
def hbf (fs : Nat) (p i j : Nat) : Nat := if j < p then (fs + (i * 7 + j) % 256) % 256 else 0
theorem hbf_bm (fs p : Nat) : Mt.Bm (hbf fs p) := fun i j => by unfold hbf; split <;> omega
theorem hbf_up (fs p i : Nat) : Pf.Up (hbf fs p i) p := fun j hj => by unfold hbf; rw [if_neg (by omega)]
theorem Try.infoHeldC : (Try.prog.info? 77).map (fun i => (i.zero, i.size, i.bytes)) = some (some (.agg #[.int .i64 0, .slice none 0 0]), 2, 32) := by kernel_rfl
theorem cell_pair (w : World) (u v : Value) (t : TypeId) : ∀ j x, [u, v][j]? = some x → (w.alloc (.cells #[u, v] t)).cell? ((⟨w.heap.size, 0, none⟩ : Addr).add j) = some x := by
  intro j x hx
  rw [Addr.add_lit, Nat.zero_add, cell_of_row _ w.heap.size j _ _ _ (heap_alloc_new w _)]
  simpa using hx
theorem bl_own {w w' : World} {B s n x l c : Nat} {e : TypeId} {v : Value} {xs : List Value} {f : Nat → Nat} (hb : Bl w x l c f) (ho : w.ownsRow B e s v n xs) (hg : w.grownBy w' v.ownBlock) (he : 5 ≠ e) : Bl w' x l c f := by
  obtain ⟨us, h1, _⟩ := id hb
  refine hb.kept (hg.block x hb.lt ?_)
  rcases ho.2 with ⟨q, _⟩ | ⟨g, c1, cur, q, _, hh, _⟩
  · rw [q]; simp [Value.ownBlock]
  · rw [q]
    simp only [Value.ownBlock, ne_eq, Option.some.injEq]
    rintro rfl
    rw [hh] at h1
    injection h1 with h1
    injection h1 with _ q3
    exact he q3.symm
theorem slice_own {w : World} {B s n : Nat} {e : TypeId} {v : Value} {xs : List Value} (h : w.ownsRow B e s v n xs) : ∃ a c, v = .slice a n c := by
  rcases h.2 with ⟨q, h0⟩ | ⟨g, c1, cur, q, _⟩
  · exact ⟨none, 0, by rw [q, h0]⟩
  · exact ⟨_, c1, q⟩
/-- symbols of an ask. -/
def HeldSays (w : World) (m p : Nat) (h : Nat → Int) (fs : Nat) (e : Ending) (w' : World) : Prop := ∃ a c r cc, e = .returned (.slice a m c) ∧ Hs w' a m h r (fun _ => p) cc (hbf fs p) ∧ Below w.heap.size w w'
def HeldRel (w : World) (ia : Option Addr) (il ic : Nat) (wh kq lg : Int) (fs p : Nat) (h : Nat → Int) (t : Nat) (o : Value) (wr : World) : Prop :=
  ∃ (a : Option Addr) (c : Nat) (b : Nat → Nat), o = .slice a t c ∧ wr.ownsRow (w.heap.size + 1) 77 2 (.slice a t c) t (hdv h (fun i => some ⟨b i, 0, none⟩) (fun _ => p) (fun _ => p) t) ∧ (∀ i, i < t → Bl wr (b i) p p (hbf fs p i)) ∧
    wr.heap[w.heap.size]? = some (.cells #[.int .i64 wh, .int .i64 kq, .int .i64 lg, .int .u8 (fs : Nat), .slice ia il ic] 31 (0, 0)) ∧ Below w.heap.size w wr
set_option maxHeartbeats 4000000 in
set_option maxRecDepth 100000 in
theorem held6_any (wh kq lg : Int) (fs : Nat) (ia : Option Addr) (il ic : Nat) (h : Nat → Int) (p : Nat) (hp : pkv lg 6 = (p : Nat)) (hp6 : p < 6) (hf : fs < 256) (hil : il ≤ 300) (w : World) (hS : Si w ia il h) :
    Calls Try.prog 14 #[.agg #[.int .i64 wh, .int .i64 kq, .int .i64 lg, .int .u8 (fs : Nat), .slice ia il ic]] w (HeldSays w il p h fs) := by
  obtain ⟨i0, hi, hz0, hz1, hz2⟩ := info_parts Try.infoHeldC
  have HI := Lib.hid hi; have HZ0 := Lib.hid hz0; have HZ1 := Lib.hid hz1; have HZ2 := Lib.hid hz2
  have HPK := Lib.hid (pickv_any lg 6 (by omega) (by omega))
  rw [hp] at HPK
  have hal : Below w.heap.size w (w.alloc (.cells #[.int .i64 wh, .int .i64 kq, .int .i64 lg, .int .u8 (fs : Nat), .slice ia il ic] 31)) := (Below.refl _ w).alloc (Nat.le_refl _) _
  have HAL := Lib.hid hal; have HS := Lib.hid hS
  have HMK := Lib.hid (hmk8 p (by omega))
  clear hi hz0 hz1 hz2 hp hal hS
  go_enter Try.func14, Try.ntmps14
  go_wp2_with fail
  go_loopw [3, 4] (fun o i wr => ∃ t : Nat, t ≤ il ∧ i = .int .i64 t ∧ HeldRel w ia il ic wh kq lg fs p h t o wr) (fun _ i _ => il - (intOf i).toNat)
  case atStart => exact ⟨0, by omega, rfl, none, 0, fun _ => 0, rfl, World.ownsRow_nil _ _ _ _, fun i hi => absurd hi (Nat.not_lt_zero i), heap_alloc_new _ _, HAL.out⟩
  case round =>
    rename_i wr
    clear HAL
    obtain ⟨t, ht, rfl, a, c, b, rfl, hO, hR, hK, hB⟩ := hrel
    have HO := Lib.hid hO; have HR := Lib.hid hR; have HK := Lib.hid hK; have HB := Lib.hid hB
    have k0 := cell_of_row wr w.heap.size 4 _ _ _ hK
    have k2 := cell_of_row wr w.heap.size 2 _ _ _ hK
    have hszr := hB.size
    have hltk := (Array.getElem?_eq_some_iff.1 hK).1
    clear hO hR hK hB
    by_cases hgo : t < il
    · have i1 : (t : Int) < (il : Int) := by omega
      have hmk := HMK.out
      go_wp2_with fail
      refine (HPK.out _).mono ?_
      rintro e w' ⟨rfl, hw'⟩
      rw [hw']; clear hw'
      have hbm := bl_made wr p
      have hal : Below wr.heap.size wr (wr.alloc (.cells (madeCells #[.int .u8 0] p) 5)) := (Below.refl _ wr).alloc (Nat.le_refl _) _
      have HBM := Lib.hid (hbm.congr (h' := fun j => if j < 0 then hbf fs p t j else 0) (fun j _ => rfl)); have HAL := Lib.hid hal
      clear hbm hal
      go_wp2_with fail
      clear hmk k0 k2
      obtain ⟨wo, rfl⟩ : ∃ wo, wo = wr := ⟨_, rfl⟩
      go_loopw [6] (fun i wi => ∃ k : Nat, k ≤ p ∧ i = .int .i64 k ∧ Bl wi wo.heap.size p p (fun j => if j < k then hbf fs p t j else 0) ∧ Below wo.heap.size wo wi) (fun i _ => p - (intOf i).toNat)
      case atStart => exact ⟨0, by omega, rfl, HBM.out, HAL.out⟩
      case round =>
        obtain ⟨wi, rfl⟩ : ∃ wi, wi = wr := ⟨_, rfl⟩
        clear HBM HAL
        obtain ⟨k, hk, rfl, hbl, hB2⟩ := hrel
        have HBL := Lib.hid hbl; have HB2 := Lib.hid hB2
        have HK2 := Lib.hid ((hB2.block _ hltk).trans HK.out)
        have k3 := cell_of_row wi w.heap.size 3 _ _ _ HK2.out
        have k4 := cell_of_row wi w.heap.size 4 _ _ _ HK2.out
        by_cases hkp : k < p
        · have j1 : (k : Int) < (p : Int) := by omega
          have c1 := hbl.cell hkp
          have f1 := hbl.free k
          have hm1 : IntKind.i64.wrap ((t : Int) * 7) = (t : Int) * 7 := IntWalk.i64_in _ (by omega)
          have hm2 : IntKind.i64.wrap ((t : Int) * 7 + (k : Int)) = (t : Int) * 7 + (k : Int) := IntWalk.i64_in _ (by omega)
          obtain ⟨q1, hq1⟩ : ∃ q1 : Nat, q1 = (t * 7 + k) % 256 := ⟨_, rfl⟩
          obtain ⟨q2, hq2⟩ : ∃ q2 : Nat, q2 = (fs + q1) % 256 := ⟨_, rfl⟩
          have hv1 : IntKind.u8.wrap ((t : Int) * 7 + (k : Int)) = (q1 : Int) := by rw [IntKind.wrap_u8, hq1]; omega
          have hv2 : IntKind.u8.wrap ((fs : Int) + (q1 : Int)) = (q2 : Int) := by rw [IntKind.wrap_u8, hq2]; omega
          have HQ := Lib.hid (show q2 = hbf fs p t k from by rw [hq2, hq1]; unfold hbf; rw [if_pos hkp])
          clear hbl hB2 hq1 hq2
          go_wp2_with fail
          go_roundw
          case rel => exact ⟨k + 1, by omega, by go_num, (HBL.out.set hkp q2).congr (fun j _ => by
            by_cases e : j = k
            · subst e; rw [if_pos rfl, if_pos (by omega)]; exact HQ.out
            · rw [if_neg e]
              by_cases e2 : j < k
              · rw [if_pos e2, if_pos (by omega)]
              · rw [if_neg e2, if_neg (by omega)]), HB2.out.setCell (p := ⟨wo.heap.size, k, none⟩) (Nat.le_refl _) _⟩
          case measure => simp [intOf]; omega
        · obtain rfl : k = p := by omega
          have hr2 : Bl wi wo.heap.size k k (hbf fs k t) := hbl.congr (fun j hj => by rw [if_pos hj])
          obtain ⟨ab, ao, ea, c5⟩ := ((HS.out.same HB.out).same hB2).cell t hgo
          have EA := Lib.hid (show ia = some ⟨ab, ao, none⟩ from ea)
          subst ea
          have hO2 := own_below HO.out hB2
          have hszi := hB2.size
          have halx : Below wi.heap.size wi (wi.alloc (.cells #[.int .i64 (h t), .slice (some ⟨wo.heap.size, 0, none⟩) k k] 77)) := (Below.refl _ wi).alloc (Nat.le_refl _) _
          have HOX := Lib.hid (own_below hO2 halx)
          have HRX := Lib.hid (fun i (hi : i < t) => (((HR.out i hi).below hB2 (HR.out i hi).lt).below halx ((HR.out i hi).below hB2 (HR.out i hi).lt).lt))
          have HR2 := Lib.hid (hr2.below halx hr2.lt)
          have HBX := Lib.hid ((HB.out.trans (hB2.mono hszr)).trans (halx.mono (Nat.le_trans hszr hszi)))
          have HKX := Lib.hid ((halx.block _ (Nat.lt_of_lt_of_le hltk hszi)).trans HK2.out)
          have hbase : w.heap.size + 1 ≤ (wi.alloc (.cells #[.int .i64 (h t), .slice (some ⟨wo.heap.size, 0, none⟩) k k] 77)).heap.size := by rw [World.size_alloc]; omega
          clear hbl hB2 hr2 hO2 halx k3
          go_wp2_with (at_builtin; refine wpList_append_own _ rfl _ _ 42 rfl (w.heap.size + 1) 77 i0 (.agg #[.int .i64 0, .slice none 0 0]) 2 32 Try.underlying42 HI.out HZ0.out HZ1.out HZ2.out rfl (by decide) _ t (hdv h (fun i => some ⟨b i, 0, none⟩) (fun _ => k) (fun _ => k) t) rfl HOX.out ⟨wi.heap.size, 0, none⟩ 1 1 [.int .i64 (h t), .slice (some ⟨wo.heap.size, 0, none⟩) k k] rfl rfl (cell_pair _ _ _ _) (pair_ones _ _ _ _) (by unfold maxLen; omega) (by omega) hbase ?_; intro v9 w9 hown9 hgrow9 _; have HG9 := Lib.hid hgrow9; have HO9 := Lib.hid hown9; clear hown9 hgrow9)
          obtain ⟨a9, c9, e9⟩ := slice_own HO9.out
          subst e9
          have hB9 : Below (w.heap.size + 1) _ w9 := (Below.refl (w.heap.size + 1) _).grown HG9.out hbase (fun j hj => (HOX.out.lt j hj).1)
          have HB9 := Lib.hid hB9
          clear hB9
          go_wp2
          go_roundw
          case rel =>
            refine ⟨t + 1, by omega, by go_num, a9, c9, fun i => if i = t then wo.heap.size else b i, rfl, ?_, fun i hi => ?_, ?_, HBX.out.trans (HB9.out.mono (Nat.le_succ _))⟩
            · rw [hdv_s, hdv_congr t (r' := fun i => some ⟨b i, 0, none⟩) (fun i hi => by simp only [if_neg (show ¬ i = t by omega)])]
              simp only [if_true]
              exact HO9.out
            · by_cases e : i = t
              · subst e
                simp only [if_true]
                exact bl_own HR2.out HOX.out HG9.out (by decide)
              · simp only [if_neg e]
                exact bl_own (HRX.out i (by omega)) HOX.out HG9.out (by decide)
            · exact (HB9.out.block _ (Nat.lt_succ_self _)).trans HKX.out
          case measure => simp [intOf]; omega
    · obtain rfl : t = il := by omega
      clear hgo
      go_wp2
      go_ret
      exact ⟨a, c, _, _, rfl, hdv_hs HO.out (hbf_bm fs p) (fun i hi => (HR.out i hi).sl (Nat.le_refl _) (by unfold maxLen; omega) (hbf_bm fs p i) (hbf_up fs p i)), HB.out⟩
end Go.Proofs.Ytfiafccfkfillaa
