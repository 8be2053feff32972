import Derived.WalkKit
import Derived.WalkSpells
import Derived.WalkLawsBesides
import Derived.Deep.WholeRow
import Derived.Deep.RegionWith
import Derived.Deep.RegionLaw
import Derived.Deep.RegionHeld3
import Derived.BigFrame
import Derived.Lib.Hide
import Derived.OpenShut
import Derived.Test.YtjnfghhochcpaaaGreatMg4
import Derived.Test.YtjnfghhochcpaaaGreatMg24
namespace Go.Proofs.YtjnfghhochcpaaaGreat
open Go.RowKit Go.Shelf

/-- what a shelf's deeds leave as it was. -/
structure But (s b : Nat) (w w' : World) : Prop where
  os : w'.os = w.os
  tape : w'.tape = w.tape
  output : w'.output = w.output
  size : w.heap.size ≤ w'.heap.size
  block : ∀ k, k < w.heap.size → k ≠ s → k ≠ b → w'.heap[k]? = w.heap[k]?
theorem But.refl (s b : Nat) (w : World) : But s b w w := ⟨rfl, rfl, rfl, Nat.le_refl _, fun _ _ _ _ => rfl⟩
theorem But.trans {s b : Nat} {w w' w'' : World} (h : But s b w w') (k : But s b w' w'') : But s b w w'' :=
  ⟨k.os.trans h.os, k.tape.trans h.tape, k.output.trans h.output, Nat.le_trans h.size k.size, fun i h1 h2 h3 => (k.block i (Nat.lt_of_lt_of_le h1 h.size) h2 h3).trans (h.block i h1 h2 h3)⟩
theorem But.of {s b : Nat} {w w' : World} (h : Below w.heap.size w w') : But s b w w' := ⟨h.os, h.tape, h.output, h.size, fun k hk _ _ => h.block k hk⟩
theorem But.below {s b B : Nat} {w w' : World} (h : But s b w w') (h0 : B ≤ w.heap.size) (h1 : B ≤ s) (h2 : B ≤ b) : Below B w w' := ⟨h.os, h.tape, h.output, h.size, fun k hk => h.block k (by omega) (by omega) (by omega)⟩
theorem But.turned {s b : Nat} {w w' : World} (h : w.mapTurned w' b) : But s b w w' := by
  have g := h.grown
  exact ⟨g.os, g.tape, g.output, g.size, fun k hk _ hb => g.block k hk (fun e => hb (by cases e; rfl))⟩

/-- a shelf: its block, its map. -/
structure Sh (w : World) (s b room : Nat) (hi mi tp : Int) (L : List Lit) (T : Lit → Tv) : Prop where
  blk : w.heap[s]? = some (.cells #[.int .i64 (room : Nat), .map (some b), .int .i64 hi, .int .i64 mi] 139 (0, 0))
  map : Mp w b L T
  inc : L.Pairwise fun x y => (T x).2.2.2 < (T y).2.2.2
  top : ∀ x, x ∈ L → 0 ≤ (T x).2.2.2 ∧ (T x).2.2.2 ≤ tp
  room : L.length ≤ room ∧ 1 ≤ room ∧ room ≤ 64
section
variable {w w' : World} {s b room : Nat} {hi mi tp : Int} {L : List Lit} {T : Lit → Tv}
theorem Sh.ne (h : Sh w s b room hi mi tp L T) : s ≠ b := fun e => by
  obtain ⟨es, clock, hb⟩ := h.map.blk
  have := h.blk
  rw [e, hb] at this
  cases this
theorem Sh.lt (h : Sh w s b room hi mi tp L T) : s < w.heap.size := (Array.getElem?_eq_some_iff.1 h.blk).1
theorem Sh.same (h : Sh w s b room hi mi tp L T) (hB : Below w.heap.size w w') : Sh w' s b room hi mi tp L T := ⟨(hB.block s h.lt).trans h.blk, h.map.kept (hB.block b h.map.lt), h.inc, h.top, h.room⟩
theorem Sh.c0 (h : Sh w s b room hi mi tp L T) : w.cell? ⟨s, 0, none⟩ = some (.int .i64 (room : Nat)) := by rw [cell_of_row w s 0 _ _ _ h.blk]; rfl
theorem Sh.c1 (h : Sh w s b room hi mi tp L T) : w.cell? ⟨s, 1, none⟩ = some (.map (some b)) := by rw [cell_of_row w s 1 _ _ _ h.blk]; rfl
theorem Sh.c2 (h : Sh w s b room hi mi tp L T) : w.cell? ⟨s, 2, none⟩ = some (.int .i64 hi) := by rw [cell_of_row w s 2 _ _ _ h.blk]; rfl
theorem Sh.c3 (h : Sh w s b room hi mi tp L T) : w.cell? ⟨s, 3, none⟩ = some (.int .i64 mi) := by rw [cell_of_row w s 3 _ _ _ h.blk]; rfl
theorem Sh.free (h : Sh w s b room hi mi tp L T) (i : Nat) : w.frozen? ⟨s, i, none⟩ = false := frozen_of_row w s i _ _ h.blk
theorem Sh.topup (h : Sh w s b room hi mi tp L T) {tp' : Int} (ht : tp ≤ tp') : Sh w s b room hi mi tp' L T := ⟨h.blk, h.map, h.inc, fun x hx => ⟨(h.top x hx).1, Int.le_trans (h.top x hx).2 ht⟩, h.room⟩
theorem Sh.setHi (h : Sh w s b room hi mi tp L T) (v : Int) : Sh (w.setCell ⟨s, 2, none⟩ (.int .i64 v)) s b room v mi tp L T :=
  ⟨by rw [heap_setCell_same w s 2 _ _ _ h.blk]; rfl, h.map.kept (heap_setCell_other _ _ _ _ h.ne.symm), h.inc, h.top, h.room⟩
theorem Sh.setMi (h : Sh w s b room hi mi tp L T) (v : Int) : Sh (w.setCell ⟨s, 3, none⟩ (.int .i64 v)) s b room hi v tp L T :=
  ⟨by rw [heap_setCell_same w s 3 _ _ _ h.blk]; rfl, h.map.kept (heap_setCell_other _ _ _ _ h.ne.symm), h.inc, h.top, h.room⟩
theorem but_set {s b i : Nat} {v : Value} (w : World) : But s b w (w.setCell ⟨s, i, none⟩ v) := ⟨rfl, rfl, rfl, by simp, fun k _ hs _ => heap_setCell_other _ _ _ _ hs⟩
end

/-- a key that lies in a block. -/
theorem load_key {w : World} {g : Nat} {K : Int} {f : Nat → Int} (h : w.heap[g]? = some (.cells (kc K f) 98 (0, 0))) : (Instr.loadAt 98 (.pointer (some ⟨g, 0, none⟩))).run Tryz.prog w = .ok (.agg (kc K f)) w := by
  simp only [Instr.loadAt, Instr.sureAddr, Sem.run_bind, Sem.run_pure, Result.andThen_ok]
  exact run_loadVar_row w g _ _ (kc K f) (0, 0) _ h Tryz.underlying98 rfl (by rw [kc_size]; kernel_rfl)

theorem cells_key {w : World} {g : Nat} {K : Int} {f : Nat → Int} (h : w.heap[g]? = some (.cells (kc K f) 98 (0, 0))) : (loadCellsFrom ⟨g, 0, none⟩ 0 256 #[]).run Tryz.prog w = .ok (kc K f) w := by
  have := run_loadCells_list (P := Tryz.prog) w ⟨g, 0, none⟩ (kcl K f) (fun j v hv => by
    have hadd : (⟨g, 0, none⟩ : Addr).add j = ⟨g, j, none⟩ := by unfold Addr.add; split <;> simp_all
    rw [hadd, cell_of_row w g j _ _ _ h]
    simpa [kc] using hv)
  rw [kcl_len] at this
  exact this

set_option maxHeartbeats 400000 in
theorem kept_any' (s b room : Nat) (hi mi tp : Int) (L : List Lit) (T : Lit → Tv) (w : World) (h : Sh w s b room hi mi tp L T) :
    Calls Tryz.prog 81 #[.pointer (some ⟨s, 0, none⟩)] w fun e w' => e = .returned (.int .i64 (L.length : Nat)) ∧ w' = w := by
  have c1 := h.c1
  obtain ⟨D, ho, hd⟩ := h.map
  have hsz := hd.size
  have HSZ := Lib.hid hsz; clear hsz hd h
  go_enter Tryz.func81, Tryz.ntmps81
  go_wp2_with (at_len; refine wpList_len_own _ rfl _ 137 rfl 98 147 Tryz.underlying137 _ b L.length D rfl ho ?_; rw [HSZ.out])
  go_ret
  exact ⟨rfl, rfl⟩

/-- the load of a key, and the look at the map, in a region that draws. -/
theorem yields_key {ops : Array Oper} {S : World → Prop} {a : Act} {dst : Option Tmp} {typ : TypeId} {pos : String} {aft : Array Edge} {x : Operand} {g : Nat} {K : Int} {f : Nat → Int} (hx : a.eval x = .pointer (some ⟨g, 0, none⟩)) (hS : ∀ W, S W → W.heap[g]? = some (.cells (kc K f) 98 (0, 0))) :
    YieldsIf Tryz.prog ops S ⟨dst, .load 98 x, typ, pos, aft, none⟩ (.agg (kc K f)) a := Or.inl ⟨by simp [Region.wanted], fun W hW => by
  unfold execOp
  simp only [hx]
  rw [Sem.run_bind, load_key (hS W hW)]
  rfl⟩
theorem yields_look {ops : Array Oper} {S : World → Prop} {a : Act} {dst : Option Tmp} {typ : TypeId} {pos : String} {aft : Array Edge} {m x : Operand} {t : TypeId} {mv key v : Value} (hm : a.eval m = mv) (hx : a.eval x = key) (hS : ∀ W, S W → (Instr.lookup t mv key true).run Tryz.prog W = .ok v W) :
    YieldsIf Tryz.prog ops S ⟨dst, .lookup t m x true, typ, pos, aft, none⟩ v a := Or.inl ⟨by simp [Region.wanted], fun W hW => by
  unfold execOp
  simp only [hx, hm]
  rw [Sem.run_bind, hS W hW]
  rfl⟩

def HasSays (L : List Lit) (k : Lit) (w : World) (e : Ending) (w' : World) : Prop := ∃ v : Bool, e = .returned (.bool v) ∧ (v = true ↔ k ∈ L) ∧ Below w.heap.size w w'
set_option maxHeartbeats 1000000 in
set_option maxRecDepth 100000 in
theorem shas_any (s b room : Nat) (hi mi tp : Int) (L : List Lit) (T : Lit → Tv) (K : Int) (f : Nat → Int) (hK : KeyOk K f) (w : World) (h : Sh w s b room hi mi tp L T) :
    Calls Tryz.prog 60 #[.pointer (some ⟨s, 0, none⟩), .agg (kc K f)] w (HasSays L (klOf K f) w) := by
  have hkey := klOf_eq hK
  obtain ⟨w1, hw1⟩ : ∃ w1, w1 = w.alloc (.cells (kc K f) 98) := ⟨_, rfl⟩
  have hal : Below w.heap.size w w1 := by rw [hw1]; exact (Below.refl _ w).alloc (Nat.le_refl _) _
  have hk1 : w1.heap[w.heap.size]? = some (.cells (kc K f) 98 (0, 0)) := by rw [hw1]; exact heap_alloc_new _ _
  have hs1 := h.same hal
  have HW1 := Lib.hid hw1; have HAL := Lib.hid hal
  have hsz : w.heap.size < w1.heap.size := (Array.getElem?_eq_some_iff.1 hk1).1
  have HC := Lib.hid (fun W (hW : Below w1.heap.size w1 W) => (hs1.same hW).c1)
  have HL := Lib.hid (fun W (hW : Below w1.heap.size w1 W) => ((hW.block _ hsz).trans hk1))
  have HS1 := Lib.hid hs1
  by_cases hm : klOf K f ∈ L
  · have HQ := Lib.hid (fun W (hW : Below w1.heap.size w1 W) => (hs1.same hW).map.look_yes hkey hm)
    have HM := Lib.hid hm
    unfold sv at HQ
    clear h hkey hw1 hal hk1 hs1 hm
    go_enter Tryz.func60, Tryz.ntmps60
    go_wp2_with fail
    rw [← HW1.out]
    refine wp_region_held_drew (S := fun W => Below w1.heap.size w1 W) (by kernel_rfl) (below_dr (Below.refl _ w1) 1) (fun hHeld => ?_)
    refine wpAnyH_take (i := 0) (oi := ⟨some 8, .move (.tmp 0), _, _, _, none⟩) (v := (.pointer (some ⟨s, 0, none⟩))) rfl (by kernel_rfl) (by kernel_rfl) (by kernel_rfl) (fun _ _ _ h => h) (Or.inl ⟨by rfl, fun W hW => ?_⟩) (by assumption) ?_
    · go_simp
    simp only [Act.put, List.setIfInBounds_toArray, List.set_cons_zero, List.set_cons_succ]
    refine wpAnyH_take (i := 1) (oi := ⟨some 9, .nilCheck (.tmp 8), _, _, _, none⟩) (v := (.pointer (some ⟨s, 0, none⟩))) rfl (by kernel_rfl) (by kernel_rfl) (by kernel_rfl) (fun _ _ _ h => h) (Or.inl ⟨by rfl, fun W hW => ?_⟩) (by assumption) ?_
    · go_simp
    simp only [Act.put, List.setIfInBounds_toArray, List.set_cons_zero, List.set_cons_succ]
    refine wpAnyH_take (i := 2) (oi := ⟨some 10, .fieldAddr 139 (.tmp 9) 1, _, _, _, none⟩) (v := (.pointer (some ⟨s, 1, none⟩))) rfl (by kernel_rfl) (by kernel_rfl) (by kernel_rfl) (fun _ _ _ h => h) (Or.inl ⟨by rfl, fun W hW => ?_⟩) (by assumption) ?_
    · go_simp
    simp only [Act.put, List.setIfInBounds_toArray, List.set_cons_zero, List.set_cons_succ]
    refine wpAnyH_take (i := 3) (oi := ⟨some 11, .load 137 (.tmp 10), _, _, _, none⟩) (v := (.map (some b))) rfl (by kernel_rfl) (by kernel_rfl) (by kernel_rfl) (fun _ _ _ h => h) (Or.inl ⟨by rfl, fun W hW => ?_⟩) (by assumption) ?_
    · have := HC.out W hW; go_simp
    simp only [Act.put, List.setIfInBounds_toArray, List.set_cons_zero, List.set_cons_succ]
    refine wpAnyH_take (i := 4) (oi := ⟨some 12, .load 98 (.tmp 3), _, _, _, none⟩) (v := (.agg (kc K f))) rfl (by kernel_rfl) (by kernel_rfl) (by kernel_rfl) (fun _ _ _ h => h) (yields_key (g := w.heap.size) (by rfl) (fun W hW => HL.out W hW)) (by assumption) ?_
    simp only [Act.put, List.setIfInBounds_toArray, List.set_cons_zero, List.set_cons_succ]
    refine wpAnyH_take (i := 5) (oi := ⟨some 13, .lookup 137 (.tmp 11) (.tmp 12) true, _, _, _, none⟩) (v := (.tuple #[(.agg #[.slice (T (klOf K f)).1 (T (klOf K f)).2.1 (T (klOf K f)).2.2.1, .int .i64 (T (klOf K f)).2.2.2]), .bool true])) rfl (by kernel_rfl) (by kernel_rfl) (by kernel_rfl) (fun _ _ _ h => h) (yields_look (by rfl) (by rfl) (fun W hW => HQ.out W hW)) (by assumption) ?_
    simp only [Act.put, List.setIfInBounds_toArray, List.set_cons_zero, List.set_cons_succ]
    refine wpAnyH_take (i := 6) (oi := ⟨some 7, .move (.tmp 13), _, _, _, none⟩) (v := (.tuple #[(.agg #[.slice (T (klOf K f)).1 (T (klOf K f)).2.1 (T (klOf K f)).2.2.1, .int .i64 (T (klOf K f)).2.2.2]), .bool true])) rfl (by kernel_rfl) (by kernel_rfl) (by kernel_rfl) (fun _ _ _ h => h) (Or.inl ⟨by rfl, fun W hW => ?_⟩) (by assumption) ?_
    · go_simp
    simp only [Act.put, List.setIfInBounds_toArray, List.set_cons_zero, List.set_cons_succ]
    refine wpAnyH_take (i := 7) (oi := ⟨some 14, .extract (.tmp 7) 0, _, _, _, none⟩) (v := (.agg #[.slice (T (klOf K f)).1 (T (klOf K f)).2.1 (T (klOf K f)).2.2.1, .int .i64 (T (klOf K f)).2.2.2])) rfl (by kernel_rfl) (by kernel_rfl) (by kernel_rfl) (fun _ _ _ h => h) (Or.inl ⟨by rfl, fun W hW => ?_⟩) (by assumption) ?_
    · go_simp
    simp only [Act.put, List.setIfInBounds_toArray, List.set_cons_zero, List.set_cons_succ]
    refine wpAnyH_take (i := 8) (oi := ⟨some 15, .extract (.tmp 7) 1, _, _, _, none⟩) (v := (.bool true)) rfl (by kernel_rfl) (by kernel_rfl) (by kernel_rfl) (fun _ _ _ h => h) (Or.inl ⟨by rfl, fun W hW => ?_⟩) (by assumption) ?_
    · go_simp
    simp only [Act.put, List.setIfInBounds_toArray, List.set_cons_zero, List.set_cons_succ]
    refine wpAnyH_ready (rs := [9]) (by kernel_rfl) (by simp) (AllReadyH.cons rfl (fun KK hKK => ?_) AllReadyH.nil)
    go_simp
    refine hKK.out _ _ ((by assumption : Below w1.heap.size w1 w1.drew).alloc (Nat.le_refl _) _) (fun hHeld => ?_)
    clear hKK KK
    try simp only [Act.put, List.setIfInBounds_toArray, List.set_cons_zero, List.set_cons_succ]
    refine wpAnyH_ready (rs := [10]) (by kernel_rfl) (by simp) (AllReadyH.cons rfl (fun KK hKK => ?_) AllReadyH.nil)
    go_simp
    refine hKK.out _ _ (by first | exact (hHeld.setCell (Nat.le_refl _) _).setCell (Nat.le_refl _) _ | exact below_dr ((Below.refl _ w1).alloc (Nat.le_refl _) _) 1) (fun hHeld => ?_)
    clear hKK KK
    try simp only [Act.put, List.setIfInBounds_toArray, List.set_cons_zero, List.set_cons_succ]
    refine wpAnyH_take (i := 11) (oi := ⟨some 6, .assign (.tmp 15), _, _, _, none⟩) (v := (.bool true)) rfl (by kernel_rfl) (by kernel_rfl) (by kernel_rfl) (fun _ _ _ h => h) (Or.inl ⟨by rfl, fun W hW => ?_⟩) (by assumption) ?_
    · go_simp
    simp only [Act.put, List.setIfInBounds_toArray, List.set_cons_zero, List.set_cons_succ]
    refine wpAnyH_done (by kernel_rfl) ?_ _
    go_wp2
    go_ret
    exact ⟨true, rfl, ⟨fun _ => HM.out, fun _ => rfl⟩, HAL.out.trans (hHeld.mono (Nat.le_of_lt hsz))⟩
  · have HQ := Lib.hid (fun W (hW : Below w1.heap.size w1 W) => (hs1.same hW).map.look_no hkey hm)
    have HM := Lib.hid hm
    unfold sv at HQ
    clear h hkey hw1 hal hk1 hs1 hm
    go_enter Tryz.func60, Tryz.ntmps60
    go_wp2_with fail
    rw [← HW1.out]
    refine wp_region_held_drew (S := fun W => Below w1.heap.size w1 W) (by kernel_rfl) (below_dr (Below.refl _ w1) 1) (fun hHeld => ?_)
    refine wpAnyH_take (i := 0) (oi := ⟨some 8, .move (.tmp 0), _, _, _, none⟩) (v := (.pointer (some ⟨s, 0, none⟩))) rfl (by kernel_rfl) (by kernel_rfl) (by kernel_rfl) (fun _ _ _ h => h) (Or.inl ⟨by rfl, fun W hW => ?_⟩) (by assumption) ?_
    · go_simp
    simp only [Act.put, List.setIfInBounds_toArray, List.set_cons_zero, List.set_cons_succ]
    refine wpAnyH_take (i := 1) (oi := ⟨some 9, .nilCheck (.tmp 8), _, _, _, none⟩) (v := (.pointer (some ⟨s, 0, none⟩))) rfl (by kernel_rfl) (by kernel_rfl) (by kernel_rfl) (fun _ _ _ h => h) (Or.inl ⟨by rfl, fun W hW => ?_⟩) (by assumption) ?_
    · go_simp
    simp only [Act.put, List.setIfInBounds_toArray, List.set_cons_zero, List.set_cons_succ]
    refine wpAnyH_take (i := 2) (oi := ⟨some 10, .fieldAddr 139 (.tmp 9) 1, _, _, _, none⟩) (v := (.pointer (some ⟨s, 1, none⟩))) rfl (by kernel_rfl) (by kernel_rfl) (by kernel_rfl) (fun _ _ _ h => h) (Or.inl ⟨by rfl, fun W hW => ?_⟩) (by assumption) ?_
    · go_simp
    simp only [Act.put, List.setIfInBounds_toArray, List.set_cons_zero, List.set_cons_succ]
    refine wpAnyH_take (i := 3) (oi := ⟨some 11, .load 137 (.tmp 10), _, _, _, none⟩) (v := (.map (some b))) rfl (by kernel_rfl) (by kernel_rfl) (by kernel_rfl) (fun _ _ _ h => h) (Or.inl ⟨by rfl, fun W hW => ?_⟩) (by assumption) ?_
    · have := HC.out W hW; go_simp
    simp only [Act.put, List.setIfInBounds_toArray, List.set_cons_zero, List.set_cons_succ]
    refine wpAnyH_take (i := 4) (oi := ⟨some 12, .load 98 (.tmp 3), _, _, _, none⟩) (v := (.agg (kc K f))) rfl (by kernel_rfl) (by kernel_rfl) (by kernel_rfl) (fun _ _ _ h => h) (yields_key (g := w.heap.size) (by rfl) (fun W hW => HL.out W hW)) (by assumption) ?_
    simp only [Act.put, List.setIfInBounds_toArray, List.set_cons_zero, List.set_cons_succ]
    refine wpAnyH_take (i := 5) (oi := ⟨some 13, .lookup 137 (.tmp 11) (.tmp 12) true, _, _, _, none⟩) (v := (.tuple #[(.agg #[.slice none 0 0, .int .i64 0]), .bool false])) rfl (by kernel_rfl) (by kernel_rfl) (by kernel_rfl) (fun _ _ _ h => h) (yields_look (by rfl) (by rfl) (fun W hW => HQ.out W hW)) (by assumption) ?_
    simp only [Act.put, List.setIfInBounds_toArray, List.set_cons_zero, List.set_cons_succ]
    refine wpAnyH_take (i := 6) (oi := ⟨some 7, .move (.tmp 13), _, _, _, none⟩) (v := (.tuple #[(.agg #[.slice none 0 0, .int .i64 0]), .bool false])) rfl (by kernel_rfl) (by kernel_rfl) (by kernel_rfl) (fun _ _ _ h => h) (Or.inl ⟨by rfl, fun W hW => ?_⟩) (by assumption) ?_
    · go_simp
    simp only [Act.put, List.setIfInBounds_toArray, List.set_cons_zero, List.set_cons_succ]
    refine wpAnyH_take (i := 7) (oi := ⟨some 14, .extract (.tmp 7) 0, _, _, _, none⟩) (v := (.agg #[.slice none 0 0, .int .i64 0])) rfl (by kernel_rfl) (by kernel_rfl) (by kernel_rfl) (fun _ _ _ h => h) (Or.inl ⟨by rfl, fun W hW => ?_⟩) (by assumption) ?_
    · go_simp
    simp only [Act.put, List.setIfInBounds_toArray, List.set_cons_zero, List.set_cons_succ]
    refine wpAnyH_take (i := 8) (oi := ⟨some 15, .extract (.tmp 7) 1, _, _, _, none⟩) (v := (.bool false)) rfl (by kernel_rfl) (by kernel_rfl) (by kernel_rfl) (fun _ _ _ h => h) (Or.inl ⟨by rfl, fun W hW => ?_⟩) (by assumption) ?_
    · go_simp
    simp only [Act.put, List.setIfInBounds_toArray, List.set_cons_zero, List.set_cons_succ]
    refine wpAnyH_ready (rs := [9]) (by kernel_rfl) (by simp) (AllReadyH.cons rfl (fun KK hKK => ?_) AllReadyH.nil)
    go_simp
    refine hKK.out _ _ ((by assumption : Below w1.heap.size w1 w1.drew).alloc (Nat.le_refl _) _) (fun hHeld => ?_)
    clear hKK KK
    try simp only [Act.put, List.setIfInBounds_toArray, List.set_cons_zero, List.set_cons_succ]
    refine wpAnyH_ready (rs := [10]) (by kernel_rfl) (by simp) (AllReadyH.cons rfl (fun KK hKK => ?_) AllReadyH.nil)
    go_simp
    refine hKK.out _ _ (by first | exact (hHeld.setCell (Nat.le_refl _) _).setCell (Nat.le_refl _) _ | exact below_dr ((Below.refl _ w1).alloc (Nat.le_refl _) _) 1) (fun hHeld => ?_)
    clear hKK KK
    try simp only [Act.put, List.setIfInBounds_toArray, List.set_cons_zero, List.set_cons_succ]
    refine wpAnyH_take (i := 11) (oi := ⟨some 6, .assign (.tmp 15), _, _, _, none⟩) (v := (.bool false)) rfl (by kernel_rfl) (by kernel_rfl) (by kernel_rfl) (fun _ _ _ h => h) (Or.inl ⟨by rfl, fun W hW => ?_⟩) (by assumption) ?_
    · go_simp
    simp only [Act.put, List.setIfInBounds_toArray, List.set_cons_zero, List.set_cons_succ]
    refine wpAnyH_done (by kernel_rfl) ?_ _
    go_wp2
    go_ret
    exact ⟨false, rfl, ⟨fun hh => absurd hh Bool.false_ne_true, fun hh => absurd hh HM.out⟩, HAL.out.trans (hHeld.mono (Nat.le_of_lt hsz))⟩
end Go.Proofs.YtjnfghhochcpaaaGreat

namespace Go.Proofs.YtjnfghhochcpaaaGreat
open Go.RowKit Go.Shelf

/-- a thing put into a map, as one step of a region that draws. -/
theorem step_put {ops : Array Oper} {o : Oper} {a : Act} {w : World} {K : Act → World → Prop} {Q : Exit → Act → World → Prop} {E : Prop} (hg : o.guard = none) (m x v : Operand) (t : TypeId) (hop : o.op = .mapUpdate t m x v) (mv key vv : Value)
    (hm : a.eval m = mv) (hx : a.eval x = key) (hv : a.eval v = vv) (w' : World) (hr : (Instr.mapUpdate t mv key vv).run Tryz.prog w = .ok () w') (hK : K (a.put o.dst undef) w') :
    if Region.wanted o (yielded ops a.tmps) = true then Oper.wp Tryz.prog o a w K Q else E := by
  have hw : Region.wanted o (yielded ops a.tmps) = true := by simp [Region.wanted, hg]
  rw [if_pos hw]
  unfold Oper.wp
  simp [execOp, hop, hm, hx, hv, hr, Result.andThen]
  exact hK

/-- what a use leaves. -/
def UseSays (s b room : Nat) (hi mi : Int) (L : List Lit) (T : Lit → Tv) (k : Lit) (a : Option Addr) (l c : Nat) (w : World) (e : Ending) (w' : World) : Prop :=
  e = .returned (.tuple #[]) ∧ Sh w' s b room hi mi (hi + mi) (out L k ++ [k]) (onT T k (a, l, c, hi + mi)) ∧ But s b w w'
theorem pairwise_on {L : List Lit} {T : Lit → Tv} {k : Lit} {x : Tv} (h : L.Pairwise fun x y => (T x).2.2.2 < (T y).2.2.2) (ht : ∀ y, y ∈ L → (T y).2.2.2 < x.2.2.2) : (out L k ++ [k]).Pairwise fun y z => (onT T k x y).2.2.2 < (onT T k x z).2.2.2 := by
  rw [List.pairwise_append]
  refine ⟨?_, List.pairwise_singleton _ _, fun y hy z hz => ?_⟩
  · have : (out L k).Pairwise fun x y => (T x).2.2.2 < (T y).2.2.2 := h.filter _
    refine List.Pairwise.imp_of_mem ?_ this
    intro y z hy hz hyz
    rw [onT_other (mem_out.1 hy).2, onT_other (mem_out.1 hz).2]; exact hyz
  · rw [List.mem_singleton] at hz
    subst hz
    rw [onT_same, onT_other (mem_out.1 hy).2]
    exact ht y (mem_out.1 hy).1
theorem Sh.put {w w' : World} {s b room : Nat} {hi mi tp : Int} {L : List Lit} {T : Lit → Tv} {k : Lit} {x : Tv} (h : Sh w s b room hi mi tp L T) (hm : Mp w' b (out L k ++ [k]) (onT T k x)) (ht : w.mapTurned w' b) (h0 : 0 ≤ x.2.2.2) (hx : ∀ y, y ∈ L → (T y).2.2.2 < x.2.2.2) (hr : (out L k ++ [k]).length ≤ room) :
    Sh w' s b room hi mi x.2.2.2 (out L k ++ [k]) (onT T k x) where
  blk := by rw [ht.grown.block s h.lt (fun e => h.ne (by cases e; rfl))]; exact h.blk
  map := hm
  inc := pairwise_on h.inc hx
  top y hy := by
    rw [List.mem_append, List.mem_singleton] at hy
    by_cases e : y = k
    · subst e; rw [onT_same]; exact ⟨h0, Int.le_refl _⟩
    · rw [onT_other e]
      rcases hy with hy | hy
      · have h1 := h.top y (mem_out.1 hy).1; have h2 := hx y (mem_out.1 hy).1
        exact ⟨h1.1, Int.le_of_lt h2⟩
      · exact absurd hy e
  room := ⟨hr, h.room.2⟩

set_option maxHeartbeats 1000000 in
set_option maxRecDepth 100000 in
theorem suse_any (s b room : Nat) (hi mi tp : Int) (L : List Lit) (T : Lit → Tv) (K : Int) (f : Nat → Int) (hK : KeyOk K f) (a : Option Addr) (l c : Nat) (h1 : 0 ≤ hi) (h2 : 0 ≤ mi) (h3 : hi + mi ≤ 1000000000000) (h4 : tp < hi + mi) (hr : (out L (klOf K f) ++ [klOf K f]).length ≤ room) (w : World) (h : Sh w s b room hi mi tp L T) :
    Calls Tryz.prog 101 #[.pointer (some ⟨s, 0, none⟩), .agg (kc K f), .slice a l c] w (UseSays s b room hi mi L T (klOf K f) a l c w) := by
  have hkey := klOf_eq hK
  obtain ⟨w1, hw1⟩ : ∃ w1, w1 = w.alloc (.cells (kc K f) 98) := ⟨_, rfl⟩
  have hal : Below w.heap.size w w1 := by rw [hw1]; exact (Below.refl _ w).alloc (Nat.le_refl _) _
  have hk1 : w1.heap[w.heap.size]? = some (.cells (kc K f) 98 (0, 0)) := by rw [hw1]; exact heap_alloc_new _ _
  have hs1 := h.same hal
  obtain ⟨w2, hrun, hm2, ht2⟩ := (show Mp w1.drew b L T from hs1.map).put (by have := hs1.room; unfold maxLen; omega) hkey (a, l, c, hi + mi)
  have hsh2 := Sh.put (w := w1.drew) (show Sh w1.drew s b room hi mi tp L T from hs1.same (below_dr (Below.refl _ w1) 1)) hm2 ht2 (by show 0 ≤ hi + mi; omega) (fun y hy => Int.lt_of_le_of_lt (hs1.top y hy).2 h4) hr
  have hsz : w.heap.size < w1.heap.size := (Array.getElem?_eq_some_iff.1 hk1).1
  have hbut : But s b w w2 := (But.of hal).trans ((But.of (below_dr (Below.refl _ w1) 1)).trans (But.turned ht2))
  have hblt := hs1.map.lt
  have hgb : w.heap.size ≠ b := by have := h.map.lt; omega
  have HC1 := Lib.hid (fun (W : World) (hW : W.heap[s]? = w1.heap[s]? ∧ W.heap[w.heap.size]? = w1.heap[w.heap.size]?) => (show W.cell? ⟨s, 1, none⟩ = some (.map (some b)) from by rw [cell_of_row W s 1 _ _ _ (hW.1.trans hs1.blk)]; rfl))
  have HC2 := Lib.hid (fun (W : World) (hW : W.heap[s]? = w1.heap[s]? ∧ W.heap[w.heap.size]? = w1.heap[w.heap.size]?) => (show W.cell? ⟨s, 2, none⟩ = some (.int .i64 hi) from by rw [cell_of_row W s 2 _ _ _ (hW.1.trans hs1.blk)]; rfl))
  have HC3 := Lib.hid (fun (W : World) (hW : W.heap[s]? = w1.heap[s]? ∧ W.heap[w.heap.size]? = w1.heap[w.heap.size]?) => (show W.cell? ⟨s, 3, none⟩ = some (.int .i64 mi) from by rw [cell_of_row W s 3 _ _ _ (hW.1.trans hs1.blk)]; rfl))
  have HL := Lib.hid (fun (W : World) (hW : W.heap[s]? = w1.heap[s]? ∧ W.heap[w.heap.size]? = w1.heap[w.heap.size]?) => hW.2.trans hk1)
  have HRUN := Lib.hid hrun
  have HF := Lib.hid (show w2.heap[s]? = w1.heap[s]? ∧ w2.heap[w.heap.size]? = w1.heap[w.heap.size]? from ⟨ht2.grown.block s hs1.lt (fun e => hs1.ne (by cases e; rfl)), ht2.grown.block _ hsz (fun e => hgb (by cases e; rfl))⟩)
  have HSH := Lib.hid hsh2; have HBUT := Lib.hid hbut; have HW1 := Lib.hid hw1
  have hadd : IntKind.i64.wrap (hi + mi) = hi + mi := IntWalk.i64_in _ (by omega)
  clear hkey hw1 hal hk1 hs1 hrun hm2 ht2 hsh2 hbut hblt hgb h
  go_enter Tryz.func101, Tryz.ntmps101
  go_wp2_with fail
  rw [← HW1.out]
  refine wp_region_held_drew (S := fun W => W.heap[s]? = w1.heap[s]? ∧ W.heap[w.heap.size]? = w1.heap[w.heap.size]?) (by kernel_rfl) ⟨rfl, rfl⟩ (fun hHeld => ?_)
  refine wpAnyH_take (i := 0) (oi := ⟨some 6, .move (.tmp 0), _, _, _, none⟩) (v := (.pointer (some ⟨s, 0, none⟩))) rfl (by kernel_rfl) (by kernel_rfl) (by kernel_rfl) (fun _ _ _ h => h) (Or.inl ⟨by rfl, fun W hW => ?_⟩) (by assumption) ?_
  · go_simp
  simp only [Act.put, List.setIfInBounds_toArray, List.set_cons_zero, List.set_cons_succ]
  refine wpAnyH_take (i := 1) (oi := ⟨some 7, .nilCheck (.tmp 6), _, _, _, none⟩) (v := (.pointer (some ⟨s, 0, none⟩))) rfl (by kernel_rfl) (by kernel_rfl) (by kernel_rfl) (fun _ _ _ h => h) (Or.inl ⟨by rfl, fun W hW => ?_⟩) (by assumption) ?_
  · go_simp
  simp only [Act.put, List.setIfInBounds_toArray, List.set_cons_zero, List.set_cons_succ]
  refine wpAnyH_take (i := 2) (oi := ⟨some 8, .fieldAddr 139 (.tmp 7) 1, _, _, _, none⟩) (v := (.pointer (some ⟨s, 1, none⟩))) rfl (by kernel_rfl) (by kernel_rfl) (by kernel_rfl) (fun _ _ _ h => h) (Or.inl ⟨by rfl, fun W hW => ?_⟩) (by assumption) ?_
  · go_simp
  simp only [Act.put, List.setIfInBounds_toArray, List.set_cons_zero, List.set_cons_succ]
  refine wpAnyH_take (i := 3) (oi := ⟨some 9, .load 137 (.tmp 8), _, _, _, none⟩) (v := (.map (some b))) rfl (by kernel_rfl) (by kernel_rfl) (by kernel_rfl) (fun _ _ _ h => h) (Or.inl ⟨by rfl, fun W hW => ?_⟩) (by assumption) ?_
  · have := HC1.out W hW; go_simp
  simp only [Act.put, List.setIfInBounds_toArray, List.set_cons_zero, List.set_cons_succ]
  refine wpAnyH_take (i := 4) (oi := ⟨some 10, .load 98 (.tmp 4), _, _, _, none⟩) (v := (.agg (kc K f))) rfl (by kernel_rfl) (by kernel_rfl) (by kernel_rfl) (fun _ _ _ h => h) (yields_key (g := w.heap.size) (by rfl) (fun W hW => HL.out W hW)) (by assumption) ?_
  simp only [Act.put, List.setIfInBounds_toArray, List.set_cons_zero, List.set_cons_succ]
  refine wpAnyH_take (i := 5) (oi := ⟨some 11, .move (.tmp 2), _, _, _, none⟩) (v := (.slice a l c)) rfl (by kernel_rfl) (by kernel_rfl) (by kernel_rfl) (fun _ _ _ h => h) (Or.inl ⟨by rfl, fun W hW => ?_⟩) (by assumption) ?_
  · go_simp
  simp only [Act.put, List.setIfInBounds_toArray, List.set_cons_zero, List.set_cons_succ]
  refine wpAnyH_take (i := 6) (oi := ⟨some 12, .move (.tmp 0), _, _, _, none⟩) (v := (.pointer (some ⟨s, 0, none⟩))) rfl (by kernel_rfl) (by kernel_rfl) (by kernel_rfl) (fun _ _ _ h => h) (Or.inl ⟨by rfl, fun W hW => ?_⟩) (by assumption) ?_
  · go_simp
  simp only [Act.put, List.setIfInBounds_toArray, List.set_cons_zero, List.set_cons_succ]
  refine wpAnyH_take (i := 7) (oi := ⟨some 13, .nilCheck (.tmp 12), _, _, _, none⟩) (v := (.pointer (some ⟨s, 0, none⟩))) rfl (by kernel_rfl) (by kernel_rfl) (by kernel_rfl) (fun _ _ _ h => h) (Or.inl ⟨by rfl, fun W hW => ?_⟩) (by assumption) ?_
  · go_simp
  simp only [Act.put, List.setIfInBounds_toArray, List.set_cons_zero, List.set_cons_succ]
  refine wpAnyH_take (i := 8) (oi := ⟨some 14, .fieldAddr 139 (.tmp 13) 2, _, _, _, none⟩) (v := (.pointer (some ⟨s, 2, none⟩))) rfl (by kernel_rfl) (by kernel_rfl) (by kernel_rfl) (fun _ _ _ h => h) (Or.inl ⟨by rfl, fun W hW => ?_⟩) (by assumption) ?_
  · go_simp
  simp only [Act.put, List.setIfInBounds_toArray, List.set_cons_zero, List.set_cons_succ]
  refine wpAnyH_take (i := 9) (oi := ⟨some 15, .load 3 (.tmp 14), _, _, _, none⟩) (v := (.int .i64 hi)) rfl (by kernel_rfl) (by kernel_rfl) (by kernel_rfl) (fun _ _ _ h => h) (Or.inl ⟨by rfl, fun W hW => ?_⟩) (by assumption) ?_
  · have := HC2.out W hW; go_simp
  simp only [Act.put, List.setIfInBounds_toArray, List.set_cons_zero, List.set_cons_succ]
  refine wpAnyH_take (i := 10) (oi := ⟨some 16, .move (.tmp 0), _, _, _, none⟩) (v := (.pointer (some ⟨s, 0, none⟩))) rfl (by kernel_rfl) (by kernel_rfl) (by kernel_rfl) (fun _ _ _ h => h) (Or.inl ⟨by rfl, fun W hW => ?_⟩) (by assumption) ?_
  · go_simp
  simp only [Act.put, List.setIfInBounds_toArray, List.set_cons_zero, List.set_cons_succ]
  refine wpAnyH_take (i := 11) (oi := ⟨some 17, .nilCheck (.tmp 16), _, _, _, none⟩) (v := (.pointer (some ⟨s, 0, none⟩))) rfl (by kernel_rfl) (by kernel_rfl) (by kernel_rfl) (fun _ _ _ h => h) (Or.inl ⟨by rfl, fun W hW => ?_⟩) (by assumption) ?_
  · go_simp
  simp only [Act.put, List.setIfInBounds_toArray, List.set_cons_zero, List.set_cons_succ]
  refine wpAnyH_take (i := 12) (oi := ⟨some 18, .fieldAddr 139 (.tmp 17) 3, _, _, _, none⟩) (v := (.pointer (some ⟨s, 3, none⟩))) rfl (by kernel_rfl) (by kernel_rfl) (by kernel_rfl) (fun _ _ _ h => h) (Or.inl ⟨by rfl, fun W hW => ?_⟩) (by assumption) ?_
  · go_simp
  simp only [Act.put, List.setIfInBounds_toArray, List.set_cons_zero, List.set_cons_succ]
  refine wpAnyH_take (i := 13) (oi := ⟨some 19, .load 3 (.tmp 18), _, _, _, none⟩) (v := (.int .i64 mi)) rfl (by kernel_rfl) (by kernel_rfl) (by kernel_rfl) (fun _ _ _ h => h) (Or.inl ⟨by rfl, fun W hW => ?_⟩) (by assumption) ?_
  · have := HC3.out W hW; go_simp
  simp only [Act.put, List.setIfInBounds_toArray, List.set_cons_zero, List.set_cons_succ]
  refine wpAnyH_take (i := 14) (oi := ⟨some 20, .binOp .add 3 (.tmp 15) (.tmp 19) 3, _, _, _, none⟩) (v := (.int .i64 (hi + mi))) rfl (by kernel_rfl) (by kernel_rfl) (by kernel_rfl) (fun _ _ _ h => h) (Or.inl ⟨by rfl, fun W hW => ?_⟩) (by assumption) ?_
  · go_simp
  simp only [Act.put, List.setIfInBounds_toArray, List.set_cons_zero, List.set_cons_succ]
  refine wpAnyH_take (i := 15) (oi := ⟨some 21, .build 147 #[(0, .tmp 11), (1, .tmp 20)], _, _, _, none⟩) (v := (sv (a, l, c, hi + mi))) rfl (by kernel_rfl) (by kernel_rfl) (by kernel_rfl) (fun _ _ _ h => h) (Or.inl ⟨by rfl, fun W hW => ?_⟩) (by assumption) ?_
  · unfold sv; go_simp
  simp only [Act.put, List.setIfInBounds_toArray, List.set_cons_zero, List.set_cons_succ]
  refine wpAnyH_ready (rs := [16]) (by kernel_rfl) (by simp) (AllReadyH.cons rfl (fun KK hKK => ?_) AllReadyH.nil)
  refine step_put rfl _ _ _ _ rfl (.map (some b)) (.agg (kc K f)) (sv (a, l, c, hi + mi)) (by rfl) (by rfl) (by rfl) w2 HRUN.out ?_
  refine hKK.out _ _ HF.out (fun hHeld => ?_)
  clear hKK KK
  refine wpAnyH_done (by kernel_rfl) ?_ _
  go_wp2
  go_end0
  exact ⟨rfl, HSH.out, HBUT.out⟩
end Go.Proofs.YtjnfghhochcpaaaGreat

namespace Go.Proofs.YtjnfghhochcpaaaGreat
open Go.RowKit Go.Shelf

/-- what a take answers. -/
def TkSays (s b room : Nat) (hi mi : Int) (L : List Lit) (T : Lit → Tv) (k : Lit) (w : World) (e : Ending) (w' : World) : Prop :=
  (k ∉ L ∧ e = .returned (.tuple #[.slice none 0 0, .bool false]) ∧ Below w.heap.size w w') ∨
  (k ∈ L ∧ e = .returned (.tuple #[.slice (T k).1 (T k).2.1 (T k).2.2.1, .bool true]) ∧ Sh w' s b room (hi + 1) mi (hi + 1 + mi) (out L k ++ [k]) (onT T k ((T k).1, (T k).2.1, (T k).2.2.1, hi + 1 + mi)) ∧ But s b w w')
set_option maxHeartbeats 1000000 in
set_option maxRecDepth 100000 in
theorem stake_any (s b room : Nat) (hi mi : Int) (L : List Lit) (T : Lit → Tv) (K : Int) (f : Nat → Int) (hK : KeyOk K f) (h1 : 0 ≤ hi) (h2 : 0 ≤ mi) (h3 : hi + mi ≤ 100000000000) (w : World) (h : Sh w s b room hi mi (hi + mi) L T) :
    Calls Tryz.prog 83 #[.pointer (some ⟨s, 0, none⟩), .agg (kc K f)] w (TkSays s b room hi mi L T (klOf K f) w) := by
  have hkey := klOf_eq hK
  obtain ⟨w1, hw1⟩ : ∃ w1, w1 = w.alloc (.cells (kc K f) 98) := ⟨_, rfl⟩
  have hal : Below w.heap.size w w1 := by rw [hw1]; exact (Below.refl _ w).alloc (Nat.le_refl _) _
  have hk1 : w1.heap[w.heap.size]? = some (.cells (kc K f) 98 (0, 0)) := by rw [hw1]; exact heap_alloc_new _ _
  have hs1 := h.same hal
  have HW1 := Lib.hid hw1; have HAL := Lib.hid hal
  have hsz : w.heap.size < w1.heap.size := (Array.getElem?_eq_some_iff.1 hk1).1
  have HC := Lib.hid (fun W (hW : Below w1.heap.size w1 W) => (hs1.same hW).c1)
  have HL := Lib.hid (fun W (hW : Below w1.heap.size w1 W) => ((hW.block _ hsz).trans hk1))
  have HS1 := Lib.hid hs1
  have HSS := Lib.hid h
  by_cases hm : klOf K f ∈ L
  · have HQ := Lib.hid (fun W (hW : Below w1.heap.size w1 W) => (hs1.same hW).map.look_yes hkey hm)
    have HM := Lib.hid hm
    unfold sv at HQ
    rcases hT : T (klOf K f) with ⟨ta, tl, tcp, tu⟩
    rw [hT] at HQ
    dsimp only at HQ
    have HT := Lib.hid hT
    have htu := hs1.top _ hm
    rw [hT] at htu
    have hroom : (out L (klOf K f) ++ [klOf K f]).length ≤ room := by
      have h4 := out_len hs1.map.nodup hm; have h5 := hs1.room.1
      rw [List.length_append, List.length_singleton]; omega
    clear hT
    clear h hkey hw1 hal hk1 hs1 hm
    go_enter Tryz.func83, Tryz.ntmps83
    go_wp2_with fail
    rw [← HW1.out]
    refine wp_region_held_drew (S := fun W => Below w1.heap.size w1 W) (by kernel_rfl) (below_dr (Below.refl _ w1) 1) (fun hHeld => ?_)
    refine wpAnyH_take (i := 0) (oi := ⟨some 9, .move (.tmp 0), _, _, _, none⟩) (v := (.pointer (some ⟨s, 0, none⟩))) rfl (by kernel_rfl) (by kernel_rfl) (by kernel_rfl) (fun _ _ _ h => h) (Or.inl ⟨by rfl, fun W hW => ?_⟩) (by assumption) ?_
    · go_simp
    simp only [Act.put, List.setIfInBounds_toArray, List.set_cons_zero, List.set_cons_succ]
    refine wpAnyH_take (i := 1) (oi := ⟨some 10, .nilCheck (.tmp 9), _, _, _, none⟩) (v := (.pointer (some ⟨s, 0, none⟩))) rfl (by kernel_rfl) (by kernel_rfl) (by kernel_rfl) (fun _ _ _ h => h) (Or.inl ⟨by rfl, fun W hW => ?_⟩) (by assumption) ?_
    · go_simp
    simp only [Act.put, List.setIfInBounds_toArray, List.set_cons_zero, List.set_cons_succ]
    refine wpAnyH_take (i := 2) (oi := ⟨some 11, .fieldAddr 139 (.tmp 10) 1, _, _, _, none⟩) (v := (.pointer (some ⟨s, 1, none⟩))) rfl (by kernel_rfl) (by kernel_rfl) (by kernel_rfl) (fun _ _ _ h => h) (Or.inl ⟨by rfl, fun W hW => ?_⟩) (by assumption) ?_
    · go_simp
    simp only [Act.put, List.setIfInBounds_toArray, List.set_cons_zero, List.set_cons_succ]
    refine wpAnyH_take (i := 3) (oi := ⟨some 12, .load 137 (.tmp 11), _, _, _, none⟩) (v := (.map (some b))) rfl (by kernel_rfl) (by kernel_rfl) (by kernel_rfl) (fun _ _ _ h => h) (Or.inl ⟨by rfl, fun W hW => ?_⟩) (by assumption) ?_
    · have := HC.out W hW; go_simp
    simp only [Act.put, List.setIfInBounds_toArray, List.set_cons_zero, List.set_cons_succ]
    refine wpAnyH_take (i := 4) (oi := ⟨some 13, .load 98 (.tmp 3), _, _, _, none⟩) (v := (.agg (kc K f))) rfl (by kernel_rfl) (by kernel_rfl) (by kernel_rfl) (fun _ _ _ h => h) (yields_key (g := w.heap.size) (by rfl) (fun W hW => HL.out W hW)) (by assumption) ?_
    simp only [Act.put, List.setIfInBounds_toArray, List.set_cons_zero, List.set_cons_succ]
    refine wpAnyH_take (i := 5) (oi := ⟨some 14, .lookup 137 (.tmp 12) (.tmp 13) true, _, _, _, none⟩) (v := (.tuple #[(.agg #[.slice ta tl tcp, .int .i64 tu]), .bool true])) rfl (by kernel_rfl) (by kernel_rfl) (by kernel_rfl) (fun _ _ _ h => h) (yields_look (by rfl) (by rfl) (fun W hW => HQ.out W hW)) (by assumption) ?_
    simp only [Act.put, List.setIfInBounds_toArray, List.set_cons_zero, List.set_cons_succ]
    refine wpAnyH_take (i := 6) (oi := ⟨some 8, .move (.tmp 14), _, _, _, none⟩) (v := (.tuple #[(.agg #[.slice ta tl tcp, .int .i64 tu]), .bool true])) rfl (by kernel_rfl) (by kernel_rfl) (by kernel_rfl) (fun _ _ _ h => h) (Or.inl ⟨by rfl, fun W hW => ?_⟩) (by assumption) ?_
    · go_simp
    simp only [Act.put, List.setIfInBounds_toArray, List.set_cons_zero, List.set_cons_succ]
    refine wpAnyH_take (i := 7) (oi := ⟨some 15, .extract (.tmp 8) 0, _, _, _, none⟩) (v := (.agg #[.slice ta tl tcp, .int .i64 tu])) rfl (by kernel_rfl) (by kernel_rfl) (by kernel_rfl) (fun _ _ _ h => h) (Or.inl ⟨by rfl, fun W hW => ?_⟩) (by assumption) ?_
    · go_simp
    simp only [Act.put, List.setIfInBounds_toArray, List.set_cons_zero, List.set_cons_succ]
    refine wpAnyH_take (i := 8) (oi := ⟨some 16, .extract (.tmp 8) 1, _, _, _, none⟩) (v := (.bool true)) rfl (by kernel_rfl) (by kernel_rfl) (by kernel_rfl) (fun _ _ _ h => h) (Or.inl ⟨by rfl, fun W hW => ?_⟩) (by assumption) ?_
    · go_simp
    simp only [Act.put, List.setIfInBounds_toArray, List.set_cons_zero, List.set_cons_succ]
    refine wpAnyH_ready (rs := [9]) (by kernel_rfl) (by simp) (AllReadyH.cons rfl (fun KK hKK => ?_) AllReadyH.nil)
    go_simp
    refine hKK.out _ _ ((by assumption : Below w1.heap.size w1 w1.drew).alloc (Nat.le_refl _) _) (fun hHeld => ?_)
    clear hKK KK
    try simp only [Act.put, List.setIfInBounds_toArray, List.set_cons_zero, List.set_cons_succ]
    refine wpAnyH_ready (rs := [10]) (by kernel_rfl) (by simp) (AllReadyH.cons rfl (fun KK hKK => ?_) AllReadyH.nil)
    go_simp
    refine hKK.out _ _ (by first | exact (hHeld.setCell (Nat.le_refl _) _).setCell (Nat.le_refl _) _ | exact below_dr ((Below.refl _ w1).alloc (Nat.le_refl _) _) 1) (fun hHeld => ?_)
    clear hKK KK
    try simp only [Act.put, List.setIfInBounds_toArray, List.set_cons_zero, List.set_cons_succ]
    refine wpAnyH_take (i := 11) (oi := ⟨some 7, .assign (.tmp 16), _, _, _, none⟩) (v := (.bool true)) rfl (by kernel_rfl) (by kernel_rfl) (by kernel_rfl) (fun _ _ _ h => h) (Or.inl ⟨by rfl, fun W hW => ?_⟩) (by assumption) ?_
    · go_simp
    simp only [Act.put, List.setIfInBounds_toArray, List.set_cons_zero, List.set_cons_succ]
    refine wpAnyH_done (by kernel_rfl) ?_ _
    clear hHeld
    obtain ⟨w3, hw3⟩ : ∃ w3, w3 = (w1.alloc (.cells #[.slice ta tl tcp, .int .i64 tu] 147)).drew := ⟨_, rfl⟩
    rw [← hw3]
    have hb3 : Below w1.heap.size w1 w3 := by rw [hw3]; exact below_dr ((Below.refl _ w1).alloc (Nat.le_refl _) _) 1
    have sp3 : w3.heap[w1.heap.size]? = some (.cells #[.slice ta tl tcp, .int .i64 tu] 147 (0, 0)) := by rw [hw3]; exact heap_alloc_new _ _
    have hs3 := HS1.out.same hb3
    have c2 := hs3.c2
    have f2 := hs3.free 2
    have hlt3 := HS1.out.lt
    have hs4 := hs3.setHi (hi + 1)
    have hk4 : (w3.setCell ⟨s, 2, none⟩ (.int .i64 (hi + 1))).heap[w.heap.size]? = some (.cells (kc K f) 98 (0, 0)) := (heap_setCell_other w3 ⟨s, 2, none⟩ w.heap.size _ (by have := HSS.out.lt; show w.heap.size ≠ s; omega)).trans (HL.out w3 hb3)
    have sp4 : (w3.setCell ⟨s, 2, none⟩ (.int .i64 (hi + 1))).cell? ⟨w1.heap.size, 0, none⟩ = some (.slice ta tl tcp) := by
      rw [cell_of_row _ w1.heap.size 0 _ _ _ ((heap_setCell_other w3 ⟨s, 2, none⟩ w1.heap.size _ (by show w1.heap.size ≠ s; omega)).trans sp3)]; rfl
    have HB4 := Lib.hid ((But.of HAL.out).trans ((But.of (hb3)).trans (but_set (s := s) (b := b) (i := 2) (v := .int .i64 (hi + 1)) w3)) : But s b w _)
    have hadd : IntKind.i64.wrap (hi + 1) = hi + 1 := IntWalk.i64_in _ (by omega)
    have hsz3 : w1.heap.size < w3.heap.size := (Array.getElem?_eq_some_iff.1 sp3).1
    have hnb : w1.heap.size ≠ b := by have := HS1.out.map.lt; omega
    have hns : w1.heap.size ≠ s := by omega
    have HS4 := Lib.hid hs4; have HK4 := Lib.hid hk4; have HSP := Lib.hid sp3
    clear hw3 hs3 hs4 hk4 hb3 sp3
    have hinfo : (Tryz.prog.info? 98).map (·.size) = some (kc K f).size := by rw [kc_size]; kernel_rfl
    have HIN := Lib.hid hinfo; clear hinfo
    obtain ⟨w4, hw4⟩ : ∃ w4, w4 = w3.setCell ⟨s, 2, none⟩ (.int .i64 (hi + 1)) := ⟨_, rfl⟩
    have HSZ4 := Lib.hid (show w4.heap.size = w3.heap.size by rw [hw4]; simp)
    go_wp2_with (first | (refine wpList_load_row rfl 98 _ rfl w.heap.size rfl 98 (kc K f) (0, 0) _ HK4.out Tryz.underlying98 rfl HIN.out ?_) | fail)
    refine (suse_any s b room (hi + 1) mi (hi + mi) L T K f hK ta tl tcp (by omega) h2 (by omega) (by omega) hroom _ HS4.out).mono ?_
    rintro e w5 ⟨rfl, hS5, hB5⟩
    have HS5 := Lib.hid hS5; have HB5 := Lib.hid (HB4.out.trans hB5)
    have sp5 : w5.cell? ⟨w1.heap.size, 0, none⟩ = some (.slice ta tl tcp) := by
      rw [cell_of_row _ w1.heap.size 0 _ _ _ ((hB5.block w1.heap.size (by simp; omega) hns hnb).trans ((heap_setCell_other w3 ⟨s, 2, none⟩ w1.heap.size _ hns).trans HSP.out))]; rfl
    clear hw4 hS5 hB5 sp4 c2 f2
    go_wp2
    go_ret2
    refine Or.inr ⟨HM.out, ?_, ?_, HB5.out⟩
    · rw [HT.out]; rfl
    · rw [HT.out]; exact HS5.out
  · have HQ := Lib.hid (fun W (hW : Below w1.heap.size w1 W) => (hs1.same hW).map.look_no hkey hm)
    have HM := Lib.hid hm
    unfold sv at HQ
    clear h hkey hw1 hal hk1 hs1 hm
    go_enter Tryz.func83, Tryz.ntmps83
    go_wp2_with fail
    rw [← HW1.out]
    refine wp_region_held_drew (S := fun W => Below w1.heap.size w1 W) (by kernel_rfl) (below_dr (Below.refl _ w1) 1) (fun hHeld => ?_)
    refine wpAnyH_take (i := 0) (oi := ⟨some 9, .move (.tmp 0), _, _, _, none⟩) (v := (.pointer (some ⟨s, 0, none⟩))) rfl (by kernel_rfl) (by kernel_rfl) (by kernel_rfl) (fun _ _ _ h => h) (Or.inl ⟨by rfl, fun W hW => ?_⟩) (by assumption) ?_
    · go_simp
    simp only [Act.put, List.setIfInBounds_toArray, List.set_cons_zero, List.set_cons_succ]
    refine wpAnyH_take (i := 1) (oi := ⟨some 10, .nilCheck (.tmp 9), _, _, _, none⟩) (v := (.pointer (some ⟨s, 0, none⟩))) rfl (by kernel_rfl) (by kernel_rfl) (by kernel_rfl) (fun _ _ _ h => h) (Or.inl ⟨by rfl, fun W hW => ?_⟩) (by assumption) ?_
    · go_simp
    simp only [Act.put, List.setIfInBounds_toArray, List.set_cons_zero, List.set_cons_succ]
    refine wpAnyH_take (i := 2) (oi := ⟨some 11, .fieldAddr 139 (.tmp 10) 1, _, _, _, none⟩) (v := (.pointer (some ⟨s, 1, none⟩))) rfl (by kernel_rfl) (by kernel_rfl) (by kernel_rfl) (fun _ _ _ h => h) (Or.inl ⟨by rfl, fun W hW => ?_⟩) (by assumption) ?_
    · go_simp
    simp only [Act.put, List.setIfInBounds_toArray, List.set_cons_zero, List.set_cons_succ]
    refine wpAnyH_take (i := 3) (oi := ⟨some 12, .load 137 (.tmp 11), _, _, _, none⟩) (v := (.map (some b))) rfl (by kernel_rfl) (by kernel_rfl) (by kernel_rfl) (fun _ _ _ h => h) (Or.inl ⟨by rfl, fun W hW => ?_⟩) (by assumption) ?_
    · have := HC.out W hW; go_simp
    simp only [Act.put, List.setIfInBounds_toArray, List.set_cons_zero, List.set_cons_succ]
    refine wpAnyH_take (i := 4) (oi := ⟨some 13, .load 98 (.tmp 3), _, _, _, none⟩) (v := (.agg (kc K f))) rfl (by kernel_rfl) (by kernel_rfl) (by kernel_rfl) (fun _ _ _ h => h) (yields_key (g := w.heap.size) (by rfl) (fun W hW => HL.out W hW)) (by assumption) ?_
    simp only [Act.put, List.setIfInBounds_toArray, List.set_cons_zero, List.set_cons_succ]
    refine wpAnyH_take (i := 5) (oi := ⟨some 14, .lookup 137 (.tmp 12) (.tmp 13) true, _, _, _, none⟩) (v := (.tuple #[(.agg #[.slice none 0 0, .int .i64 0]), .bool false])) rfl (by kernel_rfl) (by kernel_rfl) (by kernel_rfl) (fun _ _ _ h => h) (yields_look (by rfl) (by rfl) (fun W hW => HQ.out W hW)) (by assumption) ?_
    simp only [Act.put, List.setIfInBounds_toArray, List.set_cons_zero, List.set_cons_succ]
    refine wpAnyH_take (i := 6) (oi := ⟨some 8, .move (.tmp 14), _, _, _, none⟩) (v := (.tuple #[(.agg #[.slice none 0 0, .int .i64 0]), .bool false])) rfl (by kernel_rfl) (by kernel_rfl) (by kernel_rfl) (fun _ _ _ h => h) (Or.inl ⟨by rfl, fun W hW => ?_⟩) (by assumption) ?_
    · go_simp
    simp only [Act.put, List.setIfInBounds_toArray, List.set_cons_zero, List.set_cons_succ]
    refine wpAnyH_take (i := 7) (oi := ⟨some 15, .extract (.tmp 8) 0, _, _, _, none⟩) (v := (.agg #[.slice none 0 0, .int .i64 0])) rfl (by kernel_rfl) (by kernel_rfl) (by kernel_rfl) (fun _ _ _ h => h) (Or.inl ⟨by rfl, fun W hW => ?_⟩) (by assumption) ?_
    · go_simp
    simp only [Act.put, List.setIfInBounds_toArray, List.set_cons_zero, List.set_cons_succ]
    refine wpAnyH_take (i := 8) (oi := ⟨some 16, .extract (.tmp 8) 1, _, _, _, none⟩) (v := (.bool false)) rfl (by kernel_rfl) (by kernel_rfl) (by kernel_rfl) (fun _ _ _ h => h) (Or.inl ⟨by rfl, fun W hW => ?_⟩) (by assumption) ?_
    · go_simp
    simp only [Act.put, List.setIfInBounds_toArray, List.set_cons_zero, List.set_cons_succ]
    refine wpAnyH_ready (rs := [9]) (by kernel_rfl) (by simp) (AllReadyH.cons rfl (fun KK hKK => ?_) AllReadyH.nil)
    go_simp
    refine hKK.out _ _ ((by assumption : Below w1.heap.size w1 w1.drew).alloc (Nat.le_refl _) _) (fun hHeld => ?_)
    clear hKK KK
    try simp only [Act.put, List.setIfInBounds_toArray, List.set_cons_zero, List.set_cons_succ]
    refine wpAnyH_ready (rs := [10]) (by kernel_rfl) (by simp) (AllReadyH.cons rfl (fun KK hKK => ?_) AllReadyH.nil)
    go_simp
    refine hKK.out _ _ (by first | exact (hHeld.setCell (Nat.le_refl _) _).setCell (Nat.le_refl _) _ | exact below_dr ((Below.refl _ w1).alloc (Nat.le_refl _) _) 1) (fun hHeld => ?_)
    clear hKK KK
    try simp only [Act.put, List.setIfInBounds_toArray, List.set_cons_zero, List.set_cons_succ]
    refine wpAnyH_take (i := 11) (oi := ⟨some 7, .assign (.tmp 16), _, _, _, none⟩) (v := (.bool false)) rfl (by kernel_rfl) (by kernel_rfl) (by kernel_rfl) (fun _ _ _ h => h) (Or.inl ⟨by rfl, fun W hW => ?_⟩) (by assumption) ?_
    · go_simp
    simp only [Act.put, List.setIfInBounds_toArray, List.set_cons_zero, List.set_cons_succ]
    refine wpAnyH_done (by kernel_rfl) ?_ _
    have HB3 := Lib.hid (HAL.out.trans (hHeld.mono (Nat.le_of_lt hsz)))
    clear hHeld
    go_wp2
    go_ret2
    exact Or.inl ⟨HM.out, rfl, HB3.out⟩
end Go.Proofs.YtjnfghhochcpaaaGreat

namespace Go.Proofs.YtjnfghhochcpaaaGreat
open Go.RowKit Go.Shelf Go.Maps

/-- one block has turned. -/
structure Only (g : Nat) (w w' : World) : Prop where
  os : w'.os = w.os
  tape : w'.tape = w.tape
  output : w'.output = w.output
  size : w'.heap.size = w.heap.size
  block : ∀ k, k ≠ g → w'.heap[k]? = w.heap[k]?
theorem Only.below {g B : Nat} {w w' : World} (h : Only g w w') (hg : B ≤ g) : Below B w w' := ⟨h.os, h.tape, h.output, Nat.le_of_eq h.size.symm, fun k hk => h.block k (by omega)⟩
theorem Only.grown {g : Nat} {w w' : World} (h : Only g w w') : w.grownBy w' (some g) := ⟨h.os, h.tape, h.output, Nat.le_of_eq h.size.symm, fun k _ hk => h.block k (fun e => hk (by rw [e]))⟩
theorem only_row (w : World) (g : Nat) (cs : Array Value) : Only g w (w.setRow g cs) := ⟨rfl, rfl, rfl, by simp, fun k hk => setRow_other w g k cs hk⟩
theorem key_info (K : Int) (f : Nat → Int) : (Tryz.prog.info? 98).map (·.size) = some (kc K f).size := by rw [kc_size]; kernel_rfl
theorem key_ones (K : Int) (f : Nat → Int) : (kc K f).all (·.oneCell') = true := by
  refine Array.all_eq_true_iff_forall_mem.2 fun v hv => ?_
  have hv : v ∈ kcl K f := by simpa [kc] using hv
  rcases List.mem_cons.1 hv with rfl | hv
  · rfl
  · obtain ⟨i, _, rfl⟩ := List.mem_map.1 hv; rfl
/-- a key stored, as a step of the list, and of a region that draws. -/
theorem wp_store_key {o : Oper} {a : Act} {w : World} {K' : Act → World → Prop} {Q : Exit → Act → World → Prop} (x y : Operand) (ho : o.op = .store 98 x y) (g : Nat) (hx : a.eval x = .pointer (some ⟨g, 0, none⟩)) (K : Int) (f : Nat → Int) (hy : a.eval y = .agg (kc K f))
    (K0 : Int) (f0 : Nat → Int) (hg : w.heap[g]? = some (.cells (kc K0 f0) 98 (0, 0))) (h : ∀ W', Only g w W' → W'.heap[g]? = some (.cells (kc K f) 98 (0, 0)) → K' (a.put o.dst undef) W') : o.wp Tryz.prog a w K' Q :=
  wp_store_row _ x y ho g (kc K f) hx hy _ (kc K0 f0) hg (key_info K f) (by rw [kc_size, kc_size]) (key_ones K f) (h _ (only_row _ _ _) (setRow_heap w g _ _ _ _ hg))
theorem wpList_store_key {ops : Array Oper} {rest : List Oper} {o : Oper} {a : Act} {w : World} {Q : Exit → Act → World → Prop} (hgd : o.guard = none) (x y : Operand) (ho : o.op = .store 98 x y) (g : Nat) (hx : a.eval x = .pointer (some ⟨g, 0, none⟩)) (K : Int) (f : Nat → Int) (hy : a.eval y = .agg (kc K f))
    (K0 : Int) (f0 : Nat → Int) (hg : w.heap[g]? = some (.cells (kc K0 f0) 98 (0, 0))) (h : ∀ W', Only g w W' → W'.heap[g]? = some (.cells (kc K f) 98 (0, 0)) → wpList Tryz.prog ops Q rest (a.put o.dst undef) W') : wpList Tryz.prog ops Q (o :: rest) a w :=
  wpList_plain hgd fun _ hK => wp_store_key x y ho g hx K f hy K0 f0 hg (fun W' h1 h2 => hK _ _ (h W' h1 h2))
theorem step_store_key {ops : Array Oper} {o : Oper} {a : Act} {w : World} {K' : Act → World → Prop} {Q : Exit → Act → World → Prop} {E : Prop} (hgd : o.guard = none) (x y : Operand) (ho : o.op = .store 98 x y) (g : Nat) (hx : a.eval x = .pointer (some ⟨g, 0, none⟩)) (K : Int) (f : Nat → Int) (hy : a.eval y = .agg (kc K f))
    (K0 : Int) (f0 : Nat → Int) (hg : w.heap[g]? = some (.cells (kc K0 f0) 98 (0, 0))) (h : ∀ W', Only g w W' → W'.heap[g]? = some (.cells (kc K f) 98 (0, 0)) → K' (a.put o.dst undef) W') : if Region.wanted o (yielded ops a.tmps) = true then Oper.wp Tryz.prog o a w K' Q else E := by
  have hw : Region.wanted o (yielded ops a.tmps) = true := by simp [Region.wanted, hgd]
  rw [if_pos hw]
  exact wp_store_key x y ho g hx K f hy K0 f0 hg h

set_option maxRecDepth 100000 in
/-- every key has a key's cells. -/
theorem key_agg {key : Value} {kl : Lit} (h : keyOf Tryz.prog 98 key = some kl) : ∃ x : Array Value, key = .agg x := by
  unfold keyOf at h
  rw [Tryz.underlying98] at h
  simp only at h
  split at h
  · rename_i hc
    rw [Bool.and_eq_true] at hc
    have hf := hc.2
    cases key <;> simp [Value.formed, Tryz.underlying98] at hf
    exact ⟨_, rfl⟩
  · cases h
theorem sv_inj {x y : Tv} (h : sv x = sv y) : x = y := by
  unfold sv at h
  simp only [Value.agg.injEq, Array.mk.injEq, List.cons.injEq, Value.slice.injEq, Value.int.injEq, and_true, true_and] at h
  obtain ⟨⟨h1, h2, h3⟩, h4⟩ := h
  rcases x with ⟨a, b, c, d⟩; rcases y with ⟨a', b', c', d'⟩
  simp only at h1 h2 h3 h4
  rw [h1, h2, h3, h4]

/-- keys of numbers. -/
def Kok (L : List Lit) : Prop := ∀ kl, kl ∈ L → ∃ K f, KeyOk K f ∧ kl = klOf K f
/-- the key that was used longest ago. -/
def OldSays (L : List Lit) (T : Lit → Tv) (w : World) (e : Ending) (w' : World) : Prop := ∃ K f, e = .returned (.agg (kc K f)) ∧ KeyOk K f ∧ klOf K f ∈ L ∧ (∀ y, y ∈ L → (T (klOf K f)).2.2.2 ≤ (T y).2.2.2) ∧ Below w.heap.size w w'
def OldRel (w : World) (b r : Nat) (L : List Lit) (T : Lit → Tv) (D : DataW Value) (tp : Int) (v : Value) (wr : World) (left : Lit → Bool) (cnt : Nat) (ls : Int) (K : Int) (f : Nat → Int) : Prop :=
  v = .int .i64 ls ∧ wr.ranges Tryz.prog 98 Rv b r L.length D left cnt ∧ (∀ kl, left kl = true → kl ∈ L) ∧ (∀ kl, kl ∈ L → left kl = false → ls ≤ (T kl).2.2.2) ∧ ls ≤ tp ∧
    wr.heap[w.heap.size + 1]? = some (.cells (kc K f) 98 (0, 0)) ∧ (ls = tp ∨ (KeyOk K f ∧ klOf K f ∈ L ∧ (T (klOf K f)).2.2.2 = ls)) ∧ wr.heap[w.heap.size]? = some (.cells (kc 0 fun _ => 0) 98 (0, 0)) ∧ Below w.heap.size w wr

set_option maxHeartbeats 2000000 in
set_option maxRecDepth 100000 in
theorem soldest_any (s b room : Nat) (hi mi tp : Int) (L : List Lit) (T : Lit → Tv) (hk : Kok L) (hL : L ≠ []) (h1 : 0 ≤ hi) (h2 : 0 ≤ mi) (h3 : hi + mi ≤ 1000000000000) (h4 : tp < hi + mi) (w : World) (h : Sh w s b room hi mi tp L T) :
    Calls Tryz.prog 102 #[.pointer (some ⟨s, 0, none⟩)] w (OldSays L T w) := by
  have hzk : ∀ w, (zeroValue 98).run Tryz.prog w = .ok (.agg kzero) w := zero_key
  rw [kzero_eq] at hzk
  have hzs : ∀ w, (zeroValue 147).run Tryz.prog w = .ok (sv (none, 0, 0, 0)) w := zero_spot
  unfold sv at hzs
  obtain ⟨w2, hw2⟩ : ∃ w2, w2 = (w.alloc (.cells (kc 0 fun _ => 0) 98)).alloc (.cells (kc 0 fun _ => 0) 98) := ⟨_, rfl⟩
  have hb2 : Below w.heap.size w w2 := by rw [hw2]; exact ((Below.refl _ w).alloc (Nat.le_refl _) _).alloc (by simp) _
  have k2 : w2.heap[w.heap.size]? = some (.cells (kc 0 fun _ => 0) 98 (0, 0)) := by rw [hw2]; exact heap_alloc2_old w _ _
  have k3 : w2.heap[w.heap.size + 1]? = some (.cells (kc 0 fun _ => 0) 98 (0, 0)) := by rw [hw2]; exact heap_alloc2_new w _ _
  have hs2 := h.same hb2
  have c1 := hs2.c1; have c2 := hs2.c2; have c3 := hs2.c3
  have hadd : IntKind.i64.wrap (hi + mi) = hi + mi := IntWalk.i64_in _ (by omega)
  obtain ⟨D, ho2, hd2⟩ := hs2.map
  have HO2 := Lib.hid (show w2.drew.ownsMap Tryz.prog 98 Rv b L.length D from ho2); have HD := Lib.hid hd2
  have HBL := Lib.hid h.map.lt
  have HLT := Lib.hid (show w.heap.size + 1 < w2.heap.size from (Array.getElem?_eq_some_iff.1 k3).1)
  have HW2 := Lib.hid hw2; have HB2 := Lib.hid hb2; have HK2 := Lib.hid k2; have HK3 := Lib.hid k3; have HS2 := Lib.hid hs2; have HKK := Lib.hid hk; have HLL := Lib.hid hL
  have HZK := Lib.hid hzk
  clear hw2 hb2 k2 k3 hs2 hk hL h ho2 hd2
  go_enter Tryz.func102, Tryz.ntmps102
  go_wp2_with fail
  rw [← HW2.out]
  go_region
  go_wp2_with (at_range; refine wpList_range_own _ rfl _ 137 rfl 98 147 key_law Tryz.underlying137 Rv b L.length D rfl HO2.out ?_; intro w0 hrg0 hg0 hs0)
  go_frame
  have HR0 := Lib.hid (show w0.ranges Tryz.prog 98 Rv b w2.heap.size L.length D (Maps.has D) (Maps.size D) from hrg0)
  have hb0 : Below w2.heap.size w2 w0 := ⟨hg0.os, hg0.tape, hg0.output, hg0.size, fun k hk => hg0.block k hk (by simp)⟩
  have HB0 := Lib.hid hb0
  have hlt2 : w.heap.size + 1 < w2.heap.size := HLT.out
  clear hrg0 hg0 hs0 hb0 c1 c2 c3
  go_loopw [4] (fun v wr => ∃ left cnt ls K f, OldRel w b w2.heap.size L T D (hi + mi) v wr left cnt ls K f) (fun _ wr => wr.rangeLeft b w2.heap.size)
  case atStart =>
    refine ⟨Maps.has D, Maps.size D, hi + mi, 0, fun _ => 0, rfl, HR0.out, fun kl hkl => ?_, fun kl hkl hf => ?_, Int.le_refl _, ?_, Or.inl rfl, ?_, HB2.out.trans (HB0.out.mono HB2.out.size)⟩
    · exact HD.out.hasIn kl hkl
    · rw [(HD.out.has kl (HD.out.key kl hkl)).2 hkl] at hf
      cases hf
    · rw [HB0.out.block _ hlt2]; exact HK3.out
    · rw [HB0.out.block _ (by omega)]; exact HK2.out
  case round =>
    obtain ⟨left, cnt, ls, K, f, rfl, hrg, hle, hdone, hls, hk3, hcand, hk2, hB⟩ := hrel
    have HRG := Lib.hid hrg; have HLE := Lib.hid hle; have HDO := Lib.hid hdone; have HK3r := Lib.hid hk3; have HCA := Lib.hid hcand; have HK2r := Lib.hid hk2; have HBr := Lib.hid hB
    have hszr := hB.size
    have hltr : w.heap.size + 1 < wr.heap.size := (Array.getElem?_eq_some_iff.1 hk3).1
    clear hrg hle hdone hk3 hcand hk2 hB
    go_wp2_with (at_next; refine wpList_next_ranges _ rfl _ rfl 98 key_law Rv Value.agg sv (fun key kl hk => key_agg hk) (fun v y hv => by obtain ⟨x, hx, _⟩ := Rv_inv hv; exact ⟨x, hx⟩) b w2.heap.size L.length D left cnt rfl HRG.out ?_ ?_)
    · intro hc0 hl0
      obtain ⟨y0, hy0⟩ : ∃ y, y ∈ L := by
        cases hLc : L with
        | nil => exact absurd hLc HLL.out
        | cons a t => exact ⟨a, by simp⟩
      have hall := fun y hy => HDO.out y hy (hl0 y)
      have hlt0 : ls < hi + mi := by
        have h5 := hall y0 hy0; have h6 := (HS2.out.top y0 hy0).2; omega
      have hca : KeyOk K f ∧ klOf K f ∈ L ∧ (T (klOf K f)).2.2.2 = ls := by
        rcases HCA.out with h5 | h5
        · omega
        · exact h5
      have HALL := Lib.hid hall; have HCC := Lib.hid hca
      clear hl0 hall hca hlt0 hy0 hc0
      go_wp2_with (first | (refine wpList_load_row rfl 98 _ rfl (w.heap.size + 1) rfl 98 (kc K f) (0, 0) _ HK3r.out Tryz.underlying98 rfl (key_info K f) ?_) | (refine wpList_store_key rfl _ _ rfl w.heap.size rfl K f rfl 0 (fun _ => 0) HK2r.out ?_; intro W' hO hk'; have HO' := Lib.hid hO; have HK' := Lib.hid hk'; clear hO hk'))
      (try simp only [Exit.inBlock, Exit.then])
      refine bodyPost_ret (results_cell_row rfl _ _ w.heap.size _ (kc K f) (0, 0) _ rfl HK'.out Tryz.underlying98 rfl (key_info K f)) rfl ?_
      exact ⟨K, f, rfl, HCC.out.1, HCC.out.2.1, fun y hy => by rw [HCC.out.2.2]; exact HALL.out y hy, HBr.out.trans (HO'.out.below (Nat.le_refl _))⟩
    · intro x ta tl tcp tu kl y1 y2 w3 cnt3 hkx hlk hRc hat hrg3 hlt3 hg3 hs3 hen
      have hklL := HLE.out kl hlk
      obtain ⟨K', f', hK', rfl⟩ := HKK.out kl hklL
      have hxx := key_law.inj hkx (klOf_eq hK')
      injection hxx with hxx
      subst hxx
      have htt : (ta, tl, tcp, tu) = T (klOf K' f') := by
        have h5 := hat .nil
        rw [HD.out.at_ _ hklL] at h5
        obtain ⟨x', hx', hy'⟩ := Rv_inv hRc
        have hy1 := congrArg Prod.fst hy'
        dsimp only at hy1
        rw [hy1] at h5
        simp only [DataW.held.injEq] at h5
        exact (sv_inj h5).symm
      have hu : (T (klOf K' f')).2.2.2 = tu := by rw [← htt]
      unfold sv at hen ⊢
      dsimp only at hen ⊢
      have hk33 : w3.heap[w.heap.size + 1]? = some (.cells (kc K f) 98 (0, 0)) := (hg3.block _ hltr (by simp; omega)).trans HK3r.out
      have hk23 : w3.heap[w.heap.size]? = some (.cells (kc 0 fun _ => 0) 98 (0, 0)) := (hg3.block _ (by omega) (by simp; omega)).trans HK2r.out
      have hB3 : Below w.heap.size w w3 := HBr.out.grown hg3 (Nat.le_of_lt (by omega)) (by intro k hk; cases hk; omega)
      have HRG3 := Lib.hid hrg3; have HK33 := Lib.hid hk33; have HK23 := Lib.hid hk23; have HB3 := Lib.hid hB3; have HU := Lib.hid hu; have HKL := Lib.hid hklL; have HKO := Lib.hid hK'
      have HLT3 := Lib.hid hlt3
      have hs3' : w.heap.size + 1 < w3.heap.size := by omega
      have hs3w : w2.heap.size < w3.heap.size := HRG3.out.lt
      have hbw : b < w.heap.size := HBL.out
      have hinf := 0
      clear hinf hs3
      clear hkx hlk hRc hat hrg3 hlt3 hg3 hk33 hk23 hB3 hu hklL hK' htt
      by_cases hc : tu < ls
      · go_wp2_with (refine wpList_store_key rfl _ _ rfl w3.heap.size rfl K' f' rfl 0 (fun _ => 0) (heap_alloc2_old w3 _ _) ?_; intro W' hO hk'; have sp' := (hO.block (w3.heap.size + 1) (by omega)).trans (heap_alloc2_new w3 _ _); have d0 := (cell_of_row W' (w3.heap.size + 1) 0 _ _ _ sp'); have d1 := (cell_of_row W' (w3.heap.size + 1) 1 _ _ _ sp'); have e0 := frozen_of_row W' (w3.heap.size + 1) 0 _ _ sp'; have e1 := frozen_of_row W' (w3.heap.size + 1) 1 _ _ sp'; have HO' := Lib.hid hO; have HK' := Lib.hid hk'; have HSP' := Lib.hid sp'; clear hO hk' sp')
        obtain ⟨w5, hw5⟩ : ∃ w5, w5 = (W'.setCell ⟨w3.heap.size + 1, 0, none⟩ (.slice ta tl tcp)).setCell ⟨w3.heap.size + 1, 1, none⟩ (.int .i64 tu) := ⟨_, rfl⟩
        have hkw : w5.heap[w3.heap.size]? = some (.cells (kc K' f') 98 (0, 0)) := by
          rw [hw5, heap_setCell_other _ _ _ _ (by show w3.heap.size ≠ w3.heap.size + 1; omega), heap_setCell_other _ _ _ _ (by show w3.heap.size ≠ w3.heap.size + 1; omega)]; exact HK'.out
        have hb5 : Below w3.heap.size w3 w5 := by
          rw [hw5]
          exact (((((Below.refl _ w3).alloc (Nat.le_refl _) _).alloc (by simp) _).trans (HO'.out.below (Nat.le_refl _))).setCell (by show w3.heap.size ≤ w3.heap.size + 1; omega) _).setCell (by show w3.heap.size ≤ w3.heap.size + 1; omega) _
        have hc5 : w5.cell? ⟨w3.heap.size + 1, 1, none⟩ = some (.int .i64 tu) := by
          have h6 : (W'.setCell ⟨w3.heap.size + 1, 0, none⟩ (.slice ta tl tcp)).cell? ⟨w3.heap.size + 1, 1, none⟩ = some (.int .i64 0) := by
            rw [World.cell?_setCell_other _ _ _ _ (by intro hh; cases hh)]; exact d1
          rw [hw5, World.cell?_setCell_same _ _ _ h6]
        have hk35 := (hb5.block _ hs3').trans HK33.out
        rw [← hw5]
        have HKW := Lib.hid (fun (W : World) (hW : W.heap[w3.heap.size]? = w5.heap[w3.heap.size]? ∧ W.heap[w3.heap.size + 1]? = w5.heap[w3.heap.size + 1]?) => hW.1.trans hkw)
        have HCW := Lib.hid (fun (W : World) (hW : W.heap[w3.heap.size]? = w5.heap[w3.heap.size]? ∧ W.heap[w3.heap.size + 1]? = w5.heap[w3.heap.size + 1]?) => (show W.cell? ⟨w3.heap.size + 1, 1, none⟩ = some (.int .i64 tu) from by rw [← hc5]; simp only [World.cell?, hW.2]))
        have HB5 := Lib.hid hb5; have HK35 := Lib.hid hk35
        clear d0 d1 e0 e1 hw5 hkw hb5 hc5 hk35 HO' HK' HSP' hen
        refine wp_region_held_drew (S := fun W => W.heap[w3.heap.size]? = w5.heap[w3.heap.size]? ∧ W.heap[w3.heap.size + 1]? = w5.heap[w3.heap.size + 1]?) (by kernel_rfl) ⟨rfl, rfl⟩ (fun hHeld => ?_)
        refine wpAnyH_take (i := 0) (oi := ⟨some 30, .load 98 (.tmp 5), _, _, _, none⟩) (v := (.agg (kc K' f'))) rfl (by kernel_rfl) (by kernel_rfl) (by kernel_rfl) (fun _ _ _ h => h) (yields_key (g := w3.heap.size) (by rfl) (fun W hW => HKW.out W hW)) (by assumption) ?_
        simp only [Act.put, List.setIfInBounds_toArray, List.set_cons_zero, List.set_cons_succ]
        refine wpAnyH_take (i := 1) (oi := ⟨some 31, .fieldAddr 147 (.tmp 6) 1, _, _, _, none⟩) (v := (.pointer (some ⟨w3.heap.size + 1, 1, none⟩))) rfl (by kernel_rfl) (by kernel_rfl) (by kernel_rfl) (fun _ _ _ h => h) (Or.inl ⟨by rfl, fun W hW => ?_⟩) (by assumption) ?_
        · go_simp
        simp only [Act.put, List.setIfInBounds_toArray, List.set_cons_zero, List.set_cons_succ]
        refine wpAnyH_take (i := 2) (oi := ⟨some 32, .load 3 (.tmp 31), _, _, _, none⟩) (v := (.int .i64 tu)) rfl (by kernel_rfl) (by kernel_rfl) (by kernel_rfl) (fun _ _ _ h => h) (Or.inl ⟨by rfl, fun W hW => ?_⟩) (by assumption) ?_
        · have := HCW.out W hW; go_simp
        simp only [Act.put, List.setIfInBounds_toArray, List.set_cons_zero, List.set_cons_succ]
        refine wpAnyH_ready (rs := [3]) (by kernel_rfl) (by simp) (AllReadyH.cons rfl (fun KK hKK => ?_) AllReadyH.nil)
        refine step_store_key rfl _ _ rfl (w.heap.size + 1) (by rfl) K' f' (by rfl) K f HK35.out ?_
        intro w6 hO6 hk6
        refine hKK.out _ _ ⟨hO6.block _ (by omega), hO6.block _ (by omega)⟩ (fun hHeld => ?_)
        clear hKK KK
        have HO6 := Lib.hid hO6; have HK6 := Lib.hid hk6
        clear hO6 hk6
        refine wpAnyH_take (i := 4) (oi := ⟨some 4, .assign (.tmp 32), _, _, _, none⟩) (v := (.int .i64 tu)) rfl (by kernel_rfl) (by kernel_rfl) (by kernel_rfl) (fun _ _ _ h => h) (Or.inl ⟨by rfl, fun W hW => ?_⟩) (by assumption) ?_
        · go_simp
        simp only [Act.put, List.setIfInBounds_toArray, List.set_cons_zero, List.set_cons_succ]
        refine wpAnyH_done (by kernel_rfl) ?_ _
        clear hHeld
        have hgr : w3.grownBy w6 (some (w.heap.size + 1)) := (show w3.grownBy w5.drew _ from grownBelow (below_dr HB5.out 1) _).trans HO6.out.grown
        have hrg6 := HRG3.out.kept hgr (by simp; omega) (by simp; omega)
        have hB6 : Below w.heap.size w w6 := (show Below w.heap.size w w5.drew from below_dr (HB3.out.trans (HB5.out.mono (Nat.le_of_lt (by omega)))) 1).trans (HO6.out.below (Nat.le_succ _))
        have hk26 : w6.heap[w.heap.size]? = some (.cells (kc 0 fun _ => 0) 98 (0, 0)) := (HO6.out.block _ (by omega)).trans ((HB5.out.block _ (by omega)).trans HK23.out)
        have HRG6 := Lib.hid hrg6; have HB6 := Lib.hid hB6; have HK26 := Lib.hid hk26
        clear hgr hrg6 hB6 hk26
        go_wp2
        go_roundw
        case rel => exact ⟨_, cnt3, tu, K', f', rfl, HRG6.out, fun kl hkl => HLE.out kl (by simp at hkl; exact hkl.1), fun kl hkl hf => by
            by_cases e : left kl = true
            · rw [e] at hf
              simp only [Bool.true_and, Bool.not_eq_false'] at hf
              rw [WideAt.sameKey_eq hf, HU.out]; exact Int.le_refl _
            · have := HDO.out kl hkl (by simpa using e); omega, by omega, HK6.out, Or.inr ⟨HKO.out, HKL.out, HU.out⟩, HK26.out, HB6.out⟩
        case measure => rw [HRG6.out.left_eq, HRG.out.left_eq]; exact HLT3.out
      · go_wp2_with (refine wpList_store_key rfl _ _ rfl w3.heap.size rfl K' f' rfl 0 (fun _ => 0) (heap_alloc2_old w3 _ _) ?_; intro W' hO hk'; have sp' := (hO.block (w3.heap.size + 1) (by omega)).trans (heap_alloc2_new w3 _ _); have d0 := (cell_of_row W' (w3.heap.size + 1) 0 _ _ _ sp'); have d1 := (cell_of_row W' (w3.heap.size + 1) 1 _ _ _ sp'); have e0 := frozen_of_row W' (w3.heap.size + 1) 0 _ _ sp'; have e1 := frozen_of_row W' (w3.heap.size + 1) 1 _ _ sp'; have HO' := Lib.hid hO; have HK' := Lib.hid hk'; have HSP' := Lib.hid sp'; clear hO hk' sp')
        obtain ⟨w5, hw5⟩ : ∃ w5, w5 = (W'.setCell ⟨w3.heap.size + 1, 0, none⟩ (.slice ta tl tcp)).setCell ⟨w3.heap.size + 1, 1, none⟩ (.int .i64 tu) := ⟨_, rfl⟩
        have hb5 : Below w3.heap.size w3 w5 := by
          rw [hw5]
          exact (((((Below.refl _ w3).alloc (Nat.le_refl _) _).alloc (by simp) _).trans (HO'.out.below (Nat.le_refl _))).setCell (by show w3.heap.size ≤ w3.heap.size + 1; omega) _).setCell (by show w3.heap.size ≤ w3.heap.size + 1; omega) _
        rw [← hw5]
        have hrg6 := HRG3.out.kept (grownBelow hb5 none) (by simp) (by simp)
        have hB6 : Below w.heap.size w w5 := HB3.out.trans (hb5.mono (by omega))
        have hk26 : w5.heap[w.heap.size]? = some (.cells (kc 0 fun _ => 0) 98 (0, 0)) := (hb5.block _ (by omega)).trans HK23.out
        have hk36 : w5.heap[w.heap.size + 1]? = some (.cells (kc K f) 98 (0, 0)) := (hb5.block _ (by omega)).trans HK33.out
        have HRG6 := Lib.hid hrg6; have HB6 := Lib.hid hB6; have HK26 := Lib.hid hk26; have HK36 := Lib.hid hk36
        clear hrg6 hB6 hk26 hk36 hb5 hw5 d0 d1 e0 e1 HO' HK' HSP' hen
        go_wp2
        go_roundw
        case rel => exact ⟨_, cnt3, ls, K, f, rfl, HRG6.out, fun kl hkl => HLE.out kl (by simp at hkl; exact hkl.1), fun kl hkl hf => by
            by_cases e : left kl = true
            · rw [e] at hf
              simp only [Bool.true_and, Bool.not_eq_false'] at hf
              rw [WideAt.sameKey_eq hf, HU.out]; omega
            · exact HDO.out kl hkl (by simpa using e), hls, HK36.out, HCA.out, HK26.out, HB6.out⟩
        case measure => rw [HRG6.out.left_eq, HRG.out.left_eq]; exact HLT3.out
end Go.Proofs.YtjnfghhochcpaaaGreat

namespace Go.Proofs.YtjnfghhochcpaaaGreat
open Go.RowKit Go.Shelf Go.Maps

/-- how many things a map holds, in a region that draws. -/
theorem yields_len {ops : Array Oper} {S : World → Prop} {a : Act} {dst : Option Tmp} {typ : TypeId} {pos : String} {aft : Array Edge} {x : Operand} {b : Nat} {L : List Lit} {T : Lit → Tv} (hx : a.eval x = .map (some b)) (hS : ∀ W, S W → Mp W b L T) :
    YieldsIf Tryz.prog ops S ⟨dst, .call { callee := Callee.builtin Builtin.len, args := #[x], argTypes := #[137] }, typ, pos, aft, none⟩ (.int .i64 (L.length : Nat)) a := Or.inl ⟨by simp [Region.wanted], fun W hW => by
  have h := (hS W hW).len typ
  simp [execOp, resolve, invoke, builtin, hx, h, Result.andThen]⟩
/-- a key struck, as a step of a region that draws. -/
theorem step_del {ops : Array Oper} {o : Oper} {a : Act} {w : World} {K : Act → World → Prop} {Q : Exit → Act → World → Prop} {E : Prop} (hg : o.guard = none) (m x : Operand) (t k : TypeId) (hop : o.op = Op.call { callee := Callee.builtin Builtin.delete, args := #[m, x], argTypes := #[t, k] }) (mv key : Value)
    (hm : a.eval m = mv) (hx : a.eval x = key) (w' : World) (hr : (Builtin.delete_ #[t, k] o.type #[mv, key]).run Tryz.prog w = .ok (.tuple #[]) w') (hK : K (a.put o.dst (.tuple #[])) w') :
    if Region.wanted o (yielded ops a.tmps) = true then Oper.wp Tryz.prog o a w K Q else E := by
  have hw : Region.wanted o (yielded ops a.tmps) = true := by simp [Region.wanted, hg]
  rw [if_pos hw]
  unfold Oper.wp
  simp [execOp, hop, resolve, invoke, builtin, hm, hx, hr, Result.andThen]
  exact hK
theorem Sh.del {w w' : World} {s b room : Nat} {hi mi tp : Int} {L : List Lit} {T : Lit → Tv} {k : Lit} (h : Sh w s b room hi mi tp L T) (hm : Mp w' b (out L k) T) (ht : w.mapTurned w' b) : Sh w' s b room hi mi tp (out L k) T where
  blk := by rw [ht.grown.block s h.lt (fun e => h.ne (by cases e; rfl))]; exact h.blk
  map := hm
  inc := h.inc.filter _
  top y hy := h.top y (mem_out.1 hy).1
  room := ⟨Nat.le_trans (List.length_filter_le _ _) h.room.1, h.room.2⟩
/-- what is left where there is no room. -/
def dropL (room : Nat) (L : List Lit) : List Lit := if L.length = room then L.tail else L
theorem out_first {L : List Lit} {T : Lit → Tv} {k : Lit} (h : L.Pairwise fun x y => (T x).2.2.2 < (T y).2.2.2) (hk : k ∈ L) (hm : ∀ y, y ∈ L → (T k).2.2.2 ≤ (T y).2.2.2) : out L k = L.tail := by
  cases L with
  | nil => cases hk
  | cons a t =>
    obtain ⟨h1, h2⟩ := List.pairwise_cons.1 h
    have e : a = k := by
      rcases List.mem_cons.1 hk with e | e
      · exact e.symm
      · have h3 := h1 k e; have h4 := hm a (by simp); omega
    subst e
    have : out (a :: t) a = out t a := by simp [out]
    rw [this, out_no (fun hh => by have := h1 a hh; omega)]; rfl

/-- what a put leaves. -/
def PutSays (s b room : Nat) (hi mi : Int) (L : List Lit) (T : Lit → Tv) (k : Lit) (a : Option Addr) (l c : Nat) (w : World) (e : Ending) (w' : World) : Prop :=
  e = .returned (.tuple #[]) ∧ Sh w' s b room hi (mi + 1) (hi + (mi + 1)) (dropL room L ++ [k]) (onT T k (a, l, c, hi + (mi + 1))) ∧ But s b w w'

set_option maxHeartbeats 2000000 in
set_option maxRecDepth 100000 in
theorem sput_any (s b room : Nat) (hi mi : Int) (L : List Lit) (T : Lit → Tv) (K : Int) (f : Nat → Int) (hK : KeyOk K f) (a : Option Addr) (l c : Nat) (hk : Kok L) (hn : klOf K f ∉ L) (h1 : 0 ≤ hi) (h2 : 0 ≤ mi) (h3 : hi + mi ≤ 100000000000) (w : World) (h : Sh w s b room hi mi (hi + mi) L T) :
    Calls Tryz.prog 84 #[.pointer (some ⟨s, 0, none⟩), .agg (kc K f), .slice a l c] w (PutSays s b room hi mi L T (klOf K f) a l c w) := by
  have hal : Below w.heap.size w (w.alloc (.cells (kc K f) 98)) := (Below.refl _ w).alloc (Nat.le_refl _) _
  have c3 := (h.same hal).c3
  have f3 := (h.same hal).free 3
  have hadd : IntKind.i64.wrap (mi + 1) = mi + 1 := IntWalk.i64_in _ (by omega)
  have hslt := h.lt; have hblt := h.map.lt
  obtain ⟨w2, hw2⟩ : ∃ w2, w2 = (w.setCell ⟨s, 3, none⟩ (.int .i64 (mi + 1))).alloc (.cells (kc K f) 98) := ⟨_, rfl⟩
  have hal2 : Below w.heap.size (w.setCell ⟨s, 3, none⟩ (.int .i64 (mi + 1))) w2 := by rw [hw2]; exact (Below.refl _ _).alloc (by simp) _
  have hs2 : Sh w2 s b room hi (mi + 1) (hi + mi) L T := (h.setMi (mi + 1)).same (hal2.mono (by simp))
  have hk2 : w2.heap[w.heap.size]? = some (.cells (kc K f) 98 (0, 0)) := by
    rw [hw2]
    have := heap_alloc_new (w.setCell ⟨s, 3, none⟩ (.int .i64 (mi + 1))) (.cells (kc K f) 98)
    simpa using this
  have hb2 : But s b w w2 := (but_set w).trans (But.of (hal2.mono (by simp)))
  have HW2 := Lib.hid hw2; have HKK := Lib.hid hk; have HN := Lib.hid hn
  have HC0 := Lib.hid (fun (W : World) (hW : Below w2.heap.size w2 W) => (hs2.same hW).c0)
  have HC1 := Lib.hid (fun (W : World) (hW : Below w2.heap.size w2 W) => (hs2.same hW).c1)
  have HM := Lib.hid (fun (W : World) (hW : Below w2.heap.size w2 W) => (hs2.same hW).map)
  have HS2 := Lib.hid hs2; have HK2 := Lib.hid hk2; have HB2 := Lib.hid hb2
  have hrm := hs2.room
  clear hal h hk hn hw2 hal2 hs2 hk2 hb2
  go_enter Tryz.func84, Tryz.ntmps84
  go_wp2_with fail
  rw [← HW2.out]
  clear c3 f3
  refine wp_region_held_drew (S := fun W => Below w2.heap.size w2 W) (by kernel_rfl) (below_dr (Below.refl _ w2) 1) (fun hHeld => ?_)
  refine wpAnyH_take (i := 0) (oi := ⟨some 13, .move (.tmp 0), _, _, _, none⟩) (v := (.pointer (some ⟨s, 0, none⟩))) rfl (by kernel_rfl) (by kernel_rfl) (by kernel_rfl) (fun _ _ _ h => h) (Or.inl ⟨by rfl, fun W hW => ?_⟩) (by assumption) ?_
  · go_simp
  simp only [Act.put, List.setIfInBounds_toArray, List.set_cons_zero, List.set_cons_succ]
  refine wpAnyH_take (i := 1) (oi := ⟨some 14, .nilCheck (.tmp 13), _, _, _, none⟩) (v := (.pointer (some ⟨s, 0, none⟩))) rfl (by kernel_rfl) (by kernel_rfl) (by kernel_rfl) (fun _ _ _ h => h) (Or.inl ⟨by rfl, fun W hW => ?_⟩) (by assumption) ?_
  · go_simp
  simp only [Act.put, List.setIfInBounds_toArray, List.set_cons_zero, List.set_cons_succ]
  refine wpAnyH_take (i := 2) (oi := ⟨some 15, .fieldAddr 139 (.tmp 14) 1, _, _, _, none⟩) (v := (.pointer (some ⟨s, 1, none⟩))) rfl (by kernel_rfl) (by kernel_rfl) (by kernel_rfl) (fun _ _ _ h => h) (Or.inl ⟨by rfl, fun W hW => ?_⟩) (by assumption) ?_
  · go_simp
  simp only [Act.put, List.setIfInBounds_toArray, List.set_cons_zero, List.set_cons_succ]
  refine wpAnyH_take (i := 3) (oi := ⟨some 16, .load 137 (.tmp 15), _, _, _, none⟩) (v := (.map (some b))) rfl (by kernel_rfl) (by kernel_rfl) (by kernel_rfl) (fun _ _ _ h => h) (Or.inl ⟨by rfl, fun W hW => ?_⟩) (by assumption) ?_
  · have := HC1.out W hW; go_simp
  simp only [Act.put, List.setIfInBounds_toArray, List.set_cons_zero, List.set_cons_succ]
  refine wpAnyH_take (i := 4) (oi := ⟨some 17, .call { callee := Callee.builtin Builtin.len, args := #[.tmp 16], argTypes := #[137] }, _, _, _, none⟩) (v := (.int .i64 (L.length : Nat))) rfl (by kernel_rfl) (by kernel_rfl) (by kernel_rfl) (fun _ _ _ h => h) (yields_len (T := T) (by rfl) (fun W hW => HM.out W hW)) (by assumption) ?_
  simp only [Act.put, List.setIfInBounds_toArray, List.set_cons_zero, List.set_cons_succ]
  refine wpAnyH_take (i := 5) (oi := ⟨some 18, .move (.tmp 0), _, _, _, none⟩) (v := (.pointer (some ⟨s, 0, none⟩))) rfl (by kernel_rfl) (by kernel_rfl) (by kernel_rfl) (fun _ _ _ h => h) (Or.inl ⟨by rfl, fun W hW => ?_⟩) (by assumption) ?_
  · go_simp
  simp only [Act.put, List.setIfInBounds_toArray, List.set_cons_zero, List.set_cons_succ]
  refine wpAnyH_take (i := 6) (oi := ⟨some 19, .nilCheck (.tmp 18), _, _, _, none⟩) (v := (.pointer (some ⟨s, 0, none⟩))) rfl (by kernel_rfl) (by kernel_rfl) (by kernel_rfl) (fun _ _ _ h => h) (Or.inl ⟨by rfl, fun W hW => ?_⟩) (by assumption) ?_
  · go_simp
  simp only [Act.put, List.setIfInBounds_toArray, List.set_cons_zero, List.set_cons_succ]
  refine wpAnyH_take (i := 7) (oi := ⟨some 20, .fieldAddr 139 (.tmp 19) 0, _, _, _, none⟩) (v := (.pointer (some ⟨s, 0, none⟩))) rfl (by kernel_rfl) (by kernel_rfl) (by kernel_rfl) (fun _ _ _ h => h) (Or.inl ⟨by rfl, fun W hW => ?_⟩) (by assumption) ?_
  · go_simp
  simp only [Act.put, List.setIfInBounds_toArray, List.set_cons_zero, List.set_cons_succ]
  refine wpAnyH_take (i := 8) (oi := ⟨some 21, .load 3 (.tmp 20), _, _, _, none⟩) (v := (.int .i64 (room : Nat))) rfl (by kernel_rfl) (by kernel_rfl) (by kernel_rfl) (fun _ _ _ h => h) (Or.inl ⟨by rfl, fun W hW => ?_⟩) (by assumption) ?_
  · have := HC0.out W hW; go_simp
  simp only [Act.put, List.setIfInBounds_toArray, List.set_cons_zero, List.set_cons_succ]
  refine wpAnyH_take (i := 9) (oi := ⟨some 22, .binOp .eql 3 (.tmp 17) (.tmp 21) 3, _, _, _, none⟩) (v := (.bool ((L.length : Int) == (room : Int)))) rfl (by kernel_rfl) (by kernel_rfl) (by kernel_rfl) (fun _ _ _ h => h) (Or.inl ⟨by rfl, fun W hW => ?_⟩) (by assumption) ?_
  · go_simp
  simp only [Act.put, List.setIfInBounds_toArray, List.set_cons_zero, List.set_cons_succ]
  refine wpAnyH_done (by kernel_rfl) ?_ _
  clear hHeld
  obtain ⟨w3, hw3⟩ : ∃ w3, w3 = w2.drew := ⟨_, rfl⟩
  rw [← hw3]
  have hb3 : Below w2.heap.size w2 w3 := by rw [hw3]; exact below_dr (Below.refl _ w2) 1
  have HS3 := Lib.hid (HS2.out.same hb3); have HB3 := Lib.hid (HB2.out.trans (But.of hb3))
  have hlt2 : w.heap.size < w2.heap.size := (Array.getElem?_eq_some_iff.1 HK2.out).1
  have HK3 := Lib.hid ((hb3.block _ hlt2).trans HK2.out)
  clear hw3 hb3
  by_cases hroom : L.length = room
  · have g1 : ((L.length : Int) == (room : Int)) = true := by simp [hroom]
    have HR := Lib.hid hroom; clear hroom
    go_wp2_with fail
    have HCW := Lib.hid (fun (W : World) (hW : W.heap[s]? = w3.heap[s]?) => (show W.cell? ⟨s, 1, none⟩ = some (.map (some b)) from by rw [cell_of_row W s 1 _ _ _ (hW.trans HS3.out.blk)]; rfl))
    have hL : L ≠ [] := by
      intro e
      have := HR.out
      rw [e] at this
      simp at this; omega
    have HLN := Lib.hid hL; clear hL
    refine wp_region_held_drew (S := fun W => W.heap[s]? = w3.heap[s]?) (by kernel_rfl) rfl (fun hHeld => ?_)
    refine wpAnyH_take (i := 0) (oi := ⟨some 23, .move (.tmp 0), _, _, _, none⟩) (v := (.pointer (some ⟨s, 0, none⟩))) rfl (by kernel_rfl) (by kernel_rfl) (by kernel_rfl) (fun _ _ _ h => h) (Or.inl ⟨by rfl, fun W hW => ?_⟩) (by assumption) ?_
    · go_simp
    simp only [Act.put, List.setIfInBounds_toArray, List.set_cons_zero, List.set_cons_succ]
    refine wpAnyH_take (i := 1) (oi := ⟨some 24, .nilCheck (.tmp 23), _, _, _, none⟩) (v := (.pointer (some ⟨s, 0, none⟩))) rfl (by kernel_rfl) (by kernel_rfl) (by kernel_rfl) (fun _ _ _ h => h) (Or.inl ⟨by rfl, fun W hW => ?_⟩) (by assumption) ?_
    · go_simp
    simp only [Act.put, List.setIfInBounds_toArray, List.set_cons_zero, List.set_cons_succ]
    refine wpAnyH_take (i := 2) (oi := ⟨some 25, .fieldAddr 139 (.tmp 24) 1, _, _, _, none⟩) (v := (.pointer (some ⟨s, 1, none⟩))) rfl (by kernel_rfl) (by kernel_rfl) (by kernel_rfl) (fun _ _ _ h => h) (Or.inl ⟨by rfl, fun W hW => ?_⟩) (by assumption) ?_
    · go_simp
    simp only [Act.put, List.setIfInBounds_toArray, List.set_cons_zero, List.set_cons_succ]
    refine wpAnyH_take (i := 3) (oi := ⟨some 26, .load 137 (.tmp 25), _, _, _, none⟩) (v := (.map (some b))) rfl (by kernel_rfl) (by kernel_rfl) (by kernel_rfl) (fun _ _ _ h => h) (Or.inl ⟨by rfl, fun W hW => ?_⟩) (by assumption) ?_
    · have := HCW.out W hW; go_simp
    simp only [Act.put, List.setIfInBounds_toArray, List.set_cons_zero, List.set_cons_succ]
    refine wpAnyH_take (i := 4) (oi := ⟨some 27, .move (.tmp 0), _, _, _, none⟩) (v := (.pointer (some ⟨s, 0, none⟩))) rfl (by kernel_rfl) (by kernel_rfl) (by kernel_rfl) (fun _ _ _ h => h) (Or.inl ⟨by rfl, fun W hW => ?_⟩) (by assumption) ?_
    · go_simp
    simp only [Act.put, List.setIfInBounds_toArray, List.set_cons_zero, List.set_cons_succ]
    refine wpAnyH_ready (rs := [5]) (by kernel_rfl) (by simp) (AllReadyH.cons rfl (fun KK hKK => ?_) AllReadyH.nil)
    go_simp
    refine (soldest_any s b room hi (mi + 1) (hi + mi) L T HKK.out HLN.out h1 (by omega) (by omega) (by omega) _ (HS3.out.same (below_dr (Below.refl _ w3) 1))).mono ?_
    rintro e w4 ⟨K0, f0, rfl, hK0, hk0, hmin, hB4⟩
    dsimp only
    have hs4 := HS3.out.same ((below_dr (Below.refl _ w3) 1).trans hB4)
    refine hKK.out _ _ (hB4.block s HS3.out.lt) (fun hHeld => ?_)
    clear hKK KK
    obtain ⟨w5, hr5, hm5, ht5⟩ := hs4.map.del (klOf_eq hK0) 0
    have hs5 := hs4.del hm5 ht5
    have hk4 : w4.heap[w.heap.size]? = some (.cells (kc K f) 98 (0, 0)) := (hB4.block _ (Array.getElem?_eq_some_iff.1 HK3.out).1).trans HK3.out
    have hk5 : w5.heap[w.heap.size]? = some (.cells (kc K f) 98 (0, 0)) := (ht5.grown.block _ (Array.getElem?_eq_some_iff.1 hk4).1 (by simp; omega)).trans hk4
    have hb5 : But s b w w5 := HB3.out.trans ((But.of (show Below w3.heap.size w3 w4 from (below_dr (Below.refl _ w3) 1).trans hB4)).trans (But.turned ht5))
    have hout := out_first HS3.out.inc hk0 hmin
    rw [hout] at hs5
    have HS5 := Lib.hid hs5; have HK5 := Lib.hid hk5; have HB5 := Lib.hid hb5; have HR5 := Lib.hid hr5
    have HH5 := Lib.hid (show w5.heap[s]? = w3.heap[s]? from (ht5.grown.block s hs4.lt (fun e => hs4.ne (by cases e; rfl))).trans (hB4.block s HS3.out.lt))
    clear hs4 hr5 hm5 ht5 hs5 hk4 hk5 hb5 hout hB4 hK0 hk0 hmin hHeld
    refine wpAnyH_ready (rs := [6]) (by kernel_rfl) (by simp) (AllReadyH.cons rfl (fun KK hKK => ?_) AllReadyH.nil)
    refine step_del rfl _ _ _ _ rfl (.map (some b)) (.agg (kc K0 f0)) (by rfl) (by rfl) w5 HR5.out ?_
    refine hKK.out _ _ HH5.out (fun hHeld => ?_)
    clear hKK KK hHeld
    refine wpAnyH_done (by kernel_rfl) ?_ _
    have hroom2 : (out L.tail (klOf K f) ++ [klOf K f]).length ≤ room := by
      rw [out_no (fun hh => HN.out (List.mem_of_mem_tail hh)), List.length_append, List.length_singleton]
      rw [List.length_tail, HR.out]; omega
    have HLE := Lib.hid (fun hh => HN.out (List.mem_of_mem_tail hh) : klOf K f ∉ L.tail)
    go_wp2_with (refine wpList_load_row rfl 98 _ rfl w.heap.size rfl 98 (kc K f) (0, 0) _ HK5.out Tryz.underlying98 rfl (key_info K f) ?_)
    refine (suse_any s b room hi (mi + 1) (hi + mi) L.tail T K f hK a l c h1 (by omega) (by omega) (by omega) hroom2 _ HS5.out).mono ?_
    rintro e w6 ⟨rfl, hS6, hB6⟩
    have HS6 := Lib.hid hS6; have HB6 := Lib.hid (HB5.out.trans hB6)
    clear hS6 hB6
    go_wp2
    go_end0
    refine ⟨rfl, ?_, HB6.out⟩
    have h5 := HS6.out
    rw [out_no HLE.out] at h5
    unfold dropL
    rw [if_pos HR.out]
    exact h5
  · have g1 : ((L.length : Int) == (room : Int)) = false := eq_no hroom
    have HR := Lib.hid hroom; clear hroom
    have hroom2 : (out L (klOf K f) ++ [klOf K f]).length ≤ room := by
      rw [out_no (HN.out), List.length_append, List.length_singleton]
      have := HR.out; omega
    have HLE := Lib.hid (HN.out : klOf K f ∉ L)
    go_wp2_with (refine wpList_load_row rfl 98 _ rfl w.heap.size rfl 98 (kc K f) (0, 0) _ HK3.out Tryz.underlying98 rfl (key_info K f) ?_)
    refine (suse_any s b room hi (mi + 1) (hi + mi) L T K f hK a l c h1 (by omega) (by omega) (by omega) hroom2 _ HS3.out).mono ?_
    rintro e w6 ⟨rfl, hS6, hB6⟩
    have HS6 := Lib.hid hS6; have HB6 := Lib.hid (HB3.out.trans hB6)
    clear hS6 hB6
    go_wp2
    go_end0
    refine ⟨rfl, ?_, HB6.out⟩
    have h5 := HS6.out
    rw [out_no HLE.out] at h5
    unfold dropL
    rw [if_neg HR.out]
    exact h5
end Go.Proofs.YtjnfghhochcpaaaGreat

namespace Go.Proofs.YtjnfghhochcpaaaGreat
open Go.RowKit Go.Shelf Go.Maps

theorem built_key (K : Int) : Tryz.prog.built 98 [(0, .int .i64 K)] = some (kc K fun _ => 0) := by kernel_rfl
theorem built_none : Tryz.prog.built 98 [] = some (kc 0 fun _ => 0) := by kernel_rfl
theorem wpList_build_key {ops : Array Oper} {rest : List Oper} {o : Oper} {a : Act} {w : World} {Q : Exit → Act → World → Prop} (hgd : o.guard = none) (x : Operand) (ho : o.op = .build 98 #[(0, x)]) (K : Int) (hx : a.eval x = .int .i64 K)
    (h : wpList Tryz.prog ops Q rest (a.put o.dst (.agg (kc K fun _ => 0))) w) : wpList Tryz.prog ops Q (o :: rest) a w :=
  wpList_plain hgd fun K' hK => by
    unfold Oper.wp execOp
    have hr := run_build (P := Tryz.prog) w 98 #[(0, .int .i64 K)] (kc K fun _ => 0) (built_key K)
    simp only [ho, List.map_toArray, List.map_cons, List.map_nil, hx, Sem.run_bind, hr, Result.andThen_ok]
    exact hK _ _ h
theorem wpList_build_none {ops : Array Oper} {rest : List Oper} {o : Oper} {a : Act} {w : World} {Q : Exit → Act → World → Prop} (hgd : o.guard = none) (ho : o.op = .build 98 #[])
    (h : wpList Tryz.prog ops Q rest (a.put o.dst (.agg (kc 0 fun _ => 0))) w) : wpList Tryz.prog ops Q (o :: rest) a w :=
  wpList_plain hgd fun K' hK => by
    unfold Oper.wp execOp
    have hr := run_build (P := Tryz.prog) w 98 #[] (kc 0 fun _ => 0) built_none
    simp only [ho, List.map_toArray, List.map_nil, Sem.run_bind, hr, Result.andThen_ok]
    exact hK _ _ h

/-- the first indexes, as a key has them. -/
def ky (k : Nat) (h : Nat → Int) (i : Nat) : Int := if i < k then h i else 0
/-- a key that there is. -/
def GoodK (K : Int) (m : Nat) (h : Nat → Int) : Prop := 1 ≤ K ∧ K ≤ 255 ∧ K ≤ m ∧ ∀ i : Nat, (i : Int) < K → 0 ≤ h i ∧ h i < 255
theorem good_ok {k m : Nat} {h : Nat → Int} (g : GoodK (k : Nat) m h) : KeyOk (k : Nat) (ky k h) := ⟨⟨by have := g.1; omega, g.2.1⟩, fun i _ => by
  unfold ky; split
  · have := g.2.2.2 i (by omega); omega
  · omega⟩
theorem kc_set {K : Int} {f f' : Nat → Int} {t : Nat} {v : Int} (ht : t < 255) (hv : f' t = v) (ho : ∀ i, i ≠ t → f' i = f i) : (kc K f).setIfInBounds (1 + t) (.int .u8 v) = kc K f' := by
  refine Array.ext_getElem? fun j => ?_
  rw [Array.getElem?_setIfInBounds]
  rcases j with _ | j
  · rw [if_neg (by omega), kc_0, kc_0]
  · by_cases e : j = t
    · subst e
      rw [if_pos (by omega), if_pos (by rw [kc_size]; omega), kc_s _ _ ht, hv]
    · rw [if_neg (by omega)]
      by_cases hj : j < 255
      · rw [kc_s _ _ hj, kc_s _ _ hj, ho j e]
      · rw [Array.getElem?_eq_none (by rw [kc_size]; omega), Array.getElem?_eq_none (by rw [kc_size]; omega)]
/-- what keyOf answers. -/
def KeySays (K : Int) (m : Nat) (h : Nat → Int) (w : World) (e : Ending) (w' : World) : Prop :=
  ((¬ GoodK K m h ∧ e = .returned (.tuple #[.agg (kc 0 fun _ => 0), .bool false])) ∨ (GoodK K m h ∧ e = .returned (.tuple #[.agg (kc K (ky K.toNat h)), .bool true]))) ∧ Below w.heap.size w w'

theorem results_key_two {fn : Func} {p q : Tmp} (h : fn.results = #[.cell p 98, .tmp q]) (tmps : Array Value) (w : World) (g : Nat) (K : Int) (f : Nat → Int)
    (hp : tmps.getD p undef = .pointer (some ⟨g, 0, none⟩)) (hg : w.heap[g]? = some (.cells (kc K f) 98 (0, 0))) : (results fn tmps).run Tryz.prog w = .ok (.tuple #[.agg (kc K f), tmps.getD q undef]) w := by
  have hp' : tmps[p]?.getD undef = .pointer (some ⟨g, 0, none⟩) := by simpa using hp
  have hr := run_loadVar_row (P := Tryz.prog) w g _ _ (kc K f) (0, 0) _ hg Tryz.underlying98 rfl (key_info K f)
  simp [results, h, hp', asAddr, hr]

set_option maxHeartbeats 2000000 in
set_option maxRecDepth 100000 in
theorem keyOf_any (K : Int) (a : Option Addr) (m cap : Nat) (h : Nat → Int) (hm : m ≤ 1000000000000) (hmc : m ≤ cap) (hcm : cap ≤ maxLen) (w : World) (hS : Si w a m h) :
    Calls Tryz.prog 59 #[.int .i64 K, .slice a m cap] w (KeySays K m h w) := by
  have hzk : ∀ w, (zeroValue 98).run Tryz.prog w = .ok (.agg kzero) w := zero_key
  rw [kzero_eq] at hzk
  obtain ⟨w1, hw1⟩ : ∃ w1, w1 = w.alloc (.cells (kc 0 fun _ => 0) 98) := ⟨_, rfl⟩
  have hal : Below w.heap.size w w1 := by rw [hw1]; exact (Below.refl _ w).alloc (Nat.le_refl _) _
  have hk1 : w1.heap[w.heap.size]? = some (.cells (kc 0 fun _ => 0) 98 (0, 0)) := by rw [hw1]; exact heap_alloc_new _ _
  have HW1 := Lib.hid hw1; have HAL := Lib.hid hal; have HK1 := Lib.hid hk1; have HS := Lib.hid hS
  have hsz : w.heap.size < w1.heap.size := (Array.getElem?_eq_some_iff.1 hk1).1
  have hkw0 : (w.alloc (.cells (kc 0 fun _ => 0) 98)).heap[w.heap.size]? = some (.cells (kc 0 fun _ => 0) 98 (0, 0)) := heap_alloc_new _ _
  have HKW := Lib.hid hkw0
  clear hw1 hal hk1 hS hkw0
  by_cases hb : 1 ≤ K ∧ K ≤ 255 ∧ K ≤ m
  · obtain ⟨k, rfl⟩ : ∃ k : Nat, K = (k : Nat) := ⟨K.toNat, by omega⟩
    have i1 : ¬ (k : Int) < 1 := by omega
    have i2 : ¬ (255 : Int) < (k : Int) := by omega
    have i3 : ¬ (m : Int) < (k : Int) := by omega
    have i4 : k ≤ m := by omega
    have i5 : k ≤ cap := by omega
    have i6 : (k : Int) ≤ (cap : Int) := by omega
    have i7 : (0 : Int) ≤ (k : Int) := by omega
    have i8 : 1 ≤ k := by omega
    unfold maxLen at hcm
    go_enter Tryz.func59, Tryz.ntmps59
    go_wp2_with (first | (refine wpList_build_key rfl _ rfl (k : Nat) rfl ?_) | (refine wpList_store_key rfl _ _ rfl (w.heap.size + 1) rfl (k : Nat) (fun _ => 0) rfl 0 (fun _ => 0) (heap_alloc2_new w _ _) ?_; intro W' hO hk'; have HO := Lib.hid hO; have HK' := Lib.hid hk'; clear hO hk'))
    have hkr : w.heap.size < W'.heap.size := by rw [HO.out.size]; simp; omega
    have HR1 := Lib.hid (show W'.heap[w.heap.size]? = some (.cells (kc 0 fun _ => 0) 98 (0, 0)) from (HO.out.block _ (by omega)).trans (heap_alloc2_old w _ _))
    have HM1 := Lib.hid (show W'.heap[w.heap.size + 1]? = some (.cells (kc (k : Nat) (ky 0 h)) 98 (0, 0)) from HK'.out)
    have HB1 := Lib.hid (show Below w.heap.size w W' from (((Below.refl _ w).alloc (Nat.le_refl _) _).alloc (by simp) _).trans (HO.out.below (Nat.le_succ _)))
    clear HO HK'
    go_loopw [28] (fun i wr => ∃ t : Nat, t ≤ k ∧ i = .int .i64 t ∧ (∀ j, j < t → 0 ≤ h j ∧ h j < 255) ∧ wr.heap[w.heap.size]? = some (.cells (kc 0 fun _ => 0) 98 (0, 0)) ∧ wr.heap[w.heap.size + 1]? = some (.cells (kc (k : Nat) (ky t h)) 98 (0, 0)) ∧ Below w.heap.size w wr) (fun i _ => k - (intOf i).toNat)
    case atStart => exact ⟨0, by omega, rfl, fun j hj => absurd hj (Nat.not_lt_zero j), HR1.out, HM1.out, HB1.out⟩
    case round =>
      clear HR1 HM1 HB1
      obtain ⟨t, ht, rfl, hin, hr, hmd, hB⟩ := hrel
      have HIN := Lib.hid hin; have HR := Lib.hid hr; have HM := Lib.hid hmd; have HB := Lib.hid hB
      by_cases htk : t < k
      · obtain ⟨ab, ao, ea, hca⟩ := (HS.out.same hB).cell t (by omega)
        have EA := Lib.hid (show a = some ⟨ab, ao, none⟩ from ea)
        have j1 : (t : Int) < (k : Int) := by omega
        have hcs := cell_of_row wr (w.heap.size + 1) (1 + t) _ _ _ hmd
        have hfs := frozen_of_row wr (w.heap.size + 1) (1 + t) _ _ hmd
        rw [Nat.add_comm 1 t, kc_s _ _ (show t < 255 by omega), Nat.add_comm t 1] at hcs
        have j2 : (t : Int) < 255 := by omega
        subst ea
        clear hin hr hmd hB
        by_cases hlo : 0 ≤ h t ∧ h t < 255
        · have j3 : ¬ h t < 0 := by omega
          have j4 : ¬ 255 ≤ h t := by omega
          have j5 : IntKind.u8.wrap (h t) = h t := IntWalk.u8_in _ (by omega)
          have HLO := Lib.hid hlo
          clear hlo
          go_wp2
          go_roundw
          case rel => exact ⟨t + 1, by omega, by go_num, fun j hj => by
            by_cases e : j = t
            · rw [e]; exact HLO.out
            · exact HIN.out j (by omega), by rw [heap_setCell_other _ _ _ _ (by show w.heap.size ≠ w.heap.size + 1; omega)]; exact HR.out, by
            rw [heap_setCell_same _ _ _ _ _ _ HM.out, kc_set (by omega) (show ky (t + 1) h t = h t by unfold ky; rw [if_pos (by omega)]) (fun i hi => by
              unfold ky
              by_cases c : i < t
              · rw [if_pos c, if_pos (by omega)]
              · rw [if_neg c, if_neg (by omega)])], HB.out.setCell (p := ⟨w.heap.size + 1, 1 + t, none⟩) (Nat.le_succ _) _⟩
          case measure => simp [intOf]; omega
        · have HBAD := Lib.hid (show ¬ GoodK (k : Nat) m h from fun g => hlo (g.2.2.2 t j1))
          by_cases hneg : h t < 0
          · clear hlo
            go_wp2_with (first | (refine wpList_build_none rfl rfl ?_) | (refine wpList_store_key rfl _ _ rfl w.heap.size rfl 0 (fun _ => 0) rfl 0 (fun _ => 0) HR.out ?_; intro W' hO hk'; have HO := Lib.hid hO; have HK' := Lib.hid hk'; clear hO hk'))
            (try simp only [Exit.inBlock, Exit.then])
            refine bodyPost_ret (results_key_two rfl _ _ w.heap.size 0 (fun _ => 0) rfl HK'.out) rfl ?_
            exact ⟨Or.inl ⟨HBAD.out, rfl⟩, HB.out.trans (HO.out.below (Nat.le_refl _))⟩
          · have j4 : 255 ≤ h t := by omega
            clear hlo
            go_wp2_with (first | (refine wpList_build_none rfl rfl ?_) | (refine wpList_store_key rfl _ _ rfl w.heap.size rfl 0 (fun _ => 0) rfl 0 (fun _ => 0) HR.out ?_; intro W' hO hk'; have HO := Lib.hid hO; have HK' := Lib.hid hk'; clear hO hk'))
            (try simp only [Exit.inBlock, Exit.then])
            refine bodyPost_ret (results_key_two rfl _ _ w.heap.size 0 (fun _ => 0) rfl HK'.out) rfl ?_
            exact ⟨Or.inl ⟨HBAD.out, rfl⟩, HB.out.trans (HO.out.below (Nat.le_refl _))⟩
      · obtain rfl : t = k := by omega
        have HGO := Lib.hid (show GoodK (t : Nat) m h from ⟨by omega, by omega, by omega, fun i hi => hin i (by omega)⟩)
        clear hin hr hmd hB
        go_wp2_with (first | (refine wpList_load_row rfl 98 _ rfl (w.heap.size + 1) rfl 98 (kc (t : Nat) (ky t h)) (0, 0) _ HM.out Tryz.underlying98 rfl (key_info _ _) ?_) | (refine wpList_store_key rfl _ _ rfl w.heap.size rfl (t : Nat) (ky t h) rfl 0 (fun _ => 0) HR.out ?_; intro W' hO hk'; have HO := Lib.hid hO; have HK' := Lib.hid hk'; clear hO hk'))
        (try simp only [Exit.inBlock, Exit.then])
        refine bodyPost_ret (results_key_two rfl _ _ w.heap.size (t : Nat) (ky t h) rfl HK'.out) rfl ?_
        exact ⟨Or.inr ⟨HGO.out, by rw [Int.toNat_natCast]; rfl⟩, HB.out.trans (HO.out.below (Nat.le_refl _))⟩
  · by_cases q1 : K < 1
    · have HBAD := Lib.hid (show ¬ GoodK K m h from fun g => hb ⟨g.1, g.2.1, g.2.2.1⟩)
      clear hb
      go_enter Tryz.func59, Tryz.ntmps59
      go_wp2_with (first | (refine wpList_build_none rfl rfl ?_) | (refine wpList_store_key rfl _ _ rfl w.heap.size rfl 0 (fun _ => 0) rfl 0 (fun _ => 0) HKW.out ?_; intro W' hO hk'; have HO := Lib.hid hO; have HK' := Lib.hid hk'; clear hO hk'))
      (try simp only [Exit.inBlock, Exit.then])
      refine bodyPost_ret (results_key_two rfl _ _ w.heap.size 0 (fun _ => 0) rfl HK'.out) rfl ?_
      exact ⟨Or.inl ⟨HBAD.out, rfl⟩, ((Below.refl _ w).alloc (Nat.le_refl _) _).trans (HO.out.below (Nat.le_refl _))⟩
    · by_cases q2 : 255 < K
      · have HBAD := Lib.hid (show ¬ GoodK K m h from fun g => hb ⟨g.1, g.2.1, g.2.2.1⟩)
        clear hb
        go_enter Tryz.func59, Tryz.ntmps59
        go_wp2_with (first | (refine wpList_build_none rfl rfl ?_) | (refine wpList_store_key rfl _ _ rfl w.heap.size rfl 0 (fun _ => 0) rfl 0 (fun _ => 0) HKW.out ?_; intro W' hO hk'; have HO := Lib.hid hO; have HK' := Lib.hid hk'; clear hO hk'))
        (try simp only [Exit.inBlock, Exit.then])
        refine bodyPost_ret (results_key_two rfl _ _ w.heap.size 0 (fun _ => 0) rfl HK'.out) rfl ?_
        exact ⟨Or.inl ⟨HBAD.out, rfl⟩, ((Below.refl _ w).alloc (Nat.le_refl _) _).trans (HO.out.below (Nat.le_refl _))⟩
      · have q3 : (m : Int) < K := by omega
        have HBAD := Lib.hid (show ¬ GoodK K m h from fun g => hb ⟨g.1, g.2.1, g.2.2.1⟩)
        clear hb
        go_enter Tryz.func59, Tryz.ntmps59
        go_wp2_with (first | (refine wpList_build_none rfl rfl ?_) | (refine wpList_store_key rfl _ _ rfl w.heap.size rfl 0 (fun _ => 0) rfl 0 (fun _ => 0) HKW.out ?_; intro W' hO hk'; have HO := Lib.hid hO; have HK' := Lib.hid hk'; clear hO hk'))
        (try simp only [Exit.inBlock, Exit.then])
        refine bodyPost_ret (results_key_two rfl _ _ w.heap.size 0 (fun _ => 0) rfl HK'.out) rfl ?_
        exact ⟨Or.inl ⟨HBAD.out, rfl⟩, ((Below.refl _ w).alloc (Nat.le_refl _) _).trans (HO.out.below (Nat.le_refl _))⟩
end Go.Proofs.YtjnfghhochcpaaaGreat
