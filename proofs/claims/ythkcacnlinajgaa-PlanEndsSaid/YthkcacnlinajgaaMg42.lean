import Derived.Deep.WholeRow
import Derived.Laws.Tables
import Derived.RangeFuncNested
import Derived.RegionTactic
import Derived.BigRegion
import Derived.Lib.QuietBelow
import Derived.BigQuiet
import Derived.WalkKit
import Derived.WalkSpells
import Derived.Laws.AppendOwn
import Derived.Maps.AppendAt
import Derived.Deep.RegionHeld3
import Derived.Test.YthkcacnlinajgaaMg39
import Derived.Test.YthkcacnlinajgaaMg41
namespace Go.Proofs.Ythkcacnlinajgaa.Ly
open Go.RowKit Go.Shelf
open Go.Proofs.Ythkcacnlinajgaa.Sp (wid Bad wid_le wid_hi wid_lo width_ok width_bad grown_dr grown_t)

/-- rows of a table, as they read. -/
structure Tb (w : World) (a : Option Addr) (n : Nat) (K L : Nat → Int) : Prop where
  cell : ∀ i, i < n → ∃ b o, a = some ⟨b, o, none⟩ ∧ w.cell? ⟨b, o + i * 2, none⟩ = some (.int .i64 (K i)) ∧ w.cell? ⟨b, o + i * 2 + 1, none⟩ = some (.int .i64 (L i))
section
variable {w w' : World} {a : Option Addr} {n : Nat} {K L : Nat → Int}
theorem Tb.same (s : Tb w a n K L) (hB : Below w.heap.size w w') : Tb w' a n K L := ⟨fun i hi => by
  obtain ⟨b, o, e, h1, h2⟩ := s.cell i hi
  exact ⟨b, o, e, by rw [hB.cell (World.block_lt_of_cell? _ _ h1)]; exact h1, by rw [hB.cell (World.block_lt_of_cell? _ _ h2)]; exact h2⟩⟩
theorem Tb.less (s : Tb w a n K L) {k : Nat} (hk : k ≤ n) : Tb w a k K L := ⟨fun i hi => s.cell i (by omega)⟩
theorem Tb.own {row : Option Nat} (s : Tb w a n K L) (hg : w.grownBy w' row) (hr : ∀ k, row = some k → ∃ o : Obj, w.heap[k]? = some o ∧ o.isCells = false) : Tb w' a n K L := ⟨fun i hi => by
  obtain ⟨b, o, e, h1, h2⟩ := s.cell i hi
  exact ⟨b, o, e, cell_kept h1 hg hr, cell_kept h2 hg hr⟩⟩
end
theorem si_own {w w' : World} {a : Option Addr} {n : Nat} {K : Nat → Int} {row : Option Nat} (s : Si w a n K) (hg : w.grownBy w' row) (hr : ∀ k, row = some k → ∃ o : Obj, w.heap[k]? = some o ∧ o.isCells = false) : Si w' a n K := ⟨fun i hi => by
  obtain ⟨b, o, e, h1⟩ := s.cell i hi
  exact ⟨b, o, e, cell_kept h1 hg hr⟩⟩

/-- a row's width, where it has one. -/
def widI (L K : Int) : Nat := if Bad L K then 0 else wid L.toNat K.toNat
def widE (L K : Int) : Int := if Bad L K then 2 else 0
theorem widI_le (L K : Int) : widI L K ≤ 65535 := by
  unfold widI
  split
  · omega
  · rename_i h
    unfold Bad at h
    have := wid_le (L := L.toNat) (k := K.toNat) (by omega)
    omega
theorem widI_ok {L K : Int} (h : ¬ Bad L K) : widI L K = wid L.toNat K.toNat := if_neg h
theorem width_any (x k : Int) (w : World) :
    Calls Try.prog 57 #[.int .i64 x, .int .i64 k] w fun e w' => e = .returned (.tuple #[.int .i64 (widI x k : Nat), .int .i64 (widE x k)]) ∧ w' = w := by
  by_cases h : Bad x k
  · have e1 : widI x k = 0 := if_pos h
    have e2 : widE x k = 2 := if_pos h
    rw [e1, e2]
    exact width_bad x k h w
  · have h' := h
    unfold Bad at h'
    obtain ⟨X, rfl⟩ : ∃ X : Nat, x = X := ⟨x.toNat, by omega⟩
    obtain ⟨Y, rfl⟩ : ∃ Y : Nat, k = Y := ⟨k.toNat, by omega⟩
    have e1 : widI X Y = wid X Y := by rw [widI_ok h]; simp
    have e2 : widE X Y = 0 := if_neg h
    rw [e1, e2]
    exact width_ok X Y (by omega) (by omega) (by omega) w
/-- where a row's stripe begins. -/
def off (K L : Nat → Int) : Nat → Nat
  | 0 => 0
  | i + 1 => off K L i + widI (L i) (K i)
theorem off_le (K L : Nat → Int) : ∀ n, off K L n ≤ n * 65535
  | 0 => Nat.le_refl _
  | n + 1 => by
    have h1 := off_le K L n
    have h2 := widI_le (L n) (K n)
    unfold off
    omega
theorem off_mono (K L : Nat → Int) {i j : Nat} (h : i ≤ j) : off K L i ≤ off K L j := by
  induction j with
  | zero => obtain rfl : i = 0 := by omega
            exact Nat.le_refl _
  | succ j ih =>
    by_cases e : i = j + 1
    · subst e; exact Nat.le_refl _
    · have := ih (by omega)
      show off K L i ≤ off K L j + widI (L j) (K j)
      omega
theorem cell_al {w : World} {p : Addr} {v : Value} (h : w.cell? p = some v) (o : Obj) : (w.alloc o).cell? p = some v := by
  rw [((Below.refl _ w).alloc (Nat.le_refl _) o).cell (World.block_lt_of_cell? _ _ h)]; exact h
/-- what a row is. -/
def rowV (K L : Int) : Value := .agg #[.int .i64 K, .int .i64 L]
/-- what a part is. -/
def partV (K L : Int) (f t : Nat) : Value := .agg #[.int .i64 K, .int .i64 L, .int .i64 (f : Nat), .int .i64 (t : Nat)]

/-- worlds that are alike where it matters. -/
def Agr (Dom : Nat → Prop) (w0 W : World) : Prop := ∀ k, Dom k → W.heap[k]? = w0.heap[k]?
/-- what asks for rows: a closure that answers of each place. -/
structure AskL (Dom : Nat → Prop) (w0 : World) (cf n : Nat) (caps : Array Value) (K L : Nat → Int) : Prop where
  ent : ∀ (args : Array Value) (W : World), (callFunc cf args).run Try.prog W = .ok (.enter cf args) W
  lt : ∀ k, Dom k → k < w0.heap.size
  call : ∀ W, Agr Dom w0 W → ∀ j : Nat, j < n → Calls Try.prog cf (#[.int .i64 (j : Nat)] ++ caps) W fun e W' => e = .returned (rowV (K j) (L j)) ∧ Below W.heap.size W W'
theorem below_grown {w w' : World} (h : Below w.heap.size w w') (row : Option Nat) : w.grownBy w' row := ⟨h.os, h.tape, h.output, h.size, fun k hk _ => h.block k hk⟩
section
variable {Dom : Nat → Prop} {w0 W W' : World} {cf n : Nat} {caps : Array Value} {K L : Nat → Int}
theorem AskL.agr (h : AskL Dom w0 cf n caps K L) (hB : Below w0.heap.size w0 W) : Agr Dom w0 W := fun k hk => hB.block k (h.lt k hk)
theorem Agr.trans {A B C : World} (h : Agr Dom A B) (k : Agr Dom B C) : Agr Dom A C := fun i hi => (k i hi).trans (h i hi)
theorem AskL.at_ (h : AskL Dom w0 cf n caps K L) (hP : Agr Dom w0 W) (hz : w0.heap.size ≤ W.heap.size) : AskL Dom W cf n caps K L :=
  ⟨h.ent, fun k hk => Nat.lt_of_lt_of_le (h.lt k hk) hz, fun X hX j hj => h.call X (hP.trans hX) j hj⟩
theorem AskL.same (h : AskL Dom w0 cf n caps K L) (hB : Below w0.heap.size w0 W) : AskL Dom W cf n caps K L := h.at_ (h.agr hB) hB.size
theorem AskL.less (h : AskL Dom w0 cf n caps K L) {m : Nat} (hm : m ≤ n) : AskL Dom w0 cf m caps K L := ⟨h.ent, h.lt, fun W hW j hj => h.call W hW j (by omega)⟩
end

/-- a whole row into a block that was just made. -/
theorem wpList_store_new {P : Program} {ops : Array Oper} {rest : List Oper} {o : Oper} {a : Act} {w : World} {Q : Exit → Act → World → Prop} (hgd : o.guard = none) (ty : TypeId) (x y : Operand) (ho : o.op = .store ty x y)
    (g : Nat) (hg : g = w.heap.size) (cells old : Array Value) (t : TypeId) (hx : a.eval x = .pointer (some ⟨g, 0, none⟩)) (hy : a.eval y = .agg cells) (hi : (P.info? ty).map (·.size) = some cells.size)
    (hold : old.size = cells.size) (h1 : cells.all (·.oneCell') = true)
    (h : wpList P ops Q rest (a.put o.dst undef) (w.alloc (.cells cells t))) : wpList P ops Q (o :: rest) a (w.alloc (.cells old t)) := by
  subst hg
  refine wpList_store_row hgd ty x y ho w.heap.size cells hx hy t old (heap_alloc_new w _) hi hold h1 ?_
  rw [World.setRow_alloc_new]
  exact h

set_option maxHeartbeats 1000000 in
theorem of1_l (a : Option Addr) (n cap lb k : Nat) (K L : Nat → Int) (hk : k < n) (w : World) (hb : w.cell? ⟨lb, 0, none⟩ = some (.slice a n cap)) (hR : Tb w a n K L) :
    Calls Try.prog 103 #[.int .i64 (k : Nat), .pointer (some ⟨lb, 0, none⟩)] w fun e w' => e = .returned (rowV (K k) (L k)) ∧ Below w.heap.size w w' := by
  obtain ⟨b, o, ea, hc1, hc2⟩ := hR.cell k hk
  have i1 : (k : Int) < (n : Int) := by omega
  subst ea
  clear hR
  have d0 := cell_al hb (.cells #[.int .i64 0, .int .i64 0] 54)
  have d1 := cell_al hc1 (.cells #[.int .i64 0, .int .i64 0] 54)
  have d2 := cell_al hc2 (.cells #[.int .i64 0, .int .i64 0] 54)
  go_enter Try.func103, Try.ntmps103
  go_wp2_with fail
  exact bodyPost_ret (results_cell_row rfl _ _ w.heap.size _ _ (0, 0) _ rfl (heap_alloc_new w _) Try.underlying54 rfl (by kernel_rfl)) rfl ⟨rfl, (Below.refl _ w).alloc (Nat.le_refl _) _⟩
/-- a sheet. -/
def shV (n cf : Nat) (caps : Array Value) : Array Value := #[.int .i64 (n : Nat), .func (.func cf) #[] caps]
set_option maxHeartbeats 400000 in
theorem of_l (a : Option Addr) (n cap : Nat) (w : World) :
    Calls Try.prog 80 #[.slice a n cap] w fun e w' => e = .returned (.agg #[.int .i64 (n : Nat), .func (.func 103) #[] #[.pointer (some ⟨w.heap.size, 0, none⟩)]]) ∧ Below w.heap.size w w' ∧ Boxed w' w.heap.size 52 (.slice a n cap) := by
  have hmf : ∀ (fn : Fn) (first cap : Array Value) (w : World), (Instr.makeFunc fn first cap).run Try.prog w = .ok (.func fn first cap) w := fun _ _ _ _ => rfl
  have hB : Below w.heap.size w ((w.alloc (.cells #[.slice a n cap] 52)).alloc (.cells #[.int .i64 (n : Nat), .func (.func 103) #[] #[.pointer (some ⟨w.heap.size, 0, none⟩)]] 132)) := ((Below.refl _ w).alloc (Nat.le_refl _) _).alloc (by simp) _
  have hb := (Boxed.new w 52 (.slice a n cap)).alloc (.cells #[.int .i64 (n : Nat), .func (.func 103) #[] #[.pointer (some ⟨w.heap.size, 0, none⟩)]] 132)
  have HB := Lib.hid hB; have Hb := Lib.hid hb; clear hB hb
  go_enter Try.func80, Try.ntmps80
  go_wp2_with ((show wpList _ _ _ (⟨none, .store 132 _ _, _, _, _, _⟩ :: _) _ _); refine wpList_store_new rfl 132 _ _ rfl (w.heap.size + 1) (by simp) #[.int .i64 (n : Nat), .func (.func 103) #[] #[.pointer (some ⟨w.heap.size, 0, none⟩)]] _ _ rfl rfl (by kernel_rfl) rfl (by simp [Value.oneCell']) ?_)
  exact bodyPost_ret (results_cell_row rfl _ _ (w.heap.size + 1) _ _ (0, 0) _ rfl (by have := heap_alloc_new (w.alloc (.cells #[.slice a n cap] 52)) (.cells #[.int .i64 (n : Nat), .func (.func 103) #[] #[.pointer (some ⟨w.heap.size, 0, none⟩)]] 132); rwa [World.size_alloc] at this) Try.underlying132 rfl (by kernel_rfl)) rfl ⟨rfl, HB.out, Hb.out⟩
set_option maxHeartbeats 400000 in
theorem parts_l (n cf : Nat) (caps : Array Value) (w : World) :
    Calls Try.prog 104 #[.agg #[.int .i64 (n : Nat), .func (.func cf) #[] caps]] w fun e w' => e = .returned (.func (.func 111) #[] #[.pointer (some ⟨w.heap.size, 0, none⟩)]) ∧ w' = w.alloc (.cells #[.int .i64 (n : Nat), .func (.func cf) #[] caps] 132) := by
  have hmf : ∀ (fn : Fn) (first cap : Array Value) (w : World), (Instr.makeFunc fn first cap).run Try.prog w = .ok (.func fn first cap) w := fun _ _ _ _ => rfl
  go_enter Try.func104, Try.ntmps104
  go_wp2_with fail
  go_ret
  exact ⟨rfl, rfl⟩
end Go.Proofs.Ythkcacnlinajgaa.Ly

namespace Go.Proofs.Ythkcacnlinajgaa.Ly
open Go.RowKit Go.Shelf
open Go.Proofs.Ythkcacnlinajgaa.Sp (wid Bad wid_le wid_hi wid_lo width_ok width_bad grown_dr grown_t Tk heap_kp)
attribute [local go_sem] Oper.semAt_some

/-- what parts' function reads: a sheet in its box. -/
structure Gl (bs cf n : Nat) (caps : Array Value) (Dom : Nat → Prop) (w0 W : World) : Prop where
  blk : W.heap[bs]? = some (.cells #[.int .i64 (n : Nat), .func (.func cf) #[] caps] 132 (0, 0))
  s : Agr Dom w0 W
  z : w0.heap.size ≤ W.heap.size
section
variable {bs cf n : Nat} {caps : Array Value} {Dom : Nat → Prop} {w0 W W' : World}
theorem Gl.lt (g : Gl bs cf n caps Dom w0 W) : bs < W.heap.size := (Array.getElem?_eq_some_iff.1 g.blk).1
theorem Gl.c0 (g : Gl bs cf n caps Dom w0 W) : W.cell? ⟨bs, 0, none⟩ = some (.int .i64 (n : Nat)) := by rw [cell_of_row W bs 0 _ _ _ g.blk]; rfl
theorem Gl.c1 (g : Gl bs cf n caps Dom w0 W) : W.cell? ⟨bs, 1, none⟩ = some (.func (.func cf) #[] caps) := by rw [cell_of_row W bs 1 _ _ _ g.blk]; rfl
theorem Gl.kept {K L : Nat → Int} (hA : AskL Dom w0 cf n caps K L) (g : Gl bs cf n caps Dom w0 W) (hz : W.heap.size ≤ W'.heap.size) (hb : W'.heap[bs]? = W.heap[bs]?) (hD : ∀ k, k < w0.heap.size → Dom k → W'.heap[k]? = W.heap[k]?) : Gl bs cf n caps Dom w0 W' :=
  ⟨hb.trans g.blk, g.s.trans fun k hk => hD k (hA.lt k hk) hk, Nat.le_trans g.z hz⟩
theorem Gl.same {K L : Nat → Int} (hA : AskL Dom w0 cf n caps K L) (g : Gl bs cf n caps Dom w0 W) (hB : Below W.heap.size W W') : Gl bs cf n caps Dom w0 W' :=
  g.kept hA hB.size (hB.block bs g.lt) fun k hk _ => hB.block k (Nat.lt_of_lt_of_le hk g.z)
end
def KpL (bs cf n : Nat) (caps : Array Value) (Dom : Nat → Prop) (w0 W W' : World) : Prop := Gl bs cf n caps Dom w0 W → Gl bs cf n caps Dom w0 W'
theorem kpL_t {bs cf n : Nat} {caps : Array Value} {Dom : Nat → Prop} {w0 A B C : World} (h : KpL bs cf n caps Dom w0 A B) (k : KpL bs cf n caps Dom w0 B C) : KpL bs cf n caps Dom w0 A C := fun g => k (h g)
theorem kpL_b {bs cf n : Nat} {caps : Array Value} {K L : Nat → Int} {Dom : Nat → Prop} {w0 : World} (hA : AskL Dom w0 cf n caps K L) {w : World} (hz : w0.heap.size ≤ w.heap.size) (W : World) (l : Nat) (o o' : Obj) (hl : w.heap.size ≤ l) (h : W.heap[l]? = some o) (hc : o.isCells = false) (_ : o.isWalk = false) : KpL bs cf n caps Dom w0 W (W.putObj l o') :=
  fun g => g.kept hA (grownBy_putObj' W l o').size ((heap_kp g.blk (grownBy_putObj' W l o') (fun r e => by cases e; exact ⟨o, h, hc⟩)).trans g.blk.symm) fun k hk _ => (grownBy_putObj' W l o').block k (Nat.lt_of_lt_of_le hk g.z) (fun e => by cases e; omega)
/-- a store into a box of one's own. -/
theorem kpL_set {bs cf n : Nat} {caps : Array Value} {K L : Nat → Int} {Dom : Nat → Prop} {w0 W : World} (hA : AskL Dom w0 cf n caps K L) (p : Addr) (v : Value) (h1 : p.block ≠ bs) (h2 : ¬ Dom p.block) : KpL bs cf n caps Dom w0 W (W.setCell p v) :=
  fun g => g.kept hA (by simp) (heap_setCell_other W p bs v (fun e => h1 e.symm)) fun k _ hd => heap_setCell_other W p k v (fun e => h2 (e ▸ hd))

/-- what comes at a place. -/
def encL (K L : Nat → Int) (i : Nat) : Array Value := #[.int .i64 (i : Nat), partV (K i) (L i) (off K L i) (off K L (i + 1))]

set_option maxRecDepth 100000 in
set_option maxHeartbeats 2000000 in
/-- parts' function. -/
theorem parts1_in (m : Nat) (l bs cf n : Nat) (caps : Array Value) (K L : Nat → Int) (Dom : Nat → Prop) (w0 : World) (hA : AskL Dom w0 cf n caps K L) (hn : n ≤ 8) (J Jx : List (Tk n) → World → Prop)
    (hJ : ∀ s W W', Below W.heap.size W W' → J s W → J s W')
    (hY : ∀ pre x W, J pre W → pre.length < n → YieldAt Fence.wide (m - 1) Try.prog l (encL K L x.i) W fun e W' =>
      (e = .returned (.bool true) ∧ J (pre ++ [x]) W' ∧ KpL bs cf n caps Dom w0 W W') ∨ (e = .returned (.bool false) ∧ Jx (pre ++ [x]) W'))
    (W : World) (hG : Gl bs cf n caps Dom w0 W) (h0 : J [] W) :
    CallsIn Fence.wide m Try.prog 111 #[.func (.yield l) #[] #[], .pointer (some ⟨bs, 0, none⟩)] W fun e W' => (∃ v, e = .returned v) ∧
      ((∃ ys : List (Tk n), ys.map Tk.i = List.range n ∧ J ys W') ∨ (∃ pre : List (Tk n), (∃ k, k ≤ n ∧ pre.map Tk.i = List.range k) ∧ Jx pre W')) := by
  have hW : ∀ k, Fence.wide.fn k := fun _ => trivial
  have hD : Fence.wide.depth = none := rfl
  have hb0 := hG.c0
  have HG := Lib.hid hG; clear hG
  have hent := hA.ent
  have HA := Lib.hid hA; clear hA
  refine callsIn_of_wp Try.func111 rfl trivial ?_ rfl
  simp only [Try.ntmps111, List.size_toArray, List.length_cons, List.length_nil, Nat.reduceAdd, Nat.reduceSub, Array.replicate_succ, Array.replicate_zero, List.push_toArray, List.append_toArray, List.nil_append, List.cons_append]
  gi_wp2
  gi_loopw [3, 10] (fun fr i wr => ∃ k : Nat, k ≤ n ∧ fr = .int .i64 (off K L k : Nat) ∧ i = .int .i64 (k : Nat) ∧ (∃ pre : List (Tk n), pre.map Tk.i = List.range k ∧ J pre wr) ∧ Gl bs cf n caps Dom w0 wr)
    (fun _ i _ => n - (intOf i).toNat)
  case atStart => exact ⟨0, Nat.zero_le _, rfl, rfl, ⟨[], rfl, h0⟩, HG.out⟩
  case round =>
    rename_i wr
    obtain ⟨k, hk1, rfl, rfl, ⟨pre, hp, hJs⟩, hG⟩ := hrel
    have hP := Lib.hid hp
    have hlen : pre.length = k := by have := congrArg List.length hp; rwa [List.length_map, List.length_range] at this
    clear hp hb0
    by_cases hkn : k < n
    · have i1 : (k : Int) < (n : Int) := by omega
      have hb1 := hG.c1
      have hofs : off K L (k + 1) = off K L k + widI (L k) (K k) := rfl
      have hle := off_le K L k
      have hwl := widI_le (L k) (K k)
      have HOF := Lib.hid hofs
      have HYY := Lib.hid (fun W hJ' => hY pre ⟨k, hkn⟩ W hJ' (by omega))
      have HG1 := Lib.hid hG
      have HJ := Lib.hid hJs
      have HL := Lib.hid hlen
      clear hG hlen hJs hofs hY
      gi_wp2_with fail
      refine (callsIn_wide.2 (HA.out.call _ HG1.out.s k hkn)).mono ?_
      rintro e W2 ⟨rfl, hB2⟩
      have HB2 := Lib.hid hB2; clear hB2
      unfold rowV
      generalize hKk : K k = Kk at *
      generalize hLk : L k = Lk at *
      have hX : Below wr.heap.size wr (W2.alloc (.cells #[.int .i64 Kk, .int .i64 Lk] 54)) := HB2.out.trans (((Below.refl _ W2).alloc (Nat.le_refl _) _).mono HB2.out.size)
      have HX := Lib.hid hX; clear hX
      gi_wp2_with fail
      refine (callsIn_wide.2 (width_any Lk Kk _)).mono ?_
      rintro e W3 ⟨rfl, rfl⟩
      have hsum : ((off K L k : Nat) : Int) + ((widI Lk Kk : Nat) : Int) = ((off K L (k + 1) : Nat) : Int) := by rw [HOF.out]; omega
      have HS := Lib.hid hsum
      obtain ⟨fn, tmps, assign, body, hy, hR⟩ := HYY.out _ (hJ _ _ _ HX.out HJ.out)
      simp only [encL, partV, hKk, hLk] at hy
      generalize widI Lk Kk = wi at *
      generalize hO1 : off K L (k + 1) = o1 at *
      have HO1 := Lib.hid hO1; clear hO1
      generalize off K L k = o0 at *
      have hwr : wrap64 (o1 : Int) = (o1 : Int) := by unfold wrap64; omega
      have HWR := Lib.hid hwr
      gi_wp2_with fail
      refine hR.mono ?_
      rintro e W4 (⟨rfl, hJ3, hk3⟩ | ⟨rfl, hJx3⟩)
      · have HG3 := Lib.hid (hk3 (HG1.out.same HA.out HX.out)); have HJ3 := Lib.hid hJ3
        clear hk3 hJ3 hy hR
        gi_wp2
        go_roundw
        case rel => exact ⟨k + 1, by omega, by rw [HO1.out], by go_num, ⟨_, by rw [List.range_succ, List.map_append, hP.out]; rfl, HJ3.out⟩, HG3.out⟩
        case measure => simp [intOf]; omega
      · clear hy hR
        gi_wp2
        refine bodyPost_ret (results_none rfl _ _ _) rfl ?_
        exact ⟨⟨_, rfl⟩, .inr ⟨_, ⟨k + 1, by omega, by rw [List.range_succ, List.map_append, hP.out]; rfl⟩, hJx3⟩⟩
    · obtain rfl : k = n := by omega
      have i1 : ¬ (k : Int) < (k : Int) := by omega
      gi_wp2
      go_end0
      exact ⟨⟨_, rfl⟩, .inl ⟨pre, hP.out, hJs⟩⟩
/-- parts' value. -/
theorem parts_stops (m bs cf n : Nat) (caps : Array Value) (K L : Nat → Int) (Dom : Nat → Prop) (w0 : World) (hA : AskL Dom w0 cf n caps K L) (hn : n ≤ 8) (w : World) (hG : Gl bs cf n caps Dom w0 w) :
    SeqStopsK Fence.wide m Try.prog 111 #[.pointer (some ⟨bs, 0, none⟩)] (fun x : Tk n => encL K L x.i) (KpL bs cf n caps Dom w0) (fun ys => ys.map Tk.i = List.range n) (fun pre => ∃ k, k ≤ n ∧ pre.map Tk.i = List.range k) n w := fun l J Jx W hW hJ _ hY h0 =>
  parts1_in m l bs cf n caps K L Dom w0 hA hn J Jx (fun s W1 W2 hB hs => hJ s _ _ none hs (below_grown hB none) (fun _ e => by cases e)) hY W (hG.same hA hW) h0
/-- a table: its rows lie below B, its box is lb. -/
theorem ask_of (B : Nat) (w0 w : World) (lb : Nat) (a : Option Addr) (n cap : Nat) (K L : Nat → Int) (hB0 : w0.heap.size = B) (hB : Below B w0 w) (hb : Boxed w lb 52 (.slice a n cap)) (hT : Tb w0 a n K L) :
    AskL (fun k => k < B ∨ k = lb) w 103 n #[.pointer (some ⟨lb, 0, none⟩)] K L :=
  ⟨fun _ _ => by kernel_rfl, fun k h => by rcases h with h | rfl; (· have := hB.size; omega); exact hb.lt, fun W h j hj => by
    have hc : ∀ p v, w0.cell? p = some v → W.cell? p = some v := fun p v e => by
      have h1 := World.block_lt_of_cell? _ _ e
      exact (World.cell?_of_block ((h _ (Or.inl (by omega))).trans (hB.block _ (by omega)))).trans e
    exact of1_l a n cap lb j K L hj W ((World.cell?_of_block (h lb (Or.inr rfl))).trans hb.cell) ⟨fun i hi => by obtain ⟨b, o, e, h1, h2⟩ := hT.cell i hi; exact ⟨b, o, e, hc _ _ h1, hc _ _ h2⟩⟩⟩
end Go.Proofs.Ythkcacnlinajgaa.Ly

namespace Go.Proofs.Ythkcacnlinajgaa.Ly
open Go.RowKit Go.Shelf
open Go.Proofs.Ythkcacnlinajgaa.Sp (wid Bad wid_le wid_hi wid_lo width_ok width_bad grown_dr grown_t Tk heap_kp bx_past)
attribute [local go_sem] Oper.semAt_some

theorem rng_snoc {n : Nat} {pre : List (Tk n)} {x : Tk n} {k' : Nat} (h : (pre ++ [x]).map Tk.i = List.range k') : ∃ k, k' = k + 1 ∧ pre.map Tk.i = List.range k ∧ x.i = k := by
  cases k' with
  | zero => simp at h
  | succ k =>
    rw [List.range_succ, List.map_append] at h
    have h2 := List.append_inj' h rfl
    refine ⟨k, rfl, h2.1, ?_⟩
    have := h2.2
    simpa using this
theorem rng_nil {n k : Nat} (h : ([] : List (Tk n)).map Tk.i = List.range k) : k = 0 := by
  have := congrArg List.length h
  simpa using this.symm
/-- a row that may be, behind those ahead of it. -/
def RowOk (N : Int) (K L : Nat → Int) (i : Nat) : Prop := 1 ≤ K i ∧ K i ≤ N ∧ 0 ≤ L i ∧ L i ≤ 65535 ∧ (0 < i → K (i - 1) ≤ K i)
/-- a table. -/
def TabOk (N : Int) (n : Nat) (K L : Nat → Int) : Prop := 1 ≤ N ∧ N ≤ 255 ∧ 1 ≤ n ∧ n ≤ 8 ∧ ∀ i, i < n → RowOk N K L i
def TabSays (N : Int) (n : Nat) (K L : Nat → Int) (e : Ending) : Prop := ∃ v : Bool, e = .returned (.bool v) ∧ (v = true ↔ TabOk N n K L)
/-- the least threshold that may come at a place. -/
def lst (K : Nat → Int) : Nat → Int
  | 0 => 1
  | i + 1 => K i
theorem row_lst {N : Int} {K L : Nat → Int} {i : Nat} (hp : ∀ j, j < i → RowOk N K L j) : RowOk N K L i ↔ lst K i ≤ K i ∧ K i ≤ N ∧ 0 ≤ L i ∧ L i ≤ 65535 := by
  unfold RowOk
  cases i with
  | zero => show _ ↔ 1 ≤ K 0 ∧ _; constructor <;> (intro h; omega)
  | succ j =>
    have := (hp j (by omega)).1
    show _ ↔ K j ≤ K (j + 1) ∧ _
    rw [Nat.add_sub_cancel]
    constructor <;> (intro h; omega)

/-- the box of a part. -/
def PartAt (W : World) (p : Nat) (K L : Nat → Int) (i : Nat) : Prop := W.heap[p]? = some (.cells #[.int .i64 (K i), .int .i64 (L i), .int .i64 (off K L i : Nat), .int .i64 (off K L (i + 1) : Nat)] 180 (0, 0))
theorem PartAt.kept {X Y : World} {row : Option Nat} {p i : Nat} {K L : Nat → Int} (h : PartAt X p K L i) (hg : X.grownBy Y row) (hr : ∀ r, row = some r → ∃ o : Obj, X.heap[r]? = some o ∧ o.isCells = false) : PartAt Y p K L i := heap_kp h hg hr
/-- as long goes through the rows. -/
structure LoS (w W : World) (v : Nat) : Prop where
  v : Boxed W (w.heap.size + 1) 3 (.int .i64 (v : Nat))
  be : Below w.heap.size w W
theorem LoS.kep {w W W' : World} {v : Nat} {row : Option Nat} (s : LoS w W v) (hg : W.grownBy W' row) (hr : ∀ r, row = some r → w.heap.size ≤ r ∧ ∃ o : Obj, W.heap[r]? = some o ∧ o.isCells = false) : LoS w W' v :=
  ⟨heap_kp s.v hg (fun r e => (hr r e).2), s.be.grown hg s.be.size (fun k e => (hr k e).1)⟩

set_option maxRecDepth 100000 in
set_option maxHeartbeats 4000000 in
theorem long_l (n cf : Nat) (caps : Array Value) (K L : Nat → Int) (Dom : Nat → Prop) (hn : n ≤ 8) (w : World) (hA : AskL Dom w cf n caps K L) :
    Calls Try.prog 81 #[.agg #[.int .i64 (n : Nat), .func (.func cf) #[] caps]] w fun e w' => e = .returned (.int .i64 (off K L n : Nat)) ∧ Below w.heap.size w w' := by
  refine (callsIn_wide (n := 6)).1 ?_
  have hW : ∀ k, Fence.wide.fn k := fun _ => trivial
  have hD : Fence.wide.depth = none := rfl
  have HA := Lib.hid hA
  clear hA
  refine callsIn_of_wp_marks Try.func81 rfl trivial ?_ rfl
  simp only [Try.ntmps81, List.size_toArray, List.length_cons, List.length_nil, Nat.reduceAdd, Nat.reduceSub, Array.replicate_succ, Array.replicate_zero, List.push_toArray, List.append_toArray, List.nil_append, List.cons_append]
  gi_wp2_with (first
    | (gi_at_call 104; refine (callsIn_wide.2 (parts_l _ _ _ _)).mono ?_; rintro e w1 ⟨rfl, hw1⟩))
  rw [← hw1]
  have hS1 : LoS w w1 0 := by
    rw [hw1]
    refine ⟨?_, (((Below.refl _ w).alloc (Nat.le_refl _) _).alloc (by simp) _).alloc (by simp; omega) _⟩
    have := (Boxed.new (w.alloc (.cells #[.int .i64 (n : Nat), .func (.func cf) #[] caps] 132)) 3 (.int .i64 0)).alloc (.cells #[.int .i64 (n : Nat), .func (.func cf) #[] caps] 132)
    simpa using this
  have hG1 : Gl (w.heap.size + 1 + 1) cf n caps Dom w w1 := by
    refine ⟨?_, HA.out.agr hS1.be, hS1.be.size⟩
    rw [hw1]
    have := heap_alloc_new ((w.alloc (.cells #[.int .i64 (n : Nat), .func (.func cf) #[] caps] 132)).alloc (.cells #[.int .i64 0] 3)) (.cells #[.int .i64 (n : Nat), .func (.func cf) #[] caps] 132)
    simpa using this
  have hs1 : w.heap.size + 1 + 1 < w1.heap.size := hG1.lt
  have HS1 := Lib.hid hS1; have HG1 := Lib.hid hG1
  have hz1 := hS1.be.size
  clear hw1 hS1 hG1
  refine' wpIn_rangeFunc_ownH rfl (by omega) (gf := 111) (lb := #[.pointer (some ⟨w.heap.size + 1 + 1, 0, none⟩)]) rfl trivial (enters_of Try.func111 (by kernel_rfl) rfl)
    (parts_stops _ (w.heap.size + 1 + 1) cf n caps K L Dom w HA.out hn _ HG1.out) kpL_t (kpL_b HA.out hz1) (Below.refl _ _) (fun _ => rfl)
    (fun pre W => w1.heap.size ≤ W.heap.size ∧ ∃ v : Nat, LoS w W v ∧ ∀ k, pre.map Tk.i = List.range k → v = off K L k)
    (fun _ _ _ => False)
    (fun s X Y row h hg hr => by
      obtain ⟨hz, v, hs, hv⟩ := h
      exact ⟨Nat.le_trans hz hg.size, v, hs.kep hg (fun r e => ⟨by have := (hr r e).1; omega, (hr r e).2⟩), hv⟩)
    (fun _ _ _ _ _ hs _ _ => hs)
    ⟨Nat.le_refl _, 0, HS1.out, fun k hk => by rw [rng_nil hk]; rfl⟩
    (fun x a' W' => ∃ p, w1.heap.size ≤ p ∧ a' = ⟨#[.agg #[.int .i64 (n : Nat), .func (.func cf) #[] caps], .pointer (some ⟨w.heap.size, 0, none⟩), .int .i64 0, .pointer (some ⟨w.heap.size + 1, 0, none⟩), undef, .pointer (some ⟨p, 0, none⟩), .agg #[.int .i64 (n : Nat), .func (.func cf) #[] caps], .func (.func 111) #[] #[.pointer (some ⟨w.heap.size + 1 + 1, 0, none⟩)], .int .i64 (x.i : Nat), partV (K x.i) (L x.i) (off K L x.i) (off K L (x.i + 1)), undef, undef, undef], []⟩ ∧ PartAt W' p K L x.i)
    (fun x a' _ X Y row h hg hr => by obtain ⟨p, h0, h1, h2⟩ := h; exact ⟨p, h0, h1, h2.kept hg (fun r e => (hr r e).2)⟩)
    ?assign ?body ?done ?stop
  case assign =>
    rintro q pre x W KK ⟨hz, v, hs, hv⟩ hK
    have hB := (Below.refl W.heap.size W).alloc (Nat.le_refl _) (.cells #[.int .i64 (K x.i), .int .i64 (L x.i), .int .i64 (off K L x.i : Nat), .int .i64 (off K L (x.i + 1) : Nat)] 180)
    have hR := hK _ _ ((KeepsOthers.alloc W (.cells #[.int .i64 (K x.i), .int .i64 (L x.i), .int .i64 (off K L x.i : Nat), .int .i64 (off K L (x.i + 1) : Nat)] 180)).from _) (fun g => g.same HA.out hB) ⟨Nat.le_trans hz hB.size, v, hs.kep (below_grown hB none) (fun r e => by cases e), hv⟩ ⟨W.heap.size, hz, rfl, heap_alloc_new W _⟩
    unfold encL
    unfold partV at hR ⊢
    gi_wp2
    exact hR
  case body =>
    rintro q pre x a' W hq _ ⟨hz, v, hs, hv⟩ ⟨p, hp, rfl, hpa⟩ hlen
    have c3 : W.cell? ⟨p, 3, none⟩ = some (.int .i64 (off K L (x.i + 1) : Nat)) := by rw [cell_of_row W p 3 _ _ _ hpa]; rfl
    have d1 := hs.v.cell; have f1 := hs.v.frozen
    have hS7 : LoS w (W.setCell ⟨w.heap.size + 1, 0, none⟩ (.int .i64 (off K L (x.i + 1) : Nat))) (off K L (x.i + 1)) := ⟨hs.v.set _, hs.be.setCell (p := ⟨w.heap.size + 1, 0, none⟩) (by simp) _⟩
    have HS7 := Lib.hid hS7
    clear hS7 hpa hv
    have HZ := Lib.hid hz; clear hz hs
    gi_wp2
    refine ⟨(KeepsOthers.setCell _ _ _).from _, kpL_set HA.out ⟨w.heap.size + 1, 0, none⟩ _ (by simp) (fun h => absurd (HA.out.lt _ h) (by simp)), by simpa using HZ.out, _, HS7.out, fun k hk => ?_⟩
    obtain ⟨k2, rfl, _, e⟩ := rng_snoc hk
    rw [e]
  case done =>
    rintro D ys W hD hys ⟨hz, v, hs, hv⟩ hK
    obtain rfl := hv n hys
    have d1 := hs.v.cell
    have HS := Lib.hid hs; clear hs hv hys
    gi_wp2
    refine ⟨by simp, .inl ⟨_, _, rfl, run_takeDeferred hK, ?_⟩⟩
    exact ⟨_, results_tmp rfl _ _ _, rfl, HS.out.be.trans (belowK_b (w := w) (Nat.le_refl _) W D _ _ (by omega) hK rfl rfl)⟩
  case stop => exact fun _ _ _ _ _ _ h _ => h.elim
end Go.Proofs.Ythkcacnlinajgaa.Ly

namespace Go.Proofs.Ythkcacnlinajgaa.Ly
open Go.RowKit Go.Shelf
open Go.Proofs.Ythkcacnlinajgaa.Sp (wid Bad wid_le wid_hi wid_lo width_ok width_bad grown_dr grown_t Tk heap_kp bx_past)
attribute [local go_sem] Oper.semAt_some

/-- how many rows ask for at most so many. -/
def RdyN (n : Nat) (K : Nat → Int) (came : Int) (m : Nat) : Prop := m ≤ n ∧ (∀ i, i < m → K i ≤ came) ∧ (m < n → came < K m)
theorem RdyN.uniq {n : Nat} {K : Nat → Int} {came : Int} {m m' : Nat} (h : RdyN n K came m) (h' : RdyN n K came m') : m = m' := by
  rcases Nat.lt_trichotomy m m' with c | c | c
  · have := h.2.2 (Nat.lt_of_lt_of_le c h'.1); have := h'.2.1 m c; omega
  · exact c
  · have := h'.2.2 (Nat.lt_of_lt_of_le c h.1); have := h.2.1 m' c; omega
def RdySays (n : Nat) (K : Nat → Int) (came : Int) (e : Ending) : Prop := ∃ m : Nat, e = .returned (.int .i64 (m : Nat)) ∧ RdyN n K came m
/-- as ready goes through the rows. -/
structure ReS (n cf : Nat) (caps : Array Value) (came : Int) (w W : World) (v : Int) : Prop where
  sh : W.heap[w.heap.size]? = some (.cells #[.int .i64 (n : Nat), .func (.func cf) #[] caps] 132 (0, 0))
  c : Boxed W (w.heap.size + 1) 3 (.int .i64 came)
  v : Boxed W (w.heap.size + 1 + 1) 3 (.int .i64 v)
  be : Below w.heap.size w W
theorem ReS.kep {n cf : Nat} {caps : Array Value} {came v : Int} {w W W' : World} {row : Option Nat} (s : ReS n cf caps came w W v) (hg : W.grownBy W' row) (hr : ∀ r, row = some r → w.heap.size ≤ r ∧ ∃ o : Obj, W.heap[r]? = some o ∧ o.isCells = false) : ReS n cf caps came w W' v :=
  ⟨heap_kp s.sh hg (fun r e => (hr r e).2), heap_kp s.c hg (fun r e => (hr r e).2), heap_kp s.v hg (fun r e => (hr r e).2), s.be.grown hg s.be.size (fun k e => (hr k e).1)⟩
theorem ReS.set {n cf : Nat} {caps : Array Value} {came v v' : Int} {w W : World} (s : ReS n cf caps came w W v) : ReS n cf caps came w (W.setCell ⟨w.heap.size + 1 + 1, 0, none⟩ (.int .i64 v')) v' :=
  ⟨(heap_setCell_other W ⟨w.heap.size + 1 + 1, 0, none⟩ _ _ (by simp; omega)).trans s.sh, bx_past s.c (by omega), s.v.set _, s.be.setCell (p := ⟨w.heap.size + 1 + 1, 0, none⟩) (by simp; omega) _⟩
end Go.Proofs.Ythkcacnlinajgaa.Ly

namespace Go.Proofs.Ythkcacnlinajgaa.Ly
open Go.RowKit Go.Shelf
open Go.Proofs.Ythkcacnlinajgaa.Sp (wid Bad wid_le wid_hi wid_lo width_ok width_bad grown_dr grown_t Tk heap_kp bx_past)
attribute [local go_sem] Oper.semAt_some

/-- as right goes through the rows. -/
structure RiS (N : Int) (w W : World) (v : Bool) (le : Int) : Prop where
  n : Boxed W (w.heap.size + 1) 3 (.int .i64 N)
  v : Boxed W (w.heap.size + 1 + 1) 4 (.bool v)
  l : Boxed W (w.heap.size + 1 + 1 + 1) 3 (.int .i64 le)
  be : Below w.heap.size w W
theorem RiS.kep {N : Int} {v : Bool} {le : Int} {w W W' : World} {row : Option Nat} (s : RiS N w W v le) (hg : W.grownBy W' row) (hr : ∀ r, row = some r → w.heap.size ≤ r ∧ ∃ o : Obj, W.heap[r]? = some o ∧ o.isCells = false) : RiS N w W' v le :=
  ⟨heap_kp s.n hg (fun r e => (hr r e).2), heap_kp s.v hg (fun r e => (hr r e).2), heap_kp s.l hg (fun r e => (hr r e).2), s.be.grown hg s.be.size (fun k e => (hr k e).1)⟩
theorem RiS.set {N : Int} {v v' : Bool} {le : Int} {w W : World} (s : RiS N w W v le) : RiS N w (W.setCell ⟨w.heap.size + 1 + 1, 0, none⟩ (.bool v')) v' le :=
  ⟨bx_past s.n (by omega), s.v.set _, bx_past s.l (by omega), s.be.setCell (p := ⟨w.heap.size + 1 + 1, 0, none⟩) (by simp; omega) _⟩
theorem RiS.setL {N : Int} {v : Bool} {le le' : Int} {w W : World} (s : RiS N w W v le) : RiS N w (W.setCell ⟨w.heap.size + 1 + 1 + 1, 0, none⟩ (.int .i64 le')) v le' :=
  ⟨bx_past s.n (by omega), bx_past s.v (by omega), s.l.set _, s.be.setCell (p := ⟨w.heap.size + 1 + 1 + 1, 0, none⟩) (by simp; omega) _⟩
theorem results_right {tmps : Array Value} {w : World} {p : Nat} {v : Bool} (hp : tmps.getD 4 undef = .pointer (some ⟨p, 0, none⟩)) (c1 : w.cell? ⟨p, 0, none⟩ = some (.bool v)) :
    (results Try.f102 tmps).run Try.prog w = .ok (.bool v) w := by
  rw [Array.getD_eq_getD_getElem?] at hp
  simp [results, Try.f102, hp, go_sem, c1]
theorem below_abc {w : World} (a b c : Obj) : Below w.heap.size w (((w.alloc a).alloc b).alloc c) := (((Below.refl _ w).alloc (Nat.le_refl _) _).alloc (by simp) _).alloc (by simp; omega) _

set_option maxRecDepth 100000 in
set_option maxHeartbeats 4000000 in
theorem right_no (n cf : Nat) (caps : Array Value) (K L : Nat → Int) (N : Int) (hb : ¬ (1 ≤ N ∧ N ≤ 255 ∧ 1 ≤ n ∧ n ≤ 8)) (w : World) :
    Calls Try.prog 102 #[.agg #[.int .i64 (n : Nat), .func (.func cf) #[] caps], .int .i64 N] w fun e w' => TabSays N n K L e ∧ Below w.heap.size w w' := by
  have hno : TabSays N n K L (.returned (.bool false)) := ⟨false, rfl, ⟨(fun h => by cases h), fun h => absurd ⟨h.1, h.2.1, h.2.2.1, h.2.2.2.1⟩ hb⟩⟩
  have HNO := Lib.hid hno; have HB := Lib.hid hb; clear hno hb
  have hBe := fun x => below_abc (w := w) (.cells #[.int .i64 (n : Nat), .func (.func cf) #[] caps] 132) (.cells #[.int .i64 N] 3) (.cells #[x] 4)
  have HBE := Lib.hid hBe; clear hBe
  by_cases h1 : N < 1
  · have g1 : decide (N < 1) = true := by simp; omega
    go_enter Try.func102, Try.ntmps102
    go_wp2
    exact bodyPost_ret (results_right rfl (by first | rfl | simp [go_sem])) rfl ⟨HNO.out, HBE.out _⟩
  · have g1 : decide (N < 1) = false := by simp; omega
    by_cases h2 : 255 < N
    · have g2 : decide ((255 : Int) < N) = true := by simp; omega
      go_enter Try.func102, Try.ntmps102
      go_wp2
      exact bodyPost_ret (results_right rfl (by first | rfl | simp [go_sem])) rfl ⟨HNO.out, HBE.out _⟩
    · have g2 : decide ((255 : Int) < N) = false := by simp; omega
      by_cases h3 : n < 1
      · have g3 : decide ((n : Int) < 1) = true := by simp; omega
        go_enter Try.func102, Try.ntmps102
        go_wp2
        exact bodyPost_ret (results_right rfl (by first | rfl | simp [go_sem])) rfl ⟨HNO.out, HBE.out _⟩
      · have g3 : decide ((n : Int) < 1) = false := by simp; omega
        have h4 : 8 < n := by have := HB.out; omega
        have g4 : decide ((8 : Int) < (n : Int)) = true := by simp; omega
        go_enter Try.func102, Try.ntmps102
        go_wp2
        exact bodyPost_ret (results_right rfl (by first | rfl | simp [go_sem])) rfl ⟨HNO.out, HBE.out _⟩

set_option maxRecDepth 100000 in
set_option maxHeartbeats 4000000 in
theorem right_l (n cf : Nat) (caps : Array Value) (K L : Nat → Int) (Dom : Nat → Prop) (N : Int) (w : World) (hA : AskL Dom w cf n caps K L) :
    Calls Try.prog 102 #[.agg #[.int .i64 (n : Nat), .func (.func cf) #[] caps], .int .i64 N] w fun e w' => TabSays N n K L e ∧ Below w.heap.size w w' := by
  by_cases hb : 1 ≤ N ∧ N ≤ 255 ∧ 1 ≤ n ∧ n ≤ 8
  case neg => exact right_no n cf caps K L N hb w
  refine (callsIn_wide (n := 6)).1 ?_
  have hW : ∀ k, Fence.wide.fn k := fun _ => trivial
  have hD : Fence.wide.depth = none := rfl
  have HA := Lib.hid hA
  clear hA
  refine callsIn_of_wp_marks Try.func102 rfl trivial ?_ rfl
  simp only [Try.ntmps102, List.size_toArray, List.length_cons, List.length_nil, Nat.reduceAdd, Nat.reduceSub, Array.replicate_succ, Array.replicate_zero, List.push_toArray, List.append_toArray, List.nil_append, List.cons_append]
  obtain ⟨h1, h2, h3, h4⟩ := hb
  have i1 : decide (N < 1) = false := by simp; omega
  have i2 : decide ((255 : Int) < N) = false := by simp; omega
  have i3 : decide ((n : Int) < 1) = false := by simp; omega
  have i4 : decide ((8 : Int) < (n : Int)) = false := by simp; omega
  gi_wp2_with (first
    | (gi_at_call 104; refine (callsIn_wide.2 (parts_l _ _ _ _)).mono ?_; rintro e w1 ⟨rfl, hw1⟩))
  clear i1 i2 i3 i4
  rw [← hw1]
  have hS1 : RiS N w w1 false 1 := by
    rw [hw1]
    have b1 := (((Boxed.new (w.alloc (.cells #[.int .i64 (n : Nat), .func (.func cf) #[] caps] 132)) 3 (.int .i64 N)).alloc (.cells #[.bool false] 4)).alloc (.cells #[.int .i64 1] 3)).alloc (.cells #[.int .i64 (n : Nat), .func (.func cf) #[] caps] 132)
    have b2 := ((Boxed.new ((w.alloc (.cells #[.int .i64 (n : Nat), .func (.func cf) #[] caps] 132)).alloc (.cells #[.int .i64 N] 3)) 4 (.bool false)).alloc (.cells #[.int .i64 1] 3)).alloc (.cells #[.int .i64 (n : Nat), .func (.func cf) #[] caps] 132)
    have b3 := (Boxed.new (((w.alloc (.cells #[.int .i64 (n : Nat), .func (.func cf) #[] caps] 132)).alloc (.cells #[.int .i64 N] 3)).alloc (.cells #[.bool false] 4)) 3 (.int .i64 1)).alloc (.cells #[.int .i64 (n : Nat), .func (.func cf) #[] caps] 132)
    exact ⟨by simpa using b1, by simpa using b2, by simpa using b3, ((below_abc _ _ _).alloc (by simp; omega) _).alloc (by simp; omega) _⟩
  have hG1 : Gl (w.heap.size + 1 + 1 + 1 + 1) cf n caps Dom w w1 := by
    refine ⟨?_, HA.out.agr hS1.be, hS1.be.size⟩
    rw [hw1]
    have := heap_alloc_new ((((w.alloc (.cells #[.int .i64 (n : Nat), .func (.func cf) #[] caps] 132)).alloc (.cells #[.int .i64 N] 3)).alloc (.cells #[.bool false] 4)).alloc (.cells #[.int .i64 1] 3)) (.cells #[.int .i64 (n : Nat), .func (.func cf) #[] caps] 132)
    simpa using this
  have hs1 : w.heap.size + 1 + 1 + 1 + 1 < w1.heap.size := hG1.lt
  have HS1 := Lib.hid hS1; have HG1 := Lib.hid hG1
  have hz1 := hS1.be.size
  clear hw1 hS1 hG1
  refine' wpIn_rangeFunc_ownH rfl (by omega) (gf := 111) (lb := #[.pointer (some ⟨w.heap.size + 1 + 1 + 1 + 1, 0, none⟩)]) rfl trivial (enters_of Try.func111 (by kernel_rfl) rfl)
    (parts_stops _ (w.heap.size + 1 + 1 + 1 + 1) cf n caps K L Dom w HA.out h4 _ HG1.out) kpL_t (kpL_b HA.out hz1) (Below.refl _ _) (fun _ => rfl)
    (fun pre W => w1.heap.size ≤ W.heap.size ∧ ∃ le, RiS N w W false le ∧ ∀ k, pre.map Tk.i = List.range k → le = lst K k ∧ ∀ i, i < k → RowOk N K L i)
    (fun cc pre W => cc = .ret ∧ ∃ le, RiS N w W false le ∧ ∀ k, pre.map Tk.i = List.range k → ∃ i, i < n ∧ ¬ RowOk N K L i)
    (fun s X Y row h hg hr => by
      obtain ⟨h0, v, hs, hv⟩ := h
      exact ⟨Nat.le_trans h0 hg.size, v, hs.kep hg (fun r e => ⟨by have := (hr r e).1; omega, (hr r e).2⟩), hv⟩)
    (fun c s X Y row h hg hr => by
      obtain ⟨h0, v, hs, hv⟩ := h
      exact ⟨h0, v, hs.kep hg (fun r e => ⟨by have := (hr r e).1; omega, (hr r e).2⟩), hv⟩)
    ⟨Nat.le_refl _, 1, HS1.out, fun k hk => by rw [rng_nil hk]; exact ⟨rfl, fun i hi => absurd hi (Nat.not_lt_zero i)⟩⟩
    (fun x a' W' => ∃ p, w1.heap.size ≤ p ∧ a' = ⟨#[.agg #[.int .i64 (n : Nat), .func (.func cf) #[] caps], .int .i64 N, .pointer (some ⟨w.heap.size, 0, none⟩), .pointer (some ⟨w.heap.size + 1, 0, none⟩), .pointer (some ⟨w.heap.size + 1 + 1, 0, none⟩), .pointer (some ⟨w.heap.size + 1 + 1 + 1, 0, none⟩), undef, .pointer (some ⟨p, 0, none⟩), .int .i64 N, .bool false, .bool false, .int .i64 N, .bool false, .bool false, .bool false, .pointer (some ⟨w.heap.size, 0, none⟩), .int .i64 (n : Nat), .bool false, .bool false, .bool false, .pointer (some ⟨w.heap.size, 0, none⟩), .int .i64 (n : Nat), .bool false, .bool false, .agg #[.int .i64 (n : Nat), .func (.func cf) #[] caps], .func (.func 111) #[] #[.pointer (some ⟨w.heap.size + 1 + 1 + 1 + 1, 0, none⟩)], .int .i64 (x.i : Nat), partV (K x.i) (L x.i) (off K L x.i) (off K L (x.i + 1)), undef, undef, undef, undef, undef, undef, undef, undef, undef, undef, undef, undef, undef, undef, undef, undef, undef, undef, undef, undef, undef, undef, undef, undef, undef, undef, undef], []⟩ ∧ PartAt W' p K L x.i)
    (fun x a' _ X Y row h hg hr => by obtain ⟨p, h0, h1, h2⟩ := h; exact ⟨p, h0, h1, h2.kept hg (fun r e => (hr r e).2)⟩)
    ?assign ?body ?done ?stop
  case assign =>
    rintro q pre x W KK ⟨hz, le, hs, hv⟩ hK
    have hB := (Below.refl W.heap.size W).alloc (Nat.le_refl _) (.cells #[.int .i64 (K x.i), .int .i64 (L x.i), .int .i64 (off K L x.i : Nat), .int .i64 (off K L (x.i + 1) : Nat)] 180)
    have hR := hK _ _ ((KeepsOthers.alloc W (.cells #[.int .i64 (K x.i), .int .i64 (L x.i), .int .i64 (off K L x.i : Nat), .int .i64 (off K L (x.i + 1) : Nat)] 180)).from _) (fun g => g.same HA.out hB) ⟨Nat.le_trans hz hB.size, le, hs.kep (below_grown hB none) (fun r e => by cases e), hv⟩ ⟨W.heap.size, hz, rfl, heap_alloc_new W _⟩
    unfold encL
    unfold partV at hR ⊢
    gi_wp2
    exact hR
  case body =>
    rintro q pre x a' W hq _ ⟨hz, le, hs, hv⟩ ⟨p, hp, rfl, hpa⟩ hlen
    have c1 : W.cell? ⟨p, 0, none⟩ = some (.int .i64 (K x.i)) := by rw [cell_of_row W p 0 _ _ _ hpa]; rfl
    have c2 : W.cell? ⟨p, 1, none⟩ = some (.int .i64 (L x.i)) := by rw [cell_of_row W p 1 _ _ _ hpa]; rfl
    have d0 := hs.n.cell; have d2 := hs.l.cell; have f2 := hs.l.frozen
    have d1 := hs.v.cell; have f1 := hs.v.frozen
    have HV := Lib.hid hv
    have HZ := Lib.hid hz
    have HS := Lib.hid hs
    clear hpa hv hz hs
    by_cases hok : le ≤ K x.i ∧ K x.i ≤ N ∧ 0 ≤ L x.i ∧ L x.i ≤ 65535
    · have g1 : decide (K x.i < le) = false := by simp; omega
      have g2 : decide (N < K x.i) = false := by simp; omega
      have g3 : decide (L x.i < 0) = false := by simp; omega
      have g4 : decide ((65535 : Int) < L x.i) = false := by simp; omega
      have HOK := Lib.hid hok; clear hok
      gi_wp2
      refine ⟨(KeepsOthers.setCell _ _ _).from _, kpL_set HA.out ⟨w.heap.size + 1 + 1 + 1, 0, none⟩ _ (by simp) (fun h => absurd (HA.out.lt _ h) (by simp; omega)), by simpa using HZ.out, K x.i, HS.out.setL, fun k hk => ?_⟩
      obtain ⟨k2, rfl, h2, e⟩ := rng_snoc hk
      obtain ⟨hle, hro⟩ := HV.out k2 h2
      have hok := HOK.out
      rw [e, hle] at hok
      rw [e]
      refine ⟨rfl, fun i hi => ?_⟩
      by_cases e2 : i = k2
      · rw [e2]; exact (row_lst hro).2 hok
      · exact hro i (by omega)
    · have hno : ∀ k, (pre ++ [x]).map Tk.i = List.range k → ∃ i, i < n ∧ ¬ RowOk N K L i := fun k hk => by
        obtain ⟨k2, rfl, h2, e⟩ := rng_snoc hk
        obtain ⟨hle, hro⟩ := HV.out k2 h2
        refine ⟨k2, by have := x.hi; omega, fun h => hok ?_⟩
        rw [e, hle]
        exact (row_lst hro).1 h
      have HNO := Lib.hid hno; clear hno
      by_cases c1 : K x.i < le
      · have g1 : decide (K x.i < le) = true := by simp; omega
        clear hok
        gi_wp2
        first | exact ⟨(KeepsOthers.setCell _ _ _).from _, rfl, ⟨le, HS.out.set⟩, HNO.out⟩ | exact ⟨(KeepsOthers.setCell _ _ _).from _, rfl, le, HS.out.set, HNO.out⟩
      · have g1 : decide (K x.i < le) = false := by simp; omega
        by_cases c2 : N < K x.i
        · have g2 : decide (N < K x.i) = true := by simp; omega
          clear hok
          gi_wp2
          first | exact ⟨(KeepsOthers.setCell _ _ _).from _, rfl, ⟨le, HS.out.set⟩, HNO.out⟩ | exact ⟨(KeepsOthers.setCell _ _ _).from _, rfl, le, HS.out.set, HNO.out⟩
        · have g2 : decide (N < K x.i) = false := by simp; omega
          by_cases c3 : L x.i < 0
          · have g3 : decide (L x.i < 0) = true := by simp; omega
            clear hok
            gi_wp2
            first | exact ⟨(KeepsOthers.setCell _ _ _).from _, rfl, ⟨le, HS.out.set⟩, HNO.out⟩ | exact ⟨(KeepsOthers.setCell _ _ _).from _, rfl, le, HS.out.set, HNO.out⟩
          · have g3 : decide (L x.i < 0) = false := by simp; omega
            have g4 : decide ((65535 : Int) < L x.i) = true := by simp; omega
            clear hok
            gi_wp2
            first | exact ⟨(KeepsOthers.setCell _ _ _).from _, rfl, ⟨le, HS.out.set⟩, HNO.out⟩ | exact ⟨(KeepsOthers.setCell _ _ _).from _, rfl, le, HS.out.set, HNO.out⟩
  case done =>
    rintro D ys W hD hys ⟨hz, le, hs, hv⟩ hK
    have hT : TabOk N n K L := ⟨h1, h2, h3, h4, (hv n hys).2⟩
    have d1 := hs.v.cell; have f1 := hs.v.frozen
    have HT := Lib.hid hT; have HS := Lib.hid hs
    clear hT hs hv hys
    gi_wp2
    have hK' := (KeepsOthers.setCell W ⟨w.heap.size + 1 + 1, 0, none⟩ (.bool true)).same D _ hK rfl
    refine ⟨by simp, .inl ⟨_, _, rfl, run_takeDeferred hK', ?_⟩⟩
    have hF := (HS.out.set (v' := true)).kep (grownBy_putObj' _ D (.deferred none)) (fun k e => by cases e; exact ⟨by omega, _, hK', rfl⟩)
    exact ⟨_, results_right rfl hF.v.cell, ⟨true, rfl, fun _ => HT.out, fun _ => rfl⟩, hF.be⟩
  case stop =>
    rintro D cc pre W hD ⟨k, hk, hp⟩ ⟨rfl, le, hs, hr⟩ hK
    have HR := Lib.hid (hr k hp); have HS := Lib.hid hs
    clear hr hs hp
    gi_wp2
    refine ⟨by simp, .inl ⟨_, _, rfl, run_takeDeferred hK, ?_⟩⟩
    have hF := HS.out.kep (grownBy_putObj' _ D (.deferred none)) (fun k e => by cases e; exact ⟨by omega, _, hK, rfl⟩)
    refine ⟨_, results_right rfl hF.v.cell, ⟨false, rfl, (fun h => by cases h), fun h => ?_⟩, hF.be⟩
    obtain ⟨i, hi, hn⟩ := HR.out
    exact absurd (h.2.2.2.2 i hi) hn
end Go.Proofs.Ythkcacnlinajgaa.Ly

namespace Go.Proofs.Ythkcacnlinajgaa.Ly
open Go.RowKit Go.Shelf
open Go.Proofs.Ythkcacnlinajgaa.Sp (Bad wid)
attribute [local go_sem] Oper.semAt_some

/-! the calls of lay that tell of a table -/
set_option maxHeartbeats 1000000 in
theorem lRight_any (N : Int) (a : Option Addr) (n cap : Nat) (K L : Nat → Int) (w : World) (hT : Tb w a n K L) :
    Calls Try.prog 79 #[.int .i64 N, .slice a n cap] w fun e w' => TabSays N n K L e ∧ Below w.heap.size w w' := by
  have HT := Lib.hid hT; clear hT
  go_enter Try.func79, Try.ntmps79
  go_wp2_with fail
  refine (of_l a n cap _).mono ?_
  rintro e w1 ⟨rfl, hB1, hb1⟩
  have hA := ask_of w.heap.size w w1 w.heap.size a n cap K L rfl hB1 hb1 HT.out
  have HA := Lib.hid hA; have HB1 := Lib.hid hB1
  clear hA hB1 hb1
  go_wp2_with fail
  refine (right_l n _ _ K L _ N _ HA.out).mono ?_
  rintro e w2 ⟨⟨v, rfl, hv⟩, hB2⟩
  have HV := Lib.hid hv; have HB2 := Lib.hid (HB1.out.trans (hB2.mono HB1.out.size))
  clear hv hB2
  go_wp2
  go_ret
  exact ⟨⟨v, rfl, HV.out⟩, HB2.out⟩
/-- a number, or an error. -/
def NumSays (N : Int) (n : Nat) (K L : Nat → Int) (P : Nat → Prop) (e : Ending) : Prop := (¬ TabOk N n K L ∧ e = .returned (.tuple #[.int .i64 0, .int .i64 2])) ∨ (TabOk N n K L ∧ ∃ m : Nat, P m ∧ e = .returned (.tuple #[.int .i64 (m : Nat), .int .i64 0]))
set_option maxHeartbeats 1000000 in
theorem lLong_any (N : Int) (a : Option Addr) (n cap : Nat) (K L : Nat → Int) (w : World) (hT : Tb w a n K L) :
    Calls Try.prog 46 #[.int .i64 N, .slice a n cap] w fun e w' => NumSays N n K L (fun m => m = off K L n) e ∧ Below w.heap.size w w' := by
  have HT := Lib.hid hT; clear hT
  go_enter Try.func46, Try.ntmps46
  go_wp2_with fail
  refine (lRight_any N a n cap K L _ HT.out).mono ?_
  rintro e w1 ⟨⟨v, rfl, hv⟩, hB1⟩
  have HV := Lib.hid hv; have HB1 := Lib.hid hB1; clear hv hB1
  cases v
  · go_wp2
    go_ret2
    exact ⟨Or.inl ⟨fun h => absurd (HV.out.2 h) (by simp), rfl⟩, HB1.out⟩
  · have ht := HV.out.1 rfl
    have hn8 := ht.2.2.2.1
    have HTO := Lib.hid ht; clear ht
    go_wp2_with fail
    refine (of_l a n cap _).mono ?_
    rintro e w2 ⟨rfl, hB2, hb2⟩
    have hA := ask_of w1.heap.size w1 w2 w1.heap.size a n cap K L rfl hB2 hb2 (HT.out.same HB1.out)
    have HA := Lib.hid hA; have HB2 := Lib.hid (HB1.out.trans (hB2.mono HB1.out.size))
    clear hA hB2 hb2
    go_wp2_with fail
    refine (long_l n _ _ K L _ hn8 _ HA.out).mono ?_
    rintro e w3 ⟨rfl, hB3⟩
    have HB3 := Lib.hid (HB2.out.trans (hB3.mono HB2.out.size)); clear hB3
    go_wp2
    go_ret2
    exact ⟨Or.inr ⟨HTO.out, _, rfl, rfl⟩, HB3.out⟩
end Go.Proofs.Ythkcacnlinajgaa.Ly

namespace Go.Proofs.Ythkcacnlinajgaa.Ly
open Go.RowKit Go.Shelf
open Go.Proofs.Ythkcacnlinajgaa.Sp (Bad wid rwidth_ok rwidth_bad)
attribute [local go_sem] Oper.semAt_some

/-! the document's -/
theorem rwidth_any (x k : Int) (w : World) :
    Calls Try.prog 32 #[.int .i64 x, .int .i64 k] w fun e w' => e = .returned (.tuple #[.int .i64 (widI x k : Nat), .int .i64 (widE x k)]) ∧ w' = w := by
  by_cases h : Bad x k
  · have e1 : widI x k = 0 := if_pos h
    have e2 : widE x k = 2 := if_pos h
    rw [e1, e2]
    exact rwidth_bad x k h w
  · have h' := h
    unfold Bad at h'
    obtain ⟨X, rfl⟩ : ∃ X : Nat, x = X := ⟨x.toNat, by omega⟩
    obtain ⟨Y, rfl⟩ : ∃ Y : Nat, k = Y := ⟨k.toNat, by omega⟩
    have e1 : widI X Y = wid X Y := by rw [widI_ok h]; simp
    have e2 : widE X Y = 0 := if_neg h
    rw [e1, e2]
    exact rwidth_ok X Y (by omega) (by omega) (by omega) w
end Go.Proofs.Ythkcacnlinajgaa.Ly

namespace Go.Proofs.Ythkcacnlinajgaa.Ly
open Go.RowKit Go.Shelf

theorem rdy_ex' (n : Nat) (K : Nat → Int) (came : Int) : ∃ mm, RdyN n K came mm := by
  induction n with
  | zero => exact ⟨0, Nat.le_refl _, fun i hi => absurd hi (Nat.not_lt_zero i), fun h => absurd h (Nat.lt_irrefl _)⟩
  | succ n ih =>
    obtain ⟨mm, h1, h2, h3⟩ := ih
    by_cases c : mm < n
    · exact ⟨mm, by omega, h2, fun _ => h3 c⟩
    · obtain rfl : mm = n := by omega
      by_cases c2 : K mm ≤ came
      · exact ⟨mm + 1, Nat.le_refl _, fun i hi => (by
          by_cases e : i = mm
          · rw [e]; exact c2
          · exact h2 i (by omega)), fun h => absurd h (Nat.lt_irrefl _)⟩
      · exact ⟨mm, by omega, h2, fun _ => by omega⟩
theorem tab_mono' {N : Int} {n : Nat} {K L : Nat → Int} (h : TabOk N n K L) {i : Nat} : ∀ j, i ≤ j → j < n → K i ≤ K j
  | 0, h1, _ => by obtain rfl : i = 0 := by omega
                   exact Int.le_refl _
  | j + 1, h1, h2 => by
    by_cases e : i = j + 1
    · rw [e]; exact Int.le_refl _
    · have h3 := tab_mono' h (i := i) j (by omega) (by omega)
      have h4 := (h.2.2.2.2 (j + 1) h2).2.2.2.2 (by omega)
      rw [Nat.add_sub_cancel] at h4
      omega
theorem rdy_iff' {N : Int} {n : Nat} {K L : Nat → Int} {came : Int} {mm : Nat} (h : TabOk N n K L) (hr : RdyN n K came mm) {i : Nat} (hi : i < n) : K i ≤ came ↔ i < mm := by
  constructor
  · intro hk
    rcases Nat.lt_or_ge i mm with c | c
    · exact c
    · have h1 := hr.2.2 (Nat.lt_of_le_of_lt c hi)
      have h2 := tab_mono' h i c hi
      omega
  · exact hr.2.1 i
end Go.Proofs.Ythkcacnlinajgaa.Ly

namespace Go.Proofs.Ythkcacnlinajgaa.Sz
open Go.RowKit Go.Shelf
open Go.Proofs.Ythkcacnlinajgaa.Ly (TabOk RowOk off off_le widI widE widI_le NumSays Tb lLong_any)

/-- bounds that are right. -/
def RB (N M B : Int) : Prop := (1 ≤ N ∧ N ≤ 255) ∧ (64 ≤ M ∧ M ≤ 1500) ∧ 1 ≤ B ∧ B ≤ 524288
def bV (N M B : Int) : Value := .agg #[.int .i64 N, .int .i64 M, .int .i64 B]
def RSays (N M B : Int) (e : Ending) : Prop := ∃ v : Bool, e = .returned (.bool v) ∧ (v = true ↔ RB N M B)
set_option maxHeartbeats 2000000 in
set_option maxRecDepth 100000 in
theorem right_any (N M B : Int) (w : World) :
    Calls Try.prog 34 #[bV N M B] w fun e w' => RSays N M B e ∧ Below w.heap.size w w' := by
  have HB := Lib.hid ((Below.refl w.heap.size w).alloc (Nat.le_refl _) (.cells #[.int .i64 N, .int .i64 M, .int .i64 B] 23))
  unfold bV
  go_enter Try.func34, Try.ntmps34
  by_cases h0 : 1 ≤ N
  rotate_left
  · have g0 : decide (1 ≤ N) = false := by simp; omega
    go_wp2
    go_ret
    exact ⟨⟨false, rfl, fun h => (by cases h), fun h => (by unfold RB at h; omega)⟩, HB.out⟩
  have g0 : decide (1 ≤ N) = true := by simp [h0]
  by_cases h1 : N ≤ 255
  rotate_left
  · have g1 : decide (N ≤ 255) = false := by simp; omega
    go_wp2
    go_ret
    exact ⟨⟨false, rfl, fun h => (by cases h), fun h => (by unfold RB at h; omega)⟩, HB.out⟩
  have g1 : decide (N ≤ 255) = true := by simp [h1]
  by_cases h2 : 64 ≤ M
  rotate_left
  · have g2 : decide (64 ≤ M) = false := by simp; omega
    go_wp2
    go_ret
    exact ⟨⟨false, rfl, fun h => (by cases h), fun h => (by unfold RB at h; omega)⟩, HB.out⟩
  have g2 : decide (64 ≤ M) = true := by simp [h2]
  by_cases h3 : M ≤ 1500
  rotate_left
  · have g3 : decide (M ≤ 1500) = false := by simp; omega
    go_wp2
    go_ret
    exact ⟨⟨false, rfl, fun h => (by cases h), fun h => (by unfold RB at h; omega)⟩, HB.out⟩
  have g3 : decide (M ≤ 1500) = true := by simp [h3]
  by_cases h4 : 1 ≤ B
  rotate_left
  · have g4 : decide (1 ≤ B) = false := by simp; omega
    go_wp2
    go_ret
    exact ⟨⟨false, rfl, fun h => (by cases h), fun h => (by unfold RB at h; omega)⟩, HB.out⟩
  have g4 : decide (1 ≤ B) = true := by simp [h4]
  by_cases h5 : B ≤ 524288
  rotate_left
  · have g5 : decide (B ≤ 524288) = false := by simp; omega
    go_wp2
    go_ret
    exact ⟨⟨false, rfl, fun h => (by cases h), fun h => (by unfold RB at h; omega)⟩, HB.out⟩
  have g5 : decide (B ≤ 524288) = true := by simp [h5]
  go_wp2
  go_ret
  exact ⟨⟨true, rfl, fun _ => (by unfold RB; omega), fun _ => rfl⟩, HB.out⟩
set_option maxHeartbeats 2000000 in
set_option maxRecDepth 100000 in
theorem rright_any (N M B : Int) (w : World) :
    Calls Try.prog 37 #[bV N M B] w fun e w' => RSays N M B e ∧ Below w.heap.size w w' := by
  have HB := Lib.hid ((Below.refl w.heap.size w).alloc (Nat.le_refl _) (.cells #[.int .i64 N, .int .i64 M, .int .i64 B] 33))
  unfold bV
  go_enter Try.func37, Try.ntmps37
  by_cases h0 : 1 ≤ N
  rotate_left
  · have g0 : decide (1 ≤ N) = false := by simp; omega
    go_wp2
    go_ret
    exact ⟨⟨false, rfl, fun h => (by cases h), fun h => (by unfold RB at h; omega)⟩, HB.out⟩
  have g0 : decide (1 ≤ N) = true := by simp [h0]
  by_cases h1 : N ≤ 255
  rotate_left
  · have g1 : decide (N ≤ 255) = false := by simp; omega
    go_wp2
    go_ret
    exact ⟨⟨false, rfl, fun h => (by cases h), fun h => (by unfold RB at h; omega)⟩, HB.out⟩
  have g1 : decide (N ≤ 255) = true := by simp [h1]
  by_cases h2 : 64 ≤ M
  rotate_left
  · have g2 : decide (64 ≤ M) = false := by simp; omega
    go_wp2
    go_ret
    exact ⟨⟨false, rfl, fun h => (by cases h), fun h => (by unfold RB at h; omega)⟩, HB.out⟩
  have g2 : decide (64 ≤ M) = true := by simp [h2]
  by_cases h3 : M ≤ 1500
  rotate_left
  · have g3 : decide (M ≤ 1500) = false := by simp; omega
    go_wp2
    go_ret
    exact ⟨⟨false, rfl, fun h => (by cases h), fun h => (by unfold RB at h; omega)⟩, HB.out⟩
  have g3 : decide (M ≤ 1500) = true := by simp [h3]
  by_cases h4 : 1 ≤ B
  rotate_left
  · have g4 : decide (1 ≤ B) = false := by simp; omega
    go_wp2
    go_ret
    exact ⟨⟨false, rfl, fun h => (by cases h), fun h => (by unfold RB at h; omega)⟩, HB.out⟩
  have g4 : decide (1 ≤ B) = true := by simp [h4]
  by_cases h5 : B ≤ 524288
  rotate_left
  · have g5 : decide (B ≤ 524288) = false := by simp; omega
    go_wp2
    go_ret
    exact ⟨⟨false, rfl, fun h => (by cases h), fun h => (by unfold RB at h; omega)⟩, HB.out⟩
  have g5 : decide (B ≤ 524288) = true := by simp [h5]
  go_wp2
  go_ret
  exact ⟨⟨true, rfl, fun _ => (by unfold RB; omega), fun _ => rfl⟩, HB.out⟩
/-- a size, or none. -/
def OfSays (N : Int) (n : Nat) (K L : Nat → Int) (e : Ending) : Prop := (¬ TabOk N n K L ∧ e = .returned (.tuple #[.int .i64 0, .int .i64 2])) ∨ (TabOk N n K L ∧ e = .returned (.tuple #[.int .i64 (18 + 3 * n + off K L n : Nat), .int .i64 0]))
set_option maxHeartbeats 1000000 in
theorem ahead_any (n : Int) (hn : -1000000 ≤ n ∧ n ≤ 1000000) (w : World) :
    Calls Try.prog 47 #[.int .i64 n] w fun e w' => e = .returned (.int .i64 (18 + 3 * n)) ∧ w' = w := by
  go_enter Try.func47, Try.ntmps47
  go_wp2
  go_ret
  exact ⟨rfl, rfl⟩
set_option maxHeartbeats 1000000 in
theorem of_any (N : Int) (a : Option Addr) (n cap : Nat) (K L : Nat → Int) (w : World) (hT : Tb w a n K L) :
    Calls Try.prog 23 #[.int .i64 N, .slice a n cap] w fun e w' => OfSays N n K L e ∧ Below w.heap.size w w' := by
  have HT := Lib.hid hT; clear hT
  go_enter Try.func23, Try.ntmps23
  go_wp2_with fail
  refine (lLong_any N a n cap K L _ HT.out).mono ?_
  rintro e w1 ⟨hns, hB1⟩
  have HB1 := Lib.hid hB1; clear hB1
  rcases hns with ⟨hno, rfl⟩ | ⟨ht, T, rfl, rfl⟩
  · have HNO := Lib.hid hno; clear hno
    go_wp2
    go_ret2
    exact ⟨Or.inl ⟨HNO.out, rfl⟩, HB1.out⟩
  · have h8 := ht.2.2.2.1
    have HTO := Lib.hid ht; clear ht
    have hT1 : off K L n ≤ 8 * 65535 := Nat.le_trans (off_le _ _ n) (Nat.mul_le_mul_right _ h8)
    have hs : (18 : Int) + 3 * (n : Int) + ((off K L n : Nat) : Int) = ((18 + 3 * n + off K L n : Nat) : Int) := by omega
    have HS := Lib.hid hs; clear hs
    go_wp2_with fail
    refine (ahead_any (n : Nat) (by omega) _).mono ?_
    rintro e w2 ⟨rfl, rfl⟩
    go_wp2
    go_ret2
    exact ⟨Or.inr ⟨HTO.out, by rw [← HS.out]; rfl⟩, HB1.out⟩
/-- how long a body may be. -/
def roomI (N M B y : Int) : Int := max (min M (B / N) - (18 + 3 * y)) (-1)
def RoomSays (N M B y : Int) (e : Ending) : Prop := (¬ (RB N M B ∧ 1 ≤ y ∧ y ≤ 8) ∧ e = .returned (.tuple #[.int .i64 0, .int .i64 2])) ∨ ((RB N M B ∧ 1 ≤ y ∧ y ≤ 8) ∧ e = .returned (.tuple #[.int .i64 (roomI N M B y), .int .i64 0]))
set_option maxHeartbeats 2000000 in
set_option maxRecDepth 100000 in
theorem room_any (N M B y : Int) (w : World) :
    Calls Try.prog 27 #[bV N M B, .int .i64 y] w fun e w' => RoomSays N M B y e ∧ Below w.heap.size w w' := by
  have hb0 := (Below.refl w.heap.size w).alloc (Nat.le_refl _) (.cells #[.int .i64 N, .int .i64 M, .int .i64 B] 23)
  have hh0 := heap_alloc_new w (.cells #[.int .i64 N, .int .i64 M, .int .i64 B] 23)
  unfold bV
  go_enter Try.func27, Try.ntmps27
  have HB0 := Lib.hid hb0; have HH0 := Lib.hid hh0
  clear hb0 hh0
  go_wp2_with fail
  refine (right_any N M B _).mono ?_
  rintro e w1 ⟨⟨v, rfl, hv⟩, hB1⟩
  have HB1 := Lib.hid (HB0.out.trans (hB1.mono HB0.out.size))
  have hh1 := (hB1.block w.heap.size (by simp)).trans HH0.out
  have HV := Lib.hid hv
  clear hv hB1 HH0
  cases v
  · go_wp2
    go_ret2
    exact ⟨Or.inl ⟨fun h => absurd (HV.out.2 h.1) (by simp), rfl⟩, HB1.out⟩
  · have hrb := HV.out.1 rfl
    have HRB := Lib.hid hrb
    by_cases hy1 : y < 1
    · have g1 : decide (y < 1) = true := by simp [hy1]
      go_wp2
      go_ret2
      exact ⟨Or.inl ⟨fun h => by omega, rfl⟩, HB1.out⟩
    · have g1 : decide (y < 1) = false := by simp; omega
      by_cases hy8 : 8 < y
      · have g2 : decide (8 < y) = true := by simp [hy8]
        go_wp2
        go_ret2
        exact ⟨Or.inl ⟨fun h => by omega, rfl⟩, HB1.out⟩
      · have g2 : decide (8 < y) = false := by simp; omega
        unfold RB at hrb
        obtain ⟨⟨n1, n2⟩, ⟨m1, m2⟩, b1, b2⟩ := hrb
        obtain ⟨q, hq⟩ : ∃ q, q = B / N := ⟨_, rfl⟩
        have q0 : 0 ≤ q := by rw [hq]; exact Int.ediv_nonneg (by omega) (by omega)
        have q1 : q ≤ 524288 := by rw [hq]; exact Int.le_trans (Int.ediv_le_self _ (by omega)) b2
        have k1 : B.tdiv N = q := by rw [hq, Int.tdiv_eq_ediv_of_nonneg (by omega)]
        have k2 : B / N = q := hq.symm
        have k3 : ¬ N = 0 := by omega
        have c0 : w1.cell? ⟨w.heap.size, 0, none⟩ = some (.int .i64 N) := by rw [cell_of_row w1 _ 0 _ _ _ hh1]; rfl
        have c1 : w1.cell? ⟨w.heap.size, 1, none⟩ = some (.int .i64 M) := by rw [cell_of_row w1 _ 1 _ _ _ hh1]; rfl
        have c2 : w1.cell? ⟨w.heap.size, 2, none⟩ = some (.int .i64 B) := by rw [cell_of_row w1 _ 2 _ _ _ hh1]; rfl
        have k4 : IntKind.i64.wrap q = q := IntWalk.i64_in _ (by omega)
        have HRM := Lib.hid (show roomI N M B y = max (min M q - (18 + 3 * y)) (-1) by unfold roomI; rw [hq])
        clear hq hh1 g1 g2
        go_wp2_with fail
        go_quiet (fail)
        have HBD := Lib.hid (below_dr HB1.out nq)
        clear c0 c1 c2 k1 k2 k4
        go_wp2_with fail
        all_goals
          refine (ahead_any y (by omega) _).mono ?_
          rintro e w2 ⟨rfl, rfl⟩
          go_wp2
          all_goals
            go_ret2
            refine ⟨Or.inr ⟨⟨HRB.out, by omega⟩, ?_⟩, HBD.out⟩
            rw [HRM.out]
            first
              | (rw [show max (min M q - (18 + 3 * y)) (-1) = q - (18 + 3 * y) by omega]; rfl)
              | (rw [show max (min M q - (18 + 3 * y)) (-1) = M - (18 + 3 * y) by omega]; rfl)
              | (rw [show max (min M q - (18 + 3 * y)) (-1) = -1 by omega]; rfl)
/-- where the room of the document ends. -/
theorem room_top {N M B y r : Int} (hB : RB N M B) (hr : -1 ≤ r) (_hy : 1 ≤ y) : (18 + 3 * y + r + 1 ≤ M ∧ N * (18 + 3 * y + r + 1) ≤ B) ↔ r + 1 ≤ roomI N M B y := by
  unfold RB at hB
  have h1 : N * (18 + 3 * y + r + 1) ≤ B ↔ 18 + 3 * y + r + 1 ≤ B / N := by
    rw [Int.le_ediv_iff_mul_le (by omega), Int.mul_comm]
  rw [h1]
  unfold roomI
  omega
set_option maxHeartbeats 2000000 in
set_option maxRecDepth 100000 in
theorem rroom_any (N M B y : Int) (w : World) :
    Calls Try.prog 30 #[bV N M B, .int .i64 y] w fun e w' => RoomSays N M B y e ∧ Below w.heap.size w w' := by
  have hb0 := (Below.refl w.heap.size w).alloc (Nat.le_refl _) (.cells #[.int .i64 N, .int .i64 M, .int .i64 B] 33)
  have hh0 := heap_alloc_new w (.cells #[.int .i64 N, .int .i64 M, .int .i64 B] 33)
  unfold bV
  go_enter Try.func30, Try.ntmps30
  have HB0 := Lib.hid hb0; have HH0 := Lib.hid hh0
  clear hb0 hh0
  go_wp2_with fail
  refine (rright_any N M B _).mono ?_
  rintro e w1 ⟨⟨v, rfl, hv⟩, hB1⟩
  have HB1 := Lib.hid (HB0.out.trans (hB1.mono HB0.out.size))
  have hh1 := (hB1.block w.heap.size (by simp)).trans HH0.out
  have HV := Lib.hid hv
  clear hv hB1 HH0
  cases v
  · go_wp2
    go_ret2
    exact ⟨Or.inl ⟨fun h => absurd (HV.out.2 h.1) (by simp), rfl⟩, HB1.out⟩
  · have hrb := HV.out.1 rfl
    have HRB := Lib.hid hrb
    by_cases hy1 : y < 1
    · have g1 : decide (y < 1) = true := by simp [hy1]
      go_wp2
      go_ret2
      exact ⟨Or.inl ⟨fun h => by omega, rfl⟩, HB1.out⟩
    · have g1 : decide (y < 1) = false := by simp; omega
      by_cases hy8 : 8 < y
      · have g2 : decide (8 < y) = true := by simp [hy8]
        go_wp2
        go_ret2
        exact ⟨Or.inl ⟨fun h => by omega, rfl⟩, HB1.out⟩
      · have g2 : decide (8 < y) = false := by simp; omega
        unfold RB at hrb
        obtain ⟨⟨n1, n2⟩, ⟨m1, m2⟩, b1, b2⟩ := hrb
        have c0 : w1.cell? ⟨w.heap.size, 0, none⟩ = some (.int .i64 N) := by rw [cell_of_row w1 _ 0 _ _ _ hh1]; rfl
        have c1 : w1.cell? ⟨w.heap.size, 1, none⟩ = some (.int .i64 M) := by rw [cell_of_row w1 _ 1 _ _ _ hh1]; rfl
        have c2 : w1.cell? ⟨w.heap.size, 2, none⟩ = some (.int .i64 B) := by rw [cell_of_row w1 _ 2 _ _ _ hh1]; rfl
        have HRT := Lib.hid (fun (r : Int) (hr : -1 ≤ r) => room_top (y := y) HRB.out hr (by omega))
        have hrm : -1 ≤ roomI N M B y ∧ roomI N M B y ≤ 1500 := by unfold roomI; omega
        have HRM := Lib.hid hrm
        clear hh1 g1 g2 hrm
        go_wp2_with fail
        go_loop [7] (fun i => ∃ r : Int, -1 ≤ r ∧ r ≤ roomI N M B y ∧ i = .int .i64 r) (fun i => (1500 - intOf i).toNat)
        case atStart => exact ⟨-1, by omega, HRM.out.1, rfl⟩
        case round =>
          obtain ⟨r, hr1, hr2, rfl⟩ := hrel
          have hr3 := HRM.out.2
          have hRT := HRT.out r hr1
          have HR2 := Lib.hid hr2
          have hr4 : r ≤ 1500 := by omega
          clear hr2 hr3
          by_cases h1 : 18 + 3 * y + r + 1 ≤ M
          · have g1 : decide (18 + 3 * y + r + 1 ≤ M) = true := by simp [h1]
            obtain ⟨z, hz⟩ : ∃ z, z = 18 + 3 * y + r + 1 := ⟨_, rfl⟩
            obtain ⟨p, hp⟩ : ∃ p, p = N * z := ⟨_, rfl⟩
            have hz0 : 0 ≤ z := by omega
            have p0 : 0 ≤ p := by rw [hp]; exact Int.mul_nonneg (by omega) hz0
            have p1 : p ≤ 255 * 1500 := by rw [hp]; exact Int.le_trans (Int.mul_le_mul_of_nonneg_right n2 hz0) (by omega)
            have k1 : N * (18 + 3 * y + r + 1) = p := by rw [hp, hz]
            rw [k1] at hRT
            by_cases h2 : p ≤ B
            · have g2 : decide (p ≤ B) = true := by simp [h2]
              have h3 := hRT.1 ⟨h1, h2⟩
              have H3 := Lib.hid h3
              have h5 : r + 1 ≤ 1500 := by have := HRM.out.2; omega
              clear h3 hRT hz hp
              go_wp2
              go_round
              case rel => exact ⟨r + 1, by omega, H3.out, by go_num⟩
              case measure => simp [intOf]; omega
            · have g2 : decide (p ≤ B) = false := by simp; omega
              have H3 := Lib.hid (show roomI N M B y = r by
                have h4 : ¬ r + 1 ≤ roomI N M B y := fun h => h2 (hRT.2 h).2
                have := HR2.out
                omega)
              clear hRT hz hp
              go_wp2
              go_ret2
              exact ⟨Or.inr ⟨⟨HRB.out, by omega⟩, by rw [H3.out]; rfl⟩, HB1.out⟩
          · have g1 : decide (18 + 3 * y + r + 1 ≤ M) = false := by simp; omega
            have H3 := Lib.hid (show roomI N M B y = r by
              have h4 : ¬ r + 1 ≤ roomI N M B y := fun h => h1 (hRT.2 h).1
              have := HR2.out
              omega)
            clear hRT
            go_wp2
            go_ret2
            exact ⟨Or.inr ⟨⟨HRB.out, by omega⟩, by rw [H3.out]; rfl⟩, HB1.out⟩
end Go.Proofs.Ythkcacnlinajgaa.Sz

namespace Go.Proofs.Ythkcacnlinajgaa.Sz
open Go.RowKit Go.Shelf
open Go.Proofs.Ythkcacnlinajgaa.Ly (TabOk RowOk off off_le off_mono widI widE widI_le width_any lst Tb)
open Go.Proofs.Ythkcacnlinajgaa.Sp (Bad)

/-- a closure that answers a number of each place. -/
structure AskN (w0 : World) (cf n : Nat) (caps : Array Value) (K : Nat → Int) : Prop where
  ent : ∀ (args : Array Value) (W : World), (callFunc cf args).run Try.prog W = .ok (.enter cf args) W
  call : ∀ W, Below w0.heap.size w0 W → ∀ j : Nat, j < n → Calls Try.prog cf (#[.int .i64 (j : Nat)] ++ caps) W fun e W' => e = .returned (.int .i64 (K j)) ∧ W' = W
theorem AskN.same {w0 W : World} {cf n : Nat} {caps : Array Value} {K : Nat → Int} (h : AskN w0 cf n caps K) (hB : Below w0.heap.size w0 W) : AskN W cf n caps K := ⟨h.ent, fun X hX j hj => h.call X (hB.trans (hX.mono hB.size)) j hj⟩
set_option maxHeartbeats 1000000 in
theorem of1_n (a : Option Addr) (n cap lb k : Nat) (K : Nat → Int) (hk : k < n) (w : World) (hb : w.cell? ⟨lb, 0, none⟩ = some (.slice a n cap)) (hS : Si w a n K) :
    Calls Try.prog 75 #[.int .i64 (k : Nat), .pointer (some ⟨lb, 0, none⟩)] w fun e w' => e = .returned (.int .i64 (K k)) ∧ w' = w := by
  obtain ⟨b, o, ea, hc⟩ := hS.cell k hk
  have i1 : (k : Int) < (n : Int) := by omega
  subst ea
  clear hS
  go_enter Try.func75, Try.ntmps75
  go_wp2
  go_ret
  exact ⟨rfl, rfl⟩
set_option maxHeartbeats 1000000 in
theorem all1_n (x j : Int) (lb : Nat) (w : World) (hb : w.cell? ⟨lb, 0, none⟩ = some (.int .i64 x)) :
    Calls Try.prog 83 #[.int .i64 j, .pointer (some ⟨lb, 0, none⟩)] w fun e w' => e = .returned (.int .i64 x) ∧ w' = w := by
  go_enter Try.func83, Try.ntmps83
  go_wp2
  go_ret
  exact ⟨rfl, rfl⟩
def ClSays (w : World) (n : Nat) (K : Nat → Int) (e : Ending) (w' : World) : Prop := ∃ cf caps, e = .returned (.func (.func cf) #[] caps) ∧ AskN w' cf n caps K ∧ Below w.heap.size w w'
set_option maxHeartbeats 1000000 in
theorem of_n (a : Option Addr) (n cap : Nat) (K : Nat → Int) (w : World) (hS : Si w a n K) :
    Calls Try.prog 42 #[.slice a n cap] w (ClSays w n K) := by
  have hmf : ∀ (fn : Fn) (first cap : Array Value) (w : World), (Instr.makeFunc fn first cap).run Try.prog w = .ok (.func fn first cap) w := fun _ _ _ _ => rfl
  have hB : Below w.heap.size w (w.alloc (.cells #[.slice a n cap] 24)) := (Below.refl _ w).alloc (Nat.le_refl _) _
  have hb : (w.alloc (.cells #[.slice a n cap] 24)).heap[w.heap.size]? = some (.cells #[.slice a n cap] 24 (0, 0)) := heap_alloc_new _ _
  have HA := Lib.hid (show AskN (w.alloc (.cells #[.slice a n cap] 24)) 75 n #[.pointer (some ⟨w.heap.size, 0, none⟩)] K from ⟨fun _ _ => by kernel_rfl, fun W hW j hj => of1_n a n cap w.heap.size j K hj W (by rw [cell_of_row W _ 0 _ _ _ ((hW.block _ (Array.getElem?_eq_some_iff.1 hb).1).trans hb)]; rfl) ⟨fun i hi => by
    obtain ⟨b, o, e, h1⟩ := hS.cell i hi
    exact ⟨b, o, e, by rw [hW.cell (World.block_lt_of_cell? _ _ ((hB.cell (World.block_lt_of_cell? _ _ h1)).trans h1)), hB.cell (World.block_lt_of_cell? _ _ h1)]; exact h1⟩⟩⟩)
  have HB := Lib.hid hB
  clear hB hb hS
  go_enter Try.func42, Try.ntmps42
  go_wp2_with fail
  go_ret
  exact ⟨_, _, rfl, HA.out, HB.out⟩
set_option maxHeartbeats 1000000 in
theorem all_n (x : Int) (n : Nat) (w : World) :
    Calls Try.prog 50 #[.int .i64 x] w (ClSays w n fun _ => x) := by
  have hmf : ∀ (fn : Fn) (first cap : Array Value) (w : World), (Instr.makeFunc fn first cap).run Try.prog w = .ok (.func fn first cap) w := fun _ _ _ _ => rfl
  have hB : Below w.heap.size w (w.alloc (.cells #[.int .i64 x] 3)) := (Below.refl _ w).alloc (Nat.le_refl _) _
  have hb : (w.alloc (.cells #[.int .i64 x] 3)).heap[w.heap.size]? = some (.cells #[.int .i64 x] 3 (0, 0)) := heap_alloc_new _ _
  have HA := Lib.hid (show AskN (w.alloc (.cells #[.int .i64 x] 3)) 83 n #[.pointer (some ⟨w.heap.size, 0, none⟩)] (fun _ => x) from ⟨fun _ _ => by kernel_rfl, fun W hW j hj => all1_n x (j : Nat) w.heap.size W (by rw [cell_of_row W _ 0 _ _ _ ((hW.block _ (Array.getElem?_eq_some_iff.1 hb).1).trans hb)]; rfl)⟩)
  have HB := Lib.hid hB
  clear hB hb
  go_enter Try.func50, Try.ntmps50
  go_wp2_with fail
  go_ret
  exact ⟨_, _, rfl, HA.out, HB.out⟩
theorem row_iff {N : Int} {K L : Nat → Int} (hN : N ≤ 255) : ∀ k, RowOk N K L k ↔ ¬ Bad (L k) (K k) ∧ ¬ K k < lst K k ∧ ¬ N < K k
  | 0 => by
    show (1 ≤ K 0 ∧ K 0 ≤ N ∧ 0 ≤ L 0 ∧ L 0 ≤ 65535 ∧ (0 < 0 → _)) ↔ ¬ Bad (L 0) (K 0) ∧ ¬ K 0 < 1 ∧ ¬ N < K 0
    unfold Bad
    constructor
    · rintro ⟨h1, h2, h3, h4, _⟩; omega
    · rintro ⟨h1, h2, h3⟩; exact ⟨by omega, by omega, by omega, by omega, fun h => absurd h (Nat.lt_irrefl _)⟩
  | k + 1 => by
    show (1 ≤ K (k + 1) ∧ K (k + 1) ≤ N ∧ 0 ≤ L (k + 1) ∧ L (k + 1) ≤ 65535 ∧ (0 < k + 1 → K k ≤ K (k + 1))) ↔ ¬ Bad (L (k + 1)) (K (k + 1)) ∧ ¬ K (k + 1) < K k ∧ ¬ N < K (k + 1)
    unfold Bad
    constructor
    · rintro ⟨h1, h2, h3, h4, h5⟩; have := h5 (by omega); omega
    · rintro ⟨h1, h2, h3⟩; exact ⟨by omega, by omega, by omega, by omega, fun _ => by omega⟩
/-- thresholds fit. -/
def FitP (N M B : Int) (n : Nat) (K L : Nat → Int) : Prop := RB N M B ∧ TabOk N n K L ∧ ((off K L n : Nat) : Int) ≤ roomI N M B n
def FitSays (N M B : Int) (n : Nat) (K L : Nat → Int) (e : Ending) : Prop := ∃ v : Bool, e = .returned (.bool v) ∧ (v = true ↔ FitP N M B n K L)
theorem FitSays.no {N M B : Int} {n : Nat} {K L : Nat → Int} (h : ¬ FitP N M B n K L) : FitSays N M B n K L (.returned (.bool false)) := ⟨false, rfl, fun e => (by cases e), fun e => absurd e h⟩

set_option maxHeartbeats 4000000 in
set_option maxRecDepth 100000 in
theorem hold_any (N M B : Int) (n cf cg : Nat) (ca cb : Array Value) (K L : Nat → Int) (hn : n ≤ 140737488355328) (w : World) (hL : AskN w cf n ca L) (hK : AskN w cg n cb K) :
    Calls Try.prog 41 #[bV N M B, .int .i64 (n : Nat), .func (.func cf) #[] ca, .func (.func cg) #[] cb] w fun e w' => FitSays N M B n K L e ∧ Below w.heap.size w w' := by
  have hb0 := (Below.refl w.heap.size w).alloc (Nat.le_refl _) (.cells #[.int .i64 N, .int .i64 M, .int .i64 B] 23)
  have hh0 := heap_alloc_new w (.cells #[.int .i64 N, .int .i64 M, .int .i64 B] 23)
  have HL := Lib.hid hL; have HK := Lib.hid hK; clear hL hK
  have hent1 := HL.out.ent; have hent2 := HK.out.ent
  unfold bV
  go_enter Try.func41, Try.ntmps41
  have HB0 := Lib.hid hb0; have HH0 := Lib.hid hh0
  clear hb0 hh0
  go_wp2_with fail
  refine (room_any N M B (n : Nat) _).mono ?_
  rintro e w1 ⟨hro, hB1⟩
  have HB1 := Lib.hid (HB0.out.trans (hB1.mono HB0.out.size))
  have HH1 := Lib.hid ((hB1.block w.heap.size (by simp)).trans HH0.out)
  clear hB1 HH0
  rcases hro with ⟨hno, rfl⟩ | ⟨⟨hrb, hn1, hn8⟩, rfl⟩
  · have HNO := Lib.hid (show ¬ FitP N M B n K L from fun h => hno ⟨h.1, by have := h.2.1.2.2; omega⟩)
    clear hno
    go_wp2
    go_ret
    exact ⟨FitSays.no HNO.out, HB1.out⟩
  have HRB := Lib.hid hrb
  have hrm : -1 ≤ roomI N M B n ∧ roomI N M B n ≤ 1500 := by unfold RB at hrb; unfold roomI; omega
  obtain ⟨R, hR⟩ : ∃ R, R = roomI N M B n := ⟨_, rfl⟩
  rw [← hR] at hrm ⊢
  have HR := Lib.hid hR
  obtain ⟨hr1, hr2⟩ := hrm
  have hN : 1 ≤ N ∧ N ≤ 255 := by unfold RB at hrb; omega
  clear hR hrb
  go_wp2_with fail
  go_loopw [9, 11, 24] (fun room least i wr => ∃ k : Nat, k ≤ n ∧ i = .int .i64 (k : Nat) ∧ room = .int .i64 (R - (off K L k : Nat)) ∧ least = .int .i64 (lst K k) ∧ (∀ j, j < k → RowOk N K L j) ∧ Below w1.heap.size w1 wr) (fun _ _ i _ => n - (intOf i).toNat)
  case atStart => exact ⟨0, by omega, rfl, by simp [off], rfl, fun j hj => absurd hj (Nat.not_lt_zero j), Below.refl _ _⟩
  case round =>
    obtain ⟨k, hk, rfl, rfl, rfl, hall, hB⟩ := hrel
    have HALL := Lib.hid hall; have HB := Lib.hid hB
    clear hall hB
    by_cases hkn : k < n
    · have i1 : (k : Int) < (n : Int) := by omega
      have hBw := HB1.out.trans (HB.out.mono HB1.out.size)
      have HC1 := Lib.hid (HL.out.call _ hBw k hkn); have HC2 := Lib.hid (HK.out.call _ hBw k hkn)
      have HC3 := Lib.hid (fun q => HK.out.call _ (below_dr hBw q) k hkn)
      have hc0 : ∀ q, (wr.drewN q).cell? ⟨w.heap.size, 0, none⟩ = some (.int .i64 N) := fun q => by
        have hb2 := below_dr HB.out q
        rw [cell_of_row _ _ 0 _ _ _ ((hb2.block _ (Array.getElem?_eq_some_iff.1 HH1.out).1).trans HH1.out)]; rfl
      have HBW := Lib.hid hBw
      have ho := off_le K L k
      have ho2 : off K L k ≤ 8 * 65535 := Nat.le_trans ho (Nat.mul_le_mul_right _ (by omega))
      clear hBw ho
      go_wp2_with fail
      refine HC1.out.mono ?_
      rintro e w2 ⟨rfl, rfl⟩
      go_wp2_with fail
      refine HC2.out.mono ?_
      rintro e w3 ⟨rfl, rfl⟩
      go_wp2_with fail
      refine (width_any (L k) (K k) _).mono ?_
      rintro e w4 ⟨rfl, rfl⟩
      have hri := row_iff (N := N) (K := K) (L := L) hN.2 k
      have HRI := Lib.hid hri
      clear hri
      by_cases hbad : Bad (L k) (K k)
      · have HX := Lib.hid (show ¬ FitP N M B n K L from fun h => (HRI.out.1 (h.2.1.2.2.2.2 k hkn)).1 hbad)
        rw [show widE (L k) (K k) = 2 from if_pos hbad]
        clear hbad
        go_wp2_with fail
        go_quiet (fail)
        go_wp2
        go_ret
        exact ⟨FitSays.no HX.out, below_dr HBW.out _⟩
      · rw [show widE (L k) (K k) = 0 from if_neg hbad]
        by_cases h1 : K k < lst K k
        · have g1 : decide (K k < lst K k) = true := by simp [h1]
          have HX := Lib.hid (show ¬ FitP N M B n K L from fun h => (HRI.out.1 (h.2.1.2.2.2.2 k hkn)).2.1 h1)
          clear hbad h1
          go_wp2_with fail
          go_quiet ((exact Calls.quiet_of_same (HC3.out _)))
          go_wp2
          go_ret
          exact ⟨FitSays.no HX.out, below_dr HBW.out _⟩
        · have g1 : decide (K k < lst K k) = false := by simp; omega
          by_cases h2 : N < K k
          · have g2 : decide (N < K k) = true := by simp [h2]
            have HX := Lib.hid (show ¬ FitP N M B n K L from fun h => (HRI.out.1 (h.2.1.2.2.2.2 k hkn)).2.2 h2)
            clear hbad h1 h2
            go_wp2_with fail
            go_quiet ((exact Calls.quiet_of_same (HC3.out _)))
            go_wp2
            go_ret
            exact ⟨FitSays.no HX.out, below_dr HBW.out _⟩
          · have g2 : decide (N < K k) = false := by simp; omega
            have HX := Lib.hid (HRI.out.2 ⟨hbad, h1, h2⟩)
            have hwl := widI_le (L k) (K k)
            have hof : R - ((off K L k : Nat) : Int) - ((widI (L k) (K k) : Nat) : Int) = R - ((off K L (k + 1) : Nat) : Int) := by
              have : off K L (k + 1) = off K L k + widI (L k) (K k) := rfl
              omega
            have HOF := Lib.hid hof
            clear hbad h1 h2 hof
            go_wp2_with fail
            go_quiet ((exact Calls.quiet_of_same (HC3.out _)))
            have HB4 := Lib.hid (below_dr HB.out nq)
            have HC4 := Lib.hid (HC3.out nq)
            clear g1 g2 hc0
            go_wp2_with fail
            refine HC4.out.mono ?_
            rintro e w5 ⟨rfl, hw5⟩
            have HB5 := Lib.hid (show Below w1.heap.size w1 w5 by rw [hw5]; exact HB4.out)
            clear hw5
            go_wp2
            go_roundw
            case rel => exact ⟨k + 1, by omega, by go_num, by rw [← HOF.out], rfl, fun j hj => by
              by_cases e : j = k
              · rw [e]; exact HX.out
              · exact HALL.out j (by omega), HB5.out⟩
            case measure => simp [intOf]; omega
    · obtain rfl : k = n := by omega
      have i1 : ¬ (k : Int) < (k : Int) := by omega
      have ho2 : off K L k ≤ 8 * 65535 := Nat.le_trans (off_le K L k) (Nat.mul_le_mul_right _ (by omega))
      have HT := Lib.hid (show TabOk N k K L from ⟨hN.1, hN.2, by omega, by omega, HALL.out⟩)
      go_wp2
      go_ret
      refine ⟨⟨_, rfl, ?_⟩, HB1.out.trans (HB.out.mono HB1.out.size)⟩
      unfold FitP
      rw [← HR.out, decide_eq_true_iff]
      constructor
      · intro h; exact ⟨HRB.out, HT.out, by omega⟩
      · intro h; have := h.2.2; omega
end Go.Proofs.Ythkcacnlinajgaa.Sz

namespace Go.Proofs.Ythkcacnlinajgaa.Pn
open Go.RowKit Go.Shelf
open Go.Proofs.Ythkcacnlinajgaa.Ly (TabOk RowOk off off_le off_mono widI widI_le)
open Go.Proofs.Ythkcacnlinajgaa.Sz (RB roomI FitP)
open Go.Proofs.Ythkcacnlinajgaa.Wg (sc Btr Ahd RW btr_total)

/-- layers, as what is planned with. -/
def lys (L V W : Nat → Int) (at_ : Nat) : Nat → List Ly
  | 0 => []
  | d + 1 => ⟨fun k => widI (L at_) (k : Nat), fun k => V at_ * W k⟩ :: lys L V W (at_ + 1) d
def kl (K : Nat → Int) (at_ : Nat) : Nat → List Nat
  | 0 => []
  | d + 1 => (K at_).toNat :: kl K (at_ + 1) d
/-- widths together, from a layer on. -/
def offs (K L : Nat → Int) (at_ : Nat) : Nat → Nat
  | 0 => 0
  | d + 1 => widI (L at_) (K at_) + offs K L (at_ + 1) d
theorem off_add (K L : Nat → Int) : ∀ d a, off K L (a + d) = off K L a + offs K L a d
  | 0, _ => rfl
  | d + 1, a => by
    have h := off_add K L d (a + 1)
    rw [show a + (d + 1) = a + 1 + d by omega, h]
    show off K L a + widI (L a) (K a) + offs K L (a + 1) d = off K L a + (widI (L a) (K a) + offs K L (a + 1) d)
    omega
theorem off_offs (K L : Nat → Int) (n : Nat) : off K L n = offs K L 0 n := by
  have := off_add K L n 0
  rw [Nat.zero_add] at this
  rw [this]; show 0 + _ = _; omega
/-- what thresholds of the last layers ask. -/
def TOk (N : Nat) (K L : Nat → Int) (a d f r : Nat) : Prop := (∀ i, a ≤ i → i < a + d → (f : Int) ≤ K i ∧ K i ≤ N ∧ (a < i → K (i - 1) ≤ K i)) ∧ offs K L a d ≤ r
theorem tail_iff {N : Nat} {K L V W : Nat → Int} : ∀ d a f r, (∀ i, a ≤ i → i < a + d → 0 ≤ K i) → (Tail N (lys L V W a d) f r (kl K a d) ↔ TOk N K L a d f r)
  | 0, a, f, r, _ => ⟨fun _ => ⟨fun i h1 h2 => absurd h2 (by omega), Nat.zero_le _⟩, fun _ => trivial⟩
  | d + 1, a, f, r, h0 => by
    have ha := h0 a (by omega) (by omega)
    have ih := tail_iff (N := N) (K := K) (L := L) (V := V) (W := W) d (a + 1) (K a).toNat (r - widI (L a) (K a)) (fun i h1 h2 => h0 i (by omega) (by omega))
    have hw : widI (L a) ((K a).toNat : Nat) = widI (L a) (K a) := by rw [Int.toNat_of_nonneg ha]
    show (f ≤ (K a).toNat ∧ (K a).toNat ≤ N ∧ widI (L a) ((K a).toNat : Nat) ≤ r ∧ Tail N (lys L V W (a + 1) d) (K a).toNat (r - widI (L a) ((K a).toNat : Nat)) (kl K (a + 1) d)) ↔ _
    rw [hw, ih]
    constructor
    · rintro ⟨h1, h2, h3, h4, h5⟩
      refine ⟨fun i h6 h7 => ?_, ?_⟩
      · by_cases e : i = a
        · subst e; exact ⟨by omega, by omega, fun h => absurd h (Nat.lt_irrefl _)⟩
        · obtain ⟨g1, g2, g3⟩ := h4 i (by omega) (by omega)
          refine ⟨by omega, g2, fun _ => ?_⟩
          by_cases e2 : i = a + 1
          · subst e2
            rw [Nat.add_sub_cancel]; omega
          · exact g3 (by omega)
      · show widI (L a) (K a) + offs K L (a + 1) d ≤ r; omega
    · rintro ⟨h1, h2⟩
      obtain ⟨g1, g2, _⟩ := h1 a (by omega) (by omega)
      have h3 : widI (L a) (K a) + offs K L (a + 1) d ≤ r := h2
      have hmon : ∀ j, a + j < a + (d + 1) → K a ≤ K (a + j) := fun j => by
        induction j with
        | zero => intro _; exact Int.le_refl _
        | succ j ihj =>
          intro hj
          have := (h1 (a + (j + 1)) (by omega) hj).2.2 (by omega)
          rw [show a + (j + 1) - 1 = a + j by omega] at this
          have := ihj (by omega)
          omega
      refine ⟨by omega, by omega, by omega, fun i h6 h7 => ?_, by omega⟩
      obtain ⟨q1, q2, q3⟩ := h1 i (by omega) (by omega)
      have := hmon (i - a) (by omega)
      rw [show a + (i - a) = i by omega] at this
      exact ⟨by omega, q2, fun h => q3 (by omega)⟩
theorem sc_add (V K W : Nat → Int) : ∀ d a, sc V K W (a + d) = sc V K W a + scl (lys (fun _ => 0) V W a d) (kl K a d)
  | 0, a => by show sc V K W a = sc V K W a + 0; omega
  | d + 1, a => by
    have h := sc_add V K W d (a + 1)
    rw [show a + (d + 1) = a + 1 + d by omega, h]
    show sc V K W a + V a * W (K a).toNat + _ = sc V K W a + (V a * W (K a).toNat + _)
    omega
theorem scl_len (L L' V W : Nat → Int) : ∀ d a ks, scl (lys L V W a d) ks = scl (lys L' V W a d) ks
  | 0, _, ks => by cases ks <;> rfl
  | d + 1, a, [] => rfl
  | d + 1, a, k :: ks => by
    show V a * W k + _ = V a * W k + _
    rw [scl_len L L' V W d (a + 1) ks]
theorem sc_scl (L V K W : Nat → Int) (n : Nat) : sc V K W n = scl (lys L V W 0 n) (kl K 0 n) := by
  have := sc_add V K W n 0
  rw [Nat.zero_add] at this
  rw [this, scl_len (fun _ => 0) L]; show 0 + _ = _; omega
theorem lexl_iff {K O : Nat → Int} : ∀ d a, (∀ i, a ≤ i → i < a + d → 0 ≤ K i ∧ 0 ≤ O i) → (lexl (kl K a d) (kl O a d) ↔ ∃ p, a ≤ p ∧ p < a + d ∧ (∀ j, a ≤ j → j < p → K j = O j) ∧ K p < O p)
  | 0, a, _ => ⟨fun h => absurd h (fun h => h), fun ⟨p, h1, h2, _⟩ => absurd h2 (by omega)⟩
  | d + 1, a, h0 => by
    have ih := lexl_iff (K := K) (O := O) d (a + 1) (fun i h1 h2 => h0 i (by omega) (by omega))
    have ha := h0 a (by omega) (by omega)
    show ((K a).toNat < (O a).toNat ∨ ((K a).toNat = (O a).toNat ∧ lexl (kl K (a + 1) d) (kl O (a + 1) d))) ↔ _
    rw [ih]
    constructor
    · rintro (h | ⟨h, p, h1, h2, h3, h4⟩)
      · exact ⟨a, by omega, by omega, fun j g1 g2 => absurd g2 (by omega), by omega⟩
      · refine ⟨p, by omega, by omega, fun j g1 g2 => ?_, h4⟩
        by_cases e : j = a
        · subst e; omega
        · exact h3 j (by omega) g2
    · rintro ⟨p, h1, h2, h3, h4⟩
      by_cases e : p = a
      · subst e; exact Or.inl (by omega)
      · have := h3 a (by omega) (by omega)
        exact Or.inr ⟨by omega, p, by omega, by omega, fun j g1 g2 => h3 j (by omega) g2, h4⟩
theorem ahd_lexl {K O : Nat → Int} {n : Nat} (h : ∀ i, i < n → 0 ≤ K i ∧ 0 ≤ O i) : Ahd n K O ↔ lexl (kl K 0 n) (kl O 0 n) := by
  rw [lexl_iff n 0 (fun i _ h2 => h i (by omega))]
  constructor
  · rintro ⟨p, h1, h2, h3⟩; exact ⟨p, by omega, by omega, fun j _ hj => h2 j hj, h3⟩
  · rintro ⟨p, _, h1, h2, h3⟩; exact ⟨p, by omega, fun j hj => h2 j (by omega) hj, h3⟩
/-- of a list of thresholds what stands at a place. -/
def at0 (ks : List Nat) (i : Nat) : Int := ((ks.getD i 0 : Nat) : Int)
theorem kl_at0 : ∀ (ks : List Nat) (a : Nat) (pre : List Nat), pre.length = a → kl (at0 (pre ++ ks)) a ks.length = ks
  | [], _, _, _ => rfl
  | k :: ks, a, pre, h => by
    show (at0 (pre ++ k :: ks) a).toNat :: kl (at0 (pre ++ k :: ks)) (a + 1) ks.length = k :: ks
    have h1 : at0 (pre ++ k :: ks) a = (k : Nat) := by unfold at0; simp [h]
    have h2 := kl_at0 ks (a + 1) (pre ++ [k]) (by simp [h])
    rw [List.append_assoc, List.singleton_append] at h2
    rw [h1, h2, Int.toNat_natCast]
theorem tail_len {N : Nat} : ∀ (ls : List Ly) f r ks, Tail N ls f r ks → ks.length = ls.length
  | [], _, _, [], _ => rfl
  | _ :: ls, _, _, _ :: ks, h => by
    have := tail_len ls _ _ ks h.2.2.2
    simp [this]
theorem lys_len (L V W : Nat → Int) : ∀ d a, (lys L V W a d).length = d
  | 0, _ => rfl
  | d + 1, a => by show (lys L V W (a + 1) d).length + 1 = d + 1; rw [lys_len L V W d (a + 1)]
theorem lys_v {L V W : Nat → Int} : ∀ d a, ∀ l ∈ lys L V W a d, ∃ i, a ≤ i ∧ i < a + d ∧ l = ⟨fun k => widI (L i) (k : Nat), fun k => V i * W k⟩
  | 0, a, l, h => by cases h
  | d + 1, a, l, h => by
    rcases List.mem_cons.1 h with rfl | h
    · exact ⟨a, by omega, by omega, rfl⟩
    · obtain ⟨i, h1, h2, h3⟩ := lys_v d (a + 1) l h
      exact ⟨i, by omega, by omega, h3⟩
/-- the best thresholds. -/
def IsBest (N M B : Int) (n : Nat) (L V W K : Nat → Int) : Prop := FitP N M B n K L ∧ ∀ K', FitP N M B n K' L → ¬ Btr n V K' K W
theorem best_uniq {N M B : Int} {n : Nat} {L V W K K' : Nat → Int} (h : IsBest N M B n L V W K) (h' : IsBest N M B n L V W K') : ∀ j, j < n → K j = K' j := by
  by_cases e : ∀ j, j < n → K j = K' j
  · exact e
  · rcases btr_total (V := V) (W := W) e with q | q
    · exact absurd q (h'.2 K h.1)
    · exact absurd q (h.2 K' h'.1)
/-- a task is right. -/
def TR (N M B : Int) (nl nv nm : Nat) (L V W : Nat → Int) : Prop := RB N M B ∧ (1 ≤ nl ∧ nl ≤ 8) ∧ nv = nl ∧ RW N nm W ∧ ∀ i, i < nl → 0 ≤ L i ∧ L i ≤ 65535 ∧ 0 ≤ V i ∧ V i ≤ 1048576
theorem fit_tail {N M B : Int} {n nv nm : Nat} {L V W K : Nat → Int} (h : TR N M B n nv nm L V W) : FitP N M B n K L ↔ 0 ≤ roomI N M B n ∧ (∀ i, i < n → 0 ≤ K i) ∧ Tail N.toNat (lys L V W 0 n) 1 (roomI N M B n).toNat (kl K 0 n) := by
  obtain ⟨hB, hn, _, hW, hr⟩ := h
  have hN := hB.1
  constructor
  · rintro ⟨_, ⟨_, _, _, _, ht⟩, ho⟩
    have h0 : ∀ i, i < n → 0 ≤ K i := fun i hi => by have := ht i hi; unfold RowOk at this; omega
    refine ⟨by omega, h0, (tail_iff n 0 1 _ (fun i _ hi => h0 i (by omega))).2 ⟨fun i _ hi => ?_, ?_⟩⟩
    · have := ht i (by omega)
      unfold RowOk at this
      exact ⟨by omega, by omega, fun h => this.2.2.2.2 h⟩
    · rw [← off_offs]; omega
  · rintro ⟨h1, h2, h3⟩
    obtain ⟨h4, h5⟩ := (tail_iff n 0 1 _ (fun i _ hi => h2 i (by omega))).1 h3
    refine ⟨hB, ⟨hN.1, hN.2, hn.1, hn.2, fun i hi => ?_⟩, ?_⟩
    · have g1 := h4 i (by omega) (by omega)
      have g2 := hr i hi
      unfold RowOk
      exact ⟨by omega, by omega, g2.1, g2.2.1, fun h => g1.2.2 h⟩
    · rw [off_offs]; omega
/-- what going through the layers finds. -/
theorem plan_no {N M B : Int} {n nv nm : Nat} {L V W : Nat → Int} (h : TR N M B n nv nm L V W) (hr : roomI N M B n < 0 ∨ (cel N.toNat (lys L V W 0 n) 1 (roomI N M B n).toNat).1 < 0) : ∀ K, ¬ FitP N M B n K L := by
  intro K hf
  obtain ⟨h1, h2, h3⟩ := (fit_tail h).1 hf
  rcases hr with hr | hr
  · omega
  · obtain ⟨hB, hn, _, hW, hl⟩ := h
    exact (cel_best _ 1 _ (Nat.le_refl _) (fun l hm k k1 k2 => by
      obtain ⟨i, _, i2, rfl⟩ := lys_v n 0 l hm
      exact Int.mul_nonneg (hl i (by omega)).2.2.1 (hW.2.2.1 k (by have := hW.2.1; have := hW.1; omega)))).1 hr _ h3
theorem plan_yes {N M B : Int} {n nv nm : Nat} {L V W : Nat → Int} (h : TR N M B n nv nm L V W) (h0 : 0 ≤ roomI N M B n) (hr : 0 ≤ (cel N.toNat (lys L V W 0 n) 1 (roomI N M B n).toNat).1) : IsBest N M B n L V W (at0 (best N.toNat (lys L V W 0 n) 1 (roomI N M B n).toNat)) := by
  have h' := h
  obtain ⟨hB, hn, _, hW, hl⟩ := h'
  obtain ⟨b1, b2, b3⟩ := (cel_best (lys L V W 0 n) 1 (roomI N M B n).toNat (Nat.le_refl _) (fun l hm k k1 k2 => by
      obtain ⟨i, _, i2, rfl⟩ := lys_v n 0 l hm
      exact Int.mul_nonneg (hl i (by omega)).2.2.1 (hW.2.2.1 k (by have := hW.2.1; have := hW.1; omega)))).2 hr
  generalize best N.toNat (lys L V W 0 n) 1 (roomI N M B n).toNat = ks at b1 b2 b3 ⊢
  have hk := tail_len _ _ _ _ b1
  rw [lys_len] at hk
  have hkl : kl (at0 ks) 0 n = ks := by
    have := kl_at0 ks 0 [] rfl
    rw [hk] at this; exact this
  refine ⟨(fit_tail h).2 ⟨h0, fun i _ => by unfold at0; omega, by rw [hkl]; exact b1⟩, fun K' hf hb => ?_⟩
  obtain ⟨_, g2, g3⟩ := (fit_tail h).1 hf
  refine b3 _ g3 ?_
  unfold btl
  rw [← hkl, ← sc_scl, ← sc_scl]
  rcases hb with hb | ⟨hb1, hb2⟩
  · exact Or.inl hb
  · exact Or.inr ⟨hb1, (ahd_lexl (fun i hi => ⟨g2 i hi, by unfold at0; omega⟩)).1 hb2⟩
end Go.Proofs.Ythkcacnlinajgaa.Pn

namespace Go.Proofs.Ythkcacnlinajgaa.Pn
open Go.RowKit Go.Shelf
open Go.Proofs.Ythkcacnlinajgaa.Ly (TabOk RowOk off off_le off_mono widI widI_le)
open Go.Proofs.Ythkcacnlinajgaa.Sz (RB roomI FitP RSays bV)
open Go.Proofs.Ythkcacnlinajgaa.Wg (sc Btr Ahd RW BoSays)
attribute [local go_sem] Oper.semAt_some

/-- a task. -/
def tV (N M B : Int) (la : Option Addr) (nl lc : Nat) (va : Option Addr) (nv vc : Nat) (wa : Option Addr) (nm wc : Nat) : Value := .agg #[.int .i64 N, .int .i64 M, .int .i64 B, .slice la nl lc, .slice va nv vc, .slice wa nm wc]
/-- a task in its box, of whichever type. -/
def TAt (W : World) (g : Nat) (t : TypeId) (N M B : Int) (la : Option Addr) (nl lc : Nat) (va : Option Addr) (nv vc : Nat) (wa : Option Addr) (nm wc : Nat) : Prop := W.heap[g]? = some (.cells #[.int .i64 N, .int .i64 M, .int .i64 B, .slice la nl lc, .slice va nv vc, .slice wa nm wc] t (0, 0))
section
variable {W W' : World} {g : Nat} {t : TypeId} {N M B : Int} {la va wa : Option Addr} {nl lc nv vc nm wc : Nat}
theorem TAt.same (h : TAt W g t N M B la nl lc va nv vc wa nm wc) (hB : Below W.heap.size W W') : TAt W' g t N M B la nl lc va nv vc wa nm wc := (hB.block _ (Array.getElem?_eq_some_iff.1 h).1).trans h
theorem TAt.lt (h : TAt W g t N M B la nl lc va nv vc wa nm wc) : g < W.heap.size := (Array.getElem?_eq_some_iff.1 h).1
theorem TAt.c (h : TAt W g t N M B la nl lc va nv vc wa nm wc) : W.cell? ⟨g, 0, none⟩ = some (.int .i64 N) ∧ W.cell? ⟨g, 1, none⟩ = some (.int .i64 M) ∧ W.cell? ⟨g, 2, none⟩ = some (.int .i64 B) ∧ W.cell? ⟨g, 3, none⟩ = some (.slice la nl lc) ∧ W.cell? ⟨g, 4, none⟩ = some (.slice va nv vc) ∧ W.cell? ⟨g, 5, none⟩ = some (.slice wa nm wc) :=
  ⟨by rw [cell_of_row W g 0 _ _ _ h]; rfl, by rw [cell_of_row W g 1 _ _ _ h]; rfl, by rw [cell_of_row W g 2 _ _ _ h]; rfl, by rw [cell_of_row W g 3 _ _ _ h]; rfl, by rw [cell_of_row W g 4 _ _ _ h]; rfl, by rw [cell_of_row W g 5 _ _ _ h]; rfl⟩
end
def Ok3 (L V : Nat → Int) (i : Nat) : Prop := 0 ≤ L i ∧ L i ≤ 65535 ∧ 0 ≤ V i ∧ V i ≤ 1048576
set_option maxHeartbeats 4000000 in
set_option maxRecDepth 100000 in
theorem rtr_any (N M B : Int) (la va wa : Option Addr) (nl lc nv vc nm wc : Nat) (L V W : Nat → Int) (h1 : nl ≤ 140737488355328) (h2 : nv ≤ 140737488355328) (_h3 : nm ≤ 140737488355328) (w : World) (hL : Si w la nl L) (hV : Si w va nv V) (hW : Si w wa nm W) :
    Calls Try.prog 16 #[tV N M B la nl lc va nv vc wa nm wc] w fun e w' => BoSays (TR N M B nl nv nm L V W) e ∧ Below w.heap.size w w' := by
  have HL := Lib.hid hL; have HV := Lib.hid hV; have HW := Lib.hid hW
  have HX0 := Lib.hid (show TAt (w.alloc (.cells #[.int .i64 N, .int .i64 M, .int .i64 B, .slice la nl lc, .slice va nv vc, .slice wa nm wc] 35)) w.heap.size 35 N M B la nl lc va nv vc wa nm wc from heap_alloc_new _ _)
  have HB0 := Lib.hid ((Below.refl w.heap.size w).alloc (Nat.le_refl _) (.cells #[.int .i64 N, .int .i64 M, .int .i64 B, .slice la nl lc, .slice va nv vc, .slice wa nm wc] 35))
  have HRR := Lib.hid (fun w => Sz.rright_any N M B w)
  unfold bV at HRR
  clear hL hV hW
  unfold tV
  go_enter Try.func16, Try.ntmps16
  obtain ⟨c0, c1, c2, c3, c4, c5⟩ := HX0.out.c
  go_wp2_with fail
  clear c0 c1 c2 c3 c4 c5
  generalize w.alloc (.cells #[.int .i64 N, .int .i64 M, .int .i64 B, .slice la nl lc, .slice va nv vc, .slice wa nm wc] 35) = w0 at *
  refine (HRR.out _).mono ?_
  rintro e w1 ⟨⟨v, rfl, hv⟩, hB1⟩
  have HVV := Lib.hid hv
  have HX1 := Lib.hid (HX0.out.same hB1); have HB1 := Lib.hid (HB0.out.trans (hB1.mono HB0.out.size))
  clear hv hB1 HX0 HB0 HRR
  cases v
  · have HN := Lib.hid (show ¬ TR N M B nl nv nm L V W from fun h => absurd (HVV.out.2 h.1) (by simp))
    go_wp2
    go_ret
    exact ⟨Wg.BoSays.no HN.out, HB1.out⟩
  have HRB := Lib.hid (show RB N M B by first | exact HVV.out.1 rfl | exact HVV.out.1 trivial)
  clear HVV
  obtain ⟨c0, c1, c2, c3, c4, c5⟩ := HX1.out.c
  by_cases e1 : nl < 1
  · have g1 : decide ((nl : Int) < 1) = true := by simp; omega
    have i1 : (nl : Int) < 1 := by omega
    have HN := Lib.hid (show ¬ TR N M B nl nv nm L V W from fun h => by have := h.2.1; omega)
    clear e1
    go_wp2
    go_ret
    exact ⟨Wg.BoSays.no HN.out, HB1.out⟩
  have g1 : decide ((nl : Int) < 1) = false := by simp; omega
  have i1 : ¬ (nl : Int) < 1 := by omega
  by_cases e2 : 8 < nl
  · have g2 : decide ((8 : Int) < (nl : Int)) = true := by simp; omega
    have i2 : (8 : Int) < (nl : Int) := by omega
    have HN := Lib.hid (show ¬ TR N M B nl nv nm L V W from fun h => by have := h.2.1; omega)
    clear e1 e2
    go_wp2
    go_ret
    exact ⟨Wg.BoSays.no HN.out, HB1.out⟩
  have g2 : decide ((8 : Int) < (nl : Int)) = false := by simp; omega
  have i2 : ¬ (8 : Int) < (nl : Int) := by omega
  by_cases e3 : nv = nl
  rotate_left
  · have g3 : ((nv : Int) != (nl : Int)) = true := by simp; omega
    have HN := Lib.hid (show ¬ TR N M B nl nv nm L V W from fun h => e3 h.2.2.1)
    clear e1 e2 e3
    go_wp2
    go_ret
    exact ⟨Wg.BoSays.no HN.out, HB1.out⟩
  subst e3
  have g3 : ((nv : Int) != (nv : Int)) = false := by simp
  have hn8 : 1 ≤ nv ∧ nv ≤ 8 := by omega
  have HN8 := Lib.hid hn8
  clear e1 e2
  go_wp2_with fail
  clear c0 c1 c2 c3 c4 c5 g1 g2 g3 i1 i2
  refine (Wg.rright_any N wa nm wc W _ (HW.out.same HB1.out)).mono ?_
  rintro e w2 ⟨⟨v, rfl, hv⟩, hB2⟩
  have HVV := Lib.hid hv
  have HX2 := Lib.hid (HX1.out.same hB2); have HB2 := Lib.hid (HB1.out.trans (hB2.mono HB1.out.size))
  clear hv hB2 HX1 HB1
  cases v
  · have HN := Lib.hid (show ¬ TR N M B nv nv nm L V W from fun h => absurd (HVV.out.2 h.2.2.2.1) (by simp))
    go_wp2
    go_ret
    exact ⟨Wg.BoSays.no HN.out, HB2.out⟩
  have HRW := Lib.hid (show RW N nm W by first | exact HVV.out.1 rfl | exact HVV.out.1 trivial)
  clear HVV
  go_wp2_with fail
  go_loopw [3] (fun i wr => ∃ (k : Nat), k ≤ nv ∧ i = .int .i64 (k : Nat) ∧ (∀ j, j < k → Ok3 L V j) ∧ Below w2.heap.size w2 wr) (fun i _ => nv - (intOf i).toNat)
  case atStart => exact ⟨0, by omega, rfl, fun j hj => absurd hj (Nat.not_lt_zero j), Below.refl _ _⟩
  case round =>
    obtain ⟨k, hk, rfl, hall, hB⟩ := hrel
    have HALL := Lib.hid hall; have HB := Lib.hid hB
    clear hall hB
    obtain ⟨c0, c1, c2, c3, c4, c5⟩ := (HX2.out.same HB.out).c
    by_cases hkn : k < nv
    · have i1 : (k : Int) < (nv : Int) := by omega
      obtain ⟨b1, o1, ea1, d1⟩ := ((HL.out.same HB2.out).same HB.out).cell k hkn
      obtain ⟨b2, o2, ea2, d2⟩ := ((HV.out.same HB2.out).same HB.out).cell k hkn
      obtain ⟨x, hx⟩ : ∃ x, x = L k := ⟨_, rfl⟩
      obtain ⟨y, hy⟩ : ∃ y, y = V k := ⟨_, rfl⟩
      rw [← hx] at d1
      rw [← hy] at d2
      have HXX := Lib.hid hx; have HYY := Lib.hid hy
      have EA1 := Lib.hid ea1; have EA2 := Lib.hid ea2
      subst ea1 ea2
      have hbad : (¬ (0 ≤ x ∧ x ≤ 65535 ∧ 0 ≤ y ∧ y ≤ 1048576)) → ¬ TR N M B nv nv nm L V W := fun q h => by
        have h6 := h.2.2.2.2 k hkn
        rw [← HXX.out, ← HYY.out] at h6
        exact q h6
      have HBAD := Lib.hid hbad
      clear hx hy hbad
      by_cases hx0 : x < 0
      · have q1 : decide (x < 0) = true := by simp [hx0]
        have HN := Lib.hid (HBAD.out (by omega))
        clear hx0
        go_wp2
        go_ret
        exact ⟨Wg.BoSays.no HN.out, HB2.out.trans (HB.out.mono HB2.out.size)⟩
      have q1 : decide (x < 0) = false := by simp; omega
      by_cases hx1 : 65535 < x
      · have q2 : decide (65535 < x) = true := by simp [hx1]
        have HN := Lib.hid (HBAD.out (by omega))
        clear hx0 hx1
        go_wp2
        go_ret
        exact ⟨Wg.BoSays.no HN.out, HB2.out.trans (HB.out.mono HB2.out.size)⟩
      have q2 : decide (65535 < x) = false := by simp; omega
      by_cases hy0 : y < 0
      · have q3 : decide (y < 0) = true := by simp [hy0]
        have HN := Lib.hid (HBAD.out (by omega))
        clear hx0 hx1 hy0
        go_wp2
        go_ret
        exact ⟨Wg.BoSays.no HN.out, HB2.out.trans (HB.out.mono HB2.out.size)⟩
      have q3 : decide (y < 0) = false := by simp; omega
      by_cases hy1 : 1048576 < y
      · have q4 : decide (1048576 < y) = true := by simp [hy1]
        have HN := Lib.hid (HBAD.out (by omega))
        clear hx0 hx1 hy0 hy1
        go_wp2
        go_ret
        exact ⟨Wg.BoSays.no HN.out, HB2.out.trans (HB.out.mono HB2.out.size)⟩
      have q4 : decide (1048576 < y) = false := by simp; omega
      have HOK := Lib.hid (show Ok3 L V k from by unfold Ok3; rw [← HXX.out, ← HYY.out]; omega)
      clear hx0 hx1 hy0 hy1
      go_wp2
      go_roundw
      case rel => exact ⟨k + 1, by omega, by go_num, fun j hj => by
        by_cases e : j = k
        · rw [e]; exact HOK.out
        · exact HALL.out j (by omega), HB.out⟩
      case measure => simp [intOf]; omega
    · obtain rfl : k = nv := by omega
      have i1 : ¬ (k : Int) < (k : Int) := by omega
      go_wp2
      go_ret
      exact ⟨Wg.BoSays.yes ⟨HRB.out, HN8.out, rfl, HRW.out, HALL.out⟩, HB2.out.trans (HB.out.mono HB2.out.size)⟩
end Go.Proofs.Ythkcacnlinajgaa.Pn

namespace Go.Proofs.Ythkcacnlinajgaa.Pn
open Go.RowKit Go.Shelf
open Go.Proofs.Ythkcacnlinajgaa.Ly (widI widI_le width_any)
attribute [local go_sem] Oper.semAt_some

theorem Try.infoCell : (Try.prog.info? 69).map (fun i => (i.zero, i.size, i.bytes)) = some (some (.agg #[.int .i64 0, .int .i64 0]), 2, 16) := by kernel_rfl
theorem Try.infoCells : (Try.prog.info? 65).map (fun i => (i.zero, i.size, i.bytes)) = some (some (.slice none 0 0), 1, 24) := by kernel_rfl
theorem hmkC (N : Nat) (hN : N ≤ 1000000000) : ∀ W : World, (Instr.makeSlice 65 (.int .i64 (N : Nat)) (.int .i64 (N : Nat))).run Try.prog W = .ok (.slice (some ⟨W.heap.size, 0, none⟩) N N) (W.alloc (.cells (madeCells #[.int .i64 0, .int .i64 0] (N * 2)) 69)) := fun W => by
  obtain ⟨i0, hi, hz0, hz1, hz2⟩ := info_parts Try.infoCell
  have := run_make (P := Try.prog) W 65 69 i0 (.agg #[.int .i64 0, .int .i64 0]) Try.underlying65 hi hz0 .i64 .i64 (N : Int) (N : Int) (by omega) (Int.le_refl _) (by rw [hz2]; omega) (by omega)
  have e : (Value.agg #[.int .i64 0, .int .i64 0]).cells = #[.int .i64 0, .int .i64 0] := rfl
  rw [hz1, e, Int.toNat_natCast] at this; exact this
theorem hmkT (N : Nat) (hN : N ≤ 1000000000) : ∀ W : World, (Instr.makeSlice 64 (.int .i64 (N : Nat)) (.int .i64 (N : Nat))).run Try.prog W = .ok (.slice (some ⟨W.heap.size, 0, none⟩) N N) (W.alloc (.cells (madeCells #[.slice none 0 0] N) 65)) := fun W => by
  obtain ⟨i0, hi, hz0, hz1, hz2⟩ := info_parts Try.infoCells
  have := run_make (P := Try.prog) W 64 65 i0 (.slice none 0 0) Try.underlying64 hi hz0 .i64 .i64 (N : Int) (N : Int) (by omega) (Int.le_refl _) (by rw [hz2]; omega) (by omega)
  have e : (Value.slice none 0 0).cells = #[.slice none 0 0] := rfl
  rw [hz1, e, Int.toNat_natCast, Nat.mul_one] at this; exact this
/-- a row of cells, the first k of which are told. -/
def Cr (w : World) (g K k : Nat) (h : Nat → Int × Nat) : Prop := ∃ vs : Array Value, w.heap[g]? = some (.cells vs 69 (0, 0)) ∧ vs.size = K * 2 ∧ ∀ i, i < k → vs[i * 2]? = some (.int .i64 (h i).1) ∧ vs[i * 2 + 1]? = some (.int .i64 ((h i).2 : Nat))
section
variable {w w' : World} {g K k : Nat} {h : Nat → Int × Nat}
theorem Cr.lt (s : Cr w g K k h) : g < w.heap.size := by
  obtain ⟨vs, h1, _⟩ := s
  exact (Array.getElem?_eq_some_iff.1 h1).1
theorem Cr.kept (s : Cr w g K k h) (hk : w'.heap[g]? = w.heap[g]?) : Cr w' g K k h := by
  obtain ⟨vs, h1, h2⟩ := s
  exact ⟨vs, hk.trans h1, h2⟩
theorem Cr.same (s : Cr w g K k h) (hB : Below w.heap.size w w') : Cr w' g K k h := s.kept (hB.block g s.lt)
theorem Cr.new (w : World) (K : Nat) : Cr (w.alloc (.cells (madeCells #[.int .i64 0, .int .i64 0] (K * 2)) 69)) w.heap.size K 0 h :=
  ⟨_, heap_alloc_new w _, by rw [size_madeCells], fun i hi => absurd hi (Nat.not_lt_zero i)⟩
theorem Cr.zero (w : World) (K : Nat) : Cr (w.alloc (.cells (madeCells #[.int .i64 0, .int .i64 0] (K * 2)) 69)) w.heap.size K K (fun _ => (0, 0)) :=
  ⟨_, heap_alloc_new w _, by rw [size_madeCells], fun i hi => by
    constructor
    · simp [madeCells, show i * 2 < K * 2 by omega]
    · simp [madeCells, show i * 2 + 1 < K * 2 by omega, show (i * 2 + 1) % 2 = 1 by omega]⟩
theorem Cr.any (s : Cr w g K k h) {j : Nat} (hj : j < K * 2) : ∃ v, w.cell? ⟨g, j, none⟩ = some v := by
  obtain ⟨vs, h1, h2, _⟩ := s
  refine ⟨vs[j]'(by omega), ?_⟩
  rw [cell_of_row w g j vs _ _ h1]
  simp [show j < vs.size by omega]
theorem Cr.free (s : Cr w g K k h) (j : Nat) : w.frozen? ⟨g, j, none⟩ = false := by
  obtain ⟨vs, h1, _⟩ := s
  exact frozen_of_row w g j vs _ h1
theorem Cr.c (s : Cr w g K k h) {i : Nat} (hi : i < k) : w.cell? ⟨g, i * 2, none⟩ = some (.int .i64 (h i).1) ∧ w.cell? ⟨g, i * 2 + 1, none⟩ = some (.int .i64 ((h i).2 : Nat)) := by
  obtain ⟨vs, h1, h2, h3⟩ := s
  exact ⟨by rw [cell_of_row w g _ vs _ _ h1]; exact (h3 i hi).1, by rw [cell_of_row w g _ vs _ _ h1]; exact (h3 i hi).2⟩
theorem Cr.put (s : Cr w g K k h) (hk : k < K) : Cr ((w.setCell ⟨g, k * 2, none⟩ (.int .i64 (h k).1)).setCell ⟨g, k * 2 + 1, none⟩ (.int .i64 ((h k).2 : Nat))) g K (k + 1) h := by
  obtain ⟨vs, h1, h2, h3⟩ := s
  refine ⟨_, heap_setCell_same _ g (k * 2 + 1) _ _ _ (heap_setCell_same w g (k * 2) vs _ _ h1), by simpa using h2, fun i hi => ?_⟩
  by_cases e : i = k
  · subst e
    constructor
    · rw [Array.getElem?_setIfInBounds_ne (by omega), Array.getElem?_setIfInBounds_self_of_lt (by omega)]
    · rw [Array.getElem?_setIfInBounds_self_of_lt (by simp; omega)]
  · rw [Array.getElem?_setIfInBounds_ne (by omega), Array.getElem?_setIfInBounds_ne (by omega), Array.getElem?_setIfInBounds_ne (by omega), Array.getElem?_setIfInBounds_ne (by omega)]
    exact h3 i (by omega)
end
/-- a table of rows of cells, from the row 1 on, as it reads. -/
def CT (w : World) (lo G n R : Nat) (c : Nat → Nat → Int × Nat) : Prop := ∃ b : Nat → Nat, ∀ k, 1 ≤ k → k ≤ n → lo ≤ b k ∧ w.cell? ⟨G, k, none⟩ = some (.slice (some ⟨b k, 0, none⟩) (R + 1) (R + 1)) ∧ Cr w (b k) (R + 1) (R + 1) (c k)
theorem CT.same {w w' : World} {lo G n R : Nat} {c : Nat → Nat → Int × Nat} (h : CT w lo G n R c) (hB : Below w.heap.size w w') : CT w' lo G n R c := by
  obtain ⟨b, h⟩ := h
  exact ⟨b, fun k h1 h2 => ⟨(h k h1 h2).1, by
    have := (h k h1 h2).2.1
    rw [hB.cell (World.block_lt_of_cell? _ _ this)]; exact this, (h k h1 h2).2.2.same hB⟩⟩
/-- a table that has nothing in a block. -/
def CX (w : World) (A G n R : Nat) (c : Nat → Nat → Int × Nat) : Prop := G ≠ A ∧ ∃ b : Nat → Nat, ∀ k, 1 ≤ k → k ≤ n → b k ≠ A ∧ w.cell? ⟨G, k, none⟩ = some (.slice (some ⟨b k, 0, none⟩) (R + 1) (R + 1)) ∧ Cr w (b k) (R + 1) (R + 1) (c k)
theorem CX.ct {w : World} {A G n R : Nat} {c : Nat → Nat → Int × Nat} (h : CX w A G n R c) : CT w 0 G n R c := by
  obtain ⟨_, b, h⟩ := h
  exact ⟨b, fun k h1 h2 => ⟨Nat.zero_le _, (h k h1 h2).2⟩⟩
theorem CX.same {w w' : World} {A G n R : Nat} {c : Nat → Nat → Int × Nat} (h : CX w A G n R c) (hB : Below w.heap.size w w') : CX w' A G n R c := by
  obtain ⟨h0, b, h⟩ := h
  exact ⟨h0, b, fun k h1 h2 => ⟨(h k h1 h2).1, by
    have := (h k h1 h2).2.1
    rw [hB.cell (World.block_lt_of_cell? _ _ this)]; exact this, (h k h1 h2).2.2.same hB⟩⟩
theorem CX.set {w : World} {A G n R : Nat} {c : Nat → Nat → Int × Nat} (h : CX w A G n R c) (i : Nat) (v : Value) : CX (w.setCell ⟨A, i, none⟩ v) A G n R c := by
  obtain ⟨h0, b, h⟩ := h
  refine ⟨h0, b, fun k h1 h2 => ⟨(h k h1 h2).1, ?_, (h k h1 h2).2.2.kept (Below.heap_setCell w ⟨A, i, none⟩ v _ (h k h1 h2).1)⟩⟩
  rw [World.cell?_of_block (a := ⟨G, k, none⟩) (Below.heap_setCell w ⟨A, i, none⟩ v G h0)]
  exact (h k h1 h2).2.1
theorem CT.cx {w : World} {lo A G n R : Nat} {c : Nat → Nat → Int × Nat} (h : CT w lo G n R c) (hG : G ≠ A) (hA : A < lo ∨ w.heap.size ≤ A) : CX w A G n R c := by
  obtain ⟨b, h⟩ := h
  refine ⟨hG, b, fun k h1 h2 => ⟨?_, (h k h1 h2).2⟩⟩
  have h3 := (h k h1 h2).1
  have h4 := (h k h1 h2).2.2.lt
  omega
/-- a table that is made: the rows from 1 on, below f. -/
def Tt (w : World) (G n R f : Nat) (b : Nat → Nat) : Prop := ∃ vs : Array Value, w.heap[G]? = some (.cells vs 65 (0, 0)) ∧ vs.size = n + 1 ∧ ∀ i, 1 ≤ i → i < f → vs[i]? = some (.slice (some ⟨b i, 0, none⟩) (R + 1) (R + 1))
section
variable {w w' : World} {G n R f : Nat} {b : Nat → Nat}
theorem Tt.lt (s : Tt w G n R f b) : G < w.heap.size := by
  obtain ⟨vs, h1, _⟩ := s
  exact (Array.getElem?_eq_some_iff.1 h1).1
theorem Tt.kept (s : Tt w G n R f b) (hk : w'.heap[G]? = w.heap[G]?) : Tt w' G n R f b := by
  obtain ⟨vs, h1, h2⟩ := s
  exact ⟨vs, hk.trans h1, h2⟩
theorem Tt.same (s : Tt w G n R f b) (hB : Below w.heap.size w w') : Tt w' G n R f b := s.kept (hB.block G s.lt)
theorem Tt.new (w : World) (n R : Nat) (b : Nat → Nat) : Tt (w.alloc (.cells (madeCells #[.slice none 0 0] (n + 1)) 65)) w.heap.size n R 1 b :=
  ⟨_, heap_alloc_new w _, by rw [size_madeCells], fun i h1 h2 => absurd h2 (by omega)⟩
theorem Tt.less (s : Tt w G n R f b) {f' : Nat} (h : f' ≤ f) : Tt w G n R f' b := by
  obtain ⟨vs, h1, h2, h3⟩ := s
  exact ⟨vs, h1, h2, fun i h4 h5 => h3 i h4 (by omega)⟩
theorem Tt.any (s : Tt w G n R f b) {j : Nat} (hj : j < n + 1) : ∃ v, w.cell? ⟨G, j, none⟩ = some v := by
  obtain ⟨vs, h1, h2, _⟩ := s
  refine ⟨vs[j]'(by omega), ?_⟩
  rw [cell_of_row w G j vs _ _ h1]
  simp [show j < vs.size by omega]
theorem Tt.free (s : Tt w G n R f b) (j : Nat) : w.frozen? ⟨G, j, none⟩ = false := by
  obtain ⟨vs, h1, _⟩ := s
  exact frozen_of_row w G j vs _ h1
theorem Tt.cell (s : Tt w G n R f b) {i : Nat} (h1 : 1 ≤ i) (hi : i < f) : w.cell? ⟨G, i, none⟩ = some (.slice (some ⟨b i, 0, none⟩) (R + 1) (R + 1)) := by
  obtain ⟨vs, h2, h3, h4⟩ := s
  rw [cell_of_row w G i vs _ _ h2]; exact h4 i h1 hi
theorem Tt.put (s : Tt w G n R f b) (hf : f < n + 1) (g : Nat) : Tt (w.setCell ⟨G, f, none⟩ (.slice (some ⟨g, 0, none⟩) (R + 1) (R + 1))) G n R (f + 1) (fun i => if i = f then g else b i) := by
  obtain ⟨vs, h1, h2, h3⟩ := s
  refine ⟨_, heap_setCell_same w G f vs _ _ h1, by simpa using h2, fun i h4 hi => ?_⟩
  show _ = some (Value.slice (some ⟨if i = f then g else b i, 0, none⟩) (R + 1) (R + 1))
  by_cases e : i = f
  · subst e
    rw [if_pos rfl, Array.getElem?_setIfInBounds_self_of_lt (by omega)]
  · rw [if_neg e, Array.getElem?_setIfInBounds_ne (fun q => e q.symm)]
    exact h3 i h4 (by omega)
end
/-- one cell in a block of its own. -/
def Bc (w : World) (g : Nat) (p : Int × Nat) : Prop := w.heap[g]? = some (.cells #[.int .i64 p.1, .int .i64 (p.2 : Nat)] 69 (0, 0))
theorem Bc.lt {w : World} {g : Nat} {p : Int × Nat} (s : Bc w g p) : g < w.heap.size := (Array.getElem?_eq_some_iff.1 s).1
theorem Bc.c {w : World} {g : Nat} {p : Int × Nat} (s : Bc w g p) : w.cell? ⟨g, 0, none⟩ = some (.int .i64 p.1) ∧ w.cell? ⟨g, 1, none⟩ = some (.int .i64 (p.2 : Nat)) := ⟨by rw [cell_of_row w g 0 _ _ _ s]; rfl, by rw [cell_of_row w g 1 _ _ _ s]; rfl⟩
theorem Bc.free {w : World} {g : Nat} {p : Int × Nat} (s : Bc w g p) (i : Nat) : w.frozen? ⟨g, i, none⟩ = false := frozen_of_row w g i _ _ s
theorem Bc.put {w : World} {g : Nat} {p : Int × Nat} (s : Bc w g p) (q : Int × Nat) : Bc ((w.setCell ⟨g, 0, none⟩ (.int .i64 q.1)).setCell ⟨g, 1, none⟩ (.int .i64 (q.2 : Nat))) g q :=
  heap_setCell_same _ g 1 _ _ _ (heap_setCell_same w g 0 _ _ _ s)
theorem Bc.same {w w' : World} {g : Nat} {p : Int × Nat} (s : Bc w g p) (hB : Below w.heap.size w w') : Bc w' g p := (hB.block g s.lt).trans s
end Go.Proofs.Ythkcacnlinajgaa.Pn

namespace Go.Proofs.Ythkcacnlinajgaa.Pn
open Go.RowKit Go.Shelf
open Go.Proofs.Ythkcacnlinajgaa.Ly (widI widI_le rwidth_any widE)
open Go.Proofs.Ythkcacnlinajgaa.Sz (RB bV)
open Go.Proofs.Ythkcacnlinajgaa.Wg (RW)
attribute [local go_sem] Oper.semAt_some

/-- a layer, as what is planned with. -/
def ly (L V W : Nat → Int) (a : Nat) : Ly := ⟨fun k => widI (L a) (k : Nat), fun k => V a * W k⟩
theorem run_step (l : Ly) (cb : Nat → Nat → Int × Nat) (r : Nat) {f k : Nat} (h : f ≤ k) : run l cb r f (k + 1 - f) = if may l cb r k ∧ (run l cb r f (k - f)).1 < sum l cb r k then (sum l cb r k, k) else run l cb r f (k - f) := by
  have e1 : k + 1 - f = (k - f) + 1 := by omega
  have e2 : f + (k - f) = k := by omega
  rw [e1]
  show (if may l cb r (f + (k - f)) ∧ (run l cb r f (k - f)).1 < sum l cb r (f + (k - f)) then (sum l cb r (f + (k - f)), f + (k - f)) else run l cb r f (k - f)) = _
  rw [e2]
set_option maxHeartbeats 8000000 in
set_option maxRecDepth 100000 in
theorem layer_any (M B : Int) (la va wa : Option Addr) (n nl lc nv vc nm wc a lo G R : Nat) (L V W : Nat → Int) (cb : Nat → Nat → Int × Nat) (hT : TR (n : Nat) M B nl nv nm L V W) (ha : a < nl) (hR : R ≤ 2000) (hcb : ∀ k r, (cb k r).1 ≤ 549755813888) (w : World) (hL : Si w la nl L) (hV : Si w va nv V) (hW : Si w wa nm W) (hC : CT w lo G n R cb) :
    Calls Try.prog 31 #[tV (n : Nat) M B la nl lc va nv vc wa nm wc, .int .i64 (a : Nat), .slice (some ⟨G, 0, none⟩) (n + 1) (n + 1), .int .i64 (R : Nat)] w fun e w' => (∃ G2, e = .returned (.slice (some ⟨G2, 0, none⟩) (n + 1) (n + 1)) ∧ w.heap.size ≤ G2 ∧ CT w' w.heap.size G2 n R (fun f r => run (ly L V W a) cb r f (n + 1 - f))) ∧ Below w.heap.size w w' := by
  have HL := Lib.hid hL; have HV := Lib.hid hV; have HW := Lib.hid hW; have HC := Lib.hid hC; have HT := Lib.hid hT; have HCB := Lib.hid hcb
  obtain ⟨b, hb⟩ := hC
  have HBB := Lib.hid hb
  have hn1 : 1 ≤ n ∧ n ≤ 255 := by have := hT.1.1; omega
  obtain ⟨n0, n1⟩ := hn1
  have HNM := Lib.hid (show nm = n + 1 by have := hT.2.2.2.1.2.1; omega)
  have hla := hT.2.2.2.2 a ha
  obtain ⟨lo0, lo1, v0, v1⟩ := hla
  have hva : a < nv := by have := hT.2.2.1; omega
  obtain ⟨T, hTT⟩ : ∃ T, T = n + 1 := ⟨_, rfl⟩
  have hnT : (n : Int) + 1 = (T : Int) := by omega
  obtain ⟨Q, hQQ⟩ : ∃ Q, Q = R + 1 := ⟨_, rfl⟩
  have hRQ : (R : Int) + 1 = (Q : Int) := by omega
  have HTT := Lib.hid hTT; have HQQ := Lib.hid hQQ
  have hmk1 := hmkT T (by omega)
  have hmk2 := hmkC Q (by omega)
  have hT2 : T ≤ 256 := by omega
  have hQ2 : Q ≤ 2001 := by omega
  have hTn : ∀ f, T - f = n + 1 - f := fun f => by rw [hTT]
  have HX0 := Lib.hid (show TAt (w.alloc (.cells #[.int .i64 (n : Nat), .int .i64 M, .int .i64 B, .slice la nl lc, .slice va nv vc, .slice wa nm wc] 35)) w.heap.size 35 (n : Nat) M B la nl lc va nv vc wa nm wc from heap_alloc_new _ _)
  have HB0 := Lib.hid ((Below.refl w.heap.size w).alloc (Nat.le_refl _) (.cells #[.int .i64 (n : Nat), .int .i64 M, .int .i64 B, .slice la nl lc, .slice va nv vc, .slice wa nm wc] 35))
  obtain ⟨row, hrow⟩ : ∃ row : Nat → Nat → Int × Nat, row = fun f r => run (ly L V W a) cb r f (T - f) := ⟨_, rfl⟩
  have HROW := Lib.hid hrow
  rw [← hTT, ← hrow]
  simp only [← hQQ] at hb
  have HBB := Lib.hid hb
  clear hL hV hW hT hcb hb hTT hQQ hrow hTn
  unfold tV
  go_enter Try.func31, Try.ntmps31
  obtain ⟨w0, hw0⟩ : ∃ w0, w0 = w.alloc (.cells #[.int .i64 (n : Nat), .int .i64 M, .int .i64 B, .slice la nl lc, .slice va nv vc, .slice wa nm wc] 35) := ⟨_, rfl⟩
  rw [← hw0] at HX0 HB0
  have hz0 : w0.heap.size = w.heap.size + 1 := by rw [hw0, World.size_alloc]
  have HZ0 := Lib.hid hz0
  have hTt := Tt.new w0 n R (fun _ => 0)
  rw [← HTT.out] at hTt
  have HTt0 := Lib.hid hTt
  have HBA := Lib.hid ((Below.refl w0.heap.size w0).alloc (Nat.le_refl _) (.cells (madeCells #[.slice none 0 0] T) 65))
  obtain ⟨c0, c1, c2, c3, c4, c5⟩ := HX0.out.c
  rw [hw0] at c0
  rw [hw0, World.size_alloc] at HTt0
  rw [hw0] at HBA
  have HW0 := Lib.hid hw0
  clear hw0 c1 c2 c3 c4 c5 hTt hz0
  go_wp2_with fail
  obtain ⟨G2, hG2⟩ : ∃ G2, G2 = w.heap.size + 1 := ⟨_, rfl⟩
  rw [← hG2] at HTt0 ⊢
  have HG2 := Lib.hid hG2
  generalize (w.alloc (.cells #[.int .i64 (n : Nat), .int .i64 M, .int .i64 B, .slice la nl lc, .slice va nv vc, .slice wa nm wc] 35)).alloc (.cells (madeCells #[.slice none 0 0] T) 65) = wA at *
  rw [← HW0.out] at HBA
  clear c0 hmk1 hG2
  have HGZ := Lib.hid (show G2 = w0.heap.size from by rw [HG2.out, HZ0.out])
  go_loopw [10] (fun i wr => ∃ (f : Nat) (b2 : Nat → Nat), 1 ≤ f ∧ f ≤ T ∧ i = .int .i64 (f : Nat) ∧ Tt wr G2 n R f b2 ∧ (∀ k, 1 ≤ k → k < f → G2 < b2 k ∧ Cr wr (b2 k) Q Q (row k)) ∧ Below w0.heap.size w0 wr) (fun i _ => T - (intOf i).toNat)
  case atStart => exact ⟨1, _, by omega, by omega, rfl, HTt0.out, fun k h1 h2 => absurd h2 (by omega), HBA.out⟩
  case round =>
    obtain ⟨f, b2, hf1, hf, rfl, hTt, hrows, hB⟩ := hrel
    obtain ⟨wo, rfl⟩ : ∃ wo, wo = wr := ⟨_, rfl⟩
    have HTt := Lib.hid hTt; have HRS := Lib.hid hrows; have HBo := Lib.hid hB
    have hgl := hTt.lt
    clear hTt hrows hB
    have hX := HX0.out.same HBo.out
    obtain ⟨c0, c1, c2, c3, c4, c5⟩ := hX.c
    clear c1 c2 c3 c4 c5
    by_cases hfn : f ≤ n
    · have i1 : (f : Int) ≤ (n : Int) := by omega
      have i2 : (f : Int) < (T : Int) := by omega
      have hfT : f < n + 1 := by omega
      have hal : Below wo.heap.size wo (wo.alloc (.cells (madeCells #[.int .i64 0, .int .i64 0] (Q * 2)) 69)) := (Below.refl _ wo).alloc (Nat.le_refl _) _
      have hT1 := HTt.out.same hal
      obtain ⟨x, hx⟩ := hT1.any hfT
      have hfr := hT1.free f
      have hcr := Cr.new (h := row f) wo Q
      have HAL := Lib.hid hal; have HT1 := Lib.hid hT1; have HCR := Lib.hid hcr
      clear hal hT1 hcr hX
      go_wp2_with fail
      -- the world in which the row stands in the table
      obtain ⟨g, hg⟩ : ∃ g, g = wo.heap.size := ⟨_, rfl⟩
      rw [← hg] at HCR ⊢
      obtain ⟨wf, hwf⟩ : ∃ wf, wf = (wo.alloc (.cells (madeCells #[.int .i64 0, .int .i64 0] (Q * 2)) 69)).setCell ⟨G2, f, none⟩ (.slice (some ⟨g, 0, none⟩) Q Q) := ⟨_, rfl⟩
      have hwf2 : (wo.setCell ⟨G2, f, none⟩ (.slice (some ⟨g, 0, none⟩) Q Q)).alloc (.cells (madeCells #[.int .i64 0, .int .i64 0] (Q * 2)) 69) = wf := by rw [hwf, World.setCell_alloc_past _ _ _ _ hgl]
      rw [hwf2]
      clear hwf2
      have hgG : G2 < g := by rw [hg]; exact hgl
      have HTf := Lib.hid (show Tt wf G2 n R (f + 1) (fun i => if i = f then g else b2 i) by
        have h := HT1.out.put hfT g
        rw [← HQQ.out] at h
        rw [hwf]; exact h)
      have hoth : ∀ k, k ≠ G2 → wf.heap[k]? = (wo.alloc (.cells (madeCells #[.int .i64 0, .int .i64 0] (Q * 2)) 69)).heap[k]? := fun k hk => by rw [hwf]; exact Below.heap_setCell _ ⟨G2, f, none⟩ _ k hk
      have HCf := Lib.hid (HCR.out.kept (hoth g (by omega)))
      have HBf := Lib.hid (show Below w0.heap.size w0 wf by
        rw [hwf]
        exact ((HBo.out.trans (HAL.out.mono HBo.out.size)).setCell (p := ⟨G2, f, none⟩) (by show _ ≤ G2; rw [HGZ.out]; exact Nat.le_refl _) _))
      have HRf := Lib.hid (show ∀ k, 1 ≤ k → k < f → G2 < b2 k ∧ b2 k < g ∧ Cr wf (b2 k) Q Q (row k) from fun k h1 h2 => by
        obtain ⟨h3, h4⟩ := HRS.out k h1 h2
        exact ⟨h3, by rw [hg]; exact h4.lt, (h4.same HAL.out).kept (hoth _ (by omega))⟩)
      clear hwf hoth hx hfr HT1 HCR HAL HTt HRS HBo hgl hg c0
      go_loopw [11] (fun i wr => ∃ r : Nat, r ≤ Q ∧ i = .int .i64 (r : Nat) ∧ Cr wr g Q r (row f) ∧ wf.grownBy wr (some g)) (fun i _ => Q - (intOf i).toNat)
      case atStart => exact ⟨0, by omega, rfl, HCf.out, ⟨rfl, rfl, rfl, Nat.le_refl _, fun _ _ _ => rfl⟩⟩
      case round =>
        obtain ⟨r, hr, rfl, hcr, hgr⟩ := hrel
        obtain ⟨wm, rfl⟩ : ∃ wm, wm = wr := ⟨_, rfl⟩
        have HCm := Lib.hid hcr; have HGm := Lib.hid hgr
        have HBm := Lib.hid (show Below w0.heap.size w0 wm from HBf.out.grown hgr HBf.out.size (fun k e => by cases e; rw [← HGZ.out]; omega))
        have hgm := hcr.lt
        clear hcr hgr
        by_cases hrR : r ≤ R
        · have i3 : (r : Int) ≤ (R : Int) := by omega
          have HBe := Lib.hid ((Below.refl wm.heap.size wm).alloc (Nat.le_refl _) (.cells #[.int .i64 (-1), .int .i64 0] 69))
          have HBc := Lib.hid (show Bc (wm.alloc (.cells #[.int .i64 (-1), .int .i64 0] 69)) wm.heap.size (run (ly L V W a) cb r f 0) from heap_alloc_new _ _)
          go_wp2_with fail
          obtain ⟨bb, hbb⟩ : ∃ bb, bb = wm.heap.size := ⟨_, rfl⟩
          rw [← hbb] at HBc ⊢
          have HBBE := Lib.hid hbb
          generalize wm.alloc (.cells #[.int .i64 (-1), .int .i64 0] 69) = we at *
          clear hbb
          go_loopw [13] (fun i wr => ∃ k : Nat, f ≤ k ∧ k ≤ T ∧ i = .int .i64 (k : Nat) ∧ Bc wr bb (run (ly L V W a) cb r f (k - f)) ∧ Below wm.heap.size wm wr) (fun i _ => T - (intOf i).toNat)
          case atStart => exact ⟨f, by omega, by omega, rfl, by rw [Nat.sub_self]; exact HBc.out, HBe.out⟩
          case round =>
            obtain ⟨k, hkf, hkT, rfl, hbc, hB⟩ := hrel
            obtain ⟨wi, rfl⟩ : ∃ wi, wi = wr := ⟨_, rfl⟩
            have HBci := Lib.hid hbc; have HBi := Lib.hid hB
            have HBi0 := Lib.hid (HBm.out.trans (hB.mono HBm.out.size))
            have HBiw := Lib.hid (HB0.out.trans (HBi0.out.mono HB0.out.size))
            clear hbc hB
            obtain ⟨c0, c1, c2, c3, c4, c5⟩ := (HX0.out.same HBi0.out).c
            by_cases hkn : k ≤ n
            · have i4 : (k : Int) ≤ (n : Int) := by omega
              have i5 : (k : Int) < (T : Int) := by omega
              have i6 : (k : Int) < (nm : Int) := by have := HNM.out; omega
              have i7 : (a : Int) < (nl : Int) := by omega
              have i8 : (a : Int) < (nv : Int) := by omega
              obtain ⟨b1, o1, ea1, d1⟩ := (HL.out.same HBiw.out).cell a ha
              obtain ⟨b3, o3, ea3, d3⟩ := (HV.out.same HBiw.out).cell a hva
              obtain ⟨b4, o4, ea4, d4⟩ := (HW.out.same HBiw.out).cell k (by have := HNM.out; omega)
              obtain ⟨_, hq1, hq2⟩ := HBB.out k (by omega) hkn
              have d5 : wi.cell? ⟨G, k, none⟩ = some (.slice (some ⟨b k, 0, none⟩) Q Q) := by
                rw [HBiw.out.cell (World.block_lt_of_cell? _ _ hq1)]; exact hq1
              have HQ2 := Lib.hid (hq2.same HBiw.out)
              have HST := Lib.hid (run_step (ly L V W a) cb r hkf)
              obtain ⟨wd, hwd⟩ : ∃ wd, wd = widI (L a) (k : Nat) := ⟨_, rfl⟩
              have hwl := widI_le (L a) (k : Nat)
              rw [← hwd] at hwl
              have HMAY := Lib.hid (show may (ly L V W a) cb r k ↔ wd ≤ r ∧ 0 ≤ (cb k (r - wd)).1 from by rw [hwd]; exact Iff.rfl)
              have HSUM := Lib.hid (show sum (ly L V W a) cb r k = V a * W k + (cb k (r - wd)).1 from by rw [hwd]; rfl)
              have HWI := Lib.hid (fun (X : World) => (show Calls Try.prog 32 #[.int .i64 (L a), .int .i64 (k : Nat)] X fun e w' => e = .returned (.tuple #[.int .i64 (wd : Nat), .int .i64 (widE (L a) (k : Nat))]) ∧ w' = X from by rw [hwd]; exact rwidth_any (L a) (k : Nat) X))
              have EA := Lib.hid (And.intro ea1 (And.intro ea3 ea4))
              subst ea1 ea3 ea4
              clear hq1 hq2 hwd
              go_wp2_with fail
              refine (HWI.out _).mono ?_
              rintro e w' ⟨rfl, rfl⟩
              obtain ⟨q0, q1⟩ := HBci.out.c
              obtain ⟨p, hp⟩ : ∃ p, p = run (ly L V W a) cb r f (k - f) := ⟨_, rfl⟩
              rw [← hp] at q0 q1 HST
              have HP := Lib.hid hp
              clear hp
              by_cases hwr : r < wd
              · have g1 : decide ((r : Int) < (wd : Int)) = true := by simp; omega
                have g2 : (r : Int) < (wd : Int) := by omega
                have HE := Lib.hid (show run (ly L V W a) cb r f (k + 1 - f) = p from by rw [HST.out, if_neg (fun h => by have := (HMAY.out.1 h.1).1; omega)])
                clear hwr
                go_wp2
                go_roundw
                case rel => exact ⟨k + 1, by omega, by omega, by go_num, by rw [HE.out, HP.out]; exact HBci.out, HBi.out⟩
                case measure => simp [intOf]; omega
              have g1 : decide ((r : Int) < (wd : Int)) = false := by simp; omega
              have g2 : ¬ (r : Int) < (wd : Int) := by omega
              obtain ⟨xx, hxx⟩ : ∃ xx, xx = r - wd := ⟨_, rfl⟩
              have j1 : (r : Int) - (wd : Int) = (xx : Int) := by omega
              have j2 : (xx : Int) < (Q : Int) := by omega
              have hxQ : xx < Q := by omega
              obtain ⟨m0, m1⟩ := HQ2.out.c hxQ
              rw [← hxx] at HMAY HSUM
              obtain ⟨s0, hs0⟩ : ∃ s0, s0 = (cb k xx).1 := ⟨_, rfl⟩
              have hs9 := HCB.out k xx
              rw [← hs0] at m0 HMAY HSUM hs9
              have HXX := Lib.hid hxx; have HS0 := Lib.hid hs0
              have hwr2 : wd ≤ r := by omega
              clear hxx hs0 hwr
              by_cases hsn : s0 < 0
              · have g3 : decide (s0 < 0) = true := by simp [hsn]
                have HE := Lib.hid (show run (ly L V W a) cb r f (k + 1 - f) = p from by rw [HST.out, if_neg (fun h => by have := (HMAY.out.1 h.1).2; omega)])
                clear hsn
                go_wp2
                go_roundw
                case rel => exact ⟨k + 1, by omega, by omega, by go_num, by rw [HE.out, HP.out]; exact HBci.out, HBi.out⟩
                case measure => simp [intOf]; omega
              have g3 : decide (s0 < 0) = false := by simp; omega
              have hwk := HT.out.2.2.2.1
              have hpb := Wg.prod_bd v0 v1 (hwk.2.2.1 k (by have := HNM.out; omega)) (hwk.le k (by have := HNM.out; omega))
              obtain ⟨pw, hpw⟩ : ∃ pw, V a * W k = pw := ⟨_, rfl⟩
              rw [hpw] at hpb HSUM
              obtain ⟨p0, p1⟩ := hpb
              have HMY := Lib.hid (HMAY.out.2 ⟨hwr2, by omega⟩)
              have s00 : 0 ≤ s0 := by omega
              clear hwk HMAY hsn hwr2
              have D1 : ∀ q, (w'.drewN q).cell? ⟨w.heap.size, 4, none⟩ = some (.slice (some ⟨b3, o3, none⟩) nv vc) := fun q => c4
              have D2 : ∀ q, (w'.drewN q).cell? ⟨w.heap.size, 5, none⟩ = some (.slice (some ⟨b4, o4, none⟩) nm wc) := fun q => c5
              have D3 : ∀ q, (w'.drewN q).cell? ⟨b3, o3 + a, none⟩ = some (.int .i64 (V a)) := fun q => d3
              have D4 : ∀ q, (w'.drewN q).cell? ⟨b4, o4 + k, none⟩ = some (.int .i64 (W k)) := fun q => d4
              have D5 : ∀ q, (w'.drewN q).cell? ⟨G, k, none⟩ = some (.slice (some ⟨b k, 0, none⟩) Q Q) := fun q => d5
              have D6 : ∀ q, (w'.drewN q).cell? ⟨b k, xx * 2, none⟩ = some (.int .i64 s0) := fun q => m0
              clear c0 c1 c2 d1 m1 q0 q1
              go_wp2_with fail
              go_quiet (fail)
              have hbq := below_dr (Below.refl w'.heap.size w') nq
              have HBcj := Lib.hid (HBci.out.same hbq); have HBj := Lib.hid (HBi.out.trans (hbq.mono HBi.out.size))
              generalize w'.drewN nq = wj at *
              clear hbq c3 c4 c5 d3 d4 d5 m0 D1 D2 D3 D4 D5 D6
              rw [← HP.out] at HBcj
              obtain ⟨q0, q1⟩ := HBcj.out.c
              have f0 := HBcj.out.free 0
              have f1 := HBcj.out.free 1
              by_cases hlt : p.1 < pw + s0
              · have g4 : decide (p.1 < pw + s0) = true := by simp [hlt]
                have HE := Lib.hid (show run (ly L V W a) cb r f (k + 1 - f) = (pw + s0, k) from by rw [HST.out, HSUM.out, if_pos ⟨HMY.out, hlt⟩])
                have HBn := Lib.hid (HBcj.out.put (pw + s0, k))
                have HBp := Lib.hid ((HBj.out.setCell (p := ⟨bb, 0, none⟩) (by rw [HBBE.out]; exact Nat.le_refl _) (.int .i64 (pw + s0))).setCell (p := ⟨bb, 1, none⟩) (by rw [HBBE.out]; exact Nat.le_refl _) (.int .i64 (k : Nat)))
                clear hlt
                go_wp2
                go_roundw
                case rel => exact ⟨k + 1, by omega, by omega, by go_num, by rw [HE.out]; exact HBn.out, HBp.out⟩
                case measure => simp [intOf]; omega
              · have g4 : decide (p.1 < pw + s0) = false := by simp; omega
                have HE := Lib.hid (show run (ly L V W a) cb r f (k + 1 - f) = p from by rw [HST.out, HSUM.out, if_neg (fun h => hlt h.2)])
                clear hlt
                go_wp2
                go_roundw
                case rel => exact ⟨k + 1, by omega, by omega, by go_num, by rw [HE.out]; exact HBcj.out, HBj.out⟩
                case measure => simp [intOf]; omega
            · obtain rfl : k = T := by have := HTT.out; omega
              have i4 : ¬ (k : Int) ≤ (n : Int) := by omega
              have HRW := Lib.hid (show run (ly L V W a) cb r f (k - f) = row f r by rw [HROW.out])
              rw [HRW.out] at HBci
              have hgw : g ≠ G2 := by omega
              have HTi := Lib.hid ((HTf.out.kept (HGm.out.block G2 HTf.out.lt (by simp; omega))).same HBi.out)
              have HCi := Lib.hid (HCm.out.same HBi.out)
              have hrQ : r < Q := by have := HQQ.out; omega
              have t1 := HTi.out.cell (i := f) hf1 (by omega)
              rw [if_pos rfl, ← HQQ.out] at t1
              obtain ⟨q0, q1⟩ := HBci.out.c
              obtain ⟨z0, hz0⟩ := HCi.out.any (j := r * 2) (by omega)
              obtain ⟨z1, hz1⟩ := HCi.out.any (j := r * 2 + 1) (by omega)
              have f0 := HCi.out.free (r * 2)
              have f1 := HCi.out.free (r * 2 + 1)
              have i6 : (r : Int) < (Q : Int) := by omega
              have i7 : (f : Int) < (k : Int) := by omega
              have hput := HCi.out.put hrQ
              generalize hrow1 : row f r = pr at *
              have HPUT := Lib.hid hput
              clear hput hrow1 c1 c2 c3 c4 c5
              go_wp2_with fail
              go_region
              have HC5 := Lib.hid (show Cr ((wi.setCell ⟨g, r * 2, none⟩ (.int .i64 pr.1)).setCell ⟨g, r * 2 + 1, none⟩ (.int .i64 (pr.2 : Nat))).drew g Q (r + 1) (row f) from HPUT.out.kept rfl)
              have HG5 := Lib.hid (show wf.grownBy ((wi.setCell ⟨g, r * 2, none⟩ (.int .i64 pr.1)).setCell ⟨g, r * 2 + 1, none⟩ (.int .i64 (pr.2 : Nat))).drew (some g) from
                (((HGm.out.trans (⟨HBi.out.os, HBi.out.tape, HBi.out.output, HBi.out.size, fun k hk _ => HBi.out.block k hk⟩ : wm.grownBy wi (some g))).trans (grownSet wi g (r * 2) _)).trans (grownSet _ g (r * 2 + 1) _)).trans ⟨rfl, rfl, rfl, Nat.le_refl _, fun _ _ _ => rfl⟩)
              generalize ((wi.setCell ⟨g, r * 2, none⟩ (.int .i64 pr.1)).setCell ⟨g, r * 2 + 1, none⟩ (.int .i64 (pr.2 : Nat))).drew = w5 at *
              clear q0 q1 z0 hz0 z1 hz1 f0 f1 t1 c0
              go_wp2
              go_roundw
              case rel => exact ⟨r + 1, by omega, by go_num, HC5.out, HG5.out⟩
              case measure => simp [intOf]; omega
        · obtain rfl : r = Q := by have := HQQ.out; omega
          have i3 : ¬ (r : Int) ≤ (R : Int) := by omega
          go_wp2_with fail
          go_roundw
          case rel => exact ⟨f + 1, fun i => if i = f then g else b2 i, by omega, by have := HTT.out; omega, by go_num, HTf.out.kept (HGm.out.block G2 HTf.out.lt (by simp; omega)), fun k h1 h2 => by
            show G2 < (if k = f then g else b2 k) ∧ Cr wm (if k = f then g else b2 k) r r (row k)
            by_cases e : k = f
            · rw [if_pos e, e]; exact ⟨hgG, HCm.out⟩
            · rw [if_neg e]
              obtain ⟨h3, h4, h5⟩ := HRf.out k h1 (by omega)
              exact ⟨h3, h5.kept (HGm.out.block _ h5.lt (by simp; omega))⟩, HBm.out⟩
          case measure => simp [intOf]; omega
    · obtain rfl : f = T := by have := HTT.out; omega
      have i1 : ¬ (f : Int) ≤ (n : Int) := by omega
      go_wp2
      go_ret
      refine ⟨⟨G2, rfl, by rw [HG2.out]; omega, b2, fun k h1 h2 => ?_⟩, HB0.out.trans (HBo.out.mono HB0.out.size)⟩
      have h3 := HTt.out.cell h1 (by have := HTT.out; omega)
      obtain ⟨h5, h4⟩ := HRS.out k h1 (by have := HTT.out; omega)
      rw [HQQ.out] at h4
      exact ⟨by have := HG2.out; omega, h3, h4⟩
end Go.Proofs.Ythkcacnlinajgaa.Pn

namespace Go.Proofs.Ythkcacnlinajgaa.Pn
open Go.RowKit Go.Shelf
open Go.Proofs.Ythkcacnlinajgaa.Ly (widI widI_le)
open Go.Proofs.Ythkcacnlinajgaa.Sz (RB roomI FitP)
open Go.Proofs.Ythkcacnlinajgaa.Wg (RW)

theorem run_le {l : Ly} {cb : Nat → Nat → Int × Nat} {r f : Nat} {X : Int} (hX : -1 ≤ X) : ∀ j, (∀ k, f ≤ k → k < f + j → sum l cb r k ≤ X) → (run l cb r f j).1 ≤ X
  | 0, _ => hX
  | j + 1, h => by
    unfold run
    split
    · exact h (f + j) (by omega) (by omega)
    · exact run_le hX j (fun k h1 h2 => h k h1 (by omega))
theorem cel_le {N nm : Nat} {L V W : Nat → Int} (hW : RW (N : Nat) nm W) : ∀ d a f r, (∀ i, a ≤ i → i < a + d → 0 ≤ V i ∧ V i ≤ 1048576) → (cel N (lys L V W a d) f r).1 ≤ d * 68719476736
  | 0, _, _, _, _ => by show (0 : Int) ≤ _; omega
  | d + 1, a, f, r, h => by
    have ih := fun k x => cel_le (L := L) hW d (a + 1) k x (fun i h1 h2 => h i (by omega) (by omega))
    have hv := h a (by omega) (by omega)
    have hm := hW.2.1
    refine run_le (by omega) _ (fun k h1 h2 => ?_)
    have h3 := Wg.prod_bd hv.1 hv.2 (hW.2.2.1 k (by omega)) (hW.le k (by omega))
    have h4 := ih k (r - widI (L a) (k : Nat))
    show V a * W k + (cel N (lys L V W (a + 1) d) k (r - widI (L a) (k : Nat))).1 ≤ _
    omega
/-- one step of what is read from the cells. -/
theorem cel_step {N : Nat} {l : Ly} {ls : List Ly} {f r : Nat} (hf : 1 ≤ f) (hv : ∀ k, 1 ≤ k → k ≤ N → 0 ≤ l.v k) (h : 0 ≤ (cel N (l :: ls) f r).1) : f ≤ (cel N (l :: ls) f r).2 ∧ (cel N (l :: ls) f r).2 ≤ N ∧ l.wd (cel N (l :: ls) f r).2 ≤ r ∧ 0 ≤ (cel N ls (cel N (l :: ls) f r).2 (r - l.wd (cel N (l :: ls) f r).2)).1 := by
  have inv := run_inv (l := l) (cb := cel N ls) (r := r) (f := f) (N + 1 - f) (fun k h1 h2 => hv k (by omega) (by omega))
  have ec : cel N (l :: ls) f r = run l (cel N ls) r f (N + 1 - f) := rfl
  rw [← ec] at inv
  rcases inv with ⟨h1, _⟩ | ⟨_, h2, h3, h4, _⟩
  · omega
  · exact ⟨h2, by omega, h4.1, h4.2⟩
end Go.Proofs.Ythkcacnlinajgaa.Pn

namespace Go.Proofs.Ythkcacnlinajgaa.Pn
open Go.RowKit Go.Shelf
open Go.Proofs.Ythkcacnlinajgaa.Ly (widI widI_le widE rwidth_any)
open Go.Proofs.Ythkcacnlinajgaa.Sz (RB roomI FitP bV RoomSays)
open Go.Proofs.Ythkcacnlinajgaa.Wg (RW BoSays own_slice own_below)
attribute [local go_sem] Oper.semAt_some

theorem Try.infoTabs : (Try.prog.info? 64).map (fun i => (i.zero, i.size, i.bytes)) = some (some (.slice none 0 0), 1, 24) := by kernel_rfl
theorem hmkA (N : Nat) (hN : N ≤ 1000000000) : ∀ W : World, (Instr.makeSlice 66 (.int .i64 (N : Nat)) (.int .i64 (N : Nat))).run Try.prog W = .ok (.slice (some ⟨W.heap.size, 0, none⟩) N N) (W.alloc (.cells (madeCells #[.slice none 0 0] N) 64)) := fun W => by
  obtain ⟨i0, hi, hz0, hz1, hz2⟩ := info_parts Try.infoTabs
  have := run_make (P := Try.prog) W 66 64 i0 (.slice none 0 0) Try.underlying66 hi hz0 .i64 .i64 (N : Int) (N : Int) (by omega) (Int.le_refl _) (by rw [hz2]; omega) (by omega)
  have e : (Value.slice none 0 0).cells = #[.slice none 0 0] := rfl
  rw [hz1, e, Int.toNat_natCast, Nat.mul_one] at this; exact this
/-- all tables, the last d of them. -/
def Al (w : World) (A n d : Nat) (Gs : Nat → Nat) : Prop := ∃ vs : Array Value, w.heap[A]? = some (.cells vs 64 (0, 0)) ∧ vs.size = n ∧ ∀ i, n - d ≤ i → i < n → vs[i]? = some (.slice (some ⟨Gs i, 0, none⟩) (n + 1) (n + 1))
def Al2 (w : World) (A n T d : Nat) (Gs : Nat → Nat) : Prop := ∃ vs : Array Value, w.heap[A]? = some (.cells vs 64 (0, 0)) ∧ vs.size = n ∧ ∀ i, n - d ≤ i → i < n → vs[i]? = some (.slice (some ⟨Gs i, 0, none⟩) T T)
section
variable {w w' : World} {A n T d : Nat} {Gs : Nat → Nat}
theorem Al2.lt (s : Al2 w A n T d Gs) : A < w.heap.size := by
  obtain ⟨vs, h1, _⟩ := s
  exact (Array.getElem?_eq_some_iff.1 h1).1
theorem Al2.same (s : Al2 w A n T d Gs) (hB : Below w.heap.size w w') : Al2 w' A n T d Gs := by
  obtain ⟨vs, h1, h2⟩ := s
  exact ⟨vs, (hB.block A (Array.getElem?_eq_some_iff.1 h1).1).trans h1, h2⟩
theorem Al2.new (w : World) (n T : Nat) (Gs : Nat → Nat) : Al2 (w.alloc (.cells (madeCells #[.slice none 0 0] n) 64)) w.heap.size n T 0 Gs :=
  ⟨_, heap_alloc_new w _, by rw [size_madeCells], fun i h1 h2 => absurd h2 (by omega)⟩
theorem Al2.any (s : Al2 w A n T d Gs) {j : Nat} (hj : j < n) : ∃ v, w.cell? ⟨A, j, none⟩ = some v := by
  obtain ⟨vs, h1, h2, _⟩ := s
  refine ⟨vs[j]'(by omega), ?_⟩
  rw [cell_of_row w A j vs _ _ h1]
  simp [show j < vs.size by omega]
theorem Al2.free (s : Al2 w A n T d Gs) (j : Nat) : w.frozen? ⟨A, j, none⟩ = false := by
  obtain ⟨vs, h1, _⟩ := s
  exact frozen_of_row w A j vs _ h1
theorem Al2.cell (s : Al2 w A n T d Gs) {i : Nat} (h1 : n - d ≤ i) (hi : i < n) : w.cell? ⟨A, i, none⟩ = some (.slice (some ⟨Gs i, 0, none⟩) T T) := by
  obtain ⟨vs, h2, h3, h4⟩ := s
  rw [cell_of_row w A i vs _ _ h2]; exact h4 i h1 hi
theorem Al2.put (s : Al2 w A n T d Gs) (hd : d < n) (g : Nat) : Al2 (w.setCell ⟨A, n - (d + 1), none⟩ (.slice (some ⟨g, 0, none⟩) T T)) A n T (d + 1) (fun i => if i = n - (d + 1) then g else Gs i) := by
  obtain ⟨vs, h1, h2, h3⟩ := s
  refine ⟨_, heap_setCell_same w A (n - (d + 1)) vs _ _ h1, by simpa using h2, fun i h4 hi => ?_⟩
  show _ = some (Value.slice (some ⟨if i = n - (d + 1) then g else Gs i, 0, none⟩) T T)
  by_cases e : i = n - (d + 1)
  · subst e
    rw [if_pos rfl, Array.getElem?_setIfInBounds_self_of_lt (by omega)]
  · rw [if_neg e, Array.getElem?_setIfInBounds_ne (fun q => e q.symm)]
    exact h3 i (by omega) hi
end
theorem drop_cons {bs : List Nat} {i k : Nat} {ks : List Nat} (h : bs.drop i = k :: ks) : at0 bs i = (k : Nat) ∧ bs.drop (i + 1) = ks := by
  have h1 : (bs.drop i)[0]? = some k := by rw [h]; rfl
  rw [List.getElem?_drop, Nat.add_zero] at h1
  constructor
  · unfold at0
    rw [List.getD_eq_getElem?_getD, h1]; rfl
  · rw [← List.drop_drop, h]; rfl
theorem own_mono {w : World} {B B' s n : Nat} {e : TypeId} {v : Value} {xs : List Value} (ho : w.ownsRow B e s v n xs) (h : B' ≤ B) : w.ownsRow B' e s v n xs := by
  obtain ⟨h1, h2⟩ := ho
  refine ⟨h1, ?_⟩
  rcases h2 with h2 | ⟨g, cap, cur, h3, h4, h5⟩
  · exact Or.inl h2
  · exact Or.inr ⟨g, cap, cur, h3, Nat.le_trans h h4, h5⟩
theorem own_ne {w : World} {B s n g : Nat} {e t : TypeId} {v : Value} {xs : List Value} {cs : Array Value} (ho : w.ownsRow B e s v n xs) (hg : w.heap[g]? = some (.cells cs t (0, 0))) (hne : e ≠ t) : v.ownBlock ≠ some g := fun h => by
  rcases ho.2 with ⟨rfl, _⟩ | ⟨g', cap, cur, rfl, hb, hh, _⟩
  · simp [Value.ownBlock] at h
  · simp [Value.ownBlock] at h
    rw [h, hg] at hh
    injection hh with hh
    injection hh with _ h2
    exact hne h2.symm
/-- what the best thresholds are told as. -/
def BsSays (N M B : Int) (nl nv nm : Nat) (L V W : Nat → Int) (w : World) (e : Ending) (w' : World) : Prop :=
  (¬ TR N M B nl nv nm L V W ∧ e = .returned (.tuple #[.slice none 0 0, .int .i64 2])) ∨
  (TR N M B nl nv nm L V W ∧ (∀ K, ¬ FitP N M B nl K L) ∧ e = .returned (.tuple #[.slice none 0 0, .int .i64 12])) ∨
  (TR N M B nl nv nm L V W ∧ ∃ a c K, e = .returned (.tuple #[.slice a nl c, .int .i64 0]) ∧ IsBest N M B nl L V W K ∧ w'.ownsRow w.heap.size 3 1 (.slice a nl c) nl (inh K nl))
set_option maxHeartbeats 8000000 in
set_option maxRecDepth 100000 in
theorem rbest_any (N M B : Int) (la va wa : Option Addr) (nl lc nv vc nm wc : Nat) (L V W : Nat → Int) (h1 : nl ≤ 140737488355328) (h2 : nv ≤ 140737488355328) (h3 : nm ≤ 140737488355328) (w : World) (hL : Si w la nl L) (hV : Si w va nv V) (hW : Si w wa nm W) :
    Calls Try.prog 10 #[tV N M B la nl lc va nv vc wa nm wc] w fun e w' => BsSays N M B nl nv nm L V W w e w' ∧ Below w.heap.size w w' := by
  have HL := Lib.hid hL; have HV := Lib.hid hV; have HW := Lib.hid hW
  obtain ⟨w0, hw0⟩ : ∃ w0, w0 = w.alloc (.cells #[.int .i64 N, .int .i64 M, .int .i64 B, .slice la nl lc, .slice va nv vc, .slice wa nm wc] 35) := ⟨_, rfl⟩
  have HX0 := Lib.hid (show TAt w0 w.heap.size 35 N M B la nl lc va nv vc wa nm wc from by rw [hw0]; exact heap_alloc_new _ _)
  have HB0 := Lib.hid (show Below w.heap.size w w0 from by rw [hw0]; exact (Below.refl w.heap.size w).alloc (Nat.le_refl _) _)
  have HTR := Lib.hid (fun w hL hV hW => rtr_any N M B la va wa nl lc nv vc nm wc L V W h1 h2 h3 w hL hV hW)
  have HRO := Lib.hid (fun w => Sz.rroom_any N M B (nl : Nat) w)
  have HLA := Lib.hid (layer_any M B la va wa)
  unfold bV at HRO
  unfold tV at HTR HLA ⊢
  have HW0 := Lib.hid hw0
  clear hL hV hW hw0
  go_enter Try.func10, Try.ntmps10
  obtain ⟨c0, c1, c2, c3, c4, c5⟩ := HX0.out.c
  rw [HW0.out] at c0 c1 c2 c3 c4 c5
  go_wp2_with fail
  clear c0 c1 c2 c3 c4 c5
  rw [← HW0.out]
  refine (HTR.out _ (HL.out.same HB0.out) (HV.out.same HB0.out) (HW.out.same HB0.out)).mono ?_
  rintro e w1 ⟨⟨v, rfl, hv⟩, hB⟩
  have HVV := Lib.hid hv
  have HB1 := Lib.hid hB
  clear hv hB HTR HW0
  cases v
  · have HN := Lib.hid (show ¬ TR N M B nl nv nm L V W from fun h => absurd (HVV.out.2 h) (by simp))
    go_wp2
    go_ret2
    exact ⟨Or.inl ⟨HN.out, rfl⟩, HB0.out.trans (HB1.out.mono HB0.out.size)⟩
  have HT := Lib.hid (show TR N M B nl nv nm L V W by first | exact HVV.out.1 rfl | exact HVV.out.1 trivial)
  clear HVV
  have hX1 := HX0.out.same HB1.out
  obtain ⟨c0, c1, c2, c3, c4, c5⟩ := hX1.c
  clear hX1
  go_wp2_with fail
  clear c0 c1 c2 c3 c4 c5
  refine (HRO.out _).mono ?_
  rintro e w2 ⟨hro, hB⟩
  have HB2 := Lib.hid (HB1.out.trans (hB.mono HB1.out.size))
  clear hB HB1 HRO
  rcases hro with ⟨hno, _⟩ | ⟨_, rfl⟩
  · have hTT := HT.out
    exact absurd ⟨hTT.1, by have := hTT.2.1; omega, by have := hTT.2.1; omega⟩ hno
  obtain ⟨ro, hro⟩ : ∃ ro, ro = roomI N M B (nl : Nat) := ⟨_, rfl⟩
  rw [← hro]
  have HRO := Lib.hid hro
  clear hro
  by_cases hr0 : ro < 0
  · have g1 : decide (ro < 0) = true := by simp [hr0]
    have HNO := Lib.hid (plan_no HT.out (Or.inl (by rw [← HRO.out]; exact hr0)))
    clear hr0
    go_wp2
    go_ret2
    exact ⟨Or.inr (Or.inl ⟨HT.out, HNO.out, rfl⟩), HB0.out.trans (HB2.out.mono HB0.out.size)⟩
  have g1 : decide (ro < 0) = false := by simp; omega
  obtain ⟨R, hR⟩ : ∃ R : Nat, ro = R := ⟨ro.toNat, by omega⟩
  obtain ⟨n, hn⟩ : ∃ n : Nat, N = n := ⟨N.toNat, by have := HT.out.1.1; omega⟩
  subst hR hn
  have hRR : R ≤ 2000 := by
    have h := HRO.out
    have hb := HT.out.1.2.1
    have hq : (R : Int) ≤ 1500 := by rw [h]; unfold roomI; omega
    omega
  have hnn : 1 ≤ n ∧ n ≤ 255 := by have := HT.out.1.1; omega
  obtain ⟨n0, n1⟩ := hnn
  obtain ⟨T, hTT⟩ : ∃ T, T = n + 1 := ⟨_, rfl⟩
  obtain ⟨Q, hQQ⟩ : ∃ Q, Q = R + 1 := ⟨_, rfl⟩
  have j1 : (n : Int) + 1 = (T : Int) := by omega
  have j2 : (R : Int) + 1 = (Q : Int) := by omega
  have hT2 : T ≤ 256 := by omega
  have hQ2 : Q ≤ 2001 := by omega
  have HTT := Lib.hid hTT; have HQQ := Lib.hid hQQ
  have hmk1 := hmkT T (by omega)
  have hmk2 := hmkC Q (by omega)
  have hX2 := HX0.out.same HB2.out
  obtain ⟨c0, c1, c2, c3, c4, c5⟩ := hX2.c
  clear hX2 c1 c2 c3 c4 c5 hTT hQQ hr0
  have hTt := (Tt.new w2 n R (fun _ => 0)).less (f' := 0) (by omega)
  rw [← HTT.out] at hTt
  have HTt0 := Lib.hid hTt
  have HBA := Lib.hid ((Below.refl w2.heap.size w2).alloc (Nat.le_refl _) (.cells (madeCells #[.slice none 0 0] T) 65))
  clear hTt
  go_wp2_with fail
  obtain ⟨G1, hG1⟩ : ∃ G1, G1 = w2.heap.size := ⟨_, rfl⟩
  rw [← hG1] at HTt0 ⊢
  have HG1 := Lib.hid hG1
  generalize w2.alloc (.cells (madeCells #[.slice none 0 0] T) 65) = wA at *
  clear hG1 c0 g1 hmk1
  go_loopw [7] (fun i wr => ∃ (k : Nat) (b : Nat → Nat), k ≤ T ∧ i = .int .i64 (k : Nat) ∧ Tt wr G1 n R k b ∧ (∀ i, 1 ≤ i → i < k → G1 < b i ∧ Cr wr (b i) Q Q (fun _ => (0, 0))) ∧ Below w2.heap.size w2 wr) (fun i _ => T - (intOf i).toNat)
  case atStart => exact ⟨0, _, by omega, rfl, HTt0.out, fun i h1 h2 => absurd h2 (by omega), HBA.out⟩
  case round =>
    obtain ⟨k, b, hk, rfl, hTt, hrows, hB⟩ := hrel
    obtain ⟨wo, rfl⟩ : ∃ wo, wo = wr := ⟨_, rfl⟩
    have HTt := Lib.hid hTt; have HRS := Lib.hid hrows; have HBo := Lib.hid hB
    have hgl := hTt.lt
    clear hTt hrows hB
    obtain ⟨c0, c1, c2, c3, c4, c5⟩ := (HX0.out.same (HB2.out.trans (HBo.out.mono HB2.out.size))).c
    clear c1 c2
    by_cases hkn : k ≤ n
    · have i1 : (k : Int) ≤ (n : Int) := by omega
      have i2 : (k : Int) < (T : Int) := by omega
      have hkT : k < n + 1 := by omega
      have hal : Below wo.heap.size wo (wo.alloc (.cells (madeCells #[.int .i64 0, .int .i64 0] (Q * 2)) 69)) := (Below.refl _ wo).alloc (Nat.le_refl _) _
      have hT1 := HTt.out.same hal
      obtain ⟨x, hx⟩ := hT1.any hkT
      have hfr := hT1.free k
      have HAL := Lib.hid hal; have HT1 := Lib.hid hT1; have HCR := Lib.hid (Cr.zero wo Q)
      clear hal hT1 c3 c4 c5
      go_wp2_with fail
      obtain ⟨g, hg⟩ : ∃ g, g = wo.heap.size := ⟨_, rfl⟩
      rw [← hg] at HCR ⊢
      obtain ⟨wf, hwf⟩ : ∃ wf, wf = (wo.alloc (.cells (madeCells #[.int .i64 0, .int .i64 0] (Q * 2)) 69)).setCell ⟨G1, k, none⟩ (.slice (some ⟨g, 0, none⟩) Q Q) := ⟨_, rfl⟩
      have hwf2 : (wo.setCell ⟨G1, k, none⟩ (.slice (some ⟨g, 0, none⟩) Q Q)).alloc (.cells (madeCells #[.int .i64 0, .int .i64 0] (Q * 2)) 69) = wf := by rw [hwf, World.setCell_alloc_past _ _ _ _ hgl]
      rw [hwf2]
      clear hwf2
      have hgG : G1 < g := by rw [hg]; exact hgl
      have HTf := Lib.hid (show Tt wf G1 n R (k + 1) (fun i => if i = k then g else b i) by
        have h := HT1.out.put hkT g
        rw [← HQQ.out] at h
        rw [hwf]; exact h)
      have hoth : ∀ j, j ≠ G1 → wf.heap[j]? = (wo.alloc (.cells (madeCells #[.int .i64 0, .int .i64 0] (Q * 2)) 69)).heap[j]? := fun j hj => by rw [hwf]; exact Below.heap_setCell _ ⟨G1, k, none⟩ _ j hj
      have HCf := Lib.hid (HCR.out.kept (hoth g (by omega)))
      have HBf := Lib.hid (show Below w2.heap.size w2 wf by
        rw [hwf]
        exact ((HBo.out.trans (HAL.out.mono HBo.out.size)).setCell (p := ⟨G1, k, none⟩) (by show _ ≤ G1; rw [HG1.out]; exact Nat.le_refl _) _))
      have HRf := Lib.hid (show ∀ i, 1 ≤ i → i < k → G1 < b i ∧ Cr wf (b i) Q Q (fun _ => (0, 0)) from fun i h1 h2 => by
        obtain ⟨h3, h4⟩ := HRS.out i h1 h2
        exact ⟨h3, (h4.same HAL.out).kept (hoth _ (by omega))⟩)
      clear hwf hoth hx hfr HT1 HCR HAL HTt HRS HBo hgl hg c0
      go_roundw
      case rel => exact ⟨k + 1, fun i => if i = k then g else b i, by have := HTT.out; omega, by go_num, HTf.out, fun i h1 h2 => by
        show G1 < (if i = k then g else b i) ∧ Cr wf (if i = k then g else b i) Q Q _
        by_cases e : i = k
        · rw [if_pos e]; exact ⟨hgG, HCf.out⟩
        · rw [if_neg e]; exact HRf.out i h1 (by omega), HBf.out⟩
      case measure => simp [intOf]; omega
    · obtain rfl : k = T := by have := HTT.out; omega
      have i1 : ¬ (k : Int) ≤ (n : Int) := by omega
      have HCT := Lib.hid (show CT wo 0 G1 n R (fun _ _ => (0, 0)) from ⟨b, fun i h1 h2 => ⟨Nat.zero_le _, HTt.out.cell h1 (by omega), by
        have h := (HRS.out i h1 (by omega)).2
        rw [HQQ.out] at h; exact h⟩⟩)
      have hmk3 := hmkA nl (by have := HT.out.2.1; omega)
      have HCX := Lib.hid (HCT.out.cx (A := wo.heap.size) (by omega) (Or.inr (Nat.le_refl _)))
      have hal := (Below.refl wo.heap.size wo).alloc (Nat.le_refl _) (.cells (madeCells #[.slice none 0 0] nl) 64)
      have HCX1 := Lib.hid (HCX.out.same hal)
      have HAL0 := Lib.hid (Al2.new wo nl k (fun _ => 0))
      have HBy := Lib.hid (HB2.out.trans ((HBo.out.trans (hal.mono HBo.out.size)).mono HB2.out.size))
      have hn8 := HT.out.2.1
      have HAW := Lib.hid (show w0.heap.size ≤ wo.heap.size from Nat.le_trans HB2.out.size HBo.out.size)
      have HTK := Lib.hid HTT.out
      clear hal HCX HCT HTt HRS c4 c5 hgl
      obtain ⟨e0, e1, e2, e3, e4, e5⟩ := (HX0.out.same HBy.out).c
      clear e0 e1 e2 e4 e5
      go_wp2_with fail
      obtain ⟨A, hA⟩ : ∃ A, A = wo.heap.size := ⟨_, rfl⟩
      rw [← hA] at HCX1 HAL0 HAW ⊢
      generalize wo.alloc (.cells (madeCells #[.slice none 0 0] nl) 64) = wy at *
      clear c0 c3 e3 hmk2 hmk3 hA HBo HTT i1 hkn hk HTt0 HBA
      go_loopw [6, 9] (fun bh at_ wr => ∃ (d G : Nat) (Gs : Nat → Nat) (x : Int), d ≤ nl ∧ at_ = .int .i64 x ∧ x = (nl : Int) - 1 - d ∧ bh = .slice (some ⟨G, 0, none⟩) k k ∧ Al2 wr A nl k d Gs ∧ CX wr A G n R (cel n (lys L V W (nl - d) d)) ∧ (∀ i, nl - d ≤ i → i < nl → CX wr A (Gs i) n R (cel n (lys L V W i (nl - i)))) ∧ Below w0.heap.size w0 wr) (fun _ i _ => (intOf i + 1).toNat)
      case atStart => exact ⟨0, G1, _, _, by omega, rfl, by omega, rfl, HAL0.out, HCX1.out, fun i h1 h2 => absurd h2 (by omega), HBy.out⟩
      case round =>
        obtain ⟨d, G, Gs, x, hd, rfl, hx, rfl, hal, hcx, hall, hB⟩ := hrel
        obtain ⟨wm, rfl⟩ : ∃ wm, wm = wr := ⟨_, rfl⟩
        have HALm := Lib.hid hal; have HCXm := Lib.hid hcx; have HGs := Lib.hid hall; have HBm := Lib.hid hB
        have HX := Lib.hid hx
        have hAm := hal.lt
        clear hal hcx hall hB
        obtain ⟨c0, c1, c2, c3, c4, c5⟩ := (HX0.out.same HBm.out).c
        by_cases hdn : d < nl
        · obtain ⟨q, hq⟩ : ∃ q : Nat, q = nl - (d + 1) := ⟨_, rfl⟩
          obtain rfl : x = (q : Int) := by omega
          have hqn : q < nl := by omega
          have i1 : (q : Int) < (nl : Int) := by omega
          have i2 : (0 : Int) ≤ (q : Int) := by omega
          have HQE := Lib.hid hq
          have hq1 : nl - d = q + 1 := by omega
          have hcb : ∀ f r, (cel n (lys L V W (q + 1) d) f r).1 ≤ 549755813888 := fun f r => by
            have h := cel_le (L := L) HT.out.2.2.2.1 d (q + 1) f r (fun i h1 h2 => by have := HT.out.2.2.2.2 i (by omega); exact ⟨this.2.2.1, this.2.2.2⟩)
            omega
          have HCX2 := Lib.hid (show CX wm A G n R (cel n (lys L V W (q + 1) d)) by have h := HCXm.out; rw [hq1] at h; exact h)
          have hBw := HB0.out.trans (HBm.out.mono HB0.out.size)
          have HCL := Lib.hid (show Calls Try.prog 31 #[.agg #[.int .i64 (n : Nat), .int .i64 M, .int .i64 B, .slice la nl lc, .slice va nv vc, .slice wa nm wc], .int .i64 (q : Nat), .slice (some ⟨G, 0, none⟩) k k, .int .i64 (R : Nat)] wm fun e w' => (∃ G2, e = .returned (.slice (some ⟨G2, 0, none⟩) k k) ∧ wm.heap.size ≤ G2 ∧ CT w' wm.heap.size G2 n R (cel n (lys L V W q (d + 1)))) ∧ Below wm.heap.size wm w' from by
            have h := HLA.out n nl lc nv vc nm wc q 0 G R L V W (cel n (lys L V W (q + 1) d)) HT.out hqn hRR hcb wm (HL.out.same hBw) (HV.out.same hBw) (HW.out.same hBw) HCX2.out.ct
            rw [← HTK.out] at h
            refine h.mono ?_
            rintro e w' ⟨⟨G2, h1, h2, h3⟩, h4⟩
            refine ⟨⟨G2, h1, h2, ?_⟩, h4⟩
            rw [HTK.out] at h3
            exact h3)
          clear hcb hBw hx hq hq1 HCXm
          go_wp2_with fail
          refine HCL.out.mono ?_
          rintro e w3 ⟨⟨G2, rfl, hG2, hct⟩, hB3⟩
          have HAL3 := Lib.hid (HALm.out.same hB3)
          have HCT3 := Lib.hid (hct.cx (A := A) (by omega) (Or.inl hAm))
          have HGs3 := Lib.hid (fun i h1 h2 => (HGs.out i h1 h2).same hB3)
          have HB3 := Lib.hid (HBm.out.trans (hB3.mono HBm.out.size))
          clear hct hB3 HALm HGs HBm HCL HCX2 c0 c1 c2 c3 c4 c5
          obtain ⟨v, hv⟩ := HAL3.out.any hqn
          have hfr := HAL3.out.free q
          have hdd := HAL3.out.put hdn G2
          rw [← HQE.out] at hdd
          have HAL4 := Lib.hid hdd
          clear hdd
          go_wp2_with fail
          go_roundw
          case rel => exact ⟨d + 1, G2, _, _, by omega, rfl, by have := HQE.out; omega, rfl, HAL4.out, by
            rw [← HQE.out]; exact HCT3.out.set q _, fun i h1 h2 => by
            show CX _ A (if i = q then G2 else Gs i) n R _
            have := HQE.out
            by_cases e : i = q
            · rw [if_pos e, e, show nl - q = d + 1 by omega]; exact HCT3.out.set q _
            · rw [if_neg e]; exact (HGs3.out i (by omega) h2).set q _, HB3.out.setCell (p := ⟨A, q, none⟩) HAW.out _⟩
          case measure => simp [intOf]
        · obtain rfl : d = nl := by omega
          obtain rfl : x = -1 := by omega
          have i2 : ¬ (0 : Int) ≤ -1 := by omega
          clear c0 c1 c2 c4 c5
          obtain ⟨bs, hbs⟩ : ∃ bs, bs = best n (lys L V W 0 d) 1 R := ⟨_, rfl⟩
          have HBS := Lib.hid hbs
          have HRT := Lib.hid (show (roomI (n : Nat) M B (d : Nat)).toNat = R by have := HRO.out; omega)
          obtain ⟨i3, hi, hz0, hz1, hz2⟩ := info_parts Try.infoInt2
          have HI := Lib.hid hi; have HZ0 := Lib.hid hz0; have HZ1 := Lib.hid hz1; have HZ2 := Lib.hid hz2
          have HWM := Lib.hid (show w.heap.size ≤ wm.heap.size from Nat.le_trans HB0.out.size HBm.out.size)
          clear hi hz0 hz1 hz2 hbs hx HX HCXm HAL0 HCX1 HBy
          go_wp2_with fail
          clear i2 c3
          go_loopw [4, 10, 11, 12] (fun rm o fr at_ wr => ∃ (q f r : Nat) (a : Option Addr) (c : Nat), q ≤ d ∧ at_ = .int .i64 (q : Nat) ∧ fr = .int .i64 (f : Nat) ∧ rm = .int .i64 (r : Nat) ∧ o = .slice a q c ∧ wr.ownsRow wm.heap.size 3 1 (.slice a q c) q (inh (at0 bs) q) ∧ (1 ≤ f ∧ f ≤ n ∧ r ≤ R) ∧ bs.drop q = best n (lys L V W q (d - q)) f r ∧ (0 < q → 0 ≤ (cel n (lys L V W q (d - q)) f r).1 ∧ 0 ≤ (cel n (lys L V W 0 d) 1 R).1) ∧ (q = 0 → f = 1 ∧ r = R) ∧ Below wm.heap.size wm wr) (fun _ _ _ i _ => d - (intOf i).toNat)
          case atStart => exact ⟨0, 1, R, none, 0, by omega, rfl, rfl, rfl, rfl, World.ownsRow_nil _ _ _ _, ⟨by omega, n0, Nat.le_refl _⟩, HBS.out, fun h => absurd h (Nat.lt_irrefl _), fun _ => ⟨rfl, rfl⟩, Below.refl _ _⟩
          case round =>
            obtain ⟨q, f, r, a, c, hq, rfl, rfl, rfl, rfl, hO, ⟨f1, f2, r1⟩, hdrop, hpos, hzero, hB⟩ := hrel
            obtain ⟨wq, rfl⟩ : ∃ wq, wq = wr := ⟨_, rfl⟩
            have HO := Lib.hid hO; have HDR := Lib.hid hdrop; have HPO := Lib.hid hpos; have HZE := Lib.hid hzero; have HB := Lib.hid hB
            have HBq := Lib.hid (HBm.out.trans (hB.mono HBm.out.size))
            have hsz := hB.size
            clear hO hdrop hpos hzero hB
            obtain ⟨c0, c1, c2, c3, c4, c5⟩ := (HX0.out.same HBq.out).c
            clear c0 c1 c2 c4 c5
            by_cases hqd : q < d
            · have i1 : (q : Int) < (d : Int) := by omega
              have i2 : (f : Int) < (k : Int) := by have := HTK.out; omega
              have i4 : (r : Int) < (Q : Int) := by have := HQQ.out; omega
              obtain ⟨e, he⟩ : ∃ e, d - q = e + 1 := ⟨d - q - 1, by omega⟩
              have d1 := (HALm.out.same HB.out).cell (i := q) (by omega) hqd
              obtain ⟨_, bb, hbb⟩ := (HGs.out q (by omega) hqd).same HB.out
              obtain ⟨_, d2, hcr⟩ := hbb f f1 f2
              obtain ⟨d3, d4⟩ := hcr.c (show r < R + 1 by omega)
              rw [he] at HDR HPO d3 d4
              rw [← HQQ.out] at d2
              obtain ⟨s, hs⟩ : ∃ s, s = (cel n (lys L V W q (e + 1)) f r).1 := ⟨_, rfl⟩
              obtain ⟨kk, hkk⟩ : ∃ kk, kk = (cel n (lys L V W q (e + 1)) f r).2 := ⟨_, rfl⟩
              rw [← hs] at d3
              rw [← hkk] at d4
              have HS := Lib.hid hs; have HKK := Lib.hid hkk
              obtain ⟨lb, lo, el, c6⟩ := (HL.out.same (HB0.out.trans (HBq.out.mono HB0.out.size))).cell q hqd
              have EL := Lib.hid el
              subst el
              have HBc := Lib.hid (show Bc (wq.alloc (.cells #[.int .i64 s, .int .i64 (kk : Nat)] 69)) wq.heap.size (s, kk) from heap_alloc_new _ _)
              have HBl := Lib.hid ((Below.refl wq.heap.size wq).alloc (Nat.le_refl _) (.cells #[.int .i64 s, .int .i64 (kk : Nat)] 69))
              have HEE := Lib.hid he
              clear hs hkk hbb hcr he
              by_cases hs0 : s < 0
              · have g1 : decide (s < 0) = true := by simp [hs0]
                have hq0 : q = 0 := by
                  by_cases e0 : 0 < q
                  · have := (HPO.out e0).1; rw [← HS.out] at this; omega
                  · omega
                obtain ⟨rfl, rfl⟩ := HZE.out hq0
                subst hq0
                have HNO := Lib.hid (plan_no HT.out (Or.inr (by
                  rw [HRT.out, Int.toNat_natCast]
                  have h := HS.out
                  rw [← HEE.out, Nat.sub_zero] at h
                  omega)))
                have HBz := Lib.hid (HBq.out.trans (HBl.out.mono HBq.out.size))
                clear hs0
                go_wp2
                go_ret2
                exact ⟨Or.inr (Or.inl ⟨HT.out, HNO.out, rfl⟩), HB0.out.trans (HBz.out.mono HB0.out.size)⟩
              have g1 : decide (s < 0) = false := by simp; omega
              have hstep := cel_step (l := ly L V W q) (ls := lys L V W (q + 1) e) (N := n) (f := f) (r := r) f1 (fun j j1 j2 => by
                have ht := HT.out.2.2.2
                exact Int.mul_nonneg (ht.2 q hqd).2.2.1 (ht.1.2.2.1 j (by have := ht.1.2.1; omega))) (by
                show 0 ≤ (cel n (lys L V W q (e + 1)) f r).1
                rw [← HS.out]; omega)
              obtain ⟨p1, p2, p3, p4⟩ := hstep
              have hk2 : (cel n (ly L V W q :: lys L V W (q + 1) e) f r).2 = kk := HKK.out.symm
              rw [hk2] at p1 p2 p3 p4
              obtain ⟨wd, hwd⟩ : ∃ wd, wd = widI (L q) (kk : Nat) := ⟨_, rfl⟩
              have p3' : wd ≤ r := by rw [hwd]; exact p3
              have p4' : 0 ≤ (cel n (lys L V W (q + 1) e) kk (r - wd)).1 := by rw [hwd]; exact p4
              have hbe : bs.drop q = kk :: best n (lys L V W (q + 1) e) kk (r - wd) := by
                rw [HDR.out, hwd]
                show (cel n (ly L V W q :: lys L V W (q + 1) e) f r).2 :: best n (lys L V W (q + 1) e) (cel n (ly L V W q :: lys L V W (q + 1) e) f r).2 (r - widI (L q) ((cel n (ly L V W q :: lys L V W (q + 1) e) f r).2 : Nat)) = _
                rw [hk2]
              obtain ⟨hat, hdr⟩ := drop_cons hbe
              have HAT := Lib.hid (show inh (at0 bs) (q + 1) = inh (at0 bs) q ++ [.int .i64 (kk : Nat)] by rw [inh_s, hat])
              have HD2 := Lib.hid hdr; have HP4 := Lib.hid p4'
              have hc0 : 0 ≤ (cel n (lys L V W 0 d) 1 R).1 := by
                by_cases e0 : 0 < q
                · exact (HPO.out e0).2
                · obtain ⟨z1, z2⟩ := HZE.out (by omega)
                  have z0 : q = 0 := by omega
                  have h := HS.out
                  rw [← HEE.out, z0, z1, z2, Nat.sub_zero] at h
                  omega
              have HC0 := Lib.hid hc0
              have HWI := Lib.hid (fun (X : World) => (show Calls Try.prog 32 #[.int .i64 (L q), .int .i64 (kk : Nat)] X fun e w' => e = .returned (.tuple #[.int .i64 (wd : Nat), .int .i64 (widE (L q) (kk : Nat))]) ∧ w' = X from by rw [hwd]; exact rwidth_any (L q) (kk : Nat) X))
              obtain ⟨r2, hr2⟩ : ∃ r2, r2 = r - wd := ⟨_, rfl⟩
              have j3 : (r : Int) - (wd : Int) = (r2 : Int) := by omega
              rw [← hr2] at HD2 HP4
              have hr2R : r2 ≤ R := by omega
              clear hs0 hwd p3 p4 p4' hbe hat hdr hc0 hk2 hr2 HS HKK HDR HPO HZE
              go_wp2_with fail
              obtain ⟨wx, hwx⟩ : ∃ wx, wx = wq.alloc (.cells #[.int .i64 s, .int .i64 (kk : Nat)] 69) := ⟨_, rfl⟩
              rw [← hwx] at HBc HBl ⊢
              have hO := own_below HO.out HBl.out
              have HOx := Lib.hid hO
              have HBx := Lib.hid (HB.out.trans (HBl.out.mono hsz))
              have k3 : wx.cell? ⟨w.heap.size, 3, none⟩ = some (.slice (some ⟨lb, lo, none⟩) d lc) := by rw [HBl.out.cell (World.block_lt_of_cell? _ _ c3)]; exact c3
              have k6 : wx.cell? ⟨lb, lo + q, none⟩ = some (.int .i64 (L q)) := by rw [HBl.out.cell (World.block_lt_of_cell? _ _ c6)]; exact c6
              obtain ⟨e0, e1⟩ := HBc.out.c
              generalize wq.heap.size = xa at *
              clear hwx hO d1 d2 d3 d4 c3 c6 g1
              have D1 : ∀ y, (wx.drewN y).cell? ⟨w.heap.size, 3, none⟩ = some (.slice (some ⟨lb, lo, none⟩) d lc) := fun y => k3
              have D2 : ∀ y, (wx.drewN y).cell? ⟨lb, lo + q, none⟩ = some (.int .i64 (L q)) := fun y => k6
              have D3 : ∀ y, (wx.drewN y).cell? ⟨xa, 1, none⟩ = some (.int .i64 (kk : Nat)) := fun y => e1
              go_quiet ((go_at_call 32; exact Calls.quiet_of_same (HWI.out _)))
              clear k3 k6 D1 D2 D3 e0 e1
              have hbq := below_dr (Below.refl wx.heap.size wx) nq
              have HOy := Lib.hid (own_below HOx.out hbq)
              have HBc2 := Lib.hid (HBc.out.same hbq)
              have HBy := Lib.hid (HBx.out.trans (hbq.mono HBx.out.size))
              generalize wx.drewN nq = wv at *
              clear hbq HOx HBc HBx HBl
              obtain ⟨e0, e1⟩ := HBc2.out.c
              have hal : Below wv.heap.size wv (wv.alloc (.cells #[.int .i64 (kk : Nat)] 3)) := (Below.refl _ wv).alloc (Nat.le_refl _) _
              have HOz := Lib.hid (own_below HOy.out hal)
              have HBc3 := Lib.hid (HBc2.out.same hal)
              have HBz := Lib.hid (HBy.out.trans (hal.mono HBy.out.size))
              have hbm : wm.heap.size ≤ (wv.alloc (.cells #[.int .i64 (kk : Nat)] 3)).heap.size := HBz.out.size
              clear hal HOy
              go_wp2_with (at_builtin; refine wpList_append_own _ rfl _ _ 24 rfl wm.heap.size 3 i3 (.int .i64 0) 1 8 Try.underlying24 HI.out HZ0.out HZ1.out HZ2.out rfl (by decide) (.slice a q c) q (inh (at0 bs) q) rfl HOz.out ⟨wv.heap.size, 0, none⟩ 1 1 [.int .i64 (kk : Nat)] rfl rfl (cell_single _ _ _) (one_single _ _) (by unfold maxLen; omega) (by omega) hbm ?_; intro v9 w9 hown9 hgrow9 _; have hown9 : w9.ownsRow wm.heap.size 3 1 v9 (q + 1) (inh (at0 bs) (q + 1)) := (by rw [HAT.out]; exact hown9); have hbc9 : Bc w9 xa (s, kk) := (hgrow9.block xa HBc3.out.lt (fun h => own_ne HOz.out HBc3.out (by decide) h.symm)).trans HBc3.out; obtain ⟨e2, e3⟩ := hbc9.c; have HG9 := Lib.hid hgrow9; obtain ⟨a9, c9, rfl⟩ := own_slice hown9; have HO9 := Lib.hid hown9; clear hown9 hgrow9 hbc9)
              have HB9 := Lib.hid (HBz.out.grown HG9.out hbm (fun j h => (HOz.out.lt j h).1))
              refine ⟨⟨q + 1, kk, r2, a9, c9, by omega, by go_num, rfl, rfl, rfl, HO9.out, ⟨by omega, p2, hr2R⟩, by rw [show d - (q + 1) = e by have := HEE.out; omega]; exact HD2.out, fun _ => ⟨by rw [show d - (q + 1) = e by have := HEE.out; omega]; exact HP4.out, HC0.out⟩, fun h => absurd h (by omega), HB9.out⟩, ?_⟩
              simp [intOf]; omega
            · obtain rfl : q = d := by omega
              have i1 : ¬ (q : Int) < (q : Int) := by omega
              have hc := (HPO.out (by omega)).2
              have h := plan_yes HT.out (by rw [← HRO.out]; omega) (by rw [HRT.out, Int.toNat_natCast]; exact hc)
              rw [HRT.out, Int.toNat_natCast, ← HBS.out] at h
              have HIB := Lib.hid h
              clear h hc
              go_wp2
              go_ret2
              exact ⟨Or.inr (Or.inr ⟨HT.out, a, c, at0 bs, rfl, HIB.out, own_mono HO.out HWM.out⟩), HB0.out.trans (HBq.out.mono HB0.out.size)⟩
end Go.Proofs.Ythkcacnlinajgaa.Pn

namespace Go.Proofs.Ythkcacnlinajgaa.Pn
open Go.RowKit Go.Shelf
open Go.Proofs.Ythkcacnlinajgaa.Ly (RowOk)
open Go.Proofs.Ythkcacnlinajgaa.Sz (RB roomI FitP bV)
open Go.Proofs.Ythkcacnlinajgaa.Wg (RW BoSays sc FitW ScSays fitW_of hi_own)
attribute [local go_sem] Oper.semAt_some

theorem fit_w {N M B : Int} {n nv nm : Nat} {L V W K : Nat → Int} (h : TR N M B n nv nm L V W) (hf : FitP N M B n K L) : FitW nv n nm V K W := by
  obtain ⟨_, hn, rfl, hW, hl⟩ := h
  have e : (nm : Int) - 1 = N := by have := hW.2.1; omega
  refine fitW_of (by rw [e]; exact hW) hn.2 fun j hj => ?_
  have h1 := hl j hj
  have h2 := hf.2.1.2.2.2.2 j hj
  unfold RowOk at h2
  exact ⟨h1.2.2.1, h1.2.2.2, h2.1, by omega⟩
/-- what the best score is told as. -/
def BScSays (N M B : Int) (nl nv nm : Nat) (L V W : Nat → Int) (e : Ending) : Prop :=
  (¬ TR N M B nl nv nm L V W ∧ e = .returned (.tuple #[.int .i64 0, .int .i64 2])) ∨
  (TR N M B nl nv nm L V W ∧ (∀ K, ¬ FitP N M B nl K L) ∧ e = .returned (.tuple #[.int .i64 0, .int .i64 12])) ∨
  (TR N M B nl nv nm L V W ∧ ∃ K, IsBest N M B nl L V W K ∧ e = .returned (.tuple #[.int .i64 (sc V K W nl), .int .i64 0]))
set_option maxHeartbeats 4000000 in
set_option maxRecDepth 100000 in
theorem rbscore_any (N M B : Int) (la va wa : Option Addr) (nl lc nv vc nm wc : Nat) (L V W : Nat → Int) (h1 : nl ≤ 140737488355328) (h2 : nv ≤ 140737488355328) (h3 : nm ≤ 140737488355328) (w : World) (hL : Si w la nl L) (hV : Si w va nv V) (hW : Si w wa nm W) :
    Calls Try.prog 13 #[tV N M B la nl lc va nv vc wa nm wc] w fun e w' => BScSays N M B nl nv nm L V W e ∧ Below w.heap.size w w' := by
  have HL := Lib.hid hL; have HV := Lib.hid hV; have HW := Lib.hid hW
  obtain ⟨w0, hw0⟩ : ∃ w0, w0 = w.alloc (.cells #[.int .i64 N, .int .i64 M, .int .i64 B, .slice la nl lc, .slice va nv vc, .slice wa nm wc] 35) := ⟨_, rfl⟩
  have HX0 := Lib.hid (show TAt w0 w.heap.size 35 N M B la nl lc va nv vc wa nm wc from by rw [hw0]; exact heap_alloc_new _ _)
  have HB0 := Lib.hid (show Below w.heap.size w w0 from by rw [hw0]; exact (Below.refl w.heap.size w).alloc (Nat.le_refl _) _)
  have HBE := Lib.hid (fun w hL hV hW => rbest_any N M B la va wa nl lc nv vc nm wc L V W h1 h2 h3 w hL hV hW)
  unfold tV at HBE ⊢
  have HW0 := Lib.hid hw0
  clear hL hV hW hw0
  go_enter Try.func13, Try.ntmps13
  obtain ⟨c0, c1, c2, c3, c4, c5⟩ := HX0.out.c
  rw [HW0.out] at c0 c1 c2 c3 c4 c5
  go_wp2_with fail
  clear c0 c1 c2 c3 c4 c5
  rw [← HW0.out]
  refine (HBE.out _ (HL.out.same HB0.out) (HV.out.same HB0.out) (HW.out.same HB0.out)).mono ?_
  rintro e w1 ⟨hs, hB⟩
  have HB1 := Lib.hid hB
  clear hB HBE HW0
  rcases hs with ⟨hn, rfl⟩ | ⟨hT, hn, rfl⟩ | ⟨hT, a, c, K, rfl, hI, hO⟩
  · have HN := Lib.hid hn
    clear hn
    go_wp2
    go_ret2
    exact ⟨Or.inl ⟨HN.out, rfl⟩, HB0.out.trans (HB1.out.mono HB0.out.size)⟩
  · have HN := Lib.hid hn; have HT := Lib.hid hT
    clear hn hT
    go_wp2
    go_ret2
    exact ⟨Or.inr (Or.inl ⟨HT.out, HN.out, rfl⟩), HB0.out.trans (HB1.out.mono HB0.out.size)⟩
  · have HT := Lib.hid hT; have HIB := Lib.hid hI; have HO := Lib.hid hO
    clear hT hI hO
    have hX1 := HX0.out.same HB1.out
    obtain ⟨c0, c1, c2, c3, c4, c5⟩ := hX1.c
    have hBw := HB0.out.trans (HB1.out.mono HB0.out.size)
    have HBw := Lib.hid hBw
    clear hX1 hBw c0 c1 c2 c3
    go_wp2_with fail
    refine (Wg.rscore_any va a wa nv vc nl c nm wc V K W h2 h1 h3 _ (HV.out.same HBw.out) (hi_own HO.out).si (HW.out.same HBw.out)).mono ?_
    rintro e w2 ⟨hs, hB⟩
    have HB2 := Lib.hid (HBw.out.trans (hB.mono HBw.out.size))
    clear hB c4 c5
    rcases hs with ⟨_, rfl⟩ | ⟨hno, _⟩
    rotate_left
    · exact absurd (fit_w HT.out HIB.out.1) hno
    go_wp2
    go_ret2
    exact ⟨Or.inr (Or.inr ⟨HT.out, K, HIB.out, rfl⟩), HB2.out⟩
end Go.Proofs.Ythkcacnlinajgaa.Pn

namespace Go.Proofs.Ythkcacnlinajgaa.Sz
open Go.RowKit Go.Shelf
open Go.Proofs.Ythkcacnlinajgaa.Ly (TabOk RowOk off off_le off_mono widI widE widI_le width_any lst Tb)
open Go.Proofs.Ythkcacnlinajgaa.Sp (Bad)

theorem box3 {W : World} {g : Nat} {N M B : Int} {t : TypeId} (h : W.heap[g]? = some (.cells #[.int .i64 N, .int .i64 M, .int .i64 B] t (0, 0))) : W.cell? ⟨g, 0, none⟩ = some (.int .i64 N) ∧ W.cell? ⟨g, 1, none⟩ = some (.int .i64 M) ∧ W.cell? ⟨g, 2, none⟩ = some (.int .i64 B) :=
  ⟨by rw [cell_of_row W g 0 _ _ _ h]; rfl, by rw [cell_of_row W g 1 _ _ _ h]; rfl, by rw [cell_of_row W g 2 _ _ _ h]; rfl⟩
/-- whether so many thresholds fit. -/
def FtSays (N M B : Int) (n m : Nat) (K L : Nat → Int) (e : Ending) : Prop := ∃ v : Bool, e = .returned (.bool v) ∧ (v = true ↔ n = m ∧ FitP N M B n K L)
set_option maxHeartbeats 4000000 in
set_option maxRecDepth 100000 in
theorem fits_any (N M B : Int) (la ka : Option Addr) (n lc m kc : Nat) (K L : Nat → Int) (hn : n ≤ 140737488355328) (w : World) (hL : Si w la n L) (hK : Si w ka m K) :
    Calls Try.prog 19 #[bV N M B, .slice la n lc, .slice ka m kc] w fun e w' => FtSays N M B n m K L e ∧ Below w.heap.size w w' := by
  have hb0 := (Below.refl w.heap.size w).alloc (Nat.le_refl _) (.cells #[.int .i64 N, .int .i64 M, .int .i64 B] 23)
  have hh0 := heap_alloc_new w (.cells #[.int .i64 N, .int .i64 M, .int .i64 B] 23)
  have HL := Lib.hid hL; have HK := Lib.hid hK
  have HW := Lib.hid (show (fun W => W.heap[w.heap.size]? = some (.cells #[.int .i64 N, .int .i64 M, .int .i64 B] 23 (0, 0)) ∧ Below w.heap.size w W) ((w.alloc (.cells #[.int .i64 N, .int .i64 M, .int .i64 B] 23)).drew) from ⟨hh0, hb0.drew⟩)
  have HB0 := Lib.hid hb0
  clear hL hK hb0 hh0
  unfold bV
  go_enter Try.func19, Try.ntmps19
  by_cases hnm : n = m
  · subst hnm
    have g0 : ((n : Int) == (n : Int)) = true := by simp
    go_wp2_with fail
    refine wp_region_held_drew (S := fun W => W.heap[w.heap.size]? = some (.cells #[.int .i64 N, .int .i64 M, .int .i64 B] 23 (0, 0)) ∧ Below w.heap.size w W) (by kernel_rfl) (HW.out) (fun hHeld => ?_)
    refine wpAnyH_take (i := 0) (oi := ⟨some 7, _, _, _, _, none⟩) (v := (.slice la n lc)) rfl (by kernel_rfl) (by kernel_rfl) (by kernel_rfl) (fun _ _ _ h => h) (Or.inl ⟨by rfl, fun W hW => ?_⟩) (by assumption) ?_
    · go_simp
    simp only [Act.put, List.setIfInBounds_toArray, List.set_cons_zero, List.set_cons_succ]
    refine wpAnyH_take (i := 1) (oi := ⟨some 8, _, _, _, _, none⟩) (v := (.int .i64 (n : Nat))) rfl (by kernel_rfl) (by kernel_rfl) (by kernel_rfl) (fun _ _ _ h => h) (Or.inl ⟨by rfl, fun W hW => ?_⟩) (by assumption) ?_
    · go_simp
    simp only [Act.put, List.setIfInBounds_toArray, List.set_cons_zero, List.set_cons_succ]
    refine wpAnyH_take (i := 2) (oi := ⟨some 9, _, _, _, _, none⟩) (v := (.slice ka n kc)) rfl (by kernel_rfl) (by kernel_rfl) (by kernel_rfl) (fun _ _ _ h => h) (Or.inl ⟨by rfl, fun W hW => ?_⟩) (by assumption) ?_
    · go_simp
    simp only [Act.put, List.setIfInBounds_toArray, List.set_cons_zero, List.set_cons_succ]
    refine wpAnyH_take (i := 3) (oi := ⟨some 10, _, _, _, _, none⟩) (v := (.int .i64 (n : Nat))) rfl (by kernel_rfl) (by kernel_rfl) (by kernel_rfl) (fun _ _ _ h => h) (Or.inl ⟨by rfl, fun W hW => ?_⟩) (by assumption) ?_
    · go_simp
    simp only [Act.put, List.setIfInBounds_toArray, List.set_cons_zero, List.set_cons_succ]
    refine wpAnyH_take (i := 4) (oi := ⟨some 11, _, _, _, _, none⟩) (v := (.bool true)) rfl (by kernel_rfl) (by kernel_rfl) (by kernel_rfl) (fun _ _ _ h => h) (Or.inl ⟨by rfl, fun W hW => ?_⟩) (by assumption) ?_
    · go_simp
    simp only [Act.put, List.setIfInBounds_toArray, List.set_cons_zero, List.set_cons_succ]
    refine wpAnyH_take (i := 5) (oi := ⟨some 12, _, _, _, _, none⟩) (v := (.bool true)) rfl (by kernel_rfl) (by kernel_rfl) (by kernel_rfl) (fun _ _ _ h => h) (Or.inl ⟨by rfl, fun W hW => ?_⟩) (by assumption) ?_
    · go_simp
    simp only [Act.put, List.setIfInBounds_toArray, List.set_cons_zero, List.set_cons_succ]
    refine wpAnyH_take (i := 6) (oi := ⟨some 13, _, _, _, _, some (5, true)⟩) (v := (bV N M B)) rfl (by kernel_rfl) (by kernel_rfl) (by kernel_rfl) (fun _ _ _ h => h) (Or.inl ⟨by rfl, fun W hW => ?_⟩) (by assumption) ?_
    · (obtain ⟨c0, c1, c2⟩ := box3 hW.1; go_simp; try rfl)
    simp only [Act.put, List.setIfInBounds_toArray, List.set_cons_zero, List.set_cons_succ]
    refine wpAnyH_take (i := 7) (oi := ⟨some 14, _, _, _, _, some (5, true)⟩) (v := (.slice la n lc)) rfl (by kernel_rfl) (by kernel_rfl) (by kernel_rfl) (fun _ _ _ h => h) (Or.inl ⟨by rfl, fun W hW => ?_⟩) (by assumption) ?_
    · go_simp
    simp only [Act.put, List.setIfInBounds_toArray, List.set_cons_zero, List.set_cons_succ]
    refine wpAnyH_take (i := 8) (oi := ⟨some 15, _, _, _, _, some (5, true)⟩) (v := (.int .i64 (n : Nat))) rfl (by kernel_rfl) (by kernel_rfl) (by kernel_rfl) (fun _ _ _ h => h) (Or.inl ⟨by rfl, fun W hW => ?_⟩) (by assumption) ?_
    · go_simp
    simp only [Act.put, List.setIfInBounds_toArray, List.set_cons_zero, List.set_cons_succ]
    refine wpAnyH_take (i := 9) (oi := ⟨some 16, _, _, _, _, some (5, true)⟩) (v := (.slice la n lc)) rfl (by kernel_rfl) (by kernel_rfl) (by kernel_rfl) (fun _ _ _ h => h) (Or.inl ⟨by rfl, fun W hW => ?_⟩) (by assumption) ?_
    · go_simp
    simp only [Act.put, List.setIfInBounds_toArray, List.set_cons_zero, List.set_cons_succ]
    refine wpAnyH_take (i := 11) (oi := ⟨some 18, _, _, _, _, some (5, true)⟩) (v := (.slice ka n kc)) rfl (by kernel_rfl) (by kernel_rfl) (by kernel_rfl) (fun _ _ _ h => h) (Or.inl ⟨by rfl, fun W hW => ?_⟩) (by assumption) ?_
    · go_simp
    simp only [Act.put, List.setIfInBounds_toArray, List.set_cons_zero, List.set_cons_succ]
    refine wpAnyH_ready (rs := [10]) (by kernel_rfl) (by simp) (AllReadyH.cons rfl (fun KK hKK => ?_) AllReadyH.nil)
    go_simp
    refine (of_n la n lc L _ (HL.out.same (HW.out.2))).mono ?_
    rintro e w1 ⟨cf1, cp1, rfl, ha1, hb1⟩
    dsimp only
    have HA1 := Lib.hid ha1; have hW0 := HW.out
    have HWB := Lib.hid hb1
    have HW := Lib.hid (show _ ∧ _ from ⟨(hb1.block _ (Array.getElem?_eq_some_iff.1 HW.out.1).1).trans HW.out.1, HW.out.2.trans (hb1.mono HW.out.2.size)⟩)
    clear hW0 ha1
    refine hKK.out _ _ (HW.out) (fun hHeld => ?_)
    clear hKK KK
    try simp only [Act.put, List.setIfInBounds_toArray, List.set_cons_zero, List.set_cons_succ]
    refine wpAnyH_ready (rs := [12]) (by kernel_rfl) (by simp) (AllReadyH.cons rfl (fun KK hKK => ?_) AllReadyH.nil)
    go_simp
    refine (of_n ka n kc K _ (HK.out.same (HW.out.2))).mono ?_
    rintro e w2 ⟨cf2, cp2, rfl, ha2, hb2⟩
    dsimp only
    have HA2 := Lib.hid ha2; have hW0 := HW.out
    have HA1 := Lib.hid (HA1.out.same hb2)
    have HW := Lib.hid (show _ ∧ _ from ⟨(hb2.block _ (Array.getElem?_eq_some_iff.1 HW.out.1).1).trans HW.out.1, HW.out.2.trans (hb2.mono HW.out.2.size)⟩)
    clear hW0 ha2
    refine hKK.out _ _ (HW.out) (fun hHeld => ?_)
    clear hKK KK
    try simp only [Act.put, List.setIfInBounds_toArray, List.set_cons_zero, List.set_cons_succ]
    refine wpAnyH_ready (rs := [13]) (by kernel_rfl) (by simp) (AllReadyH.cons rfl (fun KK hKK => ?_) AllReadyH.nil)
    go_simp
    refine (hold_any N M B n cf1 cf2 cp1 cp2 K L hn _ HA1.out HA2.out).mono ?_
    rintro e w3 ⟨⟨v, rfl, hv⟩, hb3⟩
    dsimp only
    have HV := Lib.hid hv; have hW0 := HW.out
    have HW := Lib.hid (show _ ∧ _ from ⟨(hb3.block _ (Array.getElem?_eq_some_iff.1 HW.out.1).1).trans HW.out.1, HW.out.2.trans (hb3.mono HW.out.2.size)⟩)
    clear hW0 hv
    refine hKK.out _ _ (HW.out) (fun hHeld => ?_)
    clear hKK KK
    try simp only [Act.put, List.setIfInBounds_toArray, List.set_cons_zero, List.set_cons_succ]
    refine wpAnyH_take (i := 14) (oi := ⟨some 21, _, _, _, _, none⟩) (v := (.bool v)) rfl (by kernel_rfl) (by kernel_rfl) (by kernel_rfl) (fun _ _ _ h => h) (Or.inl ⟨by rfl, fun W hW => ?_⟩) (by assumption) ?_
    · cases v <;> go_simp
    simp only [Act.put, List.setIfInBounds_toArray, List.set_cons_zero, List.set_cons_succ]
    refine wpAnyH_ready (rs := [15]) (by kernel_rfl) (by simp) (AllReadyH.cons rfl (fun KK hKK => ?_) AllReadyH.nil)
    go_simp
    refine hKK.out _ _ (HW.out) (fun hHeld => ?_)
    clear hKK KK
    try simp only [Act.put, List.setIfInBounds_toArray, List.set_cons_zero, List.set_cons_succ]
    refine wpAnyH_done (by kernel_rfl) ?_ _
    go_wp2
    go_ret
    exact ⟨⟨v, rfl, fun h => ⟨rfl, HV.out.1 h⟩, fun h => HV.out.2 h.2⟩, HW.out.2⟩
  · have g0 : ((n : Int) == (m : Int)) = false := by simp; omega
    have HX := Lib.hid hnm; clear hnm
    go_wp2_with fail
    go_quiet (fail)
    go_wp2
    go_ret
    exact ⟨⟨false, rfl, fun h => (by cases h), fun h => absurd h.1 HX.out⟩, below_dr HB0.out _⟩
set_option maxHeartbeats 4000000 in
set_option maxRecDepth 100000 in
theorem can_any (N M B : Int) (la : Option Addr) (n lc : Nat) (L : Nat → Int) (hn : n ≤ 140737488355328) (w : World) (hL : Si w la n L) :
    Calls Try.prog 26 #[bV N M B, .slice la n lc] w fun e w' => FitSays N M B n (fun _ => N) L e ∧ Below w.heap.size w w' := by
    have hb0 := (Below.refl w.heap.size w).alloc (Nat.le_refl _) (.cells #[.int .i64 N, .int .i64 M, .int .i64 B] 23)
    have hh0 := heap_alloc_new w (.cells #[.int .i64 N, .int .i64 M, .int .i64 B] 23)
    have HL := Lib.hid hL
    have HW := Lib.hid (show (fun W => W.heap[w.heap.size]? = some (.cells #[.int .i64 N, .int .i64 M, .int .i64 B] 23 (0, 0)) ∧ Below w.heap.size w W) ((w.alloc (.cells #[.int .i64 N, .int .i64 M, .int .i64 B] 23)).drew) from ⟨hh0, hb0.drew⟩)
    clear hL hb0 hh0
    unfold bV
    go_enter Try.func26, Try.ntmps26
    go_wp2_with fail
    refine wp_region_held_drew (S := fun W => W.heap[w.heap.size]? = some (.cells #[.int .i64 N, .int .i64 M, .int .i64 B] 23 (0, 0)) ∧ Below w.heap.size w W) (by kernel_rfl) (HW.out) (fun hHeld => ?_)
    refine wpAnyH_take (i := 0) (oi := ⟨some 5, _, _, _, _, none⟩) (v := (bV N M B)) rfl (by kernel_rfl) (by kernel_rfl) (by kernel_rfl) (fun _ _ _ h => h) (Or.inl ⟨by rfl, fun W hW => ?_⟩) (by assumption) ?_
    · (obtain ⟨c0, c1, c2⟩ := box3 hW.1; go_simp; try rfl)
    simp only [Act.put, List.setIfInBounds_toArray, List.set_cons_zero, List.set_cons_succ]
    refine wpAnyH_take (i := 1) (oi := ⟨some 6, _, _, _, _, none⟩) (v := (.slice la n lc)) rfl (by kernel_rfl) (by kernel_rfl) (by kernel_rfl) (fun _ _ _ h => h) (Or.inl ⟨by rfl, fun W hW => ?_⟩) (by assumption) ?_
    · go_simp
    simp only [Act.put, List.setIfInBounds_toArray, List.set_cons_zero, List.set_cons_succ]
    refine wpAnyH_take (i := 2) (oi := ⟨some 7, _, _, _, _, none⟩) (v := (.int .i64 (n : Nat))) rfl (by kernel_rfl) (by kernel_rfl) (by kernel_rfl) (fun _ _ _ h => h) (Or.inl ⟨by rfl, fun W hW => ?_⟩) (by assumption) ?_
    · go_simp
    simp only [Act.put, List.setIfInBounds_toArray, List.set_cons_zero, List.set_cons_succ]
    refine wpAnyH_take (i := 3) (oi := ⟨some 8, _, _, _, _, none⟩) (v := (.slice la n lc)) rfl (by kernel_rfl) (by kernel_rfl) (by kernel_rfl) (fun _ _ _ h => h) (Or.inl ⟨by rfl, fun W hW => ?_⟩) (by assumption) ?_
    · go_simp
    simp only [Act.put, List.setIfInBounds_toArray, List.set_cons_zero, List.set_cons_succ]
    refine wpAnyH_take (i := 5) (oi := ⟨some 10, _, _, _, _, none⟩) (v := (.pointer (some ⟨w.heap.size, 0, none⟩))) rfl (by kernel_rfl) (by kernel_rfl) (by kernel_rfl) (fun _ _ _ h => h) (Or.inl ⟨by rfl, fun W hW => ?_⟩) (by assumption) ?_
    · go_simp
    simp only [Act.put, List.setIfInBounds_toArray, List.set_cons_zero, List.set_cons_succ]
    refine wpAnyH_take (i := 6) (oi := ⟨some 11, _, _, _, _, none⟩) (v := (.int .i64 N)) rfl (by kernel_rfl) (by kernel_rfl) (by kernel_rfl) (fun _ _ _ h => h) (Or.inl ⟨by rfl, fun W hW => ?_⟩) (by assumption) ?_
    · (obtain ⟨c0, c1, c2⟩ := box3 hW.1; go_simp; try rfl)
    simp only [Act.put, List.setIfInBounds_toArray, List.set_cons_zero, List.set_cons_succ]
    refine wpAnyH_ready (rs := [4]) (by kernel_rfl) (by simp) (AllReadyH.cons rfl (fun KK hKK => ?_) AllReadyH.nil)
    go_simp
    refine (of_n la n lc L _ (HL.out.same (HW.out.2))).mono ?_
    rintro e w1 ⟨cf1, cp1, rfl, ha1, hb1⟩
    dsimp only
    have HA1 := Lib.hid ha1; have hW0 := HW.out
    have HW := Lib.hid (show _ ∧ _ from ⟨(hb1.block _ (Array.getElem?_eq_some_iff.1 HW.out.1).1).trans HW.out.1, HW.out.2.trans (hb1.mono HW.out.2.size)⟩)
    clear hW0 ha1
    refine hKK.out _ _ (HW.out) (fun hHeld => ?_)
    clear hKK KK
    try simp only [Act.put, List.setIfInBounds_toArray, List.set_cons_zero, List.set_cons_succ]
    refine wpAnyH_ready (rs := [7]) (by kernel_rfl) (by simp) (AllReadyH.cons rfl (fun KK hKK => ?_) AllReadyH.nil)
    go_simp
    refine (all_n N n _).mono ?_
    rintro e w2 ⟨cf2, cp2, rfl, ha2, hb2⟩
    dsimp only
    have HA2 := Lib.hid ha2; have hW0 := HW.out
    have HA1 := Lib.hid (HA1.out.same hb2)
    have HW := Lib.hid (show _ ∧ _ from ⟨(hb2.block _ (Array.getElem?_eq_some_iff.1 HW.out.1).1).trans HW.out.1, HW.out.2.trans (hb2.mono HW.out.2.size)⟩)
    clear hW0 ha2
    refine hKK.out _ _ (HW.out) (fun hHeld => ?_)
    clear hKK KK
    try simp only [Act.put, List.setIfInBounds_toArray, List.set_cons_zero, List.set_cons_succ]
    refine wpAnyH_ready (rs := [8]) (by kernel_rfl) (by simp) (AllReadyH.cons rfl (fun KK hKK => ?_) AllReadyH.nil)
    go_simp
    refine (hold_any N M B n cf1 cf2 cp1 cp2 (fun _ => N) L hn _ HA1.out HA2.out).mono ?_
    rintro e w3 ⟨⟨v, rfl, hv⟩, hb3⟩
    dsimp only
    have HV := Lib.hid hv; have hW0 := HW.out
    have HW := Lib.hid (show _ ∧ _ from ⟨(hb3.block _ (Array.getElem?_eq_some_iff.1 HW.out.1).1).trans HW.out.1, HW.out.2.trans (hb3.mono HW.out.2.size)⟩)
    clear hW0 hv
    refine hKK.out _ _ (HW.out) (fun hHeld => ?_)
    clear hKK KK
    try simp only [Act.put, List.setIfInBounds_toArray, List.set_cons_zero, List.set_cons_succ]
    refine wpAnyH_ready (rs := [9]) (by kernel_rfl) (by simp) (AllReadyH.cons rfl (fun KK hKK => ?_) AllReadyH.nil)
    go_simp
    refine hKK.out _ _ (HW.out) (fun hHeld => ?_)
    clear hKK KK
    try simp only [Act.put, List.setIfInBounds_toArray, List.set_cons_zero, List.set_cons_succ]
    refine wpAnyH_done (by kernel_rfl) ?_ _
    go_wp2
    go_ret
    exact ⟨⟨v, rfl, HV.out⟩, HW.out.2⟩
end Go.Proofs.Ythkcacnlinajgaa.Sz

namespace Go.Proofs.Ythkcacnlinajgaa.Pn
open Go.RowKit Go.Shelf
open Go.Proofs.Ythkcacnlinajgaa.Sz (RB roomI FitP bV box3)
open Go.Proofs.Ythkcacnlinajgaa.Wg (RW BoSays BoSays.no BoSays.yes SmI sc hi_own hi_lit2 twoB threeB fourB sameInts_any)
attribute [local go_sem] Oper.semAt_some

/-- what the program's calls are to tell. -/
def PRight : Prop := ∀ (N M B : Int) (la va wa : Option Addr) (nl lc nv vc nm wc : Nat) (L V W : Nat → Int), nl ≤ 140737488355328 → nv ≤ 140737488355328 → nm ≤ 140737488355328 → ∀ w : World, Si w la nl L → Si w va nv V → Si w wa nm W →
  Calls Try.prog 15 #[tV N M B la nl lc va nv vc wa nm wc] w fun e w' => BoSays (TR N M B nl nv nm L V W) e ∧ Below w.heap.size w w'
def PBest : Prop := ∀ (N M B : Int) (la va wa : Option Addr) (nl lc nv vc nm wc : Nat) (L V W : Nat → Int), nl ≤ 140737488355328 → nv ≤ 140737488355328 → nm ≤ 140737488355328 → ∀ w : World, Si w la nl L → Si w va nv V → Si w wa nm W →
  Calls Try.prog 9 #[tV N M B la nl lc va nv vc wa nm wc] w fun e w' => BsSays N M B nl nv nm L V W w e w' ∧ Below w.heap.size w w'
def PScore : Prop := ∀ (N M B : Int) (la va wa : Option Addr) (nl lc nv vc nm wc : Nat) (L V W : Nat → Int), nl ≤ 140737488355328 → nv ≤ 140737488355328 → nm ≤ 140737488355328 → ∀ w : World, Si w la nl L → Si w va nv V → Si w wa nm W →
  Calls Try.prog 12 #[tV N M B la nl lc va nv vc wa nm wc] w fun e w' => BScSays N M B nl nv nm L V W e ∧ Below w.heap.size w w'
set_option maxHeartbeats 2000000 in
set_option maxRecDepth 100000 in
theorem theirs13_any (N M B : Int) (la va wa : Option Addr) (nl lc nv vc nm wc : Nat) (w : World) :
    Calls Try.prog 11 #[tV N M B la nl lc va nv vc wa nm wc] w fun e w' => e = .returned (tV N M B la nl lc va nv vc wa nm wc) ∧ Below w.heap.size w w' := by
  have hb := (Below.refl w.heap.size w).alloc (Nat.le_refl _) (.cells #[.int .i64 N, .int .i64 M, .int .i64 B, .slice la nl lc, .slice va nv vc, .slice wa nm wc] 26)
  unfold tV
  go_enter Try.func11, Try.ntmps11
  have hg := heap_alloc_new (w.alloc (.cells #[.int .i64 N, .int .i64 M, .int .i64 B, .slice la nl lc, .slice va nv vc, .slice wa nm wc] 26)) (.cells #[.int .i64 N, .int .i64 M, .int .i64 B, .slice la nl lc, .slice va nv vc, .slice wa nm wc] 35)
  rw [World.size_alloc] at hg
  have HG := Lib.hid hg; have HB := Lib.hid (hb.alloc (by simp) (.cells #[.int .i64 N, .int .i64 M, .int .i64 B, .slice la nl lc, .slice va nv vc, .slice wa nm wc] 35))
  clear hg hb
  go_wp2_with fail
  exact bodyPost_ret (results_cell_row rfl _ _ (w.heap.size + 1) _ _ (0, 0) _ rfl HG.out Try.underlying35 rfl (by kernel_rfl)) rfl ⟨rfl, HB.out⟩

def nin (i : Nat) : Int := ([9, 9, 9, 9, 9] : List Int).getD i 0
def one2 (i : Nat) : Int := ([1, 1] : List Int).getD i 0
def two2 (x y : Int) (i : Nat) : Int := ([x, y] : List Int).getD i 0
theorem aw_tr (x y : Int) (hx : 0 ≤ x ∧ x ≤ 65535) (hy : 0 ≤ y ∧ y ≤ 65535) : TR 4 64 200 2 2 5 (two2 x y) one2 nin :=
  ⟨by unfold RB; omega, by omega, rfl, ⟨by omega, by decide, by decide, fun i hi => by
    rcases i with _ | _ | _ | _ | _ | i
    · decide
    · decide
    · decide
    · decide
    · decide
    · omega⟩, fun i hi => by
    rcases i with _ | _ | i
    · exact ⟨hx.1, hx.2, by decide, by decide⟩
    · exact ⟨hy.1, hy.2, by decide, by decide⟩
    · omega⟩
theorem aw_room13 : roomI 4 64 200 ((2 : Nat) : Int) = 26 := by decide +kernel
theorem aw_1 : 0 ≤ (cel 4 (lys (two2 40 60) one2 nin 0 2) 1 26).1 ∧ best 4 (lys (two2 40 60) one2 nin 0 2) 1 26 = [4, 4] := by decide +kernel
theorem aw_2 : 0 ≤ (cel 4 (lys (two2 5 20) one2 nin 0 2) 1 26).1 ∧ best 4 (lys (two2 5 20) one2 nin 0 2) 1 26 = [1, 1] := by decide +kernel
theorem aw_3 : (cel 4 (lys (two2 45 60) one2 nin 0 2) 1 26).1 < 0 := by decide +kernel
theorem aw_best1 : IsBest 4 64 200 2 (two2 40 60) one2 nin (at0 [4, 4]) := by
  have h := plan_yes (aw_tr 40 60 (by omega) (by omega)) (by rw [aw_room13]; omega) (by rw [aw_room13]; exact aw_1.1)
  rw [aw_room13] at h
  have e := aw_1.2
  rw [show (26 : Int).toNat = 26 from rfl, show (4 : Int).toNat = 4 from rfl, e] at h
  exact h
theorem aw_best2 : IsBest 4 64 200 2 (two2 5 20) one2 nin (at0 [1, 1]) := by
  have h := plan_yes (aw_tr 5 20 (by omega) (by omega)) (by rw [aw_room13]; omega) (by rw [aw_room13]; exact aw_2.1)
  rw [aw_room13] at h
  have e := aw_2.2
  rw [show (26 : Int).toNat = 26 from rfl, show (4 : Int).toNat = 4 from rfl, e] at h
  exact h
theorem aw_no3 : ∀ K, ¬ FitP 4 64 200 2 K (two2 45 60) := plan_no (aw_tr 45 60 (by omega) (by omega)) (Or.inr (by rw [aw_room13]; exact aw_3))
end Go.Proofs.Ythkcacnlinajgaa.Pn

namespace Go.Proofs.Ythkcacnlinajgaa.Pn
open Go.RowKit Go.Shelf
attribute [local go_sem] Oper.semAt_some

/-- a row of numbers in a block of its own, as it reads. -/
def Nr (ty : TypeId) (kd : IntKind) (w : World) (g c : Nat) (f : Nat → Int) : Prop := ∃ vs : Array Value, w.heap[g]? = some (.cells vs ty (0, 0)) ∧ vs.size = c ∧ ∀ i, i < c → vs[i]? = some (.int kd (f i))
section
variable {ty ty' : TypeId} {kd kd' : IntKind} {w w' : World} {g g' c : Nat} {f h : Nat → Int}
theorem Nr.lt (s : Nr ty kd w g c f) : g < w.heap.size := by
  obtain ⟨vs, h1, _⟩ := s
  exact (Array.getElem?_eq_some_iff.1 h1).1
theorem Nr.kept (s : Nr ty kd w g c f) (hk : w'.heap[g]? = w.heap[g]?) : Nr ty kd w' g c f := by
  obtain ⟨vs, h1, h2⟩ := s
  exact ⟨vs, hk.trans h1, h2⟩
theorem Nr.same (s : Nr ty kd w g c f) (hB : Below w.heap.size w w') : Nr ty kd w' g c f := s.kept (hB.block g s.lt)
theorem Nr.congr (s : Nr ty kd w g c f) (he : ∀ i, i < c → f i = h i) : Nr ty kd w g c h := by
  obtain ⟨vs, h1, h2, h3⟩ := s
  exact ⟨vs, h1, h2, fun i hi => by rw [← he i hi]; exact h3 i hi⟩
theorem Nr.cell (s : Nr ty kd w g c f) {i : Nat} (hi : i < c) : w.cell? ⟨g, i, none⟩ = some (.int kd (f i)) := by
  obtain ⟨vs, h1, h2, h3⟩ := s
  rw [cell_of_row w g i vs _ _ h1]; exact h3 i hi
theorem Nr.free (s : Nr ty kd w g c f) (i : Nat) : w.frozen? ⟨g, i, none⟩ = false := by
  obtain ⟨vs, h1, _⟩ := s
  exact frozen_of_row w g i vs _ h1
theorem Nr.obj (s : Nr ty kd w g c f) : ∃ vs, w.heap[g]? = some (.cells vs ty (0, 0)) := by
  obtain ⟨vs, h1, _⟩ := s
  exact ⟨vs, h1⟩
theorem Nr.ne (s : Nr ty kd w g c f) (s' : Nr ty' kd' w g' c f) (hne : ty ≠ ty') : g ≠ g' := fun e => by
  obtain ⟨vs, h1⟩ := s.obj
  obtain ⟨vs', h2⟩ := s'.obj
  rw [e, h2] at h1
  injection h1 with h1; injection h1 with _ h1
  exact hne h1.symm
theorem Nr.set (s : Nr ty kd w g c f) {i : Nat} (hi : i < c) (x : Int) : Nr ty kd (w.setCell ⟨g, i, none⟩ (.int kd x)) g c (fun j => if j = i then x else f j) := by
  obtain ⟨vs, h1, h2, h3⟩ := s
  refine ⟨_, heap_setCell_same w g i vs _ _ h1, by simpa using h2, fun j hj => ?_⟩
  show _ = some (Value.int kd (if j = i then x else f j))
  by_cases e : j = i
  · subst e
    rw [if_pos rfl, Array.getElem?_setIfInBounds_self_of_lt (by omega)]
  · rw [if_neg e, Array.getElem?_setIfInBounds_ne (fun q => e q.symm)]
    exact h3 j hj
theorem Nr.made (W : World) (ty : TypeId) (kd : IntKind) (N : Nat) : Nr ty kd (W.alloc (.cells (madeCells #[.int kd 0] N) ty)) W.heap.size N (fun _ => 0) :=
  ⟨_, heap_alloc_new W _, size_madeCells _ _, fun i hi => by simp [madeCells, hi, Nat.mod_one]⟩
theorem Nr.kep {row : Option Nat} (s : Nr ty kd w g c f) (hg : w.grownBy w' row) (hr : ∀ r, row = some r → ∃ o : Obj, w.heap[r]? = some o ∧ o.isCells = false) : Nr ty kd w' g c f := by
  obtain ⟨vs, h1, h2⟩ := s
  exact ⟨vs, (hg.block g (Array.getElem?_eq_some_iff.1 h1).1 (fun e => by obtain ⟨o, ho, hc⟩ := hr g e.symm; rw [h1] at ho; cases ho; cases hc)).trans h1, h2⟩
end
/-- a row is laid over another. -/
theorem run_copy_nr (sty ity ty : TypeId) (kd : IntKind) (hu : Try.prog.underlying sty = some (.slice ty)) (hs : (Try.prog.info? ty).map (·.size) = some 1) (w : World) (g g2 c : Nat) (f h : Nat → Int) (hg : Nr ty kd w g c f) (hh : Nr ty kd w g2 c h) :
    ∃ w', (Builtin.copy_ #[sty, sty] ity #[.slice (some ⟨g, 0, none⟩) c c, .slice (some ⟨g2, 0, none⟩) c c]).run Try.prog w = .ok (.int .i64 (c : Nat)) w' ∧ Nr ty kd w' g c h ∧ w.grownBy w' (some g) := by
  obtain ⟨vs, h1, h2, h3⟩ := hg
  obtain ⟨us, u1, u2, u3⟩ := hh
  have hl : us.toList.length = c := by rw [Array.length_toList]; exact u2
  have hrun := run_copy_row (P := Try.prog) w sty sty ity ty g 0 c c ⟨g2, 0, none⟩ c c vs ty us.toList hu hs h1 (by rw [hl]; exact (Nat.min_self c).symm) (fun j v hj => by
    rw [Addr.add_lit, Nat.zero_add, cell_of_row w g2 j us _ _ u1, ← Array.getElem?_toList]; exact hj) (by rw [hl]; omega) (fun v hv => by
    obtain ⟨i, hi⟩ := List.getElem?_of_mem hv
    have hic : i < c := by have := (List.getElem?_eq_some_iff.1 hi).1; omega
    rw [Array.getElem?_toList, u3 i hic] at hi
    rw [← Option.some.inj hi]; rfl)
  rw [hl] at hrun
  refine ⟨_, hrun, ⟨_, setRow_heap w g _ _ _ _ h1, ?_, fun i hi => ?_⟩, ⟨rfl, rfl, rfl, by simp [World.setRow], fun j _ hne => setRow_other w g j _ (fun e => hne (by rw [e]))⟩⟩
  · simp; omega
  · rw [List.getElem?_toArray]
    simp only [List.take_zero, List.nil_append]
    rw [List.getElem?_append_left (by omega), Array.getElem?_toList]
    exact u3 i hi
/-- a table of rows of numbers: its list, its rows. -/
structure Tab (tl ty : TypeId) (kd : IntKind) (w : World) (G n c : Nat) (b : Nat → Nat) (F : Nat → Nat → Int) : Prop where
  ls : ∃ vs : Array Value, w.heap[G]? = some (.cells vs tl (0, 0)) ∧ vs.size = n ∧ ∀ i, i < n → vs[i]? = some (.slice (some ⟨b i, 0, none⟩) c c)
  rw : ∀ i, i < n → Nr ty kd w (b i) c (F i)
  inj : ∀ i j, i < n → j < n → b i = b j → i = j
section
variable {tl ty : TypeId} {kd : IntKind} {w w' : World} {G n c : Nat} {b : Nat → Nat} {F H : Nat → Nat → Int}
theorem Tab.lt (s : Tab tl ty kd w G n c b F) : G < w.heap.size := by
  obtain ⟨vs, h1, _⟩ := s.ls
  exact (Array.getElem?_eq_some_iff.1 h1).1
theorem Tab.cell (s : Tab tl ty kd w G n c b F) {i : Nat} (hi : i < n) : w.cell? ⟨G, i, none⟩ = some (.slice (some ⟨b i, 0, none⟩) c c) := by
  obtain ⟨vs, h1, h2, h3⟩ := s.ls
  rw [cell_of_row w G i vs _ _ h1]; exact h3 i hi
theorem Tab.kept (s : Tab tl ty kd w G n c b F) (hG : w'.heap[G]? = w.heap[G]?) (hb : ∀ i, i < n → w'.heap[b i]? = w.heap[b i]?) : Tab tl ty kd w' G n c b F :=
  ⟨by obtain ⟨vs, h1, h2⟩ := s.ls; exact ⟨vs, hG.trans h1, h2⟩, fun i hi => (s.rw i hi).kept (hb i hi), s.inj⟩
theorem Tab.same (s : Tab tl ty kd w G n c b F) (hB : Below w.heap.size w w') : Tab tl ty kd w' G n c b F :=
  s.kept (hB.block G s.lt) (fun i hi => hB.block _ (s.rw i hi).lt)
theorem Tab.congr (s : Tab tl ty kd w G n c b F) (he : ∀ i j, i < n → j < c → F i j = H i j) : Tab tl ty kd w G n c b H :=
  ⟨s.ls, fun i hi => (s.rw i hi).congr (fun j hj => he i j hi hj), s.inj⟩
theorem Tab.kep {row : Option Nat} (s : Tab tl ty kd w G n c b F) (hg : w.grownBy w' row) (hr : ∀ r, row = some r → ∃ o : Obj, w.heap[r]? = some o ∧ o.isCells = false) : Tab tl ty kd w' G n c b F :=
  ⟨by
    obtain ⟨vs, h1, h2⟩ := s.ls
    exact ⟨vs, (hg.block G (Array.getElem?_eq_some_iff.1 h1).1 (fun e => by obtain ⟨o, ho, hc⟩ := hr G e.symm; rw [h1] at ho; cases ho; cases hc)).trans h1, h2⟩, fun i hi => (s.rw i hi).kep hg hr, s.inj⟩
/-- a block of another type is none of a table's. -/
theorem Tab.ne_list (s : Tab tl ty kd w G n c b F) {k : Nat} {vs : Array Value} {t : TypeId} (hk : w.heap[k]? = some (.cells vs t (0, 0))) (hne : tl ≠ t) : k ≠ G := fun e => by
  obtain ⟨us, h1, _⟩ := s.ls
  rw [e, h1] at hk
  injection hk with hk; injection hk with _ hk
  exact hne hk
theorem Tab.ne_row (s : Tab tl ty kd w G n c b F) {k : Nat} {vs : Array Value} {t : TypeId} (hk : w.heap[k]? = some (.cells vs t (0, 0))) (hne : ty ≠ t) {i : Nat} (hi : i < n) : k ≠ b i := fun e => by
  obtain ⟨us, h1⟩ := (s.rw i hi).obj
  rw [e, h1] at hk
  injection hk with hk; injection hk with _ hk
  exact hne hk
/-- a row is another one from now on. -/
theorem Tab.rowset (s : Tab tl ty kd w G n c b F) (hne : tl ≠ ty) {i : Nat} (hi : i < n) {h : Nat → Int} (hr : Nr ty kd w' (b i) c h) (hg : w.grownBy w' (some (b i))) : Tab tl ty kd w' G n c b (fun j => if j = i then h else F j) := by
  have hGi : G ≠ b i := by
    obtain ⟨vs, h1, _⟩ := s.ls
    exact s.ne_row h1 (fun e => hne e.symm) hi
  refine ⟨?_, fun j hj => ?_, s.inj⟩
  · obtain ⟨vs, h1, h2⟩ := s.ls
    exact ⟨vs, (hg.block G s.lt (by intro e; injection e with e; exact hGi e)).trans h1, h2⟩
  · show Nr ty kd w' (b j) c (if j = i then h else F j)
    by_cases e : j = i
    · rw [if_pos e, e]; exact hr
    · rw [if_neg e]
      exact (s.rw j hj).kept (hg.block _ (s.rw j hj).lt (by intro q; injection q with q; exact e (s.inj j i hj hi q)))
end
/-- all blocks but some stay. -/
structure Fr (S : Nat → Prop) (w w' : World) : Prop where
  os : w'.os = w.os
  tape : w'.tape = w.tape
  output : w'.output = w.output
  size : w.heap.size ≤ w'.heap.size
  block : ∀ k, k < w.heap.size → ¬ S k → w'.heap[k]? = w.heap[k]?
section
variable {S : Nat → Prop} {w w' w2 : World}
theorem Fr.refl (S : Nat → Prop) (w : World) : Fr S w w := ⟨rfl, rfl, rfl, Nat.le_refl _, fun _ _ _ => rfl⟩
theorem Fr.trans (h : Fr S w w') (k : Fr S w' w2) : Fr S w w2 := ⟨k.os.trans h.os, k.tape.trans h.tape, k.output.trans h.output, Nat.le_trans h.size k.size, fun i hi hs => (k.block i (Nat.lt_of_lt_of_le hi h.size) hs).trans (h.block i hi hs)⟩
theorem Fr.of_below (h : Below w.heap.size w w') : Fr S w w' := ⟨h.os, h.tape, h.output, h.size, fun k hk _ => h.block k hk⟩
theorem Fr.of_grown {g : Nat} (h : w.grownBy w' (some g)) (hg : S g) : Fr S w w' := ⟨h.os, h.tape, h.output, h.size, fun k hk hs => h.block k hk (by intro e; injection e with e; exact hs (e ▸ hg))⟩
theorem Fr.below (h : Fr S w w') {B : Nat} (hB : B ≤ w.heap.size) (hs : ∀ k, S k → B ≤ k) : Below B w w' := ⟨h.os, h.tape, h.output, h.size, fun k hk => h.block k (by omega) (fun q => by have := hs k q; omega)⟩
theorem Fr.setCell (w : World) {g : Nat} (hg : S g) (i : Nat) (v : Value) : Fr S w (w.setCell ⟨g, i, none⟩ v) := Fr.of_grown (grownSet w g i v) hg
theorem Fr.tab {tl ty : TypeId} {kd : IntKind} {G n c : Nat} {b : Nat → Nat} {F : Nat → Nat → Int} (h : Fr S w w') (s : Tab tl ty kd w G n c b F) (hG : ¬ S G) (hb : ∀ i, i < n → ¬ S (b i)) : Tab tl ty kd w' G n c b F :=
  s.kept (h.block G s.lt hG) (fun i hi => h.block _ (s.rw i hi).lt (hb i hi))
end
/-- the step down: what one more least threshold turns. -/
theorem run_down (l : Ly) (cb : Nat → Nat → Int × Nat) (r f : Nat) : ∀ j, (∀ k, f ≤ k → k < f + (j + 1) → 0 ≤ l.v k) →
    run l cb r f (j + 1) = if may l cb r f ∧ (run l cb r (f + 1) j).1 ≤ sum l cb r f then (sum l cb r f, f) else run l cb r (f + 1) j
  | 0, hv => by
    have h0 := hv f (Nat.le_refl _) (by omega)
    show (if may l cb r (f + 0) ∧ (-1 : Int) < sum l cb r (f + 0) then (sum l cb r (f + 0), f + 0) else ((-1 : Int), 0)) = (if may l cb r f ∧ (-1 : Int) ≤ sum l cb r f then (sum l cb r f, f) else ((-1 : Int), 0))
    rw [Nat.add_zero]
    by_cases hm : may l cb r f
    · have hs : 0 ≤ sum l cb r f := by have := hm.2; unfold sum; omega
      rw [if_pos ⟨hm, by omega⟩, if_pos ⟨hm, by omega⟩]
    · rw [if_neg (fun h => hm h.1), if_neg (fun h => hm h.1)]
  | j + 1, hv => by
    have ih := run_down l cb r f j (fun k h1 h2 => hv k h1 (by omega))
    have e1 : run l cb r f (j + 1 + 1) = if may l cb r (f + (j + 1)) ∧ (run l cb r f (j + 1)).1 < sum l cb r (f + (j + 1)) then (sum l cb r (f + (j + 1)), f + (j + 1)) else run l cb r f (j + 1) := rfl
    have e2 : run l cb r (f + 1) (j + 1) = if may l cb r (f + 1 + j) ∧ (run l cb r (f + 1) j).1 < sum l cb r (f + 1 + j) then (sum l cb r (f + 1 + j), f + 1 + j) else run l cb r (f + 1) j := rfl
    rw [e1, e2, ih, show f + (j + 1) = f + 1 + j by omega]
    generalize run l cb r (f + 1) j = p
    generalize sum l cb r f = s
    generalize sum l cb r (f + 1 + j) = t
    by_cases m1 : may l cb r f <;> by_cases m2 : may l cb r (f + 1 + j) <;> by_cases c1 : p.1 ≤ s <;> by_cases c2 : p.1 < t <;> by_cases c3 : s < t <;> by_cases c4 : t ≤ s <;> simp [m1, m2, c1, c2, c3, c4] <;> first | rfl | omega | (exfalso; omega)
theorem run_down' (l : Ly) (cb : Nat → Nat → Int × Nat) (r : Nat) {f n : Nat} (hf : f ≤ n) (hv : ∀ k, f ≤ k → k ≤ n → 0 ≤ l.v k) :
    run l cb r f (n + 1 - f) = if may l cb r f ∧ (run l cb r (f + 1) (n + 1 - (f + 1))).1 ≤ sum l cb r f then (sum l cb r f, f) else run l cb r (f + 1) (n + 1 - (f + 1)) := by
  have := run_down l cb r f (n - f) (fun k h1 h2 => hv k h1 (by omega))
  rw [show n + 1 - f = n - f + 1 by omega, show n + 1 - (f + 1) = n - f by omega]
  exact this
end Go.Proofs.Ythkcacnlinajgaa.Pn

namespace Go.Proofs.Ythkcacnlinajgaa.Pn
open Go.RowKit Go.Shelf
open Go.Proofs.Ythkcacnlinajgaa.Wg (mask32 hmkI)
attribute [local go_sem] Oper.semAt_some

theorem Try.sizeInt1 : (Try.prog.info? 3).map (·.size) = some 1 := by kernel_rfl
/-- a block of c numbers, the first k of which are v. -/
def Rk (ty : TypeId) (kd : IntKind) (v : Int) (w : World) (g c k : Nat) : Prop := ∃ vs : Array Value, w.heap[g]? = some (.cells vs ty (0, 0)) ∧ vs.size = c ∧ ∀ i, i < k → vs[i]? = some (.int kd v)
section
variable {ty : TypeId} {kd : IntKind} {v : Int} {w w' : World} {g c k : Nat}
theorem Rk.lt (h : Rk ty kd v w g c k) : g < w.heap.size := by
  obtain ⟨vs, h1, _⟩ := h
  exact (Array.getElem?_eq_some_iff.1 h1).1
theorem Rk.same (h : Rk ty kd v w g c k) (hB : Below w.heap.size w w') : Rk ty kd v w' g c k := by
  obtain ⟨vs, h1, h2⟩ := h
  exact ⟨vs, (hB.block g (Array.getElem?_eq_some_iff.1 h1).1).trans h1, h2⟩
theorem Rk.cell (h : Rk ty kd v w g c k) {i : Nat} (hi : i < k) : w.cell? ⟨g, i, none⟩ = some (.int kd v) := by
  obtain ⟨vs, h1, h2, h3⟩ := h
  rw [cell_of_row w g i vs _ _ h1]; exact h3 i hi
theorem Rk.nr (h : Rk ty kd v w g c c) : Nr ty kd w g c (fun _ => v) := h
end
theorem rk_made (W : World) (ty : TypeId) (kd : IntKind) (v : Int) (N : Nat) : Rk ty kd v (W.alloc (.cells (madeCells #[.int kd 0] N) ty)) W.heap.size N 0 :=
  ⟨_, heap_alloc_new W _, size_madeCells _ _, fun i hi => absurd hi (Nat.not_lt_zero i)⟩
theorem run_copy_rk (sty ity ty : TypeId) (kd : IntKind) (v : Int) (hu : Try.prog.underlying sty = some (.slice ty)) (hsz : (Try.prog.info? ty).map (·.size) = some 1) (w : World) (g c k m dLen dCap sLen sCap : Nat) (ad : Addr) (hm : m = Nat.min sLen dLen) (h : Rk ty kd v w g c k) (hs : ∀ j, j < m → w.cell? (ad.add j) = some (.int kd v)) (hfit : k + m ≤ c) :
    ∃ w', (Builtin.copy_ #[sty, sty] ity #[.slice (some ⟨g, k, none⟩) dLen dCap, .slice (some ad) sLen sCap]).run Try.prog w = .ok (.int .i64 (m : Nat)) w' ∧ Rk ty kd v w' g c (k + m) ∧ w.grownBy w' (some g) := by
  obtain ⟨vs, h1, h2, h3⟩ := h
  have hl : (List.replicate m (Value.int kd v)).length = m := List.length_replicate
  have hrun := run_copy_row (P := Try.prog) w sty sty ity ty g k dLen dCap ad sLen sCap vs ty (List.replicate m (Value.int kd v)) hu hsz h1 (by rw [hl]; exact hm) (fun j u hj => by
    have hjm := (List.getElem?_eq_some_iff.1 hj).1
    rw [hl] at hjm
    rw [List.getElem?_replicate, if_pos hjm] at hj
    rw [← Option.some.inj hj]; exact hs j hjm) (by rw [hl, h2]; exact hfit) (fun u hu => by rw [List.eq_of_mem_replicate hu]; rfl)
  rw [hl] at hrun
  refine ⟨_, hrun, ⟨_, setRow_heap w g _ _ _ _ h1, ?_, fun i hi => ?_⟩, ⟨rfl, rfl, rfl, by simp [World.setRow], fun j _ hne => setRow_other w g j _ (fun e => hne (by rw [e]))⟩⟩
  · simp; omega
  · rw [List.getElem?_toArray]
    simp only [List.append_assoc]
    by_cases e : i < k
    · rw [List.getElem?_append_left (by simp; omega), List.getElem?_take, if_pos e, Array.getElem?_toList]
      exact h3 i e
    · rw [List.getElem?_append_right (by simp; omega)]
      have e1 : (List.take k vs.toList).length = k := by simp; omega
      rw [e1, List.getElem?_append_left (by rw [hl]; omega), List.getElem?_replicate, if_pos (by omega)]
set_option maxHeartbeats 1000000 in
theorem mul64_one2 (c : Nat) (hc : c ≤ 1000000) (w : World) :
    Calls Try.prog 106 #[.int .u64 1, .int .u64 (c : Nat)] w fun e w' => e = .returned (.tuple #[.int .u64 0, .int .u64 (c : Nat)]) ∧ w' = w := by
  have m0 : bits .and .u64 0 4294967295 = 0 := mask32 0 (by omega)
  have m1 : bits .and .u64 1 4294967295 = 1 := mask32 1 (by omega)
  have m2 := mask32 c (by omega)
  have m3 : (c : Int) / 4294967296 = 0 := by omega
  go_enter Try.func106, Try.ntmps106
  go_wp2
  go_ret2
  exact ⟨rfl, rfl⟩
set_option maxHeartbeats 1000000 in
theorem mul_one2 (c : Nat) (hc : c ≤ 1000000) (w : World) :
    Calls Try.prog 82 #[.int .u64 1, .int .u64 (c : Nat)] w fun e w' => e = .returned (.tuple #[.int .u64 0, .int .u64 (c : Nat)]) ∧ w' = w := by
  go_enter Try.func82, Try.ntmps82
  go_wp2_with fail
  refine (mul64_one2 c hc _).mono ?_
  rintro e w1 ⟨rfl, rfl⟩
  go_wp2
  go_ret2
  exact ⟨rfl, rfl⟩
theorem hmkB (N : Nat) (hN : N ≤ 1000000000) : ∀ W : World, (Instr.makeSlice 139 (.int .i64 (N : Nat)) (.int .i64 (N : Nat))).run Try.prog W = .ok (.slice (some ⟨W.heap.size, 0, none⟩) N N) (W.alloc (.cells (madeCells #[.int .u8 0] N) 5)) := hmk8 N (by omega)
/-- a row of one number alone, in a block of its own. -/
def RkSays (ty : TypeId) (kd : IntKind) (v : Int) (w : World) (c : Nat) (e : Ending) (w' : World) : Prop := ∃ g, w.heap.size ≤ g ∧ e = .returned (.slice (some ⟨g, 0, none⟩) c c) ∧ Rk ty kd v w' g c c ∧ Below w.heap.size w w'
set_option maxHeartbeats 4000000 in
set_option maxRecDepth 100000 in
theorem repeatI_any (v : Int) (x c : Nat) (hc : c ≤ 1000000) (h1 : 1 ≤ c) (w : World) (hx : Rk 3 .i64 v w x 1 1) :
    Calls Try.prog 49 #[.slice (some ⟨x, 0, none⟩) 1 1, .int .i64 (c : Nat)] w (RkSays 3 .i64 v w c) := by
  have hmk := hmkI c (by omega)
  have HX := Lib.hid hx; clear hx
  have hb1 : Below w.heap.size w (w.alloc (.cells (madeCells #[.int .i64 0] c) 3)) := (Below.refl _ w).alloc (Nat.le_refl _) _
  obtain ⟨w2, hrun, hr2, hg2⟩ := run_copy_rk 24 3 3 .i64 v Try.underlying24 Try.sizeInt1 (w.alloc (.cells (madeCells #[.int .i64 0] c) 3)) w.heap.size c 0 1 c c 1 1 ⟨x, 0, none⟩ (show 1 = min 1 c by omega) (rk_made w _ _ v c) (fun j hj => by
    obtain rfl : j = 0 := by omega
    rw [Addr.add_lit]; exact (HX.out.same hb1).cell (by omega)) (by omega)
  have HR2 := Lib.hid hr2; have HB2 := Lib.hid (hb1.grown hg2 hb1.size (fun g e => by cases e; exact Nat.le_refl _))
  clear hb1 hr2 hg2
  have i1 : ¬ (c : Int) < 0 := by omega
  have i3 : ¬ (9223372036854775807 : Int) < (c : Int) := by omega
  go_enter Try.func49, Try.ntmps49
  go_wp2_with fail
  refine (mul_one2 c hc _).mono ?_
  rintro e w1 ⟨rfl, rfl⟩
  go_wp2_with fail
  clear hrun hmk
  obtain ⟨g, hg⟩ : ∃ g, g = w1.heap.size := ⟨_, rfl⟩
  rw [← hg] at HR2 ⊢
  have HG := Lib.hid hg
  clear hg i1 i3
  go_loopw [8] (fun n wr => ∃ k : Nat, 1 ≤ k ∧ k ≤ c ∧ n = .int .i64 (k : Nat) ∧ Rk 3 .i64 v wr g c k ∧ Below w1.heap.size w1 wr) (fun n _ => c - (intOf n).toNat)
  case atStart => exact ⟨1, by omega, by omega, rfl, HR2.out, HB2.out⟩
  case round =>
    obtain ⟨k, hk1, hk, rfl, hr, hB⟩ := hrel
    have HR := Lib.hid hr; have HB := Lib.hid hB
    clear hr hB
    by_cases hkc : k < c
    · have i1 : (k : Int) < (c : Int) := by omega
      have i2 : ¬ c = k := by omega
      have i3 : (k : Int) ≤ (c : Int) := by omega
      obtain ⟨m, hm⟩ : ∃ m, m = min k (c - k) := ⟨_, rfl⟩
      have hm1 : 1 ≤ m := by omega
      have hmk2 : k + m ≤ c := by omega
      obtain ⟨w3, hw3⟩ : ∃ w3, w3 = wr.drew := ⟨_, rfl⟩
      have hr3 : Rk 3 .i64 v w3 g c k := by rw [hw3]; exact HR.out
      obtain ⟨w4, hrun, hr4, hg4⟩ := run_copy_rk 24 3 3 .i64 v Try.underlying24 Try.sizeInt1 w3 g c k m (c - k) (c - k) k c ⟨g, 0, none⟩ hm hr3 (fun j hj => by rw [Addr.add_lit, Nat.zero_add]; exact hr3.cell (by omega)) hmk2
      have HR4 := Lib.hid hr4
      have hb3 : Below w1.heap.size w1 w3 := by rw [hw3]; exact HB.out.drew
      have HB4 := Lib.hid (hb3.grown hg4 hb3.size (fun j e => by cases e; rw [HG.out]; exact Nat.le_refl _))
      have HW3 := Lib.hid hw3
      have HM := Lib.hid hm
      clear hr3 hr4 hg4 hb3 hw3 hm
      go_wp2_with fail
      rw [HW3.out] at hrun
      go_region
      go_wp2
      go_roundw
      case rel => exact ⟨k + m, by omega, by omega, by go_num, HR4.out, HB4.out⟩
      case measure => simp [intOf]; omega
    · obtain rfl : k = c := by omega
      have i1 : ¬ (k : Int) < (k : Int) := by omega
      go_wp2
      go_ret
      exact ⟨g, by rw [HG.out]; exact Nat.le_refl _, rfl, HR.out, HB.out⟩
set_option maxHeartbeats 4000000 in
set_option maxRecDepth 100000 in
theorem repeatB_any (v : Int) (x c : Nat) (hc : c ≤ 1000000) (h1 : 1 ≤ c) (w : World) (hx : Rk 5 .u8 v w x 1 1) :
    Calls Try.prog 85 #[.slice (some ⟨x, 0, none⟩) 1 1, .int .i64 (c : Nat)] w (RkSays 5 .u8 v w c) := by
  have hmk := hmkB c (by omega)
  have HX := Lib.hid hx; clear hx
  have hb1 : Below w.heap.size w (w.alloc (.cells (madeCells #[.int .u8 0] c) 5)) := (Below.refl _ w).alloc (Nat.le_refl _) _
  obtain ⟨w2, hrun, hr2, hg2⟩ := run_copy_rk 139 3 5 .u8 v Try.underlying139 Try.sizeU8 (w.alloc (.cells (madeCells #[.int .u8 0] c) 5)) w.heap.size c 0 1 c c 1 1 ⟨x, 0, none⟩ (show 1 = min 1 c by omega) (rk_made w _ _ v c) (fun j hj => by
    obtain rfl : j = 0 := by omega
    rw [Addr.add_lit]; exact (HX.out.same hb1).cell (by omega)) (by omega)
  have HR2 := Lib.hid hr2; have HB2 := Lib.hid (hb1.grown hg2 hb1.size (fun g e => by cases e; exact Nat.le_refl _))
  clear hb1 hr2 hg2
  have i1 : ¬ (c : Int) < 0 := by omega
  have i3 : ¬ (9223372036854775807 : Int) < (c : Int) := by omega
  go_enter Try.func85, Try.ntmps85
  go_wp2_with fail
  refine (mul_one2 c hc _).mono ?_
  rintro e w1 ⟨rfl, rfl⟩
  go_wp2_with fail
  clear hrun hmk
  obtain ⟨g, hg⟩ : ∃ g, g = w1.heap.size := ⟨_, rfl⟩
  rw [← hg] at HR2 ⊢
  have HG := Lib.hid hg
  clear hg i1 i3
  go_loopw [8] (fun n wr => ∃ k : Nat, 1 ≤ k ∧ k ≤ c ∧ n = .int .i64 (k : Nat) ∧ Rk 5 .u8 v wr g c k ∧ Below w1.heap.size w1 wr) (fun n _ => c - (intOf n).toNat)
  case atStart => exact ⟨1, by omega, by omega, rfl, HR2.out, HB2.out⟩
  case round =>
    obtain ⟨k, hk1, hk, rfl, hr, hB⟩ := hrel
    have HR := Lib.hid hr; have HB := Lib.hid hB
    clear hr hB
    by_cases hkc : k < c
    · have i1 : (k : Int) < (c : Int) := by omega
      have i2 : ¬ c = k := by omega
      have i3 : (k : Int) ≤ (c : Int) := by omega
      obtain ⟨m, hm⟩ : ∃ m, m = min k (c - k) := ⟨_, rfl⟩
      have hm1 : 1 ≤ m := by omega
      have hmk2 : k + m ≤ c := by omega
      obtain ⟨w3, hw3⟩ : ∃ w3, w3 = wr.drew := ⟨_, rfl⟩
      have hr3 : Rk 5 .u8 v w3 g c k := by rw [hw3]; exact HR.out
      obtain ⟨w4, hrun, hr4, hg4⟩ := run_copy_rk 139 3 5 .u8 v Try.underlying139 Try.sizeU8 w3 g c k m (c - k) (c - k) k c ⟨g, 0, none⟩ hm hr3 (fun j hj => by rw [Addr.add_lit, Nat.zero_add]; exact hr3.cell (by omega)) hmk2
      have HR4 := Lib.hid hr4
      have hb3 : Below w1.heap.size w1 w3 := by rw [hw3]; exact HB.out.drew
      have HB4 := Lib.hid (hb3.grown hg4 hb3.size (fun j e => by cases e; rw [HG.out]; exact Nat.le_refl _))
      have HW3 := Lib.hid hw3
      have HM := Lib.hid hm
      clear hr3 hr4 hg4 hb3 hw3 hm
      go_wp2_with fail
      rw [HW3.out] at hrun
      go_region
      go_wp2
      go_roundw
      case rel => exact ⟨k + m, by omega, by omega, by go_num, HR4.out, HB4.out⟩
      case measure => simp [intOf]; omega
    · obtain rfl : k = c := by omega
      have i1 : ¬ (k : Int) < (k : Int) := by omega
      go_wp2
      go_ret
      exact ⟨g, by rw [HG.out]; exact Nat.le_refl _, rfl, HR.out, HB.out⟩
end Go.Proofs.Ythkcacnlinajgaa.Pn

namespace Go.Proofs.Ythkcacnlinajgaa.Pn
open Go.RowKit Go.Shelf
attribute [local go_sem] Oper.semAt_some

/-- a table that is made: k rows of one number. -/
structure Tp (tl ty : TypeId) (kd : IntKind) (v : Int) (w : World) (G n c k : Nat) (b : Nat → Nat) : Prop where
  ls : ∃ vs : Array Value, w.heap[G]? = some (.cells vs tl (0, 0)) ∧ vs.size = n ∧ ∀ i, i < k → vs[i]? = some (.slice (some ⟨b i, 0, none⟩) c c)
  rw : ∀ i, i < k → G < b i ∧ Nr ty kd w (b i) c (fun _ => v)
  inj : ∀ i j, i < k → j < k → b i = b j → i = j
section
variable {tl ty : TypeId} {kd : IntKind} {v : Int} {w w' : World} {G n c k : Nat} {b : Nat → Nat}
theorem Tp.lt (s : Tp tl ty kd v w G n c k b) : G < w.heap.size := by
  obtain ⟨vs, h1, _⟩ := s.ls
  exact (Array.getElem?_eq_some_iff.1 h1).1
theorem Tp.same (s : Tp tl ty kd v w G n c k b) (hB : Below w.heap.size w w') : Tp tl ty kd v w' G n c k b :=
  ⟨by obtain ⟨vs, h1, h2⟩ := s.ls; exact ⟨vs, (hB.block G s.lt).trans h1, h2⟩, fun i hi => ⟨(s.rw i hi).1, (s.rw i hi).2.same hB⟩, s.inj⟩
theorem Tp.any (s : Tp tl ty kd v w G n c k b) {j : Nat} (hj : j < n) : ∃ x, w.cell? ⟨G, j, none⟩ = some x := by
  obtain ⟨vs, h1, h2, _⟩ := s.ls
  refine ⟨vs[j]'(by omega), ?_⟩
  rw [cell_of_row w G j vs _ _ h1]
  simp [show j < vs.size by omega]
theorem Tp.free (s : Tp tl ty kd v w G n c k b) (j : Nat) : w.frozen? ⟨G, j, none⟩ = false := by
  obtain ⟨vs, h1, _⟩ := s.ls
  exact frozen_of_row w G j vs _ h1
theorem Tp.new (w : World) (tl ty : TypeId) (kd : IntKind) (v : Int) (n c : Nat) (b : Nat → Nat) : Tp tl ty kd v (w.alloc (.cells (madeCells #[.slice none 0 0] n) tl)) w.heap.size n c 0 b :=
  ⟨⟨_, heap_alloc_new w _, by rw [size_madeCells], fun i hi => absurd hi (Nat.not_lt_zero i)⟩, fun i hi => absurd hi (Nat.not_lt_zero i), fun i j hi => absurd hi (Nat.not_lt_zero i)⟩
theorem Tp.put (s : Tp tl ty kd v w G n c k b) (hk : k < n) {g : Nat} (hg : G < g) (hn : ∀ i, i < k → b i ≠ g) (hr : Nr ty kd w g c (fun _ => v)) : Tp tl ty kd v (w.setCell ⟨G, k, none⟩ (.slice (some ⟨g, 0, none⟩) c c)) G n c (k + 1) (fun i => if i = k then g else b i) := by
  have ho : ∀ j, j ≠ G → (w.setCell ⟨G, k, none⟩ (.slice (some ⟨g, 0, none⟩) c c)).heap[j]? = w.heap[j]? := fun j hj => Below.heap_setCell w ⟨G, k, none⟩ _ j hj
  refine ⟨?_, fun i hi => ?_, fun i j hi hj => ?_⟩
  · obtain ⟨vs, h1, h2, h3⟩ := s.ls
    refine ⟨_, heap_setCell_same w G k vs _ _ h1, by simpa using h2, fun i hi => ?_⟩
    show _ = some (Value.slice (some ⟨if i = k then g else b i, 0, none⟩) c c)
    by_cases e : i = k
    · subst e
      rw [if_pos rfl, Array.getElem?_setIfInBounds_self_of_lt (by omega)]
    · rw [if_neg e, Array.getElem?_setIfInBounds_ne (fun q => e q.symm)]
      exact h3 i (by omega)
  · show G < (if i = k then g else b i) ∧ Nr ty kd _ (if i = k then g else b i) c _
    by_cases e : i = k
    · rw [if_pos e]; exact ⟨hg, hr.kept (ho g (by omega))⟩
    · rw [if_neg e]
      obtain ⟨h1, h2⟩ := s.rw i (by omega)
      exact ⟨h1, h2.kept (ho _ (by omega))⟩
  · show (if i = k then g else b i) = (if j = k then g else b j) → i = j
    by_cases e : i = k <;> by_cases e2 : j = k
    · intro _; omega
    · rw [if_pos e, if_neg e2]; intro q; exact absurd q.symm (hn j (by omega))
    · rw [if_neg e, if_pos e2]; intro q; exact absurd q (hn i (by omega))
    · rw [if_neg e, if_neg e2]; exact s.inj i j (by omega) (by omega)
theorem Tp.tab (s : Tp tl ty kd v w G n c n b) : Tab tl ty kd w G n c b (fun _ _ => v) := ⟨s.ls, fun i hi => (s.rw i hi).2, s.inj⟩
end
theorem rk_one (W : World) (ty : TypeId) (kd : IntKind) (v : Int) : Rk ty kd v (W.alloc (.cells #[.int kd v] ty)) W.heap.size 1 1 := by
  refine ⟨_, heap_alloc_new W _, rfl, fun i hi => ?_⟩
  cases i with
  | zero => rfl
  | succ i => omega
/-- what a filled table is told as. -/
def FilSays (tl ty : TypeId) (kd : IntKind) (v : Int) (w : World) (n c : Nat) (e : Ending) (w' : World) : Prop := ∃ G b, e = .returned (.slice (some ⟨G, 0, none⟩) n n) ∧ w.heap.size ≤ G ∧ (∀ i, i < n → w.heap.size ≤ b i) ∧ Tab tl ty kd w' G n c b (fun _ _ => v) ∧ Below w.heap.size w w'
theorem Try.infoRowI : (Try.prog.info? 24).map (fun i => (i.zero, i.size, i.bytes)) = some (some (.slice none 0 0), 1, 24) := by kernel_rfl
theorem hmkTbI (N : Nat) (hN : N ≤ 1000000000) : ∀ W : World, (Instr.makeSlice 102 (.int .i64 (N : Nat)) (.int .i64 (N : Nat))).run Try.prog W = .ok (.slice (some ⟨W.heap.size, 0, none⟩) N N) (W.alloc (.cells (madeCells #[.slice none 0 0] N) 24)) := fun W => by
  obtain ⟨i0, hi, hz0, hz1, hz2⟩ := info_parts Try.infoRowI
  have := run_make (P := Try.prog) W 102 24 i0 (.slice none 0 0) Try.underlying102 hi hz0 .i64 .i64 (N : Int) (N : Int) (by omega) (Int.le_refl _) (by rw [hz2]; omega) (by omega)
  have e : (Value.slice none 0 0).cells = #[.slice none 0 0] := rfl
  rw [hz1, e, Int.toNat_natCast, Nat.mul_one] at this; exact this
set_option maxHeartbeats 4000000 in
set_option maxRecDepth 100000 in
theorem filledI_any (v : Int) (n R : Nat) (hn : n ≤ 1000) (hR : R ≤ 100000) (w : World) :
    Calls Try.prog 51 #[.int .i64 (n : Nat), .int .i64 (R : Nat), .int .i64 v] w (FilSays 24 3 .i64 v w (n + 2) (R + 1)) := by
  obtain ⟨T, hT⟩ : ∃ T, T = n + 2 := ⟨_, rfl⟩
  obtain ⟨Q, hQ⟩ : ∃ Q, Q = R + 1 := ⟨_, rfl⟩
  have hnT : (n : Int) + 2 = (T : Int) := by omega
  have hRQ : (R : Int) + 1 = (Q : Int) := by omega
  have hT2 : T ≤ 1002 := by omega
  have hQ2 : Q ≤ 100001 := by omega
  have HQ1 := Lib.hid (show 1 ≤ Q by omega)
  rw [← hT, ← hQ]
  have hmk := hmkTbI T (by omega)
  have HTP := Lib.hid (Tp.new w 24 3 .i64 v T Q (fun _ => 0))
  have HB0 := Lib.hid ((Below.refl w.heap.size w).alloc (Nat.le_refl _) (.cells (madeCells #[.slice none 0 0] T) 24))
  clear hT hQ
  go_enter Try.func51, Try.ntmps51
  go_wp2_with fail
  obtain ⟨G, hG⟩ : ∃ G, G = w.heap.size := ⟨_, rfl⟩
  rw [← hG] at HTP ⊢
  have HG := Lib.hid hG
  clear hG hmk
  generalize w.alloc (.cells (madeCells #[.slice none 0 0] T) 24) = w0 at *
  go_loopw [14] (fun i wr => ∃ (k : Nat) (b : Nat → Nat), k ≤ T ∧ i = .int .i64 (k : Nat) ∧ Tp 24 3 .i64 v wr G T Q k b ∧ Below w.heap.size w wr) (fun i _ => T - (intOf i).toNat)
  case atStart => exact ⟨0, fun _ => 0, by omega, rfl, HTP.out, HB0.out⟩
  case round =>
    obtain ⟨k, b, hk, rfl, hp, hB⟩ := hrel
    have HP := Lib.hid hp; have HB := Lib.hid hB
    clear hp hB
    by_cases hkT : k < T
    · have i1 : (k : Int) < (T : Int) := by omega
      have hal : Below wr.heap.size wr (wr.alloc (.cells #[.int .i64 v] 3)) := (Below.refl _ wr).alloc (Nat.le_refl _) _
      have HX := Lib.hid (show Rk 3 .i64 v (wr.alloc (.cells #[.int .i64 v] 3)) wr.heap.size 1 1 from rk_one wr _ _ v)
      have HPa := Lib.hid (HP.out.same hal)
      have HBa := Lib.hid (HB.out.trans (hal.mono HB.out.size))
      have HZ := Lib.hid (show wr.heap.size ≤ (wr.alloc (.cells #[.int .i64 v] 3)).heap.size from hal.size)
      have HLT := Lib.hid HP.out.lt
      clear hal HP HB
      go_wp2_with fail
      generalize hwa : wr.alloc (.cells #[.int .i64 v] 3) = wa at *
      clear hwa
      refine (repeatI_any v _ Q (by omega) HQ1.out _ HX.out).mono ?_
      rintro e w2 ⟨g, hg, rfl, hrk, hB2⟩
      have hP2 := HPa.out.same hB2
      obtain ⟨x, hx⟩ := hP2.any hkT
      have hfr := hP2.free k
      have hput := hP2.put hkT (g := g) (by have := HPa.out.lt; omega) (fun i hi q => by have := ((HPa.out.rw i hi).2).lt; omega) hrk.nr
      have HPUT := Lib.hid hput
      have HBf := Lib.hid ((HBa.out.trans (hB2.mono HBa.out.size)).setCell (p := ⟨G, k, none⟩) (by show _ ≤ G; rw [HG.out]; exact Nat.le_refl _) (.slice (some ⟨g, 0, none⟩) Q Q))
      clear hP2 hput hrk hB2
      go_wp2
      go_roundw
      case rel => exact ⟨k + 1, _, by omega, by go_num, HPUT.out, HBf.out⟩
      case measure => simp [intOf]; omega
    · obtain rfl : k = T := by omega
      have i1 : ¬ (k : Int) < (k : Int) := by omega
      go_wp2
      go_ret
      exact ⟨G, b, rfl, by rw [HG.out]; exact Nat.le_refl _, fun i hi => by have := (HP.out.rw i hi).1; have := HG.out; omega, HP.out.tab, HB.out⟩
theorem Try.infoRowB : (Try.prog.info? 139).map (fun i => (i.zero, i.size, i.bytes)) = some (some (.slice none 0 0), 1, 24) := by kernel_rfl
theorem hmkTbB (N : Nat) (hN : N ≤ 1000000000) : ∀ W : World, (Instr.makeSlice 110 (.int .i64 (N : Nat)) (.int .i64 (N : Nat))).run Try.prog W = .ok (.slice (some ⟨W.heap.size, 0, none⟩) N N) (W.alloc (.cells (madeCells #[.slice none 0 0] N) 139)) := fun W => by
  obtain ⟨i0, hi, hz0, hz1, hz2⟩ := info_parts Try.infoRowB
  have := run_make (P := Try.prog) W 110 139 i0 (.slice none 0 0) Try.underlying110 hi hz0 .i64 .i64 (N : Int) (N : Int) (by omega) (Int.le_refl _) (by rw [hz2]; omega) (by omega)
  have e : (Value.slice none 0 0).cells = #[.slice none 0 0] := rfl
  rw [hz1, e, Int.toNat_natCast, Nat.mul_one] at this; exact this
set_option maxHeartbeats 4000000 in
set_option maxRecDepth 100000 in
theorem filledB_any (v : Int) (n R : Nat) (hn : n ≤ 1000) (hR : R ≤ 100000) (w : World) :
    Calls Try.prog 53 #[.int .i64 (n : Nat), .int .i64 (R : Nat), .int .u8 v] w (FilSays 139 5 .u8 v w (n + 2) (R + 1)) := by
  obtain ⟨T, hT⟩ : ∃ T, T = n + 2 := ⟨_, rfl⟩
  obtain ⟨Q, hQ⟩ : ∃ Q, Q = R + 1 := ⟨_, rfl⟩
  have hnT : (n : Int) + 2 = (T : Int) := by omega
  have hRQ : (R : Int) + 1 = (Q : Int) := by omega
  have hT2 : T ≤ 1002 := by omega
  have hQ2 : Q ≤ 100001 := by omega
  have HQ1 := Lib.hid (show 1 ≤ Q by omega)
  rw [← hT, ← hQ]
  have hmk := hmkTbB T (by omega)
  have HTP := Lib.hid (Tp.new w 139 5 .u8 v T Q (fun _ => 0))
  have HB0 := Lib.hid ((Below.refl w.heap.size w).alloc (Nat.le_refl _) (.cells (madeCells #[.slice none 0 0] T) 139))
  clear hT hQ
  go_enter Try.func53, Try.ntmps53
  go_wp2_with fail
  obtain ⟨G, hG⟩ : ∃ G, G = w.heap.size := ⟨_, rfl⟩
  rw [← hG] at HTP ⊢
  have HG := Lib.hid hG
  clear hG hmk
  generalize w.alloc (.cells (madeCells #[.slice none 0 0] T) 139) = w0 at *
  go_loopw [14] (fun i wr => ∃ (k : Nat) (b : Nat → Nat), k ≤ T ∧ i = .int .i64 (k : Nat) ∧ Tp 139 5 .u8 v wr G T Q k b ∧ Below w.heap.size w wr) (fun i _ => T - (intOf i).toNat)
  case atStart => exact ⟨0, fun _ => 0, by omega, rfl, HTP.out, HB0.out⟩
  case round =>
    obtain ⟨k, b, hk, rfl, hp, hB⟩ := hrel
    have HP := Lib.hid hp; have HB := Lib.hid hB
    clear hp hB
    by_cases hkT : k < T
    · have i1 : (k : Int) < (T : Int) := by omega
      have hal : Below wr.heap.size wr (wr.alloc (.cells #[.int .u8 v] 5)) := (Below.refl _ wr).alloc (Nat.le_refl _) _
      have HX := Lib.hid (show Rk 5 .u8 v (wr.alloc (.cells #[.int .u8 v] 5)) wr.heap.size 1 1 from rk_one wr _ _ v)
      have HPa := Lib.hid (HP.out.same hal)
      have HBa := Lib.hid (HB.out.trans (hal.mono HB.out.size))
      have HZ := Lib.hid (show wr.heap.size ≤ (wr.alloc (.cells #[.int .u8 v] 5)).heap.size from hal.size)
      have HLT := Lib.hid HP.out.lt
      clear hal HP HB
      go_wp2_with fail
      generalize hwa : wr.alloc (.cells #[.int .u8 v] 5) = wa at *
      clear hwa
      refine (repeatB_any v _ Q (by omega) HQ1.out _ HX.out).mono ?_
      rintro e w2 ⟨g, hg, rfl, hrk, hB2⟩
      have hP2 := HPa.out.same hB2
      obtain ⟨x, hx⟩ := hP2.any hkT
      have hfr := hP2.free k
      have hput := hP2.put hkT (g := g) (by have := HPa.out.lt; omega) (fun i hi q => by have := ((HPa.out.rw i hi).2).lt; omega) hrk.nr
      have HPUT := Lib.hid hput
      have HBf := Lib.hid ((HBa.out.trans (hB2.mono HBa.out.size)).setCell (p := ⟨G, k, none⟩) (by show _ ≤ G; rw [HG.out]; exact Nat.le_refl _) (.slice (some ⟨g, 0, none⟩) Q Q))
      clear hP2 hput hrk hB2
      go_wp2
      go_roundw
      case rel => exact ⟨k + 1, _, by omega, by go_num, HPUT.out, HBf.out⟩
      case measure => simp [intOf]; omega
    · obtain rfl : k = T := by omega
      have i1 : ¬ (k : Int) < (k : Int) := by omega
      go_wp2
      go_ret
      exact ⟨G, b, rfl, by rw [HG.out]; exact Nat.le_refl _, fun i hi => by have := (HP.out.rw i hi).1; have := HG.out; omega, HP.out.tab, HB.out⟩
end Go.Proofs.Ythkcacnlinajgaa.Pn

namespace Go.Proofs.Ythkcacnlinajgaa.Pn
open Go.RowKit Go.Shelf
attribute [local go_sem] Oper.semAt_some

set_option maxHeartbeats 2000000 in
set_option maxRecDepth 100000 in
theorem inheritI_any (G n c k : Nat) (b : Nat → Nat) (F : Nat → Nat → Int) (hk : k + 1 < n) (hn : n ≤ 100000) (w : World) (hs : Tab 24 3 .i64 w G n c b F) :
    Calls Try.prog 86 #[.slice (some ⟨G, 0, none⟩) n n, .int .i64 (k : Nat)] w fun e w' => e = .returned (.tuple #[]) ∧ Nr 3 .i64 w' (b k) c (F (k + 1)) ∧ w.grownBy w' (some (b k)) := by
  have c1 := hs.cell (i := k) (by omega)
  have c2 := hs.cell (i := k + 1) hk
  have r1 := hs.rw k (by omega)
  have r2 := hs.rw (k + 1) hk
  have i1 : (k : Int) < (n : Int) := by omega
  have i2 : ((k + 1 : Nat) : Int) < (n : Int) := by omega
  have i3 : (k : Int) + 1 = ((k + 1 : Nat) : Int) := by omega
  obtain ⟨w2, hrun, hr2, hg2⟩ := run_copy_nr 24 3 3 .i64 Try.underlying24 Try.sizeInt1 w.drew (b k) (b (k + 1)) c _ _ (r1.same (Below.refl _ w).drew) (r2.same (Below.refl _ w).drew)
  have HR := Lib.hid hr2
  have HG := Lib.hid (show w.grownBy w2 (some (b k)) from ⟨hg2.os, hg2.tape, hg2.output, hg2.size, hg2.block⟩)
  clear hr2 hg2 r1 r2 hs
  generalize b (k + 1) = b2 at *
  generalize hkk : k + 1 = k2 at *
  go_enter Try.func86, Try.ntmps86
  go_region
  go_wp2
  go_end0
  exact ⟨rfl, HR.out, HG.out⟩

set_option maxHeartbeats 2000000 in
set_option maxRecDepth 100000 in
theorem inheritB_any (G n c k : Nat) (b : Nat → Nat) (F : Nat → Nat → Int) (hk : k + 1 < n) (hn : n ≤ 100000) (w : World) (hs : Tab 139 5 .u8 w G n c b F) :
    Calls Try.prog 87 #[.slice (some ⟨G, 0, none⟩) n n, .int .i64 (k : Nat)] w fun e w' => e = .returned (.tuple #[]) ∧ Nr 5 .u8 w' (b k) c (F (k + 1)) ∧ w.grownBy w' (some (b k)) := by
  have c1 := hs.cell (i := k) (by omega)
  have c2 := hs.cell (i := k + 1) hk
  have r1 := hs.rw k (by omega)
  have r2 := hs.rw (k + 1) hk
  have i1 : (k : Int) < (n : Int) := by omega
  have i2 : ((k + 1 : Nat) : Int) < (n : Int) := by omega
  have i3 : (k : Int) + 1 = ((k + 1 : Nat) : Int) := by omega
  obtain ⟨w2, hrun, hr2, hg2⟩ := run_copy_nr 139 3 5 .u8 Try.underlying139 Try.sizeU8 w.drew (b k) (b (k + 1)) c _ _ (r1.same (Below.refl _ w).drew) (r2.same (Below.refl _ w).drew)
  have HR := Lib.hid hr2
  have HG := Lib.hid (show w.grownBy w2 (some (b k)) from ⟨hg2.os, hg2.tape, hg2.output, hg2.size, hg2.block⟩)
  clear hr2 hg2 r1 r2 hs
  generalize b (k + 1) = b2 at *
  generalize hkk : k + 1 = k2 at *
  go_enter Try.func87, Try.ntmps87
  go_region
  go_wp2
  go_end0
  exact ⟨rfl, HR.out, HG.out⟩
end Go.Proofs.Ythkcacnlinajgaa.Pn
