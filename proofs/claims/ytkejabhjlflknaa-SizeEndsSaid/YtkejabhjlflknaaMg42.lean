import Derived.Deep.WholeRow
import Derived.Laws.Tables
import Derived.RangeFuncNested
import Derived.RegionTactic
import Derived.BigRegion
import Derived.Lib.QuietBelow
import Derived.Deep.RegionHeld3
import Derived.Deep.RegionWith
import Derived.Deep.RegionLaw
import Derived.BigQuiet
import Derived.Test.YtkejabhjlflknaaMg39
import Derived.Test.YtkejabhjlflknaaMg41
namespace Go.Proofs.Ytkejabhjlflknaa.Ly
open Go.RowKit Go.Shelf
open Go.Proofs.Ytkejabhjlflknaa.Sp (wid Bad wid_le wid_hi wid_lo width_ok width_bad grown_dr grown_t)

/-- rows of a table, as they read. -/
structure Tb (w : World) (a : Option Addr) (n : Nat) (K L : Nat → Int) : Prop where
  cell : ∀ i, i < n → ∃ b o, a = some ⟨b, o, none⟩ ∧ w.cell? ⟨b, o + i * 2, none⟩ = some (.int .i64 (K i)) ∧ w.cell? ⟨b, o + i * 2 + 1, none⟩ = some (.int .i64 (L i))
section
variable {w w' : World} {a : Option Addr} {n : Nat} {K L : Nat → Int}
theorem Tb.same (s : Tb w a n K L) (hB : Below w.heap.size w w') : Tb w' a n K L := ⟨fun i hi => by
  obtain ⟨b, o, e, h1, h2⟩ := s.cell i hi
  exact ⟨b, o, e, by rw [hB.cell (World.block_lt_of_cell? _ _ h1)]; exact h1, by rw [hB.cell (World.block_lt_of_cell? _ _ h2)]; exact h2⟩⟩
theorem Tb.less (s : Tb w a n K L) {k : Nat} (hk : k ≤ n) : Tb w a k K L := ⟨fun i hi => s.cell i (by omega)⟩
theorem Tb.own {row : Option Nat} (s : Tb w a n K L) (hg : w.grownBy w' row) (hr : ∀ k, row = some k → ∃ o : Obj, w.heap[k]? = some o ∧ o.isCells = false) : Tb w' a n K L := ⟨fun i hi => by
  obtain ⟨b, o, e, h1, h2⟩ := s.cell i hi
  exact ⟨b, o, e, cell_kept h1 hg hr, cell_kept h2 hg hr⟩⟩
end
theorem si_own {w w' : World} {a : Option Addr} {n : Nat} {K : Nat → Int} {row : Option Nat} (s : Si w a n K) (hg : w.grownBy w' row) (hr : ∀ k, row = some k → ∃ o : Obj, w.heap[k]? = some o ∧ o.isCells = false) : Si w' a n K := ⟨fun i hi => by
  obtain ⟨b, o, e, h1⟩ := s.cell i hi
  exact ⟨b, o, e, cell_kept h1 hg hr⟩⟩

/-- a row's width, where it has one. -/
def widI (L K : Int) : Nat := if Bad L K then 0 else wid L.toNat K.toNat
def widE (L K : Int) : Int := if Bad L K then 2 else 0
theorem widI_le (L K : Int) : widI L K ≤ 65535 := by
  unfold widI
  split
  · omega
  · rename_i h
    unfold Bad at h
    have := wid_le (L := L.toNat) (k := K.toNat) (by omega)
    omega
theorem widI_ok {L K : Int} (h : ¬ Bad L K) : widI L K = wid L.toNat K.toNat := if_neg h
theorem width_any (x k : Int) (w : World) :
    Calls Try.prog 39 #[.int .i64 x, .int .i64 k] w fun e w' => e = .returned (.tuple #[.int .i64 (widI x k : Nat), .int .i64 (widE x k)]) ∧ w' = w := by
  by_cases h : Bad x k
  · have e1 : widI x k = 0 := if_pos h
    have e2 : widE x k = 2 := if_pos h
    rw [e1, e2]
    exact width_bad x k h w
  · have h' := h
    unfold Bad at h'
    obtain ⟨X, rfl⟩ : ∃ X : Nat, x = X := ⟨x.toNat, by omega⟩
    obtain ⟨Y, rfl⟩ : ∃ Y : Nat, k = Y := ⟨k.toNat, by omega⟩
    have e1 : widI X Y = wid X Y := by rw [widI_ok h]; simp
    have e2 : widE X Y = 0 := if_neg h
    rw [e1, e2]
    exact width_ok X Y (by omega) (by omega) (by omega) w
/-- where a row's stripe begins. -/
def off (K L : Nat → Int) : Nat → Nat
  | 0 => 0
  | i + 1 => off K L i + widI (L i) (K i)
theorem off_le (K L : Nat → Int) : ∀ n, off K L n ≤ n * 65535
  | 0 => Nat.le_refl _
  | n + 1 => by
    have h1 := off_le K L n
    have h2 := widI_le (L n) (K n)
    unfold off
    omega
theorem off_mono (K L : Nat → Int) {i j : Nat} (h : i ≤ j) : off K L i ≤ off K L j := by
  induction j with
  | zero => obtain rfl : i = 0 := by omega
            exact Nat.le_refl _
  | succ j ih =>
    by_cases e : i = j + 1
    · subst e; exact Nat.le_refl _
    · have := ih (by omega)
      show off K L i ≤ off K L j + widI (L j) (K j)
      omega
theorem cell_al {w : World} {p : Addr} {v : Value} (h : w.cell? p = some v) (o : Obj) : (w.alloc o).cell? p = some v := by
  rw [((Below.refl _ w).alloc (Nat.le_refl _) o).cell (World.block_lt_of_cell? _ _ h)]; exact h
/-- what a row is. -/
def rowV (K L : Int) : Value := .agg #[.int .i64 K, .int .i64 L]
/-- what a part is. -/
def partV (K L : Int) (f t : Nat) : Value := .agg #[.int .i64 K, .int .i64 L, .int .i64 (f : Nat), .int .i64 (t : Nat)]

/-- worlds that are alike where it matters. -/
def Agr (Dom : Nat → Prop) (w0 W : World) : Prop := ∀ k, Dom k → W.heap[k]? = w0.heap[k]?
/-- what asks for rows: a closure that answers of each place. -/
structure AskL (Dom : Nat → Prop) (w0 : World) (cf n : Nat) (caps : Array Value) (K L : Nat → Int) : Prop where
  ent : ∀ (args : Array Value) (W : World), (callFunc cf args).run Try.prog W = .ok (.enter cf args) W
  lt : ∀ k, Dom k → k < w0.heap.size
  call : ∀ W, Agr Dom w0 W → ∀ j : Nat, j < n → Calls Try.prog cf (#[.int .i64 (j : Nat)] ++ caps) W fun e W' => e = .returned (rowV (K j) (L j)) ∧ Below W.heap.size W W'
theorem below_grown {w w' : World} (h : Below w.heap.size w w') (row : Option Nat) : w.grownBy w' row := ⟨h.os, h.tape, h.output, h.size, fun k hk _ => h.block k hk⟩
section
variable {Dom : Nat → Prop} {w0 W W' : World} {cf n : Nat} {caps : Array Value} {K L : Nat → Int}
theorem AskL.agr (h : AskL Dom w0 cf n caps K L) (hB : Below w0.heap.size w0 W) : Agr Dom w0 W := fun k hk => hB.block k (h.lt k hk)
theorem Agr.trans {A B C : World} (h : Agr Dom A B) (k : Agr Dom B C) : Agr Dom A C := fun i hi => (k i hi).trans (h i hi)
theorem AskL.at_ (h : AskL Dom w0 cf n caps K L) (hP : Agr Dom w0 W) (hz : w0.heap.size ≤ W.heap.size) : AskL Dom W cf n caps K L :=
  ⟨h.ent, fun k hk => Nat.lt_of_lt_of_le (h.lt k hk) hz, fun X hX j hj => h.call X (hP.trans hX) j hj⟩
theorem AskL.same (h : AskL Dom w0 cf n caps K L) (hB : Below w0.heap.size w0 W) : AskL Dom W cf n caps K L := h.at_ (h.agr hB) hB.size
theorem AskL.less (h : AskL Dom w0 cf n caps K L) {m : Nat} (hm : m ≤ n) : AskL Dom w0 cf m caps K L := ⟨h.ent, h.lt, fun W hW j hj => h.call W hW j (by omega)⟩
end

/-- a whole row into a block that was just made. -/
theorem wpList_store_new {P : Program} {ops : Array Oper} {rest : List Oper} {o : Oper} {a : Act} {w : World} {Q : Exit → Act → World → Prop} (hgd : o.guard = none) (ty : TypeId) (x y : Operand) (ho : o.op = .store ty x y)
    (g : Nat) (hg : g = w.heap.size) (cells old : Array Value) (t : TypeId) (hx : a.eval x = .pointer (some ⟨g, 0, none⟩)) (hy : a.eval y = .agg cells) (hi : (P.info? ty).map (·.size) = some cells.size)
    (hold : old.size = cells.size) (h1 : cells.all (·.oneCell') = true)
    (h : wpList P ops Q rest (a.put o.dst undef) (w.alloc (.cells cells t))) : wpList P ops Q (o :: rest) a (w.alloc (.cells old t)) := by
  subst hg
  refine wpList_store_row hgd ty x y ho w.heap.size cells hx hy t old (heap_alloc_new w _) hi hold h1 ?_
  rw [World.setRow_alloc_new]
  exact h

set_option maxHeartbeats 1000000 in
theorem of1_l (a : Option Addr) (n cap lb k : Nat) (K L : Nat → Int) (hk : k < n) (w : World) (hb : w.cell? ⟨lb, 0, none⟩ = some (.slice a n cap)) (hR : Tb w a n K L) :
    Calls Try.prog 44 #[.int .i64 (k : Nat), .pointer (some ⟨lb, 0, none⟩)] w fun e w' => e = .returned (rowV (K k) (L k)) ∧ Below w.heap.size w w' := by
  obtain ⟨b, o, ea, hc1, hc2⟩ := hR.cell k hk
  have i1 : (k : Int) < (n : Int) := by omega
  subst ea
  clear hR
  have d0 := cell_al hb (.cells #[.int .i64 0, .int .i64 0] 44)
  have d1 := cell_al hc1 (.cells #[.int .i64 0, .int .i64 0] 44)
  have d2 := cell_al hc2 (.cells #[.int .i64 0, .int .i64 0] 44)
  go_enter Try.func44, Try.ntmps44
  go_wp2_with fail
  exact bodyPost_ret (results_cell_row rfl _ _ w.heap.size _ _ (0, 0) _ rfl (heap_alloc_new w _) Try.underlying44 rfl (by kernel_rfl)) rfl ⟨rfl, (Below.refl _ w).alloc (Nat.le_refl _) _⟩
/-- a sheet. -/
def shV (n cf : Nat) (caps : Array Value) : Array Value := #[.int .i64 (n : Nat), .func (.func cf) #[] caps]
set_option maxHeartbeats 400000 in
theorem of_l (a : Option Addr) (n cap : Nat) (w : World) :
    Calls Try.prog 35 #[.slice a n cap] w fun e w' => e = .returned (.agg #[.int .i64 (n : Nat), .func (.func 44) #[] #[.pointer (some ⟨w.heap.size, 0, none⟩)]]) ∧ Below w.heap.size w w' ∧ Boxed w' w.heap.size 24 (.slice a n cap) := by
  have hmf : ∀ (fn : Fn) (first cap : Array Value) (w : World), (Instr.makeFunc fn first cap).run Try.prog w = .ok (.func fn first cap) w := fun _ _ _ _ => rfl
  have hB : Below w.heap.size w ((w.alloc (.cells #[.slice a n cap] 24)).alloc (.cells #[.int .i64 (n : Nat), .func (.func 44) #[] #[.pointer (some ⟨w.heap.size, 0, none⟩)]] 60)) := ((Below.refl _ w).alloc (Nat.le_refl _) _).alloc (by simp) _
  have hb := (Boxed.new w 24 (.slice a n cap)).alloc (.cells #[.int .i64 (n : Nat), .func (.func 44) #[] #[.pointer (some ⟨w.heap.size, 0, none⟩)]] 60)
  have HB := Lib.hid hB; have Hb := Lib.hid hb; clear hB hb
  go_enter Try.func35, Try.ntmps35
  go_wp2_with ((show wpList _ _ _ (⟨none, .store 60 _ _, _, _, _, _⟩ :: _) _ _); refine wpList_store_new rfl 60 _ _ rfl (w.heap.size + 1) (by simp) #[.int .i64 (n : Nat), .func (.func 44) #[] #[.pointer (some ⟨w.heap.size, 0, none⟩)]] _ _ rfl rfl (by kernel_rfl) rfl (by simp [Value.oneCell']) ?_)
  exact bodyPost_ret (results_cell_row rfl _ _ (w.heap.size + 1) _ _ (0, 0) _ rfl (by have := heap_alloc_new (w.alloc (.cells #[.slice a n cap] 24)) (.cells #[.int .i64 (n : Nat), .func (.func 44) #[] #[.pointer (some ⟨w.heap.size, 0, none⟩)]] 60); rwa [World.size_alloc] at this) Try.underlying60 rfl (by kernel_rfl)) rfl ⟨rfl, HB.out, Hb.out⟩
set_option maxHeartbeats 400000 in
theorem parts_l (n cf : Nat) (caps : Array Value) (w : World) :
    Calls Try.prog 45 #[.agg #[.int .i64 (n : Nat), .func (.func cf) #[] caps]] w fun e w' => e = .returned (.func (.func 47) #[] #[.pointer (some ⟨w.heap.size, 0, none⟩)]) ∧ w' = w.alloc (.cells #[.int .i64 (n : Nat), .func (.func cf) #[] caps] 60) := by
  have hmf : ∀ (fn : Fn) (first cap : Array Value) (w : World), (Instr.makeFunc fn first cap).run Try.prog w = .ok (.func fn first cap) w := fun _ _ _ _ => rfl
  go_enter Try.func45, Try.ntmps45
  go_wp2_with fail
  go_ret
  exact ⟨rfl, rfl⟩
end Go.Proofs.Ytkejabhjlflknaa.Ly

namespace Go.Proofs.Ytkejabhjlflknaa.Ly
open Go.RowKit Go.Shelf
open Go.Proofs.Ytkejabhjlflknaa.Sp (wid Bad wid_le wid_hi wid_lo width_ok width_bad grown_dr grown_t Tk heap_kp)
attribute [local go_sem] Oper.semAt_some

/-- what parts' function reads: a sheet in its box. -/
structure Gl (bs cf n : Nat) (caps : Array Value) (Dom : Nat → Prop) (w0 W : World) : Prop where
  blk : W.heap[bs]? = some (.cells #[.int .i64 (n : Nat), .func (.func cf) #[] caps] 60 (0, 0))
  s : Agr Dom w0 W
  z : w0.heap.size ≤ W.heap.size
section
variable {bs cf n : Nat} {caps : Array Value} {Dom : Nat → Prop} {w0 W W' : World}
theorem Gl.lt (g : Gl bs cf n caps Dom w0 W) : bs < W.heap.size := (Array.getElem?_eq_some_iff.1 g.blk).1
theorem Gl.c0 (g : Gl bs cf n caps Dom w0 W) : W.cell? ⟨bs, 0, none⟩ = some (.int .i64 (n : Nat)) := by rw [cell_of_row W bs 0 _ _ _ g.blk]; rfl
theorem Gl.c1 (g : Gl bs cf n caps Dom w0 W) : W.cell? ⟨bs, 1, none⟩ = some (.func (.func cf) #[] caps) := by rw [cell_of_row W bs 1 _ _ _ g.blk]; rfl
theorem Gl.kept {K L : Nat → Int} (hA : AskL Dom w0 cf n caps K L) (g : Gl bs cf n caps Dom w0 W) (hz : W.heap.size ≤ W'.heap.size) (hb : W'.heap[bs]? = W.heap[bs]?) (hD : ∀ k, k < w0.heap.size → Dom k → W'.heap[k]? = W.heap[k]?) : Gl bs cf n caps Dom w0 W' :=
  ⟨hb.trans g.blk, g.s.trans fun k hk => hD k (hA.lt k hk) hk, Nat.le_trans g.z hz⟩
theorem Gl.same {K L : Nat → Int} (hA : AskL Dom w0 cf n caps K L) (g : Gl bs cf n caps Dom w0 W) (hB : Below W.heap.size W W') : Gl bs cf n caps Dom w0 W' :=
  g.kept hA hB.size (hB.block bs g.lt) fun k hk _ => hB.block k (Nat.lt_of_lt_of_le hk g.z)
end
def KpL (bs cf n : Nat) (caps : Array Value) (Dom : Nat → Prop) (w0 W W' : World) : Prop := Gl bs cf n caps Dom w0 W → Gl bs cf n caps Dom w0 W'
theorem kpL_t {bs cf n : Nat} {caps : Array Value} {Dom : Nat → Prop} {w0 A B C : World} (h : KpL bs cf n caps Dom w0 A B) (k : KpL bs cf n caps Dom w0 B C) : KpL bs cf n caps Dom w0 A C := fun g => k (h g)
theorem kpL_b {bs cf n : Nat} {caps : Array Value} {K L : Nat → Int} {Dom : Nat → Prop} {w0 : World} (hA : AskL Dom w0 cf n caps K L) {w : World} (hz : w0.heap.size ≤ w.heap.size) (W : World) (l : Nat) (o o' : Obj) (hl : w.heap.size ≤ l) (h : W.heap[l]? = some o) (hc : o.isCells = false) (_ : o.isWalk = false) : KpL bs cf n caps Dom w0 W (W.putObj l o') :=
  fun g => g.kept hA (grownBy_putObj' W l o').size ((heap_kp g.blk (grownBy_putObj' W l o') (fun r e => by cases e; exact ⟨o, h, hc⟩)).trans g.blk.symm) fun k hk _ => (grownBy_putObj' W l o').block k (Nat.lt_of_lt_of_le hk g.z) (fun e => by cases e; omega)
/-- a store into a box of one's own. -/
theorem kpL_set {bs cf n : Nat} {caps : Array Value} {K L : Nat → Int} {Dom : Nat → Prop} {w0 W : World} (hA : AskL Dom w0 cf n caps K L) (p : Addr) (v : Value) (h1 : p.block ≠ bs) (h2 : ¬ Dom p.block) : KpL bs cf n caps Dom w0 W (W.setCell p v) :=
  fun g => g.kept hA (by simp) (heap_setCell_other W p bs v (fun e => h1 e.symm)) fun k _ hd => heap_setCell_other W p k v (fun e => h2 (e ▸ hd))

/-- what comes at a place. -/
def encL (K L : Nat → Int) (i : Nat) : Array Value := #[.int .i64 (i : Nat), partV (K i) (L i) (off K L i) (off K L (i + 1))]

set_option maxRecDepth 100000 in
set_option maxHeartbeats 2000000 in
/-- parts' function. -/
theorem parts1_in (m : Nat) (l bs cf n : Nat) (caps : Array Value) (K L : Nat → Int) (Dom : Nat → Prop) (w0 : World) (hA : AskL Dom w0 cf n caps K L) (hn : n ≤ 8) (J Jx : List (Tk n) → World → Prop)
    (hJ : ∀ s W W', Below W.heap.size W W' → J s W → J s W')
    (hY : ∀ pre x W, J pre W → pre.length < n → YieldAt Fence.wide (m - 1) Try.prog l (encL K L x.i) W fun e W' =>
      (e = .returned (.bool true) ∧ J (pre ++ [x]) W' ∧ KpL bs cf n caps Dom w0 W W') ∨ (e = .returned (.bool false) ∧ Jx (pre ++ [x]) W'))
    (W : World) (hG : Gl bs cf n caps Dom w0 W) (h0 : J [] W) :
    CallsIn Fence.wide m Try.prog 47 #[.func (.yield l) #[] #[], .pointer (some ⟨bs, 0, none⟩)] W fun e W' => (∃ v, e = .returned v) ∧
      ((∃ ys : List (Tk n), ys.map Tk.i = List.range n ∧ J ys W') ∨ (∃ pre : List (Tk n), (∃ k, k ≤ n ∧ pre.map Tk.i = List.range k) ∧ Jx pre W')) := by
  have hW : ∀ k, Fence.wide.fn k := fun _ => trivial
  have hD : Fence.wide.depth = none := rfl
  have hb0 := hG.c0
  have HG := Lib.hid hG; clear hG
  have hent := hA.ent
  have HA := Lib.hid hA; clear hA
  refine callsIn_of_wp Try.func47 rfl trivial ?_ rfl
  simp only [Try.ntmps47, List.size_toArray, List.length_cons, List.length_nil, Nat.reduceAdd, Nat.reduceSub, Array.replicate_succ, Array.replicate_zero, List.push_toArray, List.append_toArray, List.nil_append, List.cons_append]
  gi_wp2
  gi_loopw [3, 10] (fun fr i wr => ∃ k : Nat, k ≤ n ∧ fr = .int .i64 (off K L k : Nat) ∧ i = .int .i64 (k : Nat) ∧ (∃ pre : List (Tk n), pre.map Tk.i = List.range k ∧ J pre wr) ∧ Gl bs cf n caps Dom w0 wr)
    (fun _ i _ => n - (intOf i).toNat)
  case atStart => exact ⟨0, Nat.zero_le _, rfl, rfl, ⟨[], rfl, h0⟩, HG.out⟩
  case round =>
    rename_i wr
    obtain ⟨k, hk1, rfl, rfl, ⟨pre, hp, hJs⟩, hG⟩ := hrel
    have hP := Lib.hid hp
    have hlen : pre.length = k := by have := congrArg List.length hp; rwa [List.length_map, List.length_range] at this
    clear hp hb0
    by_cases hkn : k < n
    · have i1 : (k : Int) < (n : Int) := by omega
      have hb1 := hG.c1
      have hofs : off K L (k + 1) = off K L k + widI (L k) (K k) := rfl
      have hle := off_le K L k
      have hwl := widI_le (L k) (K k)
      have HOF := Lib.hid hofs
      have HYY := Lib.hid (fun W hJ' => hY pre ⟨k, hkn⟩ W hJ' (by omega))
      have HG1 := Lib.hid hG
      have HJ := Lib.hid hJs
      have HL := Lib.hid hlen
      clear hG hlen hJs hofs hY
      gi_wp2_with fail
      refine (callsIn_wide.2 (HA.out.call _ HG1.out.s k hkn)).mono ?_
      rintro e W2 ⟨rfl, hB2⟩
      have HB2 := Lib.hid hB2; clear hB2
      unfold rowV
      generalize hKk : K k = Kk at *
      generalize hLk : L k = Lk at *
      have hX : Below wr.heap.size wr (W2.alloc (.cells #[.int .i64 Kk, .int .i64 Lk] 44)) := HB2.out.trans (((Below.refl _ W2).alloc (Nat.le_refl _) _).mono HB2.out.size)
      have HX := Lib.hid hX; clear hX
      gi_wp2_with fail
      refine (callsIn_wide.2 (width_any Lk Kk _)).mono ?_
      rintro e W3 ⟨rfl, rfl⟩
      have hsum : ((off K L k : Nat) : Int) + ((widI Lk Kk : Nat) : Int) = ((off K L (k + 1) : Nat) : Int) := by rw [HOF.out]; omega
      have HS := Lib.hid hsum
      obtain ⟨fn, tmps, assign, body, hy, hR⟩ := HYY.out _ (hJ _ _ _ HX.out HJ.out)
      simp only [encL, partV, hKk, hLk] at hy
      generalize widI Lk Kk = wi at *
      generalize hO1 : off K L (k + 1) = o1 at *
      have HO1 := Lib.hid hO1; clear hO1
      generalize off K L k = o0 at *
      have hwr : wrap64 (o1 : Int) = (o1 : Int) := by unfold wrap64; omega
      have HWR := Lib.hid hwr
      gi_wp2_with fail
      refine hR.mono ?_
      rintro e W4 (⟨rfl, hJ3, hk3⟩ | ⟨rfl, hJx3⟩)
      · have HG3 := Lib.hid (hk3 (HG1.out.same HA.out HX.out)); have HJ3 := Lib.hid hJ3
        clear hk3 hJ3 hy hR
        gi_wp2
        go_roundw
        case rel => exact ⟨k + 1, by omega, by rw [HO1.out], by go_num, ⟨_, by rw [List.range_succ, List.map_append, hP.out]; rfl, HJ3.out⟩, HG3.out⟩
        case measure => simp [intOf]; omega
      · clear hy hR
        gi_wp2
        refine bodyPost_ret (results_none rfl _ _ _) rfl ?_
        exact ⟨⟨_, rfl⟩, .inr ⟨_, ⟨k + 1, by omega, by rw [List.range_succ, List.map_append, hP.out]; rfl⟩, hJx3⟩⟩
    · obtain rfl : k = n := by omega
      have i1 : ¬ (k : Int) < (k : Int) := by omega
      gi_wp2
      go_end0
      exact ⟨⟨_, rfl⟩, .inl ⟨pre, hP.out, hJs⟩⟩
/-- parts' value. -/
theorem parts_stops (m bs cf n : Nat) (caps : Array Value) (K L : Nat → Int) (Dom : Nat → Prop) (w0 : World) (hA : AskL Dom w0 cf n caps K L) (hn : n ≤ 8) (w : World) (hG : Gl bs cf n caps Dom w0 w) :
    SeqStopsK Fence.wide m Try.prog 47 #[.pointer (some ⟨bs, 0, none⟩)] (fun x : Tk n => encL K L x.i) (KpL bs cf n caps Dom w0) (fun ys => ys.map Tk.i = List.range n) (fun pre => ∃ k, k ≤ n ∧ pre.map Tk.i = List.range k) n w := fun l J Jx W hW hJ _ hY h0 =>
  parts1_in m l bs cf n caps K L Dom w0 hA hn J Jx (fun s W1 W2 hB hs => hJ s _ _ none hs (below_grown hB none) (fun _ e => by cases e)) hY W (hG.same hA hW) h0
/-- a table: its rows lie below B, its box is lb. -/
theorem ask_of (B : Nat) (w0 w : World) (lb : Nat) (a : Option Addr) (n cap : Nat) (K L : Nat → Int) (hB0 : w0.heap.size = B) (hB : Below B w0 w) (hb : Boxed w lb 24 (.slice a n cap)) (hT : Tb w0 a n K L) :
    AskL (fun k => k < B ∨ k = lb) w 44 n #[.pointer (some ⟨lb, 0, none⟩)] K L :=
  ⟨fun _ _ => by kernel_rfl, fun k h => by rcases h with h | rfl; (· have := hB.size; omega); exact hb.lt, fun W h j hj => by
    have hc : ∀ p v, w0.cell? p = some v → W.cell? p = some v := fun p v e => by
      have h1 := World.block_lt_of_cell? _ _ e
      exact (World.cell?_of_block ((h _ (Or.inl (by omega))).trans (hB.block _ (by omega)))).trans e
    exact of1_l a n cap lb j K L hj W ((World.cell?_of_block (h lb (Or.inr rfl))).trans hb.cell) ⟨fun i hi => by obtain ⟨b, o, e, h1, h2⟩ := hT.cell i hi; exact ⟨b, o, e, hc _ _ h1, hc _ _ h2⟩⟩⟩
end Go.Proofs.Ytkejabhjlflknaa.Ly

namespace Go.Proofs.Ytkejabhjlflknaa.Ly
open Go.RowKit Go.Shelf
open Go.Proofs.Ytkejabhjlflknaa.Sp (wid Bad wid_le wid_hi wid_lo width_ok width_bad grown_dr grown_t Tk heap_kp bx_past)
attribute [local go_sem] Oper.semAt_some

theorem rng_snoc {n : Nat} {pre : List (Tk n)} {x : Tk n} {k' : Nat} (h : (pre ++ [x]).map Tk.i = List.range k') : ∃ k, k' = k + 1 ∧ pre.map Tk.i = List.range k ∧ x.i = k := by
  cases k' with
  | zero => simp at h
  | succ k =>
    rw [List.range_succ, List.map_append] at h
    have h2 := List.append_inj' h rfl
    refine ⟨k, rfl, h2.1, ?_⟩
    have := h2.2
    simpa using this
theorem rng_nil {n k : Nat} (h : ([] : List (Tk n)).map Tk.i = List.range k) : k = 0 := by
  have := congrArg List.length h
  simpa using this.symm
/-- a row that may be, behind those ahead of it. -/
def RowOk (N : Int) (K L : Nat → Int) (i : Nat) : Prop := 1 ≤ K i ∧ K i ≤ N ∧ 0 ≤ L i ∧ L i ≤ 65535 ∧ (0 < i → K (i - 1) ≤ K i)
/-- a table. -/
def TabOk (N : Int) (n : Nat) (K L : Nat → Int) : Prop := 1 ≤ N ∧ N ≤ 255 ∧ 1 ≤ n ∧ n ≤ 8 ∧ ∀ i, i < n → RowOk N K L i
def TabSays (N : Int) (n : Nat) (K L : Nat → Int) (e : Ending) : Prop := ∃ v : Bool, e = .returned (.bool v) ∧ (v = true ↔ TabOk N n K L)
/-- the least threshold that may come at a place. -/
def lst (K : Nat → Int) : Nat → Int
  | 0 => 1
  | i + 1 => K i
theorem row_lst {N : Int} {K L : Nat → Int} {i : Nat} (hp : ∀ j, j < i → RowOk N K L j) : RowOk N K L i ↔ lst K i ≤ K i ∧ K i ≤ N ∧ 0 ≤ L i ∧ L i ≤ 65535 := by
  unfold RowOk
  cases i with
  | zero => show _ ↔ 1 ≤ K 0 ∧ _; constructor <;> (intro h; omega)
  | succ j =>
    have := (hp j (by omega)).1
    show _ ↔ K j ≤ K (j + 1) ∧ _
    rw [Nat.add_sub_cancel]
    constructor <;> (intro h; omega)

/-- the box of a part. -/
def PartAt (W : World) (p : Nat) (K L : Nat → Int) (i : Nat) : Prop := W.heap[p]? = some (.cells #[.int .i64 (K i), .int .i64 (L i), .int .i64 (off K L i : Nat), .int .i64 (off K L (i + 1) : Nat)] 70 (0, 0))
theorem PartAt.kept {X Y : World} {row : Option Nat} {p i : Nat} {K L : Nat → Int} (h : PartAt X p K L i) (hg : X.grownBy Y row) (hr : ∀ r, row = some r → ∃ o : Obj, X.heap[r]? = some o ∧ o.isCells = false) : PartAt Y p K L i := heap_kp h hg hr
/-- as long goes through the rows. -/
structure LoS (w W : World) (v : Nat) : Prop where
  v : Boxed W (w.heap.size + 1) 3 (.int .i64 (v : Nat))
  be : Below w.heap.size w W
theorem LoS.kep {w W W' : World} {v : Nat} {row : Option Nat} (s : LoS w W v) (hg : W.grownBy W' row) (hr : ∀ r, row = some r → w.heap.size ≤ r ∧ ∃ o : Obj, W.heap[r]? = some o ∧ o.isCells = false) : LoS w W' v :=
  ⟨heap_kp s.v hg (fun r e => (hr r e).2), s.be.grown hg s.be.size (fun k e => (hr k e).1)⟩

set_option maxRecDepth 100000 in
set_option maxHeartbeats 4000000 in
theorem long_l (n cf : Nat) (caps : Array Value) (K L : Nat → Int) (Dom : Nat → Prop) (hn : n ≤ 8) (w : World) (hA : AskL Dom w cf n caps K L) :
    Calls Try.prog 36 #[.agg #[.int .i64 (n : Nat), .func (.func cf) #[] caps]] w fun e w' => e = .returned (.int .i64 (off K L n : Nat)) ∧ Below w.heap.size w w' := by
  refine (callsIn_wide (n := 6)).1 ?_
  have hW : ∀ k, Fence.wide.fn k := fun _ => trivial
  have hD : Fence.wide.depth = none := rfl
  have HA := Lib.hid hA
  clear hA
  refine callsIn_of_wp_marks Try.func36 rfl trivial ?_ rfl
  simp only [Try.ntmps36, List.size_toArray, List.length_cons, List.length_nil, Nat.reduceAdd, Nat.reduceSub, Array.replicate_succ, Array.replicate_zero, List.push_toArray, List.append_toArray, List.nil_append, List.cons_append]
  gi_wp2_with (first
    | (gi_at_call 45; refine (callsIn_wide.2 (parts_l _ _ _ _)).mono ?_; rintro e w1 ⟨rfl, hw1⟩))
  rw [← hw1]
  have hS1 : LoS w w1 0 := by
    rw [hw1]
    refine ⟨?_, (((Below.refl _ w).alloc (Nat.le_refl _) _).alloc (by simp) _).alloc (by simp; omega) _⟩
    have := (Boxed.new (w.alloc (.cells #[.int .i64 (n : Nat), .func (.func cf) #[] caps] 60)) 3 (.int .i64 0)).alloc (.cells #[.int .i64 (n : Nat), .func (.func cf) #[] caps] 60)
    simpa using this
  have hG1 : Gl (w.heap.size + 1 + 1) cf n caps Dom w w1 := by
    refine ⟨?_, HA.out.agr hS1.be, hS1.be.size⟩
    rw [hw1]
    have := heap_alloc_new ((w.alloc (.cells #[.int .i64 (n : Nat), .func (.func cf) #[] caps] 60)).alloc (.cells #[.int .i64 0] 3)) (.cells #[.int .i64 (n : Nat), .func (.func cf) #[] caps] 60)
    simpa using this
  have hs1 : w.heap.size + 1 + 1 < w1.heap.size := hG1.lt
  have HS1 := Lib.hid hS1; have HG1 := Lib.hid hG1
  have hz1 := hS1.be.size
  clear hw1 hS1 hG1
  refine' wpIn_rangeFunc_ownH rfl (by omega) (gf := 47) (lb := #[.pointer (some ⟨w.heap.size + 1 + 1, 0, none⟩)]) rfl trivial (enters_of Try.func47 (by kernel_rfl) rfl)
    (parts_stops _ (w.heap.size + 1 + 1) cf n caps K L Dom w HA.out hn _ HG1.out) kpL_t (kpL_b HA.out hz1) (Below.refl _ _) (fun _ => rfl)
    (fun pre W => w1.heap.size ≤ W.heap.size ∧ ∃ v : Nat, LoS w W v ∧ ∀ k, pre.map Tk.i = List.range k → v = off K L k)
    (fun _ _ _ => False)
    (fun s X Y row h hg hr => by
      obtain ⟨hz, v, hs, hv⟩ := h
      exact ⟨Nat.le_trans hz hg.size, v, hs.kep hg (fun r e => ⟨by have := (hr r e).1; omega, (hr r e).2⟩), hv⟩)
    (fun _ _ _ _ _ hs _ _ => hs)
    ⟨Nat.le_refl _, 0, HS1.out, fun k hk => by rw [rng_nil hk]; rfl⟩
    (fun x a' W' => ∃ p, w1.heap.size ≤ p ∧ a' = ⟨#[.agg #[.int .i64 (n : Nat), .func (.func cf) #[] caps], .pointer (some ⟨w.heap.size, 0, none⟩), .int .i64 0, .pointer (some ⟨w.heap.size + 1, 0, none⟩), undef, .pointer (some ⟨p, 0, none⟩), .agg #[.int .i64 (n : Nat), .func (.func cf) #[] caps], .func (.func 47) #[] #[.pointer (some ⟨w.heap.size + 1 + 1, 0, none⟩)], .int .i64 (x.i : Nat), partV (K x.i) (L x.i) (off K L x.i) (off K L (x.i + 1)), undef, undef, undef], []⟩ ∧ PartAt W' p K L x.i)
    (fun x a' _ X Y row h hg hr => by obtain ⟨p, h0, h1, h2⟩ := h; exact ⟨p, h0, h1, h2.kept hg (fun r e => (hr r e).2)⟩)
    ?assign ?body ?done ?stop
  case assign =>
    rintro q pre x W KK ⟨hz, v, hs, hv⟩ hK
    have hB := (Below.refl W.heap.size W).alloc (Nat.le_refl _) (.cells #[.int .i64 (K x.i), .int .i64 (L x.i), .int .i64 (off K L x.i : Nat), .int .i64 (off K L (x.i + 1) : Nat)] 70)
    have hR := hK _ _ ((KeepsOthers.alloc W (.cells #[.int .i64 (K x.i), .int .i64 (L x.i), .int .i64 (off K L x.i : Nat), .int .i64 (off K L (x.i + 1) : Nat)] 70)).from _) (fun g => g.same HA.out hB) ⟨Nat.le_trans hz hB.size, v, hs.kep (below_grown hB none) (fun r e => by cases e), hv⟩ ⟨W.heap.size, hz, rfl, heap_alloc_new W _⟩
    unfold encL
    unfold partV at hR ⊢
    gi_wp2
    exact hR
  case body =>
    rintro q pre x a' W hq _ ⟨hz, v, hs, hv⟩ ⟨p, hp, rfl, hpa⟩ hlen
    have c3 : W.cell? ⟨p, 3, none⟩ = some (.int .i64 (off K L (x.i + 1) : Nat)) := by rw [cell_of_row W p 3 _ _ _ hpa]; rfl
    have d1 := hs.v.cell; have f1 := hs.v.frozen
    have hS7 : LoS w (W.setCell ⟨w.heap.size + 1, 0, none⟩ (.int .i64 (off K L (x.i + 1) : Nat))) (off K L (x.i + 1)) := ⟨hs.v.set _, hs.be.setCell (p := ⟨w.heap.size + 1, 0, none⟩) (by simp) _⟩
    have HS7 := Lib.hid hS7
    clear hS7 hpa hv
    have HZ := Lib.hid hz; clear hz hs
    gi_wp2
    refine ⟨(KeepsOthers.setCell _ _ _).from _, kpL_set HA.out ⟨w.heap.size + 1, 0, none⟩ _ (by simp) (fun h => absurd (HA.out.lt _ h) (by simp)), by simpa using HZ.out, _, HS7.out, fun k hk => ?_⟩
    obtain ⟨k2, rfl, _, e⟩ := rng_snoc hk
    rw [e]
  case done =>
    rintro D ys W hD hys ⟨hz, v, hs, hv⟩ hK
    obtain rfl := hv n hys
    have d1 := hs.v.cell
    have HS := Lib.hid hs; clear hs hv hys
    gi_wp2
    refine ⟨by simp, .inl ⟨_, _, rfl, run_takeDeferred hK, ?_⟩⟩
    exact ⟨_, results_tmp rfl _ _ _, rfl, HS.out.be.trans (belowK_b (w := w) (Nat.le_refl _) W D _ _ (by omega) hK rfl rfl)⟩
  case stop => exact fun _ _ _ _ _ _ h _ => h.elim
end Go.Proofs.Ytkejabhjlflknaa.Ly

namespace Go.Proofs.Ytkejabhjlflknaa.Ly
open Go.RowKit Go.Shelf
open Go.Proofs.Ytkejabhjlflknaa.Sp (wid Bad wid_le wid_hi wid_lo width_ok width_bad grown_dr grown_t Tk heap_kp bx_past)
attribute [local go_sem] Oper.semAt_some

/-- how many rows ask for at most so many. -/
def RdyN (n : Nat) (K : Nat → Int) (came : Int) (m : Nat) : Prop := m ≤ n ∧ (∀ i, i < m → K i ≤ came) ∧ (m < n → came < K m)
theorem RdyN.uniq {n : Nat} {K : Nat → Int} {came : Int} {m m' : Nat} (h : RdyN n K came m) (h' : RdyN n K came m') : m = m' := by
  rcases Nat.lt_trichotomy m m' with c | c | c
  · have := h.2.2 (Nat.lt_of_lt_of_le c h'.1); have := h'.2.1 m c; omega
  · exact c
  · have := h'.2.2 (Nat.lt_of_lt_of_le c h.1); have := h.2.1 m' c; omega
def RdySays (n : Nat) (K : Nat → Int) (came : Int) (e : Ending) : Prop := ∃ m : Nat, e = .returned (.int .i64 (m : Nat)) ∧ RdyN n K came m
/-- as ready goes through the rows. -/
structure ReS (n cf : Nat) (caps : Array Value) (came : Int) (w W : World) (v : Int) : Prop where
  sh : W.heap[w.heap.size]? = some (.cells #[.int .i64 (n : Nat), .func (.func cf) #[] caps] 60 (0, 0))
  c : Boxed W (w.heap.size + 1) 3 (.int .i64 came)
  v : Boxed W (w.heap.size + 1 + 1) 3 (.int .i64 v)
  be : Below w.heap.size w W
theorem ReS.kep {n cf : Nat} {caps : Array Value} {came v : Int} {w W W' : World} {row : Option Nat} (s : ReS n cf caps came w W v) (hg : W.grownBy W' row) (hr : ∀ r, row = some r → w.heap.size ≤ r ∧ ∃ o : Obj, W.heap[r]? = some o ∧ o.isCells = false) : ReS n cf caps came w W' v :=
  ⟨heap_kp s.sh hg (fun r e => (hr r e).2), heap_kp s.c hg (fun r e => (hr r e).2), heap_kp s.v hg (fun r e => (hr r e).2), s.be.grown hg s.be.size (fun k e => (hr k e).1)⟩
theorem ReS.set {n cf : Nat} {caps : Array Value} {came v v' : Int} {w W : World} (s : ReS n cf caps came w W v) : ReS n cf caps came w (W.setCell ⟨w.heap.size + 1 + 1, 0, none⟩ (.int .i64 v')) v' :=
  ⟨(heap_setCell_other W ⟨w.heap.size + 1 + 1, 0, none⟩ _ _ (by simp; omega)).trans s.sh, bx_past s.c (by omega), s.v.set _, s.be.setCell (p := ⟨w.heap.size + 1 + 1, 0, none⟩) (by simp; omega) _⟩
end Go.Proofs.Ytkejabhjlflknaa.Ly

namespace Go.Proofs.Ytkejabhjlflknaa.Ly
open Go.RowKit Go.Shelf
open Go.Proofs.Ytkejabhjlflknaa.Sp (wid Bad wid_le wid_hi wid_lo width_ok width_bad grown_dr grown_t Tk heap_kp bx_past)
attribute [local go_sem] Oper.semAt_some

/-- as right goes through the rows. -/
structure RiS (N : Int) (w W : World) (v : Bool) (le : Int) : Prop where
  n : Boxed W (w.heap.size + 1) 3 (.int .i64 N)
  v : Boxed W (w.heap.size + 1 + 1) 4 (.bool v)
  l : Boxed W (w.heap.size + 1 + 1 + 1) 3 (.int .i64 le)
  be : Below w.heap.size w W
theorem RiS.kep {N : Int} {v : Bool} {le : Int} {w W W' : World} {row : Option Nat} (s : RiS N w W v le) (hg : W.grownBy W' row) (hr : ∀ r, row = some r → w.heap.size ≤ r ∧ ∃ o : Obj, W.heap[r]? = some o ∧ o.isCells = false) : RiS N w W' v le :=
  ⟨heap_kp s.n hg (fun r e => (hr r e).2), heap_kp s.v hg (fun r e => (hr r e).2), heap_kp s.l hg (fun r e => (hr r e).2), s.be.grown hg s.be.size (fun k e => (hr k e).1)⟩
theorem RiS.set {N : Int} {v v' : Bool} {le : Int} {w W : World} (s : RiS N w W v le) : RiS N w (W.setCell ⟨w.heap.size + 1 + 1, 0, none⟩ (.bool v')) v' le :=
  ⟨bx_past s.n (by omega), s.v.set _, bx_past s.l (by omega), s.be.setCell (p := ⟨w.heap.size + 1 + 1, 0, none⟩) (by simp; omega) _⟩
theorem RiS.setL {N : Int} {v : Bool} {le le' : Int} {w W : World} (s : RiS N w W v le) : RiS N w (W.setCell ⟨w.heap.size + 1 + 1 + 1, 0, none⟩ (.int .i64 le')) v le' :=
  ⟨bx_past s.n (by omega), bx_past s.v (by omega), s.l.set _, s.be.setCell (p := ⟨w.heap.size + 1 + 1 + 1, 0, none⟩) (by simp; omega) _⟩
theorem results_right {tmps : Array Value} {w : World} {p : Nat} {v : Bool} (hp : tmps.getD 4 undef = .pointer (some ⟨p, 0, none⟩)) (c1 : w.cell? ⟨p, 0, none⟩ = some (.bool v)) :
    (results Try.f43 tmps).run Try.prog w = .ok (.bool v) w := by
  rw [Array.getD_eq_getD_getElem?] at hp
  simp [results, Try.f43, hp, go_sem, c1]
theorem below_abc {w : World} (a b c : Obj) : Below w.heap.size w (((w.alloc a).alloc b).alloc c) := (((Below.refl _ w).alloc (Nat.le_refl _) _).alloc (by simp) _).alloc (by simp; omega) _

set_option maxRecDepth 100000 in
set_option maxHeartbeats 4000000 in
theorem right_no (n cf : Nat) (caps : Array Value) (K L : Nat → Int) (N : Int) (hb : ¬ (1 ≤ N ∧ N ≤ 255 ∧ 1 ≤ n ∧ n ≤ 8)) (w : World) :
    Calls Try.prog 43 #[.agg #[.int .i64 (n : Nat), .func (.func cf) #[] caps], .int .i64 N] w fun e w' => TabSays N n K L e ∧ Below w.heap.size w w' := by
  have hno : TabSays N n K L (.returned (.bool false)) := ⟨false, rfl, ⟨(fun h => by cases h), fun h => absurd ⟨h.1, h.2.1, h.2.2.1, h.2.2.2.1⟩ hb⟩⟩
  have HNO := Lib.hid hno; have HB := Lib.hid hb; clear hno hb
  have hBe := fun x => below_abc (w := w) (.cells #[.int .i64 (n : Nat), .func (.func cf) #[] caps] 60) (.cells #[.int .i64 N] 3) (.cells #[x] 4)
  have HBE := Lib.hid hBe; clear hBe
  by_cases h1 : N < 1
  · have g1 : decide (N < 1) = true := by simp; omega
    go_enter Try.func43, Try.ntmps43
    go_wp2
    exact bodyPost_ret (results_right rfl (by first | rfl | simp [go_sem])) rfl ⟨HNO.out, HBE.out _⟩
  · have g1 : decide (N < 1) = false := by simp; omega
    by_cases h2 : 255 < N
    · have g2 : decide ((255 : Int) < N) = true := by simp; omega
      go_enter Try.func43, Try.ntmps43
      go_wp2
      exact bodyPost_ret (results_right rfl (by first | rfl | simp [go_sem])) rfl ⟨HNO.out, HBE.out _⟩
    · have g2 : decide ((255 : Int) < N) = false := by simp; omega
      by_cases h3 : n < 1
      · have g3 : decide ((n : Int) < 1) = true := by simp; omega
        go_enter Try.func43, Try.ntmps43
        go_wp2
        exact bodyPost_ret (results_right rfl (by first | rfl | simp [go_sem])) rfl ⟨HNO.out, HBE.out _⟩
      · have g3 : decide ((n : Int) < 1) = false := by simp; omega
        have h4 : 8 < n := by have := HB.out; omega
        have g4 : decide ((8 : Int) < (n : Int)) = true := by simp; omega
        go_enter Try.func43, Try.ntmps43
        go_wp2
        exact bodyPost_ret (results_right rfl (by first | rfl | simp [go_sem])) rfl ⟨HNO.out, HBE.out _⟩

set_option maxRecDepth 100000 in
set_option maxHeartbeats 4000000 in
theorem right_l (n cf : Nat) (caps : Array Value) (K L : Nat → Int) (Dom : Nat → Prop) (N : Int) (w : World) (hA : AskL Dom w cf n caps K L) :
    Calls Try.prog 43 #[.agg #[.int .i64 (n : Nat), .func (.func cf) #[] caps], .int .i64 N] w fun e w' => TabSays N n K L e ∧ Below w.heap.size w w' := by
  by_cases hb : 1 ≤ N ∧ N ≤ 255 ∧ 1 ≤ n ∧ n ≤ 8
  case neg => exact right_no n cf caps K L N hb w
  refine (callsIn_wide (n := 6)).1 ?_
  have hW : ∀ k, Fence.wide.fn k := fun _ => trivial
  have hD : Fence.wide.depth = none := rfl
  have HA := Lib.hid hA
  clear hA
  refine callsIn_of_wp_marks Try.func43 rfl trivial ?_ rfl
  simp only [Try.ntmps43, List.size_toArray, List.length_cons, List.length_nil, Nat.reduceAdd, Nat.reduceSub, Array.replicate_succ, Array.replicate_zero, List.push_toArray, List.append_toArray, List.nil_append, List.cons_append]
  obtain ⟨h1, h2, h3, h4⟩ := hb
  have i1 : decide (N < 1) = false := by simp; omega
  have i2 : decide ((255 : Int) < N) = false := by simp; omega
  have i3 : decide ((n : Int) < 1) = false := by simp; omega
  have i4 : decide ((8 : Int) < (n : Int)) = false := by simp; omega
  gi_wp2_with (first
    | (gi_at_call 45; refine (callsIn_wide.2 (parts_l _ _ _ _)).mono ?_; rintro e w1 ⟨rfl, hw1⟩))
  clear i1 i2 i3 i4
  rw [← hw1]
  have hS1 : RiS N w w1 false 1 := by
    rw [hw1]
    have b1 := (((Boxed.new (w.alloc (.cells #[.int .i64 (n : Nat), .func (.func cf) #[] caps] 60)) 3 (.int .i64 N)).alloc (.cells #[.bool false] 4)).alloc (.cells #[.int .i64 1] 3)).alloc (.cells #[.int .i64 (n : Nat), .func (.func cf) #[] caps] 60)
    have b2 := ((Boxed.new ((w.alloc (.cells #[.int .i64 (n : Nat), .func (.func cf) #[] caps] 60)).alloc (.cells #[.int .i64 N] 3)) 4 (.bool false)).alloc (.cells #[.int .i64 1] 3)).alloc (.cells #[.int .i64 (n : Nat), .func (.func cf) #[] caps] 60)
    have b3 := (Boxed.new (((w.alloc (.cells #[.int .i64 (n : Nat), .func (.func cf) #[] caps] 60)).alloc (.cells #[.int .i64 N] 3)).alloc (.cells #[.bool false] 4)) 3 (.int .i64 1)).alloc (.cells #[.int .i64 (n : Nat), .func (.func cf) #[] caps] 60)
    exact ⟨by simpa using b1, by simpa using b2, by simpa using b3, ((below_abc _ _ _).alloc (by simp; omega) _).alloc (by simp; omega) _⟩
  have hG1 : Gl (w.heap.size + 1 + 1 + 1 + 1) cf n caps Dom w w1 := by
    refine ⟨?_, HA.out.agr hS1.be, hS1.be.size⟩
    rw [hw1]
    have := heap_alloc_new ((((w.alloc (.cells #[.int .i64 (n : Nat), .func (.func cf) #[] caps] 60)).alloc (.cells #[.int .i64 N] 3)).alloc (.cells #[.bool false] 4)).alloc (.cells #[.int .i64 1] 3)) (.cells #[.int .i64 (n : Nat), .func (.func cf) #[] caps] 60)
    simpa using this
  have hs1 : w.heap.size + 1 + 1 + 1 + 1 < w1.heap.size := hG1.lt
  have HS1 := Lib.hid hS1; have HG1 := Lib.hid hG1
  have hz1 := hS1.be.size
  clear hw1 hS1 hG1
  refine' wpIn_rangeFunc_ownH rfl (by omega) (gf := 47) (lb := #[.pointer (some ⟨w.heap.size + 1 + 1 + 1 + 1, 0, none⟩)]) rfl trivial (enters_of Try.func47 (by kernel_rfl) rfl)
    (parts_stops _ (w.heap.size + 1 + 1 + 1 + 1) cf n caps K L Dom w HA.out h4 _ HG1.out) kpL_t (kpL_b HA.out hz1) (Below.refl _ _) (fun _ => rfl)
    (fun pre W => w1.heap.size ≤ W.heap.size ∧ ∃ le, RiS N w W false le ∧ ∀ k, pre.map Tk.i = List.range k → le = lst K k ∧ ∀ i, i < k → RowOk N K L i)
    (fun cc pre W => cc = .ret ∧ ∃ le, RiS N w W false le ∧ ∀ k, pre.map Tk.i = List.range k → ∃ i, i < n ∧ ¬ RowOk N K L i)
    (fun s X Y row h hg hr => by
      obtain ⟨h0, v, hs, hv⟩ := h
      exact ⟨Nat.le_trans h0 hg.size, v, hs.kep hg (fun r e => ⟨by have := (hr r e).1; omega, (hr r e).2⟩), hv⟩)
    (fun c s X Y row h hg hr => by
      obtain ⟨h0, v, hs, hv⟩ := h
      exact ⟨h0, v, hs.kep hg (fun r e => ⟨by have := (hr r e).1; omega, (hr r e).2⟩), hv⟩)
    ⟨Nat.le_refl _, 1, HS1.out, fun k hk => by rw [rng_nil hk]; exact ⟨rfl, fun i hi => absurd hi (Nat.not_lt_zero i)⟩⟩
    (fun x a' W' => ∃ p, w1.heap.size ≤ p ∧ a' = ⟨#[.agg #[.int .i64 (n : Nat), .func (.func cf) #[] caps], .int .i64 N, .pointer (some ⟨w.heap.size, 0, none⟩), .pointer (some ⟨w.heap.size + 1, 0, none⟩), .pointer (some ⟨w.heap.size + 1 + 1, 0, none⟩), .pointer (some ⟨w.heap.size + 1 + 1 + 1, 0, none⟩), undef, .pointer (some ⟨p, 0, none⟩), .int .i64 N, .bool false, .bool false, .int .i64 N, .bool false, .bool false, .bool false, .pointer (some ⟨w.heap.size, 0, none⟩), .int .i64 (n : Nat), .bool false, .bool false, .bool false, .pointer (some ⟨w.heap.size, 0, none⟩), .int .i64 (n : Nat), .bool false, .bool false, .agg #[.int .i64 (n : Nat), .func (.func cf) #[] caps], .func (.func 47) #[] #[.pointer (some ⟨w.heap.size + 1 + 1 + 1 + 1, 0, none⟩)], .int .i64 (x.i : Nat), partV (K x.i) (L x.i) (off K L x.i) (off K L (x.i + 1)), undef, undef, undef, undef, undef, undef, undef, undef, undef, undef, undef, undef, undef, undef, undef, undef, undef, undef, undef, undef, undef, undef, undef, undef, undef, undef, undef], []⟩ ∧ PartAt W' p K L x.i)
    (fun x a' _ X Y row h hg hr => by obtain ⟨p, h0, h1, h2⟩ := h; exact ⟨p, h0, h1, h2.kept hg (fun r e => (hr r e).2)⟩)
    ?assign ?body ?done ?stop
  case assign =>
    rintro q pre x W KK ⟨hz, le, hs, hv⟩ hK
    have hB := (Below.refl W.heap.size W).alloc (Nat.le_refl _) (.cells #[.int .i64 (K x.i), .int .i64 (L x.i), .int .i64 (off K L x.i : Nat), .int .i64 (off K L (x.i + 1) : Nat)] 70)
    have hR := hK _ _ ((KeepsOthers.alloc W (.cells #[.int .i64 (K x.i), .int .i64 (L x.i), .int .i64 (off K L x.i : Nat), .int .i64 (off K L (x.i + 1) : Nat)] 70)).from _) (fun g => g.same HA.out hB) ⟨Nat.le_trans hz hB.size, le, hs.kep (below_grown hB none) (fun r e => by cases e), hv⟩ ⟨W.heap.size, hz, rfl, heap_alloc_new W _⟩
    unfold encL
    unfold partV at hR ⊢
    gi_wp2
    exact hR
  case body =>
    rintro q pre x a' W hq _ ⟨hz, le, hs, hv⟩ ⟨p, hp, rfl, hpa⟩ hlen
    have c1 : W.cell? ⟨p, 0, none⟩ = some (.int .i64 (K x.i)) := by rw [cell_of_row W p 0 _ _ _ hpa]; rfl
    have c2 : W.cell? ⟨p, 1, none⟩ = some (.int .i64 (L x.i)) := by rw [cell_of_row W p 1 _ _ _ hpa]; rfl
    have d0 := hs.n.cell; have d2 := hs.l.cell; have f2 := hs.l.frozen
    have d1 := hs.v.cell; have f1 := hs.v.frozen
    have HV := Lib.hid hv
    have HZ := Lib.hid hz
    have HS := Lib.hid hs
    clear hpa hv hz hs
    by_cases hok : le ≤ K x.i ∧ K x.i ≤ N ∧ 0 ≤ L x.i ∧ L x.i ≤ 65535
    · have g1 : decide (K x.i < le) = false := by simp; omega
      have g2 : decide (N < K x.i) = false := by simp; omega
      have g3 : decide (L x.i < 0) = false := by simp; omega
      have g4 : decide ((65535 : Int) < L x.i) = false := by simp; omega
      have HOK := Lib.hid hok; clear hok
      gi_wp2
      refine ⟨(KeepsOthers.setCell _ _ _).from _, kpL_set HA.out ⟨w.heap.size + 1 + 1 + 1, 0, none⟩ _ (by simp) (fun h => absurd (HA.out.lt _ h) (by simp; omega)), by simpa using HZ.out, K x.i, HS.out.setL, fun k hk => ?_⟩
      obtain ⟨k2, rfl, h2, e⟩ := rng_snoc hk
      obtain ⟨hle, hro⟩ := HV.out k2 h2
      have hok := HOK.out
      rw [e, hle] at hok
      rw [e]
      refine ⟨rfl, fun i hi => ?_⟩
      by_cases e2 : i = k2
      · rw [e2]; exact (row_lst hro).2 hok
      · exact hro i (by omega)
    · have hno : ∀ k, (pre ++ [x]).map Tk.i = List.range k → ∃ i, i < n ∧ ¬ RowOk N K L i := fun k hk => by
        obtain ⟨k2, rfl, h2, e⟩ := rng_snoc hk
        obtain ⟨hle, hro⟩ := HV.out k2 h2
        refine ⟨k2, by have := x.hi; omega, fun h => hok ?_⟩
        rw [e, hle]
        exact (row_lst hro).1 h
      have HNO := Lib.hid hno; clear hno
      by_cases c1 : K x.i < le
      · have g1 : decide (K x.i < le) = true := by simp; omega
        clear hok
        gi_wp2
        first | exact ⟨(KeepsOthers.setCell _ _ _).from _, rfl, ⟨le, HS.out.set⟩, HNO.out⟩ | exact ⟨(KeepsOthers.setCell _ _ _).from _, rfl, le, HS.out.set, HNO.out⟩
      · have g1 : decide (K x.i < le) = false := by simp; omega
        by_cases c2 : N < K x.i
        · have g2 : decide (N < K x.i) = true := by simp; omega
          clear hok
          gi_wp2
          first | exact ⟨(KeepsOthers.setCell _ _ _).from _, rfl, ⟨le, HS.out.set⟩, HNO.out⟩ | exact ⟨(KeepsOthers.setCell _ _ _).from _, rfl, le, HS.out.set, HNO.out⟩
        · have g2 : decide (N < K x.i) = false := by simp; omega
          by_cases c3 : L x.i < 0
          · have g3 : decide (L x.i < 0) = true := by simp; omega
            clear hok
            gi_wp2
            first | exact ⟨(KeepsOthers.setCell _ _ _).from _, rfl, ⟨le, HS.out.set⟩, HNO.out⟩ | exact ⟨(KeepsOthers.setCell _ _ _).from _, rfl, le, HS.out.set, HNO.out⟩
          · have g3 : decide (L x.i < 0) = false := by simp; omega
            have g4 : decide ((65535 : Int) < L x.i) = true := by simp; omega
            clear hok
            gi_wp2
            first | exact ⟨(KeepsOthers.setCell _ _ _).from _, rfl, ⟨le, HS.out.set⟩, HNO.out⟩ | exact ⟨(KeepsOthers.setCell _ _ _).from _, rfl, le, HS.out.set, HNO.out⟩
  case done =>
    rintro D ys W hD hys ⟨hz, le, hs, hv⟩ hK
    have hT : TabOk N n K L := ⟨h1, h2, h3, h4, (hv n hys).2⟩
    have d1 := hs.v.cell; have f1 := hs.v.frozen
    have HT := Lib.hid hT; have HS := Lib.hid hs
    clear hT hs hv hys
    gi_wp2
    have hK' := (KeepsOthers.setCell W ⟨w.heap.size + 1 + 1, 0, none⟩ (.bool true)).same D _ hK rfl
    refine ⟨by simp, .inl ⟨_, _, rfl, run_takeDeferred hK', ?_⟩⟩
    have hF := (HS.out.set (v' := true)).kep (grownBy_putObj' _ D (.deferred none)) (fun k e => by cases e; exact ⟨by omega, _, hK', rfl⟩)
    exact ⟨_, results_right rfl hF.v.cell, ⟨true, rfl, fun _ => HT.out, fun _ => rfl⟩, hF.be⟩
  case stop =>
    rintro D cc pre W hD ⟨k, hk, hp⟩ ⟨rfl, le, hs, hr⟩ hK
    have HR := Lib.hid (hr k hp); have HS := Lib.hid hs
    clear hr hs hp
    gi_wp2
    refine ⟨by simp, .inl ⟨_, _, rfl, run_takeDeferred hK, ?_⟩⟩
    have hF := HS.out.kep (grownBy_putObj' _ D (.deferred none)) (fun k e => by cases e; exact ⟨by omega, _, hK, rfl⟩)
    refine ⟨_, results_right rfl hF.v.cell, ⟨false, rfl, (fun h => by cases h), fun h => ?_⟩, hF.be⟩
    obtain ⟨i, hi, hn⟩ := HR.out
    exact absurd (h.2.2.2.2 i hi) hn
end Go.Proofs.Ytkejabhjlflknaa.Ly

namespace Go.Proofs.Ytkejabhjlflknaa.Ly
open Go.RowKit Go.Shelf
open Go.Proofs.Ytkejabhjlflknaa.Sp (Bad wid)
attribute [local go_sem] Oper.semAt_some

/-! the calls of lay that tell of a table -/
set_option maxHeartbeats 1000000 in
theorem lRight_any (N : Int) (a : Option Addr) (n cap : Nat) (K L : Nat → Int) (w : World) (hT : Tb w a n K L) :
    Calls Try.prog 34 #[.int .i64 N, .slice a n cap] w fun e w' => TabSays N n K L e ∧ Below w.heap.size w w' := by
  have HT := Lib.hid hT; clear hT
  go_enter Try.func34, Try.ntmps34
  go_wp2_with fail
  refine (of_l a n cap _).mono ?_
  rintro e w1 ⟨rfl, hB1, hb1⟩
  have hA := ask_of w.heap.size w w1 w.heap.size a n cap K L rfl hB1 hb1 HT.out
  have HA := Lib.hid hA; have HB1 := Lib.hid hB1
  clear hA hB1 hb1
  go_wp2_with fail
  refine (right_l n _ _ K L _ N _ HA.out).mono ?_
  rintro e w2 ⟨⟨v, rfl, hv⟩, hB2⟩
  have HV := Lib.hid hv; have HB2 := Lib.hid (HB1.out.trans (hB2.mono HB1.out.size))
  clear hv hB2
  go_wp2
  go_ret
  exact ⟨⟨v, rfl, HV.out⟩, HB2.out⟩
/-- a number, or an error. -/
def NumSays (N : Int) (n : Nat) (K L : Nat → Int) (P : Nat → Prop) (e : Ending) : Prop := (¬ TabOk N n K L ∧ e = .returned (.tuple #[.int .i64 0, .int .i64 2])) ∨ (TabOk N n K L ∧ ∃ m : Nat, P m ∧ e = .returned (.tuple #[.int .i64 (m : Nat), .int .i64 0]))
set_option maxHeartbeats 1000000 in
theorem lLong_any (N : Int) (a : Option Addr) (n cap : Nat) (K L : Nat → Int) (w : World) (hT : Tb w a n K L) :
    Calls Try.prog 23 #[.int .i64 N, .slice a n cap] w fun e w' => NumSays N n K L (fun m => m = off K L n) e ∧ Below w.heap.size w w' := by
  have HT := Lib.hid hT; clear hT
  go_enter Try.func23, Try.ntmps23
  go_wp2_with fail
  refine (lRight_any N a n cap K L _ HT.out).mono ?_
  rintro e w1 ⟨⟨v, rfl, hv⟩, hB1⟩
  have HV := Lib.hid hv; have HB1 := Lib.hid hB1; clear hv hB1
  cases v
  · go_wp2
    go_ret2
    exact ⟨Or.inl ⟨fun h => absurd (HV.out.2 h) (by simp), rfl⟩, HB1.out⟩
  · have ht := HV.out.1 rfl
    have hn8 := ht.2.2.2.1
    have HTO := Lib.hid ht; clear ht
    go_wp2_with fail
    refine (of_l a n cap _).mono ?_
    rintro e w2 ⟨rfl, hB2, hb2⟩
    have hA := ask_of w1.heap.size w1 w2 w1.heap.size a n cap K L rfl hB2 hb2 (HT.out.same HB1.out)
    have HA := Lib.hid hA; have HB2 := Lib.hid (HB1.out.trans (hB2.mono HB1.out.size))
    clear hA hB2 hb2
    go_wp2_with fail
    refine (long_l n _ _ K L _ hn8 _ HA.out).mono ?_
    rintro e w3 ⟨rfl, hB3⟩
    have HB3 := Lib.hid (HB2.out.trans (hB3.mono HB2.out.size)); clear hB3
    go_wp2
    go_ret2
    exact ⟨Or.inr ⟨HTO.out, _, rfl, rfl⟩, HB3.out⟩
end Go.Proofs.Ytkejabhjlflknaa.Ly

namespace Go.Proofs.Ytkejabhjlflknaa.Ly
open Go.RowKit Go.Shelf
open Go.Proofs.Ytkejabhjlflknaa.Sp (Bad wid rwidth_ok rwidth_bad)
attribute [local go_sem] Oper.semAt_some

/-! the document's -/
theorem rwidth_any (x k : Int) (w : World) :
    Calls Try.prog 46 #[.int .i64 x, .int .i64 k] w fun e w' => e = .returned (.tuple #[.int .i64 (widI x k : Nat), .int .i64 (widE x k)]) ∧ w' = w := by
  by_cases h : Bad x k
  · have e1 : widI x k = 0 := if_pos h
    have e2 : widE x k = 2 := if_pos h
    rw [e1, e2]
    exact rwidth_bad x k h w
  · have h' := h
    unfold Bad at h'
    obtain ⟨X, rfl⟩ : ∃ X : Nat, x = X := ⟨x.toNat, by omega⟩
    obtain ⟨Y, rfl⟩ : ∃ Y : Nat, k = Y := ⟨k.toNat, by omega⟩
    have e1 : widI X Y = wid X Y := by rw [widI_ok h]; simp
    have e2 : widE X Y = 0 := if_neg h
    rw [e1, e2]
    exact rwidth_ok X Y (by omega) (by omega) (by omega) w
set_option maxHeartbeats 1000000 in
theorem rwid_any (K L : Int) (w : World) :
    Calls Try.prog 38 #[rowV K L] w fun e w' => e = .returned (.int .i64 (widI L K : Nat)) ∧ Below w.heap.size w w' := by
  have hB := (Below.refl w.heap.size w).alloc (Nat.le_refl _) (.cells #[.int .i64 K, .int .i64 L] 44)
  unfold rowV
  go_enter Try.func38, Try.ntmps38
  go_wp2_with fail
  refine (rwidth_any L K _).mono ?_
  rintro e w1 ⟨rfl, rfl⟩
  go_wp2
  go_ret
  exact ⟨rfl, hB⟩
set_option maxHeartbeats 4000000 in
set_option maxRecDepth 100000 in
theorem rRight_any (N : Int) (a : Option Addr) (n cap : Nat) (K L : Nat → Int) (w : World) (hT : Tb w a n K L) :
    Calls Try.prog 37 #[.int .i64 N, .slice a n cap] w fun e w' => TabSays N n K L e ∧ ∃ q, w' = w.drewN q := by
  have HT := Lib.hid hT; clear hT
  by_cases hb : 1 ≤ N ∧ N ≤ 255 ∧ 1 ≤ n ∧ n ≤ 8
  · have HBB := Lib.hid hb
    obtain ⟨h1, h2, h3, h4⟩ := hb
    have i1 : decide (N < 1) = false := by simp; omega
    have i2 : decide ((255 : Int) < N) = false := by simp; omega
    have i3 : decide ((n : Int) < 1) = false := by simp; omega
    have i4 : decide ((8 : Int) < (n : Int)) = false := by simp; omega
    go_enter Try.func37, Try.ntmps37
    go_wp2_with fail
    clear i1 i2 i3 i4
    go_loopw [5] (fun i wr => ∃ k : Nat, k ≤ n ∧ i = .int .i64 k ∧ (∀ j, j < k → RowOk N K L j) ∧ ∃ q, wr = w.drewN q) (fun i _ => n - (intOf i).toNat)
    case atStart => exact ⟨0, by omega, rfl, fun j hj => absurd hj (Nat.not_lt_zero j), 0, rfl⟩
    case round =>
      obtain ⟨k, hk, rfl, hro, q, hq⟩ := hrel
      have HRO := Lib.hid hro; clear hro
      by_cases hlt : k < n
      · have j1 : (k : Int) < (n : Int) := by omega
        obtain ⟨b, o, ea, hc1, hc2⟩ := HT.out.cell k hlt
        have c1 : ∀ q, (w.drewN q).cell? ⟨b, o + k * 2, none⟩ = some (.int .i64 (K k)) := fun _ => hc1
        have c2 : ∀ q, (w.drewN q).cell? ⟨b, o + k * 2 + 1, none⟩ = some (.int .i64 (L k)) := fun _ => hc2
        clear hc1 hc2
        subst hq
        have EA := Lib.hid ea
        by_cases hok : RowOk N K L k
        · have hok' := hok
          unfold RowOk at hok'
          have g1 : decide (K k < 1) = false := by simp; omega
          have g2 : decide (N < K k) = false := by simp; omega
          have g3 : decide (L k < 0) = false := by simp; omega
          have g4 : decide ((65535 : Int) < L k) = false := by simp; omega
          have HOK := Lib.hid hok
          by_cases hk0 : 0 < k
          · obtain ⟨j, hj⟩ : ∃ j, k = j + 1 := ⟨k - 1, by omega⟩
            obtain ⟨b2, o2, ea2, hc3, _⟩ := HT.out.cell j (by omega)
            obtain ⟨rfl, rfl⟩ : b2 = b ∧ o2 = o := by rw [ea] at ea2; cases ea2; exact ⟨rfl, rfl⟩
            have c3 : ∀ q, (w.drewN q).cell? ⟨b2, o2 + j * 2, none⟩ = some (.int .i64 (K j)) := fun _ => hc3
            have g5 : decide ((0 : Int) < (k : Int)) = true := by simp; omega
            have g6 : (k : Int) - 1 = (j : Int) := by omega
            have g7 : decide (K k < K j) = false := by have := hok'.2.2.2.2 hk0; rw [hj, Nat.add_sub_cancel] at this; rw [hj]; simp; omega
            have g8 : (j : Int) < (n : Int) := by omega
            clear hok hok' hc3 ea2 hj
            subst ea
            go_wp2_with fail
            go_quiet (fail)
            go_wp2_with fail
            go_roundw
            case rel => exact ⟨k + 1, by omega, by go_num, fun i hi => (by
              by_cases e : i = k
              · rw [e]; exact HOK.out
              · exact HRO.out i (by omega)), q + nq, by first | rfl | rw [World.drewN_drewN]⟩
            case measure => simp [intOf]; omega
          · have g5 : decide ((0 : Int) < (k : Int)) = false := by simp; omega
            clear hok hok'
            subst ea
            go_wp2_with fail
            go_quiet (fail)
            go_wp2_with fail
            go_roundw
            case rel => exact ⟨k + 1, by omega, by go_num, fun i hi => (by
              by_cases e : i = k
              · rw [e]; exact HOK.out
              · exact HRO.out i (by omega)), q + nq, by first | rfl | rw [World.drewN_drewN]⟩
            case measure => simp [intOf]; omega
        · have HNOK := Lib.hid hok
          by_cases b1 : K k < 1
          · have g1 : decide (K k < 1) = true := by simp; omega
            clear hok
            subst ea
            go_wp2_with fail
            go_quiet (fail)
            go_wp2_with fail
            go_ret
            exact ⟨⟨false, rfl, (fun h => by cases h), fun h => absurd (h.2.2.2.2 k hlt) HNOK.out⟩, q + nq, by first | rfl | rw [World.drewN_drewN]⟩
          · have g1 : decide (K k < 1) = false := by simp; omega
            by_cases b2 : N < K k
            · have g2 : decide (N < K k) = true := by simp; omega
              clear hok
              subst ea
              go_wp2_with fail
              go_quiet (fail)
              go_wp2_with fail
              go_ret
              exact ⟨⟨false, rfl, (fun h => by cases h), fun h => absurd (h.2.2.2.2 k hlt) HNOK.out⟩, q + nq, by first | rfl | rw [World.drewN_drewN]⟩
            · have g2 : decide (N < K k) = false := by simp; omega
              by_cases b3 : L k < 0
              · have g3 : decide (L k < 0) = true := by simp; omega
                clear hok
                subst ea
                go_wp2_with fail
                go_quiet (fail)
                go_wp2_with fail
                go_ret
                exact ⟨⟨false, rfl, (fun h => by cases h), fun h => absurd (h.2.2.2.2 k hlt) HNOK.out⟩, q + nq, by first | rfl | rw [World.drewN_drewN]⟩
              · have g3 : decide (L k < 0) = false := by simp; omega
                by_cases b4 : (65535 : Int) < L k
                · have g4 : decide ((65535 : Int) < L k) = true := by simp; omega
                  clear hok
                  subst ea
                  go_wp2_with fail
                  go_quiet (fail)
                  go_wp2_with fail
                  go_ret
                  exact ⟨⟨false, rfl, (fun h => by cases h), fun h => absurd (h.2.2.2.2 k hlt) HNOK.out⟩, q + nq, by first | rfl | rw [World.drewN_drewN]⟩
                · have g4 : decide ((65535 : Int) < L k) = false := by simp; omega
                  have hk0 : 0 < k := by
                    rcases Nat.eq_zero_or_pos k with e | e
                    · exact absurd ⟨by omega, by omega, by omega, by omega, fun h => by omega⟩ hok
                    · exact e
                  obtain ⟨j, hj⟩ : ∃ j, k = j + 1 := ⟨k - 1, by omega⟩
                  obtain ⟨b2, o2, ea2, hc3, _⟩ := HT.out.cell j (by omega)
                  obtain ⟨rfl, rfl⟩ : b2 = b ∧ o2 = o := by rw [ea] at ea2; cases ea2; exact ⟨rfl, rfl⟩
                  have c3 : ∀ q, (w.drewN q).cell? ⟨b2, o2 + j * 2, none⟩ = some (.int .i64 (K j)) := fun _ => hc3
                  have g5 : decide ((0 : Int) < (k : Int)) = true := by simp; omega
                  have g6 : (k : Int) - 1 = (j : Int) := by omega
                  have g7 : decide (K k < K j) = true := by
                    by_cases c : K k < K j
                    · exact decide_eq_true c
                    · exact absurd ⟨by omega, by omega, by omega, by omega, fun _ => by rw [hj, Nat.add_sub_cancel, ← hj]; exact Int.not_lt.1 c⟩ hok
                  have g8 : (j : Int) < (n : Int) := by omega
                  clear hok hc3 ea2 hj
                  subst ea
                  go_wp2_with fail
                  go_quiet (fail)
                  go_wp2_with fail
                  go_ret
                  exact ⟨⟨false, rfl, (fun h => by cases h), fun h => absurd (h.2.2.2.2 k hlt) HNOK.out⟩, q + nq, by first | rfl | rw [World.drewN_drewN]⟩
      · obtain rfl : k = n := by omega
        have j1 : ¬ (k : Int) < (k : Int) := by omega
        subst hq
        go_wp2
        go_ret
        exact ⟨⟨true, rfl, fun _ => ⟨HBB.out.1, HBB.out.2.1, HBB.out.2.2.1, HBB.out.2.2.2, HRO.out⟩, fun _ => rfl⟩, q, rfl⟩
  · have hno : TabSays N n K L (.returned (.bool false)) := ⟨false, rfl, ⟨(fun h => by cases h), fun h => absurd ⟨h.1, h.2.1, h.2.2.1, h.2.2.2.1⟩ hb⟩⟩
    have HNO := Lib.hid hno; have HB := Lib.hid hb; clear hno hb
    by_cases h1 : N < 1
    · have g1 : decide (N < 1) = true := by simp; omega
      go_enter Try.func37, Try.ntmps37
      go_wp2
      go_ret
      exact ⟨HNO.out, 0, rfl⟩
    · have g1 : decide (N < 1) = false := by simp; omega
      by_cases h2 : 255 < N
      · have g2 : decide ((255 : Int) < N) = true := by simp; omega
        go_enter Try.func37, Try.ntmps37
        go_wp2
        go_ret
        exact ⟨HNO.out, 0, rfl⟩
      · have g2 : decide ((255 : Int) < N) = false := by simp; omega
        by_cases h3 : n < 1
        · have g3 : decide ((n : Int) < 1) = true := by simp; omega
          go_enter Try.func37, Try.ntmps37
          go_wp2
          go_ret
          exact ⟨HNO.out, 0, rfl⟩
        · have g3 : decide ((n : Int) < 1) = false := by simp; omega
          have h4 : 8 < n := by have := HB.out; omega
          have g4 : decide ((8 : Int) < (n : Int)) = true := by simp; omega
          go_enter Try.func37, Try.ntmps37
          go_wp2
          go_ret
          exact ⟨HNO.out, 0, rfl⟩
end Go.Proofs.Ytkejabhjlflknaa.Ly

namespace Go.Proofs.Ytkejabhjlflknaa.Ly
open Go.RowKit Go.Shelf

theorem rdy_ex' (n : Nat) (K : Nat → Int) (came : Int) : ∃ mm, RdyN n K came mm := by
  induction n with
  | zero => exact ⟨0, Nat.le_refl _, fun i hi => absurd hi (Nat.not_lt_zero i), fun h => absurd h (Nat.lt_irrefl _)⟩
  | succ n ih =>
    obtain ⟨mm, h1, h2, h3⟩ := ih
    by_cases c : mm < n
    · exact ⟨mm, by omega, h2, fun _ => h3 c⟩
    · obtain rfl : mm = n := by omega
      by_cases c2 : K mm ≤ came
      · exact ⟨mm + 1, Nat.le_refl _, fun i hi => (by
          by_cases e : i = mm
          · rw [e]; exact c2
          · exact h2 i (by omega)), fun h => absurd h (Nat.lt_irrefl _)⟩
      · exact ⟨mm, by omega, h2, fun _ => by omega⟩
theorem tab_mono' {N : Int} {n : Nat} {K L : Nat → Int} (h : TabOk N n K L) {i : Nat} : ∀ j, i ≤ j → j < n → K i ≤ K j
  | 0, h1, _ => by obtain rfl : i = 0 := by omega
                   exact Int.le_refl _
  | j + 1, h1, h2 => by
    by_cases e : i = j + 1
    · rw [e]; exact Int.le_refl _
    · have h3 := tab_mono' h (i := i) j (by omega) (by omega)
      have h4 := (h.2.2.2.2 (j + 1) h2).2.2.2.2 (by omega)
      rw [Nat.add_sub_cancel] at h4
      omega
theorem rdy_iff' {N : Int} {n : Nat} {K L : Nat → Int} {came : Int} {mm : Nat} (h : TabOk N n K L) (hr : RdyN n K came mm) {i : Nat} (hi : i < n) : K i ≤ came ↔ i < mm := by
  constructor
  · intro hk
    rcases Nat.lt_or_ge i mm with c | c
    · exact c
    · have h1 := hr.2.2 (Nat.lt_of_le_of_lt c hi)
      have h2 := tab_mono' h i c hi
      omega
  · exact hr.2.1 i
set_option maxHeartbeats 2000000 in
set_option maxRecDepth 100000 in
theorem rLong_any (N : Int) (a : Option Addr) (n cap : Nat) (K L : Nat → Int) (w : World) (hT : Tb w a n K L) :
    Calls Try.prog 28 #[.int .i64 N, .slice a n cap] w fun e w' => NumSays N n K L (fun m => m = off K L n) e ∧ Below w.heap.size w w' := by
  have HT := Lib.hid hT; clear hT
  go_enter Try.func28, Try.ntmps28
  go_wp2_with fail
  refine (rRight_any N a n cap K L _ HT.out).mono ?_
  rintro e w1 ⟨⟨v, rfl, hv⟩, q1, hq1⟩
  have HB1 := Lib.hid (show Below w.heap.size w w1 from by rw [hq1]; exact below_dr (Below.refl _ w) q1)
  have HV := Lib.hid hv; clear hv hq1
  cases v
  · go_wp2
    go_ret2
    exact ⟨Or.inl ⟨fun h => absurd (HV.out.2 h) (by simp), rfl⟩, HB1.out⟩
  · have ht := HV.out.1 rfl
    have hn8 := ht.2.2.2.1
    have HTO := Lib.hid ht; clear ht
    go_wp2_with fail
    go_loopw [6, 7] (fun lo i wr => ∃ k : Nat, k ≤ n ∧ i = .int .i64 (k : Nat) ∧ lo = .int .i64 (off K L k : Nat) ∧ Below w.heap.size w wr) (fun _ i _ => n - (intOf i).toNat)
    case atStart => exact ⟨0, by omega, rfl, rfl, HB1.out⟩
    case round =>
      obtain ⟨k, hk, rfl, rfl, hB⟩ := hrel
      have HB := Lib.hid hB
      by_cases hlt : k < n
      · have i1 : (k : Int) < (n : Int) := by omega
        obtain ⟨b, o, ea, c1, c2⟩ := (HT.out.same hB).cell k hlt
        have EA := Lib.hid ea
        have hof : ((off K L k : Nat) : Int) + ((widI (L k) (K k) : Nat) : Int) = ((off K L (k + 1) : Nat) : Int) := by show _ = ((off K L k + widI (L k) (K k) : Nat) : Int); omega
        have HOF := Lib.hid hof
        have h1 := off_le K L k
        have h2 := widI_le (L k) (K k)
        have HRW := Lib.hid (rwid_any (K k) (L k) wr)
        clear hB hof
        subst ea
        go_wp2_with fail
        refine HRW.out.mono ?_
        rintro e w2 ⟨rfl, hB2⟩
        have HB2 := Lib.hid (HB.out.trans (hB2.mono HB.out.size)); clear hB2
        go_wp2
        go_roundw
        case rel => exact ⟨k + 1, by omega, by go_num, by rw [HOF.out], HB2.out⟩
        case measure => simp [intOf]; omega
      · obtain rfl : k = n := by omega
        have i1 : ¬ (k : Int) < (k : Int) := by omega
        go_wp2
        go_ret2
        exact ⟨Or.inr ⟨HTO.out, _, rfl, rfl⟩, HB.out⟩
end Go.Proofs.Ytkejabhjlflknaa.Ly

namespace Go.Proofs.Ytkejabhjlflknaa.Sz
open Go.RowKit Go.Shelf
open Go.Proofs.Ytkejabhjlflknaa.Ly (TabOk RowOk off off_le widI widE widI_le NumSays Tb lLong_any rLong_any)

/-- bounds that are right. -/
def RB (N M B : Int) : Prop := (1 ≤ N ∧ N ≤ 255) ∧ (64 ≤ M ∧ M ≤ 1500) ∧ 1 ≤ B ∧ B ≤ 524288
def bV (N M B : Int) : Value := .agg #[.int .i64 N, .int .i64 M, .int .i64 B]
def RSays (N M B : Int) (e : Ending) : Prop := ∃ v : Bool, e = .returned (.bool v) ∧ (v = true ↔ RB N M B)
set_option maxHeartbeats 2000000 in
set_option maxRecDepth 100000 in
theorem right_any (N M B : Int) (w : World) :
    Calls Try.prog 15 #[bV N M B] w fun e w' => RSays N M B e ∧ Below w.heap.size w w' := by
  have HB := Lib.hid ((Below.refl w.heap.size w).alloc (Nat.le_refl _) (.cells #[.int .i64 N, .int .i64 M, .int .i64 B] 23))
  unfold bV
  go_enter Try.func15, Try.ntmps15
  by_cases h0 : 1 ≤ N
  rotate_left
  · have g0 : decide (1 ≤ N) = false := by simp; omega
    go_wp2
    go_ret
    exact ⟨⟨false, rfl, fun h => (by cases h), fun h => (by unfold RB at h; omega)⟩, HB.out⟩
  have g0 : decide (1 ≤ N) = true := by simp [h0]
  by_cases h1 : N ≤ 255
  rotate_left
  · have g1 : decide (N ≤ 255) = false := by simp; omega
    go_wp2
    go_ret
    exact ⟨⟨false, rfl, fun h => (by cases h), fun h => (by unfold RB at h; omega)⟩, HB.out⟩
  have g1 : decide (N ≤ 255) = true := by simp [h1]
  by_cases h2 : 64 ≤ M
  rotate_left
  · have g2 : decide (64 ≤ M) = false := by simp; omega
    go_wp2
    go_ret
    exact ⟨⟨false, rfl, fun h => (by cases h), fun h => (by unfold RB at h; omega)⟩, HB.out⟩
  have g2 : decide (64 ≤ M) = true := by simp [h2]
  by_cases h3 : M ≤ 1500
  rotate_left
  · have g3 : decide (M ≤ 1500) = false := by simp; omega
    go_wp2
    go_ret
    exact ⟨⟨false, rfl, fun h => (by cases h), fun h => (by unfold RB at h; omega)⟩, HB.out⟩
  have g3 : decide (M ≤ 1500) = true := by simp [h3]
  by_cases h4 : 1 ≤ B
  rotate_left
  · have g4 : decide (1 ≤ B) = false := by simp; omega
    go_wp2
    go_ret
    exact ⟨⟨false, rfl, fun h => (by cases h), fun h => (by unfold RB at h; omega)⟩, HB.out⟩
  have g4 : decide (1 ≤ B) = true := by simp [h4]
  by_cases h5 : B ≤ 524288
  rotate_left
  · have g5 : decide (B ≤ 524288) = false := by simp; omega
    go_wp2
    go_ret
    exact ⟨⟨false, rfl, fun h => (by cases h), fun h => (by unfold RB at h; omega)⟩, HB.out⟩
  have g5 : decide (B ≤ 524288) = true := by simp [h5]
  go_wp2
  go_ret
  exact ⟨⟨true, rfl, fun _ => (by unfold RB; omega), fun _ => rfl⟩, HB.out⟩
set_option maxHeartbeats 2000000 in
set_option maxRecDepth 100000 in
theorem rright_any (N M B : Int) (w : World) :
    Calls Try.prog 16 #[bV N M B] w fun e w' => RSays N M B e ∧ Below w.heap.size w w' := by
  have HB := Lib.hid ((Below.refl w.heap.size w).alloc (Nat.le_refl _) (.cells #[.int .i64 N, .int .i64 M, .int .i64 B] 34))
  unfold bV
  go_enter Try.func16, Try.ntmps16
  by_cases h0 : 1 ≤ N
  rotate_left
  · have g0 : decide (1 ≤ N) = false := by simp; omega
    go_wp2
    go_ret
    exact ⟨⟨false, rfl, fun h => (by cases h), fun h => (by unfold RB at h; omega)⟩, HB.out⟩
  have g0 : decide (1 ≤ N) = true := by simp [h0]
  by_cases h1 : N ≤ 255
  rotate_left
  · have g1 : decide (N ≤ 255) = false := by simp; omega
    go_wp2
    go_ret
    exact ⟨⟨false, rfl, fun h => (by cases h), fun h => (by unfold RB at h; omega)⟩, HB.out⟩
  have g1 : decide (N ≤ 255) = true := by simp [h1]
  by_cases h2 : 64 ≤ M
  rotate_left
  · have g2 : decide (64 ≤ M) = false := by simp; omega
    go_wp2
    go_ret
    exact ⟨⟨false, rfl, fun h => (by cases h), fun h => (by unfold RB at h; omega)⟩, HB.out⟩
  have g2 : decide (64 ≤ M) = true := by simp [h2]
  by_cases h3 : M ≤ 1500
  rotate_left
  · have g3 : decide (M ≤ 1500) = false := by simp; omega
    go_wp2
    go_ret
    exact ⟨⟨false, rfl, fun h => (by cases h), fun h => (by unfold RB at h; omega)⟩, HB.out⟩
  have g3 : decide (M ≤ 1500) = true := by simp [h3]
  by_cases h4 : 1 ≤ B
  rotate_left
  · have g4 : decide (1 ≤ B) = false := by simp; omega
    go_wp2
    go_ret
    exact ⟨⟨false, rfl, fun h => (by cases h), fun h => (by unfold RB at h; omega)⟩, HB.out⟩
  have g4 : decide (1 ≤ B) = true := by simp [h4]
  by_cases h5 : B ≤ 524288
  rotate_left
  · have g5 : decide (B ≤ 524288) = false := by simp; omega
    go_wp2
    go_ret
    exact ⟨⟨false, rfl, fun h => (by cases h), fun h => (by unfold RB at h; omega)⟩, HB.out⟩
  have g5 : decide (B ≤ 524288) = true := by simp [h5]
  go_wp2
  go_ret
  exact ⟨⟨true, rfl, fun _ => (by unfold RB; omega), fun _ => rfl⟩, HB.out⟩
set_option maxHeartbeats 1000000 in
theorem theirs_any (N M B : Int) (w : World) :
    Calls Try.prog 14 #[bV N M B] w fun e w' => e = .returned (bV N M B) ∧ Below w.heap.size w w' := by
  have hb := (Below.refl w.heap.size w).alloc (Nat.le_refl _) (.cells #[.int .i64 N, .int .i64 M, .int .i64 B] 23)
  unfold bV
  go_enter Try.func14, Try.ntmps14
  have hg := heap_alloc_new (w.alloc (.cells #[.int .i64 N, .int .i64 M, .int .i64 B] 23)) (.cells #[.int .i64 N, .int .i64 M, .int .i64 B] 34)
  rw [World.size_alloc] at hg
  have HG := Lib.hid hg; have HB := Lib.hid (hb.alloc (by simp) (.cells #[.int .i64 N, .int .i64 M, .int .i64 B] 34))
  clear hg hb
  go_wp2_with fail
  exact bodyPost_ret (results_cell_row rfl _ _ (w.heap.size + 1) _ _ (0, 0) _ rfl HG.out Try.underlying34 rfl (by kernel_rfl)) rfl ⟨rfl, HB.out⟩
/-- a size, or none. -/
def OfSays (N : Int) (n : Nat) (K L : Nat → Int) (e : Ending) : Prop := (¬ TabOk N n K L ∧ e = .returned (.tuple #[.int .i64 0, .int .i64 2])) ∨ (TabOk N n K L ∧ e = .returned (.tuple #[.int .i64 (18 + 3 * n + off K L n : Nat), .int .i64 0]))
set_option maxHeartbeats 1000000 in
theorem ahead_any (n : Int) (hn : -1000000 ≤ n ∧ n ≤ 1000000) (w : World) :
    Calls Try.prog 27 #[.int .i64 n] w fun e w' => e = .returned (.int .i64 (18 + 3 * n)) ∧ w' = w := by
  go_enter Try.func27, Try.ntmps27
  go_wp2
  go_ret
  exact ⟨rfl, rfl⟩
set_option maxHeartbeats 1000000 in
theorem of_any (N : Int) (a : Option Addr) (n cap : Nat) (K L : Nat → Int) (w : World) (hT : Tb w a n K L) :
    Calls Try.prog 10 #[.int .i64 N, .slice a n cap] w fun e w' => OfSays N n K L e ∧ Below w.heap.size w w' := by
  have HT := Lib.hid hT; clear hT
  go_enter Try.func10, Try.ntmps10
  go_wp2_with fail
  refine (lLong_any N a n cap K L _ HT.out).mono ?_
  rintro e w1 ⟨hns, hB1⟩
  have HB1 := Lib.hid hB1; clear hB1
  rcases hns with ⟨hno, rfl⟩ | ⟨ht, T, rfl, rfl⟩
  · have HNO := Lib.hid hno; clear hno
    go_wp2
    go_ret2
    exact ⟨Or.inl ⟨HNO.out, rfl⟩, HB1.out⟩
  · have h8 := ht.2.2.2.1
    have HTO := Lib.hid ht; clear ht
    have hT1 : off K L n ≤ 8 * 65535 := Nat.le_trans (off_le _ _ n) (Nat.mul_le_mul_right _ h8)
    have hs : (18 : Int) + 3 * (n : Int) + ((off K L n : Nat) : Int) = ((18 + 3 * n + off K L n : Nat) : Int) := by omega
    have HS := Lib.hid hs; clear hs
    go_wp2_with fail
    refine (ahead_any (n : Nat) (by omega) _).mono ?_
    rintro e w2 ⟨rfl, rfl⟩
    go_wp2
    go_ret2
    exact ⟨Or.inr ⟨HTO.out, by rw [← HS.out]; rfl⟩, HB1.out⟩
set_option maxHeartbeats 1000000 in
theorem rof_any (N : Int) (a : Option Addr) (n cap : Nat) (K L : Nat → Int) (w : World) (hT : Tb w a n K L) :
    Calls Try.prog 11 #[.int .i64 N, .slice a n cap] w fun e w' => OfSays N n K L e ∧ Below w.heap.size w w' := by
  have HT := Lib.hid hT; clear hT
  go_enter Try.func11, Try.ntmps11
  go_wp2_with fail
  refine (rLong_any N a n cap K L _ HT.out).mono ?_
  rintro e w1 ⟨hns, hB1⟩
  have HB1 := Lib.hid hB1; clear hB1
  rcases hns with ⟨hno, rfl⟩ | ⟨ht, T, rfl, rfl⟩
  · have HNO := Lib.hid hno; clear hno
    go_wp2
    go_ret2
    exact ⟨Or.inl ⟨HNO.out, rfl⟩, HB1.out⟩
  · have h8 := ht.2.2.2.1
    have HTO := Lib.hid ht; clear ht
    have hT1 : off K L n ≤ 8 * 65535 := Nat.le_trans (off_le _ _ n) (Nat.mul_le_mul_right _ h8)
    have hs : (18 : Int) + 3 * (n : Int) + ((off K L n : Nat) : Int) = ((18 + 3 * n + off K L n : Nat) : Int) := by omega
    have HS := Lib.hid hs; clear hs
    go_wp2
    go_ret2
    exact ⟨Or.inr ⟨HTO.out, by rw [← HS.out]; rfl⟩, HB1.out⟩
/-- how long a body may be. -/
def roomI (N M B y : Int) : Int := max (min M (B / N) - (18 + 3 * y)) (-1)
def RoomSays (N M B y : Int) (e : Ending) : Prop := (¬ (RB N M B ∧ 1 ≤ y ∧ y ≤ 8) ∧ e = .returned (.tuple #[.int .i64 0, .int .i64 2])) ∨ ((RB N M B ∧ 1 ≤ y ∧ y ≤ 8) ∧ e = .returned (.tuple #[.int .i64 (roomI N M B y), .int .i64 0]))
set_option maxHeartbeats 2000000 in
set_option maxRecDepth 100000 in
theorem room_any (N M B y : Int) (w : World) :
    Calls Try.prog 12 #[bV N M B, .int .i64 y] w fun e w' => RoomSays N M B y e ∧ Below w.heap.size w w' := by
  have hb0 := (Below.refl w.heap.size w).alloc (Nat.le_refl _) (.cells #[.int .i64 N, .int .i64 M, .int .i64 B] 23)
  have hh0 := heap_alloc_new w (.cells #[.int .i64 N, .int .i64 M, .int .i64 B] 23)
  unfold bV
  go_enter Try.func12, Try.ntmps12
  have HB0 := Lib.hid hb0; have HH0 := Lib.hid hh0
  clear hb0 hh0
  go_wp2_with fail
  refine (right_any N M B _).mono ?_
  rintro e w1 ⟨⟨v, rfl, hv⟩, hB1⟩
  have HB1 := Lib.hid (HB0.out.trans (hB1.mono HB0.out.size))
  have hh1 := (hB1.block w.heap.size (by simp)).trans HH0.out
  have HV := Lib.hid hv
  clear hv hB1 HH0
  cases v
  · go_wp2
    go_ret2
    exact ⟨Or.inl ⟨fun h => absurd (HV.out.2 h.1) (by simp), rfl⟩, HB1.out⟩
  · have hrb := HV.out.1 rfl
    have HRB := Lib.hid hrb
    by_cases hy1 : y < 1
    · have g1 : decide (y < 1) = true := by simp [hy1]
      go_wp2
      go_ret2
      exact ⟨Or.inl ⟨fun h => by omega, rfl⟩, HB1.out⟩
    · have g1 : decide (y < 1) = false := by simp; omega
      by_cases hy8 : 8 < y
      · have g2 : decide (8 < y) = true := by simp [hy8]
        go_wp2
        go_ret2
        exact ⟨Or.inl ⟨fun h => by omega, rfl⟩, HB1.out⟩
      · have g2 : decide (8 < y) = false := by simp; omega
        unfold RB at hrb
        obtain ⟨⟨n1, n2⟩, ⟨m1, m2⟩, b1, b2⟩ := hrb
        obtain ⟨q, hq⟩ : ∃ q, q = B / N := ⟨_, rfl⟩
        have q0 : 0 ≤ q := by rw [hq]; exact Int.ediv_nonneg (by omega) (by omega)
        have q1 : q ≤ 524288 := by rw [hq]; exact Int.le_trans (Int.ediv_le_self _ (by omega)) b2
        have k1 : B.tdiv N = q := by rw [hq, Int.tdiv_eq_ediv_of_nonneg (by omega)]
        have k2 : B / N = q := hq.symm
        have k3 : ¬ N = 0 := by omega
        have c0 : w1.cell? ⟨w.heap.size, 0, none⟩ = some (.int .i64 N) := by rw [cell_of_row w1 _ 0 _ _ _ hh1]; rfl
        have c1 : w1.cell? ⟨w.heap.size, 1, none⟩ = some (.int .i64 M) := by rw [cell_of_row w1 _ 1 _ _ _ hh1]; rfl
        have c2 : w1.cell? ⟨w.heap.size, 2, none⟩ = some (.int .i64 B) := by rw [cell_of_row w1 _ 2 _ _ _ hh1]; rfl
        have k4 : IntKind.i64.wrap q = q := IntWalk.i64_in _ (by omega)
        have HRM := Lib.hid (show roomI N M B y = max (min M q - (18 + 3 * y)) (-1) by unfold roomI; rw [hq])
        clear hq hh1 g1 g2
        go_wp2_with fail
        go_quiet (fail)
        have HBD := Lib.hid (below_dr HB1.out nq)
        clear c0 c1 c2 k1 k2 k4
        go_wp2_with fail
        all_goals
          refine (ahead_any y (by omega) _).mono ?_
          rintro e w2 ⟨rfl, rfl⟩
          go_wp2
          all_goals
            go_ret2
            refine ⟨Or.inr ⟨⟨HRB.out, by omega⟩, ?_⟩, HBD.out⟩
            rw [HRM.out]
            first
              | (rw [show max (min M q - (18 + 3 * y)) (-1) = q - (18 + 3 * y) by omega]; rfl)
              | (rw [show max (min M q - (18 + 3 * y)) (-1) = M - (18 + 3 * y) by omega]; rfl)
              | (rw [show max (min M q - (18 + 3 * y)) (-1) = -1 by omega]; rfl)
/-- where the room of the document ends. -/
theorem room_top {N M B y r : Int} (hB : RB N M B) (hr : -1 ≤ r) (_hy : 1 ≤ y) : (18 + 3 * y + r + 1 ≤ M ∧ N * (18 + 3 * y + r + 1) ≤ B) ↔ r + 1 ≤ roomI N M B y := by
  unfold RB at hB
  have h1 : N * (18 + 3 * y + r + 1) ≤ B ↔ 18 + 3 * y + r + 1 ≤ B / N := by
    rw [Int.le_ediv_iff_mul_le (by omega), Int.mul_comm]
  rw [h1]
  unfold roomI
  omega
set_option maxHeartbeats 2000000 in
set_option maxRecDepth 100000 in
theorem rroom_any (N M B y : Int) (w : World) :
    Calls Try.prog 13 #[bV N M B, .int .i64 y] w fun e w' => RoomSays N M B y e ∧ Below w.heap.size w w' := by
  have hb0 := (Below.refl w.heap.size w).alloc (Nat.le_refl _) (.cells #[.int .i64 N, .int .i64 M, .int .i64 B] 34)
  have hh0 := heap_alloc_new w (.cells #[.int .i64 N, .int .i64 M, .int .i64 B] 34)
  unfold bV
  go_enter Try.func13, Try.ntmps13
  have HB0 := Lib.hid hb0; have HH0 := Lib.hid hh0
  clear hb0 hh0
  go_wp2_with fail
  refine (rright_any N M B _).mono ?_
  rintro e w1 ⟨⟨v, rfl, hv⟩, hB1⟩
  have HB1 := Lib.hid (HB0.out.trans (hB1.mono HB0.out.size))
  have hh1 := (hB1.block w.heap.size (by simp)).trans HH0.out
  have HV := Lib.hid hv
  clear hv hB1 HH0
  cases v
  · go_wp2
    go_ret2
    exact ⟨Or.inl ⟨fun h => absurd (HV.out.2 h.1) (by simp), rfl⟩, HB1.out⟩
  · have hrb := HV.out.1 rfl
    have HRB := Lib.hid hrb
    by_cases hy1 : y < 1
    · have g1 : decide (y < 1) = true := by simp [hy1]
      go_wp2
      go_ret2
      exact ⟨Or.inl ⟨fun h => by omega, rfl⟩, HB1.out⟩
    · have g1 : decide (y < 1) = false := by simp; omega
      by_cases hy8 : 8 < y
      · have g2 : decide (8 < y) = true := by simp [hy8]
        go_wp2
        go_ret2
        exact ⟨Or.inl ⟨fun h => by omega, rfl⟩, HB1.out⟩
      · have g2 : decide (8 < y) = false := by simp; omega
        unfold RB at hrb
        obtain ⟨⟨n1, n2⟩, ⟨m1, m2⟩, b1, b2⟩ := hrb
        have c0 : w1.cell? ⟨w.heap.size, 0, none⟩ = some (.int .i64 N) := by rw [cell_of_row w1 _ 0 _ _ _ hh1]; rfl
        have c1 : w1.cell? ⟨w.heap.size, 1, none⟩ = some (.int .i64 M) := by rw [cell_of_row w1 _ 1 _ _ _ hh1]; rfl
        have c2 : w1.cell? ⟨w.heap.size, 2, none⟩ = some (.int .i64 B) := by rw [cell_of_row w1 _ 2 _ _ _ hh1]; rfl
        have HRT := Lib.hid (fun (r : Int) (hr : -1 ≤ r) => room_top (y := y) HRB.out hr (by omega))
        have hrm : -1 ≤ roomI N M B y ∧ roomI N M B y ≤ 1500 := by unfold roomI; omega
        have HRM := Lib.hid hrm
        clear hh1 g1 g2 hrm
        go_wp2_with fail
        go_loop [7] (fun i => ∃ r : Int, -1 ≤ r ∧ r ≤ roomI N M B y ∧ i = .int .i64 r) (fun i => (1500 - intOf i).toNat)
        case atStart => exact ⟨-1, by omega, HRM.out.1, rfl⟩
        case round =>
          obtain ⟨r, hr1, hr2, rfl⟩ := hrel
          have hr3 := HRM.out.2
          have hRT := HRT.out r hr1
          have HR2 := Lib.hid hr2
          have hr4 : r ≤ 1500 := by omega
          clear hr2 hr3
          by_cases h1 : 18 + 3 * y + r + 1 ≤ M
          · have g1 : decide (18 + 3 * y + r + 1 ≤ M) = true := by simp [h1]
            obtain ⟨z, hz⟩ : ∃ z, z = 18 + 3 * y + r + 1 := ⟨_, rfl⟩
            obtain ⟨p, hp⟩ : ∃ p, p = N * z := ⟨_, rfl⟩
            have hz0 : 0 ≤ z := by omega
            have p0 : 0 ≤ p := by rw [hp]; exact Int.mul_nonneg (by omega) hz0
            have p1 : p ≤ 255 * 1500 := by rw [hp]; exact Int.le_trans (Int.mul_le_mul_of_nonneg_right n2 hz0) (by omega)
            have k1 : N * (18 + 3 * y + r + 1) = p := by rw [hp, hz]
            rw [k1] at hRT
            by_cases h2 : p ≤ B
            · have g2 : decide (p ≤ B) = true := by simp [h2]
              have h3 := hRT.1 ⟨h1, h2⟩
              have H3 := Lib.hid h3
              have h5 : r + 1 ≤ 1500 := by have := HRM.out.2; omega
              clear h3 hRT hz hp
              go_wp2
              go_round
              case rel => exact ⟨r + 1, by omega, H3.out, by go_num⟩
              case measure => simp [intOf]; omega
            · have g2 : decide (p ≤ B) = false := by simp; omega
              have H3 := Lib.hid (show roomI N M B y = r by
                have h4 : ¬ r + 1 ≤ roomI N M B y := fun h => h2 (hRT.2 h).2
                have := HR2.out
                omega)
              clear hRT hz hp
              go_wp2
              go_ret2
              exact ⟨Or.inr ⟨⟨HRB.out, by omega⟩, by rw [H3.out]; rfl⟩, HB1.out⟩
          · have g1 : decide (18 + 3 * y + r + 1 ≤ M) = false := by simp; omega
            have H3 := Lib.hid (show roomI N M B y = r by
              have h4 : ¬ r + 1 ≤ roomI N M B y := fun h => h1 (hRT.2 h).1
              have := HR2.out
              omega)
            clear hRT
            go_wp2
            go_ret2
            exact ⟨Or.inr ⟨⟨HRB.out, by omega⟩, by rw [H3.out]; rfl⟩, HB1.out⟩
end Go.Proofs.Ytkejabhjlflknaa.Sz

namespace Go.Proofs.Ytkejabhjlflknaa.Sz
open Go.RowKit Go.Shelf
open Go.Proofs.Ytkejabhjlflknaa.Ly (TabOk RowOk off off_le off_mono widI widE widI_le width_any lst Tb)
open Go.Proofs.Ytkejabhjlflknaa.Sp (Bad)

/-- a closure that answers a number of each place. -/
structure AskN (w0 : World) (cf n : Nat) (caps : Array Value) (K : Nat → Int) : Prop where
  ent : ∀ (args : Array Value) (W : World), (callFunc cf args).run Try.prog W = .ok (.enter cf args) W
  call : ∀ W, Below w0.heap.size w0 W → ∀ j : Nat, j < n → Calls Try.prog cf (#[.int .i64 (j : Nat)] ++ caps) W fun e W' => e = .returned (.int .i64 (K j)) ∧ W' = W
theorem AskN.same {w0 W : World} {cf n : Nat} {caps : Array Value} {K : Nat → Int} (h : AskN w0 cf n caps K) (hB : Below w0.heap.size w0 W) : AskN W cf n caps K := ⟨h.ent, fun X hX j hj => h.call X (hB.trans (hX.mono hB.size)) j hj⟩
set_option maxHeartbeats 1000000 in
theorem of1_n (a : Option Addr) (n cap lb k : Nat) (K : Nat → Int) (hk : k < n) (w : World) (hb : w.cell? ⟨lb, 0, none⟩ = some (.slice a n cap)) (hS : Si w a n K) :
    Calls Try.prog 40 #[.int .i64 (k : Nat), .pointer (some ⟨lb, 0, none⟩)] w fun e w' => e = .returned (.int .i64 (K k)) ∧ w' = w := by
  obtain ⟨b, o, ea, hc⟩ := hS.cell k hk
  have i1 : (k : Int) < (n : Int) := by omega
  subst ea
  clear hS
  go_enter Try.func40, Try.ntmps40
  go_wp2
  go_ret
  exact ⟨rfl, rfl⟩
set_option maxHeartbeats 1000000 in
theorem all1_n (x j : Int) (lb : Nat) (w : World) (hb : w.cell? ⟨lb, 0, none⟩ = some (.int .i64 x)) :
    Calls Try.prog 42 #[.int .i64 j, .pointer (some ⟨lb, 0, none⟩)] w fun e w' => e = .returned (.int .i64 x) ∧ w' = w := by
  go_enter Try.func42, Try.ntmps42
  go_wp2
  go_ret
  exact ⟨rfl, rfl⟩
def ClSays (w : World) (n : Nat) (K : Nat → Int) (e : Ending) (w' : World) : Prop := ∃ cf caps, e = .returned (.func (.func cf) #[] caps) ∧ AskN w' cf n caps K ∧ Below w.heap.size w w'
set_option maxHeartbeats 1000000 in
theorem of_n (a : Option Addr) (n cap : Nat) (K : Nat → Int) (w : World) (hS : Si w a n K) :
    Calls Try.prog 30 #[.slice a n cap] w (ClSays w n K) := by
  have hmf : ∀ (fn : Fn) (first cap : Array Value) (w : World), (Instr.makeFunc fn first cap).run Try.prog w = .ok (.func fn first cap) w := fun _ _ _ _ => rfl
  have hB : Below w.heap.size w (w.alloc (.cells #[.slice a n cap] 25)) := (Below.refl _ w).alloc (Nat.le_refl _) _
  have hb : (w.alloc (.cells #[.slice a n cap] 25)).heap[w.heap.size]? = some (.cells #[.slice a n cap] 25 (0, 0)) := heap_alloc_new _ _
  have HA := Lib.hid (show AskN (w.alloc (.cells #[.slice a n cap] 25)) 40 n #[.pointer (some ⟨w.heap.size, 0, none⟩)] K from ⟨fun _ _ => by kernel_rfl, fun W hW j hj => of1_n a n cap w.heap.size j K hj W (by rw [cell_of_row W _ 0 _ _ _ ((hW.block _ (Array.getElem?_eq_some_iff.1 hb).1).trans hb)]; rfl) ⟨fun i hi => by
    obtain ⟨b, o, e, h1⟩ := hS.cell i hi
    exact ⟨b, o, e, by rw [hW.cell (World.block_lt_of_cell? _ _ ((hB.cell (World.block_lt_of_cell? _ _ h1)).trans h1)), hB.cell (World.block_lt_of_cell? _ _ h1)]; exact h1⟩⟩⟩)
  have HB := Lib.hid hB
  clear hB hb hS
  go_enter Try.func30, Try.ntmps30
  go_wp2_with fail
  go_ret
  exact ⟨_, _, rfl, HA.out, HB.out⟩
set_option maxHeartbeats 1000000 in
theorem all_n (x : Int) (n : Nat) (w : World) :
    Calls Try.prog 33 #[.int .i64 x] w (ClSays w n fun _ => x) := by
  have hmf : ∀ (fn : Fn) (first cap : Array Value) (w : World), (Instr.makeFunc fn first cap).run Try.prog w = .ok (.func fn first cap) w := fun _ _ _ _ => rfl
  have hB : Below w.heap.size w (w.alloc (.cells #[.int .i64 x] 3)) := (Below.refl _ w).alloc (Nat.le_refl _) _
  have hb : (w.alloc (.cells #[.int .i64 x] 3)).heap[w.heap.size]? = some (.cells #[.int .i64 x] 3 (0, 0)) := heap_alloc_new _ _
  have HA := Lib.hid (show AskN (w.alloc (.cells #[.int .i64 x] 3)) 42 n #[.pointer (some ⟨w.heap.size, 0, none⟩)] (fun _ => x) from ⟨fun _ _ => by kernel_rfl, fun W hW j hj => all1_n x (j : Nat) w.heap.size W (by rw [cell_of_row W _ 0 _ _ _ ((hW.block _ (Array.getElem?_eq_some_iff.1 hb).1).trans hb)]; rfl)⟩)
  have HB := Lib.hid hB
  clear hB hb
  go_enter Try.func33, Try.ntmps33
  go_wp2_with fail
  go_ret
  exact ⟨_, _, rfl, HA.out, HB.out⟩
theorem row_iff {N : Int} {K L : Nat → Int} (hN : N ≤ 255) : ∀ k, RowOk N K L k ↔ ¬ Bad (L k) (K k) ∧ ¬ K k < lst K k ∧ ¬ N < K k
  | 0 => by
    show (1 ≤ K 0 ∧ K 0 ≤ N ∧ 0 ≤ L 0 ∧ L 0 ≤ 65535 ∧ (0 < 0 → _)) ↔ ¬ Bad (L 0) (K 0) ∧ ¬ K 0 < 1 ∧ ¬ N < K 0
    unfold Bad
    constructor
    · rintro ⟨h1, h2, h3, h4, _⟩; omega
    · rintro ⟨h1, h2, h3⟩; exact ⟨by omega, by omega, by omega, by omega, fun h => absurd h (Nat.lt_irrefl _)⟩
  | k + 1 => by
    show (1 ≤ K (k + 1) ∧ K (k + 1) ≤ N ∧ 0 ≤ L (k + 1) ∧ L (k + 1) ≤ 65535 ∧ (0 < k + 1 → K k ≤ K (k + 1))) ↔ ¬ Bad (L (k + 1)) (K (k + 1)) ∧ ¬ K (k + 1) < K k ∧ ¬ N < K (k + 1)
    unfold Bad
    constructor
    · rintro ⟨h1, h2, h3, h4, h5⟩; have := h5 (by omega); omega
    · rintro ⟨h1, h2, h3⟩; exact ⟨by omega, by omega, by omega, by omega, fun _ => by omega⟩
/-- thresholds fit. -/
def FitP (N M B : Int) (n : Nat) (K L : Nat → Int) : Prop := RB N M B ∧ TabOk N n K L ∧ ((off K L n : Nat) : Int) ≤ roomI N M B n
def FitSays (N M B : Int) (n : Nat) (K L : Nat → Int) (e : Ending) : Prop := ∃ v : Bool, e = .returned (.bool v) ∧ (v = true ↔ FitP N M B n K L)
theorem FitSays.no {N M B : Int} {n : Nat} {K L : Nat → Int} (h : ¬ FitP N M B n K L) : FitSays N M B n K L (.returned (.bool false)) := ⟨false, rfl, fun e => (by cases e), fun e => absurd e h⟩

set_option maxHeartbeats 4000000 in
set_option maxRecDepth 100000 in
theorem hold_any (N M B : Int) (n cf cg : Nat) (ca cb : Array Value) (K L : Nat → Int) (hn : n ≤ 140737488355328) (w : World) (hL : AskN w cf n ca L) (hK : AskN w cg n cb K) :
    Calls Try.prog 29 #[bV N M B, .int .i64 (n : Nat), .func (.func cf) #[] ca, .func (.func cg) #[] cb] w fun e w' => FitSays N M B n K L e ∧ Below w.heap.size w w' := by
  have hb0 := (Below.refl w.heap.size w).alloc (Nat.le_refl _) (.cells #[.int .i64 N, .int .i64 M, .int .i64 B] 23)
  have hh0 := heap_alloc_new w (.cells #[.int .i64 N, .int .i64 M, .int .i64 B] 23)
  have HL := Lib.hid hL; have HK := Lib.hid hK; clear hL hK
  have hent1 := HL.out.ent; have hent2 := HK.out.ent
  unfold bV
  go_enter Try.func29, Try.ntmps29
  have HB0 := Lib.hid hb0; have HH0 := Lib.hid hh0
  clear hb0 hh0
  go_wp2_with fail
  refine (room_any N M B (n : Nat) _).mono ?_
  rintro e w1 ⟨hro, hB1⟩
  have HB1 := Lib.hid (HB0.out.trans (hB1.mono HB0.out.size))
  have HH1 := Lib.hid ((hB1.block w.heap.size (by simp)).trans HH0.out)
  clear hB1 HH0
  rcases hro with ⟨hno, rfl⟩ | ⟨⟨hrb, hn1, hn8⟩, rfl⟩
  · have HNO := Lib.hid (show ¬ FitP N M B n K L from fun h => hno ⟨h.1, by have := h.2.1.2.2; omega⟩)
    clear hno
    go_wp2
    go_ret
    exact ⟨FitSays.no HNO.out, HB1.out⟩
  have HRB := Lib.hid hrb
  have hrm : -1 ≤ roomI N M B n ∧ roomI N M B n ≤ 1500 := by unfold RB at hrb; unfold roomI; omega
  obtain ⟨R, hR⟩ : ∃ R, R = roomI N M B n := ⟨_, rfl⟩
  rw [← hR] at hrm ⊢
  have HR := Lib.hid hR
  obtain ⟨hr1, hr2⟩ := hrm
  have hN : 1 ≤ N ∧ N ≤ 255 := by unfold RB at hrb; omega
  clear hR hrb
  go_wp2_with fail
  go_loopw [9, 11, 24] (fun room least i wr => ∃ k : Nat, k ≤ n ∧ i = .int .i64 (k : Nat) ∧ room = .int .i64 (R - (off K L k : Nat)) ∧ least = .int .i64 (lst K k) ∧ (∀ j, j < k → RowOk N K L j) ∧ Below w1.heap.size w1 wr) (fun _ _ i _ => n - (intOf i).toNat)
  case atStart => exact ⟨0, by omega, rfl, by simp [off], rfl, fun j hj => absurd hj (Nat.not_lt_zero j), Below.refl _ _⟩
  case round =>
    obtain ⟨k, hk, rfl, rfl, rfl, hall, hB⟩ := hrel
    have HALL := Lib.hid hall; have HB := Lib.hid hB
    clear hall hB
    by_cases hkn : k < n
    · have i1 : (k : Int) < (n : Int) := by omega
      have hBw := HB1.out.trans (HB.out.mono HB1.out.size)
      have HC1 := Lib.hid (HL.out.call _ hBw k hkn); have HC2 := Lib.hid (HK.out.call _ hBw k hkn)
      have HC3 := Lib.hid (fun q => HK.out.call _ (below_dr hBw q) k hkn)
      have hc0 : ∀ q, (wr.drewN q).cell? ⟨w.heap.size, 0, none⟩ = some (.int .i64 N) := fun q => by
        have hb2 := below_dr HB.out q
        rw [cell_of_row _ _ 0 _ _ _ ((hb2.block _ (Array.getElem?_eq_some_iff.1 HH1.out).1).trans HH1.out)]; rfl
      have HBW := Lib.hid hBw
      have ho := off_le K L k
      have ho2 : off K L k ≤ 8 * 65535 := Nat.le_trans ho (Nat.mul_le_mul_right _ (by omega))
      clear hBw ho
      go_wp2_with fail
      refine HC1.out.mono ?_
      rintro e w2 ⟨rfl, rfl⟩
      go_wp2_with fail
      refine HC2.out.mono ?_
      rintro e w3 ⟨rfl, rfl⟩
      go_wp2_with fail
      refine (width_any (L k) (K k) _).mono ?_
      rintro e w4 ⟨rfl, rfl⟩
      have hri := row_iff (N := N) (K := K) (L := L) hN.2 k
      have HRI := Lib.hid hri
      clear hri
      by_cases hbad : Bad (L k) (K k)
      · have HX := Lib.hid (show ¬ FitP N M B n K L from fun h => (HRI.out.1 (h.2.1.2.2.2.2 k hkn)).1 hbad)
        rw [show widE (L k) (K k) = 2 from if_pos hbad]
        clear hbad
        go_wp2_with fail
        go_quiet (fail)
        go_wp2
        go_ret
        exact ⟨FitSays.no HX.out, below_dr HBW.out _⟩
      · rw [show widE (L k) (K k) = 0 from if_neg hbad]
        by_cases h1 : K k < lst K k
        · have g1 : decide (K k < lst K k) = true := by simp [h1]
          have HX := Lib.hid (show ¬ FitP N M B n K L from fun h => (HRI.out.1 (h.2.1.2.2.2.2 k hkn)).2.1 h1)
          clear hbad h1
          go_wp2_with fail
          go_quiet ((exact Calls.quiet_of_same (HC3.out _)))
          go_wp2
          go_ret
          exact ⟨FitSays.no HX.out, below_dr HBW.out _⟩
        · have g1 : decide (K k < lst K k) = false := by simp; omega
          by_cases h2 : N < K k
          · have g2 : decide (N < K k) = true := by simp [h2]
            have HX := Lib.hid (show ¬ FitP N M B n K L from fun h => (HRI.out.1 (h.2.1.2.2.2.2 k hkn)).2.2 h2)
            clear hbad h1 h2
            go_wp2_with fail
            go_quiet ((exact Calls.quiet_of_same (HC3.out _)))
            go_wp2
            go_ret
            exact ⟨FitSays.no HX.out, below_dr HBW.out _⟩
          · have g2 : decide (N < K k) = false := by simp; omega
            have HX := Lib.hid (HRI.out.2 ⟨hbad, h1, h2⟩)
            have hwl := widI_le (L k) (K k)
            have hof : R - ((off K L k : Nat) : Int) - ((widI (L k) (K k) : Nat) : Int) = R - ((off K L (k + 1) : Nat) : Int) := by
              have : off K L (k + 1) = off K L k + widI (L k) (K k) := rfl
              omega
            have HOF := Lib.hid hof
            clear hbad h1 h2 hof
            go_wp2_with fail
            go_quiet ((exact Calls.quiet_of_same (HC3.out _)))
            have HB4 := Lib.hid (below_dr HB.out nq)
            have HC4 := Lib.hid (HC3.out nq)
            clear g1 g2 hc0
            go_wp2_with fail
            refine HC4.out.mono ?_
            rintro e w5 ⟨rfl, hw5⟩
            have HB5 := Lib.hid (show Below w1.heap.size w1 w5 by rw [hw5]; exact HB4.out)
            clear hw5
            go_wp2
            go_roundw
            case rel => exact ⟨k + 1, by omega, by go_num, by rw [← HOF.out], rfl, fun j hj => by
              by_cases e : j = k
              · rw [e]; exact HX.out
              · exact HALL.out j (by omega), HB5.out⟩
            case measure => simp [intOf]; omega
    · obtain rfl : k = n := by omega
      have i1 : ¬ (k : Int) < (k : Int) := by omega
      have ho2 : off K L k ≤ 8 * 65535 := Nat.le_trans (off_le K L k) (Nat.mul_le_mul_right _ (by omega))
      have HT := Lib.hid (show TabOk N k K L from ⟨hN.1, hN.2, by omega, by omega, HALL.out⟩)
      go_wp2
      go_ret
      refine ⟨⟨_, rfl, ?_⟩, HB1.out.trans (HB.out.mono HB1.out.size)⟩
      unfold FitP
      rw [← HR.out, decide_eq_true_iff]
      constructor
      · intro h; exact ⟨HRB.out, HT.out, by omega⟩
      · intro h; have := h.2.2; omega
end Go.Proofs.Ytkejabhjlflknaa.Sz

namespace Go.Proofs.Ytkejabhjlflknaa.Sz
open Go.RowKit Go.Shelf
open Go.Proofs.Ytkejabhjlflknaa.Ly (TabOk RowOk off off_le off_mono widI widE widI_le width_any lst Tb)
open Go.Proofs.Ytkejabhjlflknaa.Sp (Bad)

theorem box3 {W : World} {g : Nat} {N M B : Int} {t : TypeId} (h : W.heap[g]? = some (.cells #[.int .i64 N, .int .i64 M, .int .i64 B] t (0, 0))) : W.cell? ⟨g, 0, none⟩ = some (.int .i64 N) ∧ W.cell? ⟨g, 1, none⟩ = some (.int .i64 M) ∧ W.cell? ⟨g, 2, none⟩ = some (.int .i64 B) :=
  ⟨by rw [cell_of_row W g 0 _ _ _ h]; rfl, by rw [cell_of_row W g 1 _ _ _ h]; rfl, by rw [cell_of_row W g 2 _ _ _ h]; rfl⟩
/-- whether so many thresholds fit. -/
def FtSays (N M B : Int) (n m : Nat) (K L : Nat → Int) (e : Ending) : Prop := ∃ v : Bool, e = .returned (.bool v) ∧ (v = true ↔ n = m ∧ FitP N M B n K L)
set_option maxHeartbeats 4000000 in
set_option maxRecDepth 100000 in
theorem fits_any (N M B : Int) (la ka : Option Addr) (n lc m kc : Nat) (K L : Nat → Int) (hn : n ≤ 140737488355328) (w : World) (hL : Si w la n L) (hK : Si w ka m K) :
    Calls Try.prog 17 #[bV N M B, .slice la n lc, .slice ka m kc] w fun e w' => FtSays N M B n m K L e ∧ Below w.heap.size w w' := by
  have hb0 := (Below.refl w.heap.size w).alloc (Nat.le_refl _) (.cells #[.int .i64 N, .int .i64 M, .int .i64 B] 23)
  have hh0 := heap_alloc_new w (.cells #[.int .i64 N, .int .i64 M, .int .i64 B] 23)
  have HL := Lib.hid hL; have HK := Lib.hid hK
  have HW := Lib.hid (show (fun W => W.heap[w.heap.size]? = some (.cells #[.int .i64 N, .int .i64 M, .int .i64 B] 23 (0, 0)) ∧ Below w.heap.size w W) ((w.alloc (.cells #[.int .i64 N, .int .i64 M, .int .i64 B] 23)).drew) from ⟨hh0, hb0.drew⟩)
  have HB0 := Lib.hid hb0
  clear hL hK hb0 hh0
  unfold bV
  go_enter Try.func17, Try.ntmps17
  by_cases hnm : n = m
  · subst hnm
    have g0 : ((n : Int) == (n : Int)) = true := by simp
    go_wp2_with fail
    refine wp_region_held_drew (S := fun W => W.heap[w.heap.size]? = some (.cells #[.int .i64 N, .int .i64 M, .int .i64 B] 23 (0, 0)) ∧ Below w.heap.size w W) (by kernel_rfl) (HW.out) (fun hHeld => ?_)
    refine wpAnyH_take (i := 0) (oi := ⟨some 7, _, _, _, _, none⟩) (v := (.slice la n lc)) rfl (by kernel_rfl) (by kernel_rfl) (by kernel_rfl) (fun _ _ _ h => h) (Or.inl ⟨by rfl, fun W hW => ?_⟩) (by assumption) ?_
    · go_simp
    simp only [Act.put, List.setIfInBounds_toArray, List.set_cons_zero, List.set_cons_succ]
    refine wpAnyH_take (i := 1) (oi := ⟨some 8, _, _, _, _, none⟩) (v := (.int .i64 (n : Nat))) rfl (by kernel_rfl) (by kernel_rfl) (by kernel_rfl) (fun _ _ _ h => h) (Or.inl ⟨by rfl, fun W hW => ?_⟩) (by assumption) ?_
    · go_simp
    simp only [Act.put, List.setIfInBounds_toArray, List.set_cons_zero, List.set_cons_succ]
    refine wpAnyH_take (i := 2) (oi := ⟨some 9, _, _, _, _, none⟩) (v := (.slice ka n kc)) rfl (by kernel_rfl) (by kernel_rfl) (by kernel_rfl) (fun _ _ _ h => h) (Or.inl ⟨by rfl, fun W hW => ?_⟩) (by assumption) ?_
    · go_simp
    simp only [Act.put, List.setIfInBounds_toArray, List.set_cons_zero, List.set_cons_succ]
    refine wpAnyH_take (i := 3) (oi := ⟨some 10, _, _, _, _, none⟩) (v := (.int .i64 (n : Nat))) rfl (by kernel_rfl) (by kernel_rfl) (by kernel_rfl) (fun _ _ _ h => h) (Or.inl ⟨by rfl, fun W hW => ?_⟩) (by assumption) ?_
    · go_simp
    simp only [Act.put, List.setIfInBounds_toArray, List.set_cons_zero, List.set_cons_succ]
    refine wpAnyH_take (i := 4) (oi := ⟨some 11, _, _, _, _, none⟩) (v := (.bool true)) rfl (by kernel_rfl) (by kernel_rfl) (by kernel_rfl) (fun _ _ _ h => h) (Or.inl ⟨by rfl, fun W hW => ?_⟩) (by assumption) ?_
    · go_simp
    simp only [Act.put, List.setIfInBounds_toArray, List.set_cons_zero, List.set_cons_succ]
    refine wpAnyH_take (i := 5) (oi := ⟨some 12, _, _, _, _, none⟩) (v := (.bool true)) rfl (by kernel_rfl) (by kernel_rfl) (by kernel_rfl) (fun _ _ _ h => h) (Or.inl ⟨by rfl, fun W hW => ?_⟩) (by assumption) ?_
    · go_simp
    simp only [Act.put, List.setIfInBounds_toArray, List.set_cons_zero, List.set_cons_succ]
    refine wpAnyH_take (i := 6) (oi := ⟨some 13, _, _, _, _, some (5, true)⟩) (v := (bV N M B)) rfl (by kernel_rfl) (by kernel_rfl) (by kernel_rfl) (fun _ _ _ h => h) (Or.inl ⟨by rfl, fun W hW => ?_⟩) (by assumption) ?_
    · (obtain ⟨c0, c1, c2⟩ := box3 hW.1; go_simp; try rfl)
    simp only [Act.put, List.setIfInBounds_toArray, List.set_cons_zero, List.set_cons_succ]
    refine wpAnyH_take (i := 7) (oi := ⟨some 14, _, _, _, _, some (5, true)⟩) (v := (.slice la n lc)) rfl (by kernel_rfl) (by kernel_rfl) (by kernel_rfl) (fun _ _ _ h => h) (Or.inl ⟨by rfl, fun W hW => ?_⟩) (by assumption) ?_
    · go_simp
    simp only [Act.put, List.setIfInBounds_toArray, List.set_cons_zero, List.set_cons_succ]
    refine wpAnyH_take (i := 8) (oi := ⟨some 15, _, _, _, _, some (5, true)⟩) (v := (.int .i64 (n : Nat))) rfl (by kernel_rfl) (by kernel_rfl) (by kernel_rfl) (fun _ _ _ h => h) (Or.inl ⟨by rfl, fun W hW => ?_⟩) (by assumption) ?_
    · go_simp
    simp only [Act.put, List.setIfInBounds_toArray, List.set_cons_zero, List.set_cons_succ]
    refine wpAnyH_take (i := 9) (oi := ⟨some 16, _, _, _, _, some (5, true)⟩) (v := (.slice la n lc)) rfl (by kernel_rfl) (by kernel_rfl) (by kernel_rfl) (fun _ _ _ h => h) (Or.inl ⟨by rfl, fun W hW => ?_⟩) (by assumption) ?_
    · go_simp
    simp only [Act.put, List.setIfInBounds_toArray, List.set_cons_zero, List.set_cons_succ]
    refine wpAnyH_take (i := 11) (oi := ⟨some 18, _, _, _, _, some (5, true)⟩) (v := (.slice ka n kc)) rfl (by kernel_rfl) (by kernel_rfl) (by kernel_rfl) (fun _ _ _ h => h) (Or.inl ⟨by rfl, fun W hW => ?_⟩) (by assumption) ?_
    · go_simp
    simp only [Act.put, List.setIfInBounds_toArray, List.set_cons_zero, List.set_cons_succ]
    refine wpAnyH_ready (rs := [10]) (by kernel_rfl) (by simp) (AllReadyH.cons rfl (fun KK hKK => ?_) AllReadyH.nil)
    go_simp
    refine (of_n la n lc L _ (HL.out.same (HW.out.2))).mono ?_
    rintro e w1 ⟨cf1, cp1, rfl, ha1, hb1⟩
    dsimp only
    have HA1 := Lib.hid ha1; have hW0 := HW.out
    have HWB := Lib.hid hb1
    have HW := Lib.hid (show _ ∧ _ from ⟨(hb1.block _ (Array.getElem?_eq_some_iff.1 HW.out.1).1).trans HW.out.1, HW.out.2.trans (hb1.mono HW.out.2.size)⟩)
    clear hW0 ha1
    refine hKK.out _ _ (HW.out) (fun hHeld => ?_)
    clear hKK KK
    try simp only [Act.put, List.setIfInBounds_toArray, List.set_cons_zero, List.set_cons_succ]
    refine wpAnyH_ready (rs := [12]) (by kernel_rfl) (by simp) (AllReadyH.cons rfl (fun KK hKK => ?_) AllReadyH.nil)
    go_simp
    refine (of_n ka n kc K _ (HK.out.same (HW.out.2))).mono ?_
    rintro e w2 ⟨cf2, cp2, rfl, ha2, hb2⟩
    dsimp only
    have HA2 := Lib.hid ha2; have hW0 := HW.out
    have HA1 := Lib.hid (HA1.out.same hb2)
    have HW := Lib.hid (show _ ∧ _ from ⟨(hb2.block _ (Array.getElem?_eq_some_iff.1 HW.out.1).1).trans HW.out.1, HW.out.2.trans (hb2.mono HW.out.2.size)⟩)
    clear hW0 ha2
    refine hKK.out _ _ (HW.out) (fun hHeld => ?_)
    clear hKK KK
    try simp only [Act.put, List.setIfInBounds_toArray, List.set_cons_zero, List.set_cons_succ]
    refine wpAnyH_ready (rs := [13]) (by kernel_rfl) (by simp) (AllReadyH.cons rfl (fun KK hKK => ?_) AllReadyH.nil)
    go_simp
    refine (hold_any N M B n cf1 cf2 cp1 cp2 K L hn _ HA1.out HA2.out).mono ?_
    rintro e w3 ⟨⟨v, rfl, hv⟩, hb3⟩
    dsimp only
    have HV := Lib.hid hv; have hW0 := HW.out
    have HW := Lib.hid (show _ ∧ _ from ⟨(hb3.block _ (Array.getElem?_eq_some_iff.1 HW.out.1).1).trans HW.out.1, HW.out.2.trans (hb3.mono HW.out.2.size)⟩)
    clear hW0 hv
    refine hKK.out _ _ (HW.out) (fun hHeld => ?_)
    clear hKK KK
    try simp only [Act.put, List.setIfInBounds_toArray, List.set_cons_zero, List.set_cons_succ]
    refine wpAnyH_take (i := 14) (oi := ⟨some 21, _, _, _, _, none⟩) (v := (.bool v)) rfl (by kernel_rfl) (by kernel_rfl) (by kernel_rfl) (fun _ _ _ h => h) (Or.inl ⟨by rfl, fun W hW => ?_⟩) (by assumption) ?_
    · cases v <;> go_simp
    simp only [Act.put, List.setIfInBounds_toArray, List.set_cons_zero, List.set_cons_succ]
    refine wpAnyH_ready (rs := [15]) (by kernel_rfl) (by simp) (AllReadyH.cons rfl (fun KK hKK => ?_) AllReadyH.nil)
    go_simp
    refine hKK.out _ _ (HW.out) (fun hHeld => ?_)
    clear hKK KK
    try simp only [Act.put, List.setIfInBounds_toArray, List.set_cons_zero, List.set_cons_succ]
    refine wpAnyH_done (by kernel_rfl) ?_ _
    go_wp2
    go_ret
    exact ⟨⟨v, rfl, fun h => ⟨rfl, HV.out.1 h⟩, fun h => HV.out.2 h.2⟩, HW.out.2⟩
  · have g0 : ((n : Int) == (m : Int)) = false := by simp; omega
    have HX := Lib.hid hnm; clear hnm
    go_wp2_with fail
    go_quiet (fail)
    go_wp2
    go_ret
    exact ⟨⟨false, rfl, fun h => (by cases h), fun h => absurd h.1 HX.out⟩, below_dr HB0.out _⟩
set_option maxHeartbeats 4000000 in
set_option maxRecDepth 100000 in
theorem can_any (N M B : Int) (la : Option Addr) (n lc : Nat) (L : Nat → Int) (hn : n ≤ 140737488355328) (w : World) (hL : Si w la n L) :
    Calls Try.prog 22 #[bV N M B, .slice la n lc] w fun e w' => FitSays N M B n (fun _ => N) L e ∧ Below w.heap.size w w' := by
    have hb0 := (Below.refl w.heap.size w).alloc (Nat.le_refl _) (.cells #[.int .i64 N, .int .i64 M, .int .i64 B] 23)
    have hh0 := heap_alloc_new w (.cells #[.int .i64 N, .int .i64 M, .int .i64 B] 23)
    have HL := Lib.hid hL
    have HW := Lib.hid (show (fun W => W.heap[w.heap.size]? = some (.cells #[.int .i64 N, .int .i64 M, .int .i64 B] 23 (0, 0)) ∧ Below w.heap.size w W) ((w.alloc (.cells #[.int .i64 N, .int .i64 M, .int .i64 B] 23)).drew) from ⟨hh0, hb0.drew⟩)
    clear hL hb0 hh0
    unfold bV
    go_enter Try.func22, Try.ntmps22
    go_wp2_with fail
    refine wp_region_held_drew (S := fun W => W.heap[w.heap.size]? = some (.cells #[.int .i64 N, .int .i64 M, .int .i64 B] 23 (0, 0)) ∧ Below w.heap.size w W) (by kernel_rfl) (HW.out) (fun hHeld => ?_)
    refine wpAnyH_take (i := 0) (oi := ⟨some 5, _, _, _, _, none⟩) (v := (bV N M B)) rfl (by kernel_rfl) (by kernel_rfl) (by kernel_rfl) (fun _ _ _ h => h) (Or.inl ⟨by rfl, fun W hW => ?_⟩) (by assumption) ?_
    · (obtain ⟨c0, c1, c2⟩ := box3 hW.1; go_simp; try rfl)
    simp only [Act.put, List.setIfInBounds_toArray, List.set_cons_zero, List.set_cons_succ]
    refine wpAnyH_take (i := 1) (oi := ⟨some 6, _, _, _, _, none⟩) (v := (.slice la n lc)) rfl (by kernel_rfl) (by kernel_rfl) (by kernel_rfl) (fun _ _ _ h => h) (Or.inl ⟨by rfl, fun W hW => ?_⟩) (by assumption) ?_
    · go_simp
    simp only [Act.put, List.setIfInBounds_toArray, List.set_cons_zero, List.set_cons_succ]
    refine wpAnyH_take (i := 2) (oi := ⟨some 7, _, _, _, _, none⟩) (v := (.int .i64 (n : Nat))) rfl (by kernel_rfl) (by kernel_rfl) (by kernel_rfl) (fun _ _ _ h => h) (Or.inl ⟨by rfl, fun W hW => ?_⟩) (by assumption) ?_
    · go_simp
    simp only [Act.put, List.setIfInBounds_toArray, List.set_cons_zero, List.set_cons_succ]
    refine wpAnyH_take (i := 3) (oi := ⟨some 8, _, _, _, _, none⟩) (v := (.slice la n lc)) rfl (by kernel_rfl) (by kernel_rfl) (by kernel_rfl) (fun _ _ _ h => h) (Or.inl ⟨by rfl, fun W hW => ?_⟩) (by assumption) ?_
    · go_simp
    simp only [Act.put, List.setIfInBounds_toArray, List.set_cons_zero, List.set_cons_succ]
    refine wpAnyH_take (i := 5) (oi := ⟨some 10, _, _, _, _, none⟩) (v := (.pointer (some ⟨w.heap.size, 0, none⟩))) rfl (by kernel_rfl) (by kernel_rfl) (by kernel_rfl) (fun _ _ _ h => h) (Or.inl ⟨by rfl, fun W hW => ?_⟩) (by assumption) ?_
    · go_simp
    simp only [Act.put, List.setIfInBounds_toArray, List.set_cons_zero, List.set_cons_succ]
    refine wpAnyH_take (i := 6) (oi := ⟨some 11, _, _, _, _, none⟩) (v := (.int .i64 N)) rfl (by kernel_rfl) (by kernel_rfl) (by kernel_rfl) (fun _ _ _ h => h) (Or.inl ⟨by rfl, fun W hW => ?_⟩) (by assumption) ?_
    · (obtain ⟨c0, c1, c2⟩ := box3 hW.1; go_simp; try rfl)
    simp only [Act.put, List.setIfInBounds_toArray, List.set_cons_zero, List.set_cons_succ]
    refine wpAnyH_ready (rs := [4]) (by kernel_rfl) (by simp) (AllReadyH.cons rfl (fun KK hKK => ?_) AllReadyH.nil)
    go_simp
    refine (of_n la n lc L _ (HL.out.same (HW.out.2))).mono ?_
    rintro e w1 ⟨cf1, cp1, rfl, ha1, hb1⟩
    dsimp only
    have HA1 := Lib.hid ha1; have hW0 := HW.out
    have HW := Lib.hid (show _ ∧ _ from ⟨(hb1.block _ (Array.getElem?_eq_some_iff.1 HW.out.1).1).trans HW.out.1, HW.out.2.trans (hb1.mono HW.out.2.size)⟩)
    clear hW0 ha1
    refine hKK.out _ _ (HW.out) (fun hHeld => ?_)
    clear hKK KK
    try simp only [Act.put, List.setIfInBounds_toArray, List.set_cons_zero, List.set_cons_succ]
    refine wpAnyH_ready (rs := [7]) (by kernel_rfl) (by simp) (AllReadyH.cons rfl (fun KK hKK => ?_) AllReadyH.nil)
    go_simp
    refine (all_n N n _).mono ?_
    rintro e w2 ⟨cf2, cp2, rfl, ha2, hb2⟩
    dsimp only
    have HA2 := Lib.hid ha2; have hW0 := HW.out
    have HA1 := Lib.hid (HA1.out.same hb2)
    have HW := Lib.hid (show _ ∧ _ from ⟨(hb2.block _ (Array.getElem?_eq_some_iff.1 HW.out.1).1).trans HW.out.1, HW.out.2.trans (hb2.mono HW.out.2.size)⟩)
    clear hW0 ha2
    refine hKK.out _ _ (HW.out) (fun hHeld => ?_)
    clear hKK KK
    try simp only [Act.put, List.setIfInBounds_toArray, List.set_cons_zero, List.set_cons_succ]
    refine wpAnyH_ready (rs := [8]) (by kernel_rfl) (by simp) (AllReadyH.cons rfl (fun KK hKK => ?_) AllReadyH.nil)
    go_simp
    refine (hold_any N M B n cf1 cf2 cp1 cp2 (fun _ => N) L hn _ HA1.out HA2.out).mono ?_
    rintro e w3 ⟨⟨v, rfl, hv⟩, hb3⟩
    dsimp only
    have HV := Lib.hid hv; have hW0 := HW.out
    have HW := Lib.hid (show _ ∧ _ from ⟨(hb3.block _ (Array.getElem?_eq_some_iff.1 HW.out.1).1).trans HW.out.1, HW.out.2.trans (hb3.mono HW.out.2.size)⟩)
    clear hW0 hv
    refine hKK.out _ _ (HW.out) (fun hHeld => ?_)
    clear hKK KK
    try simp only [Act.put, List.setIfInBounds_toArray, List.set_cons_zero, List.set_cons_succ]
    refine wpAnyH_ready (rs := [9]) (by kernel_rfl) (by simp) (AllReadyH.cons rfl (fun KK hKK => ?_) AllReadyH.nil)
    go_simp
    refine hKK.out _ _ (HW.out) (fun hHeld => ?_)
    clear hKK KK
    try simp only [Act.put, List.setIfInBounds_toArray, List.set_cons_zero, List.set_cons_succ]
    refine wpAnyH_done (by kernel_rfl) ?_ _
    go_wp2
    go_ret
    exact ⟨⟨v, rfl, HV.out⟩, HW.out.2⟩
end Go.Proofs.Ytkejabhjlflknaa.Sz

namespace Go.Proofs.Ytkejabhjlflknaa.Ly
open Go.RowKit Go.Shelf

section
variable {Pg : Program}
/-- an append, as one step of a region. -/
theorem step_apd {ops : Array Oper} {o : Oper} {act : Act} {w : World} {K : Act → World → Prop} {Q : Exit → Act → World → Prop} {E : Prop} (hgd : o.guard = none) (s x : Operand) (t : TypeId)
    (ho : o.op = .call { callee := .builtin .append, args := #[s, x], argTypes := #[t, t] })
    (base : Nat) (e : TypeId) (i : TypeInfo) (z : Value) (size bytes : Nat) (ht : Pg.underlying t = some (.slice e)) (hi : Pg.info? e = some i) (hz : i.zero = some z)
    (hsize : i.size = size) (hby : i.bytes = bytes) (hzs : z.cells.size = size) (hsz : 0 < size)
    (v : Value) (n : Nat) (xs : List Value) (hs : act.eval s = v) (hown : w.ownsRow base e size v n xs)
    (ad : Addr) (m c : Nat) (news : List Value) (hx : act.eval x = .slice (some ad) m c) (hl : news.length = m * size) (hnews : ∀ j u, news[j]? = some u → w.cell? (ad.add j) = some u) (h1 : ∀ u ∈ news, u.oneCell' = true)
    (h63 : n + m ≤ maxLen) (hbytes : (n + m) * bytes ≤ 140737488355328) (hbase : base ≤ w.heap.size)
    (h : ∀ v' w', w'.ownsRow base e size v' (n + m) (xs ++ news) → w.grownBy w' v.ownBlock → K (act.put o.dst v') w') :
    if Region.wanted o (yielded ops act.tmps) = true then Oper.wp Pg o act w K Q else E := by
  have hw : Region.wanted o (yielded ops act.tmps) = true := by simp [Region.wanted, hgd]
  rw [if_pos hw]
  exact wp_append_own w s x t ho base e i z size bytes ht hi hz hsize hby hzs hsz v n xs hs hown ad m c news hx hl hnews h1 h63 hbytes hbase fun v' w' h2 h3 _ => h v' w' h2 h3
end
theorem cell_new2 (w : World) (u v : Value) (t : TypeId) : ∀ j x, [u, v][j]? = some x → (w.alloc (.cells #[u, v] t)).cell? ((⟨w.heap.size, 0, none⟩ : Addr).add j) = some x := by
  intro j x hx
  have hj : j < 2 := by
    have := (List.getElem?_eq_some_iff.1 hx).1
    simpa using this
  rw [Addr.add_lit, World.cell?_alloc_new]
  rw [← hx]
  rcases (show j = 0 ∨ j = 1 by omega) with rfl | rfl <;> rfl
/-- rows of a table, put into a list. -/
def tdl (K L : Nat → Int) : Nat → List Value
  | 0 => []
  | t + 1 => tdl K L t ++ [.int .i64 (K t), .int .i64 (L t)]
theorem tdl_len (K L : Nat → Int) : ∀ t, (tdl K L t).length = t * 2
  | 0 => rfl
  | t + 1 => by unfold tdl; rw [List.length_append, tdl_len K L t]; simp; omega
theorem tdl_at (K L : Nat → Int) : ∀ t i, i < t → (tdl K L t)[i * 2]? = some (.int .i64 (K i)) ∧ (tdl K L t)[i * 2 + 1]? = some (.int .i64 (L i))
  | 0, i, h => absurd h (Nat.not_lt_zero i)
  | t + 1, i, h => by
    unfold tdl
    have hl := tdl_len K L t
    by_cases e : i = t
    · subst e
      rw [List.getElem?_append_right (by omega), List.getElem?_append_right (by omega), hl, Nat.sub_self, Nat.add_sub_cancel_left]
      exact ⟨rfl, rfl⟩
    · rw [List.getElem?_append_left (by omega), List.getElem?_append_left (by omega)]
      exact tdl_at K L t i (by omega)
theorem tdl_tb {w : World} {B t c : Nat} {a : Option Addr} {K L : Nat → Int} (ho : w.ownsRow B 44 2 (.slice a t c) t (tdl K L t)) : Tb w a t K L ∧ t ≤ c := by
  obtain ⟨_, ⟨e, h0⟩ | ⟨g, cap', cur, e, hg, hh, hnc, hcm, hs, ht⟩⟩ := ho
  · cases e
    exact ⟨⟨fun i hi => absurd hi (Nat.not_lt_zero i)⟩, Nat.le_refl _⟩
  · simp only [Value.slice.injEq, true_and] at e
    obtain ⟨rfl, rfl⟩ := e
    have hat : ∀ j, j < t * 2 → cur[j]? = (tdl K L t)[j]? := fun j hj => by
      rw [← ht, List.getElem?_take, if_pos hj, Array.getElem?_toList]
    refine ⟨⟨fun i hi => ?_⟩, hnc⟩
    obtain ⟨h1, h2⟩ := tdl_at K L t i hi
    refine ⟨g, 0, rfl, ?_, ?_⟩
    · rw [Nat.zero_add, cell_of_row w g _ cur _ _ hh, hat _ (by omega)]; exact h1
    · rw [Nat.zero_add, cell_of_row w g _ cur _ _ hh, hat _ (by omega)]; exact h2
theorem Try.infoTRow : (Try.prog.info? 44).map (fun i => (i.zero, i.size, i.bytes)) = some (some (.agg #[.int .i64 0, .int .i64 0]), 2, 16) := by kernel_rfl
theorem int_ones (x y : Int) : ∀ u ∈ [Value.int .i64 x, Value.int .i64 y], u.oneCell' = true := by
  intro u hu
  rcases List.mem_cons.1 hu with rfl | hu
  · rfl
  · rcases List.mem_singleton.1 hu with rfl; rfl
theorem hdl_cap {w : World} {B t c n : Nat} {e : TypeId} {z : Nat} {a : Option Addr} {xs : List Value} (ho : w.ownsRow B e z (.slice a t c) n xs) : t ≤ c ∧ c ≤ maxLen := by
  obtain ⟨_, ⟨e, h0⟩ | ⟨g, cap', cur, e, hg, hh, hnc, hcm, hs, ht⟩⟩ := ho
  · cases e; exact ⟨Nat.le_refl _, Nat.zero_le _⟩
  · simp only [Value.slice.injEq] at e
    obtain ⟨e1, e2, e3⟩ := e
    subst e3
    exact ⟨by omega, hcm⟩
theorem tab_mono {N : Int} {n : Nat} {K L : Nat → Int} (h : TabOk N n K L) {i : Nat} : ∀ j, i ≤ j → j < n → K i ≤ K j
  | 0, h1, _ => by obtain rfl : i = 0 := by omega
                   exact Int.le_refl _
  | j + 1, h1, h2 => by
    by_cases e : i = j + 1
    · rw [e]; exact Int.le_refl _
    · have h3 := tab_mono h (i := i) j (by omega) (by omega)
      have h4 := (h.2.2.2.2 (j + 1) h2).2.2.2.2 (by omega)
      rw [Nat.add_sub_cancel] at h4
      omega
theorem rdy_iff {N : Int} {n : Nat} {K L : Nat → Int} {came : Int} {mm : Nat} (h : TabOk N n K L) (hr : RdyN n K came mm) {i : Nat} (hi : i < n) : K i ≤ came ↔ i < mm := by
  constructor
  · intro hk
    rcases Nat.lt_or_ge i mm with c | c
    · exact c
    · have h1 := hr.2.2 (Nat.lt_of_le_of_lt c hi)
      have h2 := tab_mono h i c hi
      omega
  · exact hr.2.1 i
end Go.Proofs.Ytkejabhjlflknaa.Ly

namespace Go.Proofs.Ytkejabhjlflknaa.Sz
open Go.RowKit Go.Shelf
open Go.Proofs.Ytkejabhjlflknaa.Ly (TabOk RowOk off off_le off_mono widI widE widI_le width_any lst Tb tdl tdl_tb step_apd int_ones cell_new2)
open Go.Proofs.Ytkejabhjlflknaa.Sp (Bad)

def LenP (n : Nat) (L : Nat → Int) : Prop := 1 ≤ n ∧ n ≤ 8 ∧ ∀ i, i < n → 0 ≤ L i ∧ L i ≤ 65535
def LenSays (n : Nat) (L : Nat → Int) (e : Ending) : Prop := ∃ v : Bool, e = .returned (.bool v) ∧ (v = true ↔ LenP n L)
set_option maxHeartbeats 1000000 in
set_option maxRecDepth 100000 in
theorem rlengths_any (la : Option Addr) (n lc : Nat) (L : Nat → Int) (hn : n ≤ 140737488355328) (w : World) (hL : Si w la n L) :
    Calls Try.prog 31 #[.slice la n lc] w fun e w' => LenSays n L e ∧ w' = w := by
  have HL := Lib.hid hL; clear hL
  go_enter Try.func31, Try.ntmps31
  go_wp2_with fail
  go_loop [3] (fun i => ∃ k : Nat, k ≤ n ∧ i = .int .i64 (k : Nat) ∧ ∀ j, j < k → 0 ≤ L j ∧ L j ≤ 65535) (fun i => n - (intOf i).toNat)
  case atStart => exact ⟨0, by omega, rfl, fun j hj => absurd hj (Nat.not_lt_zero j)⟩
  case round =>
    obtain ⟨k, hk, rfl, hall⟩ := hrel
    have HALL := Lib.hid hall; clear hall
    by_cases hkn : k < n
    · have i1 : (k : Int) < (n : Int) := by omega
      obtain ⟨b, o, ea, hc⟩ := HL.out.cell k hkn
      have EA := Lib.hid ea
      subst ea
      by_cases h1 : L k < 0
      · have g1 : decide (L k < 0) = true := by simp [h1]
        have HX := Lib.hid (show ¬ LenP n L from fun h => by have := h.2.2 k hkn; omega); clear h1
        go_wp2
        go_ret
        exact ⟨⟨false, rfl, fun h => (by cases h), fun h => absurd h HX.out⟩, rfl⟩
      · have g1 : decide (L k < 0) = false := by simp; omega
        by_cases h2 : 65535 < L k
        · have g2 : decide (65535 < L k) = true := by simp [h2]
          have HX := Lib.hid (show ¬ LenP n L from fun h => by have := h.2.2 k hkn; omega); clear h1 h2
          go_wp2
          go_ret
          exact ⟨⟨false, rfl, fun h => (by cases h), fun h => absurd h HX.out⟩, rfl⟩
        · have g2 : decide (65535 < L k) = false := by simp; omega
          have HX := Lib.hid (show 0 ≤ L k ∧ L k ≤ 65535 by omega); clear h1 h2
          go_wp2
          go_round
          case rel => exact ⟨k + 1, by omega, by go_num, fun j hj => by
            by_cases e : j = k
            · rw [e]; exact HX.out
            · exact HALL.out j (by omega)⟩
          case measure => simp [intOf]; omega
    · obtain rfl : k = n := by omega
      have i1 : ¬ (k : Int) < (k : Int) := by omega
      by_cases h1 : 1 ≤ k
      · have g1 : decide ((1 : Int) ≤ (k : Int)) = true := by simp; omega
        by_cases h2 : k ≤ 8
        · have g2 : decide ((k : Int) ≤ 8) = true := by simp; omega
          have HX := Lib.hid (show LenP k L from ⟨h1, h2, HALL.out⟩); clear h1 h2
          go_wp2
          go_ret
          exact ⟨⟨true, rfl, fun _ => HX.out, fun _ => rfl⟩, rfl⟩
        · have g2 : decide ((k : Int) ≤ 8) = false := by simp; omega
          have HX := Lib.hid (show ¬ LenP k L from fun h => h2 h.2.1); clear h1 h2
          go_wp2
          go_ret
          exact ⟨⟨false, rfl, fun h => (by cases h), fun h => absurd h HX.out⟩, rfl⟩
      · have g1 : decide ((1 : Int) ≤ (k : Int)) = false := by simp; omega
        have HX := Lib.hid (show ¬ LenP k L from fun h => h1 h.1); clear h1
        go_wp2
        go_ret
        exact ⟨⟨false, rfl, fun h => (by cases h), fun h => absurd h HX.out⟩, rfl⟩
theorem fit_room {N M B y o : Int} (hB : RB N M B) (ho : 0 ≤ o) (hy : 1 ≤ y) : (18 + 3 * y + o ≤ M ∧ N * (18 + 3 * y + o) ≤ B) ↔ o ≤ roomI N M B y := by
  have := room_top (y := y) (r := o - 1) hB (by omega) hy
  rw [show 18 + 3 * y + (o - 1) + 1 = 18 + 3 * y + o by omega, show o - 1 + 1 = o by omega] at this
  exact this
theorem lenP_of {N : Int} {n : Nat} {K L : Nat → Int} (h : TabOk N n K L) : LenP n L := ⟨h.2.2.1, h.2.2.2.1, fun i hi => ⟨(h.2.2.2.2 i hi).2.2.1, (h.2.2.2.2 i hi).2.2.2.1⟩⟩
theorem FtSays.no {N M B : Int} {n m : Nat} {K L : Nat → Int} (h : ¬ (n = m ∧ FitP N M B n K L)) : FtSays N M B n m K L (.returned (.bool false)) := ⟨false, rfl, fun e => (by cases e), fun e => absurd e h⟩

set_option maxHeartbeats 4000000 in
set_option maxRecDepth 100000 in
theorem rfits_any (N M B : Int) (la ka : Option Addr) (n lc m kc : Nat) (K L : Nat → Int) (hn : n ≤ 140737488355328) (hm : m ≤ 140737488355328) (w : World) (hL : Si w la n L) (hK : Si w ka m K) :
    Calls Try.prog 18 #[bV N M B, .slice la n lc, .slice ka m kc] w fun e w' => FtSays N M B n m K L e ∧ Below w.heap.size w w' := by
  have hb0 := (Below.refl w.heap.size w).alloc (Nat.le_refl _) (.cells #[.int .i64 N, .int .i64 M, .int .i64 B] 34)
  have hh0 := heap_alloc_new w (.cells #[.int .i64 N, .int .i64 M, .int .i64 B] 34)
  have HL := Lib.hid hL; have HK := Lib.hid hK
  obtain ⟨i0, hi, hz0, hz1, hz2⟩ := info_parts Ly.Try.infoTRow
  have HI := Lib.hid hi; have HZ0 := Lib.hid hz0; have HZ1 := Lib.hid hz1; have HZ2 := Lib.hid hz2
  unfold bV
  go_enter Try.func18, Try.ntmps18
  have HB0 := Lib.hid hb0; have HH0 := Lib.hid hh0
  clear hb0 hh0 hL hK hi hz0 hz1 hz2
  go_wp2_with fail
  refine (rright_any N M B _).mono ?_
  rintro e w1 ⟨⟨v, rfl, hv⟩, hB1⟩
  have HB1 := Lib.hid (HB0.out.trans (hB1.mono HB0.out.size))
  have HH1 := Lib.hid ((hB1.block w.heap.size (by simp)).trans HH0.out)
  have HV := Lib.hid hv
  clear hv hB1 HH0
  cases v
  · go_wp2
    go_ret
    exact ⟨FtSays.no fun h => absurd (HV.out.2 h.2.1) (by simp), HB1.out⟩
  have HRB := Lib.hid (HV.out.1 rfl)
  have hN : 1 ≤ N ∧ N ≤ 255 := HRB.out.1
  go_wp2_with fail
  refine (rlengths_any la n lc L hn _ (HL.out.same HB1.out)).mono ?_
  rintro e w2 ⟨⟨v, rfl, hv⟩, rfl⟩
  have HV2 := Lib.hid hv; clear hv
  cases v
  · go_wp2
    go_ret
    exact ⟨FtSays.no fun h => absurd (HV2.out.2 (lenP_of h.2.2.1)) (by simp), HB1.out⟩
  have hlp := HV2.out.1 rfl
  have hn8 := hlp.2.1
  have HLP := Lib.hid hlp; clear hlp
  by_cases hnm : m = n
  rotate_left
  · have g1 : ((m : Int) != (n : Int)) = true := by simp; omega
    have HX := Lib.hid hnm; clear hnm
    go_wp2
    go_ret
    exact ⟨FtSays.no fun h => HX.out h.1.symm, HB1.out⟩
  subst hnm
  have g1 : ((m : Int) != (m : Int)) = false := by simp
  have hs2 := HB1.out.size
  go_wp2_with fail
  clear g1
  go_loopw [7, 8] (fun o i wr => ∃ (k : Nat) (ta : Option Addr) (tc : Nat) (W : World), W = wr ∧ k ≤ m ∧ i = .int .i64 k ∧ o = .slice ta k tc ∧ wr.ownsRow w2.heap.size 44 2 (.slice ta k tc) k (tdl K L k) ∧ Below w2.heap.size w2 wr) (fun _ i _ => m - (intOf i).toNat)
  case atStart => exact ⟨0, none, 0, _, rfl, by omega, rfl, rfl, World.ownsRow_nil _ _ _ _, Below.refl _ _⟩
  case round =>
    obtain ⟨k, ta, tc, wx, rfl, hk, rfl, rfl, hO, hB⟩ := hrel
    have HO := Lib.hid hO; have HB := Lib.hid hB
    have hsz := hB.size
    clear hO hB
    by_cases hkm : k < m
    · have i1 : (k : Int) < (m : Int) := by omega
      have hBw := HB1.out.trans (HB.out.mono hs2)
      obtain ⟨ab, ao, ea, c1⟩ := (HK.out.same hBw).cell k hkm
      obtain ⟨lb, lo, el, c2⟩ := (HL.out.same hBw).cell k hkm
      have EA := Lib.hid (show ka = some ⟨ab, ao, none⟩ from ea); have EL := Lib.hid (show la = some ⟨lb, lo, none⟩ from el)
      subst ea el
      have HRO := Lib.hid (show ∀ W, Below wx.heap.size wx W → W.ownsRow w2.heap.size 44 2 (.slice ta k tc) k (tdl K L k) from fun W hW => own_below HO.out hW)
      have hal : Below wx.heap.size wx (wx.alloc (.cells #[.int .i64 (K k), .int .i64 (L k)] 44)).drew := below_dr ((Below.refl _ wx).alloc (Nat.le_refl _) _) 1
      have hnew : ∀ j u, [Value.int .i64 (K k), Value.int .i64 (L k)][j]? = some u → ((wx.alloc (.cells #[.int .i64 (K k), .int .i64 (L k)] 44)).drew).cell? ((⟨wx.heap.size, 0, none⟩ : Addr).add j) = some u := cell_new2 wx _ _ 44
      have hbb : w2.heap.size ≤ ((wx.alloc (.cells #[.int .i64 (K k), .int .i64 (L k)] 44)).drew).heap.size := Nat.le_trans hsz hal.size
      have HAL := Lib.hid hal; have HNEW := Lib.hid hnew; have HBB := Lib.hid hbb
      clear hal hnew hbb hBw
      go_wp2_with fail
      go_region_law ((refine step_apd rfl (.tmp 32) (.tmp 42) 24 rfl w2.heap.size 44 i0 (.agg #[.int .i64 0, .int .i64 0]) 2 16 Try.underlying24 HI.out HZ0.out HZ1.out HZ2.out rfl (by decide) (.slice ta k tc) k _ rfl (HRO.out _ HAL.out) ⟨wx.heap.size, 0, none⟩ 1 1 [.int .i64 (K k), .int .i64 (L k)] rfl rfl HNEW.out (int_ones _ _) (by unfold maxLen; omega) (by omega) HBB.out ?_; intro v6 w6 hown6 hgrow6; obtain ⟨g6, c6, rfl⟩ := own_slice hown6; have HOWN6 := Lib.hid hown6; have HB6 := Lib.hid (HB.out.trans ((HAL.out.mono hsz).trans ((Below.refl w2.heap.size _).grown hgrow6 HBB.out (fun k e => ((HRO.out _ HAL.out).lt k e).1)))); clear hown6 hgrow6))
      all_goals
        go_wp2
        go_roundw
        case rel => exact ⟨k + 1, _, c6, _, rfl, by omega, by go_num, rfl, HOWN6.out, HB6.out⟩
        case measure => simp [intOf]; omega
    · obtain rfl : k = m := by omega
      have i1 : ¬ (k : Int) < (k : Int) := by omega
      have HT := Lib.hid (tdl_tb HO.out).1
      have hBw := HB1.out.trans (HB.out.mono hs2)
      obtain ⟨c0, _, _⟩ := box3 ((HB.out.block _ (Array.getElem?_eq_some_iff.1 HH1.out).1).trans HH1.out)
      have HBW := Lib.hid hBw; clear hBw
      go_wp2_with fail
      refine (rof_any N ta k tc K L _ HT.out).mono ?_
      rintro e w3 ⟨hof, hB3⟩
      have HB3 := Lib.hid (HBW.out.trans (hB3.mono HBW.out.size))
      have HC := Lib.hid (box3 (((HB.out.trans (hB3.mono hsz)).block _ (Array.getElem?_eq_some_iff.1 HH1.out).1).trans HH1.out))
      clear hB3 c0
      rcases hof with ⟨hno, rfl⟩ | ⟨ht, rfl⟩
      · have HX := Lib.hid hno; clear hno
        go_wp2
        go_ret
        exact ⟨FtSays.no fun h => HX.out h.2.2.1, HB3.out⟩
      have HTO := Lib.hid ht; clear ht
      obtain ⟨c0, c1, c2⟩ := HC.out
      have ho : off K L k ≤ 8 * 65535 := Nat.le_trans (off_le K L k) (Nat.mul_le_mul_right _ (by omega))
      have HFR := Lib.hid (fit_room (y := (k : Int)) (o := ((off K L k : Nat) : Int)) HRB.out (by omega) (by have := HTO.out.2.2.1; omega))
      obtain ⟨s, hs⟩ : ∃ s, s = 18 + 3 * k + off K L k := ⟨_, rfl⟩
      have HS := Lib.hid (show (18 : Int) + 3 * (k : Int) + ((off K L k : Nat) : Int) = (s : Int) by omega)
      rw [← hs]
      have hs9 : s ≤ 600000 := by omega
      obtain ⟨p, hp⟩ : ∃ p, p = N * (s : Int) := ⟨_, rfl⟩
      have p0 : 0 ≤ p := by rw [hp]; exact Int.mul_nonneg (by omega) (by omega)
      have p1 : p ≤ 255 * 600000 := by rw [hp]; exact Int.le_trans (Int.mul_le_mul_of_nonneg_right hN.2 (by omega)) (by omega)
      have k1 : N * (s : Int) = p := hp.symm
      have HK1 := Lib.hid k1
      clear hs hp ho
      by_cases h1 : (s : Int) ≤ M
      rotate_left
      · have g1 : decide ((s : Int) ≤ M) = false := by simp; omega
        have HX := Lib.hid h1; clear h1
        go_wp2
        go_ret
        exact ⟨FtSays.no fun h => by have h5 := (HFR.out.2 h.2.2.2).1; rw [HS.out] at h5; have := HX.out; omega, HB3.out⟩
      have g1 : decide ((s : Int) ≤ M) = true := by simp [h1]
      by_cases h2 : p ≤ B
      · have g2 : decide (p ≤ B) = true := by simp [h2]
        have HX := Lib.hid (show ((off K L k : Nat) : Int) ≤ roomI N M B k from HFR.out.1 (by rw [HS.out, HK1.out]; exact ⟨h1, h2⟩)); clear h1 h2
        go_wp2
        go_ret
        exact ⟨⟨true, rfl, fun _ => ⟨rfl, HRB.out, HTO.out, HX.out⟩, fun _ => rfl⟩, HB3.out⟩
      · have g2 : decide (p ≤ B) = false := by simp; omega
        have HX := Lib.hid h2; clear h1 h2
        go_wp2
        go_ret
        exact ⟨FtSays.no fun h => by have h5 := (HFR.out.2 h.2.2.2).2; rw [HS.out, HK1.out] at h5; have := HX.out; omega, HB3.out⟩
end Go.Proofs.Ytkejabhjlflknaa.Sz

namespace Go.Proofs.Ytkejabhjlflknaa.Ly
open Go.RowKit Go.Shelf

/-- a row that marks. -/
def mkT (i : Nat) : Int := 8000024 + (i : Int)
theorem markT_any (i : Int) (hi0 : 0 ≤ i) (hi : i ≤ 1000000000000) (w : World) :
    Calls Try.prog 25 #[.int .i64 1, .int .i64 i] w fun e w' => e = .returned (.agg #[.int .i64 (8000024 + i), .int .i64 0]) ∧ Below w.heap.size w w' := by
  have hB := (Below.refl w.heap.size w).alloc (Nat.le_refl _) (.cells #[.int .i64 (8000024 + i), .int .i64 0] 44)
  have HB := Lib.hid hB; clear hB
  go_enter Try.func25, Try.ntmps25
  go_wp2_with fail
  refine (mark_any 1 i (by omega) (by omega) hi0 hi _).mono ?_
  rintro e w' ⟨rfl, hw'⟩
  rw [hw']; clear hw'
  have e8 : (1000003 * (1 + 7) + i : Int) = 8000024 + i := by omega
  rw [e8]
  go_wp2
  exact bodyPost_ret (results_cell_row rfl _ _ w.heap.size _ _ (0, 0) _ rfl (heap_alloc_new w _) Try.underlying44 rfl (by kernel_rfl)) rfl ⟨rfl, HB.out⟩
def tK (K : Nat → Int) (n i : Nat) : Int := if i < n then K i else mkT (i - n)
def tL (L : Nat → Int) (n i : Nat) : Int := if i < n then L i else 0
theorem tdl_congr {K K' L L' : Nat → Int} : ∀ t, (∀ i, i < t → K i = K' i ∧ L i = L' i) → tdl K L t = tdl K' L' t
  | 0, _ => rfl
  | t + 1, h => by
    unfold tdl
    rw [tdl_congr t (fun i hi => h i (by omega)), (h t (by omega)).1, (h t (by omega)).2]
theorem tdl_ones (K L : Nat → Int) : ∀ t, ∀ u ∈ tdl K L t, u.oneCell' = true
  | 0, u, h => by cases h
  | t + 1, u, h => by
    unfold tdl at h
    rcases List.mem_append.1 h with h | h
    · exact tdl_ones K L t u h
    · exact int_ones _ _ u h
theorem tb_news {w : World} {a : Option Addr} {n : Nat} {K L : Nat → Int} (hT : Tb w a n K L) : ∀ ad, a = some ad → ∀ j u, (tdl K L n)[j]? = some u → w.cell? (ad.add j) = some u := fun ad e j u hj => by
  have hjn : j < n * 2 := by have := (List.getElem?_eq_some_iff.1 hj).1; rwa [tdl_len] at this
  obtain ⟨b, o, ea, h1, h2⟩ := hT.cell (j / 2) (by omega)
  obtain ⟨t1, t2⟩ := tdl_at K L n (j / 2) (by omega)
  rw [e] at ea
  cases ea
  rw [Lib.add_plain8]
  rcases Nat.mod_two_eq_zero_or_one j with hm | hm
  · have ej : j / 2 * 2 = j := by omega
    rw [ej] at t1 h1
    rw [hj] at t1
    cases t1; exact h1
  · have ej : j / 2 * 2 + 1 = j := by omega
    rw [Nat.add_assoc, ej] at h2
    rw [ej, hj] at t2
    cases t2; exact h2
set_option maxHeartbeats 2000000 in
set_option maxRecDepth 100000 in
theorem lentTable_any (a : Option Addr) (n cap : Nat) (K L : Nat → Int) (w : World) (hT : Tb w a n K L) (hnil : a = none → n = 0 ∧ cap = 0) (hl : n ≤ 1000000) :
    Calls Try.prog 8 #[.slice a n cap] w fun e w' =>
      e = .returned (.slice (some ⟨w.heap.size, 0, none⟩) n (n + 12)) ∧ Tb w' (some ⟨w.heap.size, 0, none⟩) (n + 12) (tK K n) (tL L n) ∧ Below w.heap.size w w' := by
  obtain ⟨i0, hi, hz0, hz1, hz2⟩ := info_parts Try.infoTRow
  have HT := Lib.hid hT; have HN := Lib.hid hnil; clear hT hnil
  have HI := Lib.hid hi; have HZ0 := Lib.hid hz0; have HZ1 := Lib.hid hz1; have HZ2 := Lib.hid hz2
  clear hi hz0 hz1 hz2
  go_enter Try.func8, Try.ntmps8
  go_wp2_with (first
    | (at_make; refine wpList_make_own _ rfl _ _ _ rfl w.heap.size 44 i0 (.agg #[.int .i64 0, .int .i64 0]) 2 Try.underlying24 HI.out HZ0.out HZ1.out .i64 .i64 _ (n + 12) rfl rfl (by omega) (by rw [HZ2.out]; omega) (by unfold maxLen; omega) (Nat.le_refl _) ?_; intro w1 hown1 hgrow1; have HO1 := Lib.hid hown1; have HB1 := Lib.hid ((Below.refl w.heap.size w).grown hgrow1 (Nat.le_refl _) (by simp)); clear hown1 hgrow1)
    | (at_builtin; refine wpList_append_fits_any _ rfl _ _ _ rfl w.heap.size 44 i0 2 Try.underlying24 HI.out HZ1.out w.heap.size 0 (n + 12) [] rfl HO1.out a n cap (tdl K L n) rfl (tdl_len K L n) HN.out (tb_news (HT.out.same HB1.out)) (tdl_ones K L n) (by omega) ?_; intro w2 hown2 hgrow2; rw [Nat.zero_add, List.nil_append] at hown2; have HO2 := Lib.hid hown2; have HB2 := Lib.hid (HB1.out.grown hgrow2 HB1.out.size (by intro k hk; cases hk; exact Nat.le_refl _)); clear hown2 hgrow2))
  clear HO1 HB1
  go_loopw [3, 4] (fun o i wr => ∃ (k : Nat) (W : World), W = wr ∧ k ≤ 12 ∧ i = .int .i64 k ∧ o = .slice (some ⟨w.heap.size, 0, none⟩) (n + k) (n + 12) ∧ wr.ownsRow w.heap.size 44 2 (.slice (some ⟨w.heap.size, 0, none⟩) (n + k) (n + 12)) (n + k) (tdl (tK K n) (tL L n) (n + k)) ∧ Below w.heap.size w wr) (fun _ i _ => 12 - (intOf i).toNat)
  case atStart => exact ⟨0, _, rfl, by omega, rfl, by simp, by rw [Nat.add_zero, tdl_congr (K := tK K n) (K' := K) (L := tL L n) (L' := L) n (fun i hi => ⟨if_pos hi, if_pos hi⟩)]; exact HO2.out, HB2.out⟩
  case round =>
    obtain ⟨k, wx, rfl, hk, rfl, rfl, hO, hB⟩ := hrel
    have HO := Lib.hid hO; have HB := Lib.hid hB; clear hO hB
    by_cases hlt : k < 12
    · have hge := HB.out.size
      go_wp2_with (first
        | (go_at_call 25; refine (markT_any (k : Int) (by omega) (by omega) _).mono ?_; rintro e w3 ⟨rfl, hB3⟩; have HB3 := Lib.hid hB3; clear hB3)
        | (at_builtin; refine wpList_append_fits _ rfl _ _ _ rfl w.heap.size 44 i0 2 Try.underlying24 HI.out HZ1.out w.heap.size (n + k) (n + 12) _ rfl ((own_below HO.out HB3.out).alloc _) _ 1 1 [.int .i64 (8000024 + (k : Int)), .int .i64 0] rfl rfl (cell_new2 _ _ _ _) (int_ones _ _) (by omega) ?_; intro w4 hown4 hgrow4; have hown4 : w4.ownsRow w.heap.size 44 2 _ _ (tdl (tK K n) (tL L n) (n + k + 1)) := (by
              have e1 : tK K n (n + k) = 8000024 + (k : Int) := by unfold tK mkT; rw [if_neg (by omega)]; omega
              have e2 : tL L n (n + k) = 0 := if_neg (by omega)
              unfold tdl; rw [e1, e2]; exact hown4); have HO4 := Lib.hid hown4; have HB4 := Lib.hid ((HB.out.trans (HB3.out.mono hge)).alloc (Nat.le_trans hge HB3.out.size) _ |>.grown hgrow4 (by have := HB3.out.size; simp; omega) (by intro k hk; cases hk; exact Nat.le_refl _)); clear hown4 hgrow4))
      go_roundw
      case rel => exact ⟨k + 1, _, rfl, by omega, by go_num, rfl, HO4.out, HB4.out⟩
      case measure => simp [intOf]; omega
    · obtain rfl : k = 12 := by omega
      go_wp2
      go_ret
      exact ⟨rfl, (tdl_tb HO.out).1, HB.out⟩
end Go.Proofs.Ytkejabhjlflknaa.Ly

namespace Go.Proofs.Ytkejabhjlflknaa.Ly
open Go.RowKit Go.Shelf

set_option maxHeartbeats 2000000 in
set_option maxRecDepth 100000 in
theorem keptTable_any (g : Nat) (a : Option Addr) (n cap : Nat) (K L : Nat → Int) (w : World) (hT : Tb w a n K L) (_hcap : n ≤ cap) (hG : Tb w (some ⟨g, 0, none⟩) (n + 12) (tK K n) (tL L n)) (hl : n ≤ 1000000) :
    Calls Try.prog 19 #[.slice (some ⟨g, 0, none⟩) n (n + 12), .slice a n cap] w fun e w' => e = .returned (.bool true) ∧ Below w.heap.size w w' := by
  have HT := Lib.hid hT; have HG := Lib.hid hG; clear hT hG
  have hne : ((n : Int) != (n : Int)) = false := by simp
  go_enter Try.func19, Try.ntmps19
  go_wp2_with fail
  go_loopw [6] (fun i wr => ∃ (k : Nat) (W : World), W = wr ∧ k ≤ n + 12 ∧ i = .int .i64 k ∧ Below w.heap.size w wr) (fun i _ => n + 12 - (intOf i).toNat)
  case atStart => exact ⟨0, _, rfl, by omega, rfl, Below.refl _ _⟩
  case round =>
    obtain ⟨k, wx, rfl, hk, rfl, hB⟩ := hrel
    have HB := Lib.hid hB; clear hB
    by_cases hlt : k < n
    · obtain ⟨b, off, e1, c1, c2⟩ := (HT.out.same HB.out).cell k hlt
      obtain ⟨b', off', e2, d1, d2⟩ := (HG.out.same HB.out).cell k (by omega)
      cases e2
      rw [show tK K n k = K k from if_pos hlt] at d1
      rw [show tL L n k = L k from if_pos hlt] at d2
      rw [Nat.zero_add] at d1 d2
      subst e1
      generalize K k = u at c1 d1
      generalize L k = v at c2 d2
      have i1 : (k : Int) < (n : Int) := by omega
      have i2 : (k : Int) < (n : Int) + 12 := by omega
      have i5 : decide (n ≤ k) = false := by simp; omega
      have g5 : (v == v) = true := by simp
      have g6 : (u == u) = true := by simp
      go_wp2_with fail
      go_quiet (fail)
      go_wp2
      go_roundw
      case rel => exact ⟨k + 1, _, rfl, by omega, by go_num, HB.out.trans ((below_drewN (Below.refl _ _) _).mono HB.out.size)⟩
      case measure => simp [intOf]; omega
    · by_cases hlt2 : k < n + 12
      · obtain ⟨b', off', e2, d1, d2⟩ := (HG.out.same HB.out).cell k hlt2
        cases e2
        have hmk : tK K n k = 8000024 + ((k : Int) - (n : Int)) := by unfold tK mkT; rw [if_neg hlt]; omega
        rw [hmk] at d1
        rw [show tL L n k = 0 from if_neg hlt] at d2
        rw [Nat.zero_add] at d1 d2
        clear hmk
        have i1 : ¬ (k : Int) < (n : Int) := by omega
        have i2 : (k : Int) < (n : Int) + 12 := by omega
        have i4 : decide (k < n) = false := by simp; omega
        have i5 : decide (n ≤ k) = true := by simp; omega
        have i6 : IntKind.i64.wrap ((k : Int) - (n : Int)) = (k : Int) - (n : Int) := IntWalk.i64_in _ (by omega)
        obtain ⟨d, hd⟩ : ∃ d : Nat, (k : Int) - (n : Int) = (d : Int) := ⟨k - n, by omega⟩
        rw [hd] at d1 i6
        have hd9 : d < 12 := by omega
        have y1 := fun d os => cell_regrown d1 d os
        have y2 := fun d os => cell_regrown d2 d os
        go_wp2_with fail
        refine wp_region_quiet_below (by kernel_rfl) (by kernel_rfl) ?_
        repeat (go_big_quiet_step ((go_at_call 25; exact Calls.regrown_of (markT_any (d : Int) (by omega) (by omega) _))))
        refine wpQuiet_nil ?_
        rintro W1 ⟨pq, hW1⟩
        have hB1 : Below wx.heap.size wx W1 := by rw [hW1]; exact below_regrown _ _ _
        clear hW1 y1 y2
        go_wp2
        go_roundw
        case rel => exact ⟨k + 1, _, rfl, by omega, by go_num, HB.out.trans (hB1.mono HB.out.size)⟩
        case measure => simp [intOf]; omega
      · obtain rfl : k = n + 12 := by omega
        go_wp2
        go_ret
        exact ⟨rfl, HB.out⟩
end Go.Proofs.Ytkejabhjlflknaa.Ly

namespace Go.Proofs.Ytkejabhjlflknaa.Sz
open Go.RowKit Go.Shelf
open Go.Proofs.Ytkejabhjlflknaa.Ly (TabOk RowOk off off_le off_mono widI widE widI_le width_any lst Tb tdl tdl_tb step_apd int_ones cell_new2)
open Go.Proofs.Ytkejabhjlflknaa.Sp (Bad)

/-- numbers in a block of their own. -/
theorem si_at {w : World} {x n : Nat} {vs : Array Value} {h : Nat → Int} (hx : w.heap[x]? = some (.cells vs 3 (0, 0))) (hv : ∀ i, i < n → vs[i]? = some (.int .i64 (h i))) : Si w (some ⟨x, 0, none⟩) n h := ⟨fun i hi => ⟨x, 0, rfl, by
  rw [Nat.zero_add, cell_of_row w x i vs _ _ hx]; exact hv i hi⟩⟩
theorem two_c {i : Nat} (h : i < 2) : i = 0 ∨ i = 1 := by omega
def aL (i : Nat) : Int := if i = 0 then 40 else 60
def aK (x : Int) (i : Nat) : Int := if i = 0 then x else 4
theorem aw_yes : FitP 4 64 200 2 (aK 4) aL := ⟨by unfold RB; omega, ⟨by decide, by decide, by decide, by decide, fun i hi => by rcases two_c hi with rfl | rfl <;> (unfold RowOk aK aL; decide)⟩, by
  have h1 : off (aK 4) aL 2 = 25 := by decide +kernel
  have h2 : roomI 4 64 200 ((2 : Nat) : Int) = 26 := by decide +kernel
  rw [h1, h2]; decide⟩
theorem aw_no : ¬ FitP 4 64 200 2 (aK 3) aL := fun h => by
  have h1 : off (aK 3) aL 2 = 29 := by decide +kernel
  have h2 : roomI 4 64 200 ((2 : Nat) : Int) = 26 := by decide +kernel
  have := h.2.2
  rw [h1, h2] at this
  revert this; decide
theorem aw_room : roomI 4 64 200 2 = 26 := by decide +kernel

set_option maxHeartbeats 4000000 in
set_option maxRecDepth 100000 in
theorem awake11_any (w : World) :
    Calls Try.prog 7 #[] w fun e w' => e = .returned (.bool true) ∧ Below w.heap.size w w' := by
  have hb0 := (Below.refl w.heap.size w).alloc (Nat.le_refl _) (.cells #[.int .i64 4, .int .i64 64, .int .i64 200] 23)
  have hh0 := heap_alloc_new w (.cells #[.int .i64 4, .int .i64 64, .int .i64 200] 23)
  have HRM := Lib.hid (room_any 4 64 200 2)
  have HF := Lib.hid fits_any
  unfold bV at HRM HF
  have HB0 := Lib.hid hb0; have HH0 := Lib.hid hh0
  clear hb0 hh0
  go_enter Try.func7, Try.ntmps7
  go_wp2_with fail
  refine (HRM.out _).mono ?_
  rintro e w1 ⟨hro, hB1⟩
  have HB1 := Lib.hid (HB0.out.trans (hB1.mono HB0.out.size))
  have hh1 := (hB1.block w.heap.size (by simp)).trans HH0.out
  have HH1 := Lib.hid hh1
  rcases hro with ⟨hno, _⟩ | ⟨_, rfl⟩
  · exact absurd ⟨by unfold RB; omega, by omega, by omega⟩ hno
  rw [aw_room]
  have hs1 := HB1.out.size
  obtain ⟨c0, c1, c2⟩ := box3 hh1
  have hl : ∀ o : Obj, Below w1.heap.size w1 (w1.alloc o) := fun o => (Below.refl _ w1).alloc (Nat.le_refl _) o
  obtain ⟨w2, hw2⟩ : ∃ w2, w2 = w1.alloc (.cells #[.int .i64 40, .int .i64 60] 3) := ⟨_, rfl⟩
  have hz2 : w2.heap.size = w1.heap.size + 1 := by rw [hw2, World.size_alloc]
  have hb2 : Below w1.heap.size w1 w2 := by rw [hw2]; exact hl _
  have hh2 : w2.heap[w1.heap.size]? = some (.cells #[.int .i64 40, .int .i64 60] 3 (0, 0)) := by rw [hw2]; exact heap_alloc_new w1 _
  obtain ⟨w3, hw3⟩ : ∃ w3, w3 = w2.alloc (.cells #[.int .i64 4, .int .i64 4] 3) := ⟨_, rfl⟩
  have hb3 : Below w2.heap.size w2 w3 := by rw [hw3]; exact (Below.refl _ w2).alloc (Nat.le_refl _) _
  have hh3 : w3.heap[w2.heap.size]? = some (.cells #[.int .i64 4, .int .i64 4] 3 (0, 0)) := by rw [hw3]; exact heap_alloc_new w2 _
  have HSL := Lib.hid (si_at (n := 2) (h := aL) ((hb3.block _ (by omega)).trans hh2) (fun i hi => by rcases two_c hi with rfl | rfl <;> rfl))
  have HSK := Lib.hid (si_at (n := 2) (h := aK 4) hh3 (fun i hi => by rcases two_c hi with rfl | rfl <;> rfl))
  rw [hz2] at HSK
  have HW3 := Lib.hid (show w3 = (w1.alloc (.cells #[.int .i64 40, .int .i64 60] 3)).alloc (.cells #[.int .i64 4, .int .i64 4] 3) by rw [hw3, hw2])
  have HB3 := Lib.hid (hb2.trans (hb3.mono hb2.size))
  clear hh1 hB1 hl hz2 hb2 hh2 hb3 hh3 hw2 hw3
  go_wp2_with fail
  rw [← HW3.out]
  refine (HF.out 4 64 200 _ _ 2 2 2 2 (aK 4) aL (by omega) _ HSL.out HSK.out).mono ?_
  rintro e w4 ⟨⟨v, rfl, hv⟩, hB4⟩
  obtain rfl : v = true := hv.2 ⟨rfl, aw_yes⟩
  have hb14 := HB3.out.trans (hB4.mono HB3.out.size)
  have HB4 := Lib.hid (HB1.out.trans (hb14.mono hs1))
  obtain ⟨c0, c1, c2⟩ := box3 ((hb14.block _ (Array.getElem?_eq_some_iff.1 HH1.out).1).trans HH1.out)
  have hl : ∀ o : Obj, Below w4.heap.size w4 (w4.alloc o) := fun o => (Below.refl _ w4).alloc (Nat.le_refl _) o
  obtain ⟨w5, hw5⟩ : ∃ w5, w5 = w4.alloc (.cells #[.int .i64 40, .int .i64 60] 3) := ⟨_, rfl⟩
  have hz5 : w5.heap.size = w4.heap.size + 1 := by rw [hw5, World.size_alloc]
  have hb5 : Below w4.heap.size w4 w5 := by rw [hw5]; exact hl _
  have hh5 : w5.heap[w4.heap.size]? = some (.cells #[.int .i64 40, .int .i64 60] 3 (0, 0)) := by rw [hw5]; exact heap_alloc_new w4 _
  obtain ⟨w6, hw6⟩ : ∃ w6, w6 = w5.alloc (.cells #[.int .i64 3, .int .i64 4] 3) := ⟨_, rfl⟩
  have hb6 : Below w5.heap.size w5 w6 := by rw [hw6]; exact (Below.refl _ w5).alloc (Nat.le_refl _) _
  have hh6 : w6.heap[w5.heap.size]? = some (.cells #[.int .i64 3, .int .i64 4] 3 (0, 0)) := by rw [hw6]; exact heap_alloc_new w5 _
  have HSL2 := Lib.hid (si_at (n := 2) (h := aL) ((hb6.block _ (by omega)).trans hh5) (fun i hi => by rcases two_c hi with rfl | rfl <;> rfl))
  have HSK2 := Lib.hid (si_at (n := 2) (h := aK 3) hh6 (fun i hi => by rcases two_c hi with rfl | rfl <;> rfl))
  rw [hz5] at HSK2
  have HW6 := Lib.hid (show w6 = (w4.alloc (.cells #[.int .i64 40, .int .i64 60] 3)).alloc (.cells #[.int .i64 3, .int .i64 4] 3) by rw [hw6, hw5])
  have HB6 := Lib.hid (HB4.out.trans ((hb5.trans (hb6.mono hb5.size)).mono HB4.out.size))
  clear hB4 hb14 hl hz5 hb5 hh5 hb6 hh6 hw5 hw6 hv
  go_wp2_with fail
  rw [← HW6.out]
  refine (HF.out 4 64 200 _ _ 2 2 2 2 (aK 3) aL (by omega) _ HSL2.out HSK2.out).mono ?_
  rintro e w7 ⟨⟨v, rfl, hv⟩, hB7⟩
  obtain rfl : v = false := by
    cases v
    · rfl
    · exact absurd (hv.1 rfl).2 aw_no
  have HB7 := Lib.hid (HB6.out.trans (hB7.mono HB6.out.size))
  clear hB7 hv
  go_wp2
  go_ret
  exact ⟨rfl, HB7.out⟩
theorem OfSays.form {N : Int} {n : Nat} {K L : Nat → Int} {e : Ending} (h : OfSays N n K L e) : ∃ s E : Int, e = .returned (.tuple #[.int .i64 s, .int .i64 E]) := by
  rcases h with ⟨_, rfl⟩ | ⟨_, rfl⟩ <;> exact ⟨_, _, rfl⟩
theorem OfSays.same {N : Int} {n : Nat} {K L : Nat → Int} {e e2 : Ending} (h : OfSays N n K L e) (h2 : OfSays N n K L e2) : e2 = e := by
  rcases h with ⟨h, rfl⟩ | ⟨h, rfl⟩ <;> rcases h2 with ⟨h2, rfl⟩ | ⟨h2, rfl⟩ <;> first | rfl | exact absurd h2 h | exact absurd h h2
theorem RoomSays.form {N M B y : Int} {e : Ending} (h : RoomSays N M B y e) : ∃ s E : Int, e = .returned (.tuple #[.int .i64 s, .int .i64 E]) := by
  rcases h with ⟨_, rfl⟩ | ⟨_, rfl⟩ <;> exact ⟨_, _, rfl⟩
theorem RoomSays.same {N M B y : Int} {e e2 : Ending} (h : RoomSays N M B y e) (h2 : RoomSays N M B y e2) : e2 = e := by
  rcases h with ⟨h, rfl⟩ | ⟨h, rfl⟩ <;> rcases h2 with ⟨h2, rfl⟩ | ⟨h2, rfl⟩ <;> first | rfl | exact absurd h2 h | exact absurd h h2
theorem bool_same {v v2 : Bool} {P : Prop} (h : v = true ↔ P) (h2 : v2 = true ↔ P) : v2 = v := by
  cases v <;> cases v2 <;> simp_all
end Go.Proofs.Ytkejabhjlflknaa.Sz

namespace Go.Proofs.Ytkejabhjlflknaa.Sz
open Go.RowKit Go.Shelf
open Go.Proofs.Ytkejabhjlflknaa.Ly (TabOk RowOk off off_le off_mono widI widE widI_le width_any lst Tb tdl tdl_tb step_apd int_ones cell_new2 lentTable_any keptTable_any tK tL)
open Go.Proofs.Ytkejabhjlflknaa.Sp (Bad)
attribute [local go_sem] Oper.semAt_some

theorem Tb.cong {w : World} {a : Option Addr} {n : Nat} {K L K' L' : Nat → Int} (s : Tb w a n K L) (hK : ∀ i, i < n → K i = K' i) (hL : ∀ i, i < n → L i = L' i) : Tb w a n K' L' := ⟨fun i hi => by
  obtain ⟨b, o, e, h1, h2⟩ := s.cell i hi
  exact ⟨b, o, e, by rw [← hK i hi]; exact h1, by rw [← hL i hi]; exact h2⟩⟩
theorem blk_si {g n : Nat} {h : Nat → Int} (W : World) (q : Block W g (lentI h n 12) 3) : Si W (some ⟨g, 0, none⟩) n h := ⟨fun i hh => ⟨g, 0, rfl, by rw [Nat.zero_add]; exact q.cell (lentI_lo hh)⟩⟩

set_option maxHeartbeats 8000000 in
set_option maxRecDepth 100000 in
theorem sizeDoes_any (N M B x y : Int) (ta la ka : Option Addr) (n tc nl lc nk kc : Nat) (K0 L0 L K : Nat → Int) (hnil : ta = none → n = 0 ∧ tc = 0) (hcap : n ≤ tc) (hn : n ≤ 8796093022208) (hnl : nl ≤ 140737488355328) (hnk : nk ≤ 140737488355328) (w : World) (hT : Tb w ta n K0 L0) (hL : Hi w la nl lc L) (hK : Hi w ka nk kc K) :
    Calls Try.prog 3 #[bV N M B, .int .i64 x, .int .i64 y, .slice ta n tc, .slice la nl lc, .slice ka nk kc] w fun e w' => e = .returned (.bool true) ∧ Below w.heap.size w w' := by
  have hb0 := (Below.refl w.heap.size w).alloc (Nat.le_refl _) (.cells #[.int .i64 N, .int .i64 M, .int .i64 B] 23)
  have hh0 := heap_alloc_new w (.cells #[.int .i64 N, .int .i64 M, .int .i64 B] 23)
  have HT := Lib.hid hT; have HL := Lib.hid hL; have HK := Lib.hid hK; have HNIL := Lib.hid hnil
  have HRM := Lib.hid (room_any N M B y); have HRR := Lib.hid (rroom_any N M B y); have HTH := Lib.hid (theirs_any N M B)
  unfold bV at HRM HRR HTH ⊢
  have HB0 := Lib.hid hb0; have HX0 := Lib.hid hh0
  clear hb0 hh0 hT hL hK hnil
  go_enter Try.func3, Try.ntmps3
  have hl0 : w.heap.size < (w.alloc (.cells #[.int .i64 N, .int .i64 M, .int .i64 B] 23)).heap.size := by simp
  by_cases h300 : 300 < n + nl + nk
  · have i1 : (300 : Int) < (n : Int) + (nl : Int) + (nk : Int) := by omega
    go_wp2_with fail
    refine (awake11_any _).mono ?_
    rintro e w1 ⟨rfl, hB⟩
    have HB := Lib.hid (HB0.out.trans (hB.mono HB0.out.size)); clear hB
    go_wp2
    go_ret
    exact ⟨rfl, HB.out⟩
  have i1 : ¬ (300 : Int) < (n : Int) + (nl : Int) + (nk : Int) := by omega
  go_wp2_with fail
  generalize w.alloc (.cells #[.int .i64 N, .int .i64 M, .int .i64 B] 23) = w0 at *
  have hs0 := HB0.out.size
  refine (lentTable_any ta n tc K0 L0 _ (HT.out.same HB0.out) HNIL.out (by omega)).mono ?_
  rintro e w1 ⟨rfl, hG, hB1⟩
  have HG1 := Lib.hid hG; have HB1 := Lib.hid (HB0.out.trans (hB1.mono hs0)); have HX1 := Lib.hid ((hB1.block _ hl0).trans HX0.out)
  have hs1 := HB1.out.size
  clear hG hB1 HX0
  generalize w0.heap.size = gt at *
  go_wp2_with fail
  refine (lentInts_any la nl lc L _ (HL.out.same HB1.out) (by omega)).mono ?_
  rintro e w2 ⟨rfl, hG, hB2⟩
  have HL2 := Lib.hid hG; have HG2 := Lib.hid (HG1.out.same hB2); have HB2 := Lib.hid (HB1.out.trans (hB2.mono hs1)); have HX2 := Lib.hid ((hB2.block _ (Array.getElem?_eq_some_iff.1 HX1.out).1).trans HX1.out)
  have hs2 := HB2.out.size
  clear hG hB2 HX1 HG1
  generalize w1.heap.size = gl at *
  go_wp2_with fail
  refine (lentInts_any ka nk kc K _ (HK.out.same HB2.out) (by omega)).mono ?_
  rintro e w3 ⟨rfl, hG, hB3⟩
  have HK3 := Lib.hid hG; have HL3 := Lib.hid (HL2.out.same hB3); have HG3 := Lib.hid (HG2.out.same hB3); have HB3 := Lib.hid (HB2.out.trans (hB3.mono hs2)); have HX3 := Lib.hid ((hB3.block _ (Array.getElem?_eq_some_iff.1 HX2.out).1).trans HX2.out)
  have hs3 := HB3.out.size
  clear hG hB3 HX2 HG2 HL2
  generalize w2.heap.size = gk at *
  have HTU := Lib.hid (fun (W : World) (q : Tb W (some ⟨gt, 0, none⟩) (n + 12) (tK K0 n) (tL L0 n)) => Tb.cong (K' := K0) (L' := L0) (q.less (k := n) (by omega)) (fun i hi => if_pos hi) (fun i hi => if_pos hi))
  go_wp2_with fail
  refine (of_any x _ n _ K0 L0 _ (HTU.out _ HG3.out)).mono ?_
  rintro e w4 ⟨ho1, hB4⟩
  have HO1 := Lib.hid ho1
  obtain ⟨s1, E1, rfl⟩ := ho1.form
  have HK4 := Lib.hid (HK3.out.same hB4); have HL4 := Lib.hid (HL3.out.same hB4); have HG4 := Lib.hid (HG3.out.same hB4); have HB4 := Lib.hid (HB3.out.trans (hB4.mono hs3)); have HX4 := Lib.hid ((hB4.block _ (Array.getElem?_eq_some_iff.1 HX3.out).1).trans HX3.out)
  have hs4 := HB4.out.size
  clear ho1 hB4 HX3 HG3 HL3 HK3
  go_wp2_with fail
  refine (rof_any x ta n tc K0 L0 _ (HT.out.same HB4.out)).mono ?_
  rintro e w5 ⟨ho1, hB5⟩
  obtain rfl := HO1.out.same ho1
  have HK5 := Lib.hid (HK4.out.same hB5); have HL5 := Lib.hid (HL4.out.same hB5); have HG5 := Lib.hid (HG4.out.same hB5); have HB5 := Lib.hid (HB4.out.trans (hB5.mono hs4)); have HX5 := Lib.hid ((hB5.block _ (Array.getElem?_eq_some_iff.1 HX4.out).1).trans HX4.out)
  have hs5 := HB5.out.size
  obtain ⟨c0, c1, c2⟩ := box3 HX5.out
  clear ho1 hB5 HX4 HG4 HL4 HK4
  go_wp2_with fail
  refine (HRM.out _).mono ?_
  rintro e w6 ⟨hr1, hB6⟩
  have HR1 := Lib.hid hr1
  obtain ⟨s2, E2, rfl⟩ := hr1.form
  have HK6 := Lib.hid (HK5.out.same hB6); have HL6 := Lib.hid (HL5.out.same hB6); have HG6 := Lib.hid (HG5.out.same hB6); have HB6 := Lib.hid (HB5.out.trans (hB6.mono hs5)); have HX6 := Lib.hid ((hB6.block _ (Array.getElem?_eq_some_iff.1 HX5.out).1).trans HX5.out)
  have hs6 := HB6.out.size
  clear c0 c1 c2
  obtain ⟨c0, c1, c2⟩ := box3 HX6.out
  clear hr1 hB6 HX5 HG5 HL5 HK5
  go_wp2_with fail
  refine (HTH.out _).mono ?_
  rintro e w6' ⟨rfl, hB6⟩
  have HK6' := Lib.hid (HK6.out.same hB6); have HL6' := Lib.hid (HL6.out.same hB6); have HG6' := Lib.hid (HG6.out.same hB6); have HB6' := Lib.hid (HB6.out.trans (hB6.mono hs6)); have HX6' := Lib.hid ((hB6.block _ (Array.getElem?_eq_some_iff.1 HX6.out).1).trans HX6.out)
  have hs6' := HB6'.out.size
  clear hB6 HX6 HG6 HL6 HK6 c0 c1 c2 HTH
  go_wp2_with fail
  refine (HRR.out _).mono ?_
  rintro e w7 ⟨hr1, hB7⟩
  obtain rfl := HR1.out.same hr1
  have HK7 := Lib.hid (HK6'.out.same hB7); have HL7 := Lib.hid (HL6'.out.same hB7); have HG7 := Lib.hid (HG6'.out.same hB7); have HB7 := Lib.hid (HB6'.out.trans (hB7.mono hs6')); have HX7 := Lib.hid ((hB7.block _ (Array.getElem?_eq_some_iff.1 HX6'.out).1).trans HX6'.out)
  have hs7 := HB7.out.size
  clear hr1 hB7 HX6' HG6' HL6' HK6' HRM HRR
  have q1 : (s1 == s1) = true := by simp
  have q2 : (E1 == E1) = true := by simp
  have q3 : (s2 == s2) = true := by simp
  have q4 : (E2 == E2) = true := by simp
  have q5 : ∀ v : Bool, (v == v) = true := fun v => by simp
  have HSL := Lib.hid (fun (W : World) (q : Below w7.heap.size w7 W) => blk_si W (HL7.out.same q)); have HSK := Lib.hid (fun (W : World) (q : Below w7.heap.size w7 W) => blk_si W (HK7.out.same q))
  have HRL := Lib.hid (fun (W : World) (q : Below w7.heap.size w7 W) => (HL.out.same (HB7.out.trans (q.mono hs7))).si); have HRK := Lib.hid (fun (W : World) (q : Below w7.heap.size w7 W) => (HK.out.same (HB7.out.trans (q.mono hs7))).si)
  have HW := Lib.hid (show (fun W => Below w7.heap.size w7 W) w7.drew from (Below.refl _ w7).drew)
  go_wp2_with fail
  refine wp_region_held_drew (S := fun W => Below w7.heap.size w7 W) (by kernel_rfl) (HW.out) (fun hHeld => ?_)
  refine wpAnyH_take (i := 0) (oi := ⟨some 66, _, _, _, _, none⟩) (v := (.int .i64 s1)) rfl (by kernel_rfl) (by kernel_rfl) (by kernel_rfl) (fun _ _ _ h => h) (Or.inl ⟨by rfl, fun W hW => ?_⟩) (by assumption) ?_
  · go_simp
  simp only [Act.put, List.setIfInBounds_toArray, List.set_cons_zero, List.set_cons_succ]
  refine wpAnyH_take (i := 1) (oi := ⟨some 67, _, _, _, _, none⟩) (v := (.int .i64 s1)) rfl (by kernel_rfl) (by kernel_rfl) (by kernel_rfl) (fun _ _ _ h => h) (Or.inl ⟨by rfl, fun W hW => ?_⟩) (by assumption) ?_
  · go_simp
  simp only [Act.put, List.setIfInBounds_toArray, List.set_cons_zero, List.set_cons_succ]
  refine wpAnyH_take (i := 2) (oi := ⟨some 68, _, _, _, _, none⟩) (v := (.bool true)) rfl (by kernel_rfl) (by kernel_rfl) (by kernel_rfl) (fun _ _ _ h => h) (Or.inl ⟨by rfl, fun W hW => ?_⟩) (by assumption) ?_
  · go_simp
  simp only [Act.put, List.setIfInBounds_toArray, List.set_cons_zero, List.set_cons_succ]
  refine wpAnyH_take (i := 3) (oi := ⟨some 69, _, _, _, _, none⟩) (v := (.bool true)) rfl (by kernel_rfl) (by kernel_rfl) (by kernel_rfl) (fun _ _ _ h => h) (Or.inl ⟨by rfl, fun W hW => ?_⟩) (by assumption) ?_
  · go_simp
  simp only [Act.put, List.setIfInBounds_toArray, List.set_cons_zero, List.set_cons_succ]
  refine wpAnyH_take (i := 4) (oi := ⟨some 70, _, _, _, _, some (3, true)⟩) (v := (.int .i64 E1)) rfl (by kernel_rfl) (by kernel_rfl) (by kernel_rfl) (fun _ _ _ h => h) (Or.inl ⟨by rfl, fun W hW => ?_⟩) (by assumption) ?_
  · go_simp
  simp only [Act.put, List.setIfInBounds_toArray, List.set_cons_zero, List.set_cons_succ]
  refine wpAnyH_take (i := 5) (oi := ⟨some 71, _, _, _, _, some (3, true)⟩) (v := (.int .i64 E1)) rfl (by kernel_rfl) (by kernel_rfl) (by kernel_rfl) (fun _ _ _ h => h) (Or.inl ⟨by rfl, fun W hW => ?_⟩) (by assumption) ?_
  · go_simp
  simp only [Act.put, List.setIfInBounds_toArray, List.set_cons_zero, List.set_cons_succ]
  refine wpAnyH_take (i := 6) (oi := ⟨some 72, _, _, _, _, some (3, true)⟩) (v := (.bool true)) rfl (by kernel_rfl) (by kernel_rfl) (by kernel_rfl) (fun _ _ _ h => h) (Or.inl ⟨by rfl, fun W hW => ?_⟩) (by assumption) ?_
  · go_simp
  simp only [Act.put, List.setIfInBounds_toArray, List.set_cons_zero, List.set_cons_succ]
  refine wpAnyH_take (i := 7) (oi := ⟨some 73, _, _, _, _, none⟩) (v := (.bool true)) rfl (by kernel_rfl) (by kernel_rfl) (by kernel_rfl) (fun _ _ _ h => h) (Or.inl ⟨by rfl, fun W hW => ?_⟩) (by assumption) ?_
  · go_simp
  simp only [Act.put, List.setIfInBounds_toArray, List.set_cons_zero, List.set_cons_succ]
  refine wpAnyH_take (i := 8) (oi := ⟨some 74, _, _, _, _, none⟩) (v := (.bool true)) rfl (by kernel_rfl) (by kernel_rfl) (by kernel_rfl) (fun _ _ _ h => h) (Or.inl ⟨by rfl, fun W hW => ?_⟩) (by assumption) ?_
  · go_simp
  simp only [Act.put, List.setIfInBounds_toArray, List.set_cons_zero, List.set_cons_succ]
  refine wpAnyH_take (i := 9) (oi := ⟨some 75, _, _, _, _, some (8, true)⟩) (v := (.int .i64 s2)) rfl (by kernel_rfl) (by kernel_rfl) (by kernel_rfl) (fun _ _ _ h => h) (Or.inl ⟨by rfl, fun W hW => ?_⟩) (by assumption) ?_
  · go_simp
  simp only [Act.put, List.setIfInBounds_toArray, List.set_cons_zero, List.set_cons_succ]
  refine wpAnyH_take (i := 10) (oi := ⟨some 76, _, _, _, _, some (8, true)⟩) (v := (.int .i64 s2)) rfl (by kernel_rfl) (by kernel_rfl) (by kernel_rfl) (fun _ _ _ h => h) (Or.inl ⟨by rfl, fun W hW => ?_⟩) (by assumption) ?_
  · go_simp
  simp only [Act.put, List.setIfInBounds_toArray, List.set_cons_zero, List.set_cons_succ]
  refine wpAnyH_take (i := 11) (oi := ⟨some 77, _, _, _, _, some (8, true)⟩) (v := (.bool true)) rfl (by kernel_rfl) (by kernel_rfl) (by kernel_rfl) (fun _ _ _ h => h) (Or.inl ⟨by rfl, fun W hW => ?_⟩) (by assumption) ?_
  · go_simp
  simp only [Act.put, List.setIfInBounds_toArray, List.set_cons_zero, List.set_cons_succ]
  refine wpAnyH_take (i := 12) (oi := ⟨some 78, _, _, _, _, none⟩) (v := (.bool true)) rfl (by kernel_rfl) (by kernel_rfl) (by kernel_rfl) (fun _ _ _ h => h) (Or.inl ⟨by rfl, fun W hW => ?_⟩) (by assumption) ?_
  · go_simp
  simp only [Act.put, List.setIfInBounds_toArray, List.set_cons_zero, List.set_cons_succ]
  refine wpAnyH_take (i := 13) (oi := ⟨some 79, _, _, _, _, none⟩) (v := (.bool true)) rfl (by kernel_rfl) (by kernel_rfl) (by kernel_rfl) (fun _ _ _ h => h) (Or.inl ⟨by rfl, fun W hW => ?_⟩) (by assumption) ?_
  · go_simp
  simp only [Act.put, List.setIfInBounds_toArray, List.set_cons_zero, List.set_cons_succ]
  refine wpAnyH_take (i := 14) (oi := ⟨some 80, _, _, _, _, some (13, true)⟩) (v := (.int .i64 E2)) rfl (by kernel_rfl) (by kernel_rfl) (by kernel_rfl) (fun _ _ _ h => h) (Or.inl ⟨by rfl, fun W hW => ?_⟩) (by assumption) ?_
  · go_simp
  simp only [Act.put, List.setIfInBounds_toArray, List.set_cons_zero, List.set_cons_succ]
  refine wpAnyH_take (i := 15) (oi := ⟨some 81, _, _, _, _, some (13, true)⟩) (v := (.int .i64 E2)) rfl (by kernel_rfl) (by kernel_rfl) (by kernel_rfl) (fun _ _ _ h => h) (Or.inl ⟨by rfl, fun W hW => ?_⟩) (by assumption) ?_
  · go_simp
  simp only [Act.put, List.setIfInBounds_toArray, List.set_cons_zero, List.set_cons_succ]
  refine wpAnyH_take (i := 16) (oi := ⟨some 82, _, _, _, _, some (13, true)⟩) (v := (.bool true)) rfl (by kernel_rfl) (by kernel_rfl) (by kernel_rfl) (fun _ _ _ h => h) (Or.inl ⟨by rfl, fun W hW => ?_⟩) (by assumption) ?_
  · go_simp
  simp only [Act.put, List.setIfInBounds_toArray, List.set_cons_zero, List.set_cons_succ]
  refine wpAnyH_take (i := 17) (oi := ⟨some 83, _, _, _, _, none⟩) (v := (.bool true)) rfl (by kernel_rfl) (by kernel_rfl) (by kernel_rfl) (fun _ _ _ h => h) (Or.inl ⟨by rfl, fun W hW => ?_⟩) (by assumption) ?_
  · go_simp
  simp only [Act.put, List.setIfInBounds_toArray, List.set_cons_zero, List.set_cons_succ]
  refine wpAnyH_take (i := 18) (oi := ⟨some 84, _, _, _, _, none⟩) (v := (.bool true)) rfl (by kernel_rfl) (by kernel_rfl) (by kernel_rfl) (fun _ _ _ h => h) (Or.inl ⟨by rfl, fun W hW => ?_⟩) (by assumption) ?_
  · go_simp
  simp only [Act.put, List.setIfInBounds_toArray, List.set_cons_zero, List.set_cons_succ]
  refine wpAnyH_take (i := 19) (oi := ⟨some 85, _, _, _, _, some (18, true)⟩) (v := (bV N M B)) rfl (by kernel_rfl) (by kernel_rfl) (by kernel_rfl) (fun _ _ _ h => h) (Or.inl ⟨by rfl, fun W hW => ?_⟩) (by assumption) ?_
  · (obtain ⟨c0, c1, c2⟩ := box3 ((hW.block _ (Array.getElem?_eq_some_iff.1 HX7.out).1).trans HX7.out); go_simp; try rfl)
  simp only [Act.put, List.setIfInBounds_toArray, List.set_cons_zero, List.set_cons_succ]
  refine wpAnyH_take (i := 21) (oi := ⟨some 87, _, _, _, _, some (18, true)⟩) (v := (bV N M B)) rfl (by kernel_rfl) (by kernel_rfl) (by kernel_rfl) (fun _ _ _ h => h) (Or.inl ⟨by rfl, fun W hW => ?_⟩) (by assumption) ?_
  · (obtain ⟨c0, c1, c2⟩ := box3 ((hW.block _ (Array.getElem?_eq_some_iff.1 HX7.out).1).trans HX7.out); go_simp; try rfl)
  simp only [Act.put, List.setIfInBounds_toArray, List.set_cons_zero, List.set_cons_succ]
  refine wpAnyH_ready (rs := [20]) (by kernel_rfl) (by simp) (AllReadyH.cons rfl (fun KK hKK => ?_) AllReadyH.nil)
  go_simp
  refine (right_any N M B _).mono ?_
  rintro e W1 ⟨⟨v1, rfl, hv1⟩, hb1⟩
  dsimp only
  have hW0 := HW.out
  have HW := Lib.hid (show (fun W => Below w7.heap.size w7 W) W1 from hW0.trans (hb1.mono hW0.size))
  clear hW0 hb1
  refine hKK.out _ _ (HW.out) (fun hHeld => ?_)
  clear hKK KK
  try simp only [Act.put, List.setIfInBounds_toArray, List.set_cons_zero, List.set_cons_succ]
  refine wpAnyH_ready (rs := [22]) (by kernel_rfl) (by simp) (AllReadyH.cons rfl (fun KK hKK => ?_) AllReadyH.nil)
  go_simp
  refine (theirs_any N M B _).mono ?_
  rintro e W2 ⟨rfl, hb2⟩
  dsimp only
  have hW0 := HW.out
  have HW := Lib.hid (show (fun W => Below w7.heap.size w7 W) W2 from hW0.trans (hb2.mono hW0.size))
  clear hW0 hb2
  refine hKK.out _ _ (HW.out) (fun hHeld => ?_)
  clear hKK KK
  try simp only [Act.put, List.setIfInBounds_toArray, List.set_cons_zero, List.set_cons_succ]
  refine wpAnyH_ready (rs := [23]) (by kernel_rfl) (by simp) (AllReadyH.cons rfl (fun KK hKK => ?_) AllReadyH.nil)
  go_simp
  refine (rright_any N M B _).mono ?_
  rintro e W3 ⟨⟨v2, rfl, hv2⟩, hb3⟩
  dsimp only
  have hW0 := HW.out
  have HW := Lib.hid (show (fun W => Below w7.heap.size w7 W) W3 from hW0.trans (hb3.mono hW0.size))
  clear hW0 hb3
  obtain rfl := bool_same hv1 hv2
  clear hv1 hv2
  refine hKK.out _ _ (HW.out) (fun hHeld => ?_)
  clear hKK KK
  try simp only [Act.put, List.setIfInBounds_toArray, List.set_cons_zero, List.set_cons_succ]
  refine wpAnyH_take (i := 24) (oi := ⟨some 90, _, _, _, _, some (18, true)⟩) (v := (.bool true)) rfl (by kernel_rfl) (by kernel_rfl) (by kernel_rfl) (fun _ _ _ h => h) (Or.inl ⟨by rfl, fun W hW => ?_⟩) (by assumption) ?_
  · go_simp
  simp only [Act.put, List.setIfInBounds_toArray, List.set_cons_zero, List.set_cons_succ]
  refine wpAnyH_take (i := 25) (oi := ⟨some 91, _, _, _, _, none⟩) (v := (.bool true)) rfl (by kernel_rfl) (by kernel_rfl) (by kernel_rfl) (fun _ _ _ h => h) (Or.inl ⟨by rfl, fun W hW => ?_⟩) (by assumption) ?_
  · go_simp
  simp only [Act.put, List.setIfInBounds_toArray, List.set_cons_zero, List.set_cons_succ]
  refine wpAnyH_take (i := 26) (oi := ⟨some 92, _, _, _, _, none⟩) (v := (.bool true)) rfl (by kernel_rfl) (by kernel_rfl) (by kernel_rfl) (fun _ _ _ h => h) (Or.inl ⟨by rfl, fun W hW => ?_⟩) (by assumption) ?_
  · go_simp
  simp only [Act.put, List.setIfInBounds_toArray, List.set_cons_zero, List.set_cons_succ]
  refine wpAnyH_take (i := 27) (oi := ⟨some 93, _, _, _, _, some (26, true)⟩) (v := (bV N M B)) rfl (by kernel_rfl) (by kernel_rfl) (by kernel_rfl) (fun _ _ _ h => h) (Or.inl ⟨by rfl, fun W hW => ?_⟩) (by assumption) ?_
  · (obtain ⟨c0, c1, c2⟩ := box3 ((hW.block _ (Array.getElem?_eq_some_iff.1 HX7.out).1).trans HX7.out); go_simp; try rfl)
  simp only [Act.put, List.setIfInBounds_toArray, List.set_cons_zero, List.set_cons_succ]
  refine wpAnyH_take (i := 28) (oi := ⟨some 94, _, _, _, _, some (26, true)⟩) (v := (.slice (some ⟨gl, 0, none⟩) nl (nl + 12))) rfl (by kernel_rfl) (by kernel_rfl) (by kernel_rfl) (fun _ _ _ h => h) (Or.inl ⟨by rfl, fun W hW => ?_⟩) (by assumption) ?_
  · go_simp
  simp only [Act.put, List.setIfInBounds_toArray, List.set_cons_zero, List.set_cons_succ]
  refine wpAnyH_take (i := 29) (oi := ⟨some 95, _, _, _, _, some (26, true)⟩) (v := (.slice (some ⟨gk, 0, none⟩) nk (nk + 12))) rfl (by kernel_rfl) (by kernel_rfl) (by kernel_rfl) (fun _ _ _ h => h) (Or.inl ⟨by rfl, fun W hW => ?_⟩) (by assumption) ?_
  · go_simp
  simp only [Act.put, List.setIfInBounds_toArray, List.set_cons_zero, List.set_cons_succ]
  refine wpAnyH_take (i := 31) (oi := ⟨some 97, _, _, _, _, some (26, true)⟩) (v := (bV N M B)) rfl (by kernel_rfl) (by kernel_rfl) (by kernel_rfl) (fun _ _ _ h => h) (Or.inl ⟨by rfl, fun W hW => ?_⟩) (by assumption) ?_
  · (obtain ⟨c0, c1, c2⟩ := box3 ((hW.block _ (Array.getElem?_eq_some_iff.1 HX7.out).1).trans HX7.out); go_simp; try rfl)
  simp only [Act.put, List.setIfInBounds_toArray, List.set_cons_zero, List.set_cons_succ]
  refine wpAnyH_take (i := 33) (oi := ⟨some 99, _, _, _, _, some (26, true)⟩) (v := (.slice la nl lc)) rfl (by kernel_rfl) (by kernel_rfl) (by kernel_rfl) (fun _ _ _ h => h) (Or.inl ⟨by rfl, fun W hW => ?_⟩) (by assumption) ?_
  · go_simp
  simp only [Act.put, List.setIfInBounds_toArray, List.set_cons_zero, List.set_cons_succ]
  refine wpAnyH_take (i := 34) (oi := ⟨some 100, _, _, _, _, some (26, true)⟩) (v := (.slice ka nk kc)) rfl (by kernel_rfl) (by kernel_rfl) (by kernel_rfl) (fun _ _ _ h => h) (Or.inl ⟨by rfl, fun W hW => ?_⟩) (by assumption) ?_
  · go_simp
  simp only [Act.put, List.setIfInBounds_toArray, List.set_cons_zero, List.set_cons_succ]
  refine wpAnyH_ready (rs := [30]) (by kernel_rfl) (by simp) (AllReadyH.cons rfl (fun KK hKK => ?_) AllReadyH.nil)
  go_simp
  refine (fits_any N M B _ _ nl _ nk _ K L (by omega) _ (HSL.out _ HW.out) (HSK.out _ HW.out)).mono ?_
  rintro e W4 ⟨⟨v3, rfl, hv3⟩, hb4⟩
  dsimp only
  have hW0 := HW.out
  have HW := Lib.hid (show (fun W => Below w7.heap.size w7 W) W4 from hW0.trans (hb4.mono hW0.size))
  clear hW0 hb4
  refine hKK.out _ _ (HW.out) (fun hHeld => ?_)
  clear hKK KK
  try simp only [Act.put, List.setIfInBounds_toArray, List.set_cons_zero, List.set_cons_succ]
  refine wpAnyH_ready (rs := [32]) (by kernel_rfl) (by simp) (AllReadyH.cons rfl (fun KK hKK => ?_) AllReadyH.nil)
  go_simp
  refine (theirs_any N M B _).mono ?_
  rintro e W5 ⟨rfl, hb5⟩
  dsimp only
  have hW0 := HW.out
  have HW := Lib.hid (show (fun W => Below w7.heap.size w7 W) W5 from hW0.trans (hb5.mono hW0.size))
  clear hW0 hb5
  refine hKK.out _ _ (HW.out) (fun hHeld => ?_)
  clear hKK KK
  try simp only [Act.put, List.setIfInBounds_toArray, List.set_cons_zero, List.set_cons_succ]
  refine wpAnyH_ready (rs := [35]) (by kernel_rfl) (by simp) (AllReadyH.cons rfl (fun KK hKK => ?_) AllReadyH.nil)
  go_simp
  refine (rfits_any N M B la ka nl lc nk kc K L (by omega) (by omega) _ (HRL.out _ HW.out) (HRK.out _ HW.out)).mono ?_
  rintro e W6 ⟨⟨v4, rfl, hv4⟩, hb6⟩
  dsimp only
  have hW0 := HW.out
  have HW := Lib.hid (show (fun W => Below w7.heap.size w7 W) W6 from hW0.trans (hb6.mono hW0.size))
  clear hW0 hb6
  obtain rfl := bool_same hv3 hv4
  clear hv3 hv4
  refine hKK.out _ _ (HW.out) (fun hHeld => ?_)
  clear hKK KK
  try simp only [Act.put, List.setIfInBounds_toArray, List.set_cons_zero, List.set_cons_succ]
  refine wpAnyH_take (i := 36) (oi := ⟨some 102, _, _, _, _, some (26, true)⟩) (v := (.bool true)) rfl (by kernel_rfl) (by kernel_rfl) (by kernel_rfl) (fun _ _ _ h => h) (Or.inl ⟨by rfl, fun W hW => ?_⟩) (by assumption) ?_
  · go_simp
  simp only [Act.put, List.setIfInBounds_toArray, List.set_cons_zero, List.set_cons_succ]
  refine wpAnyH_take (i := 37) (oi := ⟨some 103, _, _, _, _, none⟩) (v := (.bool true)) rfl (by kernel_rfl) (by kernel_rfl) (by kernel_rfl) (fun _ _ _ h => h) (Or.inl ⟨by rfl, fun W hW => ?_⟩) (by assumption) ?_
  · go_simp
  simp only [Act.put, List.setIfInBounds_toArray, List.set_cons_zero, List.set_cons_succ]
  refine wpAnyH_ready (rs := [38]) (by kernel_rfl) (by simp) (AllReadyH.cons rfl (fun KK hKK => ?_) AllReadyH.nil)
  go_simp
  refine hKK.out _ _ (HW.out) (fun hHeld => ?_)
  clear hKK KK
  try simp only [Act.put, List.setIfInBounds_toArray, List.set_cons_zero, List.set_cons_succ]
  refine wpAnyH_done (by kernel_rfl) ?_ _
  have HB8 := Lib.hid (HB7.out.trans (HW.out.mono hs7)); have HK8 := Lib.hid (HK7.out.same HW.out); have HL8 := Lib.hid (HL7.out.same HW.out); have HG8 := Lib.hid (HG7.out.same HW.out)
  have hs8 := HB8.out.size
  clear HK7 HL7 HG7 HX7 HSL HSK HRL HRK q1 q2 q3 q4 q5 HW
  go_wp2_with fail
  refine (keptTable_any gt ta n tc K0 L0 _ (HT.out.same HB8.out) hcap HG8.out (by omega)).mono ?_
  rintro e w9 ⟨rfl, hB9⟩
  have HK9 := Lib.hid (HK8.out.same hB9); have HL9 := Lib.hid (HL8.out.same hB9); have HB9 := Lib.hid (HB8.out.trans (hB9.mono hs8))
  clear hB9 HK8 HL8 HG8
  go_wp2_with fail
  refine (keptInts_any gl la nl lc L _ (HL.out.same HB9.out) HL9.out (by omega)).mono ?_
  rintro e w10 ⟨rfl, q, hq⟩
  have hB10 := quiet_b hq
  have HK10 := Lib.hid (HK9.out.same hB10); have HB10 := Lib.hid (HB9.out.trans (hB10.mono HB9.out.size))
  clear hq hB10 HK9 HL9
  go_wp2_with fail
  refine (keptInts_any gk ka nk kc K _ (HK.out.same HB10.out) HK10.out (by omega)).mono ?_
  rintro e w11 ⟨rfl, q, hq⟩
  have hB11 := quiet_b hq
  have HB11 := Lib.hid (HB10.out.trans (hB11.mono HB10.out.size))
  clear hq hB11 HK10
  go_wp2_with fail
  refine (awake11_any _).mono ?_
  rintro e w12 ⟨rfl, hB⟩
  have HB12 := Lib.hid (HB11.out.trans (hB.mono HB11.out.size)); clear hB
  go_wp2
  go_ret
  exact ⟨rfl, HB12.out⟩
end Go.Proofs.Ytkejabhjlflknaa.Sz

namespace Go.Proofs.Ytkejabhjlflknaa.Sz
open Go.RowKit Go.Shelf
open Go.Proofs.Ytkejabhjlflknaa.Ly (TabOk RowOk off off_le off_mono widI widE widI_le widI_ok width_any lst Tb tdl tdl_tb step_apd int_ones cell_new2 NumSays lLong_any)
open Go.Proofs.Ytkejabhjlflknaa.Sp (Bad wid wid_least wid_hi)
attribute [local go_sem] Oper.semAt_some

/-- greater thresholds need no more room. -/
theorem widI_mono {L k k' : Int} (hb : ¬ Bad L k) (hk : k ≤ k') (h5 : k' ≤ 255) : widI L k' ≤ widI L k := by
  have hb' := hb
  unfold Bad at hb'
  have hb2 : ¬ Bad L k' := by unfold Bad; omega
  rw [widI_ok hb, widI_ok hb2]
  exact wid_least (by omega) (Nat.le_trans (wid_hi (show 1 ≤ k.toNat by omega)) (Nat.mul_le_mul_right _ (by omega)))
theorem off_less {N : Int} (h5 : N ≤ 255) {K K' L : Nat → Int} : ∀ n, (∀ i, i < n → RowOk N K L i) → (∀ i, i < n → K i ≤ K' i ∧ K' i ≤ N) → off K' L n ≤ off K L n
  | 0, _, _ => Nat.le_refl _
  | n + 1, hr, hk => by
    show off K' L n + widI (L n) (K' n) ≤ off K L n + widI (L n) (K n)
    have h1 := off_less h5 n (fun i hi => hr i (by omega)) (fun i hi => hk i (by omega))
    have h2 := hr n (by omega)
    have h3 := hk n (by omega)
    have h4 := widI_mono (L := L n) (k := K n) (k' := K' n) (by unfold Bad; unfold RowOk at h2; omega) h3.1 (by omega)
    omega
theorem tab_all {N : Int} {n : Nat} {K L : Nat → Int} (h : TabOk N n K L) : TabOk N n (fun _ => N) L :=
  ⟨h.1, h.2.1, h.2.2.1, h.2.2.2.1, fun i hi => by
    have := h.2.2.2.2 i hi
    have h0 := h.1
    unfold RowOk at this ⊢
    exact ⟨h0, Int.le_refl _, this.2.2.1, this.2.2.2.1, fun _ => Int.le_refl _⟩⟩
/-- if some fit, the greatest do. -/
theorem fit_all {N M B : Int} {n : Nat} {K L : Nat → Int} (h : FitP N M B n K L) : FitP N M B n (fun _ => N) L := by
  refine ⟨h.1, tab_all h.2.1, Int.le_trans ?_ h.2.2⟩
  have := off_less (N := N) (K := K) (K' := fun _ => N) (L := L) h.2.1.2.1 n h.2.1.2.2.2.2 (fun i hi => ⟨(h.2.1.2.2.2.2 i hi).2.1, Int.le_refl _⟩)
  omega

set_option maxHeartbeats 16000000 in
set_option maxRecDepth 100000 in
theorem sizeGreatest_any (N M B : Int) (la ka : Option Addr) (nl lc nk kc : Nat) (L K : Nat → Int) (hnl : nl ≤ 140737488355328) (hnk : nk ≤ 140737488355328) (w : World) (hL : Hi w la nl lc L) (hK : Hi w ka nk kc K) :
    Calls Try.prog 5 #[bV N M B, .slice la nl lc, .slice ka nk kc] w fun e w' => e = .returned (.bool true) ∧ Below w.heap.size w w' := by
  have hb0 := (Below.refl w.heap.size w).alloc (Nat.le_refl _) (.cells #[.int .i64 N, .int .i64 M, .int .i64 B] 23)
  have hh0 := heap_alloc_new w (.cells #[.int .i64 N, .int .i64 M, .int .i64 B] 23)
  have HL := Lib.hid hL; have HK := Lib.hid hK
  have HRM := Lib.hid (room_any N M B (nl : Nat)); have HRI := Lib.hid (right_any N M B); have HFI := Lib.hid (fits_any N M B); have HCA := Lib.hid (can_any N M B)
  unfold bV at HRM HRI HFI HCA ⊢
  obtain ⟨i3, hi, hz0, hz1, hz2⟩ := info_parts Try.infoInt2
  have HI := Lib.hid hi; have HZ0 := Lib.hid hz0; have HZ1 := Lib.hid hz1; have HZ2 := Lib.hid hz2
  obtain ⟨i0, hj, hy0, hy1, hy2⟩ := info_parts Ly.Try.infoTRow
  have HJ := Lib.hid hj; have HY0 := Lib.hid hy0; have HY1 := Lib.hid hy1; have HY2 := Lib.hid hy2
  have HB0 := Lib.hid hb0; have HX0 := Lib.hid hh0
  clear hb0 hh0 hL hK hi hz0 hz1 hz2 hj hy0 hy1 hy2
  go_enter Try.func5, Try.ntmps5
  have hl0 : w.heap.size < (w.alloc (.cells #[.int .i64 N, .int .i64 M, .int .i64 B] 23)).heap.size := by simp
  go_wp2_with fail
  generalize w.alloc (.cells #[.int .i64 N, .int .i64 M, .int .i64 B] 23) = w0 at *
  have hs0 := HB0.out.size
  refine (awake11_any _).mono ?_
  rintro e w1 ⟨rfl, hB1⟩
  have HB1 := Lib.hid (HB0.out.trans (hB1.mono hs0)); have HX1 := Lib.hid ((hB1.block _ hl0).trans HX0.out)
  have hs1 := HB1.out.size
  clear hB1 HX0 hl0 HB0
  by_cases h300 : 300 < nl + nk
  · have i1 : (300 : Int) < (nl : Int) + (nk : Int) := by omega
    go_wp2
    go_ret
    exact ⟨rfl, HB1.out⟩
  have i1 : ¬ (300 : Int) < (nl : Int) + (nk : Int) := by omega
  obtain ⟨c0, c1, c2⟩ := box3 HX1.out
  go_wp2_with fail
  refine (HFI.out la ka nl lc nk kc K L (by omega) _ (HL.out.same HB1.out).si (HK.out.same HB1.out).si).mono ?_
  rintro e w2 ⟨⟨v1, rfl, hv1⟩, hB2⟩
  have HV1 := Lib.hid hv1
  have HB2 := Lib.hid (HB1.out.trans (hB2.mono hs1)); have HX2 := Lib.hid ((hB2.block _ (Array.getElem?_eq_some_iff.1 HX1.out).1).trans HX1.out)
  have hs2 := HB2.out.size
  clear hB2 hv1 c0 c1 c2 HX1 HB1 i1
  obtain ⟨c0, c1, c2⟩ := box3 HX2.out
  have step : (∃ u : Unit, u = ()) := ⟨(), rfl⟩
  cases v1
  · -- nothing fits
    go_wp2_with fail
    refine (HRI.out _).mono ?_
    rintro e w4 ⟨⟨v3, rfl, hv3⟩, hB4⟩
    have HV3 := Lib.hid hv3
    have HB4 := Lib.hid (HB2.out.trans (hB4.mono hs2)); have HX4 := Lib.hid ((hB4.block _ (Array.getElem?_eq_some_iff.1 HX2.out).1).trans HX2.out)
    have hs4 := HB4.out.size
    clear hB4 hv3 c0 c1 c2 HX2
    obtain ⟨c0, c1, c2⟩ := box3 HX4.out
    cases v3
    · have hno : ∀ K', ¬ FitP N M B nl K' L := fun K' h => absurd (HV3.out.2 h.1) (by simp)
      first
        | exact absurd HF1.out.2 (hno K)
        | (have HNO := Lib.hid hno
           clear hno
           go_wp2_with fail
           refine (HCA.out la nl lc L (by omega) _ (HL.out.same HB4.out).si).mono ?_
           rintro e w5 ⟨⟨v5, rfl, hv5⟩, hB5⟩
           obtain rfl : v5 = false := by
             cases v5
             · rfl
             · exact absurd (hv5.1 rfl) (HNO.out _)
           have HB5 := Lib.hid (HB4.out.trans (hB5.mono hs4))
           clear hB5 hv5
           go_wp2
           go_ret
           exact ⟨rfl, HB5.out⟩)
    have HRB := Lib.hid (HV3.out.1 rfl)
    clear c0 c1 c2 HV3
    go_wp2_with fail
    go_loopw [8, 9] (fun o i wr => ∃ (k : Nat) (aa : Option Addr) (ac : Nat) (W : World), W = wr ∧ k ≤ nl ∧ i = .int .i64 k ∧ o = .slice aa k ac ∧ wr.ownsRow w4.heap.size 3 1 (.slice aa k ac) k (inh (fun _ => N) k) ∧ Below w4.heap.size w4 wr) (fun _ i _ => nl - (intOf i).toNat)
    case atStart => exact ⟨0, none, 0, _, rfl, by omega, rfl, rfl, World.ownsRow_nil _ _ _ _, Below.refl _ _⟩
    case round =>
      obtain ⟨k, aa, ac, w7, rfl, hk, rfl, rfl, hO, hB⟩ := hrel
      have HO := Lib.hid hO; have HBx := Lib.hid hB
      have hsx := hB.size
      have HX7 := Lib.hid ((hB.block _ (Array.getElem?_eq_some_iff.1 HX4.out).1).trans HX4.out)
      clear hO hB
      by_cases hkn : k < nl
      · have i2 : (k : Int) < (nl : Int) := by omega
        obtain ⟨c0, c1, c2⟩ := box3 HX7.out
        have HOW := Lib.hid (own_below HO.out ((Below.refl _ w7).alloc (Nat.le_refl _) (.cells #[.int .i64 N] 3)))
        have hbb : w4.heap.size ≤ (w7.alloc (.cells #[.int .i64 N] 3)).heap.size := by rw [World.size_alloc]; omega
        go_wp2_with (at_builtin; refine wpList_append_bag _ rfl _ _ 25 rfl w4.heap.size 3 i3 (.int .i64 0) 8 Try.underlying25 HI.out HZ0.out HZ1.out HZ2.out rfl aa k ac _ rfl HOW.out _ 1 1 [.int .i64 N] rfl rfl (cell_new1 _ _ _) (one_single _ _) (by decide) (by unfold maxLen; omega) (by omega) hbb ?_; intro g6 c6 w6 hown6 hc6 hlt6; have hb6 := bag_below (B := w4.heap.size) hc6 ((hown6.lt g6 rfl).1) hbb; have HB6 := Lib.hid (HBx.out.trans (((Below.refl w4.heap.size w7).alloc hsx _).trans hb6)); have HOWN6 := Lib.hid hown6; clear hb6 hown6 hc6 hlt6)
        have ho := HOWN6.out
        rw [← inh_s (h := fun _ => N)] at ho
        have HO6 := Lib.hid ho
        clear ho c0 c1 c2
        go_wp2
        go_roundw
        case rel => exact ⟨k + 1, _, c6, _, rfl, by omega, by go_num, rfl, HO6.out, HB6.out⟩
        case measure => simp [intOf]; omega
      · obtain rfl : k = nl := by omega
        have i2 : ¬ (k : Int) < (k : Int) := by omega
        have HB7 := Lib.hid (HB4.out.trans (HBx.out.mono hs4))
        have hs7 := HB7.out.size
        have HRL := Lib.hid (fun (W : World) (q : Below w7.heap.size w7 W) => (HL.out.same (HB7.out.trans (q.mono hs7))).si)
        have HSA := Lib.hid (fun (W : World) (q : Below w7.heap.size w7 W) => inh_si (own_below HO.out q))
        have HW := Lib.hid (show (fun W => Below w7.heap.size w7 W) w7.drew from (Below.refl _ w7).drew)
        go_wp2_with fail
        clear i2
        refine wp_region_held_drew (S := fun W => Below w7.heap.size w7 W) (by kernel_rfl) (HW.out) (fun hHeld => ?_)
        refine wpAnyH_take (i := 0) (oi := ⟨some 59, _, _, _, _, none⟩) (v := (bV N M B)) rfl (by kernel_rfl) (by kernel_rfl) (by kernel_rfl) (fun _ _ _ h => h) (Or.inl ⟨by rfl, fun W hW => ?_⟩) (by assumption) ?_
        · (obtain ⟨c0, c1, c2⟩ := box3 ((hW.block _ (Array.getElem?_eq_some_iff.1 HX7.out).1).trans HX7.out); go_simp; try rfl)
        simp only [Act.put, List.setIfInBounds_toArray, List.set_cons_zero, List.set_cons_succ]
        refine wpAnyH_take (i := 1) (oi := ⟨some 60, _, _, _, _, none⟩) (v := (.slice la k lc)) rfl (by kernel_rfl) (by kernel_rfl) (by kernel_rfl) (fun _ _ _ h => h) (Or.inl ⟨by rfl, fun W hW => ?_⟩) (by assumption) ?_
        · go_simp
        simp only [Act.put, List.setIfInBounds_toArray, List.set_cons_zero, List.set_cons_succ]
        refine wpAnyH_take (i := 3) (oi := ⟨some 62, _, _, _, _, none⟩) (v := (bV N M B)) rfl (by kernel_rfl) (by kernel_rfl) (by kernel_rfl) (fun _ _ _ h => h) (Or.inl ⟨by rfl, fun W hW => ?_⟩) (by assumption) ?_
        · (obtain ⟨c0, c1, c2⟩ := box3 ((hW.block _ (Array.getElem?_eq_some_iff.1 HX7.out).1).trans HX7.out); go_simp; try rfl)
        simp only [Act.put, List.setIfInBounds_toArray, List.set_cons_zero, List.set_cons_succ]
        refine wpAnyH_take (i := 4) (oi := ⟨some 63, _, _, _, _, none⟩) (v := (.slice la k lc)) rfl (by kernel_rfl) (by kernel_rfl) (by kernel_rfl) (fun _ _ _ h => h) (Or.inl ⟨by rfl, fun W hW => ?_⟩) (by assumption) ?_
        · go_simp
        simp only [Act.put, List.setIfInBounds_toArray, List.set_cons_zero, List.set_cons_succ]
        refine wpAnyH_take (i := 5) (oi := ⟨some 64, _, _, _, _, none⟩) (v := (.slice aa k ac)) rfl (by kernel_rfl) (by kernel_rfl) (by kernel_rfl) (fun _ _ _ h => h) (Or.inl ⟨by rfl, fun W hW => ?_⟩) (by assumption) ?_
        · go_simp
        simp only [Act.put, List.setIfInBounds_toArray, List.set_cons_zero, List.set_cons_succ]
        refine wpAnyH_ready (rs := [2]) (by kernel_rfl) (by simp) (AllReadyH.cons rfl (fun KK hKK => ?_) AllReadyH.nil)
        go_simp
        refine (can_any N M B la k lc L (by omega) _ (HRL.out _ HW.out)).mono ?_
        rintro e W1 ⟨⟨v4, rfl, hv4⟩, hb1⟩
        dsimp only
        have hW0 := HW.out
        have HW := Lib.hid (show (fun W => Below w7.heap.size w7 W) W1 from hW0.trans (hb1.mono hW0.size))
        clear hW0 hb1
        refine hKK.out _ _ (HW.out) (fun hHeld => ?_)
        clear hKK KK
        try simp only [Act.put, List.setIfInBounds_toArray, List.set_cons_zero, List.set_cons_succ]
        refine wpAnyH_ready (rs := [6]) (by kernel_rfl) (by simp) (AllReadyH.cons rfl (fun KK hKK => ?_) AllReadyH.nil)
        go_simp
        refine (fits_any N M B la aa k lc k ac (fun _ => N) L (by omega) _ (HRL.out _ HW.out) (HSA.out _ HW.out)).mono ?_
        rintro e W2 ⟨⟨v5, rfl, hv5⟩, hb2⟩
        dsimp only
        have hW0 := HW.out
        have HW := Lib.hid (show (fun W => Below w7.heap.size w7 W) W2 from hW0.trans (hb2.mono hW0.size))
        clear hW0 hb2
        obtain rfl : v5 = v4 := bool_same hv4 ⟨fun h => (hv5.1 h).2, fun h => hv5.2 ⟨rfl, h⟩⟩
        clear hv4 hv5
        refine hKK.out _ _ (HW.out) (fun hHeld => ?_)
        clear hKK KK
        try simp only [Act.put, List.setIfInBounds_toArray, List.set_cons_zero, List.set_cons_succ]
        refine wpAnyH_take (i := 7) (oi := ⟨some 66, _, _, _, _, none⟩) (v := (.bool false)) rfl (by kernel_rfl) (by kernel_rfl) (by kernel_rfl) (fun _ _ _ h => h) (Or.inl ⟨by rfl, fun W hW => ?_⟩) (by assumption) ?_
        · cases v5 <;> go_simp
        simp only [Act.put, List.setIfInBounds_toArray, List.set_cons_zero, List.set_cons_succ]
        refine wpAnyH_done (by kernel_rfl) ?_ _
        have HB8 := Lib.hid (HB7.out.trans (HW.out.mono hs7)); have HX8 := Lib.hid ((HW.out.block _ (Array.getElem?_eq_some_iff.1 HX7.out).1).trans HX7.out)
        have hs8 := HB8.out.size
        clear HRL HSA HW HX7 HB7 HO HBx
        obtain ⟨c0, c1, c2⟩ := box3 HX8.out
        go_wp2_with fail
        refine (HRM.out _).mono ?_
        rintro e w9 ⟨hro, hB9⟩
        have HB9 := Lib.hid (HB8.out.trans (hB9.mono hs8)); have HX9 := Lib.hid ((hB9.block _ (Array.getElem?_eq_some_iff.1 HX8.out).1).trans HX8.out)
        have hs9 := HB9.out.size
        clear hB9 c0 c1 c2 HX8
        rcases hro with ⟨hno, rfl⟩ | ⟨⟨_, hn1, hn8⟩, rfl⟩
        · first
            | exact absurd ⟨HRB.out, by have := HF1.out.2.2.1.2.2; omega⟩ hno
            | (go_wp2
               go_ret
               exact ⟨rfl, HB9.out⟩)
        by_cases hnm : nk = k
        rotate_left
        · have g1 : ((nk : Int) != (k : Int)) = true := by simp; omega
          first
            | exact absurd HF1.out.1.symm hnm
            | (go_wp2
               go_ret
               exact ⟨rfl, HB9.out⟩)
        subst hnm
        have g1 : ((nk : Int) != (nk : Int)) = false := by simp
        obtain ⟨R, hR⟩ : ∃ R, R = roomI N M B (nk : Nat) := ⟨_, rfl⟩
        rw [← hR]
        have HR := Lib.hid hR
        clear hR
        go_wp2_with fail
        clear g1
        go_loopw [12, 13] (fun o i wr => ∃ (k : Nat) (ta : Option Addr) (tc : Nat) (W : World), W = wr ∧ k ≤ nk ∧ i = .int .i64 k ∧ o = .slice ta k tc ∧ wr.ownsRow w9.heap.size 44 2 (.slice ta k tc) k (tdl K L k) ∧ Below w9.heap.size w9 wr) (fun _ i _ => nk - (intOf i).toNat)
        case atStart => exact ⟨0, none, 0, _, rfl, by omega, rfl, rfl, World.ownsRow_nil _ _ _ _, Below.refl _ _⟩
        case round =>
          obtain ⟨k, ta, tc, wx, rfl, hk', rfl, rfl, hO, hB⟩ := hrel
          have HO := Lib.hid hO; have HB := Lib.hid hB
          have hsz := hB.size
          clear hO hB
          have hBw := HB9.out.trans (HB.out.mono hs9)
          by_cases hkm : k < nk
          · have i2 : (k : Int) < (nk : Int) := by omega
            obtain ⟨ab, ao, ea, c1⟩ := (HK.out.same hBw).si.cell k hkm
            obtain ⟨lb, lo, el, c2⟩ := (HL.out.same hBw).si.cell k hkm
            have EA := Lib.hid (show ka = some ⟨ab, ao, none⟩ from ea); have EL := Lib.hid (show la = some ⟨lb, lo, none⟩ from el)
            subst ea el
            have HRO := Lib.hid (show ∀ W, Below wx.heap.size wx W → W.ownsRow w9.heap.size 44 2 (.slice ta k tc) k (tdl K L k) from fun W hW => own_below HO.out hW)
            have hal : Below wx.heap.size wx (wx.alloc (.cells #[.int .i64 (K k), .int .i64 (L k)] 44)).drew := below_dr ((Below.refl _ wx).alloc (Nat.le_refl _) _) 1
            have hnew : ∀ j u, [Value.int .i64 (K k), Value.int .i64 (L k)][j]? = some u → ((wx.alloc (.cells #[.int .i64 (K k), .int .i64 (L k)] 44)).drew).cell? ((⟨wx.heap.size, 0, none⟩ : Addr).add j) = some u := cell_new2 wx _ _ 44
            have hbb : w9.heap.size ≤ ((wx.alloc (.cells #[.int .i64 (K k), .int .i64 (L k)] 44)).drew).heap.size := Nat.le_trans hsz hal.size
            have HAL := Lib.hid hal; have HNEW := Lib.hid hnew; have HBB := Lib.hid hbb
            clear hal hnew hbb hBw
            go_wp2_with fail
            go_region_law ((refine step_apd rfl (.tmp 91) (.tmp 101) 24 rfl w9.heap.size 44 i0 (.agg #[.int .i64 0, .int .i64 0]) 2 16 Try.underlying24 HJ.out HY0.out HY1.out HY2.out rfl (by decide) (.slice ta k tc) k _ rfl (HRO.out _ HAL.out) ⟨wx.heap.size, 0, none⟩ 1 1 [.int .i64 (K k), .int .i64 (L k)] rfl rfl HNEW.out (int_ones _ _) (by unfold maxLen; omega) (by omega) HBB.out ?_; intro v6 w6 hown6 hgrow6; obtain ⟨g6, c6, rfl⟩ := own_slice hown6; have HOWN6 := Lib.hid hown6; have HB6 := Lib.hid (HB.out.trans ((HAL.out.mono hsz).trans ((Below.refl w9.heap.size _).grown hgrow6 HBB.out (fun k e => ((HRO.out _ HAL.out).lt k e).1)))); clear hown6 hgrow6))
            all_goals
              go_wp2
              go_roundw
              case rel => exact ⟨k + 1, _, c6, _, rfl, by omega, by go_num, rfl, HOWN6.out, HB6.out⟩
              case measure => simp [intOf]; omega
          · obtain rfl : k = nk := by omega
            have i2 : ¬ (k : Int) < (k : Int) := by omega
            have HT := Lib.hid (tdl_tb HO.out).1
            have HBW := Lib.hid hBw
            have HXA := Lib.hid ((HB.out.block _ (Array.getElem?_eq_some_iff.1 HX9.out).1).trans HX9.out)
            obtain ⟨c0, c1, c2⟩ := box3 HXA.out
            clear hBw
            go_wp2_with fail
            refine (lLong_any N ta k tc K L _ HT.out).mono ?_
            rintro e wb ⟨hns, hBb⟩
            have HBb := Lib.hid (HBW.out.trans (hBb.mono HBW.out.size)); have HTb := Lib.hid (HT.out.same hBb); have HXb := Lib.hid ((hBb.block _ (Array.getElem?_eq_some_iff.1 HXA.out).1).trans HXA.out)
            clear hBb c0 c1 c2 HT HXA
            rcases hns with ⟨hno, rfl⟩ | ⟨ht, T, rfl, rfl⟩
            · have HNO := Lib.hid hno; clear hno
              obtain ⟨c0, c1, c2⟩ := box3 HXb.out
              go_wp2_with fail
              refine (of_any N ta k tc K L _ HTb.out).mono ?_
              rintro e wc ⟨hof, hBc⟩
              have HBc := Lib.hid (HBb.out.trans (hBc.mono HBb.out.size))
              clear hBc
              rcases hof with ⟨_, rfl⟩ | ⟨ht, _⟩
              rotate_left
              · exact absurd ht HNO.out
              first
                | exact absurd HF1.out.2.2.1 HNO.out
                | (go_wp2
                   go_ret
                   exact ⟨rfl, HBc.out⟩)
            have HTO := Lib.hid ht; clear ht
            have ho : off K L k ≤ 8 * 65535 := Nat.le_trans (off_le K L k) (Nat.mul_le_mul_right _ (by omega))
            obtain ⟨c0, c1, c2⟩ := box3 HXb.out
            go_wp2_with fail
            refine (of_any N ta k tc K L _ HTb.out).mono ?_
            rintro e wc ⟨hof, hBc⟩
            have HBc := Lib.hid (HBb.out.trans (hBc.mono HBb.out.size)); have HXc := Lib.hid ((hBc.block _ (Array.getElem?_eq_some_iff.1 HXb.out).1).trans HXb.out)
            clear hBc c0 c1 c2 HXb
            rcases hof with ⟨hno, _⟩ | ⟨_, rfl⟩
            · exact absurd HTO.out hno
            obtain ⟨c0, c1, c2⟩ := box3 HXc.out
            have hN : 1 ≤ N ∧ N ≤ 255 := HRB.out.1
            have HFR := Lib.hid (fit_room (y := (k : Int)) (o := ((off K L k : Nat) : Int)) HRB.out (by omega) (by have := HTO.out.2.2.1; omega))
            obtain ⟨o, ho'⟩ : ∃ o, o = off K L k := ⟨_, rfl⟩
            have HOE := Lib.hid ho'
            rw [← ho'] at ho ⊢
            obtain ⟨s, hs⟩ : ∃ s, s = 18 + 3 * k + o := ⟨_, rfl⟩
            have HS := Lib.hid (show (18 : Int) + 3 * (k : Int) + ((off K L k : Nat) : Int) = (s : Int) by omega)
            have x1 : (o : Int) + 18 + 3 * (k : Int) = (s : Int) := by omega
            have q1 : ((s : Int) == (s : Int)) = true := by simp
            rw [← hs]
            have hs9' : s ≤ 600000 := by omega
            obtain ⟨p, hp⟩ : ∃ p, p = N * (s : Int) := ⟨_, rfl⟩
            have p0 : 0 ≤ p := by rw [hp]; exact Int.mul_nonneg (by omega) (by omega)
            have p1 : p ≤ 255 * 600000 := by rw [hp]; exact Int.le_trans (Int.mul_le_mul_of_nonneg_right hN.2 (by omega)) (by omega)
            have k1 : (s : Int) * N = p := by rw [hp, Int.mul_comm]
            have HK1 := Lib.hid (show N * (s : Int) = p from hp.symm)
            have HFP := Lib.hid (show (o : Int) ≤ R ↔ FitP N M B k K L by
              rw [HR.out, HOE.out]
              exact ⟨fun h => ⟨HRB.out, HTO.out, h⟩, fun h => h.2.2⟩)
            clear hs hp ho'
            have hFR := HFR.out
            rw [HS.out, HK1.out, ← HOE.out, ← HR.out] at hFR
            have HFR2 := Lib.hid hFR
            clear hFR HFR
            have hnr : ¬ (o : Int) ≤ R := fun h => absurd (HV1.out.2 ⟨by first | rfl | trivial, HFP.out.1 h⟩) (by simp)
            have g3 : decide ((o : Int) ≤ R) = false := by simp; omega
            have q2 : (false == false) = true := rfl
            by_cases h1 : (s : Int) ≤ M
            · have g1 : decide ((s : Int) ≤ M) = true := by simp [h1]
              have h2 : ¬ p ≤ B := fun h => hnr (HFR2.out.1 ⟨h1, h⟩)
              have g2 : decide (p ≤ B) = false := by simp; omega
              clear h1 h2 hnr
              go_wp2
              go_ret
              exact ⟨rfl, HBc.out⟩
            · have g1 : decide ((s : Int) ≤ M) = false := by simp; omega
              clear h1 hnr
              go_wp2
              go_ret
              exact ⟨rfl, HBc.out⟩
  · go_wp2_with fail
    refine (HCA.out la nl lc L (by omega) _ (HL.out.same HB2.out).si).mono ?_
    rintro e w3 ⟨⟨v2, rfl, hv2⟩, hB3⟩
    have HF1 := Lib.hid (show nl = nk ∧ FitP N M B nl K L from by first | exact HV1.out.1 rfl | exact HV1.out.1 trivial)
    obtain rfl : v2 = true := hv2.2 (fit_all HF1.out.2)
    have HB3 := Lib.hid (HB2.out.trans (hB3.mono hs2)); have HX3 := Lib.hid ((hB3.block _ (Array.getElem?_eq_some_iff.1 HX2.out).1).trans HX2.out)
    have hs3 := HB3.out.size
    clear hB3 hv2 c0 c1 c2 HX2
    obtain ⟨c0, c1, c2⟩ := box3 HX3.out
    go_wp2_with fail
    refine (HRI.out _).mono ?_
    rintro e w4 ⟨⟨v3, rfl, hv3⟩, hB4⟩
    have HV3 := Lib.hid hv3
    have HB4 := Lib.hid (HB3.out.trans (hB4.mono hs3)); have HX4 := Lib.hid ((hB4.block _ (Array.getElem?_eq_some_iff.1 HX3.out).1).trans HX3.out)
    have hs4 := HB4.out.size
    clear hB4 hv3 c0 c1 c2 HX3
    obtain ⟨c0, c1, c2⟩ := box3 HX4.out
    cases v3
    · have hno : ∀ K', ¬ FitP N M B nl K' L := fun K' h => absurd (HV3.out.2 h.1) (by simp)
      first
        | exact absurd HF1.out.2 (hno K)
        | (have HNO := Lib.hid hno
           clear hno
           go_wp2_with fail
           refine (HCA.out la nl lc L (by omega) _ (HL.out.same HB4.out).si).mono ?_
           rintro e w5 ⟨⟨v5, rfl, hv5⟩, hB5⟩
           obtain rfl : v5 = false := by
             cases v5
             · rfl
             · exact absurd (hv5.1 rfl) (HNO.out _)
           have HB5 := Lib.hid (HB4.out.trans (hB5.mono hs4))
           clear hB5 hv5
           go_wp2
           go_ret
           exact ⟨rfl, HB5.out⟩)
    have HRB := Lib.hid (HV3.out.1 rfl)
    clear c0 c1 c2 HV3
    go_wp2_with fail
    go_loopw [8, 9] (fun o i wr => ∃ (k : Nat) (aa : Option Addr) (ac : Nat) (W : World), W = wr ∧ k ≤ nl ∧ i = .int .i64 k ∧ o = .slice aa k ac ∧ wr.ownsRow w4.heap.size 3 1 (.slice aa k ac) k (inh (fun _ => N) k) ∧ Below w4.heap.size w4 wr) (fun _ i _ => nl - (intOf i).toNat)
    case atStart => exact ⟨0, none, 0, _, rfl, by omega, rfl, rfl, World.ownsRow_nil _ _ _ _, Below.refl _ _⟩
    case round =>
      obtain ⟨k, aa, ac, w7, rfl, hk, rfl, rfl, hO, hB⟩ := hrel
      have HO := Lib.hid hO; have HBx := Lib.hid hB
      have hsx := hB.size
      have HX7 := Lib.hid ((hB.block _ (Array.getElem?_eq_some_iff.1 HX4.out).1).trans HX4.out)
      clear hO hB
      by_cases hkn : k < nl
      · have i2 : (k : Int) < (nl : Int) := by omega
        obtain ⟨c0, c1, c2⟩ := box3 HX7.out
        have HOW := Lib.hid (own_below HO.out ((Below.refl _ w7).alloc (Nat.le_refl _) (.cells #[.int .i64 N] 3)))
        have hbb : w4.heap.size ≤ (w7.alloc (.cells #[.int .i64 N] 3)).heap.size := by rw [World.size_alloc]; omega
        go_wp2_with (at_builtin; refine wpList_append_bag _ rfl _ _ 25 rfl w4.heap.size 3 i3 (.int .i64 0) 8 Try.underlying25 HI.out HZ0.out HZ1.out HZ2.out rfl aa k ac _ rfl HOW.out _ 1 1 [.int .i64 N] rfl rfl (cell_new1 _ _ _) (one_single _ _) (by decide) (by unfold maxLen; omega) (by omega) hbb ?_; intro g6 c6 w6 hown6 hc6 hlt6; have hb6 := bag_below (B := w4.heap.size) hc6 ((hown6.lt g6 rfl).1) hbb; have HB6 := Lib.hid (HBx.out.trans (((Below.refl w4.heap.size w7).alloc hsx _).trans hb6)); have HOWN6 := Lib.hid hown6; clear hb6 hown6 hc6 hlt6)
        have ho := HOWN6.out
        rw [← inh_s (h := fun _ => N)] at ho
        have HO6 := Lib.hid ho
        clear ho c0 c1 c2
        go_wp2
        go_roundw
        case rel => exact ⟨k + 1, _, c6, _, rfl, by omega, by go_num, rfl, HO6.out, HB6.out⟩
        case measure => simp [intOf]; omega
      · obtain rfl : k = nl := by omega
        have i2 : ¬ (k : Int) < (k : Int) := by omega
        have HB7 := Lib.hid (HB4.out.trans (HBx.out.mono hs4))
        have hs7 := HB7.out.size
        have HRL := Lib.hid (fun (W : World) (q : Below w7.heap.size w7 W) => (HL.out.same (HB7.out.trans (q.mono hs7))).si)
        have HSA := Lib.hid (fun (W : World) (q : Below w7.heap.size w7 W) => inh_si (own_below HO.out q))
        have HW := Lib.hid (show (fun W => Below w7.heap.size w7 W) w7.drew from (Below.refl _ w7).drew)
        go_wp2_with fail
        clear i2
        refine wp_region_held_drew (S := fun W => Below w7.heap.size w7 W) (by kernel_rfl) (HW.out) (fun hHeld => ?_)
        refine wpAnyH_take (i := 0) (oi := ⟨some 59, _, _, _, _, none⟩) (v := (bV N M B)) rfl (by kernel_rfl) (by kernel_rfl) (by kernel_rfl) (fun _ _ _ h => h) (Or.inl ⟨by rfl, fun W hW => ?_⟩) (by assumption) ?_
        · (obtain ⟨c0, c1, c2⟩ := box3 ((hW.block _ (Array.getElem?_eq_some_iff.1 HX7.out).1).trans HX7.out); go_simp; try rfl)
        simp only [Act.put, List.setIfInBounds_toArray, List.set_cons_zero, List.set_cons_succ]
        refine wpAnyH_take (i := 1) (oi := ⟨some 60, _, _, _, _, none⟩) (v := (.slice la k lc)) rfl (by kernel_rfl) (by kernel_rfl) (by kernel_rfl) (fun _ _ _ h => h) (Or.inl ⟨by rfl, fun W hW => ?_⟩) (by assumption) ?_
        · go_simp
        simp only [Act.put, List.setIfInBounds_toArray, List.set_cons_zero, List.set_cons_succ]
        refine wpAnyH_take (i := 3) (oi := ⟨some 62, _, _, _, _, none⟩) (v := (bV N M B)) rfl (by kernel_rfl) (by kernel_rfl) (by kernel_rfl) (fun _ _ _ h => h) (Or.inl ⟨by rfl, fun W hW => ?_⟩) (by assumption) ?_
        · (obtain ⟨c0, c1, c2⟩ := box3 ((hW.block _ (Array.getElem?_eq_some_iff.1 HX7.out).1).trans HX7.out); go_simp; try rfl)
        simp only [Act.put, List.setIfInBounds_toArray, List.set_cons_zero, List.set_cons_succ]
        refine wpAnyH_take (i := 4) (oi := ⟨some 63, _, _, _, _, none⟩) (v := (.slice la k lc)) rfl (by kernel_rfl) (by kernel_rfl) (by kernel_rfl) (fun _ _ _ h => h) (Or.inl ⟨by rfl, fun W hW => ?_⟩) (by assumption) ?_
        · go_simp
        simp only [Act.put, List.setIfInBounds_toArray, List.set_cons_zero, List.set_cons_succ]
        refine wpAnyH_take (i := 5) (oi := ⟨some 64, _, _, _, _, none⟩) (v := (.slice aa k ac)) rfl (by kernel_rfl) (by kernel_rfl) (by kernel_rfl) (fun _ _ _ h => h) (Or.inl ⟨by rfl, fun W hW => ?_⟩) (by assumption) ?_
        · go_simp
        simp only [Act.put, List.setIfInBounds_toArray, List.set_cons_zero, List.set_cons_succ]
        refine wpAnyH_ready (rs := [2]) (by kernel_rfl) (by simp) (AllReadyH.cons rfl (fun KK hKK => ?_) AllReadyH.nil)
        go_simp
        refine (can_any N M B la k lc L (by omega) _ (HRL.out _ HW.out)).mono ?_
        rintro e W1 ⟨⟨v4, rfl, hv4⟩, hb1⟩
        dsimp only
        have hW0 := HW.out
        have HW := Lib.hid (show (fun W => Below w7.heap.size w7 W) W1 from hW0.trans (hb1.mono hW0.size))
        clear hW0 hb1
        refine hKK.out _ _ (HW.out) (fun hHeld => ?_)
        clear hKK KK
        try simp only [Act.put, List.setIfInBounds_toArray, List.set_cons_zero, List.set_cons_succ]
        refine wpAnyH_ready (rs := [6]) (by kernel_rfl) (by simp) (AllReadyH.cons rfl (fun KK hKK => ?_) AllReadyH.nil)
        go_simp
        refine (fits_any N M B la aa k lc k ac (fun _ => N) L (by omega) _ (HRL.out _ HW.out) (HSA.out _ HW.out)).mono ?_
        rintro e W2 ⟨⟨v5, rfl, hv5⟩, hb2⟩
        dsimp only
        have hW0 := HW.out
        have HW := Lib.hid (show (fun W => Below w7.heap.size w7 W) W2 from hW0.trans (hb2.mono hW0.size))
        clear hW0 hb2
        obtain rfl : v5 = v4 := bool_same hv4 ⟨fun h => (hv5.1 h).2, fun h => hv5.2 ⟨rfl, h⟩⟩
        clear hv4 hv5
        refine hKK.out _ _ (HW.out) (fun hHeld => ?_)
        clear hKK KK
        try simp only [Act.put, List.setIfInBounds_toArray, List.set_cons_zero, List.set_cons_succ]
        refine wpAnyH_take (i := 7) (oi := ⟨some 66, _, _, _, _, none⟩) (v := (.bool false)) rfl (by kernel_rfl) (by kernel_rfl) (by kernel_rfl) (fun _ _ _ h => h) (Or.inl ⟨by rfl, fun W hW => ?_⟩) (by assumption) ?_
        · cases v5 <;> go_simp
        simp only [Act.put, List.setIfInBounds_toArray, List.set_cons_zero, List.set_cons_succ]
        refine wpAnyH_done (by kernel_rfl) ?_ _
        have HB8 := Lib.hid (HB7.out.trans (HW.out.mono hs7)); have HX8 := Lib.hid ((HW.out.block _ (Array.getElem?_eq_some_iff.1 HX7.out).1).trans HX7.out)
        have hs8 := HB8.out.size
        clear HRL HSA HW HX7 HB7 HO HBx
        obtain ⟨c0, c1, c2⟩ := box3 HX8.out
        go_wp2_with fail
        refine (HRM.out _).mono ?_
        rintro e w9 ⟨hro, hB9⟩
        have HB9 := Lib.hid (HB8.out.trans (hB9.mono hs8)); have HX9 := Lib.hid ((hB9.block _ (Array.getElem?_eq_some_iff.1 HX8.out).1).trans HX8.out)
        have hs9 := HB9.out.size
        clear hB9 c0 c1 c2 HX8
        rcases hro with ⟨hno, rfl⟩ | ⟨⟨_, hn1, hn8⟩, rfl⟩
        · first
            | exact absurd ⟨HRB.out, by have := HF1.out.2.2.1.2.2; omega⟩ hno
            | (go_wp2
               go_ret
               exact ⟨rfl, HB9.out⟩)
        by_cases hnm : nk = k
        rotate_left
        · have g1 : ((nk : Int) != (k : Int)) = true := by simp; omega
          first
            | exact absurd HF1.out.1.symm hnm
            | (go_wp2
               go_ret
               exact ⟨rfl, HB9.out⟩)
        subst hnm
        have g1 : ((nk : Int) != (nk : Int)) = false := by simp
        obtain ⟨R, hR⟩ : ∃ R, R = roomI N M B (nk : Nat) := ⟨_, rfl⟩
        rw [← hR]
        have HR := Lib.hid hR
        clear hR
        go_wp2_with fail
        clear g1
        go_loopw [12, 13] (fun o i wr => ∃ (k : Nat) (ta : Option Addr) (tc : Nat) (W : World), W = wr ∧ k ≤ nk ∧ i = .int .i64 k ∧ o = .slice ta k tc ∧ wr.ownsRow w9.heap.size 44 2 (.slice ta k tc) k (tdl K L k) ∧ Below w9.heap.size w9 wr) (fun _ i _ => nk - (intOf i).toNat)
        case atStart => exact ⟨0, none, 0, _, rfl, by omega, rfl, rfl, World.ownsRow_nil _ _ _ _, Below.refl _ _⟩
        case round =>
          obtain ⟨k, ta, tc, wx, rfl, hk', rfl, rfl, hO, hB⟩ := hrel
          have HO := Lib.hid hO; have HB := Lib.hid hB
          have hsz := hB.size
          clear hO hB
          have hBw := HB9.out.trans (HB.out.mono hs9)
          by_cases hkm : k < nk
          · have i2 : (k : Int) < (nk : Int) := by omega
            obtain ⟨ab, ao, ea, c1⟩ := (HK.out.same hBw).si.cell k hkm
            obtain ⟨lb, lo, el, c2⟩ := (HL.out.same hBw).si.cell k hkm
            have EA := Lib.hid (show ka = some ⟨ab, ao, none⟩ from ea); have EL := Lib.hid (show la = some ⟨lb, lo, none⟩ from el)
            subst ea el
            have HRO := Lib.hid (show ∀ W, Below wx.heap.size wx W → W.ownsRow w9.heap.size 44 2 (.slice ta k tc) k (tdl K L k) from fun W hW => own_below HO.out hW)
            have hal : Below wx.heap.size wx (wx.alloc (.cells #[.int .i64 (K k), .int .i64 (L k)] 44)).drew := below_dr ((Below.refl _ wx).alloc (Nat.le_refl _) _) 1
            have hnew : ∀ j u, [Value.int .i64 (K k), Value.int .i64 (L k)][j]? = some u → ((wx.alloc (.cells #[.int .i64 (K k), .int .i64 (L k)] 44)).drew).cell? ((⟨wx.heap.size, 0, none⟩ : Addr).add j) = some u := cell_new2 wx _ _ 44
            have hbb : w9.heap.size ≤ ((wx.alloc (.cells #[.int .i64 (K k), .int .i64 (L k)] 44)).drew).heap.size := Nat.le_trans hsz hal.size
            have HAL := Lib.hid hal; have HNEW := Lib.hid hnew; have HBB := Lib.hid hbb
            clear hal hnew hbb hBw
            go_wp2_with fail
            go_region_law ((refine step_apd rfl (.tmp 91) (.tmp 101) 24 rfl w9.heap.size 44 i0 (.agg #[.int .i64 0, .int .i64 0]) 2 16 Try.underlying24 HJ.out HY0.out HY1.out HY2.out rfl (by decide) (.slice ta k tc) k _ rfl (HRO.out _ HAL.out) ⟨wx.heap.size, 0, none⟩ 1 1 [.int .i64 (K k), .int .i64 (L k)] rfl rfl HNEW.out (int_ones _ _) (by unfold maxLen; omega) (by omega) HBB.out ?_; intro v6 w6 hown6 hgrow6; obtain ⟨g6, c6, rfl⟩ := own_slice hown6; have HOWN6 := Lib.hid hown6; have HB6 := Lib.hid (HB.out.trans ((HAL.out.mono hsz).trans ((Below.refl w9.heap.size _).grown hgrow6 HBB.out (fun k e => ((HRO.out _ HAL.out).lt k e).1)))); clear hown6 hgrow6))
            all_goals
              go_wp2
              go_roundw
              case rel => exact ⟨k + 1, _, c6, _, rfl, by omega, by go_num, rfl, HOWN6.out, HB6.out⟩
              case measure => simp [intOf]; omega
          · obtain rfl : k = nk := by omega
            have i2 : ¬ (k : Int) < (k : Int) := by omega
            have HT := Lib.hid (tdl_tb HO.out).1
            have HBW := Lib.hid hBw
            have HXA := Lib.hid ((HB.out.block _ (Array.getElem?_eq_some_iff.1 HX9.out).1).trans HX9.out)
            obtain ⟨c0, c1, c2⟩ := box3 HXA.out
            clear hBw
            go_wp2_with fail
            refine (lLong_any N ta k tc K L _ HT.out).mono ?_
            rintro e wb ⟨hns, hBb⟩
            have HBb := Lib.hid (HBW.out.trans (hBb.mono HBW.out.size)); have HTb := Lib.hid (HT.out.same hBb); have HXb := Lib.hid ((hBb.block _ (Array.getElem?_eq_some_iff.1 HXA.out).1).trans HXA.out)
            clear hBb c0 c1 c2 HT HXA
            rcases hns with ⟨hno, rfl⟩ | ⟨ht, T, rfl, rfl⟩
            · have HNO := Lib.hid hno; clear hno
              obtain ⟨c0, c1, c2⟩ := box3 HXb.out
              go_wp2_with fail
              refine (of_any N ta k tc K L _ HTb.out).mono ?_
              rintro e wc ⟨hof, hBc⟩
              have HBc := Lib.hid (HBb.out.trans (hBc.mono HBb.out.size))
              clear hBc
              rcases hof with ⟨_, rfl⟩ | ⟨ht, _⟩
              rotate_left
              · exact absurd ht HNO.out
              first
                | exact absurd HF1.out.2.2.1 HNO.out
                | (go_wp2
                   go_ret
                   exact ⟨rfl, HBc.out⟩)
            have HTO := Lib.hid ht; clear ht
            have ho : off K L k ≤ 8 * 65535 := Nat.le_trans (off_le K L k) (Nat.mul_le_mul_right _ (by omega))
            obtain ⟨c0, c1, c2⟩ := box3 HXb.out
            go_wp2_with fail
            refine (of_any N ta k tc K L _ HTb.out).mono ?_
            rintro e wc ⟨hof, hBc⟩
            have HBc := Lib.hid (HBb.out.trans (hBc.mono HBb.out.size)); have HXc := Lib.hid ((hBc.block _ (Array.getElem?_eq_some_iff.1 HXb.out).1).trans HXb.out)
            clear hBc c0 c1 c2 HXb
            rcases hof with ⟨hno, _⟩ | ⟨_, rfl⟩
            · exact absurd HTO.out hno
            obtain ⟨c0, c1, c2⟩ := box3 HXc.out
            have hN : 1 ≤ N ∧ N ≤ 255 := HRB.out.1
            have HFR := Lib.hid (fit_room (y := (k : Int)) (o := ((off K L k : Nat) : Int)) HRB.out (by omega) (by have := HTO.out.2.2.1; omega))
            obtain ⟨o, ho'⟩ : ∃ o, o = off K L k := ⟨_, rfl⟩
            have HOE := Lib.hid ho'
            rw [← ho'] at ho ⊢
            obtain ⟨s, hs⟩ : ∃ s, s = 18 + 3 * k + o := ⟨_, rfl⟩
            have HS := Lib.hid (show (18 : Int) + 3 * (k : Int) + ((off K L k : Nat) : Int) = (s : Int) by omega)
            have x1 : (o : Int) + 18 + 3 * (k : Int) = (s : Int) := by omega
            have q1 : ((s : Int) == (s : Int)) = true := by simp
            rw [← hs]
            have hs9' : s ≤ 600000 := by omega
            obtain ⟨p, hp⟩ : ∃ p, p = N * (s : Int) := ⟨_, rfl⟩
            have p0 : 0 ≤ p := by rw [hp]; exact Int.mul_nonneg (by omega) (by omega)
            have p1 : p ≤ 255 * 600000 := by rw [hp]; exact Int.le_trans (Int.mul_le_mul_of_nonneg_right hN.2 (by omega)) (by omega)
            have k1 : (s : Int) * N = p := by rw [hp, Int.mul_comm]
            have HK1 := Lib.hid (show N * (s : Int) = p from hp.symm)
            have HFP := Lib.hid (show (o : Int) ≤ R ↔ FitP N M B k K L by
              rw [HR.out, HOE.out]
              exact ⟨fun h => ⟨HRB.out, HTO.out, h⟩, fun h => h.2.2⟩)
            clear hs hp ho'
            have hFR := HFR.out
            rw [HS.out, HK1.out, ← HOE.out, ← HR.out] at hFR
            have HFR2 := Lib.hid hFR
            clear hFR HFR
            have hyr : (o : Int) ≤ R := HFP.out.2 HF1.out.2
            have g3 : decide ((o : Int) ≤ R) = true := by simp [hyr]
            have q2 : (true == true) = true := rfl
            obtain ⟨h1, h2⟩ := HFR2.out.2 hyr
            have g1 : decide ((s : Int) ≤ M) = true := by simp [h1]
            have g2 : decide (p ≤ B) = true := by simp [h2]
            clear h1 h2 hyr
            go_wp2
            go_ret
            exact ⟨rfl, HBc.out⟩
end Go.Proofs.Ytkejabhjlflknaa.Sz

namespace Go.Proofs.Ytkejabhjlflknaa.Sz
open Go.RowKit Go.Shelf
open Go.Proofs.Ytkejabhjlflknaa.Ly (TabOk RowOk off off_le off_mono widI widE widI_le widI_ok width_any lst Tb tdl tdl_tb step_apd int_ones cell_new2)
open Go.Proofs.Ytkejabhjlflknaa.Sp (Bad wid wid_least wid_hi)
attribute [local go_sem] Oper.semAt_some

theorem widI_more {L L' k k' : Int} (hb : ¬ Bad L k) (h0 : 0 ≤ L') (hL : L' ≤ L) (hk : k ≤ k') (h5 : k' ≤ 255) : widI L' k' ≤ widI L k := by
  have hb' := hb
  unfold Bad at hb'
  have hb2 : ¬ Bad L' k' := by unfold Bad; omega
  rw [widI_ok hb, widI_ok hb2]
  exact wid_least (by omega) (Nat.le_trans (show L'.toNat ≤ L.toNat by omega) (Nat.le_trans (wid_hi (show 1 ≤ k.toNat by omega)) (Nat.mul_le_mul_right _ (by omega))))
theorem off_more {N : Int} (h5 : N ≤ 255) {K K' L L' : Nat → Int} : ∀ n, (∀ i, i < n → RowOk N K L i) → (∀ i, i < n → K i ≤ K' i ∧ K' i ≤ N) → (∀ i, i < n → 0 ≤ L' i ∧ L' i ≤ L i) → off K' L' n ≤ off K L n
  | 0, _, _, _ => Nat.le_refl _
  | n + 1, hr, hk, hl => by
    show off K' L' n + widI (L' n) (K' n) ≤ off K L n + widI (L n) (K n)
    have h1 := off_more h5 n (fun i hi => hr i (by omega)) (fun i hi => hk i (by omega)) (fun i hi => hl i (by omega))
    have h2 := hr n (by omega)
    have h3 := hk n (by omega)
    have h6 := hl n (by omega)
    have h4 := widI_more (L := L n) (L' := L' n) (k := K n) (k' := K' n) (by unfold Bad; unfold RowOk at h2; omega) h6.1 h6.2 h3.1 (by omega)
    omega
/-- what fits, fits with more room, greater thresholds, shorter layers. -/
theorem fit_more {N M B M' B' : Int} {n : Nat} {K K' L L' : Nat → Int} (h : FitP N M B n K L) (hB : RB N M' B') (hM : M ≤ M') (hBB : B ≤ B') (hK : ∀ i, i < n → K i ≤ K' i ∧ K' i ≤ N) (hm : ∀ i, i < n → 0 < i → K' (i - 1) ≤ K' i) (hL : ∀ i, i < n → 0 ≤ L' i ∧ L' i ≤ L i) : FitP N M' B' n K' L' := by
  have hr := h.2.1.2.2.2.2
  refine ⟨hB, ⟨h.2.1.1, h.2.1.2.1, h.2.1.2.2.1, h.2.1.2.2.2.1, fun i hi => ?_⟩, ?_⟩
  · have h1 := hr i hi
    have h2 := hK i hi
    have h3 := hL i hi
    unfold RowOk at h1 ⊢
    exact ⟨by omega, by omega, h3.1, by omega, hm i hi⟩
  · have h1 := off_more (N := N) h.2.1.2.1 n hr hK hL
    have h2 : roomI N M B n ≤ roomI N M' B' n := by
      have h3 : B / N ≤ B' / N := Int.ediv_le_ediv (by have := h.2.1.1; omega) hBB
      unfold roomI
      omega
    have h3 := h.2.2
    omega
/-- numbers in a block that may go on behind them. -/
def Bj (w : World) (g n : Nat) (h : Nat → Int) : Prop := ∃ vs : Array Value, w.heap[g]? = some (.cells vs 3 (0, 0)) ∧ n ≤ vs.size ∧ ∀ i, i < n → vs[i]? = some (.int .i64 (h i))
theorem Bj.lt {w : World} {g n : Nat} {h : Nat → Int} (b : Bj w g n h) : g < w.heap.size := by
  obtain ⟨vs, h1, _⟩ := b
  exact (Array.getElem?_eq_some_iff.1 h1).1
theorem Bj.kept {w w' : World} {g n : Nat} {h : Nat → Int} (b : Bj w g n h) (hk : w'.heap[g]? = w.heap[g]?) : Bj w' g n h := by
  obtain ⟨vs, h1, h2⟩ := b
  exact ⟨vs, hk.trans h1, h2⟩
theorem Bj.same {w w' : World} {g n : Nat} {h : Nat → Int} (b : Bj w g n h) (hB : Below w.heap.size w w') : Bj w' g n h := b.kept (hB.block _ b.lt)
theorem Bj.cell {w : World} {g n : Nat} {h : Nat → Int} (b : Bj w g n h) {i : Nat} (hi : i < n) : w.cell? ⟨g, i, none⟩ = some (.int .i64 (h i)) := by
  obtain ⟨vs, h1, h2, h3⟩ := b
  rw [cell_of_row w g i vs _ _ h1]; exact h3 i hi
theorem Bj.free {w : World} {g n : Nat} {h : Nat → Int} (b : Bj w g n h) (i : Nat) : w.frozen? ⟨g, i, none⟩ = false := by
  obtain ⟨vs, h1, _⟩ := b
  exact frozen_of_row w g i vs _ h1
theorem Bj.set {w : World} {g n : Nat} {h : Nat → Int} (b : Bj w g n h) {j : Nat} (hj : j < n) (v : Int) : Bj (w.setCell ⟨g, j, none⟩ (.int .i64 v)) g n (fun i => if i = j then v else h i) := by
  obtain ⟨vs, h1, h2, h3⟩ := b
  refine ⟨vs.setIfInBounds j (.int .i64 v), heap_setCell_same w g j vs _ _ h1, by simpa using h2, fun i hi => ?_⟩
  rw [Array.getElem?_setIfInBounds]
  show _ = some (Value.int .i64 (if i = j then v else h i))
  by_cases e : j = i
  · subst e; rw [if_pos rfl, if_pos (by omega), if_pos rfl]
  · rw [if_neg e, if_neg (fun q => e q.symm)]; exact h3 i hi
theorem Bj.si {w : World} {g n : Nat} {h : Nat → Int} (b : Bj w g n h) : Si w (some ⟨g, 0, none⟩) n h := ⟨fun i hi => ⟨g, 0, rfl, by rw [Nat.zero_add]; exact b.cell hi⟩⟩
theorem bj_of_own {w : World} {B n c : Nat} {a : Option Addr} {h : Nat → Int} (ho : w.ownsRow B 3 1 (.slice a n c) n (inh h n)) (hn : 0 < n) : ∃ g, a = some ⟨g, 0, none⟩ ∧ B ≤ g ∧ Bj w g n h := by
  obtain ⟨hlen, ⟨e, h0⟩ | ⟨g, cap', cur, e, hg, hh, hnc, hcm, hs, ht⟩⟩ := ho
  · omega
  · simp only [Value.slice.injEq, true_and] at e
    obtain ⟨rfl, rfl⟩ := e
    refine ⟨g, rfl, hg, cur, hh, by omega, fun i hi => ?_⟩
    have : (cur.toList.take (n * 1))[i]? = some (.int .i64 (h i)) := by rw [ht]; simp [inh, hi]
    rw [List.getElem?_take, if_pos (by omega), Array.getElem?_toList] at this
    exact this
/-- the bounds that are written on. -/
def Bx (w : World) (g : Nat) (N M B : Int) : Prop := w.heap[g]? = some (.cells #[.int .i64 N, .int .i64 M, .int .i64 B] 23 (0, 0))
theorem Bx.lt {w : World} {g : Nat} {N M B : Int} (b : Bx w g N M B) : g < w.heap.size := (Array.getElem?_eq_some_iff.1 b).1
theorem Bx.same {w w' : World} {g : Nat} {N M B : Int} (b : Bx w g N M B) (hB : Below w.heap.size w w') : Bx w' g N M B := (hB.block _ b.lt).trans b
theorem Bx.c {w : World} {g : Nat} {N M B : Int} (b : Bx w g N M B) : w.cell? ⟨g, 0, none⟩ = some (.int .i64 N) ∧ w.cell? ⟨g, 1, none⟩ = some (.int .i64 M) ∧ w.cell? ⟨g, 2, none⟩ = some (.int .i64 B) := box3 b
theorem Bx.free {w : World} {g : Nat} {N M B : Int} (b : Bx w g N M B) (i : Nat) : w.frozen? ⟨g, i, none⟩ = false := frozen_of_row w g i _ _ b
theorem Bx.set1 {w : World} {g : Nat} {N M B : Int} (b : Bx w g N M B) (v : Int) : Bx (w.setCell ⟨g, 1, none⟩ (.int .i64 v)) g N v B := heap_setCell_same w g 1 _ _ _ b
theorem Bx.set2 {w : World} {g : Nat} {N M B : Int} (b : Bx w g N M B) (v : Int) : Bx (w.setCell ⟨g, 2, none⟩ (.int .i64 v)) g N M v := heap_setCell_same w g 2 _ _ _ b
theorem Bx.past {w : World} {g g' i : Nat} {N M B : Int} {v : Value} (b : Bx w g N M B) (h : g ≠ g') : Bx (w.setCell ⟨g', i, none⟩ v) g N M B := (Below.heap_setCell w ⟨g', i, none⟩ v g h).trans b

set_option maxHeartbeats 8000000 in
set_option maxRecDepth 100000 in
theorem sizeMore_any (N M B mt bu tu : Int) (la ka : Option Addr) (nl lc nk kc : Nat) (L K : Nat → Int) (hnl : nl ≤ 140737488355328) (hnk : nk ≤ 140737488355328) (htu : -9223372036854775808 ≤ tu ∧ tu ≤ 9223372036854775807) (w : World) (hL : Hi w la nl lc L) (hK : Hi w ka nk kc K) :
    Calls Try.prog 6 #[bV N M B, .slice la nl lc, .slice ka nk kc, .int .i64 mt, .int .i64 bu, .int .i64 tu] w fun e w' => e = .returned (.bool true) ∧ Below w.heap.size w w' := by
  have hb0 := (Below.refl w.heap.size w).alloc (Nat.le_refl _) (.cells #[.int .i64 N, .int .i64 M, .int .i64 B] 23)
  have hh0 := heap_alloc_new w (.cells #[.int .i64 N, .int .i64 M, .int .i64 B] 23)
  have HL := Lib.hid hL; have HK := Lib.hid hK
  have HRM := Lib.hid (room_any); have HFI := Lib.hid (fits_any)
  unfold bV at HRM HFI ⊢
  obtain ⟨i3, hi, hz0, hz1, hz2⟩ := info_parts Try.infoInt2
  have HI := Lib.hid hi; have HZ0 := Lib.hid hz0; have HZ1 := Lib.hid hz1; have HZ2 := Lib.hid hz2
  have HB0 := Lib.hid hb0; have HX0 := Lib.hid (show Bx (w.alloc (.cells #[.int .i64 N, .int .i64 M, .int .i64 B] 23)) w.heap.size N M B from hh0)
  clear hb0 hh0 hL hK hi hz0 hz1 hz2
  go_enter Try.func6, Try.ntmps6
  go_wp2_with fail
  generalize w.alloc (.cells #[.int .i64 N, .int .i64 M, .int .i64 B] 23) = w0 at *
  have hs0 := HB0.out.size
  refine (awake11_any _).mono ?_
  rintro e w1 ⟨rfl, hB1⟩
  have HB1 := Lib.hid (HB0.out.trans (hB1.mono hs0)); have HX1 := Lib.hid (HX0.out.same hB1)
  have hs1 := HB1.out.size
  clear hB1 HX0 HB0
  by_cases h300 : 300 < nl + nk
  · have i1 : (300 : Int) < (nl : Int) + (nk : Int) := by omega
    go_wp2
    go_ret
    exact ⟨rfl, HB1.out⟩
  have i1 : ¬ (300 : Int) < (nl : Int) + (nk : Int) := by omega
  obtain ⟨c0, c1, c2⟩ := HX1.out.c
  go_wp2_with fail
  refine (HFI.out N M B la ka nl lc nk kc K L (by omega) _ (HL.out.same HB1.out).si (HK.out.same HB1.out).si).mono ?_
  rintro e w2 ⟨⟨v1, rfl, hv1⟩, hB2⟩
  have HV1 := Lib.hid hv1
  have HB2 := Lib.hid (HB1.out.trans (hB2.mono hs1)); have HX2 := Lib.hid (HX1.out.same hB2)
  have hs2 := HB2.out.size
  clear hB2 hv1 c0 c1 c2 HX1 HB1 i1
  cases v1
  · go_wp2
    go_ret
    exact ⟨rfl, HB2.out⟩
  obtain ⟨hnm, hfp⟩ := (show nl = nk ∧ FitP N M B nl K L from by first | exact HV1.out.1 rfl | exact HV1.out.1 trivial)
  subst hnm
  have HFP := Lib.hid hfp
  obtain ⟨⟨n1, n2⟩, ⟨m1, m2⟩, b1, b2⟩ := hfp.1
  have hn1 := hfp.2.1.2.2.1
  have hn8 := hfp.2.1.2.2.2.1
  clear hfp HV1
  obtain ⟨c0, c1, c2⟩ := HX2.out.c
  obtain ⟨pM, hpM⟩ : ∃ p, p = pkv mt (1501 - M) := ⟨_, rfl⟩
  obtain ⟨pB, hpB⟩ : ∃ p, p = pkv bu (524289 - B) := ⟨_, rfl⟩
  have hpM1 := pkv_bd mt (n := 1501 - M) (by omega)
  have hpB1 := pkv_bd bu (n := 524289 - B) (by omega)
  rw [← hpM] at hpM1
  rw [← hpB] at hpB1
  have HPM := Lib.hid (fun (W : World) => (show Calls Try.prog 24 #[.int .i64 mt, .int .i64 (1501 - M)] W fun e w' => e = .returned (.int .i64 pM) ∧ w' = W from by rw [hpM]; exact pickv_any mt (1501 - M) (by omega) (by omega) W))
  have HPB := Lib.hid (fun (W : World) => (show Calls Try.prog 24 #[.int .i64 bu, .int .i64 (524289 - B)] W fun e w' => e = .returned (.int .i64 pB) ∧ w' = W from by rw [hpB]; exact pickv_any bu (524289 - B) (by omega) (by omega) W))
  clear hpM hpB
  have hb3 := (Below.refl w2.heap.size w2).alloc (Nat.le_refl _) (.cells #[.int .i64 N, .int .i64 M, .int .i64 B] 23)
  have HX3 := Lib.hid (HX2.out.same hb3); have HY3 := Lib.hid (show Bx (w2.alloc (.cells #[.int .i64 N, .int .i64 M, .int .i64 B] 23)) w2.heap.size N M B from heap_alloc_new w2 _)
  have HB3 := Lib.hid (HB2.out.trans (hb3.mono hs2))
  have hgw : w.heap.size < w2.heap.size := HX2.out.lt
  clear hb3
  go_wp2_with fail
  clear c0 c1 c2
  generalize w2.alloc (.cells #[.int .i64 N, .int .i64 M, .int .i64 B] 23) = w3 at *
  generalize w2.heap.size = gw at *
  have d1 : ∀ q, (w3.drewN q).cell? ⟨w.heap.size, 1, none⟩ = some (.int .i64 M) := fun q => (HX3.out.same (below_dr (Below.refl _ w3) q)).c.2.1
  refine Rb.wp_region_quiet_tail 9 (by kernel_rfl) (by kernel_rfl) ?_
  simp only [List.take_succ_cons, List.take_zero, List.drop_succ_cons, List.drop_zero]
  repeat (go_big_quiet_step ((go_at_call 24; exact Calls.quiet_of_same (HPM.out _))))
  refine wpQuiet_nil ?_
  rintro _ ⟨k2, rfl⟩
  clear d1
  have hb4 := below_dr (Below.refl w3.heap.size w3) k2
  have HX4 := Lib.hid (HX3.out.same hb4); have HY4 := Lib.hid (HY3.out.same hb4); have HB4 := Lib.hid (HB3.out.trans (hb4.mono HB3.out.size))
  clear hb4 HX3 HY3 HB3
  generalize w3.drewN k2 = w4 at *
  have e1 := HY4.out.c.2.1
  have e2 := HY4.out.free 1
  go_wp2_with fail
  clear e1 e2
  have HX5 := Lib.hid (HX4.out.past (g' := gw) (i := 1) (v := .int .i64 (M + pM)) (by omega)); have HY5 := Lib.hid (HY4.out.set1 (M + pM)); have HB5 := Lib.hid (HB4.out.setCell (p := ⟨gw, 1, none⟩) (by show _ ≤ gw; omega) (.int .i64 (M + pM)))
  generalize w4.setCell ⟨gw, 1, none⟩ (.int .i64 (M + pM)) = w5 at *
  have d1 : ∀ q, (w5.drewN q).cell? ⟨w.heap.size, 2, none⟩ = some (.int .i64 B) := fun q => (HX5.out.same (below_dr (Below.refl _ w5) q)).c.2.2
  refine Rb.wp_region_quiet_tail 9 (by kernel_rfl) (by kernel_rfl) ?_
  simp only [List.take_succ_cons, List.take_zero, List.drop_succ_cons, List.drop_zero]
  repeat (go_big_quiet_step ((go_at_call 24; exact Calls.quiet_of_same (HPB.out _))))
  refine wpQuiet_nil ?_
  rintro _ ⟨k3, rfl⟩
  clear d1 HPM HPB HX4 HY4 HB4
  have hb6 := below_dr (Below.refl w5.heap.size w5) k3
  have HX6 := Lib.hid (HX5.out.same hb6); have HY6 := Lib.hid (HY5.out.same hb6); have HB6 := Lib.hid (HB5.out.trans (hb6.mono HB5.out.size))
  clear hb6 HX5 HY5 HB5
  generalize w5.drewN k3 = w6 at *
  have e1 := HY6.out.c.2.2
  have e2 := HY6.out.free 2
  have HX7 := Lib.hid (HX6.out.past (g' := gw) (i := 2) (v := .int .i64 (B + pB)) (by omega)); have HY7 := Lib.hid (HY6.out.set2 (B + pB)); have HB7 := Lib.hid (HB6.out.setCell (p := ⟨gw, 2, none⟩) (by show _ ≤ gw; omega) (.int .i64 (B + pB)))
  obtain ⟨c0, c1, c2⟩ := HX7.out.c
  go_wp2_with fail
  clear e1 e2 c0 c1 c2
  generalize w6.setCell ⟨gw, 2, none⟩ (.int .i64 (B + pB)) = w7 at *
  have HRB := Lib.hid HFP.out.1
  have hRB2 : RB N (M + pM) (B + pB) := ⟨⟨n1, n2⟩, ⟨by omega, by omega⟩, by omega, by omega⟩
  have HRB2 := Lib.hid hRB2
  clear hRB2 HX6 HY6 HB6
  refine (HRM.out N M B (nl : Nat) _).mono ?_
  rintro e w8 ⟨hro, hB8⟩
  rcases hro with ⟨hno, _⟩ | ⟨_, rfl⟩
  · exact absurd ⟨HRB.out, by omega, by omega⟩ hno
  have HX8 := Lib.hid (HX7.out.same hB8); have HY8 := Lib.hid (HY7.out.same hB8); have HB8 := Lib.hid (HB7.out.trans (hB8.mono HB7.out.size))
  clear hB8 HX7 HY7 HB7
  obtain ⟨R, hR⟩ : ∃ R, R = roomI N M B (nl : Nat) := ⟨_, rfl⟩
  obtain ⟨R2, hR2⟩ : ∃ R, R = roomI N (M + pM) (B + pB) (nl : Nat) := ⟨_, rfl⟩
  have hr0 : 0 ≤ R := by have := HFP.out.2.2; rw [hR]; omega
  have hr2 : R ≤ R2 := by
    have h3 : B / N ≤ (B + pB) / N := Int.ediv_le_ediv (by omega) (by omega)
    rw [hR, hR2]; unfold roomI; omega
  rw [← hR]
  have HR2 := Lib.hid hR2
  clear hR hR2
  obtain ⟨c0, c1, c2⟩ := HY8.out.c
  go_wp2_with fail
  refine (HRM.out N (M + pM) (B + pB) (nl : Nat) _).mono ?_
  rintro e w9 ⟨hro, hB9⟩
  rcases hro with ⟨hno, _⟩ | ⟨_, rfl⟩
  · exact absurd ⟨HRB2.out, by omega, by omega⟩ hno
  rw [← HR2.out]
  have HX9 := Lib.hid (HX8.out.same hB9); have HY9 := Lib.hid (HY8.out.same hB9); have HB9 := Lib.hid (HB8.out.trans (hB9.mono HB8.out.size))
  clear hB9 HX8 HY8 HB8 c0 c1 c2 HRM HR2
  have hpk := pkv_bd tu (n := (nl : Int)) (by omega)
  obtain ⟨kk, hkk⟩ : ∃ kk : Nat, pkv tu (nl : Int) = (kk : Int) := ⟨(pkv tu (nl : Int)).toNat, by omega⟩
  have hk1 : kk < nl := by omega
  clear hpk
  go_wp2_with fail
  refine (pickv_any tu (nl : Int) (by omega) (by omega) _).mono ?_
  rintro e w10 ⟨rfl, rfl⟩
  rw [hkk]
  have HKK := Lib.hid hkk
  clear hkk
  have hs9 := HB9.out.size
  have hb11 := (Below.refl w10.heap.size w10).alloc (Nat.le_refl _) (.cells #[] 3)
  have HO11 := Lib.hid (World.ownsRow_made (base := w10.heap.size) (e := 3) (size := 1) w10 #[] 0 (Nat.le_refl _) (by unfold maxLen; omega) rfl)
  have HL11 := Lib.hid ((HL.out.same HB9.out).same hb11)
  have HB11 := Lib.hid hb11
  obtain ⟨lb, lo, ela, _⟩ := HL.out.si.cell kk hk1
  obtain ⟨kb, ko, eka, _⟩ := HK.out.si.cell kk hk1
  subst ela eka
  have HCL := Lib.hid (show ∀ W, Below w10.heap.size w10 W → W.cell? ⟨lb, lo + kk, none⟩ = some (.int .i64 (L kk)) from fun W hW => by
    obtain ⟨_, _, e, hc⟩ := ((HL.out.same HB9.out).same hW).si.cell kk hk1
    cases e; exact hc)
  obtain ⟨t2, ht2⟩ : ∃ t2, t2 = tu.tdiv 2 := ⟨_, rfl⟩
  have ht3 : -9223372036854775808 ≤ t2 ∧ t2 ≤ 9223372036854775807 := by
    have h := Int.natAbs_tdiv tu 2
    rw [← ht2, show (2 : Int).natAbs = 2 from rfl] at h
    have h1 : tu.natAbs ≤ 9223372036854775808 := by rcases Int.natAbs_eq tu with e | e <;> omega
    have h2 : t2.natAbs ≤ 9223372036854775807 := by rw [h]; exact Nat.le_trans (Nat.div_le_div_right h1) (by decide)
    rcases Int.natAbs_eq t2 with e | e <;> omega
  have y1 : tu.tdiv 2 = t2 := ht2.symm
  have y2 : IntKind.i64.wrap t2 = t2 := IntWalk.i64_in _ ht3
  have hlk := (HFP.out.2.1.2.2.2.2 kk hk1).2.2
  have i2 : (kk : Int) < (nl : Int) := by omega
  have HLK := Lib.hid hlk
  have hlk1 : 0 ≤ L kk := hlk.1
  have hlk2 : L kk ≤ 65535 := hlk.2.1
  clear hb11 ht2 hlk
  go_wp2_with ((show wpList _ _ _ (⟨some 75, _, _, _, _, _⟩ :: _) _ _; refine wpList_append_own (o := ⟨some 75, _, _, _, _, _⟩) _ rfl (.tmp 73) (.tmp 74) 25 rfl w10.heap.size 3 i3 (.int .i64 0) 1 8 Try.underlying25 HI.out HZ0.out HZ1.out HZ2.out rfl (by decide) _ 0 [] rfl HO11.out ⟨lb, lo, none⟩ nl lc (inh L nl) rfl (by rw [inh_len]; omega) (HL11.out.news _ rfl) (inh_ones _ _) (by unfold maxLen; omega) (by omega) HB11.out.size ?_; intro v6 w12 hown6 hgrow6 _; rw [List.nil_append, Nat.zero_add] at hown6; have HB12 := Lib.hid (HB11.out.grown hgrow6 HB11.out.size (fun q e => (HO11.out.lt q e).1)); obtain ⟨g6, c6, rfl⟩ := own_slice hown6; obtain ⟨gs, rfl, hgs, hbj⟩ := bj_of_own hown6 (by omega); have HS12 := Lib.hid hbj; have cL := HCL.out _ HB12.out; clear hown6 hgrow6 hbj))
  have hpk := pkv_bd t2 (n := L kk + 1) (by omega)
  refine (pickv_any t2 (L kk + 1) (by omega) (by omega) _).mono ?_
  rintro e w13 ⟨rfl, rfl⟩
  obtain ⟨sp, hsp⟩ : ∃ sp, sp = pkv t2 (L kk + 1) := ⟨_, rfl⟩
  rw [← hsp] at hpk ⊢
  clear hsp cL y1 y2
  have e1 := HS12.out.cell hk1
  have e2 := HS12.out.free kk
  have HS13 := Lib.hid (HS12.out.set hk1 sp)
  have HB13 := Lib.hid (HB12.out.setCell (p := ⟨gs, kk, none⟩) hgs (.int .i64 sp))
  obtain ⟨w14, hw14⟩ : ∃ w14, w14 = w13.setCell ⟨gs, kk, none⟩ (.int .i64 sp) := ⟨_, rfl⟩
  rw [← hw14] at HS13 HB13
  have HW14 := Lib.hid hw14
  have HZ14 := Lib.hid (show w14.heap.size = w13.heap.size by rw [hw14, World.size_setCell])
  have hs10 := HB13.out.size
  have hb15 := (Below.refl w14.heap.size w14).alloc (Nat.le_refl _) (.cells #[] 3)
  have HO15 := Lib.hid (World.ownsRow_made (base := w14.heap.size) (e := 3) (size := 1) w14 #[] 0 (Nat.le_refl _) (by unfold maxLen; omega) rfl)
  have HK15 := Lib.hid (((HK.out.same HB9.out).same HB13.out).same hb15)
  have HB15 := Lib.hid hb15
  have HXX := Lib.hid (HX9.out.same HB13.out)
  have x9 : (nl : Int) - 1 = ((nl - 1 : Nat) : Int) := by omega
  have i3' : ((nl - 1 : Nat) : Int) < (nl : Int) := by omega
  have hn2 : nl - 1 < nl := by omega
  clear hb15 hw14
  go_upto_region 15 with ((rw [← HW14.out, ← HZ14.out]; show wpList _ _ _ (⟨some 89, _, _, _, _, _⟩ :: _) _ _; refine wpList_append_own (o := ⟨some 89, _, _, _, _, _⟩) _ rfl (.tmp 87) (.tmp 88) 25 rfl w14.heap.size 3 i3 (.int .i64 0) 1 8 Try.underlying25 HI.out HZ0.out HZ1.out HZ2.out rfl (by decide) _ 0 [] rfl HO15.out ⟨kb, ko, none⟩ nl kc (inh K nl) rfl (by rw [inh_len]; omega) (HK15.out.news _ rfl) (inh_ones _ _) (by unfold maxLen; omega) (by omega) HB15.out.size ?_; intro v6 w16 hown6 hgrow6 _; rw [List.nil_append, Nat.zero_add] at hown6; have HB16 := Lib.hid (HB15.out.grown hgrow6 HB15.out.size (fun q e => (HO15.out.lt q e).1)); obtain ⟨g7, c7, rfl⟩ := own_slice hown6; obtain ⟨gm, rfl, hgm, hbj⟩ := bj_of_own hown6 (by omega); have HM16 := Lib.hid hbj; have e3 := hbj.cell hn2; have e4 := hbj.free (nl - 1); obtain ⟨c0, c1, c2⟩ := (HXX.out.same HB16.out).c; clear hown6 hgrow6 hbj))
  clear e3 e4 c0 c1 c2
  have hgm2 : gm ≠ w.heap.size ∧ gm ≠ gw ∧ gm ≠ gs := by
    have h1 := HXX.out.lt
    have h2 := (HY9.out.same HB13.out).lt
    have h3 := HS13.out.lt
    omega
  have HX17 := Lib.hid ((HXX.out.same HB16.out).past (g' := gm) (i := nl - 1) (v := .int .i64 N) (fun e => hgm2.1 e.symm)); have HY17 := Lib.hid (((HY9.out.same HB13.out).same HB16.out).past (g' := gm) (i := nl - 1) (v := .int .i64 N) (fun e => hgm2.2.1 e.symm))
  have HM17 := Lib.hid (HM16.out.set hn2 N); have HS17 := Lib.hid ((HS13.out.same HB16.out).kept (w' := w16.setCell ⟨gm, nl - 1, none⟩ (.int .i64 N)) (Below.heap_setCell w16 ⟨gm, nl - 1, none⟩ _ gs (fun e => hgm2.2.2 e.symm)))
  have HB17 := Lib.hid (HB9.out.trans ((HB13.out.trans ((HB16.out.setCell (p := ⟨gm, nl - 1, none⟩) hgm (.int .i64 N)).mono hs10)).mono hs9))
  generalize w16.setCell ⟨gm, nl - 1, none⟩ (.int .i64 N) = w17 at *
  clear HX9 HY9 HB9 HXX HM16 HS13 HS12 HB16 HB15 HB13 HB12 HB11 HO15 HO11 HK15 HL11 HCL HW14 HZ14
  obtain ⟨c0, c1, c2⟩ := HY17.out.c
  have g1 : decide (R ≤ R2) = true := by simp [hr2]
  have g2 : decide ((0 : Int) ≤ R) = true := by simp [hr0]
  have hs17 := HB17.out.size
  go_wp2_with fail
  refine (HFI.out N (M + pM) (B + pB) _ _ nl lc nl kc K L (by omega) _ (HL.out.same HB17.out).si (HK.out.same HB17.out).si).mono ?_
  rintro e w18 ⟨⟨v, rfl, hv⟩, hB18⟩
  have hr := HFP.out.2.1.2.2.2.2
  obtain rfl : v = true := hv.2 ⟨rfl, fit_more HFP.out HRB2.out (by omega) (by omega) (fun i hi => ⟨Int.le_refl _, (hr i hi).2.1⟩) (fun i hi h0 => (hr i hi).2.2.2.2 h0) (fun i hi => ⟨(hr i hi).2.2.1, Int.le_refl _⟩)⟩
  have HX18 := Lib.hid (HX17.out.same hB18); have HM18 := Lib.hid (HM17.out.same hB18); have HS18 := Lib.hid (HS17.out.same hB18); have HB18 := Lib.hid (HB17.out.trans (hB18.mono hs17))
  have hs18 := HB18.out.size
  clear hB18 hv hr c0 c1 c2 g1 g2
  obtain ⟨c0, c1, c2⟩ := HX18.out.c
  go_wp2_with fail
  refine (HFI.out N M B _ _ nl c6 nl kc K (fun i => if i = kk then sp else L i) (by omega) _ HS18.out.si (HK.out.same HB18.out).si).mono ?_
  rintro e w19 ⟨⟨v, rfl, hv⟩, hB19⟩
  have hr := HFP.out.2.1.2.2.2.2
  obtain rfl : v = true := hv.2 ⟨rfl, fit_more HFP.out HRB.out (by omega) (by omega) (fun i hi => ⟨Int.le_refl _, (hr i hi).2.1⟩) (fun i hi h0 => (hr i hi).2.2.2.2 h0) (fun i hi => by
    by_cases e : i = kk
    · subst e; simp only [if_true]; exact ⟨hpk.1, by omega⟩
    · simp only [if_neg e]; exact ⟨(hr i hi).2.2.1, Int.le_refl _⟩)⟩
  have HX19 := Lib.hid (HX18.out.same hB19); have HM19 := Lib.hid (HM18.out.same hB19); have HB19 := Lib.hid (HB18.out.trans (hB19.mono hs18))
  have hs19 := HB19.out.size
  clear hB19 hv hr c0 c1 c2
  obtain ⟨c0, c1, c2⟩ := HX19.out.c
  go_wp2_with fail
  refine (HFI.out N M B _ _ nl lc nl c7 (fun i => if i = nl - 1 then N else K i) L (by omega) _ (HL.out.same HB19.out).si HM19.out.si).mono ?_
  rintro e w20 ⟨⟨v, rfl, hv⟩, hB20⟩
  have hr := HFP.out.2.1.2.2.2.2
  obtain rfl : v = true := hv.2 ⟨rfl, fit_more HFP.out HRB.out (by omega) (by omega) (fun i hi => by
    have h1 := hr i hi
    unfold RowOk at h1
    by_cases e : i = nl - 1
    · rw [if_pos e]; omega
    · rw [if_neg e]; omega) (fun i hi h0 => by
    have h1 := hr i hi
    unfold RowOk at h1
    have h2 := h1.2.2.2.2 h0
    rw [if_neg (by omega)]
    by_cases e : i = nl - 1
    · rw [if_pos e]; omega
    · rw [if_neg e]; exact h2) (fun i hi => ⟨(hr i hi).2.2.1, Int.le_refl _⟩)⟩
  have HB20 := Lib.hid (HB19.out.trans (hB20.mono hs19))
  clear hB20 hv hr
  go_wp2
  go_ret
  exact ⟨rfl, HB20.out⟩
end Go.Proofs.Ytkejabhjlflknaa.Sz
