import Derived.Deep.WholeRow
import Derived.Laws.Tables
import Derived.RangeFuncNested
import Derived.Deep.RegionWith
import Derived.Lib.QuietBelow
import Derived.BigQuiet
import Derived.Test.YtjlmajopfeplpaaGreatMg24
import Derived.Test.YtjlmajopfeplpaaGreatMg43
namespace Go.Proofs.YtjlmajopfeplpaaGreat.Ly
open Go.RowKit Go.Shelf
open Go.Proofs.YtjlmajopfeplpaaGreat.Sp (wid Bad wid_le wid_hi wid_lo width_ok width_bad grown_dr grown_t)

/-- rows of a table, as they read. -/
structure Tb (w : World) (a : Option Addr) (n : Nat) (K L : Nat → Int) : Prop where
  cell : ∀ i, i < n → ∃ b o, a = some ⟨b, o, none⟩ ∧ w.cell? ⟨b, o + i * 2, none⟩ = some (.int .i64 (K i)) ∧ w.cell? ⟨b, o + i * 2 + 1, none⟩ = some (.int .i64 (L i))
section
variable {w w' : World} {a : Option Addr} {n : Nat} {K L : Nat → Int}
theorem Tb.same (s : Tb w a n K L) (hB : Below w.heap.size w w') : Tb w' a n K L := ⟨fun i hi => by
  obtain ⟨b, o, e, h1, h2⟩ := s.cell i hi
  exact ⟨b, o, e, by rw [hB.cell (World.block_lt_of_cell? _ _ h1)]; exact h1, by rw [hB.cell (World.block_lt_of_cell? _ _ h2)]; exact h2⟩⟩
theorem Tb.less (s : Tb w a n K L) {k : Nat} (hk : k ≤ n) : Tb w a k K L := ⟨fun i hi => s.cell i (by omega)⟩
theorem Tb.own {row : Option Nat} (s : Tb w a n K L) (hg : w.grownBy w' row) (hr : ∀ k, row = some k → ∃ o : Obj, w.heap[k]? = some o ∧ o.isCells = false) : Tb w' a n K L := ⟨fun i hi => by
  obtain ⟨b, o, e, h1, h2⟩ := s.cell i hi
  exact ⟨b, o, e, cell_kept h1 hg hr, cell_kept h2 hg hr⟩⟩
end
theorem si_own {w w' : World} {a : Option Addr} {n : Nat} {K : Nat → Int} {row : Option Nat} (s : Si w a n K) (hg : w.grownBy w' row) (hr : ∀ k, row = some k → ∃ o : Obj, w.heap[k]? = some o ∧ o.isCells = false) : Si w' a n K := ⟨fun i hi => by
  obtain ⟨b, o, e, h1⟩ := s.cell i hi
  exact ⟨b, o, e, cell_kept h1 hg hr⟩⟩

/-- a row's width, where it has one. -/
def widI (L K : Int) : Nat := if Bad L K then 0 else wid L.toNat K.toNat
def widE (L K : Int) : Int := if Bad L K then 2 else 0
theorem widI_le (L K : Int) : widI L K ≤ 65535 := by
  unfold widI
  split
  · omega
  · rename_i h
    unfold Bad at h
    have := wid_le (L := L.toNat) (k := K.toNat) (by omega)
    omega
theorem widI_ok {L K : Int} (h : ¬ Bad L K) : widI L K = wid L.toNat K.toNat := if_neg h
theorem width_any (x k : Int) (w : World) :
    Calls Tryz.prog 111 #[.int .i64 x, .int .i64 k] w fun e w' => e = .returned (.tuple #[.int .i64 (widI x k : Nat), .int .i64 (widE x k)]) ∧ w' = w := by
  by_cases h : Bad x k
  · have e1 : widI x k = 0 := if_pos h
    have e2 : widE x k = 2 := if_pos h
    rw [e1, e2]
    exact width_bad x k h w
  · have h' := h
    unfold Bad at h'
    obtain ⟨X, rfl⟩ : ∃ X : Nat, x = X := ⟨x.toNat, by omega⟩
    obtain ⟨Y, rfl⟩ : ∃ Y : Nat, k = Y := ⟨k.toNat, by omega⟩
    have e1 : widI X Y = wid X Y := by rw [widI_ok h]; simp
    have e2 : widE X Y = 0 := if_neg h
    rw [e1, e2]
    exact width_ok X Y (by omega) (by omega) (by omega) w
/-- where a row's stripe begins. -/
def off (K L : Nat → Int) : Nat → Nat
  | 0 => 0
  | i + 1 => off K L i + widI (L i) (K i)
theorem off_le (K L : Nat → Int) : ∀ n, off K L n ≤ n * 65535
  | 0 => Nat.le_refl _
  | n + 1 => by
    have h1 := off_le K L n
    have h2 := widI_le (L n) (K n)
    unfold off
    omega
theorem off_mono (K L : Nat → Int) {i j : Nat} (h : i ≤ j) : off K L i ≤ off K L j := by
  induction j with
  | zero => obtain rfl : i = 0 := by omega
            exact Nat.le_refl _
  | succ j ih =>
    by_cases e : i = j + 1
    · subst e; exact Nat.le_refl _
    · have := ih (by omega)
      show off K L i ≤ off K L j + widI (L j) (K j)
      omega
theorem cell_al {w : World} {p : Addr} {v : Value} (h : w.cell? p = some v) (o : Obj) : (w.alloc o).cell? p = some v := by
  rw [((Below.refl _ w).alloc (Nat.le_refl _) o).cell (World.block_lt_of_cell? _ _ h)]; exact h
/-- what a row is. -/
def rowV (K L : Int) : Value := .agg #[.int .i64 K, .int .i64 L]
/-- what a part is. -/
def partV (K L : Int) (f t : Nat) : Value := .agg #[.int .i64 K, .int .i64 L, .int .i64 (f : Nat), .int .i64 (t : Nat)]

/-- worlds that are alike where it matters. -/
def Agr (Dom : Nat → Prop) (w0 W : World) : Prop := ∀ k, Dom k → W.heap[k]? = w0.heap[k]?
/-- what asks for rows: a closure that answers of each place. -/
structure AskL (Dom : Nat → Prop) (w0 : World) (cf n : Nat) (caps : Array Value) (K L : Nat → Int) : Prop where
  ent : ∀ (args : Array Value) (W : World), (callFunc cf args).run Tryz.prog W = .ok (.enter cf args) W
  lt : ∀ k, Dom k → k < w0.heap.size
  call : ∀ W, Agr Dom w0 W → ∀ j : Nat, j < n → Calls Tryz.prog cf (#[.int .i64 (j : Nat)] ++ caps) W fun e W' => e = .returned (rowV (K j) (L j)) ∧ Below W.heap.size W W'
theorem below_grown {w w' : World} (h : Below w.heap.size w w') (row : Option Nat) : w.grownBy w' row := ⟨h.os, h.tape, h.output, h.size, fun k hk _ => h.block k hk⟩
section
variable {Dom : Nat → Prop} {w0 W W' : World} {cf n : Nat} {caps : Array Value} {K L : Nat → Int}
theorem AskL.agr (h : AskL Dom w0 cf n caps K L) (hB : Below w0.heap.size w0 W) : Agr Dom w0 W := fun k hk => hB.block k (h.lt k hk)
theorem Agr.trans {A B C : World} (h : Agr Dom A B) (k : Agr Dom B C) : Agr Dom A C := fun i hi => (k i hi).trans (h i hi)
theorem AskL.at_ (h : AskL Dom w0 cf n caps K L) (hP : Agr Dom w0 W) (hz : w0.heap.size ≤ W.heap.size) : AskL Dom W cf n caps K L :=
  ⟨h.ent, fun k hk => Nat.lt_of_lt_of_le (h.lt k hk) hz, fun X hX j hj => h.call X (hP.trans hX) j hj⟩
theorem AskL.same (h : AskL Dom w0 cf n caps K L) (hB : Below w0.heap.size w0 W) : AskL Dom W cf n caps K L := h.at_ (h.agr hB) hB.size
theorem AskL.less (h : AskL Dom w0 cf n caps K L) {m : Nat} (hm : m ≤ n) : AskL Dom w0 cf m caps K L := ⟨h.ent, h.lt, fun W hW j hj => h.call W hW j (by omega)⟩
end

/-- a whole row into a block that was just made. -/
theorem wpList_store_new {P : Program} {ops : Array Oper} {rest : List Oper} {o : Oper} {a : Act} {w : World} {Q : Exit → Act → World → Prop} (hgd : o.guard = none) (ty : TypeId) (x y : Operand) (ho : o.op = .store ty x y)
    (g : Nat) (hg : g = w.heap.size) (cells old : Array Value) (t : TypeId) (hx : a.eval x = .pointer (some ⟨g, 0, none⟩)) (hy : a.eval y = .agg cells) (hi : (P.info? ty).map (·.size) = some cells.size)
    (hold : old.size = cells.size) (h1 : cells.all (·.oneCell') = true)
    (h : wpList P ops Q rest (a.put o.dst undef) (w.alloc (.cells cells t))) : wpList P ops Q (o :: rest) a (w.alloc (.cells old t)) := by
  subst hg
  refine wpList_store_row hgd ty x y ho w.heap.size cells hx hy t old (heap_alloc_new w _) hi hold h1 ?_
  rw [World.setRow_alloc_new]
  exact h

set_option maxHeartbeats 1000000 in
theorem of1_l (a : Option Addr) (n cap lb k : Nat) (K L : Nat → Int) (hk : k < n) (w : World) (hb : w.cell? ⟨lb, 0, none⟩ = some (.slice a n cap)) (hR : Tb w a n K L) :
    Calls Tryz.prog 92 #[.int .i64 (k : Nat), .pointer (some ⟨lb, 0, none⟩)] w fun e w' => e = .returned (rowV (K k) (L k)) ∧ Below w.heap.size w w' := by
  obtain ⟨b, o, ea, hc1, hc2⟩ := hR.cell k hk
  have i1 : (k : Int) < (n : Int) := by omega
  subst ea
  clear hR
  have d0 := cell_al hb (.cells #[.int .i64 0, .int .i64 0] 24)
  have d1 := cell_al hc1 (.cells #[.int .i64 0, .int .i64 0] 24)
  have d2 := cell_al hc2 (.cells #[.int .i64 0, .int .i64 0] 24)
  go_enter Tryz.func92, Tryz.ntmps92
  go_wp2_with fail
  exact bodyPost_ret (results_cell_row rfl _ _ w.heap.size _ _ (0, 0) _ rfl (heap_alloc_new w _) Tryz.underlying24 rfl (by kernel_rfl)) rfl ⟨rfl, (Below.refl _ w).alloc (Nat.le_refl _) _⟩
/-- a sheet. -/
def shV (n cf : Nat) (caps : Array Value) : Array Value := #[.int .i64 (n : Nat), .func (.func cf) #[] caps]
set_option maxHeartbeats 400000 in
theorem of_l (a : Option Addr) (n cap : Nat) (w : World) :
    Calls Tryz.prog 64 #[.slice a n cap] w fun e w' => e = .returned (.agg #[.int .i64 (n : Nat), .func (.func 92) #[] #[.pointer (some ⟨w.heap.size, 0, none⟩)]]) ∧ Below w.heap.size w w' ∧ Boxed w' w.heap.size 25 (.slice a n cap) := by
  have hmf : ∀ (fn : Fn) (first cap : Array Value) (w : World), (Instr.makeFunc fn first cap).run Tryz.prog w = .ok (.func fn first cap) w := fun _ _ _ _ => rfl
  have hB : Below w.heap.size w ((w.alloc (.cells #[.slice a n cap] 25)).alloc (.cells #[.int .i64 (n : Nat), .func (.func 92) #[] #[.pointer (some ⟨w.heap.size, 0, none⟩)]] 100)) := ((Below.refl _ w).alloc (Nat.le_refl _) _).alloc (by simp) _
  have hb := (Boxed.new w 25 (.slice a n cap)).alloc (.cells #[.int .i64 (n : Nat), .func (.func 92) #[] #[.pointer (some ⟨w.heap.size, 0, none⟩)]] 100)
  have HB := Lib.hid hB; have Hb := Lib.hid hb; clear hB hb
  go_enter Tryz.func64, Tryz.ntmps64
  go_wp2_with ((show wpList _ _ _ (⟨none, .store 100 _ _, _, _, _, _⟩ :: _) _ _); refine wpList_store_new rfl 100 _ _ rfl (w.heap.size + 1) (by simp) #[.int .i64 (n : Nat), .func (.func 92) #[] #[.pointer (some ⟨w.heap.size, 0, none⟩)]] _ _ rfl rfl (by kernel_rfl) rfl (by simp [Value.oneCell']) ?_)
  exact bodyPost_ret (results_cell_row rfl _ _ (w.heap.size + 1) _ _ (0, 0) _ rfl (by have := heap_alloc_new (w.alloc (.cells #[.slice a n cap] 25)) (.cells #[.int .i64 (n : Nat), .func (.func 92) #[] #[.pointer (some ⟨w.heap.size, 0, none⟩)]] 100); rwa [World.size_alloc] at this) Tryz.underlying100 rfl (by kernel_rfl)) rfl ⟨rfl, HB.out, Hb.out⟩
set_option maxHeartbeats 400000 in
theorem parts_l (n cf : Nat) (caps : Array Value) (w : World) :
    Calls Tryz.prog 93 #[.agg #[.int .i64 (n : Nat), .func (.func cf) #[] caps]] w fun e w' => e = .returned (.func (.func 110) #[] #[.pointer (some ⟨w.heap.size, 0, none⟩)]) ∧ w' = w.alloc (.cells #[.int .i64 (n : Nat), .func (.func cf) #[] caps] 100) := by
  have hmf : ∀ (fn : Fn) (first cap : Array Value) (w : World), (Instr.makeFunc fn first cap).run Tryz.prog w = .ok (.func fn first cap) w := fun _ _ _ _ => rfl
  go_enter Tryz.func93, Tryz.ntmps93
  go_wp2_with fail
  go_ret
  exact ⟨rfl, rfl⟩
end Go.Proofs.YtjlmajopfeplpaaGreat.Ly

namespace Go.Proofs.YtjlmajopfeplpaaGreat.Ly
open Go.RowKit Go.Shelf
open Go.Proofs.YtjlmajopfeplpaaGreat.Sp (wid Bad wid_le wid_hi wid_lo width_ok width_bad grown_dr grown_t Tk heap_kp)
attribute [local go_sem] Oper.semAt_some

/-- what parts' function reads: a sheet in its box. -/
structure Gl (bs cf n : Nat) (caps : Array Value) (Dom : Nat → Prop) (w0 W : World) : Prop where
  blk : W.heap[bs]? = some (.cells #[.int .i64 (n : Nat), .func (.func cf) #[] caps] 100 (0, 0))
  s : Agr Dom w0 W
  z : w0.heap.size ≤ W.heap.size
section
variable {bs cf n : Nat} {caps : Array Value} {Dom : Nat → Prop} {w0 W W' : World}
theorem Gl.lt (g : Gl bs cf n caps Dom w0 W) : bs < W.heap.size := (Array.getElem?_eq_some_iff.1 g.blk).1
theorem Gl.c0 (g : Gl bs cf n caps Dom w0 W) : W.cell? ⟨bs, 0, none⟩ = some (.int .i64 (n : Nat)) := by rw [cell_of_row W bs 0 _ _ _ g.blk]; rfl
theorem Gl.c1 (g : Gl bs cf n caps Dom w0 W) : W.cell? ⟨bs, 1, none⟩ = some (.func (.func cf) #[] caps) := by rw [cell_of_row W bs 1 _ _ _ g.blk]; rfl
theorem Gl.kept {K L : Nat → Int} (hA : AskL Dom w0 cf n caps K L) (g : Gl bs cf n caps Dom w0 W) (hz : W.heap.size ≤ W'.heap.size) (hb : W'.heap[bs]? = W.heap[bs]?) (hD : ∀ k, k < w0.heap.size → Dom k → W'.heap[k]? = W.heap[k]?) : Gl bs cf n caps Dom w0 W' :=
  ⟨hb.trans g.blk, g.s.trans fun k hk => hD k (hA.lt k hk) hk, Nat.le_trans g.z hz⟩
theorem Gl.same {K L : Nat → Int} (hA : AskL Dom w0 cf n caps K L) (g : Gl bs cf n caps Dom w0 W) (hB : Below W.heap.size W W') : Gl bs cf n caps Dom w0 W' :=
  g.kept hA hB.size (hB.block bs g.lt) fun k hk _ => hB.block k (Nat.lt_of_lt_of_le hk g.z)
end
def KpL (bs cf n : Nat) (caps : Array Value) (Dom : Nat → Prop) (w0 W W' : World) : Prop := Gl bs cf n caps Dom w0 W → Gl bs cf n caps Dom w0 W'
theorem kpL_t {bs cf n : Nat} {caps : Array Value} {Dom : Nat → Prop} {w0 A B C : World} (h : KpL bs cf n caps Dom w0 A B) (k : KpL bs cf n caps Dom w0 B C) : KpL bs cf n caps Dom w0 A C := fun g => k (h g)
theorem kpL_b {bs cf n : Nat} {caps : Array Value} {K L : Nat → Int} {Dom : Nat → Prop} {w0 : World} (hA : AskL Dom w0 cf n caps K L) {w : World} (hz : w0.heap.size ≤ w.heap.size) (W : World) (l : Nat) (o o' : Obj) (hl : w.heap.size ≤ l) (h : W.heap[l]? = some o) (hc : o.isCells = false) (_ : o.isWalk = false) : KpL bs cf n caps Dom w0 W (W.putObj l o') :=
  fun g => g.kept hA (grownBy_putObj' W l o').size ((heap_kp g.blk (grownBy_putObj' W l o') (fun r e => by cases e; exact ⟨o, h, hc⟩)).trans g.blk.symm) fun k hk _ => (grownBy_putObj' W l o').block k (Nat.lt_of_lt_of_le hk g.z) (fun e => by cases e; omega)
/-- a store into a box of one's own. -/
theorem kpL_set {bs cf n : Nat} {caps : Array Value} {K L : Nat → Int} {Dom : Nat → Prop} {w0 W : World} (hA : AskL Dom w0 cf n caps K L) (p : Addr) (v : Value) (h1 : p.block ≠ bs) (h2 : ¬ Dom p.block) : KpL bs cf n caps Dom w0 W (W.setCell p v) :=
  fun g => g.kept hA (by simp) (heap_setCell_other W p bs v (fun e => h1 e.symm)) fun k _ hd => heap_setCell_other W p k v (fun e => h2 (e ▸ hd))

/-- what comes at a place. -/
def encL (K L : Nat → Int) (i : Nat) : Array Value := #[.int .i64 (i : Nat), partV (K i) (L i) (off K L i) (off K L (i + 1))]

set_option maxRecDepth 100000 in
set_option maxHeartbeats 2000000 in
/-- parts' function. -/
theorem parts1_in (m : Nat) (l bs cf n : Nat) (caps : Array Value) (K L : Nat → Int) (Dom : Nat → Prop) (w0 : World) (hA : AskL Dom w0 cf n caps K L) (hn : n ≤ 8) (J Jx : List (Tk n) → World → Prop)
    (hJ : ∀ s W W', Below W.heap.size W W' → J s W → J s W')
    (hY : ∀ pre x W, J pre W → pre.length < n → YieldAt Fence.wide (m - 1) Tryz.prog l (encL K L x.i) W fun e W' =>
      (e = .returned (.bool true) ∧ J (pre ++ [x]) W' ∧ KpL bs cf n caps Dom w0 W W') ∨ (e = .returned (.bool false) ∧ Jx (pre ++ [x]) W'))
    (W : World) (hG : Gl bs cf n caps Dom w0 W) (h0 : J [] W) :
    CallsIn Fence.wide m Tryz.prog 110 #[.func (.yield l) #[] #[], .pointer (some ⟨bs, 0, none⟩)] W fun e W' => (∃ v, e = .returned v) ∧
      ((∃ ys : List (Tk n), ys.map Tk.i = List.range n ∧ J ys W') ∨ (∃ pre : List (Tk n), (∃ k, k ≤ n ∧ pre.map Tk.i = List.range k) ∧ Jx pre W')) := by
  have hW : ∀ k, Fence.wide.fn k := fun _ => trivial
  have hD : Fence.wide.depth = none := rfl
  have hb0 := hG.c0
  have HG := Lib.hid hG; clear hG
  have hent := hA.ent
  have HA := Lib.hid hA; clear hA
  refine callsIn_of_wp Tryz.func110 rfl trivial ?_ rfl
  simp only [Tryz.ntmps110, List.size_toArray, List.length_cons, List.length_nil, Nat.reduceAdd, Nat.reduceSub, Array.replicate_succ, Array.replicate_zero, List.push_toArray, List.append_toArray, List.nil_append, List.cons_append]
  gi_wp2
  gi_loopw [3, 10] (fun fr i wr => ∃ k : Nat, k ≤ n ∧ fr = .int .i64 (off K L k : Nat) ∧ i = .int .i64 (k : Nat) ∧ (∃ pre : List (Tk n), pre.map Tk.i = List.range k ∧ J pre wr) ∧ Gl bs cf n caps Dom w0 wr)
    (fun _ i _ => n - (intOf i).toNat)
  case atStart => exact ⟨0, Nat.zero_le _, rfl, rfl, ⟨[], rfl, h0⟩, HG.out⟩
  case round =>
    rename_i wr
    obtain ⟨k, hk1, rfl, rfl, ⟨pre, hp, hJs⟩, hG⟩ := hrel
    have hP := Lib.hid hp
    have hlen : pre.length = k := by have := congrArg List.length hp; rwa [List.length_map, List.length_range] at this
    clear hp hb0
    by_cases hkn : k < n
    · have i1 : (k : Int) < (n : Int) := by omega
      have hb1 := hG.c1
      have hofs : off K L (k + 1) = off K L k + widI (L k) (K k) := rfl
      have hle := off_le K L k
      have hwl := widI_le (L k) (K k)
      have HOF := Lib.hid hofs
      have HYY := Lib.hid (fun W hJ' => hY pre ⟨k, hkn⟩ W hJ' (by omega))
      have HG1 := Lib.hid hG
      have HJ := Lib.hid hJs
      have HL := Lib.hid hlen
      clear hG hlen hJs hofs hY
      gi_wp2_with fail
      refine (callsIn_wide.2 (HA.out.call _ HG1.out.s k hkn)).mono ?_
      rintro e W2 ⟨rfl, hB2⟩
      have HB2 := Lib.hid hB2; clear hB2
      unfold rowV
      generalize hKk : K k = Kk at *
      generalize hLk : L k = Lk at *
      have hX : Below wr.heap.size wr (W2.alloc (.cells #[.int .i64 Kk, .int .i64 Lk] 24)) := HB2.out.trans (((Below.refl _ W2).alloc (Nat.le_refl _) _).mono HB2.out.size)
      have HX := Lib.hid hX; clear hX
      gi_wp2_with fail
      refine (callsIn_wide.2 (width_any Lk Kk _)).mono ?_
      rintro e W3 ⟨rfl, rfl⟩
      have hsum : ((off K L k : Nat) : Int) + ((widI Lk Kk : Nat) : Int) = ((off K L (k + 1) : Nat) : Int) := by rw [HOF.out]; omega
      have HS := Lib.hid hsum
      obtain ⟨fn, tmps, assign, body, hy, hR⟩ := HYY.out _ (hJ _ _ _ HX.out HJ.out)
      simp only [encL, partV, hKk, hLk] at hy
      generalize widI Lk Kk = wi at *
      generalize hO1 : off K L (k + 1) = o1 at *
      have HO1 := Lib.hid hO1; clear hO1
      generalize off K L k = o0 at *
      have hwr : wrap64 (o1 : Int) = (o1 : Int) := by unfold wrap64; omega
      have HWR := Lib.hid hwr
      gi_wp2_with fail
      refine hR.mono ?_
      rintro e W4 (⟨rfl, hJ3, hk3⟩ | ⟨rfl, hJx3⟩)
      · have HG3 := Lib.hid (hk3 (HG1.out.same HA.out HX.out)); have HJ3 := Lib.hid hJ3
        clear hk3 hJ3 hy hR
        gi_wp2
        go_roundw
        case rel => exact ⟨k + 1, by omega, by rw [HO1.out], by go_num, ⟨_, by rw [List.range_succ, List.map_append, hP.out]; rfl, HJ3.out⟩, HG3.out⟩
        case measure => simp [intOf]; omega
      · clear hy hR
        gi_wp2
        refine bodyPost_ret (results_none rfl _ _ _) rfl ?_
        exact ⟨⟨_, rfl⟩, .inr ⟨_, ⟨k + 1, by omega, by rw [List.range_succ, List.map_append, hP.out]; rfl⟩, hJx3⟩⟩
    · obtain rfl : k = n := by omega
      have i1 : ¬ (k : Int) < (k : Int) := by omega
      gi_wp2
      go_end0
      exact ⟨⟨_, rfl⟩, .inl ⟨pre, hP.out, hJs⟩⟩
/-- parts' value. -/
theorem parts_stops (m bs cf n : Nat) (caps : Array Value) (K L : Nat → Int) (Dom : Nat → Prop) (w0 : World) (hA : AskL Dom w0 cf n caps K L) (hn : n ≤ 8) (w : World) (hG : Gl bs cf n caps Dom w0 w) :
    SeqStopsK Fence.wide m Tryz.prog 110 #[.pointer (some ⟨bs, 0, none⟩)] (fun x : Tk n => encL K L x.i) (KpL bs cf n caps Dom w0) (fun ys => ys.map Tk.i = List.range n) (fun pre => ∃ k, k ≤ n ∧ pre.map Tk.i = List.range k) n w := fun l J Jx W hW hJ _ hY h0 =>
  parts1_in m l bs cf n caps K L Dom w0 hA hn J Jx (fun s W1 W2 hB hs => hJ s _ _ none hs (below_grown hB none) (fun _ e => by cases e)) hY W (hG.same hA hW) h0
/-- a table: its rows lie below B, its box is lb. -/
theorem ask_of (B : Nat) (w0 w : World) (lb : Nat) (a : Option Addr) (n cap : Nat) (K L : Nat → Int) (hB0 : w0.heap.size = B) (hB : Below B w0 w) (hb : Boxed w lb 25 (.slice a n cap)) (hT : Tb w0 a n K L) :
    AskL (fun k => k < B ∨ k = lb) w 92 n #[.pointer (some ⟨lb, 0, none⟩)] K L :=
  ⟨fun _ _ => by kernel_rfl, fun k h => by rcases h with h | rfl; (· have := hB.size; omega); exact hb.lt, fun W h j hj => by
    have hc : ∀ p v, w0.cell? p = some v → W.cell? p = some v := fun p v e => by
      have h1 := World.block_lt_of_cell? _ _ e
      exact (World.cell?_of_block ((h _ (Or.inl (by omega))).trans (hB.block _ (by omega)))).trans e
    exact of1_l a n cap lb j K L hj W ((World.cell?_of_block (h lb (Or.inr rfl))).trans hb.cell) ⟨fun i hi => by obtain ⟨b, o, e, h1, h2⟩ := hT.cell i hi; exact ⟨b, o, e, hc _ _ h1, hc _ _ h2⟩⟩⟩
end Go.Proofs.YtjlmajopfeplpaaGreat.Ly

namespace Go.Proofs.YtjlmajopfeplpaaGreat.Ly
open Go.RowKit Go.Shelf
open Go.Proofs.YtjlmajopfeplpaaGreat.Sp (wid Bad wid_le wid_hi wid_lo width_ok width_bad grown_dr grown_t Tk heap_kp bx_past)
attribute [local go_sem] Oper.semAt_some

theorem rng_snoc {n : Nat} {pre : List (Tk n)} {x : Tk n} {k' : Nat} (h : (pre ++ [x]).map Tk.i = List.range k') : ∃ k, k' = k + 1 ∧ pre.map Tk.i = List.range k ∧ x.i = k := by
  cases k' with
  | zero => simp at h
  | succ k =>
    rw [List.range_succ, List.map_append] at h
    have h2 := List.append_inj' h rfl
    refine ⟨k, rfl, h2.1, ?_⟩
    have := h2.2
    simpa using this
theorem rng_nil {n k : Nat} (h : ([] : List (Tk n)).map Tk.i = List.range k) : k = 0 := by
  have := congrArg List.length h
  simpa using this.symm
/-- a row that may be, behind those ahead of it. -/
def RowOk (N : Int) (K L : Nat → Int) (i : Nat) : Prop := 1 ≤ K i ∧ K i ≤ N ∧ 0 ≤ L i ∧ L i ≤ 65535 ∧ (0 < i → K (i - 1) ≤ K i)
/-- a table. -/
def TabOk (N : Int) (n : Nat) (K L : Nat → Int) : Prop := 1 ≤ N ∧ N ≤ 255 ∧ 1 ≤ n ∧ n ≤ 8 ∧ ∀ i, i < n → RowOk N K L i
def TabSays (N : Int) (n : Nat) (K L : Nat → Int) (e : Ending) : Prop := ∃ v : Bool, e = .returned (.bool v) ∧ (v = true ↔ TabOk N n K L)
/-- the least threshold that may come at a place. -/
def lst (K : Nat → Int) : Nat → Int
  | 0 => 1
  | i + 1 => K i
theorem row_lst {N : Int} {K L : Nat → Int} {i : Nat} (hp : ∀ j, j < i → RowOk N K L j) : RowOk N K L i ↔ lst K i ≤ K i ∧ K i ≤ N ∧ 0 ≤ L i ∧ L i ≤ 65535 := by
  unfold RowOk
  cases i with
  | zero => show _ ↔ 1 ≤ K 0 ∧ _; constructor <;> (intro h; omega)
  | succ j =>
    have := (hp j (by omega)).1
    show _ ↔ K j ≤ K (j + 1) ∧ _
    rw [Nat.add_sub_cancel]
    constructor <;> (intro h; omega)

/-- the box of a part. -/
def PartAt (W : World) (p : Nat) (K L : Nat → Int) (i : Nat) : Prop := W.heap[p]? = some (.cells #[.int .i64 (K i), .int .i64 (L i), .int .i64 (off K L i : Nat), .int .i64 (off K L (i + 1) : Nat)] 129 (0, 0))
theorem PartAt.kept {X Y : World} {row : Option Nat} {p i : Nat} {K L : Nat → Int} (h : PartAt X p K L i) (hg : X.grownBy Y row) (hr : ∀ r, row = some r → ∃ o : Obj, X.heap[r]? = some o ∧ o.isCells = false) : PartAt Y p K L i := heap_kp h hg hr
/-- as long goes through the rows. -/
structure LoS (w W : World) (v : Nat) : Prop where
  v : Boxed W (w.heap.size + 1) 3 (.int .i64 (v : Nat))
  be : Below w.heap.size w W
theorem LoS.kep {w W W' : World} {v : Nat} {row : Option Nat} (s : LoS w W v) (hg : W.grownBy W' row) (hr : ∀ r, row = some r → w.heap.size ≤ r ∧ ∃ o : Obj, W.heap[r]? = some o ∧ o.isCells = false) : LoS w W' v :=
  ⟨heap_kp s.v hg (fun r e => (hr r e).2), s.be.grown hg s.be.size (fun k e => (hr k e).1)⟩

set_option maxRecDepth 100000 in
set_option maxHeartbeats 4000000 in
theorem long_l (n cf : Nat) (caps : Array Value) (K L : Nat → Int) (Dom : Nat → Prop) (hn : n ≤ 8) (w : World) (hA : AskL Dom w cf n caps K L) :
    Calls Tryz.prog 86 #[.agg #[.int .i64 (n : Nat), .func (.func cf) #[] caps]] w fun e w' => e = .returned (.int .i64 (off K L n : Nat)) ∧ Below w.heap.size w w' := by
  refine (callsIn_wide (n := 6)).1 ?_
  have hW : ∀ k, Fence.wide.fn k := fun _ => trivial
  have hD : Fence.wide.depth = none := rfl
  have HA := Lib.hid hA
  clear hA
  refine callsIn_of_wp_marks Tryz.func86 rfl trivial ?_ rfl
  simp only [Tryz.ntmps86, List.size_toArray, List.length_cons, List.length_nil, Nat.reduceAdd, Nat.reduceSub, Array.replicate_succ, Array.replicate_zero, List.push_toArray, List.append_toArray, List.nil_append, List.cons_append]
  gi_wp2_with (first
    | (gi_at_call 93; refine (callsIn_wide.2 (parts_l _ _ _ _)).mono ?_; rintro e w1 ⟨rfl, hw1⟩))
  rw [← hw1]
  have hS1 : LoS w w1 0 := by
    rw [hw1]
    refine ⟨?_, (((Below.refl _ w).alloc (Nat.le_refl _) _).alloc (by simp) _).alloc (by simp; omega) _⟩
    have := (Boxed.new (w.alloc (.cells #[.int .i64 (n : Nat), .func (.func cf) #[] caps] 100)) 3 (.int .i64 0)).alloc (.cells #[.int .i64 (n : Nat), .func (.func cf) #[] caps] 100)
    simpa using this
  have hG1 : Gl (w.heap.size + 1 + 1) cf n caps Dom w w1 := by
    refine ⟨?_, HA.out.agr hS1.be, hS1.be.size⟩
    rw [hw1]
    have := heap_alloc_new ((w.alloc (.cells #[.int .i64 (n : Nat), .func (.func cf) #[] caps] 100)).alloc (.cells #[.int .i64 0] 3)) (.cells #[.int .i64 (n : Nat), .func (.func cf) #[] caps] 100)
    simpa using this
  have hs1 : w.heap.size + 1 + 1 < w1.heap.size := hG1.lt
  have HS1 := Lib.hid hS1; have HG1 := Lib.hid hG1
  have hz1 := hS1.be.size
  clear hw1 hS1 hG1
  refine' wpIn_rangeFunc_ownH rfl (by omega) (gf := 110) (lb := #[.pointer (some ⟨w.heap.size + 1 + 1, 0, none⟩)]) rfl trivial (enters_of Tryz.func110 (by kernel_rfl) rfl)
    (parts_stops _ (w.heap.size + 1 + 1) cf n caps K L Dom w HA.out hn _ HG1.out) kpL_t (kpL_b HA.out hz1) (Below.refl _ _) (fun _ => rfl)
    (fun pre W => w1.heap.size ≤ W.heap.size ∧ ∃ v : Nat, LoS w W v ∧ ∀ k, pre.map Tk.i = List.range k → v = off K L k)
    (fun _ _ _ => False)
    (fun s X Y row h hg hr => by
      obtain ⟨hz, v, hs, hv⟩ := h
      exact ⟨Nat.le_trans hz hg.size, v, hs.kep hg (fun r e => ⟨by have := (hr r e).1; omega, (hr r e).2⟩), hv⟩)
    (fun _ _ _ _ _ hs _ _ => hs)
    ⟨Nat.le_refl _, 0, HS1.out, fun k hk => by rw [rng_nil hk]; rfl⟩
    (fun x a' W' => ∃ p, w1.heap.size ≤ p ∧ a' = ⟨#[.agg #[.int .i64 (n : Nat), .func (.func cf) #[] caps], .pointer (some ⟨w.heap.size, 0, none⟩), .int .i64 0, .pointer (some ⟨w.heap.size + 1, 0, none⟩), undef, .pointer (some ⟨p, 0, none⟩), .agg #[.int .i64 (n : Nat), .func (.func cf) #[] caps], .func (.func 110) #[] #[.pointer (some ⟨w.heap.size + 1 + 1, 0, none⟩)], .int .i64 (x.i : Nat), partV (K x.i) (L x.i) (off K L x.i) (off K L (x.i + 1)), undef, undef, undef], []⟩ ∧ PartAt W' p K L x.i)
    (fun x a' _ X Y row h hg hr => by obtain ⟨p, h0, h1, h2⟩ := h; exact ⟨p, h0, h1, h2.kept hg (fun r e => (hr r e).2)⟩)
    ?assign ?body ?done ?stop
  case assign =>
    rintro q pre x W KK ⟨hz, v, hs, hv⟩ hK
    have hB := (Below.refl W.heap.size W).alloc (Nat.le_refl _) (.cells #[.int .i64 (K x.i), .int .i64 (L x.i), .int .i64 (off K L x.i : Nat), .int .i64 (off K L (x.i + 1) : Nat)] 129)
    have hR := hK _ _ ((KeepsOthers.alloc W (.cells #[.int .i64 (K x.i), .int .i64 (L x.i), .int .i64 (off K L x.i : Nat), .int .i64 (off K L (x.i + 1) : Nat)] 129)).from _) (fun g => g.same HA.out hB) ⟨Nat.le_trans hz hB.size, v, hs.kep (below_grown hB none) (fun r e => by cases e), hv⟩ ⟨W.heap.size, hz, rfl, heap_alloc_new W _⟩
    unfold encL
    unfold partV at hR ⊢
    gi_wp2
    exact hR
  case body =>
    rintro q pre x a' W hq _ ⟨hz, v, hs, hv⟩ ⟨p, hp, rfl, hpa⟩ hlen
    have c3 : W.cell? ⟨p, 3, none⟩ = some (.int .i64 (off K L (x.i + 1) : Nat)) := by rw [cell_of_row W p 3 _ _ _ hpa]; rfl
    have d1 := hs.v.cell; have f1 := hs.v.frozen
    have hS7 : LoS w (W.setCell ⟨w.heap.size + 1, 0, none⟩ (.int .i64 (off K L (x.i + 1) : Nat))) (off K L (x.i + 1)) := ⟨hs.v.set _, hs.be.setCell (p := ⟨w.heap.size + 1, 0, none⟩) (by simp) _⟩
    have HS7 := Lib.hid hS7
    clear hS7 hpa hv
    have HZ := Lib.hid hz; clear hz hs
    gi_wp2
    refine ⟨(KeepsOthers.setCell _ _ _).from _, kpL_set HA.out ⟨w.heap.size + 1, 0, none⟩ _ (by simp) (fun h => absurd (HA.out.lt _ h) (by simp)), by simpa using HZ.out, _, HS7.out, fun k hk => ?_⟩
    obtain ⟨k2, rfl, _, e⟩ := rng_snoc hk
    rw [e]
  case done =>
    rintro D ys W hD hys ⟨hz, v, hs, hv⟩ hK
    obtain rfl := hv n hys
    have d1 := hs.v.cell
    have HS := Lib.hid hs; clear hs hv hys
    gi_wp2
    refine ⟨by simp, .inl ⟨_, _, rfl, run_takeDeferred hK, ?_⟩⟩
    exact ⟨_, results_tmp rfl _ _ _, rfl, HS.out.be.trans (belowK_b (w := w) (Nat.le_refl _) W D _ _ (by omega) hK rfl rfl)⟩
  case stop => exact fun _ _ _ _ _ _ h _ => h.elim
end Go.Proofs.YtjlmajopfeplpaaGreat.Ly

namespace Go.Proofs.YtjlmajopfeplpaaGreat.He
open Go.RowKit Go.Shelf
open Go.Proofs.YtjlmajopfeplpaaGreat.Ly (TabOk RowOk off)

/-- a header's numbers. -/
structure Hr where
  S : Int
  F : Int
  I : Int
  N : Int
  D : Int
  m : Nat
  K : Nat → Int
  L : Nat → Int
/-- a header is right. -/
def RH (h : Hr) : Prop := (0 ≤ h.S ∧ h.S ≤ 65535) ∧ (1 ≤ h.F ∧ h.F ≤ 2147483647) ∧ (0 ≤ h.I ∧ h.I < h.N) ∧ (0 ≤ h.D ∧ h.D ≤ 2147483647) ∧ TabOk h.N h.m h.K h.L
/-- two are of one frame. -/
def LH (h g : Hr) : Prop := h.S = g.S ∧ h.F = g.F ∧ h.N = g.N ∧ h.D = g.D ∧ h.m = g.m ∧ ∀ i, i < h.m → h.K i = g.K i ∧ h.L i = g.L i
/-- two are the same. -/
def EH (h g : Hr) : Prop := LH h g ∧ h.I = g.I
/-- how long a datagram is, but for its sum. -/
def pln (h : Hr) (long : Nat) : Nat := 14 + 3 * h.m + long
/-- a datagram, but for its sum. -/
def pl (h : Hr) (body : Nat → Nat) (i : Nat) : Nat :=
  if i = 0 then 1 else if i < 3 then dg h.S.toNat 2 (i - 1) else if i < 7 then dg h.F.toNat 4 (i - 3) else if i = 7 then h.I.toNat % 256 else if i = 8 then h.N.toNat % 256 else if i = 9 then h.m % 256 else if i < 14 then dg h.D.toNat 4 (i - 10)
  else if i < 14 + 3 * h.m then (if (i - 14) % 3 = 0 then (h.K ((i - 14) / 3)).toNat % 256 else dg (h.L ((i - 14) / 3)).toNat 2 ((i - 14) % 3 - 1)) else body (i - (14 + 3 * h.m))
theorem pl_by (h : Hr) {body : Nat → Nat} (hb : Pf.By body) : Pf.By (pl h body) := fun i => by
  unfold pl
  have d := fun n s j => dg_by n s j
  have hb := hb (i - (14 + 3 * h.m))
  split
  · omega
  · split
    · exact d _ _ _
    · split
      · exact d _ _ _
      · split
        · omega
        · split
          · omega
          · split
            · omega
            · split
              · exact d _ _ _
              · split
                · split
                  · omega
                  · exact d _ _ _
                · exact hb
/-- what a datagram's bytes tell of its header. -/
def hdr (p : Nat → Nat) : Hr := ⟨(vn (fun j => p (1 + j)) 2 : Nat), (vn (fun j => p (3 + j)) 4 : Nat), (p 7 : Nat), (p 8 : Nat), (vn (fun j => p (10 + j)) 4 : Nat), p 9, fun i => (p (14 + 3 * i) : Nat), fun i => (vn (fun j => p (15 + 3 * i + j)) 2 : Nat)⟩
theorem rh_congr {h g : Hr} (he : EH h g) (hr : RH h) : RH g := by
  obtain ⟨⟨e1, e2, e3, e4, e5, e6⟩, e7⟩ := he
  obtain ⟨h1, h2, h3, h4, h5⟩ := hr
  refine ⟨by rw [← e1]; exact h1, by rw [← e2]; exact h2, by rw [← e7, ← e3]; exact h3, by rw [← e4]; exact h4, ?_⟩
  rw [← e3, ← e5]
  refine ⟨h5.1, h5.2.1, h5.2.2.1, h5.2.2.2.1, fun i hi => ?_⟩
  have h6 := h5.2.2.2.2 i hi
  unfold RowOk at h6 ⊢
  rw [← (e6 i hi).1, ← (e6 i hi).2]
  refine ⟨h6.1, h6.2.1, h6.2.2.1, h6.2.2.2.1, fun h0 => ?_⟩
  rw [← (e6 (i - 1) (by omega)).1]
  exact h6.2.2.2.2 h0
/-- what is put tells its header. -/
theorem hdr_pl {h : Hr} (hr : RH h) (body : Nat → Nat) : EH (hdr (pl h body)) h := by
  obtain ⟨h1, h2, h3, h4, h5⟩ := hr
  have hN := h5.2.1
  have hm := h5.2.2.2.1
  have eS : vn (fun j => pl h body (1 + j)) 2 = h.S.toNat := by
    rw [vn_congr (g := dg h.S.toNat 2) 2 (fun j hj => by unfold pl; rw [if_neg (by omega), if_pos (by omega), show 1 + j - 1 = j by omega]), vn_dg (by omega)]
  have eF : vn (fun j => pl h body (3 + j)) 4 = h.F.toNat := by
    rw [vn_congr (g := dg h.F.toNat 4) 4 (fun j hj => by unfold pl; rw [if_neg (by omega), if_neg (by omega), if_pos (by omega), show 3 + j - 3 = j by omega]), vn_dg (by omega)]
  have eD : vn (fun j => pl h body (10 + j)) 4 = h.D.toNat := by
    rw [vn_congr (g := dg h.D.toNat 4) 4 (fun j hj => by unfold pl; rw [if_neg (by omega), if_neg (by omega), if_neg (by omega), if_neg (by omega), if_neg (by omega), if_neg (by omega), if_pos (by omega), show 10 + j - 10 = j by omega]), vn_dg (by omega)]
  have eI : pl h body 7 = h.I.toNat := by
    show h.I.toNat % 256 = _; omega
  have eN : pl h body 8 = h.N.toNat := by
    show h.N.toNat % 256 = _; omega
  have em : pl h body 9 = h.m := by
    show h.m % 256 = _; omega
  refine ⟨⟨?_, ?_, ?_, ?_, em, fun i hi => ?_⟩, ?_⟩
  · show ((vn (fun j => pl h body (1 + j)) 2 : Nat) : Int) = h.S; rw [eS]; omega
  · show ((vn (fun j => pl h body (3 + j)) 4 : Nat) : Int) = h.F; rw [eF]; omega
  · show ((pl h body 8 : Nat) : Int) = h.N; rw [eN]; omega
  · show ((vn (fun j => pl h body (10 + j)) 4 : Nat) : Int) = h.D; rw [eD]; omega
  · have hi : i < h.m := by
      have : (hdr (pl h body)).m = h.m := em
      omega
    have hrow := h5.2.2.2.2 i hi
    unfold RowOk at hrow
    constructor
    · show ((pl h body (14 + 3 * i) : Nat) : Int) = h.K i
      have e : pl h body (14 + 3 * i) = (h.K i).toNat := by
        unfold pl
        rw [if_neg (by omega), if_neg (by omega), if_neg (by omega), if_neg (by omega), if_neg (by omega), if_neg (by omega), if_neg (by omega), if_pos (by omega), if_pos (by omega), show (14 + 3 * i - 14) / 3 = i by omega]
        omega
      rw [e]; omega
    · show ((vn (fun j => pl h body (15 + 3 * i + j)) 2 : Nat) : Int) = h.L i
      have e : vn (fun j => pl h body (15 + 3 * i + j)) 2 = (h.L i).toNat := by
        rw [vn_congr (g := dg (h.L i).toNat 2) 2 (fun j hj => by
          unfold pl
          rw [if_neg (by omega), if_neg (by omega), if_neg (by omega), if_neg (by omega), if_neg (by omega), if_neg (by omega), if_neg (by omega), if_pos (by omega), if_neg (by omega), show (15 + 3 * i + j - 14) / 3 = i by omega, show (15 + 3 * i + j - 14) % 3 - 1 = j by omega]), vn_dg (by omega)]
      rw [e]; omega
  · show ((pl h body 7 : Nat) : Int) = h.I; rw [eI]; omega
theorem pl_body (h : Hr) (body : Nat → Nat) (j : Nat) : pl h body (14 + 3 * h.m + j) = body j := by
  unfold pl
  rw [if_neg (by omega), if_neg (by omega), if_neg (by omega), if_neg (by omega), if_neg (by omega), if_neg (by omega), if_neg (by omega), if_neg (by omega), show 14 + 3 * h.m + j - (14 + 3 * h.m) = j by omega]
/-- bytes are put of what they tell. -/
theorem pl_hdr {p : Nat → Nat} (hp : Pf.By p) (h0 : p 0 = 1) (i : Nat) : pl (hdr p) (fun j => p (14 + 3 * p 9 + j)) i = p i := by
  have em : (hdr p).m = p 9 := rfl
  unfold pl
  rw [em]
  by_cases c0 : i = 0
  · rw [if_pos c0, c0, h0]
  rw [if_neg c0]
  by_cases c1 : i < 3
  · rw [if_pos c1]
    show dg ((vn (fun j => p (1 + j)) 2 : Nat) : Int).toNat 2 (i - 1) = _
    rw [Int.toNat_natCast, dg_vn (fun j => hp _) 2 (i - 1) (by omega), show 1 + (i - 1) = i by omega]
  rw [if_neg c1]
  by_cases c2 : i < 7
  · rw [if_pos c2]
    show dg ((vn (fun j => p (3 + j)) 4 : Nat) : Int).toNat 4 (i - 3) = _
    rw [Int.toNat_natCast, dg_vn (fun j => hp _) 4 (i - 3) (by omega), show 3 + (i - 3) = i by omega]
  rw [if_neg c2]
  by_cases c3 : i = 7
  · rw [if_pos c3, c3]
    show ((p 7 : Nat) : Int).toNat % 256 = _
    have := hp 7; omega
  rw [if_neg c3]
  by_cases c4 : i = 8
  · rw [if_pos c4, c4]
    show ((p 8 : Nat) : Int).toNat % 256 = _
    have := hp 8; omega
  rw [if_neg c4]
  by_cases c5 : i = 9
  · rw [if_pos c5, c5]; have := hp 9; omega
  rw [if_neg c5]
  by_cases c6 : i < 14
  · rw [if_pos c6]
    show dg ((vn (fun j => p (10 + j)) 4 : Nat) : Int).toNat 4 (i - 10) = _
    rw [Int.toNat_natCast, dg_vn (fun j => hp _) 4 (i - 10) (by omega), show 10 + (i - 10) = i by omega]
  rw [if_neg c6]
  by_cases c7 : i < 14 + 3 * p 9
  · rw [if_pos c7]
    by_cases c8 : (i - 14) % 3 = 0
    · rw [if_pos c8]
      show ((p (14 + 3 * ((i - 14) / 3)) : Nat) : Int).toNat % 256 = _
      rw [show 14 + 3 * ((i - 14) / 3) = i by omega]
      have := hp i; omega
    · rw [if_neg c8]
      show dg ((vn (fun j => p (15 + 3 * ((i - 14) / 3) + j)) 2 : Nat) : Int).toNat 2 ((i - 14) % 3 - 1) = _
      rw [Int.toNat_natCast, dg_vn (fun j => hp _) 2 _ (by omega), show 15 + 3 * ((i - 14) / 3) + ((i - 14) % 3 - 1) = i by omega]
  · rw [if_neg c7]
    show p (14 + 3 * p 9 + (i - (14 + 3 * p 9))) = _
    rw [show 14 + 3 * p 9 + (i - (14 + 3 * p 9)) = i by omega]
end Go.Proofs.YtjlmajopfeplpaaGreat.He

namespace Go.Proofs.YtjlmajopfeplpaaGreat.Ly
open Go.RowKit Go.Shelf
open Go.Proofs.YtjlmajopfeplpaaGreat.Sp (wid Bad wid_le wid_hi wid_lo width_ok width_bad grown_dr grown_t Tk heap_kp bx_past)
attribute [local go_sem] Oper.semAt_some

/-- how many rows ask for at most so many. -/
def RdyN (n : Nat) (K : Nat → Int) (came : Int) (m : Nat) : Prop := m ≤ n ∧ (∀ i, i < m → K i ≤ came) ∧ (m < n → came < K m)
theorem RdyN.uniq {n : Nat} {K : Nat → Int} {came : Int} {m m' : Nat} (h : RdyN n K came m) (h' : RdyN n K came m') : m = m' := by
  rcases Nat.lt_trichotomy m m' with c | c | c
  · have := h.2.2 (Nat.lt_of_lt_of_le c h'.1); have := h'.2.1 m c; omega
  · exact c
  · have := h'.2.2 (Nat.lt_of_lt_of_le c h.1); have := h.2.1 m' c; omega
def RdySays (n : Nat) (K : Nat → Int) (came : Int) (e : Ending) : Prop := ∃ m : Nat, e = .returned (.int .i64 (m : Nat)) ∧ RdyN n K came m
/-- as ready goes through the rows. -/
structure ReS (n cf : Nat) (caps : Array Value) (came : Int) (w W : World) (v : Int) : Prop where
  sh : W.heap[w.heap.size]? = some (.cells #[.int .i64 (n : Nat), .func (.func cf) #[] caps] 100 (0, 0))
  c : Boxed W (w.heap.size + 1) 3 (.int .i64 came)
  v : Boxed W (w.heap.size + 1 + 1) 3 (.int .i64 v)
  be : Below w.heap.size w W
theorem ReS.kep {n cf : Nat} {caps : Array Value} {came v : Int} {w W W' : World} {row : Option Nat} (s : ReS n cf caps came w W v) (hg : W.grownBy W' row) (hr : ∀ r, row = some r → w.heap.size ≤ r ∧ ∃ o : Obj, W.heap[r]? = some o ∧ o.isCells = false) : ReS n cf caps came w W' v :=
  ⟨heap_kp s.sh hg (fun r e => (hr r e).2), heap_kp s.c hg (fun r e => (hr r e).2), heap_kp s.v hg (fun r e => (hr r e).2), s.be.grown hg s.be.size (fun k e => (hr k e).1)⟩
theorem ReS.set {n cf : Nat} {caps : Array Value} {came v v' : Int} {w W : World} (s : ReS n cf caps came w W v) : ReS n cf caps came w (W.setCell ⟨w.heap.size + 1 + 1, 0, none⟩ (.int .i64 v')) v' :=
  ⟨(heap_setCell_other W ⟨w.heap.size + 1 + 1, 0, none⟩ _ _ (by simp; omega)).trans s.sh, bx_past s.c (by omega), s.v.set _, s.be.setCell (p := ⟨w.heap.size + 1 + 1, 0, none⟩) (by simp; omega) _⟩
end Go.Proofs.YtjlmajopfeplpaaGreat.Ly

namespace Go.Proofs.YtjlmajopfeplpaaGreat.Ly
open Go.RowKit Go.Shelf
open Go.Proofs.YtjlmajopfeplpaaGreat.Sp (Bad wid rwidth_ok rwidth_bad)
attribute [local go_sem] Oper.semAt_some

/-! the document's -/
theorem rwidth_any (x k : Int) (w : World) :
    Calls Tryz.prog 79 #[.int .i64 x, .int .i64 k] w fun e w' => e = .returned (.tuple #[.int .i64 (widI x k : Nat), .int .i64 (widE x k)]) ∧ w' = w := by
  by_cases h : Bad x k
  · have e1 : widI x k = 0 := if_pos h
    have e2 : widE x k = 2 := if_pos h
    rw [e1, e2]
    exact rwidth_bad x k h w
  · have h' := h
    unfold Bad at h'
    obtain ⟨X, rfl⟩ : ∃ X : Nat, x = X := ⟨x.toNat, by omega⟩
    obtain ⟨Y, rfl⟩ : ∃ Y : Nat, k = Y := ⟨k.toNat, by omega⟩
    have e1 : widI X Y = wid X Y := by rw [widI_ok h]; simp
    have e2 : widE X Y = 0 := if_neg h
    rw [e1, e2]
    exact rwidth_ok X Y (by omega) (by omega) (by omega) w
set_option maxHeartbeats 1000000 in
theorem rwid_any (K L : Int) (w : World) :
    Calls Tryz.prog 42 #[rowV K L] w fun e w' => e = .returned (.int .i64 (widI L K : Nat)) ∧ Below w.heap.size w w' := by
  have hB := (Below.refl w.heap.size w).alloc (Nat.le_refl _) (.cells #[.int .i64 K, .int .i64 L] 24)
  unfold rowV
  go_enter Tryz.func42, Tryz.ntmps42
  go_wp2_with fail
  refine (rwidth_any L K _).mono ?_
  rintro e w1 ⟨rfl, rfl⟩
  go_wp2
  go_ret
  exact ⟨rfl, hB⟩
set_option maxHeartbeats 4000000 in
set_option maxRecDepth 100000 in
theorem rRight_any (N : Int) (a : Option Addr) (n cap : Nat) (K L : Nat → Int) (w : World) (hT : Tb w a n K L) :
    Calls Tryz.prog 37 #[.int .i64 N, .slice a n cap] w fun e w' => TabSays N n K L e ∧ ∃ q, w' = w.drewN q := by
  have HT := Lib.hid hT; clear hT
  by_cases hb : 1 ≤ N ∧ N ≤ 255 ∧ 1 ≤ n ∧ n ≤ 8
  · have HBB := Lib.hid hb
    obtain ⟨h1, h2, h3, h4⟩ := hb
    have i1 : decide (N < 1) = false := by simp; omega
    have i2 : decide ((255 : Int) < N) = false := by simp; omega
    have i3 : decide ((n : Int) < 1) = false := by simp; omega
    have i4 : decide ((8 : Int) < (n : Int)) = false := by simp; omega
    go_enter Tryz.func37, Tryz.ntmps37
    go_wp2_with fail
    clear i1 i2 i3 i4
    go_loopw [5] (fun i wr => ∃ k : Nat, k ≤ n ∧ i = .int .i64 k ∧ (∀ j, j < k → RowOk N K L j) ∧ ∃ q, wr = w.drewN q) (fun i _ => n - (intOf i).toNat)
    case atStart => exact ⟨0, by omega, rfl, fun j hj => absurd hj (Nat.not_lt_zero j), 0, rfl⟩
    case round =>
      obtain ⟨k, hk, rfl, hro, q, hq⟩ := hrel
      have HRO := Lib.hid hro; clear hro
      by_cases hlt : k < n
      · have j1 : (k : Int) < (n : Int) := by omega
        obtain ⟨b, o, ea, hc1, hc2⟩ := HT.out.cell k hlt
        have c1 : ∀ q, (w.drewN q).cell? ⟨b, o + k * 2, none⟩ = some (.int .i64 (K k)) := fun _ => hc1
        have c2 : ∀ q, (w.drewN q).cell? ⟨b, o + k * 2 + 1, none⟩ = some (.int .i64 (L k)) := fun _ => hc2
        clear hc1 hc2
        subst hq
        have EA := Lib.hid ea
        by_cases hok : RowOk N K L k
        · have hok' := hok
          unfold RowOk at hok'
          have g1 : decide (K k < 1) = false := by simp; omega
          have g2 : decide (N < K k) = false := by simp; omega
          have g3 : decide (L k < 0) = false := by simp; omega
          have g4 : decide ((65535 : Int) < L k) = false := by simp; omega
          have HOK := Lib.hid hok
          by_cases hk0 : 0 < k
          · obtain ⟨j, hj⟩ : ∃ j, k = j + 1 := ⟨k - 1, by omega⟩
            obtain ⟨b2, o2, ea2, hc3, _⟩ := HT.out.cell j (by omega)
            obtain ⟨rfl, rfl⟩ : b2 = b ∧ o2 = o := by rw [ea] at ea2; cases ea2; exact ⟨rfl, rfl⟩
            have c3 : ∀ q, (w.drewN q).cell? ⟨b2, o2 + j * 2, none⟩ = some (.int .i64 (K j)) := fun _ => hc3
            have g5 : decide ((0 : Int) < (k : Int)) = true := by simp; omega
            have g6 : (k : Int) - 1 = (j : Int) := by omega
            have g7 : decide (K k < K j) = false := by have := hok'.2.2.2.2 hk0; rw [hj, Nat.add_sub_cancel] at this; rw [hj]; simp; omega
            have g8 : (j : Int) < (n : Int) := by omega
            clear hok hok' hc3 ea2 hj
            subst ea
            go_wp2_with fail
            go_quiet (fail)
            go_wp2_with fail
            go_roundw
            case rel => exact ⟨k + 1, by omega, by go_num, fun i hi => (by
              by_cases e : i = k
              · rw [e]; exact HOK.out
              · exact HRO.out i (by omega)), q + nq, by first | rfl | rw [World.drewN_drewN]⟩
            case measure => simp [intOf]; omega
          · have g5 : decide ((0 : Int) < (k : Int)) = false := by simp; omega
            clear hok hok'
            subst ea
            go_wp2_with fail
            go_quiet (fail)
            go_wp2_with fail
            go_roundw
            case rel => exact ⟨k + 1, by omega, by go_num, fun i hi => (by
              by_cases e : i = k
              · rw [e]; exact HOK.out
              · exact HRO.out i (by omega)), q + nq, by first | rfl | rw [World.drewN_drewN]⟩
            case measure => simp [intOf]; omega
        · have HNOK := Lib.hid hok
          by_cases b1 : K k < 1
          · have g1 : decide (K k < 1) = true := by simp; omega
            clear hok
            subst ea
            go_wp2_with fail
            go_quiet (fail)
            go_wp2_with fail
            go_ret
            exact ⟨⟨false, rfl, (fun h => by cases h), fun h => absurd (h.2.2.2.2 k hlt) HNOK.out⟩, q + nq, by first | rfl | rw [World.drewN_drewN]⟩
          · have g1 : decide (K k < 1) = false := by simp; omega
            by_cases b2 : N < K k
            · have g2 : decide (N < K k) = true := by simp; omega
              clear hok
              subst ea
              go_wp2_with fail
              go_quiet (fail)
              go_wp2_with fail
              go_ret
              exact ⟨⟨false, rfl, (fun h => by cases h), fun h => absurd (h.2.2.2.2 k hlt) HNOK.out⟩, q + nq, by first | rfl | rw [World.drewN_drewN]⟩
            · have g2 : decide (N < K k) = false := by simp; omega
              by_cases b3 : L k < 0
              · have g3 : decide (L k < 0) = true := by simp; omega
                clear hok
                subst ea
                go_wp2_with fail
                go_quiet (fail)
                go_wp2_with fail
                go_ret
                exact ⟨⟨false, rfl, (fun h => by cases h), fun h => absurd (h.2.2.2.2 k hlt) HNOK.out⟩, q + nq, by first | rfl | rw [World.drewN_drewN]⟩
              · have g3 : decide (L k < 0) = false := by simp; omega
                by_cases b4 : (65535 : Int) < L k
                · have g4 : decide ((65535 : Int) < L k) = true := by simp; omega
                  clear hok
                  subst ea
                  go_wp2_with fail
                  go_quiet (fail)
                  go_wp2_with fail
                  go_ret
                  exact ⟨⟨false, rfl, (fun h => by cases h), fun h => absurd (h.2.2.2.2 k hlt) HNOK.out⟩, q + nq, by first | rfl | rw [World.drewN_drewN]⟩
                · have g4 : decide ((65535 : Int) < L k) = false := by simp; omega
                  have hk0 : 0 < k := by
                    rcases Nat.eq_zero_or_pos k with e | e
                    · exact absurd ⟨by omega, by omega, by omega, by omega, fun h => by omega⟩ hok
                    · exact e
                  obtain ⟨j, hj⟩ : ∃ j, k = j + 1 := ⟨k - 1, by omega⟩
                  obtain ⟨b2, o2, ea2, hc3, _⟩ := HT.out.cell j (by omega)
                  obtain ⟨rfl, rfl⟩ : b2 = b ∧ o2 = o := by rw [ea] at ea2; cases ea2; exact ⟨rfl, rfl⟩
                  have c3 : ∀ q, (w.drewN q).cell? ⟨b2, o2 + j * 2, none⟩ = some (.int .i64 (K j)) := fun _ => hc3
                  have g5 : decide ((0 : Int) < (k : Int)) = true := by simp; omega
                  have g6 : (k : Int) - 1 = (j : Int) := by omega
                  have g7 : decide (K k < K j) = true := by
                    by_cases c : K k < K j
                    · exact decide_eq_true c
                    · exact absurd ⟨by omega, by omega, by omega, by omega, fun _ => by rw [hj, Nat.add_sub_cancel, ← hj]; exact Int.not_lt.1 c⟩ hok
                  have g8 : (j : Int) < (n : Int) := by omega
                  clear hok hc3 ea2 hj
                  subst ea
                  go_wp2_with fail
                  go_quiet (fail)
                  go_wp2_with fail
                  go_ret
                  exact ⟨⟨false, rfl, (fun h => by cases h), fun h => absurd (h.2.2.2.2 k hlt) HNOK.out⟩, q + nq, by first | rfl | rw [World.drewN_drewN]⟩
      · obtain rfl : k = n := by omega
        have j1 : ¬ (k : Int) < (k : Int) := by omega
        subst hq
        go_wp2
        go_ret
        exact ⟨⟨true, rfl, fun _ => ⟨HBB.out.1, HBB.out.2.1, HBB.out.2.2.1, HBB.out.2.2.2, HRO.out⟩, fun _ => rfl⟩, q, rfl⟩
  · have hno : TabSays N n K L (.returned (.bool false)) := ⟨false, rfl, ⟨(fun h => by cases h), fun h => absurd ⟨h.1, h.2.1, h.2.2.1, h.2.2.2.1⟩ hb⟩⟩
    have HNO := Lib.hid hno; have HB := Lib.hid hb; clear hno hb
    by_cases h1 : N < 1
    · have g1 : decide (N < 1) = true := by simp; omega
      go_enter Tryz.func37, Tryz.ntmps37
      go_wp2
      go_ret
      exact ⟨HNO.out, 0, rfl⟩
    · have g1 : decide (N < 1) = false := by simp; omega
      by_cases h2 : 255 < N
      · have g2 : decide ((255 : Int) < N) = true := by simp; omega
        go_enter Tryz.func37, Tryz.ntmps37
        go_wp2
        go_ret
        exact ⟨HNO.out, 0, rfl⟩
      · have g2 : decide ((255 : Int) < N) = false := by simp; omega
        by_cases h3 : n < 1
        · have g3 : decide ((n : Int) < 1) = true := by simp; omega
          go_enter Tryz.func37, Tryz.ntmps37
          go_wp2
          go_ret
          exact ⟨HNO.out, 0, rfl⟩
        · have g3 : decide ((n : Int) < 1) = false := by simp; omega
          have h4 : 8 < n := by have := HB.out; omega
          have g4 : decide ((8 : Int) < (n : Int)) = true := by simp; omega
          go_enter Tryz.func37, Tryz.ntmps37
          go_wp2
          go_ret
          exact ⟨HNO.out, 0, rfl⟩
end Go.Proofs.YtjlmajopfeplpaaGreat.Ly

namespace Go.Proofs.YtjlmajopfeplpaaGreat.Ly
open Go.RowKit Go.Shelf
open Go.Proofs.YtjlmajopfeplpaaGreat.Sp (wid Bad wid_le wid_hi wid_lo width_ok width_bad grown_dr grown_t Tk heap_kp bx_past)
attribute [local go_sem] Oper.semAt_some

/-- as right goes through the rows. -/
structure RiS (N : Int) (w W : World) (v : Bool) (le : Int) : Prop where
  n : Boxed W (w.heap.size + 1) 3 (.int .i64 N)
  v : Boxed W (w.heap.size + 1 + 1) 4 (.bool v)
  l : Boxed W (w.heap.size + 1 + 1 + 1) 3 (.int .i64 le)
  be : Below w.heap.size w W
theorem RiS.kep {N : Int} {v : Bool} {le : Int} {w W W' : World} {row : Option Nat} (s : RiS N w W v le) (hg : W.grownBy W' row) (hr : ∀ r, row = some r → w.heap.size ≤ r ∧ ∃ o : Obj, W.heap[r]? = some o ∧ o.isCells = false) : RiS N w W' v le :=
  ⟨heap_kp s.n hg (fun r e => (hr r e).2), heap_kp s.v hg (fun r e => (hr r e).2), heap_kp s.l hg (fun r e => (hr r e).2), s.be.grown hg s.be.size (fun k e => (hr k e).1)⟩
theorem RiS.set {N : Int} {v v' : Bool} {le : Int} {w W : World} (s : RiS N w W v le) : RiS N w (W.setCell ⟨w.heap.size + 1 + 1, 0, none⟩ (.bool v')) v' le :=
  ⟨bx_past s.n (by omega), s.v.set _, bx_past s.l (by omega), s.be.setCell (p := ⟨w.heap.size + 1 + 1, 0, none⟩) (by simp; omega) _⟩
theorem RiS.setL {N : Int} {v : Bool} {le le' : Int} {w W : World} (s : RiS N w W v le) : RiS N w (W.setCell ⟨w.heap.size + 1 + 1 + 1, 0, none⟩ (.int .i64 le')) v le' :=
  ⟨bx_past s.n (by omega), bx_past s.v (by omega), s.l.set _, s.be.setCell (p := ⟨w.heap.size + 1 + 1 + 1, 0, none⟩) (by simp; omega) _⟩
theorem results_right {tmps : Array Value} {w : World} {p : Nat} {v : Bool} (hp : tmps.getD 4 undef = .pointer (some ⟨p, 0, none⟩)) (c1 : w.cell? ⟨p, 0, none⟩ = some (.bool v)) :
    (results Tryz.f65 tmps).run Tryz.prog w = .ok (.bool v) w := by
  rw [Array.getD_eq_getD_getElem?] at hp
  simp [results, Tryz.f65, hp, go_sem, c1]
theorem below_abc {w : World} (a b c : Obj) : Below w.heap.size w (((w.alloc a).alloc b).alloc c) := (((Below.refl _ w).alloc (Nat.le_refl _) _).alloc (by simp) _).alloc (by simp; omega) _

set_option maxRecDepth 100000 in
set_option maxHeartbeats 4000000 in
theorem right_no (n cf : Nat) (caps : Array Value) (K L : Nat → Int) (N : Int) (hb : ¬ (1 ≤ N ∧ N ≤ 255 ∧ 1 ≤ n ∧ n ≤ 8)) (w : World) :
    Calls Tryz.prog 65 #[.agg #[.int .i64 (n : Nat), .func (.func cf) #[] caps], .int .i64 N] w fun e w' => TabSays N n K L e ∧ Below w.heap.size w w' := by
  have hno : TabSays N n K L (.returned (.bool false)) := ⟨false, rfl, ⟨(fun h => by cases h), fun h => absurd ⟨h.1, h.2.1, h.2.2.1, h.2.2.2.1⟩ hb⟩⟩
  have HNO := Lib.hid hno; have HB := Lib.hid hb; clear hno hb
  have hBe := fun x => below_abc (w := w) (.cells #[.int .i64 (n : Nat), .func (.func cf) #[] caps] 100) (.cells #[.int .i64 N] 3) (.cells #[x] 4)
  have HBE := Lib.hid hBe; clear hBe
  by_cases h1 : N < 1
  · have g1 : decide (N < 1) = true := by simp; omega
    go_enter Tryz.func65, Tryz.ntmps65
    go_wp2
    exact bodyPost_ret (results_right rfl (by first | rfl | simp [go_sem])) rfl ⟨HNO.out, HBE.out _⟩
  · have g1 : decide (N < 1) = false := by simp; omega
    by_cases h2 : 255 < N
    · have g2 : decide ((255 : Int) < N) = true := by simp; omega
      go_enter Tryz.func65, Tryz.ntmps65
      go_wp2
      exact bodyPost_ret (results_right rfl (by first | rfl | simp [go_sem])) rfl ⟨HNO.out, HBE.out _⟩
    · have g2 : decide ((255 : Int) < N) = false := by simp; omega
      by_cases h3 : n < 1
      · have g3 : decide ((n : Int) < 1) = true := by simp; omega
        go_enter Tryz.func65, Tryz.ntmps65
        go_wp2
        exact bodyPost_ret (results_right rfl (by first | rfl | simp [go_sem])) rfl ⟨HNO.out, HBE.out _⟩
      · have g3 : decide ((n : Int) < 1) = false := by simp; omega
        have h4 : 8 < n := by have := HB.out; omega
        have g4 : decide ((8 : Int) < (n : Int)) = true := by simp; omega
        go_enter Tryz.func65, Tryz.ntmps65
        go_wp2
        exact bodyPost_ret (results_right rfl (by first | rfl | simp [go_sem])) rfl ⟨HNO.out, HBE.out _⟩

set_option maxRecDepth 100000 in
set_option maxHeartbeats 4000000 in
theorem right_l (n cf : Nat) (caps : Array Value) (K L : Nat → Int) (Dom : Nat → Prop) (N : Int) (w : World) (hA : AskL Dom w cf n caps K L) :
    Calls Tryz.prog 65 #[.agg #[.int .i64 (n : Nat), .func (.func cf) #[] caps], .int .i64 N] w fun e w' => TabSays N n K L e ∧ Below w.heap.size w w' := by
  by_cases hb : 1 ≤ N ∧ N ≤ 255 ∧ 1 ≤ n ∧ n ≤ 8
  case neg => exact right_no n cf caps K L N hb w
  refine (callsIn_wide (n := 6)).1 ?_
  have hW : ∀ k, Fence.wide.fn k := fun _ => trivial
  have hD : Fence.wide.depth = none := rfl
  have HA := Lib.hid hA
  clear hA
  refine callsIn_of_wp_marks Tryz.func65 rfl trivial ?_ rfl
  simp only [Tryz.ntmps65, List.size_toArray, List.length_cons, List.length_nil, Nat.reduceAdd, Nat.reduceSub, Array.replicate_succ, Array.replicate_zero, List.push_toArray, List.append_toArray, List.nil_append, List.cons_append]
  obtain ⟨h1, h2, h3, h4⟩ := hb
  have i1 : decide (N < 1) = false := by simp; omega
  have i2 : decide ((255 : Int) < N) = false := by simp; omega
  have i3 : decide ((n : Int) < 1) = false := by simp; omega
  have i4 : decide ((8 : Int) < (n : Int)) = false := by simp; omega
  gi_wp2_with (first
    | (gi_at_call 93; refine (callsIn_wide.2 (parts_l _ _ _ _)).mono ?_; rintro e w1 ⟨rfl, hw1⟩))
  clear i1 i2 i3 i4
  rw [← hw1]
  have hS1 : RiS N w w1 false 1 := by
    rw [hw1]
    have b1 := (((Boxed.new (w.alloc (.cells #[.int .i64 (n : Nat), .func (.func cf) #[] caps] 100)) 3 (.int .i64 N)).alloc (.cells #[.bool false] 4)).alloc (.cells #[.int .i64 1] 3)).alloc (.cells #[.int .i64 (n : Nat), .func (.func cf) #[] caps] 100)
    have b2 := ((Boxed.new ((w.alloc (.cells #[.int .i64 (n : Nat), .func (.func cf) #[] caps] 100)).alloc (.cells #[.int .i64 N] 3)) 4 (.bool false)).alloc (.cells #[.int .i64 1] 3)).alloc (.cells #[.int .i64 (n : Nat), .func (.func cf) #[] caps] 100)
    have b3 := (Boxed.new (((w.alloc (.cells #[.int .i64 (n : Nat), .func (.func cf) #[] caps] 100)).alloc (.cells #[.int .i64 N] 3)).alloc (.cells #[.bool false] 4)) 3 (.int .i64 1)).alloc (.cells #[.int .i64 (n : Nat), .func (.func cf) #[] caps] 100)
    exact ⟨by simpa using b1, by simpa using b2, by simpa using b3, ((below_abc _ _ _).alloc (by simp; omega) _).alloc (by simp; omega) _⟩
  have hG1 : Gl (w.heap.size + 1 + 1 + 1 + 1) cf n caps Dom w w1 := by
    refine ⟨?_, HA.out.agr hS1.be, hS1.be.size⟩
    rw [hw1]
    have := heap_alloc_new ((((w.alloc (.cells #[.int .i64 (n : Nat), .func (.func cf) #[] caps] 100)).alloc (.cells #[.int .i64 N] 3)).alloc (.cells #[.bool false] 4)).alloc (.cells #[.int .i64 1] 3)) (.cells #[.int .i64 (n : Nat), .func (.func cf) #[] caps] 100)
    simpa using this
  have hs1 : w.heap.size + 1 + 1 + 1 + 1 < w1.heap.size := hG1.lt
  have HS1 := Lib.hid hS1; have HG1 := Lib.hid hG1
  have hz1 := hS1.be.size
  clear hw1 hS1 hG1
  refine' wpIn_rangeFunc_ownH rfl (by omega) (gf := 110) (lb := #[.pointer (some ⟨w.heap.size + 1 + 1 + 1 + 1, 0, none⟩)]) rfl trivial (enters_of Tryz.func110 (by kernel_rfl) rfl)
    (parts_stops _ (w.heap.size + 1 + 1 + 1 + 1) cf n caps K L Dom w HA.out h4 _ HG1.out) kpL_t (kpL_b HA.out hz1) (Below.refl _ _) (fun _ => rfl)
    (fun pre W => w1.heap.size ≤ W.heap.size ∧ ∃ le, RiS N w W false le ∧ ∀ k, pre.map Tk.i = List.range k → le = lst K k ∧ ∀ i, i < k → RowOk N K L i)
    (fun cc pre W => cc = .ret ∧ ∃ le, RiS N w W false le ∧ ∀ k, pre.map Tk.i = List.range k → ∃ i, i < n ∧ ¬ RowOk N K L i)
    (fun s X Y row h hg hr => by
      obtain ⟨h0, v, hs, hv⟩ := h
      exact ⟨Nat.le_trans h0 hg.size, v, hs.kep hg (fun r e => ⟨by have := (hr r e).1; omega, (hr r e).2⟩), hv⟩)
    (fun c s X Y row h hg hr => by
      obtain ⟨h0, v, hs, hv⟩ := h
      exact ⟨h0, v, hs.kep hg (fun r e => ⟨by have := (hr r e).1; omega, (hr r e).2⟩), hv⟩)
    ⟨Nat.le_refl _, 1, HS1.out, fun k hk => by rw [rng_nil hk]; exact ⟨rfl, fun i hi => absurd hi (Nat.not_lt_zero i)⟩⟩
    (fun x a' W' => ∃ p, w1.heap.size ≤ p ∧ a' = ⟨#[.agg #[.int .i64 (n : Nat), .func (.func cf) #[] caps], .int .i64 N, .pointer (some ⟨w.heap.size, 0, none⟩), .pointer (some ⟨w.heap.size + 1, 0, none⟩), .pointer (some ⟨w.heap.size + 1 + 1, 0, none⟩), .pointer (some ⟨w.heap.size + 1 + 1 + 1, 0, none⟩), undef, .pointer (some ⟨p, 0, none⟩), .int .i64 N, .bool false, .bool false, .int .i64 N, .bool false, .bool false, .bool false, .pointer (some ⟨w.heap.size, 0, none⟩), .int .i64 (n : Nat), .bool false, .bool false, .bool false, .pointer (some ⟨w.heap.size, 0, none⟩), .int .i64 (n : Nat), .bool false, .bool false, .agg #[.int .i64 (n : Nat), .func (.func cf) #[] caps], .func (.func 110) #[] #[.pointer (some ⟨w.heap.size + 1 + 1 + 1 + 1, 0, none⟩)], .int .i64 (x.i : Nat), partV (K x.i) (L x.i) (off K L x.i) (off K L (x.i + 1)), undef, undef, undef, undef, undef, undef, undef, undef, undef, undef, undef, undef, undef, undef, undef, undef, undef, undef, undef, undef, undef, undef, undef, undef, undef, undef, undef], []⟩ ∧ PartAt W' p K L x.i)
    (fun x a' _ X Y row h hg hr => by obtain ⟨p, h0, h1, h2⟩ := h; exact ⟨p, h0, h1, h2.kept hg (fun r e => (hr r e).2)⟩)
    ?assign ?body ?done ?stop
  case assign =>
    rintro q pre x W KK ⟨hz, le, hs, hv⟩ hK
    have hB := (Below.refl W.heap.size W).alloc (Nat.le_refl _) (.cells #[.int .i64 (K x.i), .int .i64 (L x.i), .int .i64 (off K L x.i : Nat), .int .i64 (off K L (x.i + 1) : Nat)] 129)
    have hR := hK _ _ ((KeepsOthers.alloc W (.cells #[.int .i64 (K x.i), .int .i64 (L x.i), .int .i64 (off K L x.i : Nat), .int .i64 (off K L (x.i + 1) : Nat)] 129)).from _) (fun g => g.same HA.out hB) ⟨Nat.le_trans hz hB.size, le, hs.kep (below_grown hB none) (fun r e => by cases e), hv⟩ ⟨W.heap.size, hz, rfl, heap_alloc_new W _⟩
    unfold encL
    unfold partV at hR ⊢
    gi_wp2
    exact hR
  case body =>
    rintro q pre x a' W hq _ ⟨hz, le, hs, hv⟩ ⟨p, hp, rfl, hpa⟩ hlen
    have c1 : W.cell? ⟨p, 0, none⟩ = some (.int .i64 (K x.i)) := by rw [cell_of_row W p 0 _ _ _ hpa]; rfl
    have c2 : W.cell? ⟨p, 1, none⟩ = some (.int .i64 (L x.i)) := by rw [cell_of_row W p 1 _ _ _ hpa]; rfl
    have d0 := hs.n.cell; have d2 := hs.l.cell; have f2 := hs.l.frozen
    have d1 := hs.v.cell; have f1 := hs.v.frozen
    have HV := Lib.hid hv
    have HZ := Lib.hid hz
    have HS := Lib.hid hs
    clear hpa hv hz hs
    by_cases hok : le ≤ K x.i ∧ K x.i ≤ N ∧ 0 ≤ L x.i ∧ L x.i ≤ 65535
    · have g1 : decide (K x.i < le) = false := by simp; omega
      have g2 : decide (N < K x.i) = false := by simp; omega
      have g3 : decide (L x.i < 0) = false := by simp; omega
      have g4 : decide ((65535 : Int) < L x.i) = false := by simp; omega
      have HOK := Lib.hid hok; clear hok
      gi_wp2
      refine ⟨(KeepsOthers.setCell _ _ _).from _, kpL_set HA.out ⟨w.heap.size + 1 + 1 + 1, 0, none⟩ _ (by simp) (fun h => absurd (HA.out.lt _ h) (by simp; omega)), by simpa using HZ.out, K x.i, HS.out.setL, fun k hk => ?_⟩
      obtain ⟨k2, rfl, h2, e⟩ := rng_snoc hk
      obtain ⟨hle, hro⟩ := HV.out k2 h2
      have hok := HOK.out
      rw [e, hle] at hok
      rw [e]
      refine ⟨rfl, fun i hi => ?_⟩
      by_cases e2 : i = k2
      · rw [e2]; exact (row_lst hro).2 hok
      · exact hro i (by omega)
    · have hno : ∀ k, (pre ++ [x]).map Tk.i = List.range k → ∃ i, i < n ∧ ¬ RowOk N K L i := fun k hk => by
        obtain ⟨k2, rfl, h2, e⟩ := rng_snoc hk
        obtain ⟨hle, hro⟩ := HV.out k2 h2
        refine ⟨k2, by have := x.hi; omega, fun h => hok ?_⟩
        rw [e, hle]
        exact (row_lst hro).1 h
      have HNO := Lib.hid hno; clear hno
      by_cases c1 : K x.i < le
      · have g1 : decide (K x.i < le) = true := by simp; omega
        clear hok
        gi_wp2
        first | exact ⟨(KeepsOthers.setCell _ _ _).from _, rfl, ⟨le, HS.out.set⟩, HNO.out⟩ | exact ⟨(KeepsOthers.setCell _ _ _).from _, rfl, le, HS.out.set, HNO.out⟩
      · have g1 : decide (K x.i < le) = false := by simp; omega
        by_cases c2 : N < K x.i
        · have g2 : decide (N < K x.i) = true := by simp; omega
          clear hok
          gi_wp2
          first | exact ⟨(KeepsOthers.setCell _ _ _).from _, rfl, ⟨le, HS.out.set⟩, HNO.out⟩ | exact ⟨(KeepsOthers.setCell _ _ _).from _, rfl, le, HS.out.set, HNO.out⟩
        · have g2 : decide (N < K x.i) = false := by simp; omega
          by_cases c3 : L x.i < 0
          · have g3 : decide (L x.i < 0) = true := by simp; omega
            clear hok
            gi_wp2
            first | exact ⟨(KeepsOthers.setCell _ _ _).from _, rfl, ⟨le, HS.out.set⟩, HNO.out⟩ | exact ⟨(KeepsOthers.setCell _ _ _).from _, rfl, le, HS.out.set, HNO.out⟩
          · have g3 : decide (L x.i < 0) = false := by simp; omega
            have g4 : decide ((65535 : Int) < L x.i) = true := by simp; omega
            clear hok
            gi_wp2
            first | exact ⟨(KeepsOthers.setCell _ _ _).from _, rfl, ⟨le, HS.out.set⟩, HNO.out⟩ | exact ⟨(KeepsOthers.setCell _ _ _).from _, rfl, le, HS.out.set, HNO.out⟩
  case done =>
    rintro D ys W hD hys ⟨hz, le, hs, hv⟩ hK
    have hT : TabOk N n K L := ⟨h1, h2, h3, h4, (hv n hys).2⟩
    have d1 := hs.v.cell; have f1 := hs.v.frozen
    have HT := Lib.hid hT; have HS := Lib.hid hs
    clear hT hs hv hys
    gi_wp2
    have hK' := (KeepsOthers.setCell W ⟨w.heap.size + 1 + 1, 0, none⟩ (.bool true)).same D _ hK rfl
    refine ⟨by simp, .inl ⟨_, _, rfl, run_takeDeferred hK', ?_⟩⟩
    have hF := (HS.out.set (v' := true)).kep (grownBy_putObj' _ D (.deferred none)) (fun k e => by cases e; exact ⟨by omega, _, hK', rfl⟩)
    exact ⟨_, results_right rfl hF.v.cell, ⟨true, rfl, fun _ => HT.out, fun _ => rfl⟩, hF.be⟩
  case stop =>
    rintro D cc pre W hD ⟨k, hk, hp⟩ ⟨rfl, le, hs, hr⟩ hK
    have HR := Lib.hid (hr k hp); have HS := Lib.hid hs
    clear hr hs hp
    gi_wp2
    refine ⟨by simp, .inl ⟨_, _, rfl, run_takeDeferred hK, ?_⟩⟩
    have hF := HS.out.kep (grownBy_putObj' _ D (.deferred none)) (fun k e => by cases e; exact ⟨by omega, _, hK, rfl⟩)
    refine ⟨_, results_right rfl hF.v.cell, ⟨false, rfl, (fun h => by cases h), fun h => ?_⟩, hF.be⟩
    obtain ⟨i, hi, hn⟩ := HR.out
    exact absurd (h.2.2.2.2 i hi) hn
end Go.Proofs.YtjlmajopfeplpaaGreat.Ly

namespace Go.Proofs.YtjlmajopfeplpaaGreat.Ly
open Go.RowKit Go.Shelf
open Go.Proofs.YtjlmajopfeplpaaGreat.Sp (Bad wid)
attribute [local go_sem] Oper.semAt_some

/-! the calls of lay that tell of a table -/
set_option maxHeartbeats 1000000 in
theorem lRight_any (N : Int) (a : Option Addr) (n cap : Nat) (K L : Nat → Int) (w : World) (hT : Tb w a n K L) :
    Calls Tryz.prog 36 #[.int .i64 N, .slice a n cap] w fun e w' => TabSays N n K L e ∧ Below w.heap.size w w' := by
  have HT := Lib.hid hT; clear hT
  go_enter Tryz.func36, Tryz.ntmps36
  go_wp2_with fail
  refine (of_l a n cap _).mono ?_
  rintro e w1 ⟨rfl, hB1, hb1⟩
  have hA := ask_of w.heap.size w w1 w.heap.size a n cap K L rfl hB1 hb1 HT.out
  have HA := Lib.hid hA; have HB1 := Lib.hid hB1
  clear hA hB1 hb1
  go_wp2_with fail
  refine (right_l n _ _ K L _ N _ HA.out).mono ?_
  rintro e w2 ⟨⟨v, rfl, hv⟩, hB2⟩
  have HV := Lib.hid hv; have HB2 := Lib.hid (HB1.out.trans (hB2.mono HB1.out.size))
  clear hv hB2
  go_wp2
  go_ret
  exact ⟨⟨v, rfl, HV.out⟩, HB2.out⟩
/-- a number, or an error. -/
def NumSays (N : Int) (n : Nat) (K L : Nat → Int) (P : Nat → Prop) (e : Ending) : Prop := (¬ TabOk N n K L ∧ e = .returned (.tuple #[.int .i64 0, .int .i64 2])) ∨ (TabOk N n K L ∧ ∃ m : Nat, P m ∧ e = .returned (.tuple #[.int .i64 (m : Nat), .int .i64 0]))
set_option maxHeartbeats 1000000 in
theorem lLong_any (N : Int) (a : Option Addr) (n cap : Nat) (K L : Nat → Int) (w : World) (hT : Tb w a n K L) :
    Calls Tryz.prog 55 #[.int .i64 N, .slice a n cap] w fun e w' => NumSays N n K L (fun m => m = off K L n) e ∧ Below w.heap.size w w' := by
  have HT := Lib.hid hT; clear hT
  go_enter Tryz.func55, Tryz.ntmps55
  go_wp2_with fail
  refine (lRight_any N a n cap K L _ HT.out).mono ?_
  rintro e w1 ⟨⟨v, rfl, hv⟩, hB1⟩
  have HV := Lib.hid hv; have HB1 := Lib.hid hB1; clear hv hB1
  cases v
  · go_wp2
    go_ret2
    exact ⟨Or.inl ⟨fun h => absurd (HV.out.2 h) (by simp), rfl⟩, HB1.out⟩
  · have ht := HV.out.1 rfl
    have hn8 := ht.2.2.2.1
    have HTO := Lib.hid ht; clear ht
    go_wp2_with fail
    refine (of_l a n cap _).mono ?_
    rintro e w2 ⟨rfl, hB2, hb2⟩
    have hA := ask_of w1.heap.size w1 w2 w1.heap.size a n cap K L rfl hB2 hb2 (HT.out.same HB1.out)
    have HA := Lib.hid hA; have HB2 := Lib.hid (HB1.out.trans (hB2.mono HB1.out.size))
    clear hA hB2 hb2
    go_wp2_with fail
    refine (long_l n _ _ K L _ hn8 _ HA.out).mono ?_
    rintro e w3 ⟨rfl, hB3⟩
    have HB3 := Lib.hid (HB2.out.trans (hB3.mono HB2.out.size)); clear hB3
    go_wp2
    go_ret2
    exact ⟨Or.inr ⟨HTO.out, _, rfl, rfl⟩, HB3.out⟩
end Go.Proofs.YtjlmajopfeplpaaGreat.Ly

namespace Go.Proofs.YtjlmajopfeplpaaGreat.Ly
open Go.RowKit Go.Shelf

theorem rdy_ex' (n : Nat) (K : Nat → Int) (came : Int) : ∃ mm, RdyN n K came mm := by
  induction n with
  | zero => exact ⟨0, Nat.le_refl _, fun i hi => absurd hi (Nat.not_lt_zero i), fun h => absurd h (Nat.lt_irrefl _)⟩
  | succ n ih =>
    obtain ⟨mm, h1, h2, h3⟩ := ih
    by_cases c : mm < n
    · exact ⟨mm, by omega, h2, fun _ => h3 c⟩
    · obtain rfl : mm = n := by omega
      by_cases c2 : K mm ≤ came
      · exact ⟨mm + 1, Nat.le_refl _, fun i hi => (by
          by_cases e : i = mm
          · rw [e]; exact c2
          · exact h2 i (by omega)), fun h => absurd h (Nat.lt_irrefl _)⟩
      · exact ⟨mm, by omega, h2, fun _ => by omega⟩
theorem tab_mono' {N : Int} {n : Nat} {K L : Nat → Int} (h : TabOk N n K L) {i : Nat} : ∀ j, i ≤ j → j < n → K i ≤ K j
  | 0, h1, _ => by obtain rfl : i = 0 := by omega
                   exact Int.le_refl _
  | j + 1, h1, h2 => by
    by_cases e : i = j + 1
    · rw [e]; exact Int.le_refl _
    · have h3 := tab_mono' h (i := i) j (by omega) (by omega)
      have h4 := (h.2.2.2.2 (j + 1) h2).2.2.2.2 (by omega)
      rw [Nat.add_sub_cancel] at h4
      omega
theorem rdy_iff' {N : Int} {n : Nat} {K L : Nat → Int} {came : Int} {mm : Nat} (h : TabOk N n K L) (hr : RdyN n K came mm) {i : Nat} (hi : i < n) : K i ≤ came ↔ i < mm := by
  constructor
  · intro hk
    rcases Nat.lt_or_ge i mm with c | c
    · exact c
    · have h1 := hr.2.2 (Nat.lt_of_le_of_lt c hi)
      have h2 := tab_mono' h i c hi
      omega
  · exact hr.2.1 i
set_option maxHeartbeats 2000000 in
set_option maxRecDepth 100000 in
theorem rLong_any (N : Int) (a : Option Addr) (n cap : Nat) (K L : Nat → Int) (w : World) (hT : Tb w a n K L) :
    Calls Tryz.prog 22 #[.int .i64 N, .slice a n cap] w fun e w' => NumSays N n K L (fun m => m = off K L n) e ∧ Below w.heap.size w w' := by
  have HT := Lib.hid hT; clear hT
  go_enter Tryz.func22, Tryz.ntmps22
  go_wp2_with fail
  refine (rRight_any N a n cap K L _ HT.out).mono ?_
  rintro e w1 ⟨⟨v, rfl, hv⟩, q1, hq1⟩
  have HB1 := Lib.hid (show Below w.heap.size w w1 from by rw [hq1]; exact below_dr (Below.refl _ w) q1)
  have HV := Lib.hid hv; clear hv hq1
  cases v
  · go_wp2
    go_ret2
    exact ⟨Or.inl ⟨fun h => absurd (HV.out.2 h) (by simp), rfl⟩, HB1.out⟩
  · have ht := HV.out.1 rfl
    have hn8 := ht.2.2.2.1
    have HTO := Lib.hid ht; clear ht
    go_wp2_with fail
    go_loopw [6, 7] (fun lo i wr => ∃ k : Nat, k ≤ n ∧ i = .int .i64 (k : Nat) ∧ lo = .int .i64 (off K L k : Nat) ∧ Below w.heap.size w wr) (fun _ i _ => n - (intOf i).toNat)
    case atStart => exact ⟨0, by omega, rfl, rfl, HB1.out⟩
    case round =>
      obtain ⟨k, hk, rfl, rfl, hB⟩ := hrel
      have HB := Lib.hid hB
      by_cases hlt : k < n
      · have i1 : (k : Int) < (n : Int) := by omega
        obtain ⟨b, o, ea, c1, c2⟩ := (HT.out.same hB).cell k hlt
        have EA := Lib.hid ea
        have hof : ((off K L k : Nat) : Int) + ((widI (L k) (K k) : Nat) : Int) = ((off K L (k + 1) : Nat) : Int) := by show _ = ((off K L k + widI (L k) (K k) : Nat) : Int); omega
        have HOF := Lib.hid hof
        have h1 := off_le K L k
        have h2 := widI_le (L k) (K k)
        have HRW := Lib.hid (rwid_any (K k) (L k) wr)
        clear hB hof
        subst ea
        go_wp2_with fail
        refine HRW.out.mono ?_
        rintro e w2 ⟨rfl, hB2⟩
        have HB2 := Lib.hid (HB.out.trans (hB2.mono HB.out.size)); clear hB2
        go_wp2
        go_roundw
        case rel => exact ⟨k + 1, by omega, by go_num, by rw [HOF.out], HB2.out⟩
        case measure => simp [intOf]; omega
      · obtain rfl : k = n := by omega
        have i1 : ¬ (k : Int) < (k : Int) := by omega
        go_wp2
        go_ret2
        exact ⟨Or.inr ⟨HTO.out, _, rfl, rfl⟩, HB.out⟩
end Go.Proofs.YtjlmajopfeplpaaGreat.Ly

namespace Go.Proofs.YtjlmajopfeplpaaGreat.Ly
open Go.RowKit Go.Shelf

section
variable {Pg : Program}
/-- an append, as one step of a region. -/
theorem step_apd {ops : Array Oper} {o : Oper} {act : Act} {w : World} {K : Act → World → Prop} {Q : Exit → Act → World → Prop} {E : Prop} (hgd : o.guard = none) (s x : Operand) (t : TypeId)
    (ho : o.op = .call { callee := .builtin .append, args := #[s, x], argTypes := #[t, t] })
    (base : Nat) (e : TypeId) (i : TypeInfo) (z : Value) (size bytes : Nat) (ht : Pg.underlying t = some (.slice e)) (hi : Pg.info? e = some i) (hz : i.zero = some z)
    (hsize : i.size = size) (hby : i.bytes = bytes) (hzs : z.cells.size = size) (hsz : 0 < size)
    (v : Value) (n : Nat) (xs : List Value) (hs : act.eval s = v) (hown : w.ownsRow base e size v n xs)
    (ad : Addr) (m c : Nat) (news : List Value) (hx : act.eval x = .slice (some ad) m c) (hl : news.length = m * size) (hnews : ∀ j u, news[j]? = some u → w.cell? (ad.add j) = some u) (h1 : ∀ u ∈ news, u.oneCell' = true)
    (h63 : n + m ≤ maxLen) (hbytes : (n + m) * bytes ≤ 140737488355328) (hbase : base ≤ w.heap.size)
    (h : ∀ v' w', w'.ownsRow base e size v' (n + m) (xs ++ news) → w.grownBy w' v.ownBlock → K (act.put o.dst v') w') :
    if Region.wanted o (yielded ops act.tmps) = true then Oper.wp Pg o act w K Q else E := by
  have hw : Region.wanted o (yielded ops act.tmps) = true := by simp [Region.wanted, hgd]
  rw [if_pos hw]
  exact wp_append_own w s x t ho base e i z size bytes ht hi hz hsize hby hzs hsz v n xs hs hown ad m c news hx hl hnews h1 h63 hbytes hbase fun v' w' h2 h3 _ => h v' w' h2 h3
end
theorem cell_new2 (w : World) (u v : Value) (t : TypeId) : ∀ j x, [u, v][j]? = some x → (w.alloc (.cells #[u, v] t)).cell? ((⟨w.heap.size, 0, none⟩ : Addr).add j) = some x := by
  intro j x hx
  have hj : j < 2 := by
    have := (List.getElem?_eq_some_iff.1 hx).1
    simpa using this
  rw [Addr.add_lit, World.cell?_alloc_new]
  rw [← hx]
  rcases (show j = 0 ∨ j = 1 by omega) with rfl | rfl <;> rfl
/-- rows of a table, put into a list. -/
def tdl (K L : Nat → Int) : Nat → List Value
  | 0 => []
  | t + 1 => tdl K L t ++ [.int .i64 (K t), .int .i64 (L t)]
theorem tdl_len (K L : Nat → Int) : ∀ t, (tdl K L t).length = t * 2
  | 0 => rfl
  | t + 1 => by unfold tdl; rw [List.length_append, tdl_len K L t]; simp; omega
theorem tdl_at (K L : Nat → Int) : ∀ t i, i < t → (tdl K L t)[i * 2]? = some (.int .i64 (K i)) ∧ (tdl K L t)[i * 2 + 1]? = some (.int .i64 (L i))
  | 0, i, h => absurd h (Nat.not_lt_zero i)
  | t + 1, i, h => by
    unfold tdl
    have hl := tdl_len K L t
    by_cases e : i = t
    · subst e
      rw [List.getElem?_append_right (by omega), List.getElem?_append_right (by omega), hl, Nat.sub_self, Nat.add_sub_cancel_left]
      exact ⟨rfl, rfl⟩
    · rw [List.getElem?_append_left (by omega), List.getElem?_append_left (by omega)]
      exact tdl_at K L t i (by omega)
theorem tdl_tb {w : World} {B t c : Nat} {a : Option Addr} {K L : Nat → Int} (ho : w.ownsRow B 24 2 (.slice a t c) t (tdl K L t)) : Tb w a t K L ∧ t ≤ c := by
  obtain ⟨_, ⟨e, h0⟩ | ⟨g, cap', cur, e, hg, hh, hnc, hcm, hs, ht⟩⟩ := ho
  · cases e
    exact ⟨⟨fun i hi => absurd hi (Nat.not_lt_zero i)⟩, Nat.le_refl _⟩
  · simp only [Value.slice.injEq, true_and] at e
    obtain ⟨rfl, rfl⟩ := e
    have hat : ∀ j, j < t * 2 → cur[j]? = (tdl K L t)[j]? := fun j hj => by
      rw [← ht, List.getElem?_take, if_pos hj, Array.getElem?_toList]
    refine ⟨⟨fun i hi => ?_⟩, hnc⟩
    obtain ⟨h1, h2⟩ := tdl_at K L t i hi
    refine ⟨g, 0, rfl, ?_, ?_⟩
    · rw [Nat.zero_add, cell_of_row w g _ cur _ _ hh, hat _ (by omega)]; exact h1
    · rw [Nat.zero_add, cell_of_row w g _ cur _ _ hh, hat _ (by omega)]; exact h2
theorem Tryz.infoTRow : (Tryz.prog.info? 24).map (fun i => (i.zero, i.size, i.bytes)) = some (some (.agg #[.int .i64 0, .int .i64 0]), 2, 16) := by kernel_rfl
theorem int_ones (x y : Int) : ∀ u ∈ [Value.int .i64 x, Value.int .i64 y], u.oneCell' = true := by
  intro u hu
  rcases List.mem_cons.1 hu with rfl | hu
  · rfl
  · rcases List.mem_singleton.1 hu with rfl; rfl
theorem hdl_cap {w : World} {B t c n : Nat} {e : TypeId} {z : Nat} {a : Option Addr} {xs : List Value} (ho : w.ownsRow B e z (.slice a t c) n xs) : t ≤ c ∧ c ≤ maxLen := by
  obtain ⟨_, ⟨e, h0⟩ | ⟨g, cap', cur, e, hg, hh, hnc, hcm, hs, ht⟩⟩ := ho
  · cases e; exact ⟨Nat.le_refl _, Nat.zero_le _⟩
  · simp only [Value.slice.injEq] at e
    obtain ⟨e1, e2, e3⟩ := e
    subst e3
    exact ⟨by omega, hcm⟩
theorem tab_mono {N : Int} {n : Nat} {K L : Nat → Int} (h : TabOk N n K L) {i : Nat} : ∀ j, i ≤ j → j < n → K i ≤ K j
  | 0, h1, _ => by obtain rfl : i = 0 := by omega
                   exact Int.le_refl _
  | j + 1, h1, h2 => by
    by_cases e : i = j + 1
    · rw [e]; exact Int.le_refl _
    · have h3 := tab_mono h (i := i) j (by omega) (by omega)
      have h4 := (h.2.2.2.2 (j + 1) h2).2.2.2.2 (by omega)
      rw [Nat.add_sub_cancel] at h4
      omega
theorem rdy_iff {N : Int} {n : Nat} {K L : Nat → Int} {came : Int} {mm : Nat} (h : TabOk N n K L) (hr : RdyN n K came mm) {i : Nat} (hi : i < n) : K i ≤ came ↔ i < mm := by
  constructor
  · intro hk
    rcases Nat.lt_or_ge i mm with c | c
    · exact c
    · have h1 := hr.2.2 (Nat.lt_of_le_of_lt c hi)
      have h2 := tab_mono h i c hi
      omega
  · exact hr.2.1 i
end Go.Proofs.YtjlmajopfeplpaaGreat.Ly

namespace Go.Proofs.YtjlmajopfeplpaaGreat.Ly
open Go.RowKit Go.Shelf

/-- a row that marks. -/
def mkT (i : Nat) : Int := 8000024 + (i : Int)
theorem markT_any (i : Int) (hi0 : 0 ≤ i) (hi : i ≤ 1000000000000) (w : World) :
    Calls Tryz.prog 53 #[.int .i64 1, .int .i64 i] w fun e w' => e = .returned (.agg #[.int .i64 (8000024 + i), .int .i64 0]) ∧ Below w.heap.size w w' := by
  have hB := (Below.refl w.heap.size w).alloc (Nat.le_refl _) (.cells #[.int .i64 (8000024 + i), .int .i64 0] 24)
  have HB := Lib.hid hB; clear hB
  go_enter Tryz.func53, Tryz.ntmps53
  go_wp2_with fail
  refine (mark_any 1 i (by omega) (by omega) hi0 hi _).mono ?_
  rintro e w' ⟨rfl, hw'⟩
  rw [hw']; clear hw'
  have e8 : (1000003 * (1 + 7) + i : Int) = 8000024 + i := by omega
  rw [e8]
  go_wp2
  exact bodyPost_ret (results_cell_row rfl _ _ w.heap.size _ _ (0, 0) _ rfl (heap_alloc_new w _) Tryz.underlying24 rfl (by kernel_rfl)) rfl ⟨rfl, HB.out⟩
def tK (K : Nat → Int) (n i : Nat) : Int := if i < n then K i else mkT (i - n)
def tL (L : Nat → Int) (n i : Nat) : Int := if i < n then L i else 0
theorem tdl_congr {K K' L L' : Nat → Int} : ∀ t, (∀ i, i < t → K i = K' i ∧ L i = L' i) → tdl K L t = tdl K' L' t
  | 0, _ => rfl
  | t + 1, h => by
    unfold tdl
    rw [tdl_congr t (fun i hi => h i (by omega)), (h t (by omega)).1, (h t (by omega)).2]
theorem tdl_ones (K L : Nat → Int) : ∀ t, ∀ u ∈ tdl K L t, u.oneCell' = true
  | 0, u, h => by cases h
  | t + 1, u, h => by
    unfold tdl at h
    rcases List.mem_append.1 h with h | h
    · exact tdl_ones K L t u h
    · exact int_ones _ _ u h
theorem tb_news {w : World} {a : Option Addr} {n : Nat} {K L : Nat → Int} (hT : Tb w a n K L) : ∀ ad, a = some ad → ∀ j u, (tdl K L n)[j]? = some u → w.cell? (ad.add j) = some u := fun ad e j u hj => by
  have hjn : j < n * 2 := by have := (List.getElem?_eq_some_iff.1 hj).1; rwa [tdl_len] at this
  obtain ⟨b, o, ea, h1, h2⟩ := hT.cell (j / 2) (by omega)
  obtain ⟨t1, t2⟩ := tdl_at K L n (j / 2) (by omega)
  rw [e] at ea
  cases ea
  rw [Lib.add_plain8]
  rcases Nat.mod_two_eq_zero_or_one j with hm | hm
  · have ej : j / 2 * 2 = j := by omega
    rw [ej] at t1 h1
    rw [hj] at t1
    cases t1; exact h1
  · have ej : j / 2 * 2 + 1 = j := by omega
    rw [Nat.add_assoc, ej] at h2
    rw [ej, hj] at t2
    cases t2; exact h2
set_option maxHeartbeats 2000000 in
set_option maxRecDepth 100000 in
theorem lentTable_any (a : Option Addr) (n cap : Nat) (K L : Nat → Int) (w : World) (hT : Tb w a n K L) (hnil : a = none → n = 0 ∧ cap = 0) (hl : n ≤ 1000000) :
    Calls Tryz.prog 28 #[.slice a n cap] w fun e w' =>
      e = .returned (.slice (some ⟨w.heap.size, 0, none⟩) n (n + 12)) ∧ Tb w' (some ⟨w.heap.size, 0, none⟩) (n + 12) (tK K n) (tL L n) ∧ Below w.heap.size w w' := by
  obtain ⟨i0, hi, hz0, hz1, hz2⟩ := info_parts Tryz.infoTRow
  have HT := Lib.hid hT; have HN := Lib.hid hnil; clear hT hnil
  have HI := Lib.hid hi; have HZ0 := Lib.hid hz0; have HZ1 := Lib.hid hz1; have HZ2 := Lib.hid hz2
  clear hi hz0 hz1 hz2
  go_enter Tryz.func28, Tryz.ntmps28
  go_wp2_with (first
    | (at_make; refine wpList_make_own _ rfl _ _ _ rfl w.heap.size 24 i0 (.agg #[.int .i64 0, .int .i64 0]) 2 Tryz.underlying25 HI.out HZ0.out HZ1.out .i64 .i64 _ (n + 12) rfl rfl (by omega) (by rw [HZ2.out]; omega) (by unfold maxLen; omega) (Nat.le_refl _) ?_; intro w1 hown1 hgrow1; have HO1 := Lib.hid hown1; have HB1 := Lib.hid ((Below.refl w.heap.size w).grown hgrow1 (Nat.le_refl _) (by simp)); clear hown1 hgrow1)
    | (at_builtin; refine wpList_append_fits_any _ rfl _ _ _ rfl w.heap.size 24 i0 2 Tryz.underlying25 HI.out HZ1.out w.heap.size 0 (n + 12) [] rfl HO1.out a n cap (tdl K L n) rfl (tdl_len K L n) HN.out (tb_news (HT.out.same HB1.out)) (tdl_ones K L n) (by omega) ?_; intro w2 hown2 hgrow2; rw [Nat.zero_add, List.nil_append] at hown2; have HO2 := Lib.hid hown2; have HB2 := Lib.hid (HB1.out.grown hgrow2 HB1.out.size (by intro k hk; cases hk; exact Nat.le_refl _)); clear hown2 hgrow2))
  clear HO1 HB1
  go_loopw [3, 4] (fun o i wr => ∃ (k : Nat) (W : World), W = wr ∧ k ≤ 12 ∧ i = .int .i64 k ∧ o = .slice (some ⟨w.heap.size, 0, none⟩) (n + k) (n + 12) ∧ wr.ownsRow w.heap.size 24 2 (.slice (some ⟨w.heap.size, 0, none⟩) (n + k) (n + 12)) (n + k) (tdl (tK K n) (tL L n) (n + k)) ∧ Below w.heap.size w wr) (fun _ i _ => 12 - (intOf i).toNat)
  case atStart => exact ⟨0, _, rfl, by omega, rfl, by simp, by rw [Nat.add_zero, tdl_congr (K := tK K n) (K' := K) (L := tL L n) (L' := L) n (fun i hi => ⟨if_pos hi, if_pos hi⟩)]; exact HO2.out, HB2.out⟩
  case round =>
    obtain ⟨k, wx, rfl, hk, rfl, rfl, hO, hB⟩ := hrel
    have HO := Lib.hid hO; have HB := Lib.hid hB; clear hO hB
    by_cases hlt : k < 12
    · have hge := HB.out.size
      go_wp2_with (first
        | (go_at_call 53; refine (markT_any (k : Int) (by omega) (by omega) _).mono ?_; rintro e w3 ⟨rfl, hB3⟩; have HB3 := Lib.hid hB3; clear hB3)
        | (at_builtin; refine wpList_append_fits _ rfl _ _ _ rfl w.heap.size 24 i0 2 Tryz.underlying25 HI.out HZ1.out w.heap.size (n + k) (n + 12) _ rfl ((own_below HO.out HB3.out).alloc _) _ 1 1 [.int .i64 (8000024 + (k : Int)), .int .i64 0] rfl rfl (cell_new2 _ _ _ _) (int_ones _ _) (by omega) ?_; intro w4 hown4 hgrow4; have hown4 : w4.ownsRow w.heap.size 24 2 _ _ (tdl (tK K n) (tL L n) (n + k + 1)) := (by
              have e1 : tK K n (n + k) = 8000024 + (k : Int) := by unfold tK mkT; rw [if_neg (by omega)]; omega
              have e2 : tL L n (n + k) = 0 := if_neg (by omega)
              unfold tdl; rw [e1, e2]; exact hown4); have HO4 := Lib.hid hown4; have HB4 := Lib.hid ((HB.out.trans (HB3.out.mono hge)).alloc (Nat.le_trans hge HB3.out.size) _ |>.grown hgrow4 (by have := HB3.out.size; simp; omega) (by intro k hk; cases hk; exact Nat.le_refl _)); clear hown4 hgrow4))
      go_roundw
      case rel => exact ⟨k + 1, _, rfl, by omega, by go_num, rfl, HO4.out, HB4.out⟩
      case measure => simp [intOf]; omega
    · obtain rfl : k = 12 := by omega
      go_wp2
      go_ret
      exact ⟨rfl, (tdl_tb HO.out).1, HB.out⟩
end Go.Proofs.YtjlmajopfeplpaaGreat.Ly

namespace Go.Proofs.YtjlmajopfeplpaaGreat.Ly
open Go.RowKit Go.Shelf

set_option maxHeartbeats 2000000 in
set_option maxRecDepth 100000 in
theorem keptTable_any (g : Nat) (a : Option Addr) (n cap : Nat) (K L : Nat → Int) (w : World) (hT : Tb w a n K L) (_hcap : n ≤ cap) (hG : Tb w (some ⟨g, 0, none⟩) (n + 12) (tK K n) (tL L n)) (hl : n ≤ 1000000) :
    Calls Tryz.prog 39 #[.slice (some ⟨g, 0, none⟩) n (n + 12), .slice a n cap] w fun e w' => e = .returned (.bool true) ∧ Below w.heap.size w w' := by
  have HT := Lib.hid hT; have HG := Lib.hid hG; clear hT hG
  have hne : ((n : Int) != (n : Int)) = false := by simp
  go_enter Tryz.func39, Tryz.ntmps39
  go_wp2_with fail
  go_loopw [6] (fun i wr => ∃ (k : Nat) (W : World), W = wr ∧ k ≤ n + 12 ∧ i = .int .i64 k ∧ Below w.heap.size w wr) (fun i _ => n + 12 - (intOf i).toNat)
  case atStart => exact ⟨0, _, rfl, by omega, rfl, Below.refl _ _⟩
  case round =>
    obtain ⟨k, wx, rfl, hk, rfl, hB⟩ := hrel
    have HB := Lib.hid hB; clear hB
    by_cases hlt : k < n
    · obtain ⟨b, off, e1, c1, c2⟩ := (HT.out.same HB.out).cell k hlt
      obtain ⟨b', off', e2, d1, d2⟩ := (HG.out.same HB.out).cell k (by omega)
      cases e2
      rw [show tK K n k = K k from if_pos hlt] at d1
      rw [show tL L n k = L k from if_pos hlt] at d2
      rw [Nat.zero_add] at d1 d2
      subst e1
      generalize K k = u at c1 d1
      generalize L k = v at c2 d2
      have i1 : (k : Int) < (n : Int) := by omega
      have i2 : (k : Int) < (n : Int) + 12 := by omega
      have i5 : decide (n ≤ k) = false := by simp; omega
      have g5 : (v == v) = true := by simp
      have g6 : (u == u) = true := by simp
      go_wp2_with fail
      go_quiet (fail)
      go_wp2
      go_roundw
      case rel => exact ⟨k + 1, _, rfl, by omega, by go_num, HB.out.trans ((below_drewN (Below.refl _ _) _).mono HB.out.size)⟩
      case measure => simp [intOf]; omega
    · by_cases hlt2 : k < n + 12
      · obtain ⟨b', off', e2, d1, d2⟩ := (HG.out.same HB.out).cell k hlt2
        cases e2
        have hmk : tK K n k = 8000024 + ((k : Int) - (n : Int)) := by unfold tK mkT; rw [if_neg hlt]; omega
        rw [hmk] at d1
        rw [show tL L n k = 0 from if_neg hlt] at d2
        rw [Nat.zero_add] at d1 d2
        clear hmk
        have i1 : ¬ (k : Int) < (n : Int) := by omega
        have i2 : (k : Int) < (n : Int) + 12 := by omega
        have i4 : decide (k < n) = false := by simp; omega
        have i5 : decide (n ≤ k) = true := by simp; omega
        have i6 : IntKind.i64.wrap ((k : Int) - (n : Int)) = (k : Int) - (n : Int) := IntWalk.i64_in _ (by omega)
        obtain ⟨d, hd⟩ : ∃ d : Nat, (k : Int) - (n : Int) = (d : Int) := ⟨k - n, by omega⟩
        rw [hd] at d1 i6
        have hd9 : d < 12 := by omega
        have y1 := fun d os => cell_regrown d1 d os
        have y2 := fun d os => cell_regrown d2 d os
        go_wp2_with fail
        refine wp_region_quiet_below (by kernel_rfl) (by kernel_rfl) ?_
        repeat (go_big_quiet_step ((go_at_call 53; exact Calls.regrown_of (markT_any (d : Int) (by omega) (by omega) _))))
        refine wpQuiet_nil ?_
        rintro W1 ⟨pq, hW1⟩
        have hB1 : Below wx.heap.size wx W1 := by rw [hW1]; exact below_regrown _ _ _
        clear hW1 y1 y2
        go_wp2
        go_roundw
        case rel => exact ⟨k + 1, _, rfl, by omega, by go_num, HB.out.trans (hB1.mono HB.out.size)⟩
        case measure => simp [intOf]; omega
      · obtain rfl : k = n + 12 := by omega
        go_wp2
        go_ret
        exact ⟨rfl, HB.out⟩
end Go.Proofs.YtjlmajopfeplpaaGreat.Ly
