import Derived.Deep.WholeRow
import Derived.Laws.Tables
import Derived.RangeFuncNested
import Derived.Deep.RegionWith
import Derived.Test.YtkejabhjlflknaaGreatMg23
import Derived.Test.YtkejabhjlflknaaGreatMg42
namespace Go.Proofs.YtkejabhjlflknaaGreat.Ly
open Go.RowKit Go.Shelf
open Go.Proofs.YtkejabhjlflknaaGreat.Sp (wid Bad wid_le wid_hi wid_lo width_ok width_bad grown_dr grown_t)

/-- rows of a table, as they read. -/
structure Tb (w : World) (a : Option Addr) (n : Nat) (K L : Nat → Int) : Prop where
  cell : ∀ i, i < n → ∃ b o, a = some ⟨b, o, none⟩ ∧ w.cell? ⟨b, o + i * 2, none⟩ = some (.int .i64 (K i)) ∧ w.cell? ⟨b, o + i * 2 + 1, none⟩ = some (.int .i64 (L i))
section
variable {w w' : World} {a : Option Addr} {n : Nat} {K L : Nat → Int}
theorem Tb.same (s : Tb w a n K L) (hB : Below w.heap.size w w') : Tb w' a n K L := ⟨fun i hi => by
  obtain ⟨b, o, e, h1, h2⟩ := s.cell i hi
  exact ⟨b, o, e, by rw [hB.cell (World.block_lt_of_cell? _ _ h1)]; exact h1, by rw [hB.cell (World.block_lt_of_cell? _ _ h2)]; exact h2⟩⟩
theorem Tb.less (s : Tb w a n K L) {k : Nat} (hk : k ≤ n) : Tb w a k K L := ⟨fun i hi => s.cell i (by omega)⟩
theorem Tb.own {row : Option Nat} (s : Tb w a n K L) (hg : w.grownBy w' row) (hr : ∀ k, row = some k → ∃ o : Obj, w.heap[k]? = some o ∧ o.isCells = false) : Tb w' a n K L := ⟨fun i hi => by
  obtain ⟨b, o, e, h1, h2⟩ := s.cell i hi
  exact ⟨b, o, e, cell_kept h1 hg hr, cell_kept h2 hg hr⟩⟩
end
theorem si_own {w w' : World} {a : Option Addr} {n : Nat} {K : Nat → Int} {row : Option Nat} (s : Si w a n K) (hg : w.grownBy w' row) (hr : ∀ k, row = some k → ∃ o : Obj, w.heap[k]? = some o ∧ o.isCells = false) : Si w' a n K := ⟨fun i hi => by
  obtain ⟨b, o, e, h1⟩ := s.cell i hi
  exact ⟨b, o, e, cell_kept h1 hg hr⟩⟩

/-- a row's width, where it has one. -/
def widI (L K : Int) : Nat := if Bad L K then 0 else wid L.toNat K.toNat
def widE (L K : Int) : Int := if Bad L K then 2 else 0
theorem widI_le (L K : Int) : widI L K ≤ 65535 := by
  unfold widI
  split
  · omega
  · rename_i h
    unfold Bad at h
    have := wid_le (L := L.toNat) (k := K.toNat) (by omega)
    omega
theorem widI_ok {L K : Int} (h : ¬ Bad L K) : widI L K = wid L.toNat K.toNat := if_neg h
theorem width_any (x k : Int) (w : World) :
    Calls Tryz.prog 54 #[.int .i64 x, .int .i64 k] w fun e w' => e = .returned (.tuple #[.int .i64 (widI x k : Nat), .int .i64 (widE x k)]) ∧ w' = w := by
  by_cases h : Bad x k
  · have e1 : widI x k = 0 := if_pos h
    have e2 : widE x k = 2 := if_pos h
    rw [e1, e2]
    exact width_bad x k h w
  · have h' := h
    unfold Bad at h'
    obtain ⟨X, rfl⟩ : ∃ X : Nat, x = X := ⟨x.toNat, by omega⟩
    obtain ⟨Y, rfl⟩ : ∃ Y : Nat, k = Y := ⟨k.toNat, by omega⟩
    have e1 : widI X Y = wid X Y := by rw [widI_ok h]; simp
    have e2 : widE X Y = 0 := if_neg h
    rw [e1, e2]
    exact width_ok X Y (by omega) (by omega) (by omega) w
/-- where a row's stripe begins. -/
def off (K L : Nat → Int) : Nat → Nat
  | 0 => 0
  | i + 1 => off K L i + widI (L i) (K i)
theorem off_le (K L : Nat → Int) : ∀ n, off K L n ≤ n * 65535
  | 0 => Nat.le_refl _
  | n + 1 => by
    have h1 := off_le K L n
    have h2 := widI_le (L n) (K n)
    unfold off
    omega
theorem off_mono (K L : Nat → Int) {i j : Nat} (h : i ≤ j) : off K L i ≤ off K L j := by
  induction j with
  | zero => obtain rfl : i = 0 := by omega
            exact Nat.le_refl _
  | succ j ih =>
    by_cases e : i = j + 1
    · subst e; exact Nat.le_refl _
    · have := ih (by omega)
      show off K L i ≤ off K L j + widI (L j) (K j)
      omega
theorem cell_al {w : World} {p : Addr} {v : Value} (h : w.cell? p = some v) (o : Obj) : (w.alloc o).cell? p = some v := by
  rw [((Below.refl _ w).alloc (Nat.le_refl _) o).cell (World.block_lt_of_cell? _ _ h)]; exact h
/-- what a row is. -/
def rowV (K L : Int) : Value := .agg #[.int .i64 K, .int .i64 L]
/-- what a part is. -/
def partV (K L : Int) (f t : Nat) : Value := .agg #[.int .i64 K, .int .i64 L, .int .i64 (f : Nat), .int .i64 (t : Nat)]

/-- worlds that are alike where it matters. -/
def Agr (Dom : Nat → Prop) (w0 W : World) : Prop := ∀ k, Dom k → W.heap[k]? = w0.heap[k]?
/-- what asks for rows: a closure that answers of each place. -/
structure AskL (Dom : Nat → Prop) (w0 : World) (cf n : Nat) (caps : Array Value) (K L : Nat → Int) : Prop where
  ent : ∀ (args : Array Value) (W : World), (callFunc cf args).run Tryz.prog W = .ok (.enter cf args) W
  lt : ∀ k, Dom k → k < w0.heap.size
  call : ∀ W, Agr Dom w0 W → ∀ j : Nat, j < n → Calls Tryz.prog cf (#[.int .i64 (j : Nat)] ++ caps) W fun e W' => e = .returned (rowV (K j) (L j)) ∧ Below W.heap.size W W'
theorem below_grown {w w' : World} (h : Below w.heap.size w w') (row : Option Nat) : w.grownBy w' row := ⟨h.os, h.tape, h.output, h.size, fun k hk _ => h.block k hk⟩
section
variable {Dom : Nat → Prop} {w0 W W' : World} {cf n : Nat} {caps : Array Value} {K L : Nat → Int}
theorem AskL.agr (h : AskL Dom w0 cf n caps K L) (hB : Below w0.heap.size w0 W) : Agr Dom w0 W := fun k hk => hB.block k (h.lt k hk)
theorem Agr.trans {A B C : World} (h : Agr Dom A B) (k : Agr Dom B C) : Agr Dom A C := fun i hi => (k i hi).trans (h i hi)
theorem AskL.at_ (h : AskL Dom w0 cf n caps K L) (hP : Agr Dom w0 W) (hz : w0.heap.size ≤ W.heap.size) : AskL Dom W cf n caps K L :=
  ⟨h.ent, fun k hk => Nat.lt_of_lt_of_le (h.lt k hk) hz, fun X hX j hj => h.call X (hP.trans hX) j hj⟩
theorem AskL.same (h : AskL Dom w0 cf n caps K L) (hB : Below w0.heap.size w0 W) : AskL Dom W cf n caps K L := h.at_ (h.agr hB) hB.size
theorem AskL.less (h : AskL Dom w0 cf n caps K L) {m : Nat} (hm : m ≤ n) : AskL Dom w0 cf m caps K L := ⟨h.ent, h.lt, fun W hW j hj => h.call W hW j (by omega)⟩
end

/-- a whole row into a block that was just made. -/
theorem wpList_store_new {P : Program} {ops : Array Oper} {rest : List Oper} {o : Oper} {a : Act} {w : World} {Q : Exit → Act → World → Prop} (hgd : o.guard = none) (ty : TypeId) (x y : Operand) (ho : o.op = .store ty x y)
    (g : Nat) (hg : g = w.heap.size) (cells old : Array Value) (t : TypeId) (hx : a.eval x = .pointer (some ⟨g, 0, none⟩)) (hy : a.eval y = .agg cells) (hi : (P.info? ty).map (·.size) = some cells.size)
    (hold : old.size = cells.size) (h1 : cells.all (·.oneCell') = true)
    (h : wpList P ops Q rest (a.put o.dst undef) (w.alloc (.cells cells t))) : wpList P ops Q (o :: rest) a (w.alloc (.cells old t)) := by
  subst hg
  refine wpList_store_row hgd ty x y ho w.heap.size cells hx hy t old (heap_alloc_new w _) hi hold h1 ?_
  rw [World.setRow_alloc_new]
  exact h

set_option maxHeartbeats 1000000 in
theorem of1_l (a : Option Addr) (n cap lb k : Nat) (K L : Nat → Int) (hk : k < n) (w : World) (hb : w.cell? ⟨lb, 0, none⟩ = some (.slice a n cap)) (hR : Tb w a n K L) :
    Calls Tryz.prog 65 #[.int .i64 (k : Nat), .pointer (some ⟨lb, 0, none⟩)] w fun e w' => e = .returned (rowV (K k) (L k)) ∧ Below w.heap.size w w' := by
  obtain ⟨b, o, ea, hc1, hc2⟩ := hR.cell k hk
  have i1 : (k : Int) < (n : Int) := by omega
  subst ea
  clear hR
  have d0 := cell_al hb (.cells #[.int .i64 0, .int .i64 0] 48)
  have d1 := cell_al hc1 (.cells #[.int .i64 0, .int .i64 0] 48)
  have d2 := cell_al hc2 (.cells #[.int .i64 0, .int .i64 0] 48)
  go_enter Tryz.func65, Tryz.ntmps65
  go_wp2_with fail
  exact bodyPost_ret (results_cell_row rfl _ _ w.heap.size _ _ (0, 0) _ rfl (heap_alloc_new w _) Tryz.underlying48 rfl (by kernel_rfl)) rfl ⟨rfl, (Below.refl _ w).alloc (Nat.le_refl _) _⟩
/-- a sheet. -/
def shV (n cf : Nat) (caps : Array Value) : Array Value := #[.int .i64 (n : Nat), .func (.func cf) #[] caps]
set_option maxHeartbeats 400000 in
theorem of_l (a : Option Addr) (n cap : Nat) (w : World) :
    Calls Tryz.prog 40 #[.slice a n cap] w fun e w' => e = .returned (.agg #[.int .i64 (n : Nat), .func (.func 65) #[] #[.pointer (some ⟨w.heap.size, 0, none⟩)]]) ∧ Below w.heap.size w w' ∧ Boxed w' w.heap.size 36 (.slice a n cap) := by
  have hmf : ∀ (fn : Fn) (first cap : Array Value) (w : World), (Instr.makeFunc fn first cap).run Tryz.prog w = .ok (.func fn first cap) w := fun _ _ _ _ => rfl
  have hB : Below w.heap.size w ((w.alloc (.cells #[.slice a n cap] 36)).alloc (.cells #[.int .i64 (n : Nat), .func (.func 65) #[] #[.pointer (some ⟨w.heap.size, 0, none⟩)]] 59)) := ((Below.refl _ w).alloc (Nat.le_refl _) _).alloc (by simp) _
  have hb := (Boxed.new w 36 (.slice a n cap)).alloc (.cells #[.int .i64 (n : Nat), .func (.func 65) #[] #[.pointer (some ⟨w.heap.size, 0, none⟩)]] 59)
  have HB := Lib.hid hB; have Hb := Lib.hid hb; clear hB hb
  go_enter Tryz.func40, Tryz.ntmps40
  go_wp2_with ((show wpList _ _ _ (⟨none, .store 59 _ _, _, _, _, _⟩ :: _) _ _); refine wpList_store_new rfl 59 _ _ rfl (w.heap.size + 1) (by simp) #[.int .i64 (n : Nat), .func (.func 65) #[] #[.pointer (some ⟨w.heap.size, 0, none⟩)]] _ _ rfl rfl (by kernel_rfl) rfl (by simp [Value.oneCell']) ?_)
  exact bodyPost_ret (results_cell_row rfl _ _ (w.heap.size + 1) _ _ (0, 0) _ rfl (by have := heap_alloc_new (w.alloc (.cells #[.slice a n cap] 36)) (.cells #[.int .i64 (n : Nat), .func (.func 65) #[] #[.pointer (some ⟨w.heap.size, 0, none⟩)]] 59); rwa [World.size_alloc] at this) Tryz.underlying59 rfl (by kernel_rfl)) rfl ⟨rfl, HB.out, Hb.out⟩
set_option maxHeartbeats 400000 in
theorem parts_l (n cf : Nat) (caps : Array Value) (w : World) :
    Calls Tryz.prog 30 #[.agg #[.int .i64 (n : Nat), .func (.func cf) #[] caps]] w fun e w' => e = .returned (.func (.func 53) #[] #[.pointer (some ⟨w.heap.size, 0, none⟩)]) ∧ w' = w.alloc (.cells #[.int .i64 (n : Nat), .func (.func cf) #[] caps] 59) := by
  have hmf : ∀ (fn : Fn) (first cap : Array Value) (w : World), (Instr.makeFunc fn first cap).run Tryz.prog w = .ok (.func fn first cap) w := fun _ _ _ _ => rfl
  go_enter Tryz.func30, Tryz.ntmps30
  go_wp2_with fail
  go_ret
  exact ⟨rfl, rfl⟩
set_option maxHeartbeats 1000000 in
theorem by1_l (ka la : Option Addr) (n kc m lc kb lb j : Nat) (K : Nat → Int) (r : Nat → Option Addr) (l c : Nat → Nat) (f : Nat → Nat → Nat) (hj : j < n) (hjm : j < m) (w : World) (hb1 : w.cell? ⟨kb, 0, none⟩ = some (.slice ka n kc)) (hb2 : w.cell? ⟨lb, 0, none⟩ = some (.slice la m lc)) (hS : Si w ka n K) (hR : Rd w la m lc r l c f) :
    Calls Tryz.prog 52 #[.int .i64 (j : Nat), .pointer (some ⟨kb, 0, none⟩), .pointer (some ⟨lb, 0, none⟩)] w fun e w' => e = .returned (rowV (K j) (l j : Nat)) ∧ Below w.heap.size w w' := by
  obtain ⟨b, o, ea, hc1⟩ := hS.cell j hj
  obtain ⟨b2, o2, ea2, hc2⟩ := hR.at_ hjm
  have i1 : (j : Int) < (n : Int) := by omega
  have i2 : (j : Int) < (m : Int) := by omega
  subst ea ea2
  clear hS hR
  have d0 := fun q => (show ((w.alloc (.cells #[.int .i64 0, .int .i64 0] 48)).drewN q).cell? ⟨kb, 0, none⟩ = _ from cell_al hb1 (.cells #[.int .i64 0, .int .i64 0] 48))
  have d1 := fun q => (show ((w.alloc (.cells #[.int .i64 0, .int .i64 0] 48)).drewN q).cell? ⟨lb, 0, none⟩ = _ from cell_al hb2 (.cells #[.int .i64 0, .int .i64 0] 48))
  have d2 := fun q => (show ((w.alloc (.cells #[.int .i64 0, .int .i64 0] 48)).drewN q).cell? ⟨b, o + j, none⟩ = _ from cell_al hc1 (.cells #[.int .i64 0, .int .i64 0] 48))
  have d3 := fun q => (show ((w.alloc (.cells #[.int .i64 0, .int .i64 0] 48)).drewN q).cell? ⟨b2, o2 + j, none⟩ = _ from cell_al hc2 (.cells #[.int .i64 0, .int .i64 0] 48))
  clear hb1 hb2 hc1 hc2
  go_enter Tryz.func52, Tryz.ntmps52
  go_wp2_with fail
  refine Rb.wp_region_quiet_tail 10 (by kernel_rfl) (by kernel_rfl) ?_
  simp only [List.take_succ_cons, List.take_zero, List.drop_succ_cons, List.drop_zero]
  repeat (go_big_quiet_step (fail))
  refine wpQuiet_nil ?_
  rintro _ ⟨k2, rfl⟩
  clear d0 d1 d2 d3
  refine wpList_store_row rfl 48 _ _ rfl w.heap.size #[.int .i64 (K j), .int .i64 (l j : Nat)] rfl rfl 48 _ (heap_alloc_new w (.cells #[.int .i64 0, .int .i64 0] 48)) (by kernel_rfl) rfl (by simp [Value.oneCell']) ?_
  obtain ⟨w3, hw3⟩ : ∃ w3, w3 = World.setRow ((w.alloc (.cells #[.int .i64 0, .int .i64 0] 48)).drewN k2) w.heap.size #[.int .i64 (K j), .int .i64 (l j : Nat)] := ⟨_, rfl⟩
  rw [← hw3]
  have hw4 : w3 = (w.alloc (.cells #[.int .i64 (K j), .int .i64 (l j : Nat)] 48)).drewN k2 := by
    rw [hw3]
    exact congrArg (fun X : World => X.drewN k2) (World.setRow_alloc_new w #[.int .i64 0, .int .i64 0] #[.int .i64 (K j), .int .i64 (l j : Nat)] 48)
  have HB := Lib.hid (show Below w.heap.size w w3 from by rw [hw4]; exact below_dr ((Below.refl _ w).alloc (Nat.le_refl _) _) k2)
  have HG := Lib.hid (show w3.heap[w.heap.size]? = some (.cells #[.int .i64 (K j), .int .i64 (l j : Nat)] 48 (0, 0)) from by rw [hw4]; exact heap_alloc_new w _)
  clear hw3 hw4
  go_wp2
  (try simp only [Exit.inBlock, Exit.then])
  exact bodyPost_ret (results_cell_row rfl _ _ w.heap.size _ _ (0, 0) _ rfl HG.out Tryz.underlying48 rfl (by kernel_rfl)) rfl ⟨rfl, HB.out⟩
/-- a sheet of layers and thresholds. -/
theorem by_l (la ka : Option Addr) (m lc n kc : Nat) (w : World) :
    Calls Tryz.prog 27 #[.slice la m lc, .slice ka n kc] w fun e w' => e = .returned (.agg #[.int .i64 (n : Nat), .func (.func 52) #[] #[.pointer (some ⟨w.heap.size + 1, 0, none⟩), .pointer (some ⟨w.heap.size, 0, none⟩)]]) ∧ Below w.heap.size w w' ∧ Boxed w' w.heap.size 22 (.slice la m lc) ∧ Boxed w' (w.heap.size + 1) 23 (.slice ka n kc) := by
  have hmf : ∀ (fn : Fn) (first cap : Array Value) (w : World), (Instr.makeFunc fn first cap).run Tryz.prog w = .ok (.func fn first cap) w := fun _ _ _ _ => rfl
  obtain ⟨o3, ho3⟩ : ∃ o3 : Obj, o3 = .cells #[.int .i64 (n : Nat), .func (.func 52) #[] #[.pointer (some ⟨w.heap.size + 1, 0, none⟩), .pointer (some ⟨w.heap.size, 0, none⟩)]] 59 := ⟨_, rfl⟩
  have hB : Below w.heap.size w (((w.alloc (.cells #[.slice la m lc] 22)).alloc (.cells #[.slice ka n kc] 23)).alloc o3) := (((Below.refl _ w).alloc (Nat.le_refl _) _).alloc (by simp) _).alloc (by simp; omega) _
  have hb := ((Boxed.new w 22 (.slice la m lc)).alloc (.cells #[.slice ka n kc] 23)).alloc o3
  have hb2 := (Boxed.new (w.alloc (.cells #[.slice la m lc] 22)) 23 (.slice ka n kc)).alloc o3
  have hn := heap_alloc_new ((w.alloc (.cells #[.slice la m lc] 22)).alloc (.cells #[.slice ka n kc] 23)) o3
  simp only [World.size_alloc] at hb2 hn
  rw [ho3] at hB hb hb2 hn
  have HB := Lib.hid hB; have Hb := Lib.hid hb; have Hb2 := Lib.hid hb2; have HN := Lib.hid hn; clear hB hb hb2 ho3 hn
  go_enter Tryz.func27, Tryz.ntmps27
  go_wp2_with ((show wpList _ _ _ (⟨none, .store 59 _ _, _, _, _, _⟩ :: _) _ _); refine wpList_store_new rfl 59 _ _ rfl (w.heap.size + 1 + 1) (by simp) #[.int .i64 (n : Nat), .func (.func 52) #[] #[.pointer (some ⟨w.heap.size + 1, 0, none⟩), .pointer (some ⟨w.heap.size, 0, none⟩)]] _ _ rfl rfl (by kernel_rfl) rfl (by simp [Value.oneCell']) ?_)
  exact bodyPost_ret (results_cell_row rfl _ _ (w.heap.size + 1 + 1) _ _ (0, 0) _ rfl HN.out Tryz.underlying59 rfl (by kernel_rfl)) rfl ⟨rfl, HB.out, Hb.out, Hb2.out⟩
end Go.Proofs.YtkejabhjlflknaaGreat.Ly

namespace Go.Proofs.YtkejabhjlflknaaGreat.Ly
open Go.RowKit Go.Shelf
open Go.Proofs.YtkejabhjlflknaaGreat.Sp (wid Bad wid_le wid_hi wid_lo width_ok width_bad grown_dr grown_t Tk heap_kp)
attribute [local go_sem] Oper.semAt_some

/-- what parts' function reads: a sheet in its box. -/
structure Gl (bs cf n : Nat) (caps : Array Value) (Dom : Nat → Prop) (w0 W : World) : Prop where
  blk : W.heap[bs]? = some (.cells #[.int .i64 (n : Nat), .func (.func cf) #[] caps] 59 (0, 0))
  s : Agr Dom w0 W
  z : w0.heap.size ≤ W.heap.size
section
variable {bs cf n : Nat} {caps : Array Value} {Dom : Nat → Prop} {w0 W W' : World}
theorem Gl.lt (g : Gl bs cf n caps Dom w0 W) : bs < W.heap.size := (Array.getElem?_eq_some_iff.1 g.blk).1
theorem Gl.c0 (g : Gl bs cf n caps Dom w0 W) : W.cell? ⟨bs, 0, none⟩ = some (.int .i64 (n : Nat)) := by rw [cell_of_row W bs 0 _ _ _ g.blk]; rfl
theorem Gl.c1 (g : Gl bs cf n caps Dom w0 W) : W.cell? ⟨bs, 1, none⟩ = some (.func (.func cf) #[] caps) := by rw [cell_of_row W bs 1 _ _ _ g.blk]; rfl
theorem Gl.kept {K L : Nat → Int} (hA : AskL Dom w0 cf n caps K L) (g : Gl bs cf n caps Dom w0 W) (hz : W.heap.size ≤ W'.heap.size) (hb : W'.heap[bs]? = W.heap[bs]?) (hD : ∀ k, k < w0.heap.size → Dom k → W'.heap[k]? = W.heap[k]?) : Gl bs cf n caps Dom w0 W' :=
  ⟨hb.trans g.blk, g.s.trans fun k hk => hD k (hA.lt k hk) hk, Nat.le_trans g.z hz⟩
theorem Gl.same {K L : Nat → Int} (hA : AskL Dom w0 cf n caps K L) (g : Gl bs cf n caps Dom w0 W) (hB : Below W.heap.size W W') : Gl bs cf n caps Dom w0 W' :=
  g.kept hA hB.size (hB.block bs g.lt) fun k hk _ => hB.block k (Nat.lt_of_lt_of_le hk g.z)
end
def KpL (bs cf n : Nat) (caps : Array Value) (Dom : Nat → Prop) (w0 W W' : World) : Prop := Gl bs cf n caps Dom w0 W → Gl bs cf n caps Dom w0 W'
theorem kpL_t {bs cf n : Nat} {caps : Array Value} {Dom : Nat → Prop} {w0 A B C : World} (h : KpL bs cf n caps Dom w0 A B) (k : KpL bs cf n caps Dom w0 B C) : KpL bs cf n caps Dom w0 A C := fun g => k (h g)
theorem kpL_b {bs cf n : Nat} {caps : Array Value} {K L : Nat → Int} {Dom : Nat → Prop} {w0 : World} (hA : AskL Dom w0 cf n caps K L) {w : World} (hz : w0.heap.size ≤ w.heap.size) (W : World) (l : Nat) (o o' : Obj) (hl : w.heap.size ≤ l) (h : W.heap[l]? = some o) (hc : o.isCells = false) (_ : o.isWalk = false) : KpL bs cf n caps Dom w0 W (W.putObj l o') :=
  fun g => g.kept hA (grownBy_putObj' W l o').size ((heap_kp g.blk (grownBy_putObj' W l o') (fun r e => by cases e; exact ⟨o, h, hc⟩)).trans g.blk.symm) fun k hk _ => (grownBy_putObj' W l o').block k (Nat.lt_of_lt_of_le hk g.z) (fun e => by cases e; omega)
/-- a store into a box of one's own. -/
theorem kpL_set {bs cf n : Nat} {caps : Array Value} {K L : Nat → Int} {Dom : Nat → Prop} {w0 W : World} (hA : AskL Dom w0 cf n caps K L) (p : Addr) (v : Value) (h1 : p.block ≠ bs) (h2 : ¬ Dom p.block) : KpL bs cf n caps Dom w0 W (W.setCell p v) :=
  fun g => g.kept hA (by simp) (heap_setCell_other W p bs v (fun e => h1 e.symm)) fun k _ hd => heap_setCell_other W p k v (fun e => h2 (e ▸ hd))

/-- what comes at a place. -/
def encL (K L : Nat → Int) (i : Nat) : Array Value := #[.int .i64 (i : Nat), partV (K i) (L i) (off K L i) (off K L (i + 1))]

set_option maxRecDepth 100000 in
set_option maxHeartbeats 2000000 in
/-- parts' function. -/
theorem parts1_in (m : Nat) (l bs cf n : Nat) (caps : Array Value) (K L : Nat → Int) (Dom : Nat → Prop) (w0 : World) (hA : AskL Dom w0 cf n caps K L) (hn : n ≤ 8) (J Jx : List (Tk n) → World → Prop)
    (hJ : ∀ s W W', Below W.heap.size W W' → J s W → J s W')
    (hY : ∀ pre x W, J pre W → pre.length < n → YieldAt Fence.wide (m - 1) Tryz.prog l (encL K L x.i) W fun e W' =>
      (e = .returned (.bool true) ∧ J (pre ++ [x]) W' ∧ KpL bs cf n caps Dom w0 W W') ∨ (e = .returned (.bool false) ∧ Jx (pre ++ [x]) W'))
    (W : World) (hG : Gl bs cf n caps Dom w0 W) (h0 : J [] W) :
    CallsIn Fence.wide m Tryz.prog 53 #[.func (.yield l) #[] #[], .pointer (some ⟨bs, 0, none⟩)] W fun e W' => (∃ v, e = .returned v) ∧
      ((∃ ys : List (Tk n), ys.map Tk.i = List.range n ∧ J ys W') ∨ (∃ pre : List (Tk n), (∃ k, k ≤ n ∧ pre.map Tk.i = List.range k) ∧ Jx pre W')) := by
  have hW : ∀ k, Fence.wide.fn k := fun _ => trivial
  have hD : Fence.wide.depth = none := rfl
  have hb0 := hG.c0
  have HG := Lib.hid hG; clear hG
  have hent := hA.ent
  have HA := Lib.hid hA; clear hA
  refine callsIn_of_wp Tryz.func53 rfl trivial ?_ rfl
  simp only [Tryz.ntmps53, List.size_toArray, List.length_cons, List.length_nil, Nat.reduceAdd, Nat.reduceSub, Array.replicate_succ, Array.replicate_zero, List.push_toArray, List.append_toArray, List.nil_append, List.cons_append]
  gi_wp2
  gi_loopw [3, 10] (fun fr i wr => ∃ k : Nat, k ≤ n ∧ fr = .int .i64 (off K L k : Nat) ∧ i = .int .i64 (k : Nat) ∧ (∃ pre : List (Tk n), pre.map Tk.i = List.range k ∧ J pre wr) ∧ Gl bs cf n caps Dom w0 wr)
    (fun _ i _ => n - (intOf i).toNat)
  case atStart => exact ⟨0, Nat.zero_le _, rfl, rfl, ⟨[], rfl, h0⟩, HG.out⟩
  case round =>
    rename_i wr
    obtain ⟨k, hk1, rfl, rfl, ⟨pre, hp, hJs⟩, hG⟩ := hrel
    have hP := Lib.hid hp
    have hlen : pre.length = k := by have := congrArg List.length hp; rwa [List.length_map, List.length_range] at this
    clear hp hb0
    by_cases hkn : k < n
    · have i1 : (k : Int) < (n : Int) := by omega
      have hb1 := hG.c1
      have hofs : off K L (k + 1) = off K L k + widI (L k) (K k) := rfl
      have hle := off_le K L k
      have hwl := widI_le (L k) (K k)
      have HOF := Lib.hid hofs
      have HYY := Lib.hid (fun W hJ' => hY pre ⟨k, hkn⟩ W hJ' (by omega))
      have HG1 := Lib.hid hG
      have HJ := Lib.hid hJs
      have HL := Lib.hid hlen
      clear hG hlen hJs hofs hY
      gi_wp2_with fail
      refine (callsIn_wide.2 (HA.out.call _ HG1.out.s k hkn)).mono ?_
      rintro e W2 ⟨rfl, hB2⟩
      have HB2 := Lib.hid hB2; clear hB2
      unfold rowV
      generalize hKk : K k = Kk at *
      generalize hLk : L k = Lk at *
      have hX : Below wr.heap.size wr (W2.alloc (.cells #[.int .i64 Kk, .int .i64 Lk] 48)) := HB2.out.trans (((Below.refl _ W2).alloc (Nat.le_refl _) _).mono HB2.out.size)
      have HX := Lib.hid hX; clear hX
      gi_wp2_with fail
      refine (callsIn_wide.2 (width_any Lk Kk _)).mono ?_
      rintro e W3 ⟨rfl, rfl⟩
      have hsum : ((off K L k : Nat) : Int) + ((widI Lk Kk : Nat) : Int) = ((off K L (k + 1) : Nat) : Int) := by rw [HOF.out]; omega
      have HS := Lib.hid hsum
      obtain ⟨fn, tmps, assign, body, hy, hR⟩ := HYY.out _ (hJ _ _ _ HX.out HJ.out)
      simp only [encL, partV, hKk, hLk] at hy
      generalize widI Lk Kk = wi at *
      generalize hO1 : off K L (k + 1) = o1 at *
      have HO1 := Lib.hid hO1; clear hO1
      generalize off K L k = o0 at *
      have hwr : wrap64 (o1 : Int) = (o1 : Int) := by unfold wrap64; omega
      have HWR := Lib.hid hwr
      gi_wp2_with fail
      refine hR.mono ?_
      rintro e W4 (⟨rfl, hJ3, hk3⟩ | ⟨rfl, hJx3⟩)
      · have HG3 := Lib.hid (hk3 (HG1.out.same HA.out HX.out)); have HJ3 := Lib.hid hJ3
        clear hk3 hJ3 hy hR
        gi_wp2
        go_roundw
        case rel => exact ⟨k + 1, by omega, by rw [HO1.out], by go_num, ⟨_, by rw [List.range_succ, List.map_append, hP.out]; rfl, HJ3.out⟩, HG3.out⟩
        case measure => simp [intOf]; omega
      · clear hy hR
        gi_wp2
        refine bodyPost_ret (results_none rfl _ _ _) rfl ?_
        exact ⟨⟨_, rfl⟩, .inr ⟨_, ⟨k + 1, by omega, by rw [List.range_succ, List.map_append, hP.out]; rfl⟩, hJx3⟩⟩
    · obtain rfl : k = n := by omega
      have i1 : ¬ (k : Int) < (k : Int) := by omega
      gi_wp2
      go_end0
      exact ⟨⟨_, rfl⟩, .inl ⟨pre, hP.out, hJs⟩⟩
/-- parts' value. -/
theorem parts_stops (m bs cf n : Nat) (caps : Array Value) (K L : Nat → Int) (Dom : Nat → Prop) (w0 : World) (hA : AskL Dom w0 cf n caps K L) (hn : n ≤ 8) (w : World) (hG : Gl bs cf n caps Dom w0 w) :
    SeqStopsK Fence.wide m Tryz.prog 53 #[.pointer (some ⟨bs, 0, none⟩)] (fun x : Tk n => encL K L x.i) (KpL bs cf n caps Dom w0) (fun ys => ys.map Tk.i = List.range n) (fun pre => ∃ k, k ≤ n ∧ pre.map Tk.i = List.range k) n w := fun l J Jx W hW hJ _ hY h0 =>
  parts1_in m l bs cf n caps K L Dom w0 hA hn J Jx (fun s W1 W2 hB hs => hJ s _ _ none hs (below_grown hB none) (fun _ e => by cases e)) hY W (hG.same hA hW) h0
/-- layers and thresholds. -/
theorem ask_by (w : World) (kb lb : Nat) (ka la : Option Addr) (n kc m lc : Nat) (K : Nat → Int) (r : Nat → Option Addr) (l c : Nat → Nat) (f : Nat → Nat → Nat) (hnm : n ≤ m) (hb1 : Boxed w kb 23 (.slice ka n kc)) (hb2 : Boxed w lb 22 (.slice la m lc)) (hS : Si w ka n K) (hR : Rd w la m lc r l c f) :
    AskL (fun k => k < w.heap.size) w 52 n #[.pointer (some ⟨kb, 0, none⟩), .pointer (some ⟨lb, 0, none⟩)] K (fun i => ((l i : Nat) : Int)) :=
  ⟨fun _ _ => by kernel_rfl, fun _ h => h, fun W h j hj => by
    have hc : ∀ p v, w.cell? p = some v → W.cell? p = some v := fun p v e => (World.cell?_of_block (h _ (World.block_lt_of_cell? _ _ e))).trans e
    exact by1_l ka la n kc m lc kb lb j K r l c f hj (by omega) W (hc _ _ hb1.cell) (hc _ _ hb2.cell) ⟨fun i hi => by obtain ⟨b, o, e, h1⟩ := hS.cell i hi; exact ⟨b, o, e, hc _ _ h1⟩⟩
      ⟨hR.capOk, hR.maxOk, hR.bm, hR.nil, hR.spot, fun ad e i hi => hc _ _ (hR.cell ad e i hi), fun i hi => by
        have hs := hR.row i hi
        exact ⟨hs.capOk, hs.maxOk, hs.bytes, hs.up, hs.nil, hs.spot, fun ad e j hj => hc _ _ (hs.cell ad e j hj)⟩⟩⟩
/-- a table: its rows lie below B, its box is lb. -/
theorem ask_of (B : Nat) (w0 w : World) (lb : Nat) (a : Option Addr) (n cap : Nat) (K L : Nat → Int) (hB0 : w0.heap.size = B) (hB : Below B w0 w) (hb : Boxed w lb 36 (.slice a n cap)) (hT : Tb w0 a n K L) :
    AskL (fun k => k < B ∨ k = lb) w 65 n #[.pointer (some ⟨lb, 0, none⟩)] K L :=
  ⟨fun _ _ => by kernel_rfl, fun k h => by rcases h with h | rfl; (· have := hB.size; omega); exact hb.lt, fun W h j hj => by
    have hc : ∀ p v, w0.cell? p = some v → W.cell? p = some v := fun p v e => by
      have h1 := World.block_lt_of_cell? _ _ e
      exact (World.cell?_of_block ((h _ (Or.inl (by omega))).trans (hB.block _ (by omega)))).trans e
    exact of1_l a n cap lb j K L hj W ((World.cell?_of_block (h lb (Or.inr rfl))).trans hb.cell) ⟨fun i hi => by obtain ⟨b, o, e, h1, h2⟩ := hT.cell i hi; exact ⟨b, o, e, hc _ _ h1, hc _ _ h2⟩⟩⟩
end Go.Proofs.YtkejabhjlflknaaGreat.Ly

namespace Go.Proofs.YtkejabhjlflknaaGreat.Ly
open Go.RowKit Go.Shelf
open Go.Proofs.YtkejabhjlflknaaGreat.Sp (wid Bad wid_le wid_hi wid_lo width_ok width_bad grown_dr grown_t Tk heap_kp bx_past)
attribute [local go_sem] Oper.semAt_some

theorem rng_snoc {n : Nat} {pre : List (Tk n)} {x : Tk n} {k' : Nat} (h : (pre ++ [x]).map Tk.i = List.range k') : ∃ k, k' = k + 1 ∧ pre.map Tk.i = List.range k ∧ x.i = k := by
  cases k' with
  | zero => simp at h
  | succ k =>
    rw [List.range_succ, List.map_append] at h
    have h2 := List.append_inj' h rfl
    refine ⟨k, rfl, h2.1, ?_⟩
    have := h2.2
    simpa using this
theorem rng_nil {n k : Nat} (h : ([] : List (Tk n)).map Tk.i = List.range k) : k = 0 := by
  have := congrArg List.length h
  simpa using this.symm
/-- a row that may be, behind those ahead of it. -/
def RowOk (N : Int) (K L : Nat → Int) (i : Nat) : Prop := 1 ≤ K i ∧ K i ≤ N ∧ 0 ≤ L i ∧ L i ≤ 65535 ∧ (0 < i → K (i - 1) ≤ K i)
/-- a table. -/
def TabOk (N : Int) (n : Nat) (K L : Nat → Int) : Prop := 1 ≤ N ∧ N ≤ 255 ∧ 1 ≤ n ∧ n ≤ 8 ∧ ∀ i, i < n → RowOk N K L i
def TabSays (N : Int) (n : Nat) (K L : Nat → Int) (e : Ending) : Prop := ∃ v : Bool, e = .returned (.bool v) ∧ (v = true ↔ TabOk N n K L)
/-- the least threshold that may come at a place. -/
def lst (K : Nat → Int) : Nat → Int
  | 0 => 1
  | i + 1 => K i
theorem row_lst {N : Int} {K L : Nat → Int} {i : Nat} (hp : ∀ j, j < i → RowOk N K L j) : RowOk N K L i ↔ lst K i ≤ K i ∧ K i ≤ N ∧ 0 ≤ L i ∧ L i ≤ 65535 := by
  unfold RowOk
  cases i with
  | zero => show _ ↔ 1 ≤ K 0 ∧ _; constructor <;> (intro h; omega)
  | succ j =>
    have := (hp j (by omega)).1
    show _ ↔ K j ≤ K (j + 1) ∧ _
    rw [Nat.add_sub_cancel]
    constructor <;> (intro h; omega)

/-- the box of a part. -/
def PartAt (W : World) (p : Nat) (K L : Nat → Int) (i : Nat) : Prop := W.heap[p]? = some (.cells #[.int .i64 (K i), .int .i64 (L i), .int .i64 (off K L i : Nat), .int .i64 (off K L (i + 1) : Nat)] 67 (0, 0))
theorem PartAt.kept {X Y : World} {row : Option Nat} {p i : Nat} {K L : Nat → Int} (h : PartAt X p K L i) (hg : X.grownBy Y row) (hr : ∀ r, row = some r → ∃ o : Obj, X.heap[r]? = some o ∧ o.isCells = false) : PartAt Y p K L i := heap_kp h hg hr
/-- as long goes through the rows. -/
structure LoS (w W : World) (v : Nat) : Prop where
  v : Boxed W (w.heap.size + 1) 3 (.int .i64 (v : Nat))
  be : Below w.heap.size w W
theorem LoS.kep {w W W' : World} {v : Nat} {row : Option Nat} (s : LoS w W v) (hg : W.grownBy W' row) (hr : ∀ r, row = some r → w.heap.size ≤ r ∧ ∃ o : Obj, W.heap[r]? = some o ∧ o.isCells = false) : LoS w W' v :=
  ⟨heap_kp s.v hg (fun r e => (hr r e).2), s.be.grown hg s.be.size (fun k e => (hr k e).1)⟩

set_option maxRecDepth 100000 in
set_option maxHeartbeats 4000000 in
theorem long_l (n cf : Nat) (caps : Array Value) (K L : Nat → Int) (Dom : Nat → Prop) (hn : n ≤ 8) (w : World) (hA : AskL Dom w cf n caps K L) :
    Calls Tryz.prog 29 #[.agg #[.int .i64 (n : Nat), .func (.func cf) #[] caps]] w fun e w' => e = .returned (.int .i64 (off K L n : Nat)) ∧ Below w.heap.size w w' := by
  refine (callsIn_wide (n := 6)).1 ?_
  have hW : ∀ k, Fence.wide.fn k := fun _ => trivial
  have hD : Fence.wide.depth = none := rfl
  have HA := Lib.hid hA
  clear hA
  refine callsIn_of_wp_marks Tryz.func29 rfl trivial ?_ rfl
  simp only [Tryz.ntmps29, List.size_toArray, List.length_cons, List.length_nil, Nat.reduceAdd, Nat.reduceSub, Array.replicate_succ, Array.replicate_zero, List.push_toArray, List.append_toArray, List.nil_append, List.cons_append]
  gi_wp2_with (first
    | (gi_at_call 30; refine (callsIn_wide.2 (parts_l _ _ _ _)).mono ?_; rintro e w1 ⟨rfl, hw1⟩))
  rw [← hw1]
  have hS1 : LoS w w1 0 := by
    rw [hw1]
    refine ⟨?_, (((Below.refl _ w).alloc (Nat.le_refl _) _).alloc (by simp) _).alloc (by simp; omega) _⟩
    have := (Boxed.new (w.alloc (.cells #[.int .i64 (n : Nat), .func (.func cf) #[] caps] 59)) 3 (.int .i64 0)).alloc (.cells #[.int .i64 (n : Nat), .func (.func cf) #[] caps] 59)
    simpa using this
  have hG1 : Gl (w.heap.size + 1 + 1) cf n caps Dom w w1 := by
    refine ⟨?_, HA.out.agr hS1.be, hS1.be.size⟩
    rw [hw1]
    have := heap_alloc_new ((w.alloc (.cells #[.int .i64 (n : Nat), .func (.func cf) #[] caps] 59)).alloc (.cells #[.int .i64 0] 3)) (.cells #[.int .i64 (n : Nat), .func (.func cf) #[] caps] 59)
    simpa using this
  have hs1 : w.heap.size + 1 + 1 < w1.heap.size := hG1.lt
  have HS1 := Lib.hid hS1; have HG1 := Lib.hid hG1
  have hz1 := hS1.be.size
  clear hw1 hS1 hG1
  refine' wpIn_rangeFunc_ownH rfl (by omega) (gf := 53) (lb := #[.pointer (some ⟨w.heap.size + 1 + 1, 0, none⟩)]) rfl trivial (enters_of Tryz.func53 (by kernel_rfl) rfl)
    (parts_stops _ (w.heap.size + 1 + 1) cf n caps K L Dom w HA.out hn _ HG1.out) kpL_t (kpL_b HA.out hz1) (Below.refl _ _) (fun _ => rfl)
    (fun pre W => w1.heap.size ≤ W.heap.size ∧ ∃ v : Nat, LoS w W v ∧ ∀ k, pre.map Tk.i = List.range k → v = off K L k)
    (fun _ _ _ => False)
    (fun s X Y row h hg hr => by
      obtain ⟨hz, v, hs, hv⟩ := h
      exact ⟨Nat.le_trans hz hg.size, v, hs.kep hg (fun r e => ⟨by have := (hr r e).1; omega, (hr r e).2⟩), hv⟩)
    (fun _ _ _ _ _ hs _ _ => hs)
    ⟨Nat.le_refl _, 0, HS1.out, fun k hk => by rw [rng_nil hk]; rfl⟩
    (fun x a' W' => ∃ p, w1.heap.size ≤ p ∧ a' = ⟨#[.agg #[.int .i64 (n : Nat), .func (.func cf) #[] caps], .pointer (some ⟨w.heap.size, 0, none⟩), .int .i64 0, .pointer (some ⟨w.heap.size + 1, 0, none⟩), undef, .pointer (some ⟨p, 0, none⟩), .agg #[.int .i64 (n : Nat), .func (.func cf) #[] caps], .func (.func 53) #[] #[.pointer (some ⟨w.heap.size + 1 + 1, 0, none⟩)], .int .i64 (x.i : Nat), partV (K x.i) (L x.i) (off K L x.i) (off K L (x.i + 1)), undef, undef, undef], []⟩ ∧ PartAt W' p K L x.i)
    (fun x a' _ X Y row h hg hr => by obtain ⟨p, h0, h1, h2⟩ := h; exact ⟨p, h0, h1, h2.kept hg (fun r e => (hr r e).2)⟩)
    ?assign ?body ?done ?stop
  case assign =>
    rintro q pre x W KK ⟨hz, v, hs, hv⟩ hK
    have hB := (Below.refl W.heap.size W).alloc (Nat.le_refl _) (.cells #[.int .i64 (K x.i), .int .i64 (L x.i), .int .i64 (off K L x.i : Nat), .int .i64 (off K L (x.i + 1) : Nat)] 67)
    have hR := hK _ _ ((KeepsOthers.alloc W (.cells #[.int .i64 (K x.i), .int .i64 (L x.i), .int .i64 (off K L x.i : Nat), .int .i64 (off K L (x.i + 1) : Nat)] 67)).from _) (fun g => g.same HA.out hB) ⟨Nat.le_trans hz hB.size, v, hs.kep (below_grown hB none) (fun r e => by cases e), hv⟩ ⟨W.heap.size, hz, rfl, heap_alloc_new W _⟩
    unfold encL
    unfold partV at hR ⊢
    gi_wp2
    exact hR
  case body =>
    rintro q pre x a' W hq _ ⟨hz, v, hs, hv⟩ ⟨p, hp, rfl, hpa⟩ hlen
    have c3 : W.cell? ⟨p, 3, none⟩ = some (.int .i64 (off K L (x.i + 1) : Nat)) := by rw [cell_of_row W p 3 _ _ _ hpa]; rfl
    have d1 := hs.v.cell; have f1 := hs.v.frozen
    have hS7 : LoS w (W.setCell ⟨w.heap.size + 1, 0, none⟩ (.int .i64 (off K L (x.i + 1) : Nat))) (off K L (x.i + 1)) := ⟨hs.v.set _, hs.be.setCell (p := ⟨w.heap.size + 1, 0, none⟩) (by simp) _⟩
    have HS7 := Lib.hid hS7
    clear hS7 hpa hv
    have HZ := Lib.hid hz; clear hz hs
    gi_wp2
    refine ⟨(KeepsOthers.setCell _ _ _).from _, kpL_set HA.out ⟨w.heap.size + 1, 0, none⟩ _ (by simp) (fun h => absurd (HA.out.lt _ h) (by simp)), by simpa using HZ.out, _, HS7.out, fun k hk => ?_⟩
    obtain ⟨k2, rfl, _, e⟩ := rng_snoc hk
    rw [e]
  case done =>
    rintro D ys W hD hys ⟨hz, v, hs, hv⟩ hK
    obtain rfl := hv n hys
    have d1 := hs.v.cell
    have HS := Lib.hid hs; clear hs hv hys
    gi_wp2
    refine ⟨by simp, .inl ⟨_, _, rfl, run_takeDeferred hK, ?_⟩⟩
    exact ⟨_, results_tmp rfl _ _ _, rfl, HS.out.be.trans (belowK_b (w := w) (Nat.le_refl _) W D _ _ (by omega) hK rfl rfl)⟩
  case stop => exact fun _ _ _ _ _ _ h _ => h.elim
end Go.Proofs.YtkejabhjlflknaaGreat.Ly

namespace Go.Proofs.YtkejabhjlflknaaGreat.Ly
open Go.RowKit Go.Shelf
open Go.Proofs.YtkejabhjlflknaaGreat.Sp (wid Bad wid_le wid_hi wid_lo width_ok width_bad grown_dr grown_t Tk heap_kp bx_past)
attribute [local go_sem] Oper.semAt_some

/-- how many rows ask for at most so many. -/
def RdyN (n : Nat) (K : Nat → Int) (came : Int) (m : Nat) : Prop := m ≤ n ∧ (∀ i, i < m → K i ≤ came) ∧ (m < n → came < K m)
theorem RdyN.uniq {n : Nat} {K : Nat → Int} {came : Int} {m m' : Nat} (h : RdyN n K came m) (h' : RdyN n K came m') : m = m' := by
  rcases Nat.lt_trichotomy m m' with c | c | c
  · have := h.2.2 (Nat.lt_of_lt_of_le c h'.1); have := h'.2.1 m c; omega
  · exact c
  · have := h'.2.2 (Nat.lt_of_lt_of_le c h.1); have := h.2.1 m' c; omega
def RdySays (n : Nat) (K : Nat → Int) (came : Int) (e : Ending) : Prop := ∃ m : Nat, e = .returned (.int .i64 (m : Nat)) ∧ RdyN n K came m
/-- as ready goes through the rows. -/
structure ReS (n cf : Nat) (caps : Array Value) (came : Int) (w W : World) (v : Int) : Prop where
  sh : W.heap[w.heap.size]? = some (.cells #[.int .i64 (n : Nat), .func (.func cf) #[] caps] 59 (0, 0))
  c : Boxed W (w.heap.size + 1) 3 (.int .i64 came)
  v : Boxed W (w.heap.size + 1 + 1) 3 (.int .i64 v)
  be : Below w.heap.size w W
theorem ReS.kep {n cf : Nat} {caps : Array Value} {came v : Int} {w W W' : World} {row : Option Nat} (s : ReS n cf caps came w W v) (hg : W.grownBy W' row) (hr : ∀ r, row = some r → w.heap.size ≤ r ∧ ∃ o : Obj, W.heap[r]? = some o ∧ o.isCells = false) : ReS n cf caps came w W' v :=
  ⟨heap_kp s.sh hg (fun r e => (hr r e).2), heap_kp s.c hg (fun r e => (hr r e).2), heap_kp s.v hg (fun r e => (hr r e).2), s.be.grown hg s.be.size (fun k e => (hr k e).1)⟩
theorem ReS.set {n cf : Nat} {caps : Array Value} {came v v' : Int} {w W : World} (s : ReS n cf caps came w W v) : ReS n cf caps came w (W.setCell ⟨w.heap.size + 1 + 1, 0, none⟩ (.int .i64 v')) v' :=
  ⟨(heap_setCell_other W ⟨w.heap.size + 1 + 1, 0, none⟩ _ _ (by simp; omega)).trans s.sh, bx_past s.c (by omega), s.v.set _, s.be.setCell (p := ⟨w.heap.size + 1 + 1, 0, none⟩) (by simp; omega) _⟩
theorem results_ready {tmps : Array Value} {w : World} {p : Nat} {v : Int} (hp : tmps.getD 4 undef = .pointer (some ⟨p, 0, none⟩)) (c1 : w.cell? ⟨p, 0, none⟩ = some (.int .i64 v)) :
    (results Tryz.f42 tmps).run Tryz.prog w = .ok (.int .i64 v) w := by
  rw [Array.getD_eq_getD_getElem?] at hp
  simp [results, Tryz.f42, hp, go_sem, c1]

set_option maxRecDepth 100000 in
set_option maxHeartbeats 4000000 in
theorem ready_l (n cf : Nat) (caps : Array Value) (K L : Nat → Int) (Dom : Nat → Prop) (came : Int) (hn : n ≤ 8) (w : World) (hA : AskL Dom w cf n caps K L) :
    Calls Tryz.prog 42 #[.agg #[.int .i64 (n : Nat), .func (.func cf) #[] caps], .int .i64 came] w fun e w' => RdySays n K came e ∧ Below w.heap.size w w' := by
  refine (callsIn_wide (n := 6)).1 ?_
  have hW : ∀ k, Fence.wide.fn k := fun _ => trivial
  have hD : Fence.wide.depth = none := rfl
  have HA := Lib.hid hA
  clear hA
  refine callsIn_of_wp_marks Tryz.func42 rfl trivial ?_ rfl
  simp only [Tryz.ntmps42, List.size_toArray, List.length_cons, List.length_nil, Nat.reduceAdd, Nat.reduceSub, Array.replicate_succ, Array.replicate_zero, List.push_toArray, List.append_toArray, List.nil_append, List.cons_append]
  gi_wp2_with (first
    | (gi_at_call 30; refine (callsIn_wide.2 (parts_l _ _ _ _)).mono ?_; rintro e w1 ⟨rfl, hw1⟩))
  rw [← hw1]
  have hS1 : ReS n cf caps came w w1 0 := by
    rw [hw1]
    have b0 := ((((heap_alloc_new w (.cells #[.int .i64 (n : Nat), .func (.func cf) #[] caps] 59)))))
    have b1 := ((Boxed.new (w.alloc (.cells #[.int .i64 (n : Nat), .func (.func cf) #[] caps] 59)) 3 (.int .i64 came)).alloc (.cells #[.int .i64 0] 3)).alloc (.cells #[.int .i64 (n : Nat), .func (.func cf) #[] caps] 59)
    have b2 := (Boxed.new ((w.alloc (.cells #[.int .i64 (n : Nat), .func (.func cf) #[] caps] 59)).alloc (.cells #[.int .i64 came] 3)) 3 (.int .i64 0)).alloc (.cells #[.int .i64 (n : Nat), .func (.func cf) #[] caps] 59)
    refine ⟨?_, by simpa using b1, by simpa using b2, ((((Below.refl _ w).alloc (Nat.le_refl _) _).alloc (by simp) _).alloc (by simp; omega) _).alloc (by simp; omega) _⟩
    rw [Below.heap_alloc _ _ _ (by simp; omega), Below.heap_alloc _ _ _ (by simp; omega), Below.heap_alloc _ _ _ (by simp)]
    exact b0
  have hG1 : Gl (w.heap.size + 1 + 1 + 1) cf n caps Dom w w1 := by
    refine ⟨?_, HA.out.agr hS1.be, hS1.be.size⟩
    rw [hw1]
    have := heap_alloc_new (((w.alloc (.cells #[.int .i64 (n : Nat), .func (.func cf) #[] caps] 59)).alloc (.cells #[.int .i64 came] 3)).alloc (.cells #[.int .i64 0] 3)) (.cells #[.int .i64 (n : Nat), .func (.func cf) #[] caps] 59)
    simpa using this
  have hs1 : w.heap.size + 1 + 1 + 1 < w1.heap.size := hG1.lt
  have HS1 := Lib.hid hS1; have HG1 := Lib.hid hG1
  have hz1 := hS1.be.size
  clear hw1 hS1 hG1
  refine' wpIn_rangeFunc_ownH rfl (by omega) (gf := 53) (lb := #[.pointer (some ⟨w.heap.size + 1 + 1 + 1, 0, none⟩)]) rfl trivial (enters_of Tryz.func53 (by kernel_rfl) rfl)
    (parts_stops _ (w.heap.size + 1 + 1 + 1) cf n caps K L Dom w HA.out hn _ HG1.out) kpL_t (kpL_b HA.out hz1) (Below.refl _ _) (fun _ => rfl)
    (fun pre W => w1.heap.size ≤ W.heap.size ∧ ReS n cf caps came w W 0 ∧ ∀ k, pre.map Tk.i = List.range k → ∀ i, i < k → K i ≤ came)
    (fun cc pre W => cc = .ret ∧ ∃ v : Nat, ReS n cf caps came w W v ∧ v < n ∧ ∀ k, pre.map Tk.i = List.range k → RdyN n K came v)
    (fun s X Y row h hg hr => ⟨Nat.le_trans h.1 hg.size, h.2.1.kep hg (fun r e => ⟨by have := (hr r e).1; omega, (hr r e).2⟩), h.2.2⟩)
    (fun c s X Y row h hg hr => by
      obtain ⟨h0, v, hs, hv⟩ := h
      exact ⟨h0, v, hs.kep hg (fun r e => ⟨by have := (hr r e).1; omega, (hr r e).2⟩), hv⟩)
    ⟨Nat.le_refl _, HS1.out, fun k hk => by rw [rng_nil hk]; intro i hi; omega⟩
    (fun x a' W' => ∃ p, w1.heap.size ≤ p ∧ a' = ⟨#[.agg #[.int .i64 (n : Nat), .func (.func cf) #[] caps], .int .i64 came, .pointer (some ⟨w.heap.size, 0, none⟩), .pointer (some ⟨w.heap.size + 1, 0, none⟩), .pointer (some ⟨w.heap.size + 1 + 1, 0, none⟩), .int .i64 (x.i : Nat), .pointer (some ⟨p, 0, none⟩), .agg #[.int .i64 (n : Nat), .func (.func cf) #[] caps], .func (.func 53) #[] #[.pointer (some ⟨w.heap.size + 1 + 1 + 1, 0, none⟩)], .int .i64 (x.i : Nat), partV (K x.i) (L x.i) (off K L x.i) (off K L (x.i + 1)), undef, undef, undef, undef, undef, undef, undef, undef], []⟩ ∧ PartAt W' p K L x.i)
    (fun x a' _ X Y row h hg hr => by obtain ⟨p, h0, h1, h2⟩ := h; exact ⟨p, h0, h1, h2.kept hg (fun r e => (hr r e).2)⟩)
    ?assign ?body ?done ?stop
  case assign =>
    rintro q pre x W KK ⟨hz, hs, hv⟩ hK
    have hB := (Below.refl W.heap.size W).alloc (Nat.le_refl _) (.cells #[.int .i64 (K x.i), .int .i64 (L x.i), .int .i64 (off K L x.i : Nat), .int .i64 (off K L (x.i + 1) : Nat)] 67)
    have hR := hK _ _ ((KeepsOthers.alloc W (.cells #[.int .i64 (K x.i), .int .i64 (L x.i), .int .i64 (off K L x.i : Nat), .int .i64 (off K L (x.i + 1) : Nat)] 67)).from _) (fun g => g.same HA.out hB) ⟨Nat.le_trans hz hB.size, hs.kep (below_grown hB none) (fun r e => by cases e), hv⟩ ⟨W.heap.size, hz, rfl, heap_alloc_new W _⟩
    unfold encL
    unfold partV at hR ⊢
    gi_wp2
    exact hR
  case body =>
    rintro q pre x a' W hq _ ⟨hz, hs, hv⟩ ⟨p, hp, rfl, hpa⟩ hlen
    have c3 : W.cell? ⟨p, 0, none⟩ = some (.int .i64 (K x.i)) := by rw [cell_of_row W p 0 _ _ _ hpa]; rfl
    have d0 := hs.c.cell
    have d1 := hs.v.cell; have f1 := hs.v.frozen
    have HV := Lib.hid hv
    have HZ := Lib.hid hz
    have HS := Lib.hid hs
    clear hpa hv hz hs
    by_cases hc : came < K x.i
    · gi_wp2
      refine ⟨(KeepsOthers.setCell _ _ _).from _, rfl, x.i, HS.out.set, x.hi, fun k hk => ?_⟩
      obtain ⟨k2, rfl, h2, e⟩ := rng_snoc hk
      rw [e]
      exact ⟨by have := x.hi; omega, HV.out k2 h2, fun _ => by rw [← e]; exact hc⟩
    · have HC := Lib.hid hc
      gi_wp2
      refine ⟨KeepsFrom.refl _ _, fun g => g, HZ.out, HS.out, fun k hk i hi => ?_⟩
      obtain ⟨k2, rfl, h2, e⟩ := rng_snoc hk
      by_cases e2 : i = k2
      · rw [e2, ← e]; have := HC.out; omega
      · exact HV.out k2 h2 i (by omega)
  case done =>
    rintro D ys W hD hys ⟨hz, hs, hv⟩ hK
    have hR : RdyN n K came n := ⟨Nat.le_refl _, hv n hys, fun h => absurd h (Nat.lt_irrefl _)⟩
    have d1 := hs.v.cell; have f1 := hs.v.frozen
    have d2 : W.cell? ⟨w.heap.size, 0, none⟩ = some (.int .i64 (n : Nat)) := by rw [cell_of_row W w.heap.size 0 _ _ _ hs.sh]; rfl
    have HR := Lib.hid hR; have HS := Lib.hid hs
    clear hR hs hv hys
    gi_wp2
    have hK' := (KeepsOthers.setCell W ⟨w.heap.size + 1 + 1, 0, none⟩ (.int .i64 (n : Nat))).same D _ hK rfl
    refine ⟨by simp, .inl ⟨_, _, rfl, run_takeDeferred hK', ?_⟩⟩
    have hF := (HS.out.set (v' := (n : Nat))).kep (grownBy_putObj' _ D (.deferred none)) (fun k e => by cases e; exact ⟨by omega, _, hK', rfl⟩)
    exact ⟨_, results_ready rfl hF.v.cell, ⟨n, rfl, HR.out⟩, hF.be⟩
  case stop =>
    rintro D cc pre W hD ⟨k, hk, hp⟩ ⟨rfl, v, hs, hv, hr⟩ hK
    have HR := Lib.hid (hr k hp); have HS := Lib.hid hs
    clear hr hs hp
    gi_wp2
    refine ⟨by simp, .inl ⟨_, _, rfl, run_takeDeferred hK, ?_⟩⟩
    have hF := HS.out.kep (grownBy_putObj' _ D (.deferred none)) (fun k e => by cases e; exact ⟨by omega, _, hK, rfl⟩)
    exact ⟨_, results_ready rfl hF.v.cell, ⟨v, rfl, HR.out⟩, hF.be⟩
end Go.Proofs.YtkejabhjlflknaaGreat.Ly

namespace Go.Proofs.YtkejabhjlflknaaGreat.Ly
open Go.RowKit Go.Shelf
open Go.Proofs.YtkejabhjlflknaaGreat.Sp (wid Bad wid_le wid_hi wid_lo width_ok width_bad grown_dr grown_t Tk heap_kp bx_past)
attribute [local go_sem] Oper.semAt_some

/-- as right goes through the rows. -/
structure RiS (N : Int) (w W : World) (v : Bool) (le : Int) : Prop where
  n : Boxed W (w.heap.size + 1) 3 (.int .i64 N)
  v : Boxed W (w.heap.size + 1 + 1) 4 (.bool v)
  l : Boxed W (w.heap.size + 1 + 1 + 1) 3 (.int .i64 le)
  be : Below w.heap.size w W
theorem RiS.kep {N : Int} {v : Bool} {le : Int} {w W W' : World} {row : Option Nat} (s : RiS N w W v le) (hg : W.grownBy W' row) (hr : ∀ r, row = some r → w.heap.size ≤ r ∧ ∃ o : Obj, W.heap[r]? = some o ∧ o.isCells = false) : RiS N w W' v le :=
  ⟨heap_kp s.n hg (fun r e => (hr r e).2), heap_kp s.v hg (fun r e => (hr r e).2), heap_kp s.l hg (fun r e => (hr r e).2), s.be.grown hg s.be.size (fun k e => (hr k e).1)⟩
theorem RiS.set {N : Int} {v v' : Bool} {le : Int} {w W : World} (s : RiS N w W v le) : RiS N w (W.setCell ⟨w.heap.size + 1 + 1, 0, none⟩ (.bool v')) v' le :=
  ⟨bx_past s.n (by omega), s.v.set _, bx_past s.l (by omega), s.be.setCell (p := ⟨w.heap.size + 1 + 1, 0, none⟩) (by simp; omega) _⟩
theorem RiS.setL {N : Int} {v : Bool} {le le' : Int} {w W : World} (s : RiS N w W v le) : RiS N w (W.setCell ⟨w.heap.size + 1 + 1 + 1, 0, none⟩ (.int .i64 le')) v le' :=
  ⟨bx_past s.n (by omega), bx_past s.v (by omega), s.l.set _, s.be.setCell (p := ⟨w.heap.size + 1 + 1 + 1, 0, none⟩) (by simp; omega) _⟩
theorem results_right {tmps : Array Value} {w : World} {p : Nat} {v : Bool} (hp : tmps.getD 4 undef = .pointer (some ⟨p, 0, none⟩)) (c1 : w.cell? ⟨p, 0, none⟩ = some (.bool v)) :
    (results Tryz.f28 tmps).run Tryz.prog w = .ok (.bool v) w := by
  rw [Array.getD_eq_getD_getElem?] at hp
  simp [results, Tryz.f28, hp, go_sem, c1]
theorem below_abc {w : World} (a b c : Obj) : Below w.heap.size w (((w.alloc a).alloc b).alloc c) := (((Below.refl _ w).alloc (Nat.le_refl _) _).alloc (by simp) _).alloc (by simp; omega) _

set_option maxRecDepth 100000 in
set_option maxHeartbeats 4000000 in
theorem right_no (n cf : Nat) (caps : Array Value) (K L : Nat → Int) (N : Int) (hb : ¬ (1 ≤ N ∧ N ≤ 255 ∧ 1 ≤ n ∧ n ≤ 8)) (w : World) :
    Calls Tryz.prog 28 #[.agg #[.int .i64 (n : Nat), .func (.func cf) #[] caps], .int .i64 N] w fun e w' => TabSays N n K L e ∧ Below w.heap.size w w' := by
  have hno : TabSays N n K L (.returned (.bool false)) := ⟨false, rfl, ⟨(fun h => by cases h), fun h => absurd ⟨h.1, h.2.1, h.2.2.1, h.2.2.2.1⟩ hb⟩⟩
  have HNO := Lib.hid hno; have HB := Lib.hid hb; clear hno hb
  have hBe := fun x => below_abc (w := w) (.cells #[.int .i64 (n : Nat), .func (.func cf) #[] caps] 59) (.cells #[.int .i64 N] 3) (.cells #[x] 4)
  have HBE := Lib.hid hBe; clear hBe
  by_cases h1 : N < 1
  · have g1 : decide (N < 1) = true := by simp; omega
    go_enter Tryz.func28, Tryz.ntmps28
    go_wp2
    exact bodyPost_ret (results_right rfl (by first | rfl | simp [go_sem])) rfl ⟨HNO.out, HBE.out _⟩
  · have g1 : decide (N < 1) = false := by simp; omega
    by_cases h2 : 255 < N
    · have g2 : decide ((255 : Int) < N) = true := by simp; omega
      go_enter Tryz.func28, Tryz.ntmps28
      go_wp2
      exact bodyPost_ret (results_right rfl (by first | rfl | simp [go_sem])) rfl ⟨HNO.out, HBE.out _⟩
    · have g2 : decide ((255 : Int) < N) = false := by simp; omega
      by_cases h3 : n < 1
      · have g3 : decide ((n : Int) < 1) = true := by simp; omega
        go_enter Tryz.func28, Tryz.ntmps28
        go_wp2
        exact bodyPost_ret (results_right rfl (by first | rfl | simp [go_sem])) rfl ⟨HNO.out, HBE.out _⟩
      · have g3 : decide ((n : Int) < 1) = false := by simp; omega
        have h4 : 8 < n := by have := HB.out; omega
        have g4 : decide ((8 : Int) < (n : Int)) = true := by simp; omega
        go_enter Tryz.func28, Tryz.ntmps28
        go_wp2
        exact bodyPost_ret (results_right rfl (by first | rfl | simp [go_sem])) rfl ⟨HNO.out, HBE.out _⟩

set_option maxRecDepth 100000 in
set_option maxHeartbeats 4000000 in
theorem right_l (n cf : Nat) (caps : Array Value) (K L : Nat → Int) (Dom : Nat → Prop) (N : Int) (w : World) (hA : AskL Dom w cf n caps K L) :
    Calls Tryz.prog 28 #[.agg #[.int .i64 (n : Nat), .func (.func cf) #[] caps], .int .i64 N] w fun e w' => TabSays N n K L e ∧ Below w.heap.size w w' := by
  by_cases hb : 1 ≤ N ∧ N ≤ 255 ∧ 1 ≤ n ∧ n ≤ 8
  case neg => exact right_no n cf caps K L N hb w
  refine (callsIn_wide (n := 6)).1 ?_
  have hW : ∀ k, Fence.wide.fn k := fun _ => trivial
  have hD : Fence.wide.depth = none := rfl
  have HA := Lib.hid hA
  clear hA
  refine callsIn_of_wp_marks Tryz.func28 rfl trivial ?_ rfl
  simp only [Tryz.ntmps28, List.size_toArray, List.length_cons, List.length_nil, Nat.reduceAdd, Nat.reduceSub, Array.replicate_succ, Array.replicate_zero, List.push_toArray, List.append_toArray, List.nil_append, List.cons_append]
  obtain ⟨h1, h2, h3, h4⟩ := hb
  have i1 : decide (N < 1) = false := by simp; omega
  have i2 : decide ((255 : Int) < N) = false := by simp; omega
  have i3 : decide ((n : Int) < 1) = false := by simp; omega
  have i4 : decide ((8 : Int) < (n : Int)) = false := by simp; omega
  gi_wp2_with (first
    | (gi_at_call 30; refine (callsIn_wide.2 (parts_l _ _ _ _)).mono ?_; rintro e w1 ⟨rfl, hw1⟩))
  clear i1 i2 i3 i4
  rw [← hw1]
  have hS1 : RiS N w w1 false 1 := by
    rw [hw1]
    have b1 := (((Boxed.new (w.alloc (.cells #[.int .i64 (n : Nat), .func (.func cf) #[] caps] 59)) 3 (.int .i64 N)).alloc (.cells #[.bool false] 4)).alloc (.cells #[.int .i64 1] 3)).alloc (.cells #[.int .i64 (n : Nat), .func (.func cf) #[] caps] 59)
    have b2 := ((Boxed.new ((w.alloc (.cells #[.int .i64 (n : Nat), .func (.func cf) #[] caps] 59)).alloc (.cells #[.int .i64 N] 3)) 4 (.bool false)).alloc (.cells #[.int .i64 1] 3)).alloc (.cells #[.int .i64 (n : Nat), .func (.func cf) #[] caps] 59)
    have b3 := (Boxed.new (((w.alloc (.cells #[.int .i64 (n : Nat), .func (.func cf) #[] caps] 59)).alloc (.cells #[.int .i64 N] 3)).alloc (.cells #[.bool false] 4)) 3 (.int .i64 1)).alloc (.cells #[.int .i64 (n : Nat), .func (.func cf) #[] caps] 59)
    exact ⟨by simpa using b1, by simpa using b2, by simpa using b3, ((below_abc _ _ _).alloc (by simp; omega) _).alloc (by simp; omega) _⟩
  have hG1 : Gl (w.heap.size + 1 + 1 + 1 + 1) cf n caps Dom w w1 := by
    refine ⟨?_, HA.out.agr hS1.be, hS1.be.size⟩
    rw [hw1]
    have := heap_alloc_new ((((w.alloc (.cells #[.int .i64 (n : Nat), .func (.func cf) #[] caps] 59)).alloc (.cells #[.int .i64 N] 3)).alloc (.cells #[.bool false] 4)).alloc (.cells #[.int .i64 1] 3)) (.cells #[.int .i64 (n : Nat), .func (.func cf) #[] caps] 59)
    simpa using this
  have hs1 : w.heap.size + 1 + 1 + 1 + 1 < w1.heap.size := hG1.lt
  have HS1 := Lib.hid hS1; have HG1 := Lib.hid hG1
  have hz1 := hS1.be.size
  clear hw1 hS1 hG1
  refine' wpIn_rangeFunc_ownH rfl (by omega) (gf := 53) (lb := #[.pointer (some ⟨w.heap.size + 1 + 1 + 1 + 1, 0, none⟩)]) rfl trivial (enters_of Tryz.func53 (by kernel_rfl) rfl)
    (parts_stops _ (w.heap.size + 1 + 1 + 1 + 1) cf n caps K L Dom w HA.out h4 _ HG1.out) kpL_t (kpL_b HA.out hz1) (Below.refl _ _) (fun _ => rfl)
    (fun pre W => w1.heap.size ≤ W.heap.size ∧ ∃ le, RiS N w W false le ∧ ∀ k, pre.map Tk.i = List.range k → le = lst K k ∧ ∀ i, i < k → RowOk N K L i)
    (fun cc pre W => cc = .ret ∧ ∃ le, RiS N w W false le ∧ ∀ k, pre.map Tk.i = List.range k → ∃ i, i < n ∧ ¬ RowOk N K L i)
    (fun s X Y row h hg hr => by
      obtain ⟨h0, v, hs, hv⟩ := h
      exact ⟨Nat.le_trans h0 hg.size, v, hs.kep hg (fun r e => ⟨by have := (hr r e).1; omega, (hr r e).2⟩), hv⟩)
    (fun c s X Y row h hg hr => by
      obtain ⟨h0, v, hs, hv⟩ := h
      exact ⟨h0, v, hs.kep hg (fun r e => ⟨by have := (hr r e).1; omega, (hr r e).2⟩), hv⟩)
    ⟨Nat.le_refl _, 1, HS1.out, fun k hk => by rw [rng_nil hk]; exact ⟨rfl, fun i hi => absurd hi (Nat.not_lt_zero i)⟩⟩
    (fun x a' W' => ∃ p, w1.heap.size ≤ p ∧ a' = ⟨#[.agg #[.int .i64 (n : Nat), .func (.func cf) #[] caps], .int .i64 N, .pointer (some ⟨w.heap.size, 0, none⟩), .pointer (some ⟨w.heap.size + 1, 0, none⟩), .pointer (some ⟨w.heap.size + 1 + 1, 0, none⟩), .pointer (some ⟨w.heap.size + 1 + 1 + 1, 0, none⟩), undef, .pointer (some ⟨p, 0, none⟩), .int .i64 N, .bool false, .bool false, .int .i64 N, .bool false, .bool false, .bool false, .pointer (some ⟨w.heap.size, 0, none⟩), .int .i64 (n : Nat), .bool false, .bool false, .bool false, .pointer (some ⟨w.heap.size, 0, none⟩), .int .i64 (n : Nat), .bool false, .bool false, .agg #[.int .i64 (n : Nat), .func (.func cf) #[] caps], .func (.func 53) #[] #[.pointer (some ⟨w.heap.size + 1 + 1 + 1 + 1, 0, none⟩)], .int .i64 (x.i : Nat), partV (K x.i) (L x.i) (off K L x.i) (off K L (x.i + 1)), undef, undef, undef, undef, undef, undef, undef, undef, undef, undef, undef, undef, undef, undef, undef, undef, undef, undef, undef, undef, undef, undef, undef, undef, undef, undef, undef], []⟩ ∧ PartAt W' p K L x.i)
    (fun x a' _ X Y row h hg hr => by obtain ⟨p, h0, h1, h2⟩ := h; exact ⟨p, h0, h1, h2.kept hg (fun r e => (hr r e).2)⟩)
    ?assign ?body ?done ?stop
  case assign =>
    rintro q pre x W KK ⟨hz, le, hs, hv⟩ hK
    have hB := (Below.refl W.heap.size W).alloc (Nat.le_refl _) (.cells #[.int .i64 (K x.i), .int .i64 (L x.i), .int .i64 (off K L x.i : Nat), .int .i64 (off K L (x.i + 1) : Nat)] 67)
    have hR := hK _ _ ((KeepsOthers.alloc W (.cells #[.int .i64 (K x.i), .int .i64 (L x.i), .int .i64 (off K L x.i : Nat), .int .i64 (off K L (x.i + 1) : Nat)] 67)).from _) (fun g => g.same HA.out hB) ⟨Nat.le_trans hz hB.size, le, hs.kep (below_grown hB none) (fun r e => by cases e), hv⟩ ⟨W.heap.size, hz, rfl, heap_alloc_new W _⟩
    unfold encL
    unfold partV at hR ⊢
    gi_wp2
    exact hR
  case body =>
    rintro q pre x a' W hq _ ⟨hz, le, hs, hv⟩ ⟨p, hp, rfl, hpa⟩ hlen
    have c1 : W.cell? ⟨p, 0, none⟩ = some (.int .i64 (K x.i)) := by rw [cell_of_row W p 0 _ _ _ hpa]; rfl
    have c2 : W.cell? ⟨p, 1, none⟩ = some (.int .i64 (L x.i)) := by rw [cell_of_row W p 1 _ _ _ hpa]; rfl
    have d0 := hs.n.cell; have d2 := hs.l.cell; have f2 := hs.l.frozen
    have d1 := hs.v.cell; have f1 := hs.v.frozen
    have HV := Lib.hid hv
    have HZ := Lib.hid hz
    have HS := Lib.hid hs
    clear hpa hv hz hs
    by_cases hok : le ≤ K x.i ∧ K x.i ≤ N ∧ 0 ≤ L x.i ∧ L x.i ≤ 65535
    · have g1 : decide (K x.i < le) = false := by simp; omega
      have g2 : decide (N < K x.i) = false := by simp; omega
      have g3 : decide (L x.i < 0) = false := by simp; omega
      have g4 : decide ((65535 : Int) < L x.i) = false := by simp; omega
      have HOK := Lib.hid hok; clear hok
      gi_wp2
      refine ⟨(KeepsOthers.setCell _ _ _).from _, kpL_set HA.out ⟨w.heap.size + 1 + 1 + 1, 0, none⟩ _ (by simp) (fun h => absurd (HA.out.lt _ h) (by simp; omega)), by simpa using HZ.out, K x.i, HS.out.setL, fun k hk => ?_⟩
      obtain ⟨k2, rfl, h2, e⟩ := rng_snoc hk
      obtain ⟨hle, hro⟩ := HV.out k2 h2
      have hok := HOK.out
      rw [e, hle] at hok
      rw [e]
      refine ⟨rfl, fun i hi => ?_⟩
      by_cases e2 : i = k2
      · rw [e2]; exact (row_lst hro).2 hok
      · exact hro i (by omega)
    · have hno : ∀ k, (pre ++ [x]).map Tk.i = List.range k → ∃ i, i < n ∧ ¬ RowOk N K L i := fun k hk => by
        obtain ⟨k2, rfl, h2, e⟩ := rng_snoc hk
        obtain ⟨hle, hro⟩ := HV.out k2 h2
        refine ⟨k2, by have := x.hi; omega, fun h => hok ?_⟩
        rw [e, hle]
        exact (row_lst hro).1 h
      have HNO := Lib.hid hno; clear hno
      by_cases c1 : K x.i < le
      · have g1 : decide (K x.i < le) = true := by simp; omega
        clear hok
        gi_wp2
        first | exact ⟨(KeepsOthers.setCell _ _ _).from _, rfl, ⟨le, HS.out.set⟩, HNO.out⟩ | exact ⟨(KeepsOthers.setCell _ _ _).from _, rfl, le, HS.out.set, HNO.out⟩
      · have g1 : decide (K x.i < le) = false := by simp; omega
        by_cases c2 : N < K x.i
        · have g2 : decide (N < K x.i) = true := by simp; omega
          clear hok
          gi_wp2
          first | exact ⟨(KeepsOthers.setCell _ _ _).from _, rfl, ⟨le, HS.out.set⟩, HNO.out⟩ | exact ⟨(KeepsOthers.setCell _ _ _).from _, rfl, le, HS.out.set, HNO.out⟩
        · have g2 : decide (N < K x.i) = false := by simp; omega
          by_cases c3 : L x.i < 0
          · have g3 : decide (L x.i < 0) = true := by simp; omega
            clear hok
            gi_wp2
            first | exact ⟨(KeepsOthers.setCell _ _ _).from _, rfl, ⟨le, HS.out.set⟩, HNO.out⟩ | exact ⟨(KeepsOthers.setCell _ _ _).from _, rfl, le, HS.out.set, HNO.out⟩
          · have g3 : decide (L x.i < 0) = false := by simp; omega
            have g4 : decide ((65535 : Int) < L x.i) = true := by simp; omega
            clear hok
            gi_wp2
            first | exact ⟨(KeepsOthers.setCell _ _ _).from _, rfl, ⟨le, HS.out.set⟩, HNO.out⟩ | exact ⟨(KeepsOthers.setCell _ _ _).from _, rfl, le, HS.out.set, HNO.out⟩
  case done =>
    rintro D ys W hD hys ⟨hz, le, hs, hv⟩ hK
    have hT : TabOk N n K L := ⟨h1, h2, h3, h4, (hv n hys).2⟩
    have d1 := hs.v.cell; have f1 := hs.v.frozen
    have HT := Lib.hid hT; have HS := Lib.hid hs
    clear hT hs hv hys
    gi_wp2
    have hK' := (KeepsOthers.setCell W ⟨w.heap.size + 1 + 1, 0, none⟩ (.bool true)).same D _ hK rfl
    refine ⟨by simp, .inl ⟨_, _, rfl, run_takeDeferred hK', ?_⟩⟩
    have hF := (HS.out.set (v' := true)).kep (grownBy_putObj' _ D (.deferred none)) (fun k e => by cases e; exact ⟨by omega, _, hK', rfl⟩)
    exact ⟨_, results_right rfl hF.v.cell, ⟨true, rfl, fun _ => HT.out, fun _ => rfl⟩, hF.be⟩
  case stop =>
    rintro D cc pre W hD ⟨k, hk, hp⟩ ⟨rfl, le, hs, hr⟩ hK
    have HR := Lib.hid (hr k hp); have HS := Lib.hid hs
    clear hr hs hp
    gi_wp2
    refine ⟨by simp, .inl ⟨_, _, rfl, run_takeDeferred hK, ?_⟩⟩
    have hF := HS.out.kep (grownBy_putObj' _ D (.deferred none)) (fun k e => by cases e; exact ⟨by omega, _, hK, rfl⟩)
    refine ⟨_, results_right rfl hF.v.cell, ⟨false, rfl, (fun h => by cases h), fun h => ?_⟩, hF.be⟩
    obtain ⟨i, hi, hn⟩ := HR.out
    exact absurd (h.2.2.2.2 i hi) hn
end Go.Proofs.YtkejabhjlflknaaGreat.Ly

namespace Go.Proofs.YtkejabhjlflknaaGreat.Ly
open Go.RowKit Go.Shelf
open Go.Proofs.YtkejabhjlflknaaGreat.Sp (Bad wid wid_le wid_hi wid_lo CutFin cut_ok crow crow_by crow_up)
attribute [local go_sem] Oper.semAt_some

/-- what turned, if anything, are rows of a list. -/
structure BtR (w w' : World) (b : Nat → Nat) (N : Nat) : Prop where
  os : w'.os = w.os
  tape : w'.tape = w.tape
  output : w'.output = w.output
  size : w.heap.size ≤ w'.heap.size
  block : ∀ k, k < w.heap.size → (∀ i, i < N → k ≠ b i) → w'.heap[k]? = w.heap[k]?
section
variable {w w1 w2 : World} {b : Nat → Nat} {N : Nat}
theorem BtR.refl : BtR w w b N := ⟨rfl, rfl, rfl, Nat.le_refl _, fun _ _ _ => rfl⟩
theorem BtR.below (h : BtR w w1 b N) (k : Below w1.heap.size w1 w2) : BtR w w2 b N :=
  ⟨k.os.trans h.os, k.tape.trans h.tape, k.output.trans h.output, Nat.le_trans h.size k.size, fun i hi hn => (k.block i (Nat.lt_of_lt_of_le hi h.size)).trans (h.block i hi hn)⟩
theorem BtR.grown (h : BtR w w1 b N) {r : Nat} (hr : r < N) (k : w1.grownBy w2 (some (b r))) : BtR w w2 b N :=
  ⟨k.os.trans h.os, k.tape.trans h.tape, k.output.trans h.output, Nat.le_trans h.size k.size, fun i hi hn => (k.block i (Nat.lt_of_lt_of_le hi h.size) (fun e => hn r hr (by injection e))).trans (h.block i hi hn)⟩
theorem BtR.trans (h : BtR w w1 b N) (k : BtR w1 w2 b N) : BtR w w2 b N :=
  ⟨k.os.trans h.os, k.tape.trans h.tape, k.output.trans h.output, Nat.le_trans h.size k.size, fun i hi hn => (k.block i (Nat.lt_of_lt_of_le hi h.size) hn).trans (h.block i hi hn)⟩
end

/-- a part of a slice that ends where it ends. -/
theorem slice_st (a : Option Addr) (n cap l wi : Nat) (h : l + wi ≤ cap) (W : World) :
    (Instr.slice 50 (.slice a n cap) (some (.int .i64 (l : Nat))) (some (.int .i64 (l + wi : Nat))) (some (.int .i64 (l + wi : Nat)))).run Tryz.prog W = .ok (.slice (cutA a l (l + wi)) wi wi) W := by
  rw [run_slice_lhm (P := Tryz.prog) W 50 _ n cap und8 .i64 .i64 .i64 l (l + wi : Nat) (l + wi : Nat) (by omega) (by omega) (by omega) (by omega), size8]
  have e : (((l + wi : Nat) : Int)).toNat = l + wi := Int.toNat_natCast _
  simp only [Result.andThen, sliced, cutA, e, Int.toNat_natCast, Nat.mul_one, Nat.add_sub_cancel_left]
theorem sl_st {w : World} {a : Option Addr} {n cap : Nat} {f : Nat → Nat} (h : Sl w a n cap f) {l wi : Nat} (hl : l + wi ≤ n) : Sl w (cutA a l (l + wi)) wi wi (sub f l wi) := by
  have hm := h.maxOk; have hc := h.capOk
  unfold cutA
  by_cases c : wi = 0
  · subst c
    rw [if_pos (Nat.add_zero _)]
    have := Sl.none_ w a 0 (Nat.zero_le _) (fun _ => rfl)
    have e : sub f l 0 = fun _ => 0 := funext fun i => if_neg (by omega)
    rw [e]; exact this
  · rw [if_neg (by omega)]
    cases a with
    | none => have := h.nil rfl; omega
    | some ad =>
      obtain ⟨b, o, s⟩ := ad
      obtain rfl : s = none := h.spot _ rfl (by omega)
      have := h.sub hl
      show Sl w (some ((⟨b, o, none⟩ : Addr).add l)) wi wi (sub f l wi)
      rw [Addr.add_lit]
      exact ⟨Nat.le_refl _, by omega, this.bytes, this.up, (fun e => by cases e), this.spot, this.cell⟩
set_option maxHeartbeats 1000000 in
theorem stripe_any (K L : Int) (fr wi to_ : Nat) (a : Option Addr) (n cap : Nat) (hto : to_ = fr + wi) (h : to_ ≤ cap) (w : World) :
    Calls Tryz.prog 58 #[partV K L fr to_, .slice a n cap] w fun e w' => e = .returned (.slice (cutA a fr to_) wi wi) ∧ Below w.heap.size w w' := by
  subst hto
  have hB := (Below.refl w.heap.size w).alloc (Nat.le_refl _) (.cells #[.int .i64 K, .int .i64 L, .int .i64 (fr : Nat), .int .i64 (fr + wi : Nat)] 67)
  have hsl := slice_st a n cap fr wi h
  have HSL := Lib.hid hsl; have HB := Lib.hid hB
  clear hB hsl
  unfold partV
  generalize fr + wi = to_ at *
  generalize cutA a fr to_ = ca at *
  have hsl := HSL.out
  go_enter Tryz.func58, Tryz.ntmps58
  go_wp2_with fail
  go_ret
  exact ⟨rfl, HB.out⟩

/-- rows over which stripes were laid, as far as k. -/
def laidF (fr wi : Nat) (E F : Nat → Nat → Nat) (k i : Nat) : Nat → Nat := if i < k then cpy fr wi (E i) (F i) else F i
theorem laidF_s (fr wi : Nat) (E F : Nat → Nat → Nat) (k : Nat) : (fun i j => if i = k then cpy fr wi (E k) (laidF fr wi E F k k) j else laidF fr wi E F k i j) = laidF fr wi E F (k + 1) := funext fun i => funext fun j => by
  unfold laidF
  by_cases e : i = k
  · subst e; rw [if_pos rfl, if_neg (Nat.lt_irrefl _), if_pos (Nat.lt_succ_self _)]
  · rw [if_neg e]
    by_cases h : i < k
    · rw [if_pos h, if_pos (by omega)]
    · rw [if_neg h, if_neg (by omega)]
/-- as spread goes through the bodies. -/
structure SpS (w w2 wr : World) (B G Ge N T fr wi to_ K L : Nat) (b be : Nat → Nat) (E F : Nat → Nat → Nat) (k : Nat) : Prop where
  g : Gr wr B G N N b (fun _ => T) (fun _ => T) (laidF fr wi E F k)
  e : Gr wr w2.heap.size Ge N N be (fun _ => wi) (fun _ => wi) E
  t : BtR w wr b N
  p : wr.heap[w.heap.size]? = some (.cells #[.int .i64 (K : Nat), .int .i64 (L : Nat), .int .i64 (fr : Nat), .int .i64 (to_ : Nat)] 67 (0, 0))
theorem crow_bm (f : Nat → Nat) (wi : Nat) (h : Pf.By f) : Mt.Bm (crow f wi) := fun i => crow_by h wi i
def SpreadSays (w : World) (B G N T fr wi : Nat) (b : Nat → Nat) (E F : Nat → Nat → Nat) (e : Ending) (w' : World) : Prop :=
  e = .returned (.int .i64 0) ∧ Gr w' B G N N b (fun _ => T) (fun _ => T) (laidF fr wi E F N) ∧ BtR w w' b N
set_option maxHeartbeats 4000000 in
set_option maxRecDepth 100000 in
theorem spread_any (L K fr to_ T : Nat) (hto : to_ = fr + wid L K) (a : Option Addr) (cap : Nat) (f : Nat → Nat) (B G N : Nat) (b : Nat → Nat) (F : Nat → Nat → Nat) (hL : L ≤ 65535) (h1 : 1 ≤ K) (h2 : K ≤ N) (h3 : N ≤ 255) (hT : to_ ≤ T) (w : World) (hS : Sl w a L cap f) (hG : Gr w B G N N b (fun _ => T) (fun _ => T) F) :
    Calls Tryz.prog 31 #[partV (K : Nat) (L : Nat) fr to_, .slice a L cap, .slice (some ⟨G, 0, none⟩) N N] w (SpreadSays w B G N T fr (wid L K) b (enc K (crow f (wid L K))) F) := by
  have hby := hS.bytes; have hup := hS.up
  have hlo := wid_lo (L := L) h1
  have hle := wid_le (L := L) h1
  have hpa : (w.alloc (.cells #[.int .i64 (K : Nat), .int .i64 (L : Nat), .int .i64 (fr : Nat), .int .i64 (to_ : Nat)] 67)).heap[w.heap.size]? = _ := heap_alloc_new w _
  have hB0 := (Below.refl w.heap.size w).alloc (Nat.le_refl _) (.cells #[.int .i64 (K : Nat), .int .i64 (L : Nat), .int .i64 (fr : Nat), .int .i64 (to_ : Nat)] 67)
  have HS := Lib.hid hS; have HG := Lib.hid hG; have HPA := Lib.hid hpa; have HB0 := Lib.hid hB0; have HBY := Lib.hid hby; have HUP := Lib.hid hup; have HT0 := Lib.hid hto
  clear hS hG hpa hB0 hby hup hto
  unfold partV
  go_enter Tryz.func31, Tryz.ntmps31
  go_wp2_with fail
  refine (cnew_yes N K h1 h2 h3 _).mono ?_
  rintro e w1 ⟨cb, fb, G2, b2, rfl, hC, hB1⟩
  have c0 : w1.cell? ⟨w.heap.size, 0, none⟩ = some (.int .i64 (K : Nat)) := by rw [cell_of_row w1 w.heap.size 0 _ _ _ ((hB1.block _ (by simp)).trans HPA.out)]; rfl
  have HC := Lib.hid hC; have HB1 := Lib.hid (HB0.out.trans (hB1.mono HB0.out.size)); have HPA1 := Lib.hid ((hB1.block _ (by simp)).trans HPA.out)
  clear hC hB1
  go_wp2_with fail
  refine (cut_ok a L cap K f hL h1 (by omega) _ (HS.out.same HB1.out)).mono ?_
  rintro e w2 ⟨Gc, rfl, hf⟩
  obtain ⟨gq, _, _, _, hB2, _, _, hRd⟩ := CutFin.rd hf HBY.out HUP.out (by omega) (by omega)
  have HRd := Lib.hid hRd; have HB2 := Lib.hid (HB1.out.trans (hB2.mono HB1.out.size)); have HC2 := Lib.hid (HC.out.same hB2)
  have HPA2 := Lib.hid ((hB2.block _ (by have := HB1.out.size; have := (Array.getElem?_eq_some_iff.1 HPA1.out).1; omega)).trans HPA1.out)
  clear hf hB2 hRd c0
  go_wp2_with fail
  refine (cencode_any cb fb G2 N K b2 (some ⟨Gc, 0, none⟩) K K _ _ _ _ (by omega) (fun _ _ => by omega) _ HC2.out HRd.out).mono ?_
  rintro e w3 (⟨hn, _⟩ | ⟨_, Ge, be, rfl, hGe, hB3⟩)
  · exact absurd ⟨rfl, fun _ _ => rfl⟩ hn
  have HGE := Lib.hid hGe; have HB3 := Lib.hid (HB2.out.trans (hB3.mono HB2.out.size))
  have HPA3 := Lib.hid ((hB3.block _ (Array.getElem?_eq_some_iff.1 HPA2.out).1).trans HPA2.out)
  have hw2 : w.heap.size < w2.heap.size := (Array.getElem?_eq_some_iff.1 HPA2.out).1
  clear hGe hB3
  have hBt := Lib.hid ((BtR.refl (w := w) (b := b) (N := N)).below HB3.out)
  have HG3 := Lib.hid (HG.out.same HB3.out)
  have HEM := Lib.hid (enc_bm (K := K) (crow_bm f (wid L K) HBY.out))
  have hbl := Lib.hid (fun i (hi : i < N) => HG.out.ltb hi)
  have hto := HT0.out
  clear HT0
  generalize enc K (crow f (wid L K)) = E at *
  generalize hwi : wid L K = wi at *
  have HWI := Lib.hid hwi
  have HTO := Lib.hid hto
  clear hwi hto
  go_wp2_with fail
  go_loopw [44] (fun i wr => ∃ k : Nat, k ≤ N ∧ i = .int .i64 (k : Nat) ∧ SpS w w2 wr B G Ge N T fr wi to_ K L b be E F k) (fun i _ => N - (intOf i).toNat)
  case atStart => exact ⟨0, by omega, rfl, ⟨HG3.out.congr HG3.out.bm (fun i j _ => by unfold laidF; rw [if_neg (by omega)]), HGE.out, hBt.out, HPA3.out⟩⟩
  case round =>
    obtain ⟨k, hk, rfl, hs⟩ := hrel
    have HSS := Lib.hid hs
    by_cases hlt : k < N
    · have i1 : (k : Int) < (N : Int) := by omega
      have c1 : wr.cell? ⟨Ge, k, none⟩ = some (.slice (some ⟨be k, 0, none⟩) wi wi) := hs.e.cell hlt
      have c2 : wr.cell? ⟨G, k, none⟩ = some (.slice (some ⟨b k, 0, none⟩) T T) := hs.g.cell hlt
      have p0 : wr.cell? ⟨w.heap.size, 0, none⟩ = some (.int .i64 (K : Nat)) := by rw [cell_of_row wr w.heap.size 0 _ _ _ hs.p]; rfl
      have p1 : wr.cell? ⟨w.heap.size, 1, none⟩ = some (.int .i64 (L : Nat)) := by rw [cell_of_row wr w.heap.size 1 _ _ _ hs.p]; rfl
      have p2 : wr.cell? ⟨w.heap.size, 2, none⟩ = some (.int .i64 (fr : Nat)) := by rw [cell_of_row wr w.heap.size 2 _ _ _ hs.p]; rfl
      have p3 : wr.cell? ⟨w.heap.size, 3, none⟩ = some (.int .i64 (to_ : Nat)) := by rw [cell_of_row wr w.heap.size 3 _ _ _ hs.p]; rfl
      have y0 := fun d os => cell_regrown c2 d os
      have y1 := fun d os => cell_regrown p0 d os
      have y2 := fun d os => cell_regrown p1 d os
      have y3 := fun d os => cell_regrown p2 d os
      have y4 := fun d os => cell_regrown p3 d os
      clear c2 p0 p1 p2 p3 hs
      go_wp2_with fail
      refine Rb.wp_region_quiet_tailC (C := fun w' => ∃ p : Regrown, w' = Go.Sort.grow (redrawn wr p.d) p.os) 7 (by kernel_rfl) (by kernel_rfl) ⟨⟨wr.drawn + 1, #[]⟩, by rw [Go.Sort.grow_empty]; rfl⟩ ?_
      simp only [List.take_succ_cons, List.take_zero, List.drop_succ_cons, List.drop_zero]
      repeat (go_big_quiet_step ((go_at_call 58; exact Calls.regrown_of (stripe_any (K : Nat) (L : Nat) fr wi to_ _ T T HTO.out hT _))))
      refine wpQuiet_nil ?_
      rintro W1 ⟨pq, hW1⟩
      have hB1 : Below wr.heap.size wr W1 := by rw [hW1]; exact below_regrown _ _ _
      have HB1w := Lib.hid hB1
      have HG1 := Lib.hid (HSS.out.g.same hB1); have HE1 := Lib.hid (HSS.out.e.same hB1); have HT1 := Lib.hid (HSS.out.t.below hB1)
      have HP1 := Lib.hid ((hB1.block _ (Array.getElem?_eq_some_iff.1 HSS.out.p).1).trans HSS.out.p)
      clear hW1 hB1 y0 y1 y2 y3 y4 c1
      refine wpList_copy_bl rfl (.tmp 54) (.tmp 55) 50 50 rfl 5 Tryz.underlying50 Tryz.sizeU8 _ _ _ _ _ _ wi rfl rfl (Nat.min_self wi).symm (b k) fr T T _ (E k) (HG1.out.row k hlt) (fun _ => (HE1.out.row k hlt).sl (Nat.le_refl _) (HE1.out.lc k hlt).2 (HE1.out.bm k) (HE1.out.up k hlt)) ?_ (by have := HTO.out; omega) (Nat.le_refl _) ?_
      · intro hpos
        unfold cutA
        rw [if_neg (by have := HTO.out; omega), Option.map_some, Addr.add_lit, Nat.zero_add]
      · intro W2 HBL HGR
        have hbk := hbl.out k hlt
        have HG2 := Lib.hid (HG1.out.rowset hlt HGR.out HBL.out (cpy_by (HEM.out k) (HG1.out.bm k)) (cpy_up (by have := HTO.out; omega) (HG1.out.up k hlt)))
        have HE2 := Lib.hid (HE1.out.grown HGR.out (fun e => by injection e; have := HGE.out.lo.1; omega) (fun j hj e => by injection e; have := HGE.out.lo.2 j hj; omega))
        have HT2 := Lib.hid (HT1.out.grown hlt HGR.out)
        have HP2 := Lib.hid ((HGR.out.block _ (Array.getElem?_eq_some_iff.1 HP1.out).1 (fun e => by injection e; have := hbl.out k hlt; omega)).trans HP1.out)
        clear HBL HGR
        go_wp2
        go_roundw
        case rel => exact ⟨k + 1, by omega, by go_num, ⟨by rw [← laidF_s]; exact HG2.out, HE2.out, HT2.out, HP2.out⟩⟩
        case measure => simp [intOf]; omega
    · obtain rfl : k = N := by omega
      have i1 : ¬ (k : Int) < (k : Int) := by omega
      go_wp2
      go_ret
      exact ⟨rfl, HSS.out.g, HSS.out.t⟩
end Go.Proofs.YtkejabhjlflknaaGreat.Ly

namespace Go.Proofs.YtkejabhjlflknaaGreat.Ly
open Go.RowKit Go.Shelf
open Go.Proofs.YtkejabhjlflknaaGreat.Sp (Bad wid wid_le wid_hi wid_lo join_ok)
attribute [local go_sem] Oper.semAt_some

theorem Tryz.infoHeldL : (Tryz.prog.info? 54).map (fun i => (i.zero, i.size, i.bytes)) = some (some (.agg #[.int .i64 0, .slice none 0 0]), 2, 32) := by kernel_rfl
theorem hmkH (N : Nat) (hN : N ≤ 1000000000) : ∀ W : World, (Instr.makeSlice 37 (.int .i64 (N : Nat)) (.int .i64 (N : Nat))).run Tryz.prog W = .ok (.slice (some ⟨W.heap.size, 0, none⟩) N N) (W.alloc (.cells (madeCells #[.int .i64 0, .slice none 0 0] (N * 2)) 54)) := fun W => by
  obtain ⟨i0, hi, hz0, hz1, hz2⟩ := info_parts Tryz.infoHeldL
  have := run_make (P := Tryz.prog) W 37 54 i0 (.agg #[.int .i64 0, .slice none 0 0]) Tryz.underlying37 hi hz0 .i64 .i64 (N : Int) (N : Int) (by omega) (Int.le_refl _) (by rw [hz2]; omega) (by omega)
  have e : (Value.agg #[.int .i64 0, .slice none 0 0]).cells = #[.int .i64 0, .slice none 0 0] := rfl
  rw [hz1, e, Int.toNat_natCast] at this; exact this
/-- what is held, that is put into a list of its own, as far as k. -/
def Sy (w : World) (g K k : Nat) (h : Nat → Int) (r : Nat → Option Addr) (wi : Nat) : Prop :=
  ∃ vs : Array Value, w.heap[g]? = some (.cells vs 54 (0, 0)) ∧ vs.size = K * 2 ∧ ∀ i, i < k → vs[i * 2]? = some (.int .i64 (h i)) ∧ vs[i * 2 + 1]? = some (.slice (r i) wi wi)
section
variable {w w' : World} {g K k : Nat} {h : Nat → Int} {r : Nat → Option Addr} {wi : Nat}
theorem Sy.lt (s : Sy w g K k h r wi) : g < w.heap.size := by
  obtain ⟨vs, h1, _⟩ := s
  exact (Array.getElem?_eq_some_iff.1 h1).1
theorem Sy.kept (s : Sy w g K k h r wi) (hk : w'.heap[g]? = w.heap[g]?) : Sy w' g K k h r wi := by
  obtain ⟨vs, h1, h2⟩ := s
  exact ⟨vs, hk.trans h1, h2⟩
theorem Sy.new (w : World) (K : Nat) : Sy (w.alloc (.cells (madeCells #[.int .i64 0, .slice none 0 0] (K * 2)) 54)) w.heap.size K 0 h r wi :=
  ⟨_, heap_alloc_new w _, by rw [size_madeCells], fun i hi => absurd hi (Nat.not_lt_zero i)⟩
theorem Sy.cell (s : Sy w g K k h r wi) {j : Nat} (hj : j < K * 2) : ∃ v, w.cell? ⟨g, j, none⟩ = some v := by
  obtain ⟨vs, h1, h2, _⟩ := s
  refine ⟨vs[j]'(by omega), ?_⟩
  rw [cell_of_row w g j vs _ _ h1]
  simp [show j < vs.size by omega]
theorem Sy.free (s : Sy w g K k h r wi) (j : Nat) : w.frozen? ⟨g, j, none⟩ = false := by
  obtain ⟨vs, h1, _⟩ := s
  exact frozen_of_row w g j vs _ h1
theorem Sy.put (s : Sy w g K k h r wi) (hk : k < K) : Sy ((w.setCell ⟨g, k * 2, none⟩ (.int .i64 (h k))).setCell ⟨g, k * 2 + 1, none⟩ (.slice (r k) wi wi)) g K (k + 1) h r wi := by
  obtain ⟨vs, h1, h2, h3⟩ := s
  refine ⟨_, heap_setCell_same _ g (k * 2 + 1) _ _ _ (heap_setCell_same w g (k * 2) vs _ _ h1), by simpa using h2, fun i hi => ?_⟩
  by_cases e : i = k
  · subst e
    constructor
    · rw [Array.getElem?_setIfInBounds_ne (by omega), Array.getElem?_setIfInBounds_self_of_lt (by omega)]
    · rw [Array.getElem?_setIfInBounds_self_of_lt (by simp; omega)]
  · rw [Array.getElem?_setIfInBounds_ne (by omega), Array.getElem?_setIfInBounds_ne (by omega), Array.getElem?_setIfInBounds_ne (by omega), Array.getElem?_setIfInBounds_ne (by omega)]
    exact h3 i (by omega)
theorem Sy.hs {f : Nat → Nat → Nat} (s : Sy w g K K h r wi) (hf : Mt.Bm f) (hr : ∀ i, i < K → Sl w (r i) wi wi (f i)) : Hs w (some ⟨g, 0, none⟩) K h r (fun _ => wi) (fun _ => wi) f := by
  obtain ⟨vs, h1, h2, h3⟩ := s
  refine ⟨hf, fun i hi => ⟨g, 0, rfl, ?_, ?_⟩, hr⟩
  · rw [Nat.zero_add, cell_of_row w g _ vs _ _ h1]; exact (h3 i hi).1
  · rw [Nat.zero_add, cell_of_row w g _ vs _ _ h1]; exact (h3 i hi).2
end
theorem sub_bm {f : Nat → Nat → Nat} (h : Mt.Bm f) (fr wi : Nat) : Mt.Bm (fun i => sub (f i) fr wi) := fun i => sub_by (h i) fr wi
/-- a layer of bodies. -/
def layF (h : Nat → Int) (K wi fr : Nat) (f : Nat → Nat → Nat) : Nat → Nat := Sp.jn (dcd h K fun i => sub (f i) fr wi) wi
def LayerSays (w : World) (L : Nat) (F : Nat → Nat) (e : Ending) (w' : World) : Prop := ∃ g, e = .returned (.tuple #[.slice (some ⟨g, 0, none⟩) L L, .int .i64 0]) ∧ w.heap.size ≤ g ∧ Bl w' g L L F ∧ Below w.heap.size w w'

theorem bel_grown {w w1 w2 : World} {g : Nat} (h : Below w.heap.size w w1) (hg : w.heap.size ≤ g) (k : w1.grownBy w2 (some g)) : Below w.heap.size w w2 := h.grown k h.size (fun r e => by cases e; exact hg)
set_option maxHeartbeats 4000000 in
set_option maxRecDepth 100000 in
theorem layer_any (Lx K fr to_ T N m : Nat) (hto : to_ = fr + wid Lx K) (ha : Option Addr) (hcap : Nat) (h : Nat → Int) (r : Nat → Option Addr) (c : Nat → Nat) (f : Nat → Nat → Nat) (hL : Lx ≤ 65535) (h1 : 1 ≤ K) (h2 : K ≤ N) (h3 : N ≤ 255) (hT : to_ ≤ T) (_hTm : T ≤ 1000000) (hm : K ≤ m) (hin : InR h m N) (hds : DsI h m) (w : World) (hH : Hs w ha m h r (fun _ => T) c f) (hcc : ∀ i, i < m → T ≤ c i) :
    Calls Tryz.prog 43 #[partV (K : Nat) (Lx : Nat) fr to_, .int .i64 (N : Nat), .slice ha m hcap] w (LayerSays w Lx (layF h K (wid Lx K) fr f)) := by
  have hle := wid_le (L := Lx) h1
  have hpa : (w.alloc (.cells #[.int .i64 (K : Nat), .int .i64 (Lx : Nat), .int .i64 (fr : Nat), .int .i64 (to_ : Nat)] 67)).heap[w.heap.size]? = _ := heap_alloc_new w _
  have hB0 := (Below.refl w.heap.size w).alloc (Nat.le_refl _) (.cells #[.int .i64 (K : Nat), .int .i64 (Lx : Nat), .int .i64 (fr : Nat), .int .i64 (to_ : Nat)] 67)
  have HH := Lib.hid hH; have HPA := Lib.hid hpa; have HB0 := Lib.hid hB0; have HT0 := Lib.hid hto; have HIN := Lib.hid hin; have HDS := Lib.hid hds; have HCC := Lib.hid hcc
  clear hH hpa hB0 hto hin hds hcc
  unfold partV
  go_enter Tryz.func43, Tryz.ntmps43
  go_wp2_with fail
  refine (cnew_yes N K h1 h2 h3 _).mono ?_
  rintro e w1 ⟨cb, fb, G2, b2, rfl, hC, hB1⟩
  have hp1 := (hB1.block _ (by simp)).trans HPA.out
  have c0 : w1.cell? ⟨w.heap.size, 0, none⟩ = some (.int .i64 (K : Nat)) := by rw [cell_of_row w1 w.heap.size 0 _ _ _ hp1]; rfl
  have HC := Lib.hid hC; have HB1 := Lib.hid (HB0.out.trans (hB1.mono HB0.out.size)); have HPA1 := Lib.hid hp1
  have hmk := hmkH K (by omega)
  have hsy := Sy.new (h := h) (r := fun i => cutA (r i) fr to_) (wi := wid Lx K) w1 K
  have hB2 := (Below.refl w1.heap.size w1).alloc (Nat.le_refl _) (.cells (madeCells #[.int .i64 0, .slice none 0 0] (K * 2)) 54)
  have hp2 := (hB2.block _ (Array.getElem?_eq_some_iff.1 hp1).1).trans hp1
  have HSY := Lib.hid hsy; have HP2 := Lib.hid hp2; have HB2 := Lib.hid (HB1.out.trans (hB2.mono HB1.out.size)); have HC2 := Lib.hid (hC.same hB2); have hC0 := Lib.hid hC
  clear hC hB1 hp1 hsy hB2 hp2
  have hg1 : w.heap.size < w1.heap.size := (Array.getElem?_eq_some_iff.1 HPA1.out).1
  go_wp2_with fail
  generalize hwi : wid Lx K = wi at *
  have HWI := Lib.hid hwi; have HTO := Lib.hid HT0.out
  clear hwi HT0
  generalize hg : w1.heap.size = g at *
  have HGE := Lib.hid hg; clear hg
  go_loopw [31] (fun i wr => ∃ k : Nat, k ≤ K ∧ i = .int .i64 (k : Nat) ∧ Sy wr g K k h (fun i => cutA (r i) fr to_) wi ∧ Below w1.heap.size w1 wr) (fun i _ => K - (intOf i).toNat)
  case atStart => exact ⟨0, by omega, rfl, HSY.out, (Below.refl _ _).alloc (Nat.le_refl _) _⟩
  case round =>
    obtain ⟨k, hk, rfl, hs, hb⟩ := hrel
    have HS := Lib.hid hs; have HBW := Lib.hid hb
    by_cases hlt : k < K
    · have i1 : (k : Int) < (K : Int) := by omega
      have i2 : (k : Int) < (m : Int) := by omega
      have HBF := Lib.hid (HB1.out.trans (hb.mono HB1.out.size))
      have hHr := HH.out.same (HBF.out)
      obtain ⟨b0, o0, ea, e1, e2⟩ := hHr.cell k (by omega)
      have hrow := hHr.row k (by omega)
      have hpr := (hb.block w.heap.size (by have := HGE.out; omega)).trans HPA1.out
      have hA5 := (Below.refl wr.heap.size wr).alloc (Nat.le_refl _) (.cells #[.int .i64 (h k), .slice (r k) T (c k)] 54)
      have hN5 := heap_alloc_new wr (.cells #[.int .i64 (h k), .slice (r k) T (c k)] 54)
      have EA := Lib.hid ea; have HROW := Lib.hid hrow; have HPR := Lib.hid hpr; have HA5 := Lib.hid hA5; have HN5 := Lib.hid hN5
      have hgw : g < wr.heap.size := hs.lt
      clear hHr hrow hpr hA5 hN5 hs hb
      subst ea
      go_wp2_with fail
      obtain ⟨W5, hW5⟩ : ∃ W5 : World, W5 = wr.alloc (.cells #[.int .i64 (h k), .slice (r k) T (c k)] 54) := ⟨_, rfl⟩
      rw [← hW5] at HA5 HN5 ⊢
      clear hW5
      have hp5 := (HA5.out.block w.heap.size (by omega)).trans HPR.out
      have z0 : W5.cell? ⟨wr.heap.size, 0, none⟩ = some (.int .i64 (h k)) := by rw [cell_of_row W5 _ 0 _ _ _ HN5.out]; rfl
      have z1 : W5.cell? ⟨wr.heap.size, 1, none⟩ = some (.slice (r k) T (c k)) := by rw [cell_of_row W5 _ 1 _ _ _ HN5.out]; rfl
      have z2 : W5.cell? ⟨w.heap.size, 0, none⟩ = some (.int .i64 (K : Nat)) := by rw [cell_of_row W5 _ 0 _ _ _ hp5]; rfl
      have z3 : W5.cell? ⟨w.heap.size, 1, none⟩ = some (.int .i64 (Lx : Nat)) := by rw [cell_of_row W5 _ 1 _ _ _ hp5]; rfl
      have z4 : W5.cell? ⟨w.heap.size, 2, none⟩ = some (.int .i64 (fr : Nat)) := by rw [cell_of_row W5 _ 2 _ _ _ hp5]; rfl
      have z5 : W5.cell? ⟨w.heap.size, 3, none⟩ = some (.int .i64 (to_ : Nat)) := by rw [cell_of_row W5 _ 3 _ _ _ hp5]; rfl
      have y0 := fun d os => cell_regrown z0 d os
      have y1 := fun d os => cell_regrown z1 d os
      have y2 := fun d os => cell_regrown z2 d os
      have y3 := fun d os => cell_regrown z3 d os
      have y4 := fun d os => cell_regrown z4 d os
      have y5 := fun d os => cell_regrown z5 d os
      have hck := HCC.out k (by omega)
      clear z0 z1 z2 z3 z4 z5 hp5
      refine Rb.wp_region_quiet_tailC (C := fun w' => ∃ p : Regrown, w' = Go.Sort.grow (redrawn W5 p.d) p.os) 10 (by kernel_rfl) (by kernel_rfl) ⟨⟨W5.drawn + 1, #[]⟩, by rw [Go.Sort.grow_empty]; rfl⟩ ?_
      simp only [List.take_succ_cons, List.take_zero, List.drop_succ_cons, List.drop_zero]
      repeat (go_big_quiet_step ((go_at_call 58; exact Calls.regrown_of (stripe_any (K : Nat) (Lx : Nat) fr wi to_ _ T (c k) HTO.out (Nat.le_trans hT hck) _))))
      refine wpQuiet_nil ?_
      rintro W6 ⟨pq, hW6⟩
      have hB6 : Below W5.heap.size W5 W6 := by rw [hW6]; exact below_regrown _ _ _
      have hB6w : Below wr.heap.size wr W6 := HA5.out.trans (hB6.mono HA5.out.size)
      have hs6 := HS.out.kept (hB6w.block g hgw)
      obtain ⟨v0, q0⟩ := hs6.cell (j := k * 2) (by omega)
      obtain ⟨v1, q1⟩ := hs6.cell (j := k * 2 + 1) (by omega)
      have f0 := hs6.free (k * 2)
      have f1 : ∀ u, (W6.setCell ⟨g, k * 2, none⟩ u).frozen? ⟨g, k * 2 + 1, none⟩ = false := fun u => by rw [World.frozen?_setCell]; exact hs6.free (k * 2 + 1)
      have q2 : ∀ u, (W6.setCell ⟨g, k * 2, none⟩ u).cell? ⟨g, k * 2 + 1, none⟩ = some v1 := fun u => by rw [World.cell?_setCell_other _ _ _ _ (by intro hh; have := congrArg Addr.off hh; simp at this)]; exact q1
      have HS7 := Lib.hid (hs6.put hlt)
      have HB7 := Lib.hid (((HBW.out.trans (hB6w.mono HBW.out.size)).setCell (p := ⟨g, k * 2, none⟩) (by have := HGE.out; simp; omega) (.int .i64 (h k))).setCell (p := ⟨g, k * 2 + 1, none⟩) (by have := HGE.out; simp; omega) (.slice (cutA (r k) fr to_) wi wi))
      clear hW6 hB6 hB6w hs6 y0 y1 y2 y3 y4 y5 q1
      go_wp2
      go_roundw
      case rel => exact ⟨k + 1, by omega, by go_num, HS7.out, HB7.out⟩
      case measure => simp [intOf]; omega
    · obtain rfl : k = K := by omega
      have i1 : ¬ (k : Int) < (k : Int) := by omega
      have HBF := Lib.hid (HB1.out.trans (hb.mono HB1.out.size))
      have hpr := (hb.block w.heap.size (by have := HGE.out; omega)).trans HPA1.out
      have z3 : wr.cell? ⟨w.heap.size, 1, none⟩ = some (.int .i64 (Lx : Nat)) := by rw [cell_of_row wr _ 1 _ _ _ hpr]; rfl
      have hHr := HH.out.same HBF.out
      have hHs := hs.hs (f := fun i => sub (f i) fr wi) (sub_bm hHr.bm fr wi) (fun i hi => by have := sl_st (hHr.row i (by omega)) (l := fr) (wi := wi) (by have := HTO.out; omega); rw [← HTO.out] at this; exact this)
      have HHS := Lib.hid hHs; have HCr := Lib.hid (hC0.out.same hb); have HZ3 := Lib.hid z3; have HPR := Lib.hid hpr
      clear hs hb hHr hHs hpr z3
      go_wp2_with fail
      refine (cdecode_any cb fb G2 N k b2 (some ⟨g, 0, none⟩) k k h _ _ _ _ (by omega) (fun _ _ => by omega) _ HCr.out HHS.out).mono ?_
      rintro e w3 (⟨E, hE, hc, _⟩ | ⟨_, Ge, be, rfl, hGe, hB3⟩)
      · exact absurd (hc.uniq (Or.inr ⟨fun _ _ => rfl, Or.inr (Or.inr (Or.inr ⟨fun i hi => HIN.out i (by omega), fun i j hi hj => HDS.out i j hi (by omega), Nat.le_refl _, rfl⟩))⟩)) hE
      have HGE2 := Lib.hid hGe; have HB3 := Lib.hid (HBF.out.trans (hB3.mono HBF.out.size))
      have hp3 := (hB3.block _ (Array.getElem?_eq_some_iff.1 HPR.out).1).trans HPR.out
      have z4 : w3.cell? ⟨w.heap.size, 1, none⟩ = some (.int .i64 (Lx : Nat)) := by rw [cell_of_row w3 _ 1 _ _ _ hp3]; rfl
      clear hGe hB3 hp3
      dsimp only
      go_wp2_with fail
      refine (join_ok (some ⟨Ge, 0, none⟩) k k Lx _ _ _ _ hL h1 (by omega) _ HGE2.out.rd).mono ?_
      rintro e w4 ⟨hB4, ⟨_, i, hi, hne⟩ | ⟨_, g4, rfl, hg4, hbl⟩⟩
      · exact absurd HWI.out.symm hne
      have HB4 := Lib.hid (HB3.out.trans (hB4.mono HB3.out.size)); have HBL := Lib.hid hbl; have HG4 := Lib.hid (Nat.le_trans HB3.out.size hg4)
      clear hB4 hbl hg4
      go_wp2
      go_ret2
      refine ⟨g4, rfl, HG4.out, ?_, HB4.out⟩
      have := HBL.out
      rw [HWI.out] at this
      exact this
end Go.Proofs.YtkejabhjlflknaaGreat.Ly

namespace Go.Proofs.YtkejabhjlflknaaGreat.Ly
open Go.RowKit Go.Shelf
attribute [local go_sem] Oper.semAt_some

/-- bodies that are held: indexes, and bytes, of so many. -/
def AllH (h : Nat → Int) (l : Nat → Nat) (m N T : Nat) : Prop := ∀ i, i < m → (0 ≤ h i ∧ h i < N) ∧ l i = T
def LChk (h : Nat → Int) (l : Nat → Nat) (m N T : Nat) (E : Int) : Prop := (¬ AllH h l m N T ∧ E = 2) ∨ (AllH h l m N T ∧ ¬ DsI h m ∧ E = 9) ∨ (AllH h l m N T ∧ DsI h m ∧ E = 0)
theorem LChk.uniq {h : Nat → Int} {l : Nat → Nat} {m N T : Nat} {E E' : Int} (a : LChk h l m N T E) (b : LChk h l m N T E') : E = E' := by
  rcases a with ⟨a1, rfl⟩ | ⟨a1, a2, rfl⟩ | ⟨a1, a2, rfl⟩ <;> rcases b with ⟨b1, rfl⟩ | ⟨b1, b2, rfl⟩ | ⟨b1, b2, rfl⟩ <;> first | rfl | exact absurd b1 a1 | exact absurd a1 b1 | exact absurd b2 a2 | exact absurd a2 b2
def LChkSays (h : Nat → Int) (l : Nat → Nat) (m N T : Nat) (e : Ending) : Prop := ∃ E : Int, e = .returned (.int .i64 E) ∧ LChk h l m N T E
set_option maxHeartbeats 4000000 in
set_option maxRecDepth 100000 in
theorem check_l (n cf : Nat) (caps : Array Value) (K L : Nat → Int) (Dom : Nat → Prop) (hn : n ≤ 8) (N : Nat) (hN : N ≤ 255) (a : Option Addr) (m cap : Nat) (h : Nat → Int) (r : Nat → Option Addr) (l c : Nat → Nat) (f : Nat → Nat → Nat) (hm : m ≤ 1000000000000) (w : World) (hA : AskL Dom w cf n caps K L) (hH : Hs w a m h r l c f) :
    Calls Tryz.prog 41 #[.agg #[.int .i64 (n : Nat), .func (.func cf) #[] caps], .int .i64 (N : Nat), .slice a m cap] w fun e w' => LChkSays h l m N (off K L n) e ∧ Below w.heap.size w w' := by
  have hzs := zero_seen
  have hB0 := (Below.refl w.heap.size w).alloc (Nat.le_refl _) (.cells #[.int .i64 (n : Nat), .func (.func cf) #[] caps] 59)
  have s0 := cell_of_row _ w.heap.size 0 _ _ _ (heap_alloc_new w (.cells #[.int .i64 (n : Nat), .func (.func cf) #[] caps] 59))
  have s1 := cell_of_row _ w.heap.size 1 _ _ _ (heap_alloc_new w (.cells #[.int .i64 (n : Nat), .func (.func cf) #[] caps] 59))
  change World.cell? _ _ = some (.int .i64 (n : Nat)) at s0
  change World.cell? _ _ = some (.func (.func cf) #[] caps) at s1
  have HA := Lib.hid hA; have HH := Lib.hid hH; have HB0 := Lib.hid hB0; clear hA hH hB0
  have HTL := Lib.hid (off_le K L n)
  go_enter Tryz.func41, Tryz.ntmps41
  go_wp2_with fail
  refine (long_l n cf caps K L Dom hn _ (HA.out.same HB0.out)).mono ?_
  rintro e w1 ⟨rfl, hB1⟩
  have HB1 := Lib.hid (HB0.out.trans (hB1.mono HB0.out.size))
  clear hB1 s0 s1
  generalize hTT : off K L n = T at *
  have HTT := Lib.hid hTT; clear hTT
  have hT : T ≤ n * 65535 := HTL.out
  go_wp2_with fail
  go_loopw [17] (fun i wr => ∃ k : Nat, k ≤ m ∧ i = .int .i64 k ∧ AllH h l k N T ∧ Below w.heap.size w wr) (fun i _ => m - (intOf i).toNat)
  case atStart => exact ⟨0, by omega, rfl, fun j hj => absurd hj (Nat.not_lt_zero j), HB1.out⟩
  case round =>
    obtain ⟨k, hk, rfl, hin, hB⟩ := hrel
    have HIN := Lib.hid hin; have HB := Lib.hid hB; clear hin hB
    by_cases hlt : k < m
    · have i1 : (k : Int) < (m : Int) := by omega
      obtain ⟨ab, ao, ea, e1, e2⟩ := (HH.out.same HB.out).cell k hlt
      have EA := Lib.hid (show a = some ⟨ab, ao, none⟩ from ea)
      subst ea
      have HB5 := Lib.hid (HB.out.alloc HB.out.size (.cells #[.int .i64 (h k), .slice (r k) (l k) (c k)] 54))
      by_cases hx : (0 ≤ h k ∧ h k < N) ∧ l k = T
      · have HX := Lib.hid hx
        have g1 : decide (h k < 0) = false := by simp; omega
        have g2 : decide ((N : Int) ≤ h k) = false := by simp; omega
        have g3 : (((l k : Nat) : Int) != (T : Int)) = false := by simp; omega
        clear hx
        go_wp2_with fail
        go_roundw
        case rel => exact ⟨k + 1, by omega, by go_num, fun j hj => (by
          by_cases e : j = k
          · rw [e]; exact HX.out
          · exact HIN.out j (by omega)), HB5.out⟩
        case measure => simp [intOf]; omega
      · have HX := Lib.hid (show ¬ AllH h l m N T from fun hh => hx (hh k hlt))
        by_cases b1 : h k < 0
        · have g1 : decide (h k < 0) = true := by simp; omega
          clear hx
          go_wp2
          go_ret
          exact ⟨⟨2, rfl, Or.inl ⟨by rw [HTT.out]; exact HX.out, rfl⟩⟩, HB5.out⟩
        · have g1 : decide (h k < 0) = false := by simp; omega
          by_cases b2 : (N : Int) ≤ h k
          · have g2 : decide ((N : Int) ≤ h k) = true := by simp; omega
            clear hx
            go_wp2
            go_ret
            exact ⟨⟨2, rfl, Or.inl ⟨by rw [HTT.out]; exact HX.out, rfl⟩⟩, HB5.out⟩
          · have g2 : decide ((N : Int) ≤ h k) = false := by simp; omega
            have g3 : (((l k : Nat) : Int) != (T : Int)) = true := by simp; omega
            clear hx
            go_wp2
            go_ret
            exact ⟨⟨2, rfl, Or.inl ⟨by rw [HTT.out]; exact HX.out, rfl⟩⟩, HB5.out⟩
    · obtain rfl : k = m := by omega
      have i1 : ¬ (k : Int) < (k : Int) := by omega
      have hal : Below wr.heap.size wr (wr.alloc (.cells zerosB 114)) := (Below.refl _ wr).alloc (Nat.le_refl _) _
      have HAL := Lib.hid (HB.out.trans (hal.mono HB.out.size)); have HSN := Lib.hid (Sn.new wr h)
      have hwr : w.heap.size ≤ wr.heap.size := HB.out.size
      clear hal hlt
      go_wp2_with fail
      generalize hg : wr.heap.size = g at *
      have HG := Lib.hid hg; clear hg
      go_loopw [40] (fun i wx => ∃ t : Nat, t ≤ k ∧ i = .int .i64 t ∧ Sn wx g h t ∧ DsI h t ∧ Below w.heap.size w wx ∧ g < wx.heap.size) (fun i _ => k - (intOf i).toNat)
      case atStart => exact ⟨0, by omega, rfl, HSN.out, fun i j _ hj => absurd hj (Nat.not_lt_zero j), HAL.out, by rw [← HG.out]; simp⟩
      case round =>
        clear hzs
        obtain ⟨wx, rfl⟩ : ∃ wx : World, wx = wr := ⟨_, rfl⟩
        obtain ⟨t, ht, rfl, hsn, hds, hB, hgx⟩ := hrel
        have HSN := Lib.hid hsn; have HDS := Lib.hid hds; have HB := Lib.hid hB
        clear hsn hds hB
        by_cases htk : t < k
        · have i1 : (t : Int) < (k : Int) := by omega
          obtain ⟨ab, ao, ea, e1, e2⟩ := (HH.out.same HB.out).cell t htk
          have EA := Lib.hid (show a = some ⟨ab, ao, none⟩ from ea)
          subst ea
          have hin := (HIN.out t htk).1
          obtain ⟨x, hx2⟩ : ∃ x : Nat, h t = (x : Nat) := ⟨(h t).toNat, by omega⟩
          have hx5 : x < 255 := by omega
          have HX2 := Lib.hid hx2
          rw [hx2] at e1
          have hsX : Sn (wx.alloc (.cells #[.int .i64 (x : Nat), .slice (r t) (l t) (c t)] 54)) g h t := fun j hj => ⟨cell_al (HSN.out j hj).1 _, by rw [World.frozen?_of_block (Below.heap_alloc wx _ g hgx)]; exact (HSN.out j hj).2⟩
          have HSX := Lib.hid hsX
          have HBX := Lib.hid (HB.out.alloc HB.out.size (.cells #[.int .i64 (x : Nat), .slice (r t) (l t) (c t)] 54))
          obtain ⟨cs, fs⟩ := hsX x hx5
          have j1 : (x : Int) < 255 := by omega
          clear hin hx2 hsX
          cases hh : hit h (x : Nat) t
          · rw [hh] at cs
            have HHH := Lib.hid hh; clear hh
            go_wp2_with fail
            go_roundw
            case rel => exact ⟨t + 1, by omega, by go_num, (by have := HSX.out.set hx5 HX2.out; rwa [World.setCell_alloc_past _ _ _ _ hgx] at this), fun i j hij hj => (by
              by_cases e : j = t
              · rw [e, HX2.out]; exact hit_no t HHH.out i (by omega)
              · exact HDS.out i j hij (by omega)), (by have := HBX.out.setCell (p := ⟨g, x, none⟩) hwr (.bool true); rwa [World.setCell_alloc_past _ _ _ _ hgx] at this), by simp; omega⟩
            case measure => simp [intOf]; omega
          · rw [hh] at cs
            have HHH := Lib.hid hh; clear hh
            go_wp2_with fail
            go_ret
            refine ⟨⟨9, rfl, Or.inr (Or.inl ⟨by rw [HTT.out]; exact HIN.out, fun hd => ?_, rfl⟩)⟩, HBX.out⟩
            obtain ⟨i, hi, e⟩ := hit_yes t HHH.out
            exact hd i t hi htk (by rw [e, HX2.out])
        · obtain rfl : t = k := by omega
          have i2 : ¬ (t : Int) < (t : Int) := by omega
          go_wp2
          go_ret
          exact ⟨⟨0, rfl, Or.inr (Or.inr ⟨by rw [HTT.out]; exact HIN.out, HDS.out, rfl⟩)⟩, HB.out⟩
end Go.Proofs.YtkejabhjlflknaaGreat.Ly

namespace Go.Proofs.YtkejabhjlflknaaGreat.Ly
open Go.RowKit Go.Shelf
open Go.Proofs.YtkejabhjlflknaaGreat.Sp (Bad wid wid_le wid_hi wid_lo crow crow_by crow_up Tk heap_kp bx_past)
attribute [local go_sem] Oper.semAt_some

theorem results_bodies {tmps : Array Value} {w : World} {p q : Nat} {v : Value} {e : Int} (hp : tmps.getD 6 undef = .pointer (some ⟨p, 0, none⟩)) (hq : tmps.getD 7 undef = .pointer (some ⟨q, 0, none⟩)) (c1 : w.cell? ⟨p, 0, none⟩ = some v) (c2 : w.cell? ⟨q, 0, none⟩ = some (.int .i64 e)) :
    (results Tryz.f10 tmps).run Tryz.prog w = .ok (.tuple #[v, .int .i64 e]) w := by
  rw [Array.getD_eq_getD_getElem?] at hp hq
  simp [results, Tryz.f10, hp, hq, go_sem, c1, c2]
def shA (n cf : Nat) (caps : Array Value) : Array Value := #[.int .i64 (n : Nat), .func (.func cf) #[] caps]
/-- boxes of Bodies, behind its first calls. -/
structure BoB (w W : World) (la : Option Addr) (m lc : Nat) (v : Value) (e : Int) : Prop where
  l : Boxed W w.heap.size 22 (.slice la m lc)
  v : Boxed W (w.heap.size + 1) 22 v
  e : Boxed W (w.heap.size + 1 + 1) 28 (.int .i64 e)
  be : Below w.heap.size w W
section
variable {w W W' : World} {la : Option Addr} {m lc : Nat} {v : Value} {e : Int}
theorem BoB.kept (s : BoB w W la m lc v e) (hB : Below w.heap.size W W') (h : ∀ k, w.heap.size ≤ k → k < w.heap.size + 3 → W'.heap[k]? = W.heap[k]?) : BoB w W' la m lc v e :=
  ⟨(h _ (Nat.le_refl _) (by omega)).trans s.l, (h _ (by omega) (by omega)).trans s.v, (h _ (by omega) (by omega)).trans s.e, s.be.trans hB⟩
theorem BoB.lt (s : BoB w W la m lc v e) : w.heap.size + 1 + 1 < W.heap.size := s.e.lt
theorem BoB.same (s : BoB w W la m lc v e) (hB : Below W.heap.size W W') : BoB w W' la m lc v e :=
  s.kept (hB.mono s.be.size) fun k _ h2 => hB.block k (by have := s.lt; omega)
theorem BoB.told (s : BoB w W la m lc v e) (v' : Value) (e' : Int) : BoB w ((W.setCell ⟨w.heap.size + 1, 0, none⟩ v').setCell ⟨w.heap.size + 1 + 1, 0, none⟩ (.int .i64 e')) la m lc v' e' :=
  ⟨bx_past (bx_past s.l (by omega)) (by omega), bx_past (s.v.set _) (by omega), (bx_past s.e (by omega)).set _, (s.be.setCell (p := ⟨w.heap.size + 1, 0, none⟩) (by simp) _).setCell (p := ⟨w.heap.size + 1 + 1, 0, none⟩) (by simp; omega) _⟩
theorem BoB.start (w : World) (la : Option Addr) (m lc : Nat) : BoB w (((w.alloc (.cells #[.slice la m lc] 22)).alloc (.cells #[.slice none 0 0] 22)).alloc (.cells #[.int .i64 0] 28)) la m lc (.slice none 0 0) 0 := by
  have b0 := ((Boxed.new w 22 (.slice la m lc)).alloc (.cells #[.slice none 0 0] 22)).alloc (.cells #[.int .i64 0] 28)
  have b1 := (Boxed.new (w.alloc (.cells #[.slice la m lc] 22)) 22 (.slice none 0 0)).alloc (.cells #[.int .i64 0] 28)
  have b2 := Boxed.new ((w.alloc (.cells #[.slice la m lc] 22)).alloc (.cells #[.slice none 0 0] 22)) 28 (.int .i64 0)
  exact ⟨b0, by simpa using b1, by simpa using b2, below_abc _ _ _⟩
end

/-- by, with what its sheet asks. -/
theorem by_x (la ka : Option Addr) (m lc n kc : Nat) (K : Nat → Int) (r : Nat → Option Addr) (l c : Nat → Nat) (f : Nat → Nat → Nat) (w : World) (hR : Rd w la m lc r l c f) (hS : Si w ka n K) :
    Calls Tryz.prog 27 #[.slice la m lc, .slice ka n kc] w fun e w' => ∃ caps, e = .returned (.agg #[.int .i64 (n : Nat), .func (.func 52) #[] caps]) ∧ Below w.heap.size w w' ∧ (n ≤ m → AskL (fun k => k < w'.heap.size) w' 52 n caps K (fun i => ((l i : Nat) : Int))) :=
  (by_l la ka m lc n kc w).mono fun _ w' ⟨e, hB, h1, h2⟩ => ⟨_, e, hB, fun hnm => ask_by w' _ _ ka la n kc m lc K r l c f hnm h2 h1 (hS.same hB) (hR.same hB)⟩
/-- there is nothing to make. -/
def BodBad (N : Int) (m n : Nat) (K : Nat → Int) (l : Nat → Nat) : Prop := m ≠ n ∨ ¬ TabOk N n K (fun i => ((l i : Nat) : Int))
set_option maxHeartbeats 4000000 in
set_option maxRecDepth 100000 in
theorem bodies_no (N : Int) (la ka : Option Addr) (m lc n kc : Nat) (K : Nat → Int) (r : Nat → Option Addr) (l c : Nat → Nat) (f : Nat → Nat → Nat) (hb : BodBad N m n K l) (w : World) (hR : Rd w la m lc r l c f) (hS : Si w ka n K) :
    Calls Tryz.prog 10 #[.int .i64 N, .slice la m lc, .slice ka n kc] w fun e w' => e = .returned (.tuple #[.slice none 0 0, .int .i64 2]) ∧ Below w.heap.size w w' := by
  have hs0 := BoB.start w la m lc
  have HS0 := Lib.hid hs0; have HR := Lib.hid hR; have HS := Lib.hid hS; have HB := Lib.hid hb
  clear hs0 hR hS hb
  go_enter Tryz.func10, Tryz.ntmps10
  go_wp2_with fail
  refine (by_x la ka m lc n kc K r l c f _ (HR.out.same HS0.out.be) (HS.out.same HS0.out.be)).mono ?_
  rintro e w1 ⟨caps, rfl, hB1, hA⟩
  have HS1 := Lib.hid (HS0.out.same hB1)
  have hB2 := (Below.refl w1.heap.size w1).alloc (Nat.le_refl _) (.cells #[.int .i64 (n : Nat), .func (.func 52) #[] caps] 59)
  have HS2 := Lib.hid (HS1.out.same hB2)
  have HA := Lib.hid (fun h => (hA h).same hB2)
  have c0 := HS2.out.l.cell
  have c1 := HS2.out.v.cell; have f1 := HS2.out.v.frozen; have c2 := HS2.out.e.cell; have f2 := HS2.out.e.frozen
  have hsh := heap_alloc_new w1 (.cells #[.int .i64 (n : Nat), .func (.func 52) #[] caps] 59)
  have s0 := cell_of_row _ w1.heap.size 0 _ _ _ hsh
  have s1 := cell_of_row _ w1.heap.size 1 _ _ _ hsh
  change World.cell? _ _ = some (.int .i64 (n : Nat)) at s0
  change World.cell? _ _ = some (.func (.func 52) #[] caps) at s1
  clear hB1 hA hB2 hsh
  by_cases hmn : m = n
  · have g1 : (((m : Nat) : Int) != (n : Int)) = false := by rw [hmn]; simp
    have HMN := Lib.hid hmn; clear hmn
    go_wp2_with ((show wpList _ _ _ (⟨none, .store 59 _ _, _, _, _, _⟩ :: _) _ _); refine wpList_store_new rfl 59 _ _ rfl w1.heap.size rfl #[.int .i64 (n : Nat), .func (.func 52) #[] caps] _ _ rfl rfl (by kernel_rfl) rfl (by simp [Value.oneCell']) ?_)
    refine (right_l n _ caps K _ _ N _ (HA.out (by have := HMN.out; omega))).mono ?_
    rintro e w3 ⟨⟨v, rfl, hv⟩, hB3⟩
    obtain rfl : v = false := by
      cases v
      · rfl
      · rcases HB.out with h | h
        · exact absurd HMN.out h
        · exact absurd (hv.1 rfl) h
    have HS3 := Lib.hid (HS2.out.same hB3)
    have d1 := (HS2.out.same hB3).v.cell; have k1 := (HS2.out.same hB3).v.frozen
    have d2 : ∀ u, (w3.setCell ⟨w.heap.size + 1, 0, none⟩ u).cell? ⟨w.heap.size + 1 + 1, 0, none⟩ = some (.int .i64 0) := fun u => (bx_past (HS2.out.same hB3).e (by omega)).cell
    have k2 : ∀ u, (w3.setCell ⟨w.heap.size + 1, 0, none⟩ u).frozen? ⟨w.heap.size + 1 + 1, 0, none⟩ = false := fun u => (bx_past (HS2.out.same hB3).e (by omega)).frozen
    clear hB3 hv
    go_wp2
    exact bodyPost_ret (results_bodies rfl rfl (HS3.out.told _ 2).v.cell (HS3.out.told _ 2).e.cell) rfl ⟨rfl, (HS3.out.told _ 2).be⟩
  · have g1 : (((m : Nat) : Int) != (n : Int)) = true := by simp; omega
    have HMN := Lib.hid hmn; clear hmn
    have d2 : ∀ u, ((w1.alloc (.cells #[.int .i64 (n : Nat), .func (.func 52) #[] caps] 59)).setCell ⟨w.heap.size + 1, 0, none⟩ u).cell? ⟨w.heap.size + 1 + 1, 0, none⟩ = some (.int .i64 0) := fun u => (bx_past HS2.out.e (by omega)).cell
    have k2 : ∀ u, ((w1.alloc (.cells #[.int .i64 (n : Nat), .func (.func 52) #[] caps] 59)).setCell ⟨w.heap.size + 1, 0, none⟩ u).frozen? ⟨w.heap.size + 1 + 1, 0, none⟩ = false := fun u => (bx_past HS2.out.e (by omega)).frozen
    go_wp2_with ((show wpList _ _ _ (⟨none, .store 59 _ _, _, _, _, _⟩ :: _) _ _); refine wpList_store_new rfl 59 _ _ rfl w1.heap.size rfl #[.int .i64 (n : Nat), .func (.func 52) #[] caps] _ _ rfl rfl (by kernel_rfl) rfl (by simp [Value.oneCell']) ?_)
    exact bodyPost_ret (results_bodies rfl rfl (HS2.out.told _ 2).v.cell (HS2.out.told _ 2).e.cell) rfl ⟨rfl, (HS2.out.told _ 2).be⟩
end Go.Proofs.YtkejabhjlflknaaGreat.Ly

namespace Go.Proofs.YtkejabhjlflknaaGreat.Rb
open Go.RowKit Go.Shelf
/-- outside of a round, walked by held steps; the last one writes. -/
theorem wpIn_wide_u {P : Program} {n : Nat} {Q : Exit → Act → World → Prop} {id : Nat} {a : Act} {w : World} {l : List Oper} {S : World → Prop} {z : Nat} (hm : P.follows .mixedOrders = true) (hd : noDefer l = true) (hS : S w.drew)
    (h : S w.drew → AnyU P .any l.toArray (fun e a w => match e with | .normal => Q .normal a w | _ => False) S z l.toArray.size (Array.replicate l.toArray.size false) a w.drew) : (Code.region id l.toArray true).wpIn Fence.wide n P Q a w := by
  refine wpIn_region_any hm (wpAnyIn_of_plain (ro := none) (fun e a w he => ?_) (fun i o ho => noDefer_spec hd ho) (fun ⟨_, _, hq⟩ => hq) _ _ _ _ (AnyU.any _ _ _ _ (h hS)))
  cases e <;> first | exact he | exact he.elim
/-- a whole row into a block that was just made. -/
theorem wpListIn_store_new {P : Program} {n : Nat} {ops : Array Oper} {rest : List Oper} {o : Oper} {a : Act} {w : World} {Q : Exit → Act → World → Prop} (hgd : o.guard = none) (ty : TypeId) (x y : Operand) (ho : o.op = .store ty x y)
    (g : Nat) (hg : g = w.heap.size) (cells old : Array Value) (t : TypeId) (hx : a.eval x = .pointer (some ⟨g, 0, none⟩)) (hy : a.eval y = .agg cells) (hi : (P.info? ty).map (·.size) = some cells.size)
    (hold : old.size = cells.size) (h1 : cells.all (·.oneCell') = true)
    (h : wpListIn Fence.wide n P ops Q rest (a.put o.dst undef) (w.alloc (.cells cells t))) : wpListIn Fence.wide n P ops Q (o :: rest) a (w.alloc (.cells old t)) := by
  subst hg
  refine wpListIn_plain hgd fun K hK => wpIn_of_plain (ro := none) (Q0 := fun _ _ _ => False) (fun _ _ _ h => h.elim) (fun c => by rw [ho]; simp) (wp_store_row ty x y ho w.heap.size cells hx hy t old (heap_alloc_new w _) hi hold h1 (hK _ _ ?_))
  rw [World.setRow_alloc_new]
  exact h
end Go.Proofs.YtkejabhjlflknaaGreat.Rb
namespace Go.Proofs.YtkejabhjlflknaaGreat.Ly
open Go.RowKit Go.Shelf
open Go.Proofs.YtkejabhjlflknaaGreat.Sp (Bad wid wid_le wid_hi wid_lo crow crow_by crow_up Tk heap_kp bx_past)
attribute [local go_sem] Oper.semAt_some

theorem BoB.kep {w W W' : World} {la : Option Addr} {m lc : Nat} {v : Value} {e : Int} {row : Option Nat} (s : BoB w W la m lc v e) (hg : W.grownBy W' row) (hr : ∀ r, row = some r → w.heap.size ≤ r ∧ ∃ o : Obj, W.heap[r]? = some o ∧ o.isCells = false) : BoB w W' la m lc v e :=
  ⟨heap_kp s.l hg (fun r e => (hr r e).2), heap_kp s.v hg (fun r e => (hr r e).2), heap_kp s.e hg (fun r e => (hr r e).2), s.be.grown hg s.be.size (fun k e => (hr k e).1)⟩
theorem gr_kp {X Y : World} {row : Option Nat} {B G n cap : Nat} {b l c : Nat → Nat} {f : Nat → Nat → Nat} (h : Gr X B G n cap b l c f) (hg : X.grownBy Y row) (hr : ∀ r, row = some r → ∃ o : Obj, X.heap[r]? = some o ∧ o.isCells = false) : Gr Y B G n cap b l c f := by
  obtain ⟨vs, h1, _⟩ := h.blk
  refine h.kept ((heap_kp h1 hg hr).trans h1.symm) fun i hi => ?_
  obtain ⟨vs, h1, _⟩ := h.row i hi
  exact (heap_kp h1 hg hr).trans h1.symm
/-- what is no row of bytes. -/
theorem gr_ne {W : World} {B G n cap k : Nat} {b l c : Nat → Nat} {f : Nat → Nat → Nat} (h : Gr W B G n cap b l c f) {vs : Array Value} {t : TypeId} {z : Nat × Nat} (hk : W.heap[k]? = some (.cells vs t z)) (ht : t ≠ 5) : ∀ i, i < n → k ≠ b i := fun i hi e => by
  obtain ⟨vs', h1, _⟩ := h.row i hi
  rw [← e, hk] at h1
  injection h1 with h1
  injection h1 with _ h2
  exact ht h2
theorem gr_keeps {W W' : World} {B G n cap : Nat} {b l c : Nat → Nat} {f : Nat → Nat → Nat} (h : Gr W B G n cap b l c f) (hb : BtR W W' b n) (B' : Nat) : KeepsFrom B' W W' :=
  ⟨hb.size, fun k o _ hk ho => (hb.block k (Array.getElem?_eq_some_iff.1 hk).1 (fun i hi e => by
    obtain ⟨vs', h1, _⟩ := h.row i hi
    rw [← e, hk] at h1
    cases h1; cases ho)).trans hk⟩
/-- bodies, as far as so many layers are laid. -/
def bodyF (N : Nat) (K : Nat → Int) (l : Nat → Nat) (f : Nat → Nat → Nat) : Nat → Nat → Nat → Nat
  | 0 => fun _ _ => 0
  | j + 1 => laidF (off K (fun i => ((l i : Nat) : Int)) j) (wid (l j) (K j).toNat) (enc (K j).toNat (crow (f j) (wid (l j) (K j).toNat))) (bodyF N K l f j) N
theorem BtR.one {w w' : World} {g : Nat} (hg : w.grownBy w' (some g)) : BtR w w' (fun _ => g) 1 :=
  ⟨hg.os, hg.tape, hg.output, hg.size, fun k hk hn => hg.block k hk (fun e => hn 0 (by omega) (by injection e))⟩
/-- as the bodies are made. -/
structure MkS (w1 w4 W : World) (G N T k : Nat) (b : Nat → Nat) : Prop where
  g : Gr W w1.heap.size G k N b (fun _ => T) (fun _ => T) (fun _ _ => 0)
  t : BtR w4 W (fun _ => G) 1
def BodSays (w : World) (N : Nat) (n : Nat) (K : Nat → Int) (l : Nat → Nat) (f : Nat → Nat → Nat) (e : Ending) (w' : World) : Prop :=
  ∃ G b, e = .returned (.tuple #[.slice (some ⟨G, 0, none⟩) N N, .int .i64 0]) ∧ Gr w' w.heap.size G N N b (fun _ => off K (fun i => ((l i : Nat) : Int)) n) (fun _ => off K (fun i => ((l i : Nat) : Int)) n) (bodyF N K l f n) ∧ Below w.heap.size w w'

set_option maxHeartbeats 4000000 in
set_option maxRecDepth 100000 in
theorem bodies_yes (N : Nat) (la ka : Option Addr) (lc n kc : Nat) (K : Nat → Int) (r : Nat → Option Addr) (l c : Nat → Nat) (f : Nat → Nat → Nat) (hT : TabOk N n K (fun i => ((l i : Nat) : Int))) (w : World) (hR : Rd w la n lc r l c f) (hS : Si w ka n K) :
    Calls Tryz.prog 10 #[.int .i64 (N : Nat), .slice la n lc, .slice ka n kc] w (BodSays w N n K l f) := by
  refine (callsIn_wide (n := 6)).1 ?_
  have hW : ∀ k, Fence.wide.fn k := fun _ => trivial
  have hD : Fence.wide.depth = none := rfl
  have hs0 := BoB.start w la n lc
  have hN1 : 1 ≤ N := by have := hT.1; omega
  have hN2 : N ≤ 255 := by have := hT.2.1; omega
  have hn8 := hT.2.2.2.1
  have hTle := off_le K (fun i => ((l i : Nat) : Int)) n
  have HS0 := Lib.hid hs0; have HR := Lib.hid hR; have HS := Lib.hid hS; have HT := Lib.hid hT; have HR0 := Lib.hid hR
  clear hs0 hR hS hT
  refine callsIn_of_wp_marks Tryz.func10 rfl trivial ?_ rfl
  simp only [Tryz.ntmps10, List.size_toArray, List.length_cons, List.length_nil, Nat.reduceAdd, Nat.reduceSub, Array.replicate_succ, Array.replicate_zero, List.push_toArray, List.append_toArray, List.nil_append, List.cons_append]
  gi_wp2_with fail
  refine (callsIn_wide.2 (by_x la ka n lc n kc K r l c f _ (HR.out.same HS0.out.be) (HS.out.same HS0.out.be))).mono ?_
  rintro e w1 ⟨caps, rfl, hB1, hA⟩
  have hA := hA (Nat.le_refl _)
  have HS1 := Lib.hid (HS0.out.same hB1)
  have hB2 := (Below.refl w1.heap.size w1).alloc (Nat.le_refl _) (.cells #[.int .i64 (n : Nat), .func (.func 52) #[] caps] 59)
  have HS2 := Lib.hid (HS1.out.same hB2)
  have HA1 := Lib.hid hA
  have HB2 := Lib.hid hB2
  have c0 := HS2.out.l.cell
  have hsh := heap_alloc_new w1 (.cells #[.int .i64 (n : Nat), .func (.func 52) #[] caps] 59)
  have s0 := cell_of_row _ w1.heap.size 0 _ _ _ hsh
  have s1 := cell_of_row _ w1.heap.size 1 _ _ _ hsh
  change World.cell? _ _ = some (.int .i64 (n : Nat)) at s0
  change World.cell? _ _ = some (.func (.func 52) #[] caps) at s1
  have HSH := Lib.hid hsh
  clear hB1 hA hB2 hsh
  have g1 : (((n : Nat) : Int) != (n : Int)) = false := by simp
  gi_wp2_with ((show wpListIn _ _ _ _ _ (⟨none, .store 59 _ _, _, _, _, _⟩ :: _) _ _); refine Rb.wpListIn_store_new rfl 59 _ _ rfl w1.heap.size rfl #[.int .i64 (n : Nat), .func (.func 52) #[] caps] _ _ rfl rfl (by kernel_rfl) rfl (by simp [Value.oneCell']) ?_)
  refine (callsIn_wide.2 (right_l n _ caps K _ _ N _ (HA1.out.same HB2.out))).mono ?_
  rintro e w3 ⟨⟨v, rfl, hv⟩, hB3⟩
  obtain rfl : v = true := hv.2 HT.out
  have hmk := hmkRows N (by omega)
  have HS3 := Lib.hid (HS2.out.same hB3)
  have HB3 := Lib.hid (HB2.out.trans (hB3.mono HB2.out.size))
  have HSH3 := Lib.hid ((hB3.block _ (Array.getElem?_eq_some_iff.1 HSH.out).1).trans HSH.out)
  have hG4 := gr_made w3 w1.heap.size N (fun _ => 0) (fun _ => off K (fun i => ((l i : Nat) : Int)) n) (fun _ => off K (fun i => ((l i : Nat) : Int)) n) (by omega) HB3.out.size
  have hB4 : Below w3.heap.size w3 ((w3.alloc (.cells (madeCells #[.slice none 0 0] N) 50)).alloc (.cells #[.slice (some ⟨w3.heap.size, 0, none⟩) N N] 22)) := ((Below.refl _ w3).alloc (Nat.le_refl _) _).alloc (by simp) _
  have hO4 := Boxed.new (w3.alloc (.cells (madeCells #[.slice none 0 0] N) 50)) 22 (.slice (some ⟨w3.heap.size, 0, none⟩) N N)
  rw [World.size_alloc] at hO4
  have hG4' := hG4.kept (w' := (w3.alloc (.cells (madeCells #[.slice none 0 0] N) 50)).alloc (.cells #[.slice (some ⟨w3.heap.size, 0, none⟩) N N] 22)) (Below.heap_alloc _ _ _ hG4.ltG) (fun i hi => absurd hi (Nat.not_lt_zero i))
  have o0 := hO4.cell
  have HG4 := Lib.hid hG4'; have HB4 := Lib.hid hB4; have HO4 := Lib.hid hO4
  clear hv hB3 hG4 hG4' hB4 hO4 s0 s1 c0 g1
  gi_wp2_with fail
  obtain ⟨w4, hw4⟩ : ∃ w4 : World, w4 = (w3.alloc (.cells (madeCells #[.slice none 0 0] N) 50)).alloc (.cells #[.slice (some ⟨w3.heap.size, 0, none⟩) N N] 22) := ⟨_, rfl⟩
  rw [← hw4] at HG4 HB4 HO4 o0 ⊢
  have HS4 := Lib.hid (HS3.out.same HB4.out); have HSH4 := Lib.hid ((HB4.out.block _ (Array.getElem?_eq_some_iff.1 HSH3.out).1).trans HSH3.out)
  have HB14 := Lib.hid (HB3.out.trans (HB4.out.mono HB3.out.size))
  have HA4 := Lib.hid (HA1.out.same HB14.out)
  have h14 := HB14.out.size
  clear hw4 hmk o0 HS3 HSH3 HB4
  have hO : w3.heap.size + 1 < w4.heap.size := HO4.out.lt
  have h13 := HB3.out.size
  have hw1 := HS1.out.lt
  have hsh3 : w1.heap.size < w4.heap.size := (Array.getElem?_eq_some_iff.1 HSH4.out).1
  have hsG : w1.heap.size ≠ w3.heap.size := fun e => by
    obtain ⟨vs, h1, _⟩ := HG4.out.blk
    rw [← e, HSH4.out] at h1
    cases h1
  generalize hsh : w1.heap.size = sh at *
  generalize hGG : w3.heap.size = G at *
  generalize hOO : G + 1 = O at *
  generalize hTT : off K (fun i => ((l i : Nat) : Int)) n = T at *
  have HTT := Lib.hid hTT; have HSHE := Lib.hid hsh; have HOO := Lib.hid hOO; have HGE := Lib.hid hGG
  clear hTT hsh hOO hGG
  gi_loopw [32] (fun i wr => ∃ (k : Nat) (b : Nat → Nat), k ≤ N ∧ i = .int .i64 (k : Nat) ∧ MkS w1 w4 wr G N T k b) (fun i _ => N - (intOf i).toNat)
  case atStart => exact ⟨0, fun _ => 0, by omega, rfl, ⟨by rw [HSHE.out]; exact HG4.out, BtR.refl⟩⟩
  case round =>
    obtain ⟨k, b, hk, rfl, hs⟩ := hrel
    have HM := Lib.hid hs
    have hOk := hs.t.block O (by omega) (fun i _ => by have := HOO.out; omega)
    have hsk := hs.t.block sh (by omega) (fun i _ => hsG)
    have q0 : wr.cell? ⟨O, 0, none⟩ = some (.slice (some ⟨G, 0, none⟩) N N) := (World.cell?_of_block hOk).trans HO4.out.cell
    have q1 : wr.cell? ⟨sh, 0, none⟩ = some (.int .i64 (n : Nat)) := by rw [cell_of_row wr sh 0 _ _ _ (hsk.trans HSH4.out)]; rfl
    have q2 : wr.cell? ⟨sh, 1, none⟩ = some (.func (.func 52) #[] caps) := by rw [cell_of_row wr sh 1 _ _ _ (hsk.trans HSH4.out)]; rfl
    clear hOk hsk hs
    by_cases hlt : k < N
    · have i1 : (k : Int) < (N : Int) := by omega
      have hAr : AskL (fun k => k < sh) wr 52 n caps K (fun i => ((l i : Nat) : Int)) := HA4.out.at_ (fun k hk => HM.out.t.block k (by have : k < sh := hk; omega) (fun i _ => by have : k < sh := hk; omega)) HM.out.t.size
      have HAr := Lib.hid hAr; clear hAr
      gi_wp2_with fail
      refine Rb.wpIn_wide_u (S := fun X => X.cell? ⟨O, 0, none⟩ = some (.slice (some ⟨G, 0, none⟩) N N) ∧ X.cell? ⟨sh, 0, none⟩ = some (.int .i64 (n : Nat)) ∧ X.cell? ⟨sh, 1, none⟩ = some (.func (.func 52) #[] caps)) (z := 6) (by kernel_rfl) (by kernel_rfl) ⟨q0, q1, q2⟩ (fun hHeld => ?_)
      refine AnyU.take (i := 0) (p := 0) (oi := ⟨some 35, _, _, _, _, none⟩) (v := (.slice (some ⟨G, 0, none⟩) N N)) rfl (by kernel_rfl) (Or.inl rfl) (by kernel_rfl) (by kernel_rfl) (by kernel_rfl) (by kernel_rfl) (fun _ _ _ h => h) (Or.inl ⟨by rfl, fun W hW => ?_⟩) (by assumption) ?_
      · (obtain ⟨h0, h1, h2⟩ := hW; go_simp)
      simp only [Act.put, List.setIfInBounds_toArray, List.set_cons_zero, List.set_cons_succ]
      refine AnyU.take (i := 1) (p := 1) (oi := ⟨some 36, _, _, _, _, none⟩) (v := (.int .i64 (k : Nat))) rfl (by kernel_rfl) (Or.inl rfl) (by kernel_rfl) (by kernel_rfl) (by kernel_rfl) (by kernel_rfl) (fun _ _ _ h => h) (Or.inl ⟨by rfl, fun W hW => ?_⟩) (by assumption) ?_
      · go_simp
      simp only [Act.put, List.setIfInBounds_toArray, List.set_cons_zero, List.set_cons_succ]
      refine AnyU.take (i := 2) (p := 2) (oi := ⟨some 37, _, _, _, _, none⟩) (v := (.agg #[.int .i64 (n : Nat), .func (.func 52) #[] caps])) rfl (by kernel_rfl) (Or.inl rfl) (by kernel_rfl) (by kernel_rfl) (by kernel_rfl) (by kernel_rfl) (fun _ _ _ h => h) (Or.inl ⟨by rfl, fun W hW => ?_⟩) (by assumption) ?_
      · (obtain ⟨h0, h1, h2⟩ := hW; go_simp)
      simp only [Act.put, List.setIfInBounds_toArray, List.set_cons_zero, List.set_cons_succ]
      refine AnyU.ready (rs := [3]) (by kernel_rfl) (by simp) (EachU.cons rfl (fun KK hKK => ?_) EachU.nil)
      go_simp
      refine (long_l n _ caps K _ _ hn8 _ (HAr.out.same ((Below.refl _ wr).drew))).mono ?_
      rintro e w5 ⟨rfl, hB5⟩
      dsimp only
      have hB5' : Below wr.heap.size wr w5 := ((Below.refl _ wr).drew).trans hB5
      have HB5 := Lib.hid hB5'
      have r0 : w5.cell? ⟨O, 0, none⟩ = some (.slice (some ⟨G, 0, none⟩) N N) := by rw [hB5'.cell (World.block_lt_of_cell? _ _ q0)]; exact q0
      have r1 : w5.cell? ⟨sh, 0, none⟩ = some (.int .i64 (n : Nat)) := by rw [hB5'.cell (World.block_lt_of_cell? _ _ q1)]; exact q1
      have r2 : w5.cell? ⟨sh, 1, none⟩ = some (.func (.func 52) #[] caps) := by rw [hB5'.cell (World.block_lt_of_cell? _ _ q2)]; exact q2
      clear hB5 hB5'
      refine hKK.out _ _ (fun _ => ⟨r0, r1, r2⟩) (fun hHeld => ?_)
      clear hKK KK
      have hHeld := hHeld (by decide)
      try simp only [Act.put, List.setIfInBounds_toArray, List.set_cons_zero, List.set_cons_succ]
      have hmk8 := hmk8 T (by omega)
      rw [HTT.out]
      refine AnyU.ready (rs := [4]) (by kernel_rfl) (by simp) (EachU.cons rfl (fun KK hKK => ?_) EachU.nil)
      go_simp
      obtain ⟨w6, hw6⟩ : ∃ w6 : World, w6 = w5.alloc (.cells (madeCells #[.int .u8 0] T) 5) := ⟨_, rfl⟩
      rw [← hw6]
      have hB6 : Below w5.heap.size w5 w6 := by rw [hw6]; exact (Below.refl _ _).alloc (Nat.le_refl _) _
      have hbl6 : Bl w6 w5.heap.size T T (fun _ => 0) := by rw [hw6]; exact bl_made w5 T
      have hG6 := (HM.out.g.same HB5.out).same hB6
      have hT6 := (HM.out.t.below HB5.out).below hB6
      have x0 : w6.cell? ⟨O, 0, none⟩ = some (.slice (some ⟨G, 0, none⟩) N N) := by rw [hB6.cell (World.block_lt_of_cell? _ _ r0)]; exact r0
      have x1 : w6.cell? ⟨sh, 0, none⟩ = some (.int .i64 (n : Nat)) := by rw [hB6.cell (World.block_lt_of_cell? _ _ r1)]; exact r1
      have x2 : w6.cell? ⟨sh, 1, none⟩ = some (.func (.func 52) #[] caps) := by rw [hB6.cell (World.block_lt_of_cell? _ _ r2)]; exact r2
      have hcell : ∃ v, w6.cell? ⟨G, k, none⟩ = some v := by
        obtain ⟨vs, k1, k2, k3⟩ := hG6.blk
        refine ⟨vs[k]'(by omega), ?_⟩
        rw [cell_of_row w6 G k vs _ _ k1]
        simp [show k < vs.size by omega]
      have hfr := hG6.free k
      obtain ⟨v0, hcell⟩ := hcell
      have hne : ∀ i, i < k → b i ≠ w5.heap.size := fun i hi e => by have := (HM.out.g.same HB5.out).ltb hi; omega
      have hB15 : w1.heap.size ≤ w5.heap.size := by have := HB5.out.size; have := HM.out.t.size; have := HSHE.out; omega
      have hG7 := hG6.pushU hlt hbl6 (by unfold maxLen; omega) hB15 hne zero_by (zero_up _) (fun _ _ => (by omega : 0 < 256)) (fun _ _ _ => rfl) (fun _ => rfl)
      have hT7 := hT6.grown (r := 0) (by omega) (grownSet w6 G k (.slice (some ⟨w5.heap.size, 0, none⟩) T T))
      have HG7 := Lib.hid hG7; have HT7 := Lib.hid hT7
      clear hw6 hB6 hbl6 hG6 hT6 hne hG7 hT7 r0 r1 r2
      refine hKK.out _ _ (fun _ => ⟨x0, x1, x2⟩) (fun hHeld => ?_)
      clear hKK KK
      have hHeld := hHeld (by decide)
      try simp only [Act.put, List.setIfInBounds_toArray, List.set_cons_zero, List.set_cons_succ]
      refine AnyU.take (i := 5) (p := 5) (oi := ⟨some 40, _, _, _, _, none⟩) (v := (.pointer (some ⟨G, k, none⟩))) rfl (by kernel_rfl) (Or.inl rfl) (by kernel_rfl) (by kernel_rfl) (by kernel_rfl) (by kernel_rfl) (fun _ _ _ h => h) (Or.inl ⟨by rfl, fun W hW => ?_⟩) (by assumption) ?_
      · go_simp
      simp only [Act.put, List.setIfInBounds_toArray, List.set_cons_zero, List.set_cons_succ]
      refine AnyU.ready (rs := [6]) (by kernel_rfl) (by simp) (EachU.cons rfl (fun KK hKK => ?_) EachU.nil)
      go_simp
      refine hKK.out _ _ (fun h => absurd rfl h) (fun hHeld => ?_)
      clear hKK KK
      try simp only [Act.put, List.setIfInBounds_toArray, List.set_cons_zero, List.set_cons_succ]
      refine AnyU.done (by kernel_rfl) ?_ _
      dsimp only
      gi_wp2_with fail
      go_roundw
      case rel => exact ⟨k + 1, _, by omega, by go_num, ⟨HG7.out, HT7.out⟩⟩
      case measure => simp [intOf]; omega
    · obtain rfl : k = N := by omega
      have i1 : ¬ (k : Int) < (k : Int) := by omega
      gi_wp2_with fail
      refine (callsIn_wide.2 (parts_l _ _ _ _)).mono ?_
      rintro e w8 ⟨rfl, hw8⟩
      have hB8 : Below wr.heap.size wr w8 := by rw [hw8]; exact (Below.refl _ _).alloc (Nat.le_refl _) _
      have hT8 := HM.out.t.below hB8
      have hG8 := HM.out.g.same hB8
      have hkk : ∀ j, j < w4.heap.size → j ≠ G → w8.heap[j]? = w4.heap[j]? := fun j hj hn => hT8.block j hj (fun _ _ => hn)
      have hGl : Gl wr.heap.size 52 n caps (fun k => k < sh) w4 w8 := ⟨by rw [hw8]; exact heap_alloc_new wr _, fun j hj => hkk j (by have : j < sh := hj; omega) (by have : j < sh := hj; omega), hT8.size⟩
      have hO8 : Boxed w8 O 22 (.slice (some ⟨G, 0, none⟩) k k) := (hkk O hO (by have := HOO.out; omega)).trans HO4.out
      have hS8 : BoB w w8 la n lc (.slice none 0 0) 0 := by
        have hb : Below w.heap.size w4 w8 := ⟨hT8.os, hT8.tape, hT8.output, hT8.size, fun j hj => hkk j (by omega) (by omega)⟩
        exact HS4.out.kept hb fun j h1 h2 => hkk j (by omega) (by omega)
      have hlt8 := (Array.getElem?_eq_some_iff.1 hGl.blk).1
      have HG8 := Lib.hid (show Gr w8 sh G k k b (fun _ => T) (fun _ => T) (fun _ _ => 0) from HSHE.out ▸ hG8); have HGl := Lib.hid hGl; have HO8 := Lib.hid hO8; have HS8 := Lib.hid hS8; have hz8 := hT8.size
      clear hw8 hB8 hT8 hG8 hkk hGl hO8 hS8 q0 q1 q2
      generalize hbs : wr.heap.size = bs at *
      clear hbs
      dsimp only
      gi_wp2_with fail
      have hz14 : w4.heap.size ≤ w8.heap.size := hz8
      refine' wpIn_rangeFunc_ownH rfl (by omega) (gf := 53) (lb := #[.pointer (some ⟨bs, 0, none⟩)]) rfl trivial (enters_of Tryz.func53 (by kernel_rfl) rfl)
        (parts_stops _ bs 52 n caps K (fun i => ((l i : Nat) : Int)) (fun k => k < sh) w4 HA4.out hn8 _ HGl.out) kpL_t (kpL_b HA4.out hz8) (Below.refl _ _) (fun _ => rfl)
        (fun pre W => w8.heap.size ≤ W.heap.size ∧ BoB w W la n lc (.slice none 0 0) 0 ∧ Boxed W O 22 (.slice (some ⟨G, 0, none⟩) k k) ∧ ∃ F, Gr W sh G k k b (fun _ => T) (fun _ => T) F ∧ ∀ j, pre.map Tk.i = List.range j → F = bodyF k K l f j)
        (fun _ _ _ => False)
        (fun s X Y row h hg hr => by
          obtain ⟨h0, hs, ho, F, hG, hF⟩ := h
          have hr2 : ∀ r, row = some r → ∃ o : Obj, X.heap[r]? = some o ∧ o.isCells = false := fun r e => (hr r e).2
          exact ⟨Nat.le_trans h0 hg.size, hs.kep hg (fun r e => ⟨by have := (hr r e).1; omega, (hr r e).2⟩), heap_kp ho hg hr2, F, gr_kp hG hg hr2, hF⟩)
        (fun _ _ _ _ _ hs _ _ => hs)
        ⟨Nat.le_refl _, HS8.out, HO8.out, _, HG8.out, fun k hk => by rw [rng_nil hk]; rfl⟩
        (fun x a' W' => ∃ p, w8.heap.size ≤ p ∧ a' = ⟨#[Value.int IntKind.i64 ↑k, Value.slice la n lc, Value.slice ka n kc, undef, Value.pointer (some { block := w.heap.size, off := 0 }), undef, Value.pointer (some { block := w.heap.size + 1, off := 0 }), Value.pointer (some { block := w.heap.size + 1 + 1, off := 0 }), Value.pointer (some { block := sh, off := 0 }), Value.pointer (some { block := O, off := 0 }), u10, Value.int IntKind.i64 ↑x.i, Value.pointer (some { block := p, off := 0 }), undef, Value.slice la n lc, Value.slice ka n kc, Value.agg #[Value.int IntKind.i64 ↑n, Value.func (Fn.func 52) #[] caps], Value.slice la n lc, Value.int IntKind.i64 ↑n, Value.slice ka n kc, Value.int IntKind.i64 ↑n, Value.bool false, Value.bool false, Value.agg #[Value.int IntKind.i64 ↑n, Value.func (Fn.func 52) #[] caps], Value.int IntKind.i64 ↑k, Value.bool true, Value.bool false, Value.bool false, Value.int IntKind.i64 ↑k, Value.slice (some { block := G, off := 0 }) k k, Value.slice (some { block := G, off := 0 }) k k, Value.int IntKind.i64 ↑k, Value.int IntKind.i64 ↑k, Value.bool false, u34, u35, u36, u37, u38, u39, u40, u41, Value.agg #[Value.int IntKind.i64 ↑n, Value.func (Fn.func 52) #[] caps], Value.func (Fn.func 53) #[] #[Value.pointer (some { block := bs, off := 0 })], Value.int IntKind.i64 ↑x.i, partV (K x.i) ((l x.i : Nat) : Int) (off K (fun i => ((l i : Nat) : Int)) x.i) (off K (fun i => ((l i : Nat) : Int)) (x.i + 1)), undef, undef, undef, undef, undef, undef, undef, undef, undef, undef, undef], []⟩ ∧ PartAt W' p K (fun i => ((l i : Nat) : Int)) x.i)
        (fun x a' _ X Y row h hg hr => by obtain ⟨p, h0, h1, h2⟩ := h; exact ⟨p, h0, h1, h2.kept hg (fun r e => (hr r e).2)⟩)
        ?assign ?body ?done ?stop
      case assign =>
        rintro q pre x W KK hI hK
        have hB := (Below.refl W.heap.size W).alloc (Nat.le_refl _) (.cells #[.int .i64 (K x.i), .int .i64 (l x.i : Nat), .int .i64 (off K (fun i => ((l i : Nat) : Int)) x.i : Nat), .int .i64 (off K (fun i => ((l i : Nat) : Int)) (x.i + 1) : Nat)] 67)
        have hR := hK _ _ ((KeepsOthers.alloc W (.cells #[.int .i64 (K x.i), .int .i64 (l x.i : Nat), .int .i64 (off K (fun i => ((l i : Nat) : Int)) x.i : Nat), .int .i64 (off K (fun i => ((l i : Nat) : Int)) (x.i + 1) : Nat)] 67)).from _) (fun g => g.same HA4.out hB)
          ⟨Nat.le_trans hI.1 hB.size, hI.2.1.same hB, hI.2.2.1.alloc _, hI.2.2.2.choose, hI.2.2.2.choose_spec.1.same hB, hI.2.2.2.choose_spec.2⟩ ⟨W.heap.size, hI.1, rfl, heap_alloc_new W _⟩
        unfold encL
        unfold partV at hR ⊢
        gi_wp2
        exact hR
      case body =>
        rintro q pre x a' W hq _ ⟨h0, hs, ho, F, hG, hF⟩ ⟨p, hp, rfl, hpa⟩ hlen
        obtain ⟨kx, hkx⟩ : ∃ kx : Nat, K x.i = (kx : Nat) := ⟨(K x.i).toNat, by have := (HT.out.2.2.2.2 x.i x.hi).1; omega⟩
        have hro := HT.out.2.2.2.2 x.i x.hi
        have hk1 : 1 ≤ kx := by have := hro.1; omega
        have hk2 : kx ≤ k := by have := hro.2.1; omega
        have hl1 : l x.i ≤ 65535 := by have h : ((l x.i : Nat) : Int) ≤ 65535 := hro.2.2.2.1; omega
        have hbad : ¬ Bad ((l x.i : Nat) : Int) (K x.i) := by unfold Bad; omega
        have hto : off K (fun i => ((l i : Nat) : Int)) (x.i + 1) = off K (fun i => ((l i : Nat) : Int)) x.i + wid (l x.i) kx := by
          show off K (fun i => ((l i : Nat) : Int)) x.i + widI ((l x.i : Nat) : Int) (K x.i) = _
          rw [widI_ok hbad, hkx]; simp
        have hoT : off K (fun i => ((l i : Nat) : Int)) (x.i + 1) ≤ T := by rw [← HTT.out]; exact off_mono _ _ x.hi
        have hF' : ∀ j, (pre ++ [x]).map Tk.i = List.range j → laidF (off K (fun i => ((l i : Nat) : Int)) x.i) (wid (l x.i) kx) (enc kx (crow (f x.i) (wid (l x.i) kx))) F k = bodyF k K l f j := fun j hj => by
          obtain ⟨j2, rfl, h2, e⟩ := rng_snoc hj
          have e2 : kx = (K j2).toNat := by rw [← e, hkx]; simp
          show _ = laidF _ _ _ _ _
          rw [hF j2 h2, e, e2]
        have hR9 := (HR.out.same hs.be)
        obtain ⟨b0, o0, ela, hc0⟩ := hR9.at_ x.hi
        obtain ⟨b0', o0', ela', hc0'⟩ := HR.out.at_ x.hi
        have hb0 : b0 < w.heap.size := by
          rw [ela] at ela'
          cases ela'
          exact World.block_lt_of_cell? _ _ hc0'
        have hsl := hR9.row x.i x.hi
        unfold PartAt at hpa
        rw [hkx] at hpa
        have p0 : W.cell? ⟨p, 0, none⟩ = some (.int .i64 (kx : Nat)) := by rw [cell_of_row W p 0 _ _ _ hpa]; rfl
        have p1 : W.cell? ⟨p, 1, none⟩ = some (.int .i64 (l x.i : Nat)) := by rw [cell_of_row W p 1 _ _ _ hpa]; rfl
        have p2 : W.cell? ⟨p, 2, none⟩ = some (.int .i64 (off K (fun i => ((l i : Nat) : Int)) x.i : Nat)) := by rw [cell_of_row W p 2 _ _ _ hpa]; rfl
        have p3 : W.cell? ⟨p, 3, none⟩ = some (.int .i64 (off K (fun i => ((l i : Nat) : Int)) (x.i + 1) : Nat)) := by rw [cell_of_row W p 3 _ _ _ hpa]; rfl
        have p4 := hs.l.cell
        have p5 := ho.cell
        have hbi : ∀ i, i < k → sh ≤ b i ∧ b i < w8.heap.size := fun i hi => ⟨HG8.out.lo.2 i hi, HG8.out.ltb hi⟩
        have hne : ∀ i, i < k → p ≠ b i := fun i hi e => by have := hbi i hi; omega
        have hneO := gr_ne hG (show W.heap[O]? = _ from ho) (by decide)
        have hnew : ∀ i, i < k → w.heap.size ≠ b i := fun i hi e => by have := hbi i hi; omega
        have hneb : ∀ i, i < k → b0 ≠ b i := fun i hi e => by have := hbi i hi; omega
        have hpl : p < W.heap.size := (Array.getElem?_eq_some_iff.1 hpa).1
        have HSX := Lib.hid hs; have HOX := Lib.hid ho; have HGX := Lib.hid hG; have HFX := Lib.hid hF'; have HSL := Lib.hid hsl; have HTO := Lib.hid hto; have HOT := Lib.hid hoT; have HBI := Lib.hid hbi
        have N1 := Lib.hid hne; have N2 := Lib.hid hneO; have N3 := Lib.hid hnew; have N4 := Lib.hid hneb; have HRO := Lib.hid hro
        have ELA := Lib.hid ela; have HKX := Lib.hid hkx
        clear hs ho hG hF hF' hsl hto hoT hbi hne hneO hnew hneb hpa hc0' ela' hR9 hro hbad
        subst ela
        generalize off K (fun i => ((l i : Nat) : Int)) x.i = fr at *
        generalize off K (fun i => ((l i : Nat) : Int)) (x.i + 1) = to_ at *
        gi_wp2_with fail
        refine Rb.wpIn_round_u (S := fun X => X.cell? ⟨p, 0, none⟩ = some (.int .i64 (kx : Nat)) ∧ X.cell? ⟨p, 1, none⟩ = some (.int .i64 (l x.i : Nat)) ∧ X.cell? ⟨p, 2, none⟩ = some (.int .i64 (fr : Nat)) ∧ X.cell? ⟨p, 3, none⟩ = some (.int .i64 (to_ : Nat)) ∧ X.cell? ⟨w.heap.size, 0, none⟩ = some (.slice (some ⟨b0, o0, none⟩) n lc) ∧ X.cell? ⟨b0, o0 + x.i, none⟩ = some (.slice (r x.i) (l x.i) (c x.i)) ∧ X.cell? ⟨O, 0, none⟩ = some (.slice (some ⟨G, 0, none⟩) k k)) (z := 7) (by kernel_rfl) (by kernel_rfl) ⟨p0, p1, p2, p3, p4, hc0, p5⟩ (fun hHeld => ?_)
        refine AnyU.take (i := 0) (p := 0) (oi := ⟨some 46, _, _, _, _, none⟩) (v := (.agg #[.int .i64 (kx : Nat), .int .i64 (l x.i : Nat), .int .i64 (fr : Nat), .int .i64 (to_ : Nat)])) rfl (by kernel_rfl) (Or.inl rfl) (by kernel_rfl) (by kernel_rfl) (by kernel_rfl) (by kernel_rfl) (fun _ _ _ h => h) (Or.inl ⟨by rfl, fun W hW => ?_⟩) (by assumption) ?_
        · (obtain ⟨h0, h1, h2, h3, h4, h5, h6⟩ := hW; go_simp)
        simp only [Act.put, List.setIfInBounds_toArray, List.set_cons_zero, List.set_cons_succ]
        refine AnyU.take (i := 1) (p := 1) (oi := ⟨some 47, _, _, _, _, none⟩) (v := (.slice (some ⟨b0, o0, none⟩) n lc)) rfl (by kernel_rfl) (Or.inl rfl) (by kernel_rfl) (by kernel_rfl) (by kernel_rfl) (by kernel_rfl) (fun _ _ _ h => h) (Or.inl ⟨by rfl, fun W hW => ?_⟩) (by assumption) ?_
        · (obtain ⟨h0, h1, h2, h3, h4, h5, h6⟩ := hW; go_simp)
        simp only [Act.put, List.setIfInBounds_toArray, List.set_cons_zero, List.set_cons_succ]
        refine AnyU.take (i := 2) (p := 2) (oi := ⟨some 48, _, _, _, _, none⟩) (v := (.int .i64 (x.i : Nat))) rfl (by kernel_rfl) (Or.inl rfl) (by kernel_rfl) (by kernel_rfl) (by kernel_rfl) (by kernel_rfl) (fun _ _ _ h => h) (Or.inl ⟨by rfl, fun W hW => ?_⟩) (by assumption) ?_
        · go_simp
        simp only [Act.put, List.setIfInBounds_toArray, List.set_cons_zero, List.set_cons_succ]
        refine AnyU.take (i := 3) (p := 3) (oi := ⟨some 49, _, _, _, _, none⟩) (v := (.pointer (some ⟨b0, o0 + x.i, none⟩))) rfl (by kernel_rfl) (Or.inl rfl) (by kernel_rfl) (by kernel_rfl) (by kernel_rfl) (by kernel_rfl) (fun _ _ _ h => h) (Or.inl ⟨by rfl, fun W hW => ?_⟩) (by assumption) ?_
        · (have hxi : (x.i : Int) < (n : Int) := by have := x.hi; omega); go_simp
        simp only [Act.put, List.setIfInBounds_toArray, List.set_cons_zero, List.set_cons_succ]
        refine AnyU.take (i := 4) (p := 4) (oi := ⟨some 50, _, _, _, _, none⟩) (v := (.slice (r x.i) (l x.i) (c x.i))) rfl (by kernel_rfl) (Or.inl rfl) (by kernel_rfl) (by kernel_rfl) (by kernel_rfl) (by kernel_rfl) (fun _ _ _ h => h) (Or.inl ⟨by rfl, fun W hW => ?_⟩) (by assumption) ?_
        · (obtain ⟨h0, h1, h2, h3, h4, h5, h6⟩ := hW; go_simp)
        simp only [Act.put, List.setIfInBounds_toArray, List.set_cons_zero, List.set_cons_succ]
        refine AnyU.take (i := 5) (p := 5) (oi := ⟨some 51, _, _, _, _, none⟩) (v := (.slice (some ⟨G, 0, none⟩) k k)) rfl (by kernel_rfl) (Or.inl rfl) (by kernel_rfl) (by kernel_rfl) (by kernel_rfl) (by kernel_rfl) (fun _ _ _ h => h) (Or.inl ⟨by rfl, fun W hW => ?_⟩) (by assumption) ?_
        · (obtain ⟨h0, h1, h2, h3, h4, h5, h6⟩ := hW; go_simp)
        simp only [Act.put, List.setIfInBounds_toArray, List.set_cons_zero, List.set_cons_succ]
        refine AnyU.ready (rs := [6]) (by kernel_rfl) (by simp) (EachU.cons rfl (fun KK hKK => ?_) EachU.nil)
        go_simp
        refine (spread_any (l x.i) kx fr to_ T HTO.out (r x.i) (c x.i) (f x.i) sh G k b F hl1 hk1 hk2 hN2 HOT.out _ (show Sl W.drew _ _ _ _ from HSL.out.drewN 1) (show Gr W.drew _ _ _ _ _ _ _ _ from HGX.out.drewN 1)).mono ?_
        rintro e W1 ⟨rfl, hG1, hBt⟩
        dsimp only
        have hBt' : BtR W W1 b k := ⟨hBt.os, hBt.tape, hBt.output, hBt.size, hBt.block⟩
        have hcc : ∀ (k' j : Nat) (v : Value), W.cell? ⟨k', j, none⟩ = some v → (∀ i, i < k → k' ≠ b i) → W1.cell? ⟨k', j, none⟩ = some v := fun k' j v hc hn => (World.cell?_of_block (hBt'.block k' (World.block_lt_of_cell? _ _ hc) hn)).trans hc
        have r0 := hcc _ _ _ p0 N1.out; have r1 := hcc _ _ _ p1 N1.out; have r2 := hcc _ _ _ p2 N1.out; have r3 := hcc _ _ _ p3 N1.out
        have r4 := hcc _ _ _ p4 N3.out; have r5 := hcc _ _ _ hc0 N4.out; have r6 := hcc _ _ _ p5 N2.out
        have HG1 := Lib.hid hG1; have HBT := Lib.hid hBt'
        clear hG1 hBt hBt' hcc
        refine hKK.out _ _ (fun _ => ⟨r0, r1, r2, r3, r4, r5, r6⟩) (fun hHeld => ?_)
        clear hKK KK
        have hHeld := hHeld (by decide)
        try simp only [Act.put, List.setIfInBounds_toArray, List.set_cons_zero, List.set_cons_succ]
        clear p0 p1 p2 p3 p4 p5 hc0 r0 r1 r2 r3 r4 r5 r6
        refine AnyU.ready (rs := [7]) (by kernel_rfl) (by simp) (EachU.cons rfl (fun KK hKK => ?_) EachU.nil)
        go_simp
        refine hKK.out _ _ (fun h => absurd rfl h) (fun hHeld => ?_)
        clear hKK KK
        try simp only [Act.put, List.setIfInBounds_toArray, List.set_cons_zero, List.set_cons_succ]
        refine AnyU.done (by kernel_rfl) ?_ _
        dsimp only
        gi_wp2_with fail
        refine ⟨gr_keeps HGX.out HBT.out _, fun g => g.kept HA4.out HBT.out.size (HBT.out.block _ g.lt (gr_ne HGX.out g.blk (by decide))) (fun j hj hd => HBT.out.block j (Nat.lt_of_lt_of_le hj g.z) (fun i hi e => by have := HBI.out i hi; have : j < sh := hd; omega)), Nat.le_trans h0 HBT.out.size, ?_, (HBT.out.block _ HOX.out.lt N2.out).trans HOX.out, _, HG1.out, HFX.out⟩
        refine HSX.out.kept ⟨HBT.out.os, HBT.out.tape, HBT.out.output, HBT.out.size, fun j hj => HBT.out.block j (by have := HSX.out.lt; omega) (fun i hi e => by have := HBI.out i hi; omega)⟩ fun j h1 h2 => HBT.out.block j (by have := HSX.out.lt; omega) (fun i hi e => by have := HBI.out i hi; omega)
      case done =>
        rintro D ys W hD hys ⟨h0, hs, ho, F, hG, hF⟩ hK
        obtain rfl := hF n hys
        have d0 := ho.cell
        have d1 := hs.v.cell; have k1 := hs.v.frozen
        have d2 : ∀ u, (W.setCell ⟨w.heap.size + 1, 0, none⟩ u).cell? ⟨w.heap.size + 1 + 1, 0, none⟩ = some (.int .i64 0) := fun u => (bx_past hs.e (by omega)).cell
        have k2 : ∀ u, (W.setCell ⟨w.heap.size + 1, 0, none⟩ u).frozen? ⟨w.heap.size + 1 + 1, 0, none⟩ = false := fun u => (bx_past hs.e (by omega)).frozen
        have HSX := Lib.hid hs
        have hGt := Lib.hid hG
        have hd1 : G ≠ w.heap.size + 1 := fun e => by
          obtain ⟨vs, h1, _⟩ := hG.blk
          rw [e, hs.v] at h1
          cases h1
        have hd2 : G ≠ w.heap.size + 1 + 1 := fun e => by
          obtain ⟨vs, h1, _⟩ := hG.blk
          rw [e, hs.e] at h1
          cases h1
        have hd3 := gr_ne hG (show W.heap[w.heap.size + 1]? = _ from hs.v) (by decide)
        have hd4 := gr_ne hG (show W.heap[w.heap.size + 1 + 1]? = _ from hs.e) (by decide)
        have HD1 := Lib.hid hd1; have HD2 := Lib.hid hd2; have HD3 := Lib.hid hd3; have HD4 := Lib.hid hd4
        clear hs ho hG hF hys hd1 hd2 hd3 hd4
        gi_wp2
        have hK' := ((KeepsOthers.setCell W ⟨w.heap.size + 1, 0, none⟩ (.slice (some ⟨G, 0, none⟩) k k)).trans (KeepsOthers.setCell _ ⟨w.heap.size + 1 + 1, 0, none⟩ (.int .i64 0))).same D _ hK rfl
        refine ⟨by simp, .inl ⟨_, _, rfl, run_takeDeferred hK', ?_⟩⟩
        have hF := (HSX.out.told (.slice (some ⟨G, 0, none⟩) k k) 0).kep (grownBy_putObj' _ D (.deferred none)) (fun k e => by cases e; exact ⟨by omega, _, hK', rfl⟩)
        have hg1 := hGt.out.kept (w' := W.setCell ⟨w.heap.size + 1, 0, none⟩ (.slice (some ⟨G, 0, none⟩) k k)) (heap_setCell_other _ _ _ _ HD1.out) (fun i hi => heap_setCell_other _ _ _ _ (fun e => HD3.out i hi e.symm))
        have hg2 := hg1.kept (w' := (W.setCell ⟨w.heap.size + 1, 0, none⟩ (.slice (some ⟨G, 0, none⟩) k k)).setCell ⟨w.heap.size + 1 + 1, 0, none⟩ (.int .i64 0)) (heap_setCell_other _ _ _ _ HD2.out) (fun i hi => heap_setCell_other _ _ _ _ (fun e => HD4.out i hi e.symm))
        have hg3 := (gr_kp hg2 (grownBy_putObj' _ D (.deferred none)) (fun r e => by cases e; exact ⟨_, hK', rfl⟩)).mono (B' := w.heap.size) (by omega)
        exact ⟨_, results_bodies rfl rfl hF.v.cell hF.e.cell, G, b, rfl, by rw [HTT.out]; exact hg3, hF.be⟩
      case stop => exact fun _ _ _ _ _ _ h _ => h.elim
/-- what Bodies answers, of whatever. -/
def BodAny (w : World) (N : Int) (m n : Nat) (K : Nat → Int) (l : Nat → Nat) (f : Nat → Nat → Nat) (e : Ending) (w' : World) : Prop :=
  (BodBad N m n K l ∧ e = .returned (.tuple #[.slice none 0 0, .int .i64 2]) ∧ Below w.heap.size w w') ∨ (¬ BodBad N m n K l ∧ ∃ N0 : Nat, N = N0 ∧ BodSays w N0 n K l f e w')
theorem bodies_any (N : Int) (la ka : Option Addr) (m lc n kc : Nat) (K : Nat → Int) (r : Nat → Option Addr) (l c : Nat → Nat) (f : Nat → Nat → Nat) (w : World) (hR : Rd w la m lc r l c f) (hS : Si w ka n K) :
    Calls Tryz.prog 10 #[.int .i64 N, .slice la m lc, .slice ka n kc] w (BodAny w N m n K l f) := by
  by_cases hb : BodBad N m n K l
  · exact (bodies_no N la ka m lc n kc K r l c f hb w hR hS).mono fun e w' h => Or.inl ⟨hb, h⟩
  · have hb' := hb
    unfold BodBad at hb'
    obtain rfl : m = n := by omega
    have hT : TabOk N m K (fun i => ((l i : Nat) : Int)) := by
      by_cases h : TabOk N m K (fun i => ((l i : Nat) : Int))
      · exact h
      · exact absurd (Or.inr h) hb'
    obtain ⟨N0, rfl⟩ : ∃ N0 : Nat, N = N0 := ⟨N.toNat, by have := hT.1; omega⟩
    exact (bodies_yes N0 la ka lc m kc K r l c f hT w hR hS).mono fun e w' h => Or.inr ⟨hb, N0, rfl, h⟩
end Go.Proofs.YtkejabhjlflknaaGreat.Ly

namespace Go.Proofs.YtkejabhjlflknaaGreat.Ly
open Go.RowKit Go.Shelf
open Go.Proofs.YtkejabhjlflknaaGreat.Sp (Bad wid wid_le wid_hi wid_lo Tk heap_kp bx_past)
attribute [local go_sem] Oper.semAt_some

theorem undT : Tryz.prog.underlying 36 = some (.slice (Tryz.prog.elem 36)) := by kernel_rfl
theorem elemT : Tryz.prog.elem 36 = 48 := by kernel_rfl
theorem sizeT (w : World) : (sizeOf (Tryz.prog.elem 36)).run Tryz.prog w = .ok 2 w := by rw [elemT]; kernel_rfl
theorem slice_hT (a : Option Addr) (n cap h : Nat) (h2 : h ≤ cap) (W : World) :
    (Instr.slice 36 (.slice a n cap) none (some (.int .i64 (h : Nat))) none).run Tryz.prog W = .ok (.slice a h cap) W := by
  rw [run_slice_h (P := Tryz.prog) W 36 a n cap undT .i64 h (by omega) (by omega), sizeT]
  cases a <;> simp [Result.andThen, sliced, Addr.add]
theorem results_gather {tmps : Array Value} {w : World} {p q : Nat} {v : Value} {e : Int} (hp : tmps.getD 6 undef = .pointer (some ⟨p, 0, none⟩)) (hq : tmps.getD 7 undef = .pointer (some ⟨q, 0, none⟩)) (c1 : w.cell? ⟨p, 0, none⟩ = some v) (c2 : w.cell? ⟨q, 0, none⟩ = some (.int .i64 e)) :
    (results Tryz.f19 tmps).run Tryz.prog w = .ok (.tuple #[v, .int .i64 e]) w := by
  rw [Array.getD_eq_getD_getElem?] at hp hq
  simp [results, Tryz.f19, hp, hq, go_sem, c1, c2]
/-- boxes of Gather. -/
structure BoG (w W : World) (N : Int) (ha : Option Addr) (m hc : Nat) (v : Value) (e : Int) : Prop where
  n : Boxed W w.heap.size 3 (.int .i64 N)
  l : Boxed W (w.heap.size + 1) 37 (.slice ha m hc)
  v : Boxed W (w.heap.size + 1 + 1) 22 v
  e : Boxed W (w.heap.size + 1 + 1 + 1) 28 (.int .i64 e)
  be : Below w.heap.size w W
section
variable {w W W' : World} {N : Int} {ha : Option Addr} {m hc : Nat} {v : Value} {e : Int}
theorem BoG.lt (s : BoG w W N ha m hc v e) : w.heap.size + 1 + 1 + 1 < W.heap.size := s.e.lt
theorem BoG.same (s : BoG w W N ha m hc v e) (hB : Below W.heap.size W W') : BoG w W' N ha m hc v e := by
  have := s.lt
  exact ⟨(hB.block _ s.n.lt).trans s.n, (hB.block _ s.l.lt).trans s.l, (hB.block _ s.v.lt).trans s.v, (hB.block _ s.e.lt).trans s.e, s.be.trans (hB.mono s.be.size)⟩
theorem BoG.kep {row : Option Nat} (s : BoG w W N ha m hc v e) (hg : W.grownBy W' row) (hr : ∀ r, row = some r → w.heap.size ≤ r ∧ ∃ o : Obj, W.heap[r]? = some o ∧ o.isCells = false) : BoG w W' N ha m hc v e :=
  ⟨heap_kp s.n hg (fun r e => (hr r e).2), heap_kp s.l hg (fun r e => (hr r e).2), heap_kp s.v hg (fun r e => (hr r e).2), heap_kp s.e hg (fun r e => (hr r e).2), s.be.grown hg s.be.size (fun k e => (hr k e).1)⟩
theorem BoG.past {r : Nat} (s : BoG w W N ha m hc v e) (hg : W.grownBy W' (some r)) (hr : w.heap.size + 4 ≤ r) : BoG w W' N ha m hc v e :=
  ⟨s.n.kept hg (by intro e; injection e; omega), s.l.kept hg (by intro e; injection e; omega), s.v.kept hg (by intro e; injection e; omega), s.e.kept hg (by intro e; injection e; omega), s.be.grown hg s.be.size (fun k e => by injection e; omega)⟩
theorem BoG.told (s : BoG w W N ha m hc v e) (v' : Value) (e' : Int) : BoG w ((W.setCell ⟨w.heap.size + 1 + 1, 0, none⟩ v').setCell ⟨w.heap.size + 1 + 1 + 1, 0, none⟩ (.int .i64 e')) N ha m hc v' e' :=
  ⟨bx_past (bx_past s.n (by omega)) (by omega), bx_past (bx_past s.l (by omega)) (by omega), bx_past (s.v.set _) (by omega), (bx_past s.e (by omega)).set _, (s.be.setCell (p := ⟨w.heap.size + 1 + 1, 0, none⟩) (by simp; omega) _).setCell (p := ⟨w.heap.size + 1 + 1 + 1, 0, none⟩) (by simp; omega) _⟩
theorem BoG.start (w : World) (N : Int) (ha : Option Addr) (m hc : Nat) : BoG w ((((w.alloc (.cells #[.int .i64 N] 3)).alloc (.cells #[.slice ha m hc] 37)).alloc (.cells #[.slice none 0 0] 22)).alloc (.cells #[.int .i64 0] 28)) N ha m hc (.slice none 0 0) 0 := by
  have b0 := (((Boxed.new w 3 (.int .i64 N)).alloc (.cells #[.slice ha m hc] 37)).alloc (.cells #[.slice none 0 0] 22)).alloc (.cells #[.int .i64 0] 28)
  have b1 := ((Boxed.new (w.alloc (.cells #[.int .i64 N] 3)) 37 (.slice ha m hc)).alloc (.cells #[.slice none 0 0] 22)).alloc (.cells #[.int .i64 0] 28)
  have b2 := (Boxed.new ((w.alloc (.cells #[.int .i64 N] 3)).alloc (.cells #[.slice ha m hc] 37)) 22 (.slice none 0 0)).alloc (.cells #[.int .i64 0] 28)
  have b3 := Boxed.new (((w.alloc (.cells #[.int .i64 N] 3)).alloc (.cells #[.slice ha m hc] 37)).alloc (.cells #[.slice none 0 0] 22)) 28 (.int .i64 0)
  exact ⟨b0, by simpa using b1, by simpa using b2, by simpa using b3, (below_abc _ _ _).alloc (by simp; omega) _⟩
end
/-- of, with what its sheet asks. -/
theorem of_x (B : Nat) (w0 w : World) (a : Option Addr) (n cap : Nat) (K L : Nat → Int) (hB0 : w0.heap.size = B) (hB : Below B w0 w) (hT : Tb w0 a n K L) :
    Calls Tryz.prog 40 #[.slice a n cap] w fun e w' => ∃ caps, e = .returned (.agg #[.int .i64 (n : Nat), .func (.func 65) #[] caps]) ∧ Below w.heap.size w w' ∧ AskL (fun k => k < B ∨ k = w.heap.size) w' 65 n caps K L :=
  (of_l a n cap w).mono fun _ w' ⟨e, hB1, h1⟩ => ⟨_, e, hB1, ask_of B w0 w' _ a n cap K L hB0 (hB.trans (hB1.mono (by have := hB.size; omega))) h1 hT⟩
/-- why there is nothing to give. -/
def GatErr (N : Int) (n : Nat) (K L : Nat → Int) (h : Nat → Int) (l : Nat → Nat) (m : Nat) (E : Int) : Prop :=
  (¬ TabOk N n K L ∧ E = 2) ∨ (TabOk N n K L ∧ E ≠ 0 ∧ LChk h l m N.toNat (off K L n) E)
set_option maxHeartbeats 4000000 in
set_option maxRecDepth 100000 in
theorem gather_no (N : Int) (a ha : Option Addr) (n cap m hc : Nat) (K L : Nat → Int) (h : Nat → Int) (r : Nat → Option Addr) (l c : Nat → Nat) (f : Nat → Nat → Nat) (hm : m ≤ 1000000000000) (E : Int) (hE : GatErr N n K L h l m E) (w : World) (hT : Tb w a n K L) (hH : Hs w ha m h r l c f) :
    Calls Tryz.prog 19 #[.int .i64 N, .slice a n cap, .slice ha m hc] w fun e w' => e = .returned (.tuple #[.slice none 0 0, .int .i64 E]) ∧ Below w.heap.size w w' := by
  have hs0 := BoG.start w N ha m hc
  have HS0 := Lib.hid hs0; have HT := Lib.hid hT; have HH := Lib.hid hH; have HE := Lib.hid hE
  clear hs0 hT hH hE
  go_enter Tryz.func19, Tryz.ntmps19
  go_wp2_with fail
  refine (of_x w.heap.size w _ a n cap K L rfl HS0.out.be HT.out).mono ?_
  rintro e w1 ⟨caps, rfl, hB1, hA⟩
  have HS1 := Lib.hid (HS0.out.same hB1)
  have hB2 := (Below.refl w1.heap.size w1).alloc (Nat.le_refl _) (.cells #[.int .i64 (n : Nat), .func (.func 65) #[] caps] 59)
  have HS2 := Lib.hid (HS1.out.same hB2)
  have HA := Lib.hid (hA.same hB2)
  have c0 := HS2.out.n.cell
  have hsh := heap_alloc_new w1 (.cells #[.int .i64 (n : Nat), .func (.func 65) #[] caps] 59)
  have s0 := cell_of_row _ w1.heap.size 0 _ _ _ hsh
  have s1 := cell_of_row _ w1.heap.size 1 _ _ _ hsh
  change World.cell? _ _ = some (.int .i64 (n : Nat)) at s0
  change World.cell? _ _ = some (.func (.func 65) #[] caps) at s1
  have HSH := Lib.hid hsh
  clear hB1 hA hB2 hsh
  go_wp2_with ((show wpList _ _ _ (⟨none, .store 59 _ _, _, _, _, _⟩ :: _) _ _); refine wpList_store_new rfl 59 _ _ rfl w1.heap.size rfl #[.int .i64 (n : Nat), .func (.func 65) #[] caps] _ _ rfl rfl (by kernel_rfl) rfl (by simp [Value.oneCell']) ?_)
  refine (right_l n _ caps K L _ N _ HA.out).mono ?_
  rintro e w3 ⟨⟨v, rfl, hv⟩, hB3⟩
  have HS3 := Lib.hid (HS2.out.same hB3); have HA3 := Lib.hid (HA.out.same hB3); have hsh3 := (hB3.block _ (Array.getElem?_eq_some_iff.1 HSH.out).1).trans HSH.out
  have HV := Lib.hid hv
  clear hB3 s0 s1 c0 hv
  cases v
  · obtain rfl : E = 2 := by
      rcases HE.out with ⟨_, e⟩ | ⟨ht, _⟩
      · exact e
      · exact absurd (HV.out.2 ht) (by simp)
    have d1 := HS3.out.v.cell; have k1 := HS3.out.v.frozen
    have d2 : ∀ u, (w3.setCell ⟨w.heap.size + 1 + 1, 0, none⟩ u).cell? ⟨w.heap.size + 1 + 1 + 1, 0, none⟩ = some (.int .i64 0) := fun u => (bx_past HS3.out.e (by omega)).cell
    have k2 : ∀ u, (w3.setCell ⟨w.heap.size + 1 + 1, 0, none⟩ u).frozen? ⟨w.heap.size + 1 + 1 + 1, 0, none⟩ = false := fun u => (bx_past HS3.out.e (by omega)).frozen
    clear hsh3
    go_wp2
    exact bodyPost_ret (results_gather rfl rfl (HS3.out.told _ 2).v.cell (HS3.out.told _ 2).e.cell) rfl ⟨rfl, (HS3.out.told _ 2).be⟩
  · have ht := HV.out.1 rfl
    obtain ⟨hE0, hEc⟩ : E ≠ 0 ∧ LChk h l m N.toNat (off K L n) E := by
      rcases HE.out with ⟨hn, _⟩ | ⟨_, h1, h2⟩
      · exact absurd ht hn
      · exact ⟨h1, h2⟩
    obtain ⟨N0, rfl⟩ : ∃ N0 : Nat, N = N0 := ⟨N.toNat, by have := ht.1; omega⟩
    have hN0 : N0 ≤ 255 := by have := ht.2.1; omega
    have hn8 := ht.2.2.2.1
    have HEC := Lib.hid hEc
    have c0 := HS3.out.n.cell
    have c5 := HS3.out.l.cell
    have s0 := cell_of_row _ w1.heap.size 0 _ _ _ hsh3
    have s1 := cell_of_row _ w1.heap.size 1 _ _ _ hsh3
    change World.cell? _ _ = some (.int .i64 (n : Nat)) at s0
    change World.cell? _ _ = some (.func (.func 65) #[] caps) at s1
    clear hsh3 ht hEc
    go_wp2_with fail
    refine (check_l n _ caps K L _ hn8 N0 hN0 ha m hc h r l c f hm _ HA3.out (HH.out.same HS3.out.be)).mono ?_
    rintro e w4 ⟨⟨E', rfl, hc'⟩, hB4⟩
    obtain rfl : E' = E := hc'.uniq (by have := HEC.out; rwa [Int.toNat_natCast] at this)
    have HS4 := Lib.hid (HS3.out.same hB4)
    have d1 := (HS3.out.same hB4).v.cell; have k1 := (HS3.out.same hB4).v.frozen
    have d2 : ∀ u, (w4.setCell ⟨w.heap.size + 1 + 1, 0, none⟩ u).cell? ⟨w.heap.size + 1 + 1 + 1, 0, none⟩ = some (.int .i64 0) := fun u => (bx_past (HS3.out.same hB4).e (by omega)).cell
    have k2 : ∀ u, (w4.setCell ⟨w.heap.size + 1 + 1, 0, none⟩ u).frozen? ⟨w.heap.size + 1 + 1 + 1, 0, none⟩ = false := fun u => (bx_past (HS3.out.same hB4).e (by omega)).frozen
    have g1 : (E' != 0) = true := by simpa using hE0
    clear hB4 hc' s0 s1 c0 c5 hE0
    go_wp2
    exact bodyPost_ret (results_gather rfl rfl (HS4.out.told _ E').v.cell (HS4.out.told _ E').e.cell) rfl ⟨rfl, (HS4.out.told _ E').be⟩
end Go.Proofs.YtkejabhjlflknaaGreat.Ly

namespace Go.Proofs.YtkejabhjlflknaaGreat.Ly
open Go.RowKit Go.Shelf
open Go.Proofs.YtkejabhjlflknaaGreat.Sp (Bad wid wid_le wid_hi wid_lo Tk heap_kp bx_past)
attribute [local go_sem] Oper.semAt_some

/-- as far as it goes. -/
def cutF (h : Nat → Nat) (L i : Nat) : Nat := if i < L then h i else 0
theorem cutF_by {h : Nat → Nat} (hb : Pf.By h) (L : Nat) : Pf.By (cutF h L) := fun i => by unfold cutF; split; exact hb i; omega
theorem cutF_up (h : Nat → Nat) (L : Nat) : Pf.Up (cutF h L) L := fun i hi => if_neg (by omega)
theorem layF_by (h : Nat → Int) {K : Nat} (hK : K ≤ 256) (wi fr : Nat) {f : Nat → Nat → Nat} (hf : Mt.Bm f) : Pf.By (layF h K wi fr f) := fun _ => dcd_bm h hK (sub_bm hf fr wi) _ _
/-- the layers that are had. -/
def gatF (h : Nat → Int) (K L : Nat → Int) (f : Nat → Nat → Nat) (j : Nat) : Nat → Nat := cutF (layF h (K j).toNat (wid (L j).toNat (K j).toNat) (off K L j) f) (L j).toNat
def gatG (h : Nat → Int) (K L : Nat → Int) (f : Nat → Nat → Nat) (mm j : Nat) : Nat → Nat := if j < mm then gatF h K L f j else fun _ => 0
def GatSays (w : World) (mm : Nat) (h : Nat → Int) (K L : Nat → Int) (f : Nat → Nat → Nat) (e : Ending) (w' : World) : Prop :=
  ∃ G b, e = .returned (.tuple #[.slice (some ⟨G, 0, none⟩) mm mm, .int .i64 0]) ∧ Gr w' w.heap.size G mm mm b (fun j => (L j).toNat) (fun j => (L j).toNat) (gatG h K L f mm) ∧ Below w.heap.size w w'
/-- a list that is pushed to, as it is. -/
theorem Pr.gr {w : World} {B G k cap : Nat} {b l c : Nat → Nat} {f : Nat → Nat → Nat} (h : Pr w B (some ⟨G, 0, none⟩) k cap b l c f) : Gr w B G k cap b l c f := by
  rcases h.go.2 with ⟨e, _⟩ | ⟨G', e, hg⟩
  · cases e
  · cases e; exact hg
theorem Pr.kp {X Y : World} {row : Option Nat} {B k cap : Nat} {a : Option Addr} {b l c : Nat → Nat} {f : Nat → Nat → Nat} (h : Pr X B a k cap b l c f) (hg : X.grownBy Y row) (hn : ∀ g, a = some ⟨g, 0, none⟩ → some g ≠ row) (hb : ∀ i, i < k → some (b i) ≠ row) : Pr Y B a k cap b l c f := by
  refine ⟨h.own.kept hg ?_, fun i hi => (h.row i hi).kept (hg.block _ (h.row i hi).lt (hb i hi)), h.lc, h.lo, h.inj, h.bm, h.up⟩
  rcases h.own.2 with ⟨e, _⟩ | ⟨g, cp, cur, e, _, hgb, _⟩
  · exact Or.inl (by cases e; rfl)
  · simp only [Value.slice.injEq, true_and] at e
    obtain ⟨rfl, rfl⟩ := e
    exact Or.inr (hn g rfl)
theorem Pr.kpo {X Y : World} {row : Option Nat} {B k cap : Nat} {a : Option Addr} {b l c : Nat → Nat} {f : Nat → Nat → Nat} (h : Pr X B a k cap b l c f) (hg : X.grownBy Y row) (hr : ∀ r, row = some r → ∃ o : Obj, X.heap[r]? = some o ∧ o.isCells = false) : Pr Y B a k cap b l c f := by
  refine Pr.kp h hg (fun g e er => ?_) (fun i hi er => ?_)
  · obtain ⟨o, ho, hc⟩ := hr g er.symm
    rcases h.own.2 with ⟨e2, _⟩ | ⟨g', cp, cur, e2, _, hgb, _⟩
    · rw [e] at e2; cases e2
    · rw [e] at e2
      cases e2
      rw [hgb] at ho; cases ho; cases hc
  · obtain ⟨o, ho, hc⟩ := hr _ er.symm
    obtain ⟨vs, h1, _⟩ := h.row i hi
    rw [h1] at ho; cases ho; cases hc
theorem pr_ne {W : World} {B k cap j : Nat} {a : Option Addr} {b l c : Nat → Nat} {f : Nat → Nat → Nat} (h : Pr W B a k cap b l c f) {vs : Array Value} {t : TypeId} {z : Nat × Nat} (hk : W.heap[j]? = some (.cells vs t z)) (ht : t ≠ 5) : ∀ i, i < k → b i ≠ j := fun i hi e => by
  obtain ⟨vs', h1, _⟩ := h.row i hi
  rw [e, hk] at h1
  injection h1 with h1
  injection h1 with _ h2
  exact ht h2
theorem pr_made (W : World) (B N : Nat) (b l c : Nat → Nat) (hN : N ≤ 1000000000) (hB : B ≤ W.heap.size) : Pr (W.alloc (.cells (madeCells #[.slice none 0 0] N) 50)) B (some ⟨W.heap.size, 0, none⟩) 0 N b l c (fun _ _ => 0) :=
  ⟨World.ownsRow_made W _ N hB (by unfold maxLen; omega) (by rw [size_madeCells, Nat.mul_one]), fun i hi => absurd hi (Nat.not_lt_zero i), fun i hi => absurd hi (Nat.not_lt_zero i), fun i hi => absurd hi (Nat.not_lt_zero i), fun i _ hi => absurd hi (Nat.not_lt_zero i), fun _ _ => (by omega : 0 < 256), fun i hi => absurd hi (Nat.not_lt_zero i)⟩

set_option maxHeartbeats 4000000 in
set_option maxRecDepth 100000 in
theorem gather_yes (N : Nat) (a ha : Option Addr) (n cap m hc : Nat) (K L : Nat → Int) (h : Nat → Int) (r : Nat → Option Addr) (l c : Nat → Nat) (f : Nat → Nat → Nat) (hm : m ≤ 1000000000000) (hncap : n ≤ cap) (hTO : TabOk N n K L) (hAll : AllH h l m N (off K L n)) (hD : DsI h m) (w : World) (hT : Tb w a n K L) (hH : Hs w ha m h r l c f) (hcc : ∀ i, i < m → l i ≤ c i) (mm : Nat) (hmm : RdyN n K m mm) :
    Calls Tryz.prog 19 #[.int .i64 (N : Nat), .slice a n cap, .slice ha m hc] w (GatSays w mm h K L f) := by
  refine (callsIn_wide (n := 6)).1 ?_
  have hW : ∀ k, Fence.wide.fn k := fun _ => trivial
  have hD : Fence.wide.depth = none := rfl
  rename_i hDs
  have hs0 := BoG.start w (N : Nat) ha m hc
  have hN2 : N ≤ 255 := by have := hTO.2.1; omega
  have hn8 := hTO.2.2.2.1
  have hmn := hmm.1
  have HS0 := Lib.hid hs0; have HT := Lib.hid hT; have HH := Lib.hid hH; have HTO := Lib.hid hTO; have HAL := Lib.hid hAll; have HDS := Lib.hid hDs; have HCC := Lib.hid hcc; have HMM := Lib.hid hmm
  have HTL := Lib.hid (off_le K L n)
  clear hs0 hT hH hTO hAll hDs hcc hmm
  refine callsIn_of_wp_marks Tryz.func19 rfl trivial ?_ rfl
  simp only [Tryz.ntmps19, List.size_toArray, List.length_cons, List.length_nil, Nat.reduceAdd, Nat.reduceSub, Array.replicate_succ, Array.replicate_zero, List.push_toArray, List.append_toArray, List.nil_append, List.cons_append]
  gi_wp2_with fail
  refine (callsIn_wide.2 (of_x w.heap.size w _ a n cap K L rfl HS0.out.be HT.out)).mono ?_
  rintro e w1 ⟨caps, rfl, hB1, hA⟩
  have HS1 := Lib.hid (HS0.out.same hB1)
  have hB2 := (Below.refl w1.heap.size w1).alloc (Nat.le_refl _) (.cells #[.int .i64 (n : Nat), .func (.func 65) #[] caps] 59)
  have HS2 := Lib.hid (HS1.out.same hB2)
  have HA := Lib.hid (hA.same hB2)
  have c0 := HS2.out.n.cell
  have hsh := heap_alloc_new w1 (.cells #[.int .i64 (n : Nat), .func (.func 65) #[] caps] 59)
  have s0 := cell_of_row _ w1.heap.size 0 _ _ _ hsh
  have s1 := cell_of_row _ w1.heap.size 1 _ _ _ hsh
  change World.cell? _ _ = some (.int .i64 (n : Nat)) at s0
  change World.cell? _ _ = some (.func (.func 65) #[] caps) at s1
  have HSH := Lib.hid hsh
  clear hB1 hA hB2 hsh
  gi_wp2_with ((show wpListIn _ _ _ _ _ (⟨none, .store 59 _ _, _, _, _, _⟩ :: _) _ _); refine Rb.wpListIn_store_new rfl 59 _ _ rfl w1.heap.size rfl #[.int .i64 (n : Nat), .func (.func 65) #[] caps] _ _ rfl rfl (by kernel_rfl) rfl (by simp [Value.oneCell']) ?_)
  refine (callsIn_wide.2 (right_l n _ caps K L _ N _ HA.out)).mono ?_
  rintro e w3 ⟨⟨v, rfl, hv⟩, hB3⟩
  obtain rfl : v = true := hv.2 HTO.out
  have HS3 := Lib.hid (HS2.out.same hB3); have HA3 := Lib.hid (HA.out.same hB3); have hsh3 := (hB3.block _ (Array.getElem?_eq_some_iff.1 HSH.out).1).trans HSH.out
  have HSH3 := Lib.hid hsh3
  have c0 := HS3.out.n.cell
  have c5 := HS3.out.l.cell
  have s0 := cell_of_row _ w1.heap.size 0 _ _ _ hsh3
  have s1 := cell_of_row _ w1.heap.size 1 _ _ _ hsh3
  change World.cell? _ _ = some (.int .i64 (n : Nat)) at s0
  change World.cell? _ _ = some (.func (.func 65) #[] caps) at s1
  clear hB3 hsh3 hv
  gi_wp2_with fail
  refine (callsIn_wide.2 (check_l n _ caps K L _ hn8 N hN2 ha m hc h r l c f hm _ HA3.out (HH.out.same HS3.out.be))).mono ?_
  rintro e w4 ⟨⟨E', rfl, hc'⟩, hB4⟩
  obtain rfl : E' = 0 := hc'.uniq (Or.inr (Or.inr ⟨HAL.out, HDS.out, rfl⟩))
  have HS4 := Lib.hid (HS3.out.same hB4); have HA4 := Lib.hid (HA3.out.same hB4); have hsh4 := (hB4.block _ (Array.getElem?_eq_some_iff.1 HSH3.out).1).trans HSH3.out
  have c0 := HS4.out.n.cell
  have c5 := HS4.out.l.cell
  have s0 := cell_of_row _ w1.heap.size 0 _ _ _ hsh4
  have s1 := cell_of_row _ w1.heap.size 1 _ _ _ hsh4
  change World.cell? _ _ = some (.int .i64 (n : Nat)) at s0
  change World.cell? _ _ = some (.func (.func 65) #[] caps) at s1
  clear hB4 hsh4 hc' HS3 HA3 HSH3
  gi_wp2_with fail
  refine (callsIn_wide.2 (ready_l n _ caps K L _ m hn8 _ HA4.out)).mono ?_
  rintro e w5 ⟨⟨mq, rfl, hmq⟩, hB5⟩
  obtain rfl : mq = mm := hmq.uniq HMM.out
  have HS5 := Lib.hid (HS4.out.same hB5)
  have hmk := Sp.hmkL mq (by omega)
  have hsl := fun W => slice_hT a n cap mq (by omega) W
  clear hB5 hmq s0 s1 c0 c5 HA4
  dsimp only
  have hP6 := pr_made w5 w.heap.size mq (fun _ => 0) (fun j => (L j).toNat) (fun j => (L j).toNat) (by omega) HS5.out.be.size
  have hB6 : Below w5.heap.size w5 ((w5.alloc (.cells (madeCells #[.slice none 0 0] mq) 50)).alloc (.cells #[.slice (some ⟨w5.heap.size, 0, none⟩) 0 mq] 22)) := ((Below.refl _ w5).alloc (Nat.le_refl _) _).alloc (by simp) _
  have hO6 := Boxed.new (w5.alloc (.cells (madeCells #[.slice none 0 0] mq) 50)) 22 (.slice (some ⟨w5.heap.size, 0, none⟩) 0 mq)
  rw [World.size_alloc] at hO6
  have hP6' := Pr.kp (Y := (w5.alloc (.cells (madeCells #[.slice none 0 0] mq) 50)).alloc (.cells #[.slice (some ⟨w5.heap.size, 0, none⟩) 0 mq] 22)) hP6 (World.grownBy_alloc _ _ none) (fun _ _ h => by cases h) (fun i hi => absurd hi (Nat.not_lt_zero i))
  have HP6 := Lib.hid hP6'; have HO6 := Lib.hid hO6; have HB6 := Lib.hid hB6
  have hz6 : ((w5.alloc (.cells (madeCells #[.slice none 0 0] mq) 50)).alloc (.cells #[.slice (some ⟨w5.heap.size, 0, none⟩) 0 mq] 22)).heap.size = w5.heap.size + 1 + 1 := by simp
  have HZ6 := Lib.hid hz6
  clear hP6 hP6' hB6 hO6 hz6
  gi_wp2_with fail
  obtain ⟨w6, hw6⟩ : ∃ w6 : World, w6 = (w5.alloc (.cells (madeCells #[.slice none 0 0] mq) 50)).alloc (.cells #[.slice (some ⟨w5.heap.size, 0, none⟩) 0 mq] 22) := ⟨_, rfl⟩
  rw [← hw6] at HP6 HO6 HB6 HZ6 ⊢
  clear hw6 hmk hsl
  have hw5 := HS5.out.lt
  have HS6 := Lib.hid (HS5.out.same HB6.out)
  have hz6 := HZ6.out
  generalize hGG : w5.heap.size = G at *
  generalize hOO : G + 1 = O at *
  have HGG := Lib.hid hGG; have HOO := Lib.hid hOO
  clear hGG hOO
  refine (callsIn_wide.2 (of_x w.heap.size w w6 a mq cap K L rfl HS6.out.be (HT.out.less hmn))).mono ?_
  rintro e w7 ⟨caps2, rfl, hB7, hA7⟩
  have HS7 := Lib.hid (HS6.out.same hB7); have HA7 := Lib.hid hA7; have HP7 := Lib.hid (Pr.kp HP6.out (below_grown hB7 none) (fun _ _ h => by cases h) (fun i hi => absurd hi (Nat.not_lt_zero i))); have HO7 := Lib.hid ((hB7.block _ HO6.out.lt).trans HO6.out)
  have hlb := hA7.lt w6.heap.size (Or.inr rfl)
  clear hB7 hA7
  dsimp only
  gi_wp2_with fail
  refine (callsIn_wide.2 (parts_l _ _ _ _)).mono ?_
  rintro e w8 ⟨rfl, hw8⟩
  have hB8 : Below w7.heap.size w7 w8 := by rw [hw8]; exact (Below.refl _ _).alloc (Nat.le_refl _) _
  have hGl : Gl w7.heap.size 65 mq caps2 (fun k => k < w.heap.size ∨ k = w6.heap.size) w7 w8 := ⟨by rw [hw8]; exact heap_alloc_new w7 _, HA7.out.agr hB8, hB8.size⟩
  have HS8 := Lib.hid (HS7.out.same hB8); have HP8 := Lib.hid (Pr.kp HP7.out (below_grown hB8 none) (fun _ _ h => by cases h) (fun i hi => absurd hi (Nat.not_lt_zero i))); have HO8 : Hid (Boxed w8 O 22 (.slice (some ⟨G, 0, none⟩) 0 mq)) := Lib.hid ((hB8.block _ (Boxed.lt HO7.out)).trans HO7.out)
  have HGl := Lib.hid hGl
  have hz8 := hB8.size
  have hlt8 := hGl.lt
  clear hB8 hGl hw8
  generalize hlbe : w6.heap.size = lb at *
  generalize hbs : w7.heap.size = bs at *
  have HLB := Lib.hid hlbe; have HBS := Lib.hid hbs
  clear hlbe hbs
  dsimp only
  gi_wp2_with fail
  have hw8s := HS8.out.lt
  have HHT : Hid (Hs w ha m h r (fun _ => off K L n) c f) := Lib.hid ⟨HH.out.bm, fun i hi => (by obtain ⟨b, o, e, h1, h2⟩ := HH.out.cell i hi; rw [(HAL.out i hi).2] at h2; exact ⟨b, o, e, h1, h2⟩), fun i hi => (by have := HH.out.row i hi; rw [(HAL.out i hi).2] at this; exact this)⟩
  obtain ⟨i0, hi0, hz0, hz1, hz2⟩ := info_parts (P := Tryz.prog) (e := 50) (z := .slice none 0 0) (size := 1) (bytes := 24) (by kernel_rfl)
  have HI := Lib.hid hi0; have HZ1 := Lib.hid hz1
  clear hi0 hz0 hz1 hz2
  refine' wpIn_rangeFunc_ownH rfl (by omega) (gf := 53) (lb := #[.pointer (some ⟨bs, 0, none⟩)]) rfl trivial (enters_of Tryz.func53 (by kernel_rfl) rfl)
    (parts_stops _ bs 65 mq caps2 K L (fun k => k < w.heap.size ∨ k = lb) w7 HA7.out (by omega) _ HGl.out) kpL_t (kpL_b HA7.out (by rw [HBS.out]; omega)) (Below.refl _ _) (fun _ => rfl)
    (fun pre W => w8.heap.size ≤ W.heap.size ∧ BoG w W (N : Nat) ha m hc (.slice none 0 0) 0 ∧ Boxed W O 22 (.slice (some ⟨G, 0, none⟩) pre.length mq) ∧ ∃ (b l c : Nat → Nat) (F : Nat → Nat → Nat), Pr W w.heap.size (some ⟨G, 0, none⟩) pre.length mq b l c F ∧ ∀ j, pre.map Tk.i = List.range j → ∀ i, i < j → l i = (L i).toNat ∧ c i = (L i).toNat ∧ F i = gatF h K L f i)
    (fun _ _ _ => False)
    (fun s X Y row h hg hr => by
      obtain ⟨h0, hs, ho, b, l, c, F, hP, hF⟩ := h
      have hr2 : ∀ r, row = some r → ∃ o : Obj, X.heap[r]? = some o ∧ o.isCells = false := fun r e => (hr r e).2
      refine ⟨Nat.le_trans h0 hg.size, hs.kep hg (fun r e => ⟨by have := (hr r e).1; omega, (hr r e).2⟩), heap_kp ho hg hr2, b, l, c, F, Pr.kpo hP hg hr2, hF⟩)
    (fun _ _ _ _ _ hs _ _ => hs)
    ⟨Nat.le_refl _, HS8.out, HO8.out, _, _, _, _, HP8.out, fun k hk i hi => by rw [rng_nil hk] at hi; omega⟩
    (fun x a' W' => ∃ p, w8.heap.size ≤ p ∧ a' = ⟨#[Value.int IntKind.i64 ↑N, Value.slice a n cap, Value.slice ha m hc, Value.pointer (some { block := w.heap.size, off := 0 }), undef, Value.pointer (some { block := w.heap.size + 1, off := 0 }), Value.pointer (some { block := w.heap.size + 1 + 1, off := 0 }), Value.pointer (some { block := w.heap.size + 1 + 1 + 1, off := 0 }), Value.pointer (some { block := w1.heap.size, off := 0 }), Value.int IntKind.i64 0, Value.int IntKind.i64 ↑mq, Value.pointer (some { block := O, off := 0 }), undef, Value.pointer (some { block := p, off := 0 }), undef, undef, Value.slice a n cap, Value.agg #[Value.int IntKind.i64 ↑n, Value.func (Fn.func 65) #[] caps], Value.agg #[Value.int IntKind.i64 ↑n, Value.func (Fn.func 65) #[] caps], Value.int IntKind.i64 ↑N, Value.bool true, Value.bool false, Value.agg #[Value.int IntKind.i64 ↑n, Value.func (Fn.func 65) #[] caps], Value.int IntKind.i64 ↑N, Value.slice ha m hc, Value.int IntKind.i64 0, Value.int IntKind.i64 0, Value.bool false, undef, Value.agg #[Value.int IntKind.i64 ↑n, Value.func (Fn.func 65) #[] caps], Value.slice ha m hc, Value.int IntKind.i64 ↑m, Value.int IntKind.i64 ↑mq, Value.int IntKind.i64 ↑mq, Value.slice (some { block := G, off := 0 }) 0 mq, Value.slice a n cap, Value.int IntKind.i64 ↑mq, Value.slice a mq cap, Value.agg #[Value.int IntKind.i64 ↑mq, Value.func (Fn.func 65) #[] caps2], Value.func (Fn.func 53) #[] #[Value.pointer (some { block := bs, off := 0 })], Value.int IntKind.i64 ↑x.i, partV (K x.i) (L x.i) (off K L x.i) (off K L (x.i + 1)), undef, undef, undef, undef, undef, undef, undef, undef, undef, undef, undef, undef, undef, undef, undef], []⟩ ∧ PartAt W' p K L x.i)
    (fun x a' _ X Y row h hg hr => by obtain ⟨p, h0, h1, h2⟩ := h; exact ⟨p, h0, h1, h2.kept hg (fun r e => (hr r e).2)⟩)
    ?assign ?body ?done ?stop
  case assign =>
    rintro q pre x W KK hI hK
    have hB := (Below.refl W.heap.size W).alloc (Nat.le_refl _) (.cells #[.int .i64 (K x.i), .int .i64 (L x.i), .int .i64 (off K L x.i : Nat), .int .i64 (off K L (x.i + 1) : Nat)] 67)
    obtain ⟨h0, hs, ho, b, l, c, F, hP, hF⟩ := hI
    have hR := hK _ _ ((KeepsOthers.alloc W (.cells #[.int .i64 (K x.i), .int .i64 (L x.i), .int .i64 (off K L x.i : Nat), .int .i64 (off K L (x.i + 1) : Nat)] 67)).from _) (fun g => g.same HA7.out hB)
      ⟨Nat.le_trans h0 hB.size, hs.same hB, ho.alloc _, b, l, c, F, Pr.kpo hP (below_grown hB none) (fun _ h => by cases h), hF⟩ ⟨W.heap.size, h0, rfl, heap_alloc_new W _⟩
    unfold encL
    unfold partV at hR ⊢
    gi_wp2
    exact hR
  case body =>
    rintro q pre x a' W hq _ ⟨h0, hs, ho, b, l', c', F, hP, hF⟩ ⟨p, hp, rfl, hpa⟩ hlen
    have hro := HTO.out.2.2.2.2 x.i (by have := x.hi; omega)
    obtain ⟨kx, hkx⟩ : ∃ kx : Nat, K x.i = (kx : Nat) := ⟨(K x.i).toNat, by have := hro.1; omega⟩
    obtain ⟨lx, hlx⟩ : ∃ lx : Nat, L x.i = (lx : Nat) := ⟨(L x.i).toNat, by have := hro.2.2.1; omega⟩
    have hk1 : 1 ≤ kx := by have := hro.1; omega
    have hk2 : kx ≤ N := by have := hro.2.1; omega
    have hkm : kx ≤ m := by have := HMM.out.2.1 x.i x.hi; omega
    have hl1 : lx ≤ 65535 := by have := hro.2.2.2.1; omega
    have hbad : ¬ Bad (L x.i) (K x.i) := by unfold Bad; omega
    have hto : off K L (x.i + 1) = off K L x.i + wid lx kx := by
      show off K L x.i + widI (L x.i) (K x.i) = _
      rw [widI_ok hbad, hkx, hlx]; simp
    have hoT : off K L (x.i + 1) ≤ off K L n := off_mono _ _ (by have := x.hi; omega)
    have hoM : off K L n ≤ 1000000 := by have := HTL.out; omega
    have hgF : gatF h K L f x.i = cutF (layF h kx (wid lx kx) (off K L x.i) f) lx := by
      unfold gatF
      rw [hkx, hlx]; simp
    unfold PartAt at hpa
    rw [hkx, hlx] at hpa
    have p0 : W.cell? ⟨p, 0, none⟩ = some (.int .i64 (kx : Nat)) := by rw [cell_of_row W p 0 _ _ _ hpa]; rfl
    have p1 : W.cell? ⟨p, 1, none⟩ = some (.int .i64 (lx : Nat)) := by rw [cell_of_row W p 1 _ _ _ hpa]; rfl
    have p2 : W.cell? ⟨p, 2, none⟩ = some (.int .i64 (off K L x.i : Nat)) := by rw [cell_of_row W p 2 _ _ _ hpa]; rfl
    have p3 : W.cell? ⟨p, 3, none⟩ = some (.int .i64 (off K L (x.i + 1) : Nat)) := by rw [cell_of_row W p 3 _ _ _ hpa]; rfl
    have p4 := hs.n.cell
    have p5 := hs.l.cell
    have hLA := layer_any lx kx (off K L x.i) (off K L (x.i + 1)) (off K L n) N m hto ha hc h r c f hl1 hk1 hk2 hN2 hoT hoM hkm (fun i hi => (HAL.out i hi).1) HDS.out W (HHT.out.same hs.be) (fun i hi => by rw [← (HAL.out i hi).2]; exact HCC.out i hi)
    have hby : Pf.By (layF h kx (wid lx kx) (off K L x.i) f) := layF_by h (by omega) _ _ HH.out.bm
    have HLA := Lib.hid hLA; have HSX := Lib.hid hs; have HOX := Lib.hid ho; have HPX := Lib.hid hP; have HFX := Lib.hid hF; have HGF := Lib.hid hgF; have HBY := Lib.hid hby; have HLX := Lib.hid hlx
    clear hLA hs ho hP hF hgF hby hto hoT hpa hro hbad hkx hlx hoM
    generalize layF h kx (wid lx kx) (off K L x.i) f = Fx at *
    generalize off K L x.i = fr at *
    generalize off K L (x.i + 1) = to_ at *
    unfold partV at HLA
    gi_wp2_with fail
    refine (callsIn_wide.2 HLA.out).mono ?_
    rintro e W1 ⟨g1, rfl, hg1, hbl1, hB1⟩
    have HB1 := Lib.hid hB1; have HBL1 := Lib.hid hbl1; have HG1 := Lib.hid hg1
    have hO1 : Boxed W1 O 22 (.slice (some ⟨G, 0, none⟩) pre.length mq) := (hB1.block _ HOX.out.lt).trans HOX.out
    have o1 := hO1.cell
    have HO1 := Lib.hid hO1
    clear hB1 hbl1 hg1 hO1 p0 p1 p2 p3 p4 p5
    have hX := (Below.refl W1.heap.size W1).alloc (Nat.le_refl _) (.cells #[.slice (some ⟨g1, 0, none⟩) lx lx] 50)
    have hBX := HB1.out.trans (hX.mono HB1.out.size)
    have hownX := own_below HPX.out.own hBX
    have hblX := (HBL1.out.below hX HBL1.out.lt).congr (h' := cutF Fx lx) (fun i hi => by unfold cutF; rw [if_pos hi])
    have hOX : Boxed (W1.alloc (.cells #[.slice (some ⟨g1, 0, none⟩) lx lx] 50)) O 22 (.slice (some ⟨G, 0, none⟩) pre.length mq) := HO1.out.alloc _
    have hGO : G ≠ O := by have := HOO.out; omega
    have HOW := Lib.hid hownX; have HBX := Lib.hid hBX; have HBLX := Lib.hid hblX; have HOBX := Lib.hid hOX
    clear hX hBX hownX hblX hOX
    dsimp only
    gi_wp2_with (gi_at_builtin; go_loud (refine wpListIn_append_fits _ rfl (.tmp 52) (.tmp 54) 22 rfl w.heap.size 50 i0 1 Tryz.underlying22 HI.out HZ1.out G pre.length mq _ rfl HOW.out _ 1 1 [.slice (some ⟨g1, 0, none⟩) lx lx] rfl rfl (cell_new1 _ _ _) (fun u hu => by rw [List.mem_singleton.1 hu]; rfl) hlen ?_; intro w9 hown9 hg9; have HOWN9 := Lib.hid hown9; have HG9 := Lib.hid hg9; clear hown9 hg9; have b9 : Boxed w9 O 22 (.slice (some ⟨G, 0, none⟩) pre.length mq) := HOBX.out.kept HG9.out (fun e => by injection e with e; exact hGO e.symm); have c9 := b9.cell; have f9 := b9.frozen))
    have hP9 := HPX.out.step HBX.out HBLX.out HG1.out HSX.out.be.size ⟨Nat.le_refl _, by unfold maxLen; omega⟩ (cutF_by HBY.out lx) (cutF_up _ lx) HOWN9.out (Or.inl ⟨rfl, rfl, HG9.out⟩)
    have hPf := Pr.kp hP9 (grownBy_setCell' w9 O (.slice (some ⟨G, 0, none⟩) (pre.length + 1) mq)) (fun g e => by cases e; intro e2; injection e2 with e2; exact hGO e2) (fun i hi e => by injection e with e; exact pr_ne hP9 b9 (by decide) i hi e)
    have hOe := HOO.out
    have hbe := HBS.out
    have hGlt : G < w8.heap.size := by omega
    have hSf := ((HSX.out.same HBX.out).past HG9.out (by omega)).past (grownBy_setCell' w9 O (.slice (some ⟨G, 0, none⟩) (pre.length + 1) mq)) (by have := HOO.out; omega)
    have hbO := b9.set (.slice (some ⟨G, 0, none⟩) (pre.length + 1) mq)
    have hsz := HBX.out.size
    have hsz9 := HG9.out.size
    have hlen1 : (pre ++ [x]).length = pre.length + 1 := by simp
    refine ⟨((⟨HBX.out.size, fun k o _ hk _ => (HBX.out.block k (Array.getElem?_eq_some_iff.1 hk).1).trans hk⟩ : KeepsFrom _ W _).trans (KeepsFrom.of_grownBy HG9.out (fun j e => by injection e; omega))).trans ((KeepsOthers.setCell _ _ _).from _),
      kpL_t (kpL_t (fun g => g.same HA7.out HBX.out) (fun g => g.kept HA7.out HG9.out.size (HG9.out.block bs g.lt (fun e => by injection e; omega)) (fun k hk hd => HG9.out.block k (Nat.lt_of_lt_of_le hk g.z) (fun e => by injection e; rcases hd with h | h <;> omega)))) (kpL_set HA7.out ⟨O, 0, none⟩ _ (by show O ≠ bs; omega) (fun hd => by rcases (show O < w.heap.size ∨ O = lb from hd) with h | h <;> omega)),
      by rw [World.size_setCell]; omega, hSf, by rw [hlen1]; exact hbO, _, _, _, _, by rw [hlen1]; exact hPf, fun j hj i hi => ?_⟩
    obtain ⟨j2, rfl, h2, e⟩ := rng_snoc hj
    have hl2 : pre.length = j2 := by have := congrArg List.length h2; rwa [List.length_map, List.length_range] at this
    rw [hl2]
    by_cases e2 : i = j2
    · subst e2
      rw [e] at HLX HGF
      simp only [if_true]
      exact ⟨by rw [HLX.out]; simp, by rw [HLX.out]; simp, HGF.out.symm⟩
    · simp only [if_neg e2]
      exact HFX.out j2 h2 i (by omega)
  case done =>
    rintro D ys W hD hys ⟨h0, hs, ho, b, l', c', F, hP, hF⟩ hK
    have hly : ys.length = mq := by have := congrArg List.length hys; rwa [List.length_map, List.length_range] at this
    rw [hly] at ho hP
    have hF := hF mq hys
    have d0 := ho.cell
    have d1 := hs.v.cell; have k1 := hs.v.frozen
    have d2 : ∀ u, (W.setCell ⟨w.heap.size + 1 + 1, 0, none⟩ u).cell? ⟨w.heap.size + 1 + 1 + 1, 0, none⟩ = some (.int .i64 0) := fun u => (bx_past hs.e (by omega)).cell
    have k2 : ∀ u, (W.setCell ⟨w.heap.size + 1 + 1, 0, none⟩ u).frozen? ⟨w.heap.size + 1 + 1 + 1, 0, none⟩ = false := fun u => (bx_past hs.e (by omega)).frozen
    have hd3 := pr_ne hP (show W.heap[w.heap.size + 1 + 1]? = _ from hs.v) (by decide)
    have hd4 := pr_ne hP (show W.heap[w.heap.size + 1 + 1 + 1]? = _ from hs.e) (by decide)
    have hP1 := Pr.kp hP (grownBy_setCell' W (w.heap.size + 1 + 1) (.slice (some ⟨G, 0, none⟩) mq mq)) (fun g e => by cases e; intro e2; injection e2; omega) (fun i hi e => by injection e with e; exact hd3 i hi e)
    have hP2 := Pr.kp hP1 (grownBy_setCell' _ (w.heap.size + 1 + 1 + 1) (.int .i64 0)) (fun g e => by cases e; intro e2; injection e2; omega) (fun i hi e => by injection e with e; exact hd4 i hi e)
    have hGr : Gr ((W.setCell ⟨w.heap.size + 1 + 1, 0, none⟩ (.slice (some ⟨G, 0, none⟩) mq mq)).setCell ⟨w.heap.size + 1 + 1 + 1, 0, none⟩ (.int .i64 0)) w.heap.size G mq mq b (fun j => (L j).toNat) (fun j => (L j).toNat) (gatG h K L f mq) := by
      refine (Pr.gr (hP2.congr (l' := fun j => (L j).toNat) (c' := fun j => (L j).toNat) (f' := gatG h K L f mq) (fun i hi => (hF i hi).1) (fun i hi => (hF i hi).2.1) ?_ (fun i j hi => by rw [(hF i hi).2.2]; unfold gatG; rw [if_pos hi])))
      intro i j
      unfold gatG
      split
      · rename_i hi
        exact cutF_by (layF_by h (by have := (HTO.out.2.2.2.2 i (by omega)).2.1; omega) _ _ HH.out.bm) _ j
      · show 0 < 256
        omega
    have HSX := Lib.hid hs; have HGR := Lib.hid hGr
    clear hs ho hP hF hys hd3 hd4 hP1 hP2 hGr hly
    gi_wp2
    have hK' := ((KeepsOthers.setCell W ⟨w.heap.size + 1 + 1, 0, none⟩ (.slice (some ⟨G, 0, none⟩) mq mq)).trans (KeepsOthers.setCell _ ⟨w.heap.size + 1 + 1 + 1, 0, none⟩ (.int .i64 0))).same D _ hK rfl
    refine ⟨by simp, .inl ⟨_, _, rfl, run_takeDeferred hK', ?_⟩⟩
    have hFb := (HSX.out.told (.slice (some ⟨G, 0, none⟩) mq mq) 0).kep (grownBy_putObj' _ D (.deferred none)) (fun k e => by cases e; exact ⟨by omega, _, hK', rfl⟩)
    exact ⟨_, results_gather rfl rfl hFb.v.cell hFb.e.cell, G, b, rfl, gr_kp HGR.out (grownBy_putObj' _ D (.deferred none)) (fun r e => by cases e; exact ⟨_, hK', rfl⟩), hFb.be⟩
  case stop => exact fun _ _ _ _ _ _ h _ => h.elim
theorem rdy_ex (n : Nat) (K : Nat → Int) (came : Int) : ∃ mm, RdyN n K came mm := by
  induction n with
  | zero => exact ⟨0, Nat.le_refl _, fun i hi => absurd hi (Nat.not_lt_zero i), fun h => absurd h (Nat.lt_irrefl _)⟩
  | succ n ih =>
    obtain ⟨mm, h1, h2, h3⟩ := ih
    by_cases c : mm < n
    · exact ⟨mm, by omega, h2, fun _ => h3 c⟩
    · obtain rfl : mm = n := by omega
      by_cases c2 : K mm ≤ came
      · exact ⟨mm + 1, Nat.le_refl _, fun i hi => (by
          by_cases e : i = mm
          · rw [e]; exact c2
          · exact h2 i (by omega)), fun h => absurd h (Nat.lt_irrefl _)⟩
      · exact ⟨mm, by omega, h2, fun _ => by omega⟩
/-- what Gather answers, of whatever. -/
def GatAny (w : World) (N : Int) (n : Nat) (K L : Nat → Int) (h : Nat → Int) (l : Nat → Nat) (m : Nat) (f : Nat → Nat → Nat) (e : Ending) (w' : World) : Prop :=
  (∃ E, E ≠ 0 ∧ GatErr N n K L h l m E ∧ e = .returned (.tuple #[.slice none 0 0, .int .i64 E]) ∧ Below w.heap.size w w') ∨
  (TabOk N n K L ∧ AllH h l m N.toNat (off K L n) ∧ DsI h m ∧ ∃ mm, RdyN n K m mm ∧ GatSays w mm h K L f e w')
theorem gather_any (N : Int) (a ha : Option Addr) (n cap m hc : Nat) (K L : Nat → Int) (h : Nat → Int) (r : Nat → Option Addr) (l c : Nat → Nat) (f : Nat → Nat → Nat) (hm : m ≤ 1000000000000) (hncap : n ≤ cap) (w : World) (hT : Tb w a n K L) (hH : Hs w ha m h r l c f) (hcc : ∀ i, i < m → l i ≤ c i) :
    Calls Tryz.prog 19 #[.int .i64 N, .slice a n cap, .slice ha m hc] w (GatAny w N n K L h l m f) := by
  by_cases ht : TabOk N n K L
  · by_cases hA : AllH h l m N.toNat (off K L n)
    · by_cases hD : DsI h m
      · obtain ⟨N0, rfl⟩ : ∃ N0 : Nat, N = N0 := ⟨N.toNat, by have := ht.1; omega⟩
        obtain ⟨mm, hmm⟩ := rdy_ex n K m
        rw [Int.toNat_natCast] at hA
        exact (gather_yes N0 a ha n cap m hc K L h r l c f hm hncap ht hA hD w hT hH hcc mm hmm).mono fun e w' hg => Or.inr ⟨ht, by rw [Int.toNat_natCast]; exact hA, hD, mm, hmm, hg⟩
      · have hE : GatErr N n K L h l m 9 := Or.inr ⟨ht, by omega, Or.inr (Or.inl ⟨hA, hD, rfl⟩)⟩
        exact (gather_no N a ha n cap m hc K L h r l c f hm 9 hE w hT hH).mono fun e w' hg => Or.inl ⟨9, by omega, hE, hg⟩
    · have hE : GatErr N n K L h l m 2 := Or.inr ⟨ht, by omega, Or.inl ⟨hA, rfl⟩⟩
      exact (gather_no N a ha n cap m hc K L h r l c f hm 2 hE w hT hH).mono fun e w' hg => Or.inl ⟨2, by omega, hE, hg⟩
  · have hE : GatErr N n K L h l m 2 := Or.inl ⟨ht, rfl⟩
    exact (gather_no N a ha n cap m hc K L h r l c f hm 2 hE w hT hH).mono fun e w' hg => Or.inl ⟨2, by omega, hE, hg⟩
end Go.Proofs.YtkejabhjlflknaaGreat.Ly

namespace Go.Proofs.YtkejabhjlflknaaGreat.Ly
open Go.RowKit Go.Shelf
open Go.Proofs.YtkejabhjlflknaaGreat.Sp (Bad wid wid_le wid_hi wid_lo crow crow_by crow_up lt lt_by lt_up lt_bl)

/-! what is had of bodies -/
theorem bodyF_bm (N : Nat) (K : Nat → Int) (l : Nat → Nat) {g : Nat → Nat → Nat} (hg : Mt.Bm g) : ∀ n, Mt.Bm (bodyF N K l g n)
  | 0 => fun _ _ => (by omega : 0 < 256)
  | n + 1 => fun i => by
    have h1 := bodyF_bm N K l hg n
    show Pf.By (laidF _ _ _ _ N i)
    unfold laidF
    split
    · exact cpy_by (enc_bm (crow_bm _ _ (hg n)) i) (h1 i)
    · exact h1 i
theorem enc_up {K : Nat} {f : Nat → Nat → Nat} {wi : Nat} (h : ∀ p, Pf.Up (f p) wi) (i : Nat) : Pf.Up (enc K f i) wi := fun j hj => Pf.mv_up (wi := wi) (fun p _ => h p) _ j hj
/-- the stripe of a layer in a body. -/
theorem body_sub (N : Nat) (K : Nat → Int) (l : Nat → Nat) (g : Nat → Nat → Nat) {p i : Nat} (hi : i < N) (hb : ¬ Bad ((l p : Nat) : Int) (K p)) : ∀ n, p < n → sub (bodyF N K l g n i) (off K (fun i => ((l i : Nat) : Int)) p) (wid (l p) (K p).toNat) = enc (K p).toNat (crow (g p) (wid (l p) (K p).toNat)) i
  | 0, h => absurd h (Nat.not_lt_zero p)
  | n + 1, h => by
    funext x
    have hu := enc_up (K := (K p).toNat) (f := crow (g p) (wid (l p) (K p).toNat)) (fun q => crow_up (g p) (wid (l p) (K p).toNat) q) i
    have e1 : ∀ y, bodyF N K l g (n + 1) i y = cpy (off K (fun i => ((l i : Nat) : Int)) n) (wid (l n) (K n).toNat) (enc (K n).toNat (crow (g n) (wid (l n) (K n).toNat)) i) (bodyF N K l g n i) y := fun y => by
      show laidF _ _ _ _ N i y = _
      unfold laidF
      rw [if_pos hi]
    unfold sub
    by_cases hx : x < wid (l p) (K p).toNat
    · rw [if_pos hx, e1]
      by_cases e : p = n
      · subst e
        unfold cpy
        rw [if_pos ⟨Nat.le_add_right _ _, by omega⟩, Nat.add_sub_cancel_left]
      · have ih := congrFun (body_sub N K l g hi hb n (by omega)) x
        unfold sub at ih
        rw [if_pos hx] at ih
        have h1 : off K (fun i => ((l i : Nat) : Int)) (p + 1) ≤ off K (fun i => ((l i : Nat) : Int)) n := off_mono _ _ (by omega)
        have h2 : off K (fun i => ((l i : Nat) : Int)) (p + 1) = off K (fun i => ((l i : Nat) : Int)) p + wid (l p) (K p).toNat := by
          show _ + widI _ _ = _
          rw [widI_ok hb]; simp
        unfold cpy
        rw [if_neg (by omega)]
        exact ih
    · rw [if_neg hx, hu x (by omega)]
/-- what is had is what was laid. -/
theorem gat_ok (N : Nat) (K : Nat → Int) (l : Nat → Nat) (g : Nat → Nat → Nat) (hg : Mt.Bm g) (n m : Nat) (R : Nat → Nat) (hN : N ≤ 255) (hR : ∀ j, j < m → R j < N) (hd : Pf.Dst R m) {p : Nat} (hp : p < n) (hb : ¬ Bad ((l p : Nat) : Int) (K p)) (hK : (K p).toNat ≤ m) (hKN : (K p).toNat ≤ N) (x : Nat) (hx : x < l p) :
    gatF (fun i => ((R i : Nat) : Int)) K (fun i => ((l i : Nat) : Int)) (fun i => bodyF N K l g n (R i)) p x = g p x := by
  have hb' := hb
  unfold Bad at hb'
  have hk1 : 1 ≤ (K p).toNat := by omega
  unfold gatF
  rw [Int.toNat_natCast]
  unfold cutF
  rw [if_pos hx]
  unfold layF Sp.jn dcd
  generalize hwi : wid (l p) (K p).toNat = wi
  have hhi := wid_hi (L := l p) hk1
  rw [hwi] at hhi
  have hw0 : 0 < wi := by
    rcases Nat.eq_zero_or_pos wi with e | e
    · rw [e, Nat.mul_zero] at hhi; omega
    · exact e
  have hq : x / wi < (K p).toNat := by rw [Nat.div_lt_iff_lt_mul hw0]; omega
  rw [if_pos hq]
  have hfun : ∀ i, i < m → sub (bodyF N K l g n (R i)) (off K (fun i => ((l i : Nat) : Int)) p) wi = enc (K p).toNat (crow (g p) wi) (R i) := fun i hi => by
    have := body_sub N K l g (hR i hi) hb n hp
    rwa [hwi] at this
  have hmv : Pf.mv (pts fun i => ((R i : Nat) : Int)) (K p).toNat (fun i => sub (bodyF N K l g n (R i)) (off K (fun i => ((l i : Nat) : Int)) p) wi) (x / wi) = Pf.mv (pts fun i => ((R i : Nat) : Int)) (K p).toNat (fun i => enc (K p).toNat (crow (g p) wi) (R i)) (x / wi) := Pf.mv_congr (fun q j hq => by rw [hfun q (by omega)]) _
  rw [hmv, dec_enc (crow_bm (g p) wi (hg p)) hR hd hN hKN hK hq]
  unfold crow
  rw [if_pos (Nat.mod_lt _ hw0), Nat.mul_comm, Nat.div_add_mod]
end Go.Proofs.YtkejabhjlflknaaGreat.Ly

namespace Go.Proofs.YtkejabhjlflknaaGreat.Ly
open Go.RowKit Go.Shelf
open Go.Proofs.YtkejabhjlflknaaGreat.Sp (Bad wid wid_le wid_hi wid_lo lt lt_by lt_up lt_bl)

/-- rows that are written out, one behind the other. -/
def alls (w : World) : List (List Nat) → World
  | [] => w
  | v :: r => alls (w.alloc (.cells (v.map fun x => Value.int .u8 ((x : Nat) : Int)).toArray 5)) r
def lits (L : List (List Nat)) (i : Nat) : Nat → Nat := lt (L.getD i [])
theorem alls_size : ∀ (L : List (List Nat)) (w : World), (alls w L).heap.size = w.heap.size + L.length
  | [], _ => rfl
  | v :: r, w => by
    show (alls (w.alloc _) r).heap.size = _
    rw [alls_size r, World.size_alloc, List.length_cons]; omega
theorem alls_below : ∀ (L : List (List Nat)) (w : World), Below w.heap.size w (alls w L)
  | [], w => Below.refl _ w
  | v :: r, w => by
    have h1 : Below w.heap.size w (w.alloc (.cells (v.map fun x => Value.int .u8 ((x : Nat) : Int)).toArray 5)) := (Below.refl _ w).alloc (Nat.le_refl _) _
    exact h1.trans ((alls_below r _).mono h1.size)
theorem alls_bl : ∀ (L : List (List Nat)) (w : World) (i : Nat), i < L.length → Bl (alls w L) (w.heap.size + i) (L.getD i []).length (L.getD i []).length (lits L i)
  | [], w, i, h => absurd h (Nat.not_lt_zero i)
  | v :: r, w, i, h => by
    have h1 := alls_below r (w.alloc (.cells (v.map fun x => Value.int .u8 ((x : Nat) : Int)).toArray 5))
    cases i with
    | zero => exact (lt_bl w v).below h1 (by rw [World.size_alloc]; omega)
    | succ i =>
      have := alls_bl r (w.alloc (.cells (v.map fun x => Value.int .u8 ((x : Nat) : Int)).toArray 5)) i (by simpa using h)
      rw [World.size_alloc] at this
      rw [show w.heap.size + (i + 1) = w.heap.size + 1 + i by omega]
      exact this
theorem lits_by {L : List (List Nat)} (h : ∀ v ∈ L, ∀ x ∈ v, x < 256) : Mt.Bm (lits L) := fun i => by
  unfold lits
  rw [List.getD_eq_getElem?_getD]
  cases e : L[i]? with
  | none => exact lt_by (fun x hx => by cases hx)
  | some v => exact lt_by (h v (List.mem_of_getElem? e))
theorem alls_rd (w : World) (L : List (List Nat)) (vs : Array Value) (hx : ∀ v ∈ L, ∀ x ∈ v, x < 256) (hl : L.length ≤ 1000) (hll : ∀ i, i < L.length → (L.getD i []).length ≤ 1000) (hv : ∀ i, i < L.length → vs[i]? = some (.slice (some ⟨w.heap.size + i, 0, none⟩) (L.getD i []).length (L.getD i []).length)) :
    Rd ((alls w L).alloc (.cells vs 50)) (some ⟨w.heap.size + L.length, 0, none⟩) L.length L.length (fun i => some ⟨w.heap.size + i, 0, none⟩) (fun i => (L.getD i []).length) (fun i => (L.getD i []).length) (lits L) := by
  have hB : Below (alls w L).heap.size (alls w L) ((alls w L).alloc (.cells vs 50)) := (Below.refl _ _).alloc (Nat.le_refl _) _
  refine ⟨Nat.le_refl _, by unfold maxLen; omega, lits_by hx, fun e => (by cases e), fun ad e _ => (by cases e; rfl), fun ad e i hi => ?_, fun i hi => ?_⟩
  · cases e
    show World.cell? _ ⟨_, 0 + i, none⟩ = _
    rw [Nat.zero_add, cell_of_row _ _ i vs _ _ (by rw [← alls_size]; exact heap_alloc_new _ _)]
    exact hv i hi
  · exact ((alls_bl L w i hi).below hB ((alls_bl L w i hi).lt)).sl (Nat.le_refl _) (by unfold maxLen; have := hll i hi; omega) (lits_by hx i) (lt_up _)
theorem alls_all (w : World) (L : List (List Nat)) (o : Obj) : Below w.heap.size w ((alls w L).alloc o) := (alls_below L w).trans (((Below.refl _ _).alloc (Nat.le_refl _) o).mono (alls_below L w).size)
/-- bodies of a list, held in a block of their own. -/
theorem hs_lit {w : World} {g B' G N cap m T : Nat} {vs : Array Value} {b R : Nat → Nat} {F : Nat → Nat → Nat} (hg : w.heap[g]? = some (.cells vs 54 (0, 0))) (hv : ∀ i, i < m → vs[i * 2]? = some (.int .i64 (R i : Nat)) ∧ vs[i * 2 + 1]? = some (.slice (some ⟨b (R i), 0, none⟩) T T)) (hG : Gr w B' G N cap b (fun _ => T) (fun _ => T) F) (hR : ∀ i, i < m → R i < N) :
    Hs w (some ⟨g, 0, none⟩) m (fun i => ((R i : Nat) : Int)) (fun i => some ⟨b (R i), 0, none⟩) (fun _ => T) (fun _ => T) (fun i => F (R i)) :=
  ⟨fun i => hG.bm (R i), fun i hi => ⟨g, 0, rfl, by rw [Nat.zero_add, cell_of_row w g _ vs _ _ hg]; exact (hv i hi).1, by rw [Nat.zero_add, cell_of_row w g _ vs _ _ hg]; exact (hv i hi).2⟩,
    fun i hi => (hG.row (R i) (hR i hi)).sl (Nat.le_refl _) (hG.lc (R i) (hR i hi)).2 (hG.bm _) (hG.up (R i) (hR i hi))⟩

/-! the chapter's example -/
def kA (i : Nat) : Int := if i = 0 then 1 else 2
def bA : List (List Nat) := [[5, 7], [5, 8], [5, 25]]
def lA (i : Nat) : Nat := ([[5], [7, 8]].getD i ([] : List Nat)).length
theorem awA_e : ∀ i, i < 3 → ∀ j, j < 2 → bodyF 3 kA lA (lits [[5], [7, 8]]) 2 i j = lits bA i j := by decide +kernel
theorem two_lt' {i : Nat} (h : i < 2) : i = 0 ∨ i = 1 := by omega
theorem awA_tl : TabOk ((3 : Nat) : Int) 2 kA (fun i => ((lA i : Nat) : Int)) := ⟨by decide, by decide, by decide, by decide, fun i hi => by rcases two_lt' hi with rfl | rfl <;> (unfold RowOk kA; decide)⟩
theorem awA_ol : off kA (fun i => ((lA i : Nat) : Int)) 2 = 2 := by decide +kernel
theorem awA_t : TabOk ((3 : Nat) : Int) 2 kA kA := ⟨by decide, by decide, by decide, by decide, fun i hi => by rcases two_lt' hi with rfl | rfl <;> (unfold RowOk kA; decide)⟩
theorem awA_off : off kA kA 2 = 2 := by decide +kernel
theorem awA_r1 : RdyN 2 kA (1 : Nat) 1 := ⟨by decide, fun i hi => (by have e : i = 0 := (by omega); subst e; decide), fun _ => by decide⟩
theorem awA_r2 : RdyN 2 kA (2 : Nat) 2 := ⟨by decide, fun i hi => by rcases two_lt' hi with rfl | rfl <;> decide, fun h => absurd h (by decide)⟩
def r1 (_ : Nat) : Nat := 2
def r2 (i : Nat) : Nat := if i = 0 then 2 else 0
theorem awA_g1 : gatG (fun i => ((r1 i : Nat) : Int)) kA kA (fun i => lits bA (r1 i)) 1 0 0 = 5 := by decide +kernel
theorem awA_g2 : gatG (fun i => ((r2 i : Nat) : Int)) kA kA (fun i => lits bA (r2 i)) 2 0 0 = 5 ∧ gatG (fun i => ((r2 i : Nat) : Int)) kA kA (fun i => lits bA (r2 i)) 2 1 0 = 7 ∧ gatG (fun i => ((r2 i : Nat) : Int)) kA kA (fun i => lits bA (r2 i)) 2 1 1 = 8 := by decide +kernel

set_option maxHeartbeats 4000000 in
set_option maxRecDepth 100000 in
theorem awakeA_any (w : World) :
    Calls Tryz.prog 7 #[] w fun e w' => e = .returned (.bool true) ∧ Below w.heap.size w w' := by
  have hr := alls_rd w [[5], [7, 8]] #[.slice (some ⟨w.heap.size, 0, none⟩) 1 1, .slice (some ⟨w.heap.size + 1, 0, none⟩) 2 2] (by decide) (by decide) (by decide) (fun i hi => by rcases two_lt' hi with rfl | rfl <;> rfl)
  have hB0 := alls_all w [[5], [7, 8]] (.cells #[.slice (some ⟨w.heap.size, 0, none⟩) 1 1, .slice (some ⟨w.heap.size + 1, 0, none⟩) 2 2] 50)
  obtain ⟨w3, hw3⟩ : ∃ w3 : World, w3 = (alls w [[5], [7, 8]]).alloc (.cells #[.slice (some ⟨w.heap.size, 0, none⟩) 1 1, .slice (some ⟨w.heap.size + 1, 0, none⟩) 2 2] 50) := ⟨_, rfl⟩
  rw [← hw3] at hr hB0
  have hB1 := (Below.refl w3.heap.size w3).alloc (Nat.le_refl _) (.cells #[.int .i64 1, .int .i64 2] 3)
  have hs1 : Si (w3.alloc (.cells #[.int .i64 1, .int .i64 2] 3)) (some ⟨w3.heap.size, 0, none⟩) 2 kA := ⟨fun i hi => ⟨_, 0, rfl, by rw [Nat.zero_add, cell_of_row _ _ i _ _ _ (heap_alloc_new w3 _)]; rcases two_lt' hi with rfl | rfl <;> rfl⟩⟩
  have hz3 : w3.heap.size = w.heap.size + 1 + 1 + 1 := by rw [hw3]; simp [alls_size]
  have hbod := bodies_yes 3 (some ⟨w.heap.size + 2, 0, none⟩) (some ⟨w3.heap.size, 0, none⟩) 2 2 2 kA _ lA _ _ awA_tl (w3.alloc (.cells #[.int .i64 1, .int .i64 2] 3)) (hr.same hB1) hs1
  rw [hz3] at hbod
  have HBOD := Lib.hid hbod; have HB1 := Lib.hid (hB0.trans (hB1.mono hB0.size))
  have HW3 := Lib.hid hw3
  clear hr hB0 hB1 hs1 hz3 hbod
  go_enter Tryz.func7, Tryz.ntmps7
  go_wp2_with fail
  obtain ⟨w4, hw4⟩ : ∃ w4 : World, w4 = w3.alloc (.cells #[.int .i64 1, .int .i64 2] 3) := ⟨_, rfl⟩
  have hX : Calls Tryz.prog 10 #[.int .i64 3, .slice (some ⟨w.heap.size + 1 + 1, 0, none⟩) 2 2, .slice (some ⟨w.heap.size + 1 + 1 + 1, 0, none⟩) 2 2] ((((w.alloc (.cells #[.int .u8 5] 5)).alloc (.cells #[.int .u8 7, .int .u8 8] 5)).alloc (.cells #[.slice (some ⟨w.heap.size, 0, none⟩) 1 1, .slice (some ⟨w.heap.size + 1, 0, none⟩) 2 2] 50)).alloc (.cells #[.int .i64 1, .int .i64 2] 3)) (BodSays w4 3 2 kA lA (lits [[5], [7, 8]])) := by
    have e : w4 = (((w.alloc (.cells #[.int .u8 5] 5)).alloc (.cells #[.int .u8 7, .int .u8 8] 5)).alloc (.cells #[.slice (some ⟨w.heap.size, 0, none⟩) 1 1, .slice (some ⟨w.heap.size + 1, 0, none⟩) 2 2] 50)).alloc (.cells #[.int .i64 1, .int .i64 2] 3) := by rw [hw4, HW3.out]; rfl
    rw [← e]
    have := HBOD.out
    rw [← hw4] at this
    exact this
  refine hX.mono ?_
  rintro e w5 ⟨G, b, rfl, hG, hB5⟩
  rw [awA_ol] at hG
  have hG5 := hG.congr (g := lits bA) (lits_by (by decide)) (fun i j hi => by
    by_cases hj : j < 2
    · exact awA_e i hi j hj
    · rw [hG.up i hi j (by omega)]
      have hl : (bA.getD i []).length = 2 := by
        rcases (show i = 0 ∨ i = 1 ∨ i = 2 by omega) with rfl | rfl | rfl <;> rfl
      exact (lt_up (bA.getD i []) j (by omega)).symm)
  have hz4 := HB1.out.size
  rw [← hw4] at HB1
  have hb5 := HB1.out.trans (hB5.mono HB1.out.size)
  have hr6 := alls_rd w5 bA #[.slice (some ⟨w5.heap.size, 0, none⟩) 2 2, .slice (some ⟨w5.heap.size + 1, 0, none⟩) 2 2, .slice (some ⟨w5.heap.size + 2, 0, none⟩) 2 2] (by decide) (by decide) (by decide) (fun i hi => by rcases (show i = 0 ∨ i = 1 ∨ i = 2 by have : i < 3 := hi; omega) with rfl | rfl | rfl <;> rfl)
  have hB6 := alls_all w5 bA (.cells #[.slice (some ⟨w5.heap.size, 0, none⟩) 2 2, .slice (some ⟨w5.heap.size + 1, 0, none⟩) 2 2, .slice (some ⟨w5.heap.size + 2, 0, none⟩) 2 2] 50)
  have HR6 := Lib.hid hr6; have HG6 := Lib.hid ((hG5.same hB6).mono (B' := w.heap.size) (by have := HB1.out.size; omega)); have HB6 := Lib.hid (hb5.trans (hB6.mono hb5.size))
  clear hX hG hB5 hG5 hb5 hr6 hB6 hw4 HBOD HW3 HB1 hz4
  go_wp2_with fail
  refine (sameRows_any _ _ 3 3 3 _ _ _ _ _ _ _ (lits bA) (by omega) (fun i hi => by omega) _ HG6.out.rd HR6.out (fun i hi => ⟨by rcases (show i = 0 ∨ i = 1 ∨ i = 2 by omega) with rfl | rfl | rfl <;> rfl, rfl⟩)).mono ?_
  rintro e w7 ⟨rfl, q, hq⟩
  have hB7 := quiet_below hq
  have hb7 := HB6.out.trans (hB7.mono HB6.out.size)
  have HG7 := Lib.hid (HG6.out.same hB7); have HB7 := Lib.hid hb7
  clear hq hB7 hb7 HR6 HG6 HB6
  have hB8 := (Below.refl w7.heap.size w7).alloc (Nat.le_refl _) (.cells #[.int .i64 1, .int .i64 1, .int .i64 2, .int .i64 2] 48)
  have hG8 := HG7.out.same hB8
  have hT8 : Tb (w7.alloc (.cells #[.int .i64 1, .int .i64 1, .int .i64 2, .int .i64 2] 48)) (some ⟨w7.heap.size, 0, none⟩) 2 kA kA := ⟨fun i hi => ⟨_, 0, rfl, by rw [Nat.zero_add, cell_of_row _ _ _ _ _ _ (heap_alloc_new w7 _)]; rcases two_lt' hi with rfl | rfl <;> rfl, by rw [Nat.zero_add, cell_of_row _ _ _ _ _ _ (heap_alloc_new w7 _)]; rcases two_lt' hi with rfl | rfl <;> rfl⟩⟩
  have c2 := hG8.cell (i := 2) (by omega)
  have HG8 := Lib.hid hG8; have HT8 := Lib.hid hT8; have HB8 := Lib.hid (HB7.out.trans (hB8.mono HB7.out.size))
  have hz8 : (w7.alloc (.cells #[.int .i64 1, .int .i64 1, .int .i64 2, .int .i64 2] 48)).heap.size = w7.heap.size + 1 := by simp
  have HZ8 := Lib.hid hz8
  clear hB8 hG8 hT8 hz8 HG7 HB7
  go_wp2_with fail
  obtain ⟨w8, hw8⟩ : ∃ w8 : World, w8 = w7.alloc (.cells #[.int .i64 1, .int .i64 1, .int .i64 2, .int .i64 2] 48) := ⟨_, rfl⟩
  rw [← hw8] at HG8 HT8 HB8 HZ8 c2 ⊢
  clear hw8
  generalize hS8 : w7.heap.size = t8 at *
  clear hS8
  have hs8 : w8.heap.size = t8 + 1 := HZ8.out
  rw [← hs8]
  have hB9 := (Below.refl w8.heap.size w8).alloc (Nat.le_refl _) (.cells #[.int .i64 2, .slice (some ⟨b 2, 0, none⟩) 2 2] 54)
  have hH9 := hs_lit (R := r1) (m := 1) (heap_alloc_new w8 (.cells #[.int .i64 2, .slice (some ⟨b 2, 0, none⟩) 2 2] 54)) (fun i hi => (by have e : i = 0 := (by omega); subst e; exact ⟨rfl, rfl⟩)) (HG8.out.same hB9) (fun i hi => by show 2 < 3; omega)
  refine (gather_yes 3 (some ⟨t8, 0, none⟩) (some ⟨w8.heap.size, 0, none⟩) 2 2 1 1 kA kA _ _ _ _ _ (by omega) (by omega) awA_t (fun i hi => ⟨by show (0 : Int) ≤ ((2 : Nat) : Int) ∧ ((2 : Nat) : Int) < ((3 : Nat) : Int); omega, awA_off.symm⟩) (fun i j h1 h2 => by omega) _ (HT8.out.same hB9) hH9 (fun i hi => Nat.le_refl _) 1 awA_r1).mono ?_
  rintro e w10 ⟨G10, b10, rfl, hG10, hB10⟩
  have hb9 := HB8.out.trans (hB9.mono HB8.out.size)
  have hb10 := hb9.trans (hB10.mono hb9.size)
  have HG10 := Lib.hid (hG10.congr (g := lits [[5]]) (lits_by (by decide)) (fun i j hi => by
    obtain rfl : i = 0 := by omega
    by_cases hj : j < 1
    · obtain rfl : j = 0 := by omega
      exact awA_g1
    · rw [hG10.up 0 hi j (by show 1 ≤ j; omega)]
      exact (lt_up [5] j (by show 1 ≤ j; omega)).symm))
  have HGx := Lib.hid ((HG8.out.same hB9).same hB10); have HTx := Lib.hid ((HT8.out.same hB9).same hB10); have HBx := Lib.hid hb10
  have c2 := ((HG8.out.same hB9).same hB10).cell (i := 2) (by omega)
  have c0 := ((HG8.out.same hB9).same hB10).cell (i := 0) (by omega)
  clear hB9 hH9 hb9 hb10 hG10 hB10 HG8 HT8 HB8 hs8 HZ8
  dsimp only
  have hB11 : Below w10.heap.size w10 (w10.alloc (.cells #[.int .i64 2, .slice (some ⟨b 2, 0, none⟩) 2 2, .int .i64 0, .slice (some ⟨b 0, 0, none⟩) 2 2] 54)).drew := ((Below.refl w10.heap.size w10).alloc (Nat.le_refl _) _).drew
  have hg11 : (w10.alloc (.cells #[.int .i64 2, .slice (some ⟨b 2, 0, none⟩) 2 2, .int .i64 0, .slice (some ⟨b 0, 0, none⟩) 2 2] 54)).drew.heap[w10.heap.size]? = some (.cells #[.int .i64 2, .slice (some ⟨b 2, 0, none⟩) 2 2, .int .i64 0, .slice (some ⟨b 0, 0, none⟩) 2 2] 54 (0, 0)) := heap_alloc_new w10 _
  have hH11 := hs_lit (R := r2) (m := 2) hg11 (fun i hi => (by rcases two_lt' hi with rfl | rfl <;> exact ⟨rfl, rfl⟩)) (HGx.out.same hB11) (fun i hi => by rcases two_lt' hi with rfl | rfl <;> (unfold r2; decide))
  have hCA := gather_yes 3 (some ⟨t8, 0, none⟩) (some ⟨w10.heap.size, 0, none⟩) 2 2 2 2 kA kA _ _ _ _ _ (by omega) (by omega) awA_t (fun i hi => ⟨(by rcases two_lt' hi with rfl | rfl <;> (unfold r2; decide)), awA_off.symm⟩) (fun i j h1 h2 => by
    obtain rfl : i = 0 := by omega
    obtain rfl : j = 1 := by omega
    decide) _ (HTx.out.same hB11) hH11 (fun i hi => Nat.le_refl _) 2 awA_r2
  have HCA := Lib.hid hCA; have HB11 := Lib.hid (HBx.out.trans (hB11.mono HBx.out.size)); have HG11 := Lib.hid (HG10.out.same hB11)
  clear hB11 hg11 hH11 hCA HG10
  go_wp2_with fail
  go_region_with ((go_at_call 19; refine HCA.out.mono ?_; rintro e w12 ⟨G12, b12, rfl, hG12, hB12⟩; have HB12 := Lib.hid (HB11.out.trans (hB12.mono HB11.out.size)); have HG12 := Lib.hid hG12; have HGy := Lib.hid (HG11.out.same hB12); clear hG12 hB12))
  all_goals
    have hr13 : Rd ((w12.alloc (.cells #[.int .u8 5] 5)).alloc (.cells #[.slice (some ⟨w12.heap.size, 0, none⟩) 1 1] 50)) (some ⟨w12.heap.size + 1, 0, none⟩) 1 1 _ _ _ (lits [[5]]) := alls_rd w12 [[5]] #[.slice (some ⟨w12.heap.size, 0, none⟩) 1 1] (by decide) (by decide) (by decide) (fun i hi => by have e : i = 0 := (by have : i < 1 := hi; omega); subst e; rfl)
    have hB13 : Below w12.heap.size w12 ((w12.alloc (.cells #[.int .u8 5] 5)).alloc (.cells #[.slice (some ⟨w12.heap.size, 0, none⟩) 1 1] 50)) := alls_all w12 [[5]] (.cells #[.slice (some ⟨w12.heap.size, 0, none⟩) 1 1] 50)
    have hG12 := HG12.out.congr (g := lits [[5], [7, 8]]) (lits_by (by decide)) (fun i j hi => by
      rcases two_lt' hi with rfl | rfl
      · by_cases hj : j < 1
        · obtain rfl : j = 0 := by omega
          exact awA_g2.1
        · rw [HG12.out.up 0 hi j (by show 1 ≤ j; omega)]
          exact (lt_up [5] j (by show 1 ≤ j; omega)).symm
      · by_cases hj : j < 2
        · rcases two_lt' hj with rfl | rfl
          · exact awA_g2.2.1
          · exact awA_g2.2.2
        · rw [HG12.out.up 1 hi j (by show 2 ≤ j; omega)]
          exact (lt_up [7, 8] j (by show 2 ≤ j; omega)).symm)
    have HR13 := Lib.hid hr13; have HB13 := Lib.hid (HB12.out.trans (hB13.mono HB12.out.size)); have HY := Lib.hid (HGy.out.same hB13); have HG13 := Lib.hid (hG12.same hB13)
    have hc13 := sameRows_any (some ⟨G10, 0, none⟩) (some ⟨w12.heap.size + 1, 0, none⟩) 1 1 1 _ _ _ _ _ _ _ (lits [[5]]) (by omega) (fun i hi => (by have e : i = 0 := (by omega); subst e; decide)) _ HY.out.rd HR13.out (fun i hi => ⟨(by have e : i = 0 := (by omega); subst e; rfl), rfl⟩)
    have HC13 := Lib.hid hc13
    clear hc13 hr13 hB13 hG12 HGx HTx HBx HCA HB11 HG11 HB12 HG12 HGy c0 c2
    go_wp2_with fail
    refine HC13.out.mono ?_
    rintro e w14 ⟨rfl, q, hq⟩
    have hB14 := quiet_below hq
    have hb14 := HB13.out.trans (hB14.mono HB13.out.size)
    have hr15 : Rd (((w14.alloc (.cells #[.int .u8 5] 5)).alloc (.cells #[.int .u8 7, .int .u8 8] 5)).alloc (.cells #[.slice (some ⟨w14.heap.size, 0, none⟩) 1 1, .slice (some ⟨w14.heap.size + 1, 0, none⟩) 2 2] 50)) (some ⟨w14.heap.size + 1 + 1, 0, none⟩) 2 2 _ _ _ (lits [[5], [7, 8]]) := alls_rd w14 [[5], [7, 8]] #[.slice (some ⟨w14.heap.size, 0, none⟩) 1 1, .slice (some ⟨w14.heap.size + 1, 0, none⟩) 2 2] (by decide) (by decide) (by decide) (fun i hi => by rcases two_lt' hi with rfl | rfl <;> rfl)
    have hB15 : Below w14.heap.size w14 (((w14.alloc (.cells #[.int .u8 5] 5)).alloc (.cells #[.int .u8 7, .int .u8 8] 5)).alloc (.cells #[.slice (some ⟨w14.heap.size, 0, none⟩) 1 1, .slice (some ⟨w14.heap.size + 1, 0, none⟩) 2 2] 50)) := alls_all w14 [[5], [7, 8]] (.cells #[.slice (some ⟨w14.heap.size, 0, none⟩) 1 1, .slice (some ⟨w14.heap.size + 1, 0, none⟩) 2 2] 50)
    have HR15 := Lib.hid hr15; have HB15 := Lib.hid (hb14.trans (hB15.mono hb14.size)); have HG15 := Lib.hid ((HG13.out.same hB14).same hB15)
    clear hq hB14 hb14 hr15 hB15 HR13 HB13 HY HG13
    go_wp2_with fail
    refine (sameRows_any _ _ 2 2 2 _ _ _ _ _ _ _ (lits [[5], [7, 8]]) (by omega) (fun i hi => by rcases two_lt' hi with rfl | rfl <;> (unfold kA; decide)) _ HG15.out.rd HR15.out (fun i hi => ⟨by rcases two_lt' hi with rfl | rfl <;> rfl, rfl⟩)).mono ?_
    rintro e w16 ⟨rfl, q, rfl⟩
    go_wp2
    go_ret
    exact ⟨rfl, below_dr HB15.out q⟩
end Go.Proofs.YtkejabhjlflknaaGreat.Ly

namespace Go.Proofs.YtkejabhjlflknaaGreat.Ly
open Go.RowKit Go.Shelf
open Go.Proofs.YtkejabhjlflknaaGreat.Sp (Bad wid)
attribute [local go_sem] Oper.semAt_some

/-! the calls of lay that tell of a table -/
set_option maxHeartbeats 1000000 in
theorem lRight_any (N : Int) (a : Option Addr) (n cap : Nat) (K L : Nat → Int) (w : World) (hT : Tb w a n K L) :
    Calls Tryz.prog 50 #[.int .i64 N, .slice a n cap] w fun e w' => TabSays N n K L e ∧ Below w.heap.size w w' := by
  have HT := Lib.hid hT; clear hT
  go_enter Tryz.func50, Tryz.ntmps50
  go_wp2_with fail
  refine (of_l a n cap _).mono ?_
  rintro e w1 ⟨rfl, hB1, hb1⟩
  have hA := ask_of w.heap.size w w1 w.heap.size a n cap K L rfl hB1 hb1 HT.out
  have HA := Lib.hid hA; have HB1 := Lib.hid hB1
  clear hA hB1 hb1
  go_wp2_with fail
  refine (right_l n _ _ K L _ N _ HA.out).mono ?_
  rintro e w2 ⟨⟨v, rfl, hv⟩, hB2⟩
  have HV := Lib.hid hv; have HB2 := Lib.hid (HB1.out.trans (hB2.mono HB1.out.size))
  clear hv hB2
  go_wp2
  go_ret
  exact ⟨⟨v, rfl, HV.out⟩, HB2.out⟩
/-- a number, or an error. -/
def NumSays (N : Int) (n : Nat) (K L : Nat → Int) (P : Nat → Prop) (e : Ending) : Prop := (¬ TabOk N n K L ∧ e = .returned (.tuple #[.int .i64 0, .int .i64 2])) ∨ (TabOk N n K L ∧ ∃ m : Nat, P m ∧ e = .returned (.tuple #[.int .i64 (m : Nat), .int .i64 0]))
set_option maxHeartbeats 1000000 in
theorem lLong_any (N : Int) (a : Option Addr) (n cap : Nat) (K L : Nat → Int) (w : World) (hT : Tb w a n K L) :
    Calls Tryz.prog 48 #[.int .i64 N, .slice a n cap] w fun e w' => NumSays N n K L (fun m => m = off K L n) e ∧ Below w.heap.size w w' := by
  have HT := Lib.hid hT; clear hT
  go_enter Tryz.func48, Tryz.ntmps48
  go_wp2_with fail
  refine (lRight_any N a n cap K L _ HT.out).mono ?_
  rintro e w1 ⟨⟨v, rfl, hv⟩, hB1⟩
  have HV := Lib.hid hv; have HB1 := Lib.hid hB1; clear hv hB1
  cases v
  · go_wp2
    go_ret2
    exact ⟨Or.inl ⟨fun h => absurd (HV.out.2 h) (by simp), rfl⟩, HB1.out⟩
  · have ht := HV.out.1 rfl
    have hn8 := ht.2.2.2.1
    have HTO := Lib.hid ht; clear ht
    go_wp2_with fail
    refine (of_l a n cap _).mono ?_
    rintro e w2 ⟨rfl, hB2, hb2⟩
    have hA := ask_of w1.heap.size w1 w2 w1.heap.size a n cap K L rfl hB2 hb2 (HT.out.same HB1.out)
    have HA := Lib.hid hA; have HB2 := Lib.hid (HB1.out.trans (hB2.mono HB1.out.size))
    clear hA hB2 hb2
    go_wp2_with fail
    refine (long_l n _ _ K L _ hn8 _ HA.out).mono ?_
    rintro e w3 ⟨rfl, hB3⟩
    have HB3 := Lib.hid (HB2.out.trans (hB3.mono HB2.out.size)); clear hB3
    go_wp2
    go_ret2
    exact ⟨Or.inr ⟨HTO.out, _, rfl, rfl⟩, HB3.out⟩
set_option maxHeartbeats 1000000 in
theorem lReady_any (N : Int) (a : Option Addr) (n cap : Nat) (K L : Nat → Int) (came : Int) (w : World) (hT : Tb w a n K L) :
    Calls Tryz.prog 49 #[.int .i64 N, .slice a n cap, .int .i64 came] w fun e w' => NumSays N n K L (RdyN n K came) e ∧ Below w.heap.size w w' := by
  have HT := Lib.hid hT; clear hT
  go_enter Tryz.func49, Tryz.ntmps49
  go_wp2_with fail
  refine (lRight_any N a n cap K L _ HT.out).mono ?_
  rintro e w1 ⟨⟨v, rfl, hv⟩, hB1⟩
  have HV := Lib.hid hv; have HB1 := Lib.hid hB1; clear hv hB1
  cases v
  · go_wp2
    go_ret2
    exact ⟨Or.inl ⟨fun h => absurd (HV.out.2 h) (by simp), rfl⟩, HB1.out⟩
  · have ht := HV.out.1 rfl
    have hn8 := ht.2.2.2.1
    have HTO := Lib.hid ht; clear ht
    go_wp2_with fail
    refine (of_l a n cap _).mono ?_
    rintro e w2 ⟨rfl, hB2, hb2⟩
    have hA := ask_of w1.heap.size w1 w2 w1.heap.size a n cap K L rfl hB2 hb2 (HT.out.same HB1.out)
    have HA := Lib.hid hA; have HB2 := Lib.hid (HB1.out.trans (hB2.mono HB1.out.size))
    clear hA hB2 hb2
    go_wp2_with fail
    refine (ready_l n _ _ K L _ came hn8 _ HA.out).mono ?_
    rintro e w3 ⟨⟨m, rfl, hm⟩, hB3⟩
    have HB3 := Lib.hid (HB2.out.trans (hB3.mono HB2.out.size)); have HM := Lib.hid hm; clear hB3 hm
    go_wp2
    go_ret2
    exact ⟨Or.inr ⟨HTO.out, _, HM.out, rfl⟩, HB3.out⟩
end Go.Proofs.YtkejabhjlflknaaGreat.Ly

namespace Go.Proofs.YtkejabhjlflknaaGreat.Ly
open Go.RowKit Go.Shelf

section
variable {Pg : Program}
/-- an append, as one step of a region. -/
theorem step_apd {ops : Array Oper} {o : Oper} {act : Act} {w : World} {K : Act → World → Prop} {Q : Exit → Act → World → Prop} {E : Prop} (hgd : o.guard = none) (s x : Operand) (t : TypeId)
    (ho : o.op = .call { callee := .builtin .append, args := #[s, x], argTypes := #[t, t] })
    (base : Nat) (e : TypeId) (i : TypeInfo) (z : Value) (size bytes : Nat) (ht : Pg.underlying t = some (.slice e)) (hi : Pg.info? e = some i) (hz : i.zero = some z)
    (hsize : i.size = size) (hby : i.bytes = bytes) (hzs : z.cells.size = size) (hsz : 0 < size)
    (v : Value) (n : Nat) (xs : List Value) (hs : act.eval s = v) (hown : w.ownsRow base e size v n xs)
    (ad : Addr) (m c : Nat) (news : List Value) (hx : act.eval x = .slice (some ad) m c) (hl : news.length = m * size) (hnews : ∀ j u, news[j]? = some u → w.cell? (ad.add j) = some u) (h1 : ∀ u ∈ news, u.oneCell' = true)
    (h63 : n + m ≤ maxLen) (hbytes : (n + m) * bytes ≤ 140737488355328) (hbase : base ≤ w.heap.size)
    (h : ∀ v' w', w'.ownsRow base e size v' (n + m) (xs ++ news) → w.grownBy w' v.ownBlock → K (act.put o.dst v') w') :
    if Region.wanted o (yielded ops act.tmps) = true then Oper.wp Pg o act w K Q else E := by
  have hw : Region.wanted o (yielded ops act.tmps) = true := by simp [Region.wanted, hgd]
  rw [if_pos hw]
  exact wp_append_own w s x t ho base e i z size bytes ht hi hz hsize hby hzs hsz v n xs hs hown ad m c news hx hl hnews h1 h63 hbytes hbase fun v' w' h2 h3 _ => h v' w' h2 h3
end
theorem cell_new2 (w : World) (u v : Value) (t : TypeId) : ∀ j x, [u, v][j]? = some x → (w.alloc (.cells #[u, v] t)).cell? ((⟨w.heap.size, 0, none⟩ : Addr).add j) = some x := by
  intro j x hx
  have hj : j < 2 := by
    have := (List.getElem?_eq_some_iff.1 hx).1
    simpa using this
  rw [Addr.add_lit, World.cell?_alloc_new]
  rw [← hx]
  rcases (show j = 0 ∨ j = 1 by omega) with rfl | rfl <;> rfl
/-- rows of a table, put into a list. -/
def tdl (K L : Nat → Int) : Nat → List Value
  | 0 => []
  | t + 1 => tdl K L t ++ [.int .i64 (K t), .int .i64 (L t)]
theorem tdl_len (K L : Nat → Int) : ∀ t, (tdl K L t).length = t * 2
  | 0 => rfl
  | t + 1 => by unfold tdl; rw [List.length_append, tdl_len K L t]; simp; omega
theorem tdl_at (K L : Nat → Int) : ∀ t i, i < t → (tdl K L t)[i * 2]? = some (.int .i64 (K i)) ∧ (tdl K L t)[i * 2 + 1]? = some (.int .i64 (L i))
  | 0, i, h => absurd h (Nat.not_lt_zero i)
  | t + 1, i, h => by
    unfold tdl
    have hl := tdl_len K L t
    by_cases e : i = t
    · subst e
      rw [List.getElem?_append_right (by omega), List.getElem?_append_right (by omega), hl, Nat.sub_self, Nat.add_sub_cancel_left]
      exact ⟨rfl, rfl⟩
    · rw [List.getElem?_append_left (by omega), List.getElem?_append_left (by omega)]
      exact tdl_at K L t i (by omega)
theorem tdl_tb {w : World} {B t c : Nat} {a : Option Addr} {K L : Nat → Int} (ho : w.ownsRow B 48 2 (.slice a t c) t (tdl K L t)) : Tb w a t K L ∧ t ≤ c := by
  obtain ⟨_, ⟨e, h0⟩ | ⟨g, cap', cur, e, hg, hh, hnc, hcm, hs, ht⟩⟩ := ho
  · cases e
    exact ⟨⟨fun i hi => absurd hi (Nat.not_lt_zero i)⟩, Nat.le_refl _⟩
  · simp only [Value.slice.injEq, true_and] at e
    obtain ⟨rfl, rfl⟩ := e
    have hat : ∀ j, j < t * 2 → cur[j]? = (tdl K L t)[j]? := fun j hj => by
      rw [← ht, List.getElem?_take, if_pos hj, Array.getElem?_toList]
    refine ⟨⟨fun i hi => ?_⟩, hnc⟩
    obtain ⟨h1, h2⟩ := tdl_at K L t i hi
    refine ⟨g, 0, rfl, ?_, ?_⟩
    · rw [Nat.zero_add, cell_of_row w g _ cur _ _ hh, hat _ (by omega)]; exact h1
    · rw [Nat.zero_add, cell_of_row w g _ cur _ _ hh, hat _ (by omega)]; exact h2
theorem Tryz.infoTRow : (Tryz.prog.info? 48).map (fun i => (i.zero, i.size, i.bytes)) = some (some (.agg #[.int .i64 0, .int .i64 0]), 2, 16) := by kernel_rfl
theorem int_ones (x y : Int) : ∀ u ∈ [Value.int .i64 x, Value.int .i64 y], u.oneCell' = true := by
  intro u hu
  rcases List.mem_cons.1 hu with rfl | hu
  · rfl
  · rcases List.mem_singleton.1 hu with rfl; rfl
theorem hdl_cap {w : World} {B t c n : Nat} {e : TypeId} {z : Nat} {a : Option Addr} {xs : List Value} (ho : w.ownsRow B e z (.slice a t c) n xs) : t ≤ c ∧ c ≤ maxLen := by
  obtain ⟨_, ⟨e, h0⟩ | ⟨g, cap', cur, e, hg, hh, hnc, hcm, hs, ht⟩⟩ := ho
  · cases e; exact ⟨Nat.le_refl _, Nat.zero_le _⟩
  · simp only [Value.slice.injEq] at e
    obtain ⟨e1, e2, e3⟩ := e
    subst e3
    exact ⟨by omega, hcm⟩
theorem tab_mono {N : Int} {n : Nat} {K L : Nat → Int} (h : TabOk N n K L) {i : Nat} : ∀ j, i ≤ j → j < n → K i ≤ K j
  | 0, h1, _ => by obtain rfl : i = 0 := by omega
                   exact Int.le_refl _
  | j + 1, h1, h2 => by
    by_cases e : i = j + 1
    · rw [e]; exact Int.le_refl _
    · have h3 := tab_mono h (i := i) j (by omega) (by omega)
      have h4 := (h.2.2.2.2 (j + 1) h2).2.2.2.2 (by omega)
      rw [Nat.add_sub_cancel] at h4
      omega
theorem rdy_iff {N : Int} {n : Nat} {K L : Nat → Int} {came : Int} {mm : Nat} (h : TabOk N n K L) (hr : RdyN n K came mm) {i : Nat} (hi : i < n) : K i ≤ came ↔ i < mm := by
  constructor
  · intro hk
    rcases Nat.lt_or_ge i mm with c | c
    · exact c
    · have h1 := hr.2.2 (Nat.lt_of_le_of_lt c hi)
      have h2 := tab_mono h i c hi
      omega
  · exact hr.2.1 i
end Go.Proofs.YtkejabhjlflknaaGreat.Ly

namespace Go.Proofs.YtkejabhjlflknaaGreat.Ly
open Go.RowKit Go.Shelf

/-! what the laws call -/
def SizeT (n : Nat) (l : Nat → Nat) (e : Ending) : Prop := ∃ s : Nat, e = .returned (.int .i64 (s : Nat)) ∧ s ≤ 281474976710656 ∧ (s ≤ 300 → n ≤ 300 ∧ ∀ i, i < n → l i ≤ 300)
set_option maxHeartbeats 1000000 in
set_option maxRecDepth 100000 in
theorem sizeT_any (a : Option Addr) (n cap : Nat) (r : Nat → Option Addr) (l c : Nat → Nat) (f : Nat → Nat → Nat) (hn : n ≤ 140737488355328) (hl : ∀ i, i < n → l i ≤ 140737488355328) (w : World) (hR : Rd w a n cap r l c f) :
    Calls Tryz.prog 6 #[.slice a n cap] w fun e w' => SizeT n l e ∧ w' = w := by
  have HR := Lib.hid hR; have HL := Lib.hid hl; clear hR hl
  go_enter Tryz.func6, Tryz.ntmps6
  go_wp2_with fail
  go_loop [3, 4] (fun t i => ∃ k s : Nat, k ≤ n ∧ i = .int .i64 k ∧ t = .int .i64 s ∧ n ≤ s ∧ s ≤ 281474976710656 ∧ ∀ i, i < k → l i ≤ s) (fun _ i => n - (intOf i).toNat)
  case atStart => exact ⟨0, n, by omega, rfl, rfl, by omega, by omega, fun i hi => absurd hi (Nat.not_lt_zero i)⟩
  case round =>
    obtain ⟨k, s, hk, rfl, rfl, hns, hs, hev⟩ := hrel
    have HV := Lib.hid hev; clear hev
    by_cases hlt : k < n
    · have i1 : (k : Int) < (n : Int) := by omega
      by_cases h9 : s ≤ 300
      · have i2 : decide ((s : Int) ≤ 300) = true := by simp; omega
        obtain ⟨b, off, ea, hc⟩ := HR.out.at_ hlt
        have hlk := HL.out k hlt
        subst ea
        go_wp2_with fail
        go_round
        case rel => exact ⟨k + 1, s + l k, by omega, by go_num, by go_num, by omega, by omega, fun i hi => by
          by_cases e : i = k
          · rw [e]; omega
          · have := HV.out i (by omega); omega⟩
        case measure => simp [intOf]; omega
      · have i2 : decide ((s : Int) ≤ 300) = false := by simp; omega
        have H9 := Lib.hid h9; clear h9
        go_wp2
        go_ret
        exact ⟨⟨s, rfl, hs, fun h => absurd h H9.out⟩, rfl⟩
    · obtain rfl : k = n := by omega
      go_wp2
      go_ret
      exact ⟨⟨s, rfl, hs, fun h => ⟨by omega, fun i hi => Nat.le_trans (HV.out i hi) h⟩⟩, rfl⟩
end Go.Proofs.YtkejabhjlflknaaGreat.Ly

namespace Go.Proofs.YtkejabhjlflknaaGreat.Ly
open Go.RowKit Go.Shelf
open Go.Proofs.YtkejabhjlflknaaGreat.Sp (Bad wid rwidth_ok rwidth_bad)
attribute [local go_sem] Oper.semAt_some

/-! the document's -/
theorem rwidth_any (x k : Int) (w : World) :
    Calls Tryz.prog 59 #[.int .i64 x, .int .i64 k] w fun e w' => e = .returned (.tuple #[.int .i64 (widI x k : Nat), .int .i64 (widE x k)]) ∧ w' = w := by
  by_cases h : Bad x k
  · have e1 : widI x k = 0 := if_pos h
    have e2 : widE x k = 2 := if_pos h
    rw [e1, e2]
    exact rwidth_bad x k h w
  · have h' := h
    unfold Bad at h'
    obtain ⟨X, rfl⟩ : ∃ X : Nat, x = X := ⟨x.toNat, by omega⟩
    obtain ⟨Y, rfl⟩ : ∃ Y : Nat, k = Y := ⟨k.toNat, by omega⟩
    have e1 : widI X Y = wid X Y := by rw [widI_ok h]; simp
    have e2 : widE X Y = 0 := if_neg h
    rw [e1, e2]
    exact rwidth_ok X Y (by omega) (by omega) (by omega) w
set_option maxHeartbeats 1000000 in
theorem rwid_any (K L : Int) (w : World) :
    Calls Tryz.prog 45 #[rowV K L] w fun e w' => e = .returned (.int .i64 (widI L K : Nat)) ∧ Below w.heap.size w w' := by
  have hB := (Below.refl w.heap.size w).alloc (Nat.le_refl _) (.cells #[.int .i64 K, .int .i64 L] 48)
  unfold rowV
  go_enter Tryz.func45, Tryz.ntmps45
  go_wp2_with fail
  refine (rwidth_any L K _).mono ?_
  rintro e w1 ⟨rfl, rfl⟩
  go_wp2
  go_ret
  exact ⟨rfl, hB⟩
set_option maxHeartbeats 4000000 in
set_option maxRecDepth 100000 in
theorem rRight_any (N : Int) (a : Option Addr) (n cap : Nat) (K L : Nat → Int) (w : World) (hT : Tb w a n K L) :
    Calls Tryz.prog 32 #[.int .i64 N, .slice a n cap] w fun e w' => TabSays N n K L e ∧ ∃ q, w' = w.drewN q := by
  have HT := Lib.hid hT; clear hT
  by_cases hb : 1 ≤ N ∧ N ≤ 255 ∧ 1 ≤ n ∧ n ≤ 8
  · have HBB := Lib.hid hb
    obtain ⟨h1, h2, h3, h4⟩ := hb
    have i1 : decide (N < 1) = false := by simp; omega
    have i2 : decide ((255 : Int) < N) = false := by simp; omega
    have i3 : decide ((n : Int) < 1) = false := by simp; omega
    have i4 : decide ((8 : Int) < (n : Int)) = false := by simp; omega
    go_enter Tryz.func32, Tryz.ntmps32
    go_wp2_with fail
    clear i1 i2 i3 i4
    go_loopw [5] (fun i wr => ∃ k : Nat, k ≤ n ∧ i = .int .i64 k ∧ (∀ j, j < k → RowOk N K L j) ∧ ∃ q, wr = w.drewN q) (fun i _ => n - (intOf i).toNat)
    case atStart => exact ⟨0, by omega, rfl, fun j hj => absurd hj (Nat.not_lt_zero j), 0, rfl⟩
    case round =>
      obtain ⟨k, hk, rfl, hro, q, hq⟩ := hrel
      have HRO := Lib.hid hro; clear hro
      by_cases hlt : k < n
      · have j1 : (k : Int) < (n : Int) := by omega
        obtain ⟨b, o, ea, hc1, hc2⟩ := HT.out.cell k hlt
        have c1 : ∀ q, (w.drewN q).cell? ⟨b, o + k * 2, none⟩ = some (.int .i64 (K k)) := fun _ => hc1
        have c2 : ∀ q, (w.drewN q).cell? ⟨b, o + k * 2 + 1, none⟩ = some (.int .i64 (L k)) := fun _ => hc2
        clear hc1 hc2
        subst hq
        have EA := Lib.hid ea
        by_cases hok : RowOk N K L k
        · have hok' := hok
          unfold RowOk at hok'
          have g1 : decide (K k < 1) = false := by simp; omega
          have g2 : decide (N < K k) = false := by simp; omega
          have g3 : decide (L k < 0) = false := by simp; omega
          have g4 : decide ((65535 : Int) < L k) = false := by simp; omega
          have HOK := Lib.hid hok
          by_cases hk0 : 0 < k
          · obtain ⟨j, hj⟩ : ∃ j, k = j + 1 := ⟨k - 1, by omega⟩
            obtain ⟨b2, o2, ea2, hc3, _⟩ := HT.out.cell j (by omega)
            obtain ⟨rfl, rfl⟩ : b2 = b ∧ o2 = o := by rw [ea] at ea2; cases ea2; exact ⟨rfl, rfl⟩
            have c3 : ∀ q, (w.drewN q).cell? ⟨b2, o2 + j * 2, none⟩ = some (.int .i64 (K j)) := fun _ => hc3
            have g5 : decide ((0 : Int) < (k : Int)) = true := by simp; omega
            have g6 : (k : Int) - 1 = (j : Int) := by omega
            have g7 : decide (K k < K j) = false := by have := hok'.2.2.2.2 hk0; rw [hj, Nat.add_sub_cancel] at this; rw [hj]; simp; omega
            have g8 : (j : Int) < (n : Int) := by omega
            clear hok hok' hc3 ea2 hj
            subst ea
            go_wp2_with fail
            go_quiet (fail)
            go_wp2_with fail
            go_roundw
            case rel => exact ⟨k + 1, by omega, by go_num, fun i hi => (by
              by_cases e : i = k
              · rw [e]; exact HOK.out
              · exact HRO.out i (by omega)), q + nq, by first | rfl | rw [World.drewN_drewN]⟩
            case measure => simp [intOf]; omega
          · have g5 : decide ((0 : Int) < (k : Int)) = false := by simp; omega
            clear hok hok'
            subst ea
            go_wp2_with fail
            go_quiet (fail)
            go_wp2_with fail
            go_roundw
            case rel => exact ⟨k + 1, by omega, by go_num, fun i hi => (by
              by_cases e : i = k
              · rw [e]; exact HOK.out
              · exact HRO.out i (by omega)), q + nq, by first | rfl | rw [World.drewN_drewN]⟩
            case measure => simp [intOf]; omega
        · have HNOK := Lib.hid hok
          by_cases b1 : K k < 1
          · have g1 : decide (K k < 1) = true := by simp; omega
            clear hok
            subst ea
            go_wp2_with fail
            go_quiet (fail)
            go_wp2_with fail
            go_ret
            exact ⟨⟨false, rfl, (fun h => by cases h), fun h => absurd (h.2.2.2.2 k hlt) HNOK.out⟩, q + nq, by first | rfl | rw [World.drewN_drewN]⟩
          · have g1 : decide (K k < 1) = false := by simp; omega
            by_cases b2 : N < K k
            · have g2 : decide (N < K k) = true := by simp; omega
              clear hok
              subst ea
              go_wp2_with fail
              go_quiet (fail)
              go_wp2_with fail
              go_ret
              exact ⟨⟨false, rfl, (fun h => by cases h), fun h => absurd (h.2.2.2.2 k hlt) HNOK.out⟩, q + nq, by first | rfl | rw [World.drewN_drewN]⟩
            · have g2 : decide (N < K k) = false := by simp; omega
              by_cases b3 : L k < 0
              · have g3 : decide (L k < 0) = true := by simp; omega
                clear hok
                subst ea
                go_wp2_with fail
                go_quiet (fail)
                go_wp2_with fail
                go_ret
                exact ⟨⟨false, rfl, (fun h => by cases h), fun h => absurd (h.2.2.2.2 k hlt) HNOK.out⟩, q + nq, by first | rfl | rw [World.drewN_drewN]⟩
              · have g3 : decide (L k < 0) = false := by simp; omega
                by_cases b4 : (65535 : Int) < L k
                · have g4 : decide ((65535 : Int) < L k) = true := by simp; omega
                  clear hok
                  subst ea
                  go_wp2_with fail
                  go_quiet (fail)
                  go_wp2_with fail
                  go_ret
                  exact ⟨⟨false, rfl, (fun h => by cases h), fun h => absurd (h.2.2.2.2 k hlt) HNOK.out⟩, q + nq, by first | rfl | rw [World.drewN_drewN]⟩
                · have g4 : decide ((65535 : Int) < L k) = false := by simp; omega
                  have hk0 : 0 < k := by
                    rcases Nat.eq_zero_or_pos k with e | e
                    · exact absurd ⟨by omega, by omega, by omega, by omega, fun h => by omega⟩ hok
                    · exact e
                  obtain ⟨j, hj⟩ : ∃ j, k = j + 1 := ⟨k - 1, by omega⟩
                  obtain ⟨b2, o2, ea2, hc3, _⟩ := HT.out.cell j (by omega)
                  obtain ⟨rfl, rfl⟩ : b2 = b ∧ o2 = o := by rw [ea] at ea2; cases ea2; exact ⟨rfl, rfl⟩
                  have c3 : ∀ q, (w.drewN q).cell? ⟨b2, o2 + j * 2, none⟩ = some (.int .i64 (K j)) := fun _ => hc3
                  have g5 : decide ((0 : Int) < (k : Int)) = true := by simp; omega
                  have g6 : (k : Int) - 1 = (j : Int) := by omega
                  have g7 : decide (K k < K j) = true := by
                    by_cases c : K k < K j
                    · exact decide_eq_true c
                    · exact absurd ⟨by omega, by omega, by omega, by omega, fun _ => by rw [hj, Nat.add_sub_cancel, ← hj]; exact Int.not_lt.1 c⟩ hok
                  have g8 : (j : Int) < (n : Int) := by omega
                  clear hok hc3 ea2 hj
                  subst ea
                  go_wp2_with fail
                  go_quiet (fail)
                  go_wp2_with fail
                  go_ret
                  exact ⟨⟨false, rfl, (fun h => by cases h), fun h => absurd (h.2.2.2.2 k hlt) HNOK.out⟩, q + nq, by first | rfl | rw [World.drewN_drewN]⟩
      · obtain rfl : k = n := by omega
        have j1 : ¬ (k : Int) < (k : Int) := by omega
        subst hq
        go_wp2
        go_ret
        exact ⟨⟨true, rfl, fun _ => ⟨HBB.out.1, HBB.out.2.1, HBB.out.2.2.1, HBB.out.2.2.2, HRO.out⟩, fun _ => rfl⟩, q, rfl⟩
  · have hno : TabSays N n K L (.returned (.bool false)) := ⟨false, rfl, ⟨(fun h => by cases h), fun h => absurd ⟨h.1, h.2.1, h.2.2.1, h.2.2.2.1⟩ hb⟩⟩
    have HNO := Lib.hid hno; have HB := Lib.hid hb; clear hno hb
    by_cases h1 : N < 1
    · have g1 : decide (N < 1) = true := by simp; omega
      go_enter Tryz.func32, Tryz.ntmps32
      go_wp2
      go_ret
      exact ⟨HNO.out, 0, rfl⟩
    · have g1 : decide (N < 1) = false := by simp; omega
      by_cases h2 : 255 < N
      · have g2 : decide ((255 : Int) < N) = true := by simp; omega
        go_enter Tryz.func32, Tryz.ntmps32
        go_wp2
        go_ret
        exact ⟨HNO.out, 0, rfl⟩
      · have g2 : decide ((255 : Int) < N) = false := by simp; omega
        by_cases h3 : n < 1
        · have g3 : decide ((n : Int) < 1) = true := by simp; omega
          go_enter Tryz.func32, Tryz.ntmps32
          go_wp2
          go_ret
          exact ⟨HNO.out, 0, rfl⟩
        · have g3 : decide ((n : Int) < 1) = false := by simp; omega
          have h4 : 8 < n := by have := HB.out; omega
          have g4 : decide ((8 : Int) < (n : Int)) = true := by simp; omega
          go_enter Tryz.func32, Tryz.ntmps32
          go_wp2
          go_ret
          exact ⟨HNO.out, 0, rfl⟩
end Go.Proofs.YtkejabhjlflknaaGreat.Ly

namespace Go.Proofs.YtkejabhjlflknaaGreat.Ly
open Go.RowKit Go.Shelf

theorem rdy_ex' (n : Nat) (K : Nat → Int) (came : Int) : ∃ mm, RdyN n K came mm := by
  induction n with
  | zero => exact ⟨0, Nat.le_refl _, fun i hi => absurd hi (Nat.not_lt_zero i), fun h => absurd h (Nat.lt_irrefl _)⟩
  | succ n ih =>
    obtain ⟨mm, h1, h2, h3⟩ := ih
    by_cases c : mm < n
    · exact ⟨mm, by omega, h2, fun _ => h3 c⟩
    · obtain rfl : mm = n := by omega
      by_cases c2 : K mm ≤ came
      · exact ⟨mm + 1, Nat.le_refl _, fun i hi => (by
          by_cases e : i = mm
          · rw [e]; exact c2
          · exact h2 i (by omega)), fun h => absurd h (Nat.lt_irrefl _)⟩
      · exact ⟨mm, by omega, h2, fun _ => by omega⟩
theorem tab_mono' {N : Int} {n : Nat} {K L : Nat → Int} (h : TabOk N n K L) {i : Nat} : ∀ j, i ≤ j → j < n → K i ≤ K j
  | 0, h1, _ => by obtain rfl : i = 0 := by omega
                   exact Int.le_refl _
  | j + 1, h1, h2 => by
    by_cases e : i = j + 1
    · rw [e]; exact Int.le_refl _
    · have h3 := tab_mono' h (i := i) j (by omega) (by omega)
      have h4 := (h.2.2.2.2 (j + 1) h2).2.2.2.2 (by omega)
      rw [Nat.add_sub_cancel] at h4
      omega
theorem rdy_iff' {N : Int} {n : Nat} {K L : Nat → Int} {came : Int} {mm : Nat} (h : TabOk N n K L) (hr : RdyN n K came mm) {i : Nat} (hi : i < n) : K i ≤ came ↔ i < mm := by
  constructor
  · intro hk
    rcases Nat.lt_or_ge i mm with c | c
    · exact c
    · have h1 := hr.2.2 (Nat.lt_of_le_of_lt c hi)
      have h2 := tab_mono' h i c hi
      omega
  · exact hr.2.1 i
set_option maxHeartbeats 2000000 in
set_option maxRecDepth 100000 in
theorem rLong_any (N : Int) (a : Option Addr) (n cap : Nat) (K L : Nat → Int) (w : World) (hT : Tb w a n K L) :
    Calls Tryz.prog 24 #[.int .i64 N, .slice a n cap] w fun e w' => NumSays N n K L (fun m => m = off K L n) e ∧ Below w.heap.size w w' := by
  have HT := Lib.hid hT; clear hT
  go_enter Tryz.func24, Tryz.ntmps24
  go_wp2_with fail
  refine (rRight_any N a n cap K L _ HT.out).mono ?_
  rintro e w1 ⟨⟨v, rfl, hv⟩, q1, hq1⟩
  have HB1 := Lib.hid (show Below w.heap.size w w1 from by rw [hq1]; exact below_dr (Below.refl _ w) q1)
  have HV := Lib.hid hv; clear hv hq1
  cases v
  · go_wp2
    go_ret2
    exact ⟨Or.inl ⟨fun h => absurd (HV.out.2 h) (by simp), rfl⟩, HB1.out⟩
  · have ht := HV.out.1 rfl
    have hn8 := ht.2.2.2.1
    have HTO := Lib.hid ht; clear ht
    go_wp2_with fail
    go_loopw [6, 7] (fun lo i wr => ∃ k : Nat, k ≤ n ∧ i = .int .i64 (k : Nat) ∧ lo = .int .i64 (off K L k : Nat) ∧ Below w.heap.size w wr) (fun _ i _ => n - (intOf i).toNat)
    case atStart => exact ⟨0, by omega, rfl, rfl, HB1.out⟩
    case round =>
      obtain ⟨k, hk, rfl, rfl, hB⟩ := hrel
      have HB := Lib.hid hB
      by_cases hlt : k < n
      · have i1 : (k : Int) < (n : Int) := by omega
        obtain ⟨b, o, ea, c1, c2⟩ := (HT.out.same hB).cell k hlt
        have EA := Lib.hid ea
        have hof : ((off K L k : Nat) : Int) + ((widI (L k) (K k) : Nat) : Int) = ((off K L (k + 1) : Nat) : Int) := by show _ = ((off K L k + widI (L k) (K k) : Nat) : Int); omega
        have HOF := Lib.hid hof
        have h1 := off_le K L k
        have h2 := widI_le (L k) (K k)
        have HRW := Lib.hid (rwid_any (K k) (L k) wr)
        clear hB hof
        subst ea
        go_wp2_with fail
        refine HRW.out.mono ?_
        rintro e w2 ⟨rfl, hB2⟩
        have HB2 := Lib.hid (HB.out.trans (hB2.mono HB.out.size)); clear hB2
        go_wp2
        go_roundw
        case rel => exact ⟨k + 1, by omega, by go_num, by rw [HOF.out], HB2.out⟩
        case measure => simp [intOf]; omega
      · obtain rfl : k = n := by omega
        have i1 : ¬ (k : Int) < (k : Int) := by omega
        go_wp2
        go_ret2
        exact ⟨Or.inr ⟨HTO.out, _, rfl, rfl⟩, HB.out⟩
set_option maxHeartbeats 2000000 in
set_option maxRecDepth 100000 in
theorem rReady_any (N : Int) (a : Option Addr) (n cap : Nat) (K L : Nat → Int) (came : Int) (w : World) (hT : Tb w a n K L) :
    Calls Tryz.prog 44 #[.int .i64 N, .slice a n cap, .int .i64 came] w fun e w' => NumSays N n K L (RdyN n K came) e ∧ Below w.heap.size w w' := by
  have HT := Lib.hid hT; clear hT
  go_enter Tryz.func44, Tryz.ntmps44
  go_wp2_with fail
  refine (rRight_any N a n cap K L _ HT.out).mono ?_
  rintro e w1 ⟨⟨v, rfl, hv⟩, q1, hq1⟩
  have HT1 := Lib.hid (show Tb w1 a n K L from by rw [hq1]; exact HT.out.same (below_dr (Below.refl _ w) q1))
  have HB1 := Lib.hid (show Below w.heap.size w w1 from by rw [hq1]; exact below_dr (Below.refl _ w) q1)
  have HV := Lib.hid hv; clear hv hq1
  cases v
  · go_wp2
    go_ret2
    exact ⟨Or.inl ⟨fun h => absurd (HV.out.2 h) (by simp), rfl⟩, HB1.out⟩
  · have ht := HV.out.1 rfl
    have hn8 := ht.2.2.2.1
    have HTO := Lib.hid ht; clear ht
    obtain ⟨mm, hmm⟩ := rdy_ex' n K came
    have HMM := Lib.hid hmm
    clear hmm
    go_wp2_with fail
    go_loop [8, 9] (fun mv i => ∃ k : Nat, k ≤ n ∧ i = .int .i64 (k : Nat) ∧ mv = .int .i64 (min k mm : Nat)) (fun _ i => n - (intOf i).toNat)
    case atStart => exact ⟨0, by omega, rfl, by simp⟩
    case round =>
      obtain ⟨k, hk, rfl, rfl⟩ := hrel
      by_cases hlt : k < n
      · have i1 : (k : Int) < (n : Int) := by omega
        obtain ⟨b, o, ea, c1, c2⟩ := HT1.out.cell k hlt
        have EA := Lib.hid ea
        have hif := rdy_iff' HTO.out HMM.out hlt
        subst ea
        by_cases hkc : K k ≤ came
        · have h1 := hif.1 hkc
          have HMIN := Lib.hid (show min (k + 1) mm = min k mm + 1 by omega)
          have hb8 : min k mm ≤ 8 := by omega
          generalize min k mm = t at *
          clear hif
          go_wp2
          go_round
          case rel => exact ⟨k + 1, by omega, by go_num, by rw [HMIN.out]; go_num⟩
          case measure => simp [intOf]; omega
        · have h1 : ¬ k < mm := fun h => hkc (hif.2 h)
          have HMIN := Lib.hid (show min (k + 1) mm = min k mm by omega)
          generalize min k mm = t at *
          clear hif
          go_wp2
          go_round
          case rel => exact ⟨k + 1, by omega, by go_num, by rw [HMIN.out]⟩
          case measure => simp [intOf]; omega
      · obtain rfl : k = n := by omega
        have i1 : ¬ (k : Int) < (k : Int) := by omega
        have hmin : min k mm = mm := by have := HMM.out.1; omega
        rw [hmin]
        go_wp2
        go_ret2
        exact ⟨Or.inr ⟨HTO.out, mm, HMM.out, rfl⟩, HB1.out⟩
end Go.Proofs.YtkejabhjlflknaaGreat.Ly
