import Derived.BigQuiet
import Derived.RegionIn
import Derived.BigRegionIn
import Derived.Deep.RegionWith
import Derived.Test.YtkejabhjlflknaaGreatMg6
import Derived.Test.YtkejabhjlflknaaGreatMg30
import Derived.Test.YtkejabhjlflknaaGreatMg40
namespace Go.Proofs.YtkejabhjlflknaaGreat.Sp
open Go.RowKit Go.Shelf
attribute [local go_sem] Oper.semAt_some

/-- the parts of one list, as they are asked, and told. -/
structure Tw (W : World) (bp br bw bl n wi g : Nat) : Prop where
  p : Boxed W bp 3 (.int .i64 (n : Nat))
  r : Boxed W br 130 (.func (.func 101) #[] #[.pointer (some ⟨bw, 0, none⟩), .pointer (some ⟨bl, 0, none⟩)])
  w : Boxed W bw 3 (.int .i64 (wi : Nat))
  l : Boxed W bl 50 (.slice (some ⟨g, 0, none⟩) (n * wi) (n * wi))
/-- the row at a place. -/
def part (g wi i : Nat) : Value := .slice (some ⟨g, i * wi, none⟩) wi wi

theorem slice_part (g T l wi : Nat) (h : l + wi ≤ T) (W : World) :
    (Instr.slice 50 (.slice (some ⟨g, 0, none⟩) T T) (some (.int .i64 (l : Nat))) (some (.int .i64 (l + wi : Nat))) (some (.int .i64 (l + wi : Nat)))).run Tryz.prog W = .ok (.slice (cutA (some ⟨g, 0, none⟩) l (l + wi)) wi wi) W := by
  rw [run_slice_lhm (P := Tryz.prog) W 50 _ T T und8 .i64 .i64 .i64 l (l + wi : Nat) (l + wi : Nat) (by omega) (by omega) (by omega) (by omega), size8]
  have e : (((l + wi : Nat) : Int)).toNat = l + wi := Int.toNat_natCast _
  simp only [Result.andThen, sliced, cutA, e, Int.toNat_natCast, Nat.mul_one, Nat.add_sub_cancel_left]
theorem wrap_nat {x : Nat} (h : x ≤ 1000000) : wrap64 (x : Int) = (x : Int) := by unfold wrap64; omega
set_option maxHeartbeats 1000000 in
theorem within1_any (bw bl n wi g : Nat) (j : Nat) (hj : j < n) (hn : n ≤ 1000000) (hs : n * wi ≤ 1000000) (W : World) (hw : Boxed W bw 3 (.int .i64 (wi : Nat))) (hl : Boxed W bl 50 (.slice (some ⟨g, 0, none⟩) (n * wi) (n * wi))) :
    Calls Tryz.prog 101 #[.int .i64 (j : Nat), .pointer (some ⟨bw, 0, none⟩), .pointer (some ⟨bl, 0, none⟩)] W fun e W' => e = .returned (part g wi j) ∧ ∃ q, W' = W.drewN q := by
  have c1 := hw.cell
  have c2 := fun q => (show (W.drewN q).cell? ⟨bl, 0, none⟩ = _ from hl.cell)
  have h1 : j * wi + wi ≤ n * wi := by
    have := Nat.mul_le_mul_right wi (show j + 1 ≤ n from hj)
    rwa [Nat.add_mul, Nat.one_mul] at this
  have m1 : (j : Int) * (wi : Int) = ((j * wi : Nat) : Int) := by rw [Int.natCast_mul]
  have m2 : ((j : Int) + 1) * (wi : Int) = ((j * wi + wi : Nat) : Int) := by rw [Int.add_mul, m1]; omega
  have m0 : wrap64 ((j : Int) + 1) = (j : Int) + 1 := by unfold wrap64; omega
  have hp : part g wi j = .slice (cutA (some ⟨g, 0, none⟩) (j * wi) (j * wi + wi)) wi wi := by
    unfold part cutA
    rcases Nat.eq_zero_or_pos wi with h | h
    · rw [h, Nat.mul_zero, if_pos rfl]
    · rw [if_neg (by omega), Option.map_some, Addr.add_lit, Nat.zero_add]
  rw [hp]
  clear hp hw hl
  generalize hjw : j * wi = jw at *
  generalize hT : n * wi = T at *
  have hsl := fun W => slice_part g T jw wi h1 W
  obtain ⟨u, hu⟩ : ∃ u, u = jw + wi := ⟨_, rfl⟩
  rw [← hu] at hsl m2 ⊢
  have b1 : jw ≤ u := by rw [hu]; exact Nat.le_add_right _ _
  have b2 : u ≤ T := by rw [hu]; exact h1
  have m3 := wrap_nat (Nat.le_trans b2 hs)
  have M4 := Lib.hid (wrap_nat (Nat.le_trans b1 (Nat.le_trans b2 hs)))
  have HH := Lib.hid hsl; have M0 := Lib.hid m0; have M2 := Lib.hid m2; have M3 := Lib.hid m3
  clear hu hjw hT hsl m0 m2 m3 h1 b1 b2
  go_enter Tryz.func101, Tryz.ntmps101
  go_wp2_with fail
  go_quiet (fail)
  have hsl := HH.out
  have c3 := c2 nq
  simp only [M2.out, M3.out, M4.out]


  go_wp2
  go_ret
  exact ⟨rfl, nq, rfl⟩

set_option maxHeartbeats 1000000 in
theorem within_any (g T wi : Nat) (w : World) :
    Calls Tryz.prog 73 #[.slice (some ⟨g, 0, none⟩) T T, .int .i64 (wi : Nat)] w fun e w' => e = .returned (.func (.func 101) #[] #[.pointer (some ⟨w.heap.size + 1, 0, none⟩), .pointer (some ⟨w.heap.size, 0, none⟩)]) ∧ w' = (w.alloc (.cells #[.slice (some ⟨g, 0, none⟩) T T] 50)).alloc (.cells #[.int .i64 (wi : Nat)] 3) := by
  have hmf : ∀ (fn : Fn) (first cap : Array Value) (w : World), (Instr.makeFunc fn first cap).run Tryz.prog w = .ok (.func fn first cap) w := fun _ _ _ _ => rfl
  go_enter Tryz.func73, Tryz.ntmps73
  go_wp2
  go_ret
  exact ⟨rfl, rfl⟩
set_option maxHeartbeats 400000 in
theorem of1_any (a : Option Addr) (n cap lb k : Nat) (r : Nat → Option Addr) (l c : Nat → Nat) (f : Nat → Nat → Nat) (hk : k < n) (w : World) (hb : w.cell? ⟨lb, 0, none⟩ = some (.slice a n cap)) (hR : Rd w a n cap r l c f) :
    Calls Tryz.prog 118 #[.int .i64 (k : Nat), .pointer (some ⟨lb, 0, none⟩)] w fun e w' => e = .returned (.slice (r k) (l k) (c k)) ∧ w' = w := by
  obtain ⟨b, o, ea, hc⟩ := hR.at_ hk
  have i1 : (k : Int) < (n : Int) := by omega
  subst ea
  clear hR
  go_enter Tryz.func118, Tryz.ntmps118
  go_wp2
  go_ret
  exact ⟨rfl, rfl⟩
set_option maxHeartbeats 400000 in
theorem of_any (a : Option Addr) (n cap : Nat) (w : World) :
    Calls Tryz.prog 96 #[.slice a n cap] w fun e w' => e = .returned (.func (.func 118) #[] #[.pointer (some ⟨w.heap.size, 0, none⟩)]) ∧ w' = w.alloc (.cells #[.slice a n cap] 22) := by
  have hmf : ∀ (fn : Fn) (first cap : Array Value) (w : World), (Instr.makeFunc fn first cap).run Tryz.prog w = .ok (.func fn first cap) w := fun _ _ _ _ => rfl
  go_enter Tryz.func96, Tryz.ntmps96
  go_wp2
  go_ret
  exact ⟨rfl, rfl⟩
set_option maxHeartbeats 400000 in
theorem told_any (n cf : Nat) (caps : Array Value) (w : World) :
    Calls Tryz.prog 72 #[.int .i64 (n : Nat), .func (.func cf) #[] caps] w fun e w' => e = .returned (.func (.func 100) #[] #[.pointer (some ⟨w.heap.size, 0, none⟩), .pointer (some ⟨w.heap.size + 1, 0, none⟩)]) ∧ w' = (w.alloc (.cells #[.int .i64 (n : Nat)] 3)).alloc (.cells #[.func (.func cf) #[] caps] 130) := by
  have hmf : ∀ (fn : Fn) (first cap : Array Value) (w : World), (Instr.makeFunc fn first cap).run Tryz.prog w = .ok (.func fn first cap) w := fun _ _ _ _ => rfl
  go_enter Tryz.func72, Tryz.ntmps72
  go_wp2
  go_ret
  exact ⟨rfl, rfl⟩
end Go.Proofs.YtkejabhjlflknaaGreat.Sp

namespace Go.Proofs.YtkejabhjlflknaaGreat.Sp
open Go.RowKit Go.Shelf
attribute [local go_sem] Oper.semAt_some

/-- one of those that are told: its place. -/
structure Tk (n : Nat) where
  i : Nat
  hi : i < n
/-- what asks: a closure that answers of each place. -/
structure Asks (cf n : Nat) (caps : Array Value) (rv : Nat → Value) (Pw : World → Prop) : Prop where
  ent : ∀ (args : Array Value) (W : World), (callFunc cf args).run Tryz.prog W = .ok (.enter cf args) W
  call : ∀ W, Pw W → ∀ j : Nat, j < n → Calls Tryz.prog cf (#[.int .i64 (j : Nat)] ++ caps) W fun e W' => e = .returned (rv j) ∧ ∃ q, W' = W.drewN q
  own : ∀ X Y row, Pw X → X.grownBy Y row → (∀ r, row = some r → ∃ o : Obj, X.heap[r]? = some o ∧ o.isCells = false) → Pw Y
theorem grown_dr (W : World) (q : Nat) (row : Option Nat) : W.grownBy (W.drewN q) row := ⟨rfl, rfl, rfl, Nat.le_refl _, fun _ _ _ => rfl⟩
theorem Asks.drawn {cf n : Nat} {caps : Array Value} {rv : Nat → Value} {Pw : World → Prop} (h : Asks cf n caps rv Pw) (W : World) (q : Nat) (hp : Pw W) : Pw (W.drewN q) := h.own W _ none hp (grown_dr W q none) (fun _ e => by cases e)
/-- what told's function reads. -/
structure Gt (bp br cf n : Nat) (caps : Array Value) (Pw : World → Prop) (W : World) : Prop where
  p : Boxed W bp 3 (.int .i64 (n : Nat))
  r : Boxed W br 130 (.func (.func cf) #[] caps)
  s : Pw W
def KpT (bp br cf n : Nat) (caps : Array Value) (Pw : World → Prop) (W W' : World) : Prop := Gt bp br cf n caps Pw W → Gt bp br cf n caps Pw W'
theorem kpT_t {bp br cf n : Nat} {caps : Array Value} {Pw : World → Prop} {A B C : World} (h : KpT bp br cf n caps Pw A B) (k : KpT bp br cf n caps Pw B C) : KpT bp br cf n caps Pw A C := fun g => k (h g)
theorem Gt.drewN {bp br cf n : Nat} {caps : Array Value} {Pw : World → Prop} {W : World} (g : Gt bp br cf n caps Pw W) (hd : ∀ W q, Pw W → Pw (W.drewN q)) (q : Nat) : Gt bp br cf n caps Pw (W.drewN q) := ⟨g.p, g.r, hd W q g.s⟩

set_option maxRecDepth 100000 in
set_option maxHeartbeats 2000000 in
/-- told's function. -/
theorem told1_in (m : Nat) (l bp br cf n : Nat) (caps : Array Value) (rv : Nat → Value) (Pw : World → Prop) (hA : Asks cf n caps rv Pw) (hn : n ≤ 1000000000000) (J Jx : List (Tk n) → World → Prop)
    (hJ : ∀ s W q, J s W → J s (W.drewN q))
    (hY : ∀ pre x W, J pre W → pre.length < n → YieldAt Fence.wide (m - 1) Tryz.prog l #[rv x.i] W fun e W' =>
      (e = .returned (.bool true) ∧ J (pre ++ [x]) W' ∧ KpT bp br cf n caps Pw W W') ∨ (e = .returned (.bool false) ∧ Jx (pre ++ [x]) W'))
    (W : World) (hG : Gt bp br cf n caps Pw W) (h0 : J [] W) :
    CallsIn Fence.wide m Tryz.prog 100 #[.func (.yield l) #[] #[], .pointer (some ⟨bp, 0, none⟩), .pointer (some ⟨br, 0, none⟩)] W fun e W' => (∃ v, e = .returned v) ∧
      ((∃ ys : List (Tk n), ys.map Tk.i = List.range n ∧ J ys W') ∨ (∃ pre : List (Tk n), (∃ k, k ≤ n ∧ pre.map Tk.i = List.range k) ∧ Jx pre W')) := by
  have hW : ∀ k, Fence.wide.fn k := fun _ => trivial
  have hD : Fence.wide.depth = none := rfl
  have hb0 := hG.p.cell
  have HG := Lib.hid hG; clear hG
  have hent := hA.ent
  have HA := Lib.hid hA; clear hA
  refine callsIn_of_wp Tryz.func100 rfl trivial ?_ rfl
  simp only [Tryz.ntmps100, List.size_toArray, List.length_cons, List.length_nil, Nat.reduceAdd, Nat.reduceSub, Array.replicate_succ, Array.replicate_zero, List.push_toArray, List.append_toArray, List.nil_append, List.cons_append]
  gi_wp2
  gi_loopw [6] (fun i wr => ∃ k : Nat, k ≤ n ∧ i = .int .i64 (k : Nat) ∧ (∃ pre : List (Tk n), pre.map Tk.i = List.range k ∧ J pre wr) ∧ Gt bp br cf n caps Pw wr)
    (fun i _ => n - (intOf i).toNat)
  case atStart => exact ⟨0, Nat.zero_le _, rfl, ⟨[], rfl, h0⟩, HG.out⟩
  case round =>
    rename_i wr
    obtain ⟨k, hk1, rfl, ⟨pre, hp, hJs⟩, hG⟩ := hrel
    have hP := Lib.hid hp
    have hlen : pre.length = k := by have := congrArg List.length hp; rwa [List.length_map, List.length_range] at this
    clear hp hb0
    by_cases hkn : k < n
    · have i1 : (k : Int) < (n : Int) := by omega
      have hb1 := hG.r.cell
      have HG1 := Lib.hid hG
      have HJ := Lib.hid hJs
      have HL := Lib.hid hlen
      clear hG hlen hJs
      gi_wp2_with fail
      refine (callsIn_wide.2 (HA.out.call _ HG1.out.s k hkn)).mono ?_
      rintro e W2 ⟨rfl, q, rfl⟩
      obtain ⟨fn, tmps, assign, body, hy, hR⟩ := hY pre ⟨k, hkn⟩ (wr.drewN q) (hJ _ _ _ HJ.out) (by have := HL.out; omega)
      dsimp only at hy
      gi_wp2
      refine hR.mono ?_
      rintro e W3 (⟨rfl, hJ3, hk3⟩ | ⟨rfl, hJx3⟩)
      · have HG3 := Lib.hid (hk3 (HG1.out.drewN HA.out.drawn q))
        gi_wp2
        go_roundw
        case rel => exact ⟨k + 1, by omega, by go_num, ⟨_, by rw [List.range_succ, List.map_append, hP.out]; rfl, hJ3⟩, HG3.out⟩
        case measure => simp [intOf]; omega
      · gi_wp2
        refine bodyPost_ret (results_none rfl _ _ _) rfl ?_
        exact ⟨⟨_, rfl⟩, .inr ⟨_, ⟨k + 1, by omega, by rw [List.range_succ, List.map_append, hP.out]; rfl⟩, hJx3⟩⟩
    · obtain rfl : k = n := by omega
      have i1 : ¬ (k : Int) < (k : Int) := by omega
      gi_wp2
      go_end0
      exact ⟨⟨_, rfl⟩, .inl ⟨pre, hP.out, hJs⟩⟩

/-- told's value. -/
theorem told_stops (m bp br cf n : Nat) (caps : Array Value) (rv : Nat → Value) (Pw : World → Prop) (hA : Asks cf n caps rv Pw) (hn : n ≤ 1000000000000) (w : World) (hG : Gt bp br cf n caps Pw w) :
    SeqStopsK Fence.wide m Tryz.prog 100 #[.pointer (some ⟨bp, 0, none⟩), .pointer (some ⟨br, 0, none⟩)] (fun x : Tk n => #[rv x.i]) (KpT bp br cf n caps Pw) (fun ys => ys.map Tk.i = List.range n) (fun pre => ∃ k, k ≤ n ∧ pre.map Tk.i = List.range k) n w := fun l J Jx W hW hJ _ hY h0 =>
  told1_in m l bp br cf n caps rv Pw hA hn J Jx (fun s W' q hs => hJ s _ _ none hs (grown_dr W' q none) (fun _ e => by cases e)) hY W
    ⟨(hW.block bp hG.p.lt).trans hG.p, (hW.block br hG.r.lt).trans hG.r, hA.own w W none hG.s ⟨hW.os, hW.tape, hW.output, hW.size, fun k hk _ => hW.block k hk⟩ (fun _ e => by cases e)⟩ h0
theorem kpT_b {bp br cf n : Nat} {caps : Array Value} {rv : Nat → Value} {Pw : World → Prop} (hA : Asks cf n caps rv Pw) {w : World} (W : World) (l : Nat) (o o' : Obj) (_ : w.heap.size ≤ l) (h : W.heap[l]? = some o) (hc : o.isCells = false) (_ : o.isWalk = false) : KpT bp br cf n caps Pw W (W.putObj l o') :=
  fun g => ⟨g.p.kept (grownBy_putObj' W l o') (fun e => by cases e; have := h.symm.trans g.p; cases this; cases hc), g.r.kept (grownBy_putObj' W l o') (fun e => by cases e; have := h.symm.trans g.r; cases this; cases hc), hA.own W _ (some l) g.s (grownBy_putObj' W l o') (fun r e => by cases e; exact ⟨o, h, hc⟩)⟩
theorem grown_t {A B C : World} {r : Option Nat} (h : A.grownBy B r) (k : B.grownBy C r) : A.grownBy C r :=
  ⟨k.os.trans h.os, k.tape.trans h.tape, k.output.trans h.output, Nat.le_trans h.size k.size, fun i hi hr => (k.block i (Nat.lt_of_lt_of_le hi h.size) hr).trans (h.block i hi hr)⟩
/-- what turned lies behind w. -/
theorem grown_past {w A B : World} {r s : Option Nat} (h : w.grownBy A r) (k : A.grownBy B s) (hs : ∀ i, s = some i → w.heap.size ≤ i) : w.grownBy B r :=
  ⟨k.os.trans h.os, k.tape.trans h.tape, k.output.trans h.output, Nat.le_trans h.size k.size, fun i hi hr => (k.block i (Nat.lt_of_lt_of_le hi h.size) (fun e => by have := hs i e.symm; omega)).trans (h.block i hi hr)⟩
end Go.Proofs.YtkejabhjlflknaaGreat.Sp

namespace Go.Proofs.YtkejabhjlflknaaGreat.Sp
open Go.RowKit Go.Shelf
attribute [local go_sem] Oper.semAt_some

/-- slices, as they are told. -/
def rs (ra : Nat → Option Addr) (rl rc : Nat → Nat) (i : Nat) : Value := .slice (ra i) (rl i) (rc i)
/-- what has come is in the list, which is in its box. -/
structure Ap (w : World) (B G cap n : Nat) (rv : Nat → Value) (pre : List (Tk n)) (W : World) : Prop where
  box : Boxed W w.heap.size 22 (.slice (some ⟨G, 0, none⟩) pre.length cap)
  own : W.ownsRow B 50 1 (.slice (some ⟨G, 0, none⟩) pre.length cap) pre.length (pre.map fun x => rv x.i)
  gr : w.grownBy W (some G)
theorem Ap.lt {w W : World} {B G cap n : Nat} {rv : Nat → Value} {pre : List (Tk n)} (h : Ap w B G cap n rv pre W) : G < W.heap.size := (h.own.lt G rfl).2
theorem Ap.from_ (w : World) (B G cap n : Nat) (rv : Nat → Value) : OwnFrom w.heap.size (Ap w B G cap n rv) := fun pre X Y row h hg hr => by
  have hne : ∀ (j : Nat) (cs : Array Value) (t : TypeId) (z : Nat × Nat), X.heap[j]? = some (.cells cs t z) → some j ≠ row := fun j cs t z hj e => by
    obtain ⟨_, o, ho, hc⟩ := hr j e.symm
    rw [hj] at ho; cases ho; cases hc
  refine ⟨h.box.kept hg (hne _ _ _ _ h.box), h.own.kept hg ?_, grown_past h.gr hg (fun i e => (hr i e).1)⟩
  rcases h.own.2 with ⟨e, _⟩ | ⟨g, c, cur, e, _, hgb, _⟩
  · cases e
  · rw [e]; exact .inr (hne g _ _ _ hgb)

set_option maxRecDepth 100000 in
set_option maxHeartbeats 2000000 in
/-- slices.AppendSeq, of what is told, where there is room. -/
theorem appendSeq_any (B G cap bp br cf n : Nat) (caps : Array Value) (ra : Nat → Option Addr) (rl rc : Nat → Nat) (Pw : World → Prop) (hA : Asks cf n caps (rs ra rl rc) Pw) (hn : n ≤ 1000000) (hcap : n ≤ cap) (w : World) (hG : Gt bp br cf n caps Pw w)
    (ho : w.ownsRow B 50 1 (.slice (some ⟨G, 0, none⟩) 0 cap) 0 []) (hP : ∀ W, w.grownBy W (some G) → Pw W) :
    Calls Tryz.prog 71 #[.slice (some ⟨G, 0, none⟩) 0 cap, .func (.func 100) #[] #[.pointer (some ⟨bp, 0, none⟩), .pointer (some ⟨br, 0, none⟩)]] w fun e w' => e = .returned (.slice (some ⟨G, 0, none⟩) n cap) ∧ w'.ownsRow B 50 1 (.slice (some ⟨G, 0, none⟩) n cap) n ((List.range n).map (rs ra rl rc)) ∧ w.grownBy w' (some G) := by
  refine (callsIn_wide (n := 6)).1 ?_
  have hW : ∀ k, Fence.wide.fn k := fun _ => trivial
  have hD : Fence.wide.depth = none := rfl
  obtain ⟨i0, hi, hz0, hz1, hz2⟩ := info_parts (P := Tryz.prog) (e := 50) (z := .slice none 0 0) (size := 1) (bytes := 24) (by kernel_rfl)
  have HI := Lib.hid hi; have HZ1 := Lib.hid hz1
  have hGl := (ho.lt G rfl).2
  have HO := Lib.hid ho; have HG := Lib.hid hG; have HA := Lib.hid hA; have HP := Lib.hid hP
  clear hi hz0 hz1 hz2 ho hG hA hP
  refine callsIn_of_wp_marks Tryz.func71 rfl trivial ?_ rfl
  simp only [Tryz.ntmps71, List.size_toArray, List.length_cons, List.length_nil, Nat.reduceAdd, Nat.reduceSub, Array.replicate_succ, Array.replicate_zero, List.push_toArray, List.append_toArray, List.nil_append, List.cons_append]
  gi_wp2
  have hal : w.grownBy (w.alloc (.cells #[.slice (some ⟨G, 0, none⟩) 0 cap] 22)) (some G) := World.grownBy_alloc w _ _
  have b0 := Boxed.new w 22 (.slice (some ⟨G, 0, none⟩) 0 cap)
  have o0 := HO.out.alloc (.cells #[.slice (some ⟨G, 0, none⟩) 0 cap] 22)
  have g0 : Gt bp br cf n caps Pw (w.alloc (.cells #[.slice (some ⟨G, 0, none⟩) 0 cap] 22)) := ⟨HG.out.p.alloc _, HG.out.r.alloc _, HP.out _ hal⟩
  refine' wpIn_rangeFunc_ownG rfl (by omega) (gf := 100) (lb := #[.pointer (some ⟨bp, 0, none⟩), .pointer (some ⟨br, 0, none⟩)]) rfl trivial (enters_of Tryz.func100 (by kernel_rfl) rfl)
    (told_stops _ bp br cf n caps (rs ra rl rc) Pw HA.out (by omega) _ g0) kpT_t (kpT_b HA.out) (Below.refl _ _) (fun _ => rfl)
    (Ap w B G cap n (rs ra rl rc))
    (fun _ _ _ => False)
    (fun s X Y row h hg hr => Ap.from_ w B G cap n (rs ra rl rc) s X Y row h hg (fun r e => ⟨by have := (hr r e).1; simp at this; omega, (hr r e).2⟩))
    (fun _ _ _ _ _ hs _ _ => hs)
    ⟨b0, o0, hal⟩
    _ ?assign ?body ?done ?stop
  case assign =>
    intro l y W K hK
    unfold rs
    gi_wp2
    exact hK
  case body =>
    rintro l pre y W hI hlen
    clear b0 o0 g0 hal
    have c0 := hI.box.cell
    have f0 := hI.box.frozen
    have HH := Lib.hid hI; clear hI
    unfold rs
    have HL := Lib.hid (show pre.length + 1 ≤ cap by omega)
    gi_wp2_with (gi_at_builtin; go_loud (refine wpListIn_append_fits _ rfl (.tmp 8) (.tmp 10) 22 rfl B 50 i0 1 Tryz.underlying22 HI.out HZ1.out G pre.length cap (pre.map fun x => rs ra rl rc x.i) rfl (HH.out.own.alloc _) _ 1 1 [.slice (ra y.i) (rl y.i) (rc y.i)] rfl rfl (cell_new1 _ _ _) (fun u hu => by rw [List.mem_singleton.1 hu]; rfl) HL.out ?_; intro w6 hown6 hg6; have HOWN6 := Lib.hid hown6; have HG6 := Lib.hid hg6; clear hown6 hg6; have b6 : Boxed w6 w.heap.size 22 (.slice (some ⟨G, 0, none⟩) pre.length cap) := (HH.out.box.alloc _).kept HG6.out (fun e => by cases e; exact absurd hGl (Nat.lt_irrefl _)); have c6 := b6.cell; have f6 := b6.frozen))
    have s6 : Boxed (w6.setCell ⟨w.heap.size, 0, none⟩ (.slice (some ⟨G, 0, none⟩) (pre.length + 1) cap)) w.heap.size 22 (.slice (some ⟨G, 0, none⟩) (pre.length + 1) cap) := b6.set _
    have S6 := Lib.hid s6
    have g6 : w.grownBy w6 (some G) := grown_t (grown_t HH.out.gr (World.grownBy_alloc W _ _)) HG6.out
    have g7 : w.grownBy (w6.setCell ⟨w.heap.size, 0, none⟩ (.slice (some ⟨G, 0, none⟩) (pre.length + 1) cap)) (some G) := grown_past g6 (grownBy_setCell' w6 w.heap.size _) (fun i e => by cases e; exact Nat.le_refl _)
    have G7 := Lib.hid g7
    have hK : KeepsOthers W (w6.setCell ⟨w.heap.size, 0, none⟩ (.slice (some ⟨G, 0, none⟩) (pre.length + 1) cap)) :=
      ((KeepsOthers.alloc W _).trans (KeepsOthers.of_grownBy HG6.out fun j o ej hj => by
        cases ej
        rcases (HH.out.own.alloc (.cells #[.slice (ra y.i) (rl y.i) (rc y.i)] 50)).2 with ⟨e, _⟩ | ⟨g, c, cur, e, _, hgb, _⟩
        · cases e
        · cases e; rw [hgb] at hj; cases hj; rfl)).trans (KeepsOthers.setCell _ _ _)
    have HK := Lib.hid hK
    have hO7 := HOWN6.out.kept (grownBy_setCell' w6 w.heap.size (.slice (some ⟨G, 0, none⟩) (pre.length + 1) cap)) (Or.inr (fun e => by cases e; exact absurd hGl (Nat.lt_irrefl _)))
    have HO7 := Lib.hid hO7
    clear b6 s6 g6 g7 hK hO7
    refine ⟨HK.out.from _, fun g => ⟨HG.out.p.kept G7.out ?_, HG.out.r.kept G7.out ?_, HP.out _ G7.out⟩, ?_⟩
    · intro e; cases e; have := HG.out.p; rcases HO.out.2 with ⟨e, _⟩ | ⟨g, c, cur, e, _, hgb, _⟩
      · cases e
      · cases e; have := this.symm.trans hgb; cases this
    · intro e; cases e; have := HG.out.r; rcases HO.out.2 with ⟨e, _⟩ | ⟨g, c, cur, e, _, hgb, _⟩
      · cases e
      · cases e; have := this.symm.trans hgb; cases this
    · have hl : (pre ++ [y]).length = pre.length + 1 := by simp
      have hm : ((pre ++ [y]).map fun x => rs ra rl rc x.i) = (pre.map fun x => rs ra rl rc x.i) ++ [.slice (ra y.i) (rl y.i) (rc y.i)] := by rw [List.map_append]; rfl
      refine ⟨?_, ?_, G7.out⟩
      · rw [hl]; exact S6.out
      · rw [hl]; show World.ownsRow _ _ _ _ _ _ ((pre ++ [y]).map fun x => rs ra rl rc x.i); rw [hm]; exact HO7.out
  case done =>
    rintro D ys W hD hys hI hK
    clear b0 o0 g0 hal
    have hl : ys.length = n := by have := congrArg List.length hys; rwa [List.length_map, List.length_range] at this
    have hm : (ys.map fun x => rs ra rl rc x.i) = (List.range n).map (rs ra rl rc) := by rw [← hys, List.map_map]; rfl
    have c0 := hI.box.cell
    have hO := hI.own
    rw [hl] at c0 hO
    rw [hm] at hO
    have HO7 := Lib.hid hO; have G7 := Lib.hid hI.gr
    have hGW := hI.lt
    clear hI hO hys hl hm
    gi_wp2
    refine ⟨by simp, .inl ⟨_, _, rfl, run_takeDeferred hK, ?_⟩⟩
    refine ⟨_, results_tmp rfl _ _ _, rfl, HO7.out.kept (grownBy_putObj' _ D _) (Or.inr (fun e => ?_)), grown_past G7.out (grownBy_putObj' _ D _) (fun i e => by cases e; simp at hD; omega)⟩
    cases e
    simp at hD; omega
  case stop =>
    rintro D c pre W _ _ h _
    exact h.elim
end Go.Proofs.YtkejabhjlflknaaGreat.Sp

namespace Go.Proofs.YtkejabhjlflknaaGreat.Sp
open Go.RowKit Go.Shelf
attribute [local go_sem] Oper.semAt_some

theorem bx_past {W : World} {b g i : Nat} {t : TypeId} {v u : Value} (h : Boxed W b t v) (hne : b ≠ g) : Boxed (W.setCell ⟨g, i, none⟩ u) b t v :=
  (heap_setCell_other W ⟨g, i, none⟩ b u hne).trans h
theorem heap_kp {X Y : World} {row : Option Nat} {k : Nat} {cs : Array Value} {t : TypeId} {z : Nat × Nat} (h : X.heap[k]? = some (.cells cs t z)) (hg : X.grownBy Y row) (hr : ∀ r, row = some r → ∃ o : Obj, X.heap[r]? = some o ∧ o.isCells = false) : Y.heap[k]? = some (.cells cs t z) :=
  (hg.block k (Array.getElem?_eq_some_iff.1 h).1 (fun e => by obtain ⟨o, ho, hc⟩ := hr k e.symm; rw [h] at ho; cases ho; cases hc)).trans h
/-- as rows are joined: the boxes of what is told, the width, the bytes, their place. -/
structure JoinS (w W : World) (L wi at_ : Nat) (h : Nat → Nat) (v4 : Value) (e5 : Int) : Prop where
  b4 : Boxed W w.heap.size 50 v4
  b5 : Boxed W (w.heap.size + 1) 28 (.int .i64 e5)
  b6 : Boxed W (w.heap.size + 1 + 1) 3 (.int .i64 (wi : Nat))
  bl : Bl W (w.heap.size + 1 + 1 + 1) L L h
  b8 : Boxed W (w.heap.size + 1 + 1 + 1 + 1) 50 (.slice (some ⟨w.heap.size + 1 + 1 + 1, 0, none⟩) L L)
  b9 : Boxed W (w.heap.size + 1 + 1 + 1 + 1 + 1) 3 (.int .i64 (at_ : Nat))
  be : Below w.heap.size w W
section
variable {w W W' : World} {L wi at_ : Nat} {h : Nat → Nat} {v4 : Value} {e5 : Int}
theorem JoinS.same (s : JoinS w W L wi at_ h v4 e5) (hB : Below W.heap.size W W') : JoinS w W' L wi at_ h v4 e5 :=
  ⟨(hB.block _ s.b4.lt).trans s.b4, (hB.block _ s.b5.lt).trans s.b5, (hB.block _ s.b6.lt).trans s.b6, s.bl.below hB s.bl.lt, (hB.block _ s.b8.lt).trans s.b8, (hB.block _ s.b9.lt).trans s.b9, s.be.trans (hB.mono s.be.size)⟩
theorem JoinS.kep {row : Option Nat} (s : JoinS w W L wi at_ h v4 e5) (hg : W.grownBy W' row) (hr : ∀ r, row = some r → w.heap.size ≤ r ∧ ∃ o : Obj, W.heap[r]? = some o ∧ o.isCells = false) : JoinS w W' L wi at_ h v4 e5 := by
  have hr' : ∀ r, row = some r → ∃ o : Obj, W.heap[r]? = some o ∧ o.isCells = false := fun r e => (hr r e).2
  obtain ⟨v, h1, h2, h3⟩ := s.bl
  exact ⟨heap_kp s.b4 hg hr', heap_kp s.b5 hg hr', heap_kp s.b6 hg hr', ⟨v, heap_kp h1 hg hr', h2, h3⟩, heap_kp s.b8 hg hr', heap_kp s.b9 hg hr', s.be.grown hg s.be.size (fun k e => (hr k e).1)⟩
theorem JoinS.setAt (s : JoinS w W L wi at_ h v4 e5) (v : Nat) : JoinS w (W.setCell ⟨w.heap.size + 1 + 1 + 1 + 1 + 1, 0, none⟩ (.int .i64 (v : Nat))) L wi v h v4 e5 :=
  ⟨bx_past s.b4 (by omega), bx_past s.b5 (by omega), bx_past s.b6 (by omega), s.bl.kept (heap_setCell_other W ⟨w.heap.size + 1 + 1 + 1 + 1 + 1, 0, none⟩ _ _ (by simp)), bx_past s.b8 (by omega), s.b9.set _, s.be.setCell (p := ⟨w.heap.size + 1 + 1 + 1 + 1 + 1, 0, none⟩) (by simp; omega) _⟩
theorem JoinS.copied {h' : Nat → Nat} (s : JoinS w W L wi at_ h v4 e5) (hg : W.grownBy W' (some (w.heap.size + 1 + 1 + 1))) (hb : Bl W' (w.heap.size + 1 + 1 + 1) L L h') : JoinS w W' L wi at_ h' v4 e5 :=
  ⟨s.b4.kept hg (by intro e; injection e; omega), s.b5.kept hg (by intro e; injection e; omega), s.b6.kept hg (by intro e; injection e; omega), hb, s.b8.kept hg (by intro e; injection e; omega), s.b9.kept hg (by intro e; injection e; omega), s.be.grown hg s.be.size (fun k e => by injection e; omega)⟩
theorem JoinS.told (s : JoinS w W L wi at_ h v4 e5) (v : Value) (e : Int) : JoinS w ((W.setCell ⟨w.heap.size, 0, none⟩ v).setCell ⟨w.heap.size + 1, 0, none⟩ (.int .i64 e)) L wi at_ h v e :=
  ⟨bx_past (s.b4.set v) (by omega), (bx_past s.b5 (by omega)).set _, bx_past (bx_past s.b6 (by omega)) (by omega), (s.bl.kept (heap_setCell_other W ⟨w.heap.size, 0, none⟩ _ _ (by simp; omega))).kept (heap_setCell_other _ ⟨w.heap.size + 1, 0, none⟩ _ _ (by simp; omega)), bx_past (bx_past s.b8 (by omega)) (by omega), bx_past (bx_past s.b9 (by omega)) (by omega), (s.be.setCell (p := ⟨w.heap.size, 0, none⟩) (Nat.le_refl _) _).setCell (p := ⟨w.heap.size + 1, 0, none⟩) (by simp) _⟩
theorem JoinS.congr {h' : Nat → Nat} (s : JoinS w W L wi at_ h v4 e5) (he : ∀ i, i < L → h i = h' i) : JoinS w W L wi at_ h' v4 e5 := ⟨s.b4, s.b5, s.b6, s.bl.congr he, s.b8, s.b9, s.be⟩
end
/-- which place comes at p. -/
def ixP {n : Nat} (pre : List (Tk n)) (p : Nat) : Nat := (pre.map Tk.i).getD p 0
/-- rows that are joined, one by one, as far as there is room. -/
def jpre {n : Nat} (f : Nat → Nat → Nat) (wi : Nat) (pre : List (Tk n)) (j : Nat) : Nat := if j < pre.length * wi then f (ixP pre (j / wi)) (j % wi) else 0
/-- rows that are joined. -/
def jn (f : Nat → Nat → Nat) (wi : Nat) (j : Nat) : Nat := f (j / wi) (j % wi)
theorem jpre_s {n : Nat} (f : Nat → Nat → Nat) (wi L : Nat) (pre : List (Tk n)) (y : Tk n) (j : Nat) (hj : j < L) :
    cpy (min (pre.length * wi) L) (min wi (L - min (pre.length * wi) L)) (f y.i) (jpre f wi pre) j = jpre f wi (pre ++ [y]) j := by
  unfold cpy jpre
  rw [List.length_append, List.length_singleton, Nat.add_mul, Nat.one_mul]
  by_cases c1 : j < pre.length * wi
  · rw [if_neg (by omega), if_pos c1, if_pos (by omega)]
    have hp : j / wi < pre.length := by
      rcases Nat.eq_zero_or_pos wi with e | e
      · subst e; omega
      · exact (Nat.div_lt_iff_lt_mul e).2 c1
    unfold ixP
    rw [List.map_append, List.getD_eq_getElem?_getD, List.getD_eq_getElem?_getD, List.getElem?_append_left (by rw [List.length_map]; exact hp)]
  · by_cases c2 : j < pre.length * wi + wi
    · rw [if_pos (by omega), if_pos c2]
      have hw : 0 < wi := by omega
      have hd : j = wi * pre.length + (j - pre.length * wi) := by rw [Nat.mul_comm]; omega
      have hlt : j - pre.length * wi < wi := by omega
      have e1 : j / wi = pre.length := by
        rw [hd, Nat.mul_add_div hw, Nat.div_eq_of_lt hlt, Nat.add_zero]
      have e2 : j % wi = j - pre.length * wi := by
        conv => lhs; rw [hd]
        rw [Nat.mul_add_mod, Nat.mod_eq_of_lt hlt]
      rw [e1, e2]
      unfold ixP
      rw [List.map_append, List.getD_eq_getElem?_getD, List.getElem?_append_right (by simp)]
      simp only [List.length_map, Nat.sub_self, List.map_cons, List.getElem?_cons_zero, Option.getD_some]
      rw [show min (pre.length * wi) L = pre.length * wi by omega]
    · rw [if_neg (by omega), if_neg c1, if_neg c2]
theorem jpre_all {n : Nat} (f : Nat → Nat → Nat) (wi L : Nat) (ys : List (Tk n)) (hys : ys.map Tk.i = List.range n) (hL : L ≤ n * wi) (j : Nat) (hj : j < L) : jpre f wi ys j = jn f wi j := by
  have hl : ys.length = n := by have := congrArg List.length hys; rwa [List.length_map, List.length_range] at this
  unfold jpre jn ixP
  have hjn : j < n * wi := by omega
  rw [hl, if_pos hjn, hys]
  have hw : 0 < wi := by rcases Nat.eq_zero_or_pos wi with e | e; subst e; omega; exact e
  have hd : j / wi < n := (Nat.div_lt_iff_lt_mul hw).2 hjn
  rw [List.getD_eq_getElem?_getD, List.getElem?_range hd]; rfl
theorem at_s (p wi L : Nat) : min (p * wi) L + min wi (L - min (p * wi) L) = min ((p + 1) * wi) L := by rw [Nat.add_mul, Nat.one_mul]; omega

theorem Rd.own {X Y : World} {row : Option Nat} {a : Option Addr} {n cap : Nat} {r : Nat → Option Addr} {l c : Nat → Nat} {f : Nat → Nat → Nat} (h : Rd X a n cap r l c f) (hg : X.grownBy Y row) (hr : ∀ k, row = some k → ∃ o : Obj, X.heap[k]? = some o ∧ o.isCells = false) : Rd Y a n cap r l c f :=
  ⟨h.capOk, h.maxOk, h.bm, h.nil, h.spot, fun ad e i hi => cell_kept (h.cell ad e i hi) hg hr, fun i hi => by
    have hs := h.row i hi
    exact ⟨hs.capOk, hs.maxOk, hs.bytes, hs.up, hs.nil, hs.spot, fun ad e j hj => cell_kept (hs.cell ad e j hj) hg hr⟩⟩
theorem asks_of (lb n cap : Nat) (a : Option Addr) (r : Nat → Option Addr) (l c : Nat → Nat) (f : Nat → Nat → Nat) : Asks 118 n #[.pointer (some ⟨lb, 0, none⟩)] (rs r l c) (fun W => Boxed W lb 22 (.slice a n cap) ∧ Rd W a n cap r l c f) :=
  ⟨fun _ _ => by kernel_rfl, fun W h j hj => (of1_any a n cap lb j r l c f hj W h.1.cell h.2).mono (fun e W' hh => ⟨hh.1, 0, hh.2⟩), fun X Y row h hg hr => ⟨heap_kp h.1 hg hr, Rd.own h.2 hg hr⟩⟩

theorem results_join {tmps : Array Value} {w : World} {p q : Nat} {a : Option Addr} {n c : Nat} {e : Int} (hp : tmps.getD 4 undef = .pointer (some ⟨p, 0, none⟩)) (hq : tmps.getD 5 undef = .pointer (some ⟨q, 0, none⟩)) (c1 : w.cell? ⟨p, 0, none⟩ = some (.slice a n c)) (c2 : w.cell? ⟨q, 0, none⟩ = some (.int .i64 e)) :
    (results Tryz.f67 tmps).run Tryz.prog w = .ok (.tuple #[.slice a n c, .int .i64 e]) w := by
  rw [Array.getD_eq_getD_getElem?] at hp hq
  simp [results, Tryz.f67, hp, hq, go_sem, c1, c2]
set_option maxHeartbeats 1000000 in
theorem join_bad (a : Option Addr) (n cap : Nat) (x : Int) (h : Bad x n) (w : World) :
    Calls Tryz.prog 67 #[.slice a n cap, .int .i64 x] w fun e w' => e = .returned (.tuple #[.slice none 0 0, .int .i64 2]) ∧ Below w.heap.size w w' := by
  have H := Lib.hid h; clear h
  go_enter Tryz.func67, Tryz.ntmps67
  go_wp2_with fail
  refine (width_bad x n H.out _).mono ?_
  rintro e w1 ⟨rfl, rfl⟩
  go_wp2
  refine bodyPost_ret (results_join rfl rfl (c1 := by first | rfl | simp [go_sem]) (c2 := by first | rfl | simp [go_sem])) rfl ⟨rfl, ?_⟩
  exact (((Below.refl _ _).alloc (Nat.le_refl _) _).alloc (by simp) _).alloc (by simp; omega) _
/-- what is joined: of rows that are as wide. -/
def JoinSays (w : World) (n wi L : Nat) (l : Nat → Nat) (f : Nat → Nat → Nat) (e : Ending) (w' : World) : Prop :=
  Below w.heap.size w w' ∧ ((e = .returned (.tuple #[.slice none 0 0, .int .i64 4]) ∧ ∃ i, i < n ∧ l i ≠ wi) ∨
    ((∀ i, i < n → l i = wi) ∧ ∃ g, e = .returned (.tuple #[.slice (some ⟨g, 0, none⟩) L L, .int .i64 0]) ∧ w.heap.size ≤ g ∧ Bl w' g L L (jn f wi)))
end Go.Proofs.YtkejabhjlflknaaGreat.Sp

namespace Go.Proofs.YtkejabhjlflknaaGreat.Sp
open Go.RowKit Go.Shelf
attribute [local go_sem] Oper.semAt_some

theorem hmkL (N : Nat) (hN : N ≤ 1000000000) : ∀ W : World, (Instr.makeSlice 22 (.int .i64 0) (.int .i64 (N : Nat))).run Tryz.prog W = .ok (.slice (some ⟨W.heap.size, 0, none⟩) 0 N) (W.alloc (.cells (madeCells #[.slice none 0 0] N) 50)) := fun W => by
  obtain ⟨i0, hi, hz0, hz1, hz2⟩ := info_parts (P := Tryz.prog) (e := 50) (z := .slice none 0 0) (size := 1) (bytes := 24) (by kernel_rfl)
  have := run_make (P := Tryz.prog) W 22 50 i0 (.slice none 0 0) Tryz.underlying22 hi hz0 .i64 .i64 (0 : Int) (N : Int) (by omega) (by omega) (by rw [hz2]; omega) (by omega)
  have e : (Value.slice none 0 0).cells = #[.slice none 0 0] := rfl
  rw [hz1, e, Int.toNat_natCast, Nat.mul_one] at this; exact this
/-- what is cut: the list, of which the rows are parts, and the list of these. -/
def CutFin (w : World) (f : Nat → Nat) (n k wi G : Nat) (w' : World) : Prop :=
  ∃ g, w.heap.size ≤ G ∧ w.heap.size ≤ g ∧ G ≠ g ∧ Below w.heap.size w w' ∧ Bl w' g (k * wi) (k * wi) (cpy 0 n f fun _ => 0) ∧
    w'.ownsRow w.heap.size 50 1 (.slice (some ⟨G, 0, none⟩) k k) k ((List.range k).map (part g wi))
def CutSays (w : World) (f : Nat → Nat) (n k : Nat) (e : Ending) (w' : World) : Prop :=
  ∃ G, e = .returned (.tuple #[.slice (some ⟨G, 0, none⟩) k k, .int .i64 0]) ∧ CutFin w f n k (wid n k) G w'
theorem asks_within (bw bl n wi g : Nat) (hn : n ≤ 1000000) (hs : n * wi ≤ 1000000) : Asks 101 n #[.pointer (some ⟨bw, 0, none⟩), .pointer (some ⟨bl, 0, none⟩)] (rs (fun i => some ⟨g, i * wi, none⟩) (fun _ => wi) fun _ => wi)
    (fun W => Boxed W bw 3 (.int .i64 (wi : Nat)) ∧ Boxed W bl 50 (.slice (some ⟨g, 0, none⟩) (n * wi) (n * wi))) :=
  ⟨fun _ _ => by kernel_rfl, fun W h j hj => within1_any bw bl n wi g j hj hn hs W h.1 h.2, fun X Y row h hg hr => by
    have hne : ∀ (j : Nat) (cs : Array Value) (t : TypeId) (z : Nat × Nat), X.heap[j]? = some (.cells cs t z) → some j ≠ row := fun j cs t z hj e => by
      obtain ⟨o, ho, hc⟩ := hr j e.symm
      rw [hj] at ho; cases ho; cases hc
    exact ⟨h.1.kept hg (hne _ _ _ _ h.1), h.2.kept hg (hne _ _ _ _ h.2)⟩⟩
theorem cut_end (w1 w5 w9 : World) (f : Nat → Nat) (g G bl bw bp br n k wi T : Nat) (hT : T = k * wi) (hk : k ≤ 1000000) (hs : T ≤ 1000000) (hB5 : Below w1.heap.size w1 w5) (hg : w1.heap.size ≤ g) (hBL : Bl w5 g T T (cpy 0 n f fun _ => 0)) (hB9 : Below w5.heap.size w5 w9) (hG : w5.heap.size ≤ G)
    (hl : Boxed w9 bl 50 (.slice (some ⟨g, 0, none⟩) T T)) (hw : Boxed w9 bw 3 (.int .i64 (wi : Nat))) (hp : Boxed w9 bp 3 (.int .i64 (k : Nat)))
    (hr : Boxed w9 br 130 (.func (.func 101) #[] #[.pointer (some ⟨bw, 0, none⟩), .pointer (some ⟨bl, 0, none⟩)])) (hm : w9.heap[G]? = some (.cells (madeCells #[.slice none 0 0] k) 50 (0, 0))) (nl : bl ≠ G) :
    Calls Tryz.prog 71 #[.slice (some ⟨G, 0, none⟩) 0 k, .func (.func 100) #[] #[.pointer (some ⟨bp, 0, none⟩), .pointer (some ⟨br, 0, none⟩)]] w9 fun e w' => e = .returned (.slice (some ⟨G, 0, none⟩) k k) ∧ CutFin w1 f n k wi G w' := by
  subst hT
  have hs5 := hB5.size
  have ho : w9.ownsRow w1.heap.size 50 1 (.slice (some ⟨G, 0, none⟩) 0 k) 0 [] :=
    ⟨rfl, .inr ⟨G, k, _, rfl, by omega, hm, Nat.zero_le _, by unfold maxLen; omega, by rw [size_madeCells, Nat.mul_one], by simp⟩⟩
  have hne : ∀ (j : Nat) (v : Value) (t : TypeId), t ≠ 50 → Boxed w9 j t v → j ≠ G := fun j v t ht hb e => by
    subst e
    have := hm.symm.trans hb
    simp only [Option.some.injEq, Obj.cells.injEq] at this
    exact ht this.2.1.symm
  have hgl := hBL.lt
  refine (appendSeq_any w1.heap.size G k bp br _ k _ (fun i => some ⟨g, i * wi, none⟩) (fun _ => wi) (fun _ => wi) _ (asks_within bw bl k wi g hk hs) (by omega) (Nat.le_refl _) w9 ⟨hp, hr, hw, hl⟩ ho (fun W hW => ⟨hw.kept hW (fun e => hne bw _ _ (by decide) hw (by cases e; rfl)), hl.kept hW (fun e => nl (by cases e; rfl))⟩)).mono ?_
  rintro e w' ⟨rfl, h1, h2⟩
  exact ⟨rfl, g, by omega, hg, by omega, (hB5.trans (hB9.mono hB5.size)).grown h2 (Nat.le_trans hB5.size hB9.size) (fun j e => by cases e; omega), hBL.kept ((h2.block g (Nat.lt_of_lt_of_le hgl hB9.size) (fun e => by cases e; omega)).trans (hB9.block g hgl)), h1⟩

theorem cut_endX (w1 w5 A w6 B w7 W9 : World) (f : Nat → Nat) (g G n0 nb n k wi T : Nat) (hT : T = k * wi) (hk : k ≤ 1000000) (hs : T ≤ 1000000) (hB5 : Below w1.heap.size w1 w5) (hg : w1.heap.size ≤ g) (hBL : Bl w5 g T T (cpy 0 n f fun _ => 0))
    (hA : Below w5.heap.size w5 A) (h6 : w6 = (A.alloc (.cells #[.slice (some ⟨g, 0, none⟩) T T] 50)).alloc (.cells #[.int .i64 (wi : Nat)] 3)) (h0 : n0 = A.heap.size) (hB : Below w6.heap.size w6 B)
    (h7 : w7 = (B.alloc (.cells #[.int .i64 (k : Nat)] 3)).alloc (.cells #[.func (.func 101) #[] #[.pointer (some ⟨n0 + 1, 0, none⟩), .pointer (some ⟨n0, 0, none⟩)]] 130)) (hb : nb = B.heap.size) (h9 : Below w7.heap.size w7 W9) (hG : w5.heap.size ≤ G)
    (hm : A.heap[G]? = some (.cells (madeCells #[.slice none 0 0] k) 50 (0, 0)) ∨ B.heap[G]? = some (.cells (madeCells #[.slice none 0 0] k) 50 (0, 0)) ∨ W9.heap[G]? = some (.cells (madeCells #[.slice none 0 0] k) 50 (0, 0))) :
    Calls Tryz.prog 71 #[.slice (some ⟨G, 0, none⟩) 0 k, .func (.func 100) #[] #[.pointer (some ⟨nb, 0, none⟩), .pointer (some ⟨nb + 1, 0, none⟩)]] W9 fun e w' => e = .returned (.slice (some ⟨G, 0, none⟩) k k) ∧ CutFin w1 f n k wi G w' := by
  subst h0 hb
  have hA6 : Below A.heap.size A w6 := by rw [h6]; exact ((Below.refl _ A).alloc (Nat.le_refl _) _).alloc (by rw [World.size_alloc]; omega) _
  have hB7 : Below B.heap.size B w7 := by rw [h7]; exact ((Below.refl _ B).alloc (Nat.le_refl _) _).alloc (by rw [World.size_alloc]; omega) _
  have l6 : Boxed w6 A.heap.size 50 (.slice (some ⟨g, 0, none⟩) T T) := by rw [h6]; exact (Boxed.new A 50 (.slice (some ⟨g, 0, none⟩) T T)).alloc _
  have k6 : Boxed w6 (A.heap.size + 1) 3 (.int .i64 (wi : Nat)) := by
    have := Boxed.new (A.alloc (.cells #[.slice (some ⟨g, 0, none⟩) T T] 50)) 3 (.int .i64 (wi : Nat))
    rw [World.size_alloc] at this; rw [h6]; exact this
  have p7 : Boxed w7 B.heap.size 3 (.int .i64 (k : Nat)) := by rw [h7]; exact (Boxed.new B 3 (.int .i64 (k : Nat))).alloc _
  have r7 : Boxed w7 (B.heap.size + 1) 130 (.func (.func 101) #[] #[.pointer (some ⟨A.heap.size + 1, 0, none⟩), .pointer (some ⟨A.heap.size, 0, none⟩)]) := by
    have := Boxed.new (B.alloc (.cells #[.int .i64 (k : Nat)] 3)) 130 (.func (.func 101) #[] #[.pointer (some ⟨A.heap.size + 1, 0, none⟩), .pointer (some ⟨A.heap.size, 0, none⟩)])
    rw [World.size_alloc] at this; rw [h7]; exact this
  have h69 : Below w6.heap.size w6 W9 := (hB.trans (hB7.mono hB.size)).trans (h9.mono (Nat.le_trans hB.size hB7.size))
  have h59 : Below w5.heap.size w5 W9 := (hA.trans (hA6.mono hA.size)).trans (h69.mono (Nat.le_trans hA.size hA6.size))
  have l9 : Boxed W9 A.heap.size 50 _ := (h69.block _ l6.lt).trans l6
  have k9 : Boxed W9 (A.heap.size + 1) 3 _ := (h69.block _ k6.lt).trans k6
  have p9 : Boxed W9 B.heap.size 3 _ := (h9.block _ p7.lt).trans p7
  have r9 : Boxed W9 (B.heap.size + 1) 130 _ := (h9.block _ r7.lt).trans r7
  have m9 : W9.heap[G]? = some (.cells (madeCells #[.slice none 0 0] k) 50 (0, 0)) := by
    rcases hm with h | h | h
    · have hl := (Array.getElem?_eq_some_iff.1 h).1
      exact (h69.block G (Nat.lt_of_lt_of_le hl hA6.size)).trans ((hA6.block G hl).trans h)
    · have hl := (Array.getElem?_eq_some_iff.1 h).1
      exact (h9.block G (Nat.lt_of_lt_of_le hl hB7.size)).trans ((hB7.block G hl).trans h)
    · exact h
  have nl : A.heap.size ≠ G := fun e => by
    have h := m9.symm.trans (e ▸ l9)
    simp only [Option.some.injEq, Obj.cells.injEq] at h
    have h1 := congrArg Array.toList h.1
    rw [toList_madeCells_one] at h1
    have h2 : Value.slice (some ⟨g, 0, none⟩) T T ∈ List.replicate k (Value.slice none 0 0) := by rw [h1]; exact List.mem_singleton.2 rfl
    have h3 := List.eq_of_mem_replicate h2
    cases h3
  exact cut_end w1 w5 W9 f g G A.heap.size (A.heap.size + 1) _ _ n k wi T hT hk hs hB5 hg hBL h59 hG l9 k9 p9 r9 m9 nl

set_option maxHeartbeats 1000000 in
theorem cut_bad (a : Option Addr) (n cap : Nat) (k : Int) (h : Bad n k) (w : World) :
    Calls Tryz.prog 56 #[.slice a n cap, .int .i64 k] w fun e w' => e = .returned (.tuple #[.slice none 0 0, .int .i64 2]) ∧ w' = w := by
  have H := Lib.hid h; clear h
  go_enter Tryz.func56, Tryz.ntmps56
  go_wp2_with fail
  refine (width_bad n k H.out _).mono ?_
  rintro e w1 ⟨rfl, rfl⟩
  go_wp2
  go_ret2
  exact ⟨rfl, rfl⟩

end Go.Proofs.YtkejabhjlflknaaGreat.Sp

namespace Go.Proofs.YtkejabhjlflknaaGreat.Sp
open Go.RowKit Go.Shelf
attribute [local go_sem] Oper.semAt_some

set_option maxHeartbeats 4000000 in
set_option maxRecDepth 100000 in
theorem cut_ok (a : Option Addr) (n cap k : Nat) (f : Nat → Nat) (hn : n ≤ 65535) (hk1 : 1 ≤ k) (hk2 : k ≤ 255) (w : World) (hS : Sl w a n cap f) :
    Calls Tryz.prog 56 #[.slice a n cap, .int .i64 (k : Nat)] w (CutSays w f n k) := by
  have hlo := wid_lo (L := n) hk1
  have hhi := wid_hi (L := n) hk1
  have hle := wid_le (L := n) hk1
  have hm : (k : Int) * ((wid n k : Nat) : Int) = ((k * wid n k : Nat) : Int) := by rw [Int.natCast_mul]
  have hb65 : k * wid n k ≤ 66000 := by omega
  obtain ⟨T, hT⟩ : ∃ T, T = k * wid n k := ⟨_, rfl⟩
  obtain ⟨wi, hwi⟩ : ∃ wi, wi = wid n k := ⟨_, rfl⟩
  rw [← hT] at hm hb65 hlo hhi
  rw [← hwi] at hm hle
  have hmk := hmk8 T (by omega)
  have HS := Lib.hid hS; have HT := Lib.hid hT; have HWI := Lib.hid hwi; have HLO := Lib.hid hlo; have HHI := Lib.hid hhi
  clear hS hT hwi hlo hhi
  go_enter Tryz.func56, Tryz.ntmps56
  go_wp2_with fail
  refine (width_ok n k hn hk1 hk2 _).mono ?_
  rw [← HWI.out]
  rintro e w1 ⟨rfl, rfl⟩
  have hz := Lib.hid (bl_made w1 T)
  have hsa := Lib.hid (HS.out.same ((Below.refl _ w1).alloc (Nat.le_refl _) (.cells (madeCells #[.int .u8 0] T) 5)))
  go_upto_region 6 with ((refine wpList_copy_bl (o := ⟨some 25, _, _, _, _, _⟩) rfl (.tmp 23) (.tmp 24) 50 50 rfl 5 Tryz.underlying50 Tryz.sizeU8 _ _ _ _ _ _ n rfl rfl ?_ w1.heap.size 0 T T _ _ hz.out (fun _ => hsa.out) (fun _ => rfl) ?_ (Nat.le_refl _) ?_))
  · exact (Nat.min_eq_left HHI.out).symm
  · have := HHI.out; omega
  intro w5 HBL HGR
  have HBe := Lib.hid ((((Below.refl _ w1).alloc (Nat.le_refl _) _).grown HGR.out (by simp) (fun j e => by cases e; exact Nat.le_refl _)) : Below w1.heap.size w1 w5)
  obtain ⟨g, hg⟩ : ∃ g, g = w1.heap.size := ⟨_, rfl⟩
  rw [← hg] at HBL ⊢
  have HGE := Lib.hid (show w1.heap.size ≤ g from Nat.le_of_eq hg.symm)
  clear hg HGR hz hsa hmk hm HS
  have hmr := hmkL k (by omega)
  go_wp2_with fail
  have HK2 := Lib.hid (show k ≤ 1000000 by omega)
  have HTW := Lib.hid (show T = k * wi by rw [HT.out, HWI.out])
  have HFN := Lib.hid (show ∀ G w', CutFin w1 f n k wi G w' → CutSays w1 f n k (.returned (.tuple #[.slice (some ⟨G, 0, none⟩) k k, .int .i64 0])) w' from fun G w' h => ⟨G, rfl, by rw [← HWI.out]; exact h⟩)
  go_region_with (first | (go_at_call 73; refine (within_any _ _ _ _).mono ?_; rintro e w6 ⟨rfl, hw6⟩; have HW6 := Lib.hid hw6; clear hw6) | (go_at_call 72; refine (told_any _ _ _ _).mono ?_; rintro e w7 ⟨rfl, hw7⟩; have HW7 := Lib.hid hw7; clear hw7) | (go_at_call 71; refine (cut_endX w1 w5 _ w6 _ w7 _ f g _ _ _ n k wi T HTW.out HK2.out (by omega) HBe.out HGE.out HBL.out (by first | exact Below.refl _ _ | exact (Below.refl _ _).drew | exact (Below.refl _ _).alloc (Nat.le_refl _) _ | exact ((Below.refl _ _).alloc (Nat.le_refl _) _).drew) HW6.out (by first | rfl | simp) (by first | exact Below.refl _ _ | exact (Below.refl _ _).drew | exact (Below.refl _ _).alloc (Nat.le_refl _) _ | exact ((Below.refl _ _).alloc (Nat.le_refl _) _).drew) HW7.out (by first | rfl | simp) (by first | exact Below.refl _ _ | exact (Below.refl _ _).drew | exact (Below.refl _ _).alloc (Nat.le_refl _) _ | exact ((Below.refl _ _).alloc (Nat.le_refl _) _).drew) ?_ (by first | exact .inl (heap_alloc_new _ _) | exact .inr (.inl (heap_alloc_new _ _)) | exact .inr (.inr (heap_alloc_new _ _)))).mono ?_; (have := congrArg (fun x : World => x.heap.size) HW6.out; have h2 := congrArg (fun x : World => x.heap.size) HW7.out; simp at this h2; omega); rintro e w8 ⟨rfl, hfin⟩; have HFIN := Lib.hid (HFN.out _ _ hfin); clear hfin))
  all_goals
    go_wp2
    go_ret2
    exact HFIN.out
end Go.Proofs.YtkejabhjlflknaaGreat.Sp
