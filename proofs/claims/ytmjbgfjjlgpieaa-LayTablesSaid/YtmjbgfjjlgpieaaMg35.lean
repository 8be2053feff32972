import Derived.BigQuiet
import Derived.Test.YtmjbgfjjlgpieaaMg14
import Derived.Test.YtmjbgfjjlgpieaaMg21
import Derived.Test.YtmjbgfjjlgpieaaMg23
namespace Go.Proofs.Ytmjbgfjjlgpieaa.Sp
open Go.RowKit Go.Shelf
attribute [local go_sem] Oper.semAt_some

/-- the parts of one list, as they are asked, and told. -/
structure Tw (W : World) (bp br bw bl n wi g : Nat) : Prop where
  p : Boxed W bp 3 (.int .i64 (n : Nat))
  r : Boxed W br 91 (.func (.func 61) #[] #[.pointer (some ⟨bw, 0, none⟩), .pointer (some ⟨bl, 0, none⟩)])
  w : Boxed W bw 3 (.int .i64 (wi : Nat))
  l : Boxed W bl 37 (.slice (some ⟨g, 0, none⟩) (n * wi) (n * wi))
/-- the row at a place. -/
def part (g wi i : Nat) : Value := .slice (some ⟨g, i * wi, none⟩) wi wi

theorem slice_part (g T l wi : Nat) (h : l + wi ≤ T) (W : World) :
    (Instr.slice 37 (.slice (some ⟨g, 0, none⟩) T T) (some (.int .i64 (l : Nat))) (some (.int .i64 (l + wi : Nat))) (some (.int .i64 (l + wi : Nat)))).run Try.prog W = .ok (.slice (cutA (some ⟨g, 0, none⟩) l (l + wi)) wi wi) W := by
  rw [run_slice_lhm (P := Try.prog) W 37 _ T T und8 .i64 .i64 .i64 l (l + wi : Nat) (l + wi : Nat) (by omega) (by omega) (by omega) (by omega), size8]
  have e : (((l + wi : Nat) : Int)).toNat = l + wi := Int.toNat_natCast _
  simp only [Result.andThen, sliced, cutA, e, Int.toNat_natCast, Nat.mul_one, Nat.add_sub_cancel_left]
theorem wrap_nat {x : Nat} (h : x ≤ 1000000) : wrap64 (x : Int) = (x : Int) := by unfold wrap64; omega
set_option maxHeartbeats 1000000 in
theorem within1_any (bw bl n wi g : Nat) (j : Nat) (hj : j < n) (hn : n ≤ 1000000) (hs : n * wi ≤ 1000000) (W : World) (hw : Boxed W bw 3 (.int .i64 (wi : Nat))) (hl : Boxed W bl 37 (.slice (some ⟨g, 0, none⟩) (n * wi) (n * wi))) :
    Calls Try.prog 61 #[.int .i64 (j : Nat), .pointer (some ⟨bw, 0, none⟩), .pointer (some ⟨bl, 0, none⟩)] W fun e W' => e = .returned (part g wi j) ∧ ∃ q, W' = W.drewN q := by
  have c1 := hw.cell
  have c2 := fun q => (show (W.drewN q).cell? ⟨bl, 0, none⟩ = _ from hl.cell)
  have h1 : j * wi + wi ≤ n * wi := by
    have := Nat.mul_le_mul_right wi (show j + 1 ≤ n from hj)
    rwa [Nat.add_mul, Nat.one_mul] at this
  have m1 : (j : Int) * (wi : Int) = ((j * wi : Nat) : Int) := by rw [Int.natCast_mul]
  have m2 : ((j : Int) + 1) * (wi : Int) = ((j * wi + wi : Nat) : Int) := by rw [Int.add_mul, m1]; omega
  have m0 : wrap64 ((j : Int) + 1) = (j : Int) + 1 := by unfold wrap64; omega
  have hp : part g wi j = .slice (cutA (some ⟨g, 0, none⟩) (j * wi) (j * wi + wi)) wi wi := by
    unfold part cutA
    rcases Nat.eq_zero_or_pos wi with h | h
    · rw [h, Nat.mul_zero, if_pos rfl]
    · rw [if_neg (by omega), Option.map_some, Addr.add_lit, Nat.zero_add]
  rw [hp]
  clear hp hw hl
  generalize hjw : j * wi = jw at *
  generalize hT : n * wi = T at *
  have hsl := fun W => slice_part g T jw wi h1 W
  obtain ⟨u, hu⟩ : ∃ u, u = jw + wi := ⟨_, rfl⟩
  rw [← hu] at hsl m2 ⊢
  have b1 : jw ≤ u := by rw [hu]; exact Nat.le_add_right _ _
  have b2 : u ≤ T := by rw [hu]; exact h1
  have m3 := wrap_nat (Nat.le_trans b2 hs)
  have M4 := Lib.hid (wrap_nat (Nat.le_trans b1 (Nat.le_trans b2 hs)))
  have HH := Lib.hid hsl; have M0 := Lib.hid m0; have M2 := Lib.hid m2; have M3 := Lib.hid m3
  clear hu hjw hT hsl m0 m2 m3 h1 b1 b2
  go_enter Try.func61, Try.ntmps61
  go_wp2_with fail
  go_quiet (fail)
  have hsl := HH.out
  have c3 := c2 nq
  simp only [M2.out, M3.out, M4.out]


  go_wp2
  go_ret
  exact ⟨rfl, nq, rfl⟩

set_option maxHeartbeats 1000000 in
theorem within_any (g T wi : Nat) (w : World) :
    Calls Try.prog 48 #[.slice (some ⟨g, 0, none⟩) T T, .int .i64 (wi : Nat)] w fun e w' => e = .returned (.func (.func 61) #[] #[.pointer (some ⟨w.heap.size + 1, 0, none⟩), .pointer (some ⟨w.heap.size, 0, none⟩)]) ∧ w' = (w.alloc (.cells #[.slice (some ⟨g, 0, none⟩) T T] 37)).alloc (.cells #[.int .i64 (wi : Nat)] 3) := by
  have hmf : ∀ (fn : Fn) (first cap : Array Value) (w : World), (Instr.makeFunc fn first cap).run Try.prog w = .ok (.func fn first cap) w := fun _ _ _ _ => rfl
  go_enter Try.func48, Try.ntmps48
  go_wp2
  go_ret
  exact ⟨rfl, rfl⟩
set_option maxHeartbeats 400000 in
theorem of1_any (a : Option Addr) (n cap lb k : Nat) (r : Nat → Option Addr) (l c : Nat → Nat) (f : Nat → Nat → Nat) (hk : k < n) (w : World) (hb : w.cell? ⟨lb, 0, none⟩ = some (.slice a n cap)) (hR : Rd w a n cap r l c f) :
    Calls Try.prog 67 #[.int .i64 (k : Nat), .pointer (some ⟨lb, 0, none⟩)] w fun e w' => e = .returned (.slice (r k) (l k) (c k)) ∧ w' = w := by
  obtain ⟨b, o, ea, hc⟩ := hR.at_ hk
  have i1 : (k : Int) < (n : Int) := by omega
  subst ea
  clear hR
  go_enter Try.func67, Try.ntmps67
  go_wp2
  go_ret
  exact ⟨rfl, rfl⟩
set_option maxHeartbeats 400000 in
theorem of_any (a : Option Addr) (n cap : Nat) (w : World) :
    Calls Try.prog 56 #[.slice a n cap] w fun e w' => e = .returned (.func (.func 67) #[] #[.pointer (some ⟨w.heap.size, 0, none⟩)]) ∧ w' = w.alloc (.cells #[.slice a n cap] 32) := by
  have hmf : ∀ (fn : Fn) (first cap : Array Value) (w : World), (Instr.makeFunc fn first cap).run Try.prog w = .ok (.func fn first cap) w := fun _ _ _ _ => rfl
  go_enter Try.func56, Try.ntmps56
  go_wp2
  go_ret
  exact ⟨rfl, rfl⟩
set_option maxHeartbeats 400000 in
theorem told_any (n cf : Nat) (caps : Array Value) (w : World) :
    Calls Try.prog 47 #[.int .i64 (n : Nat), .func (.func cf) #[] caps] w fun e w' => e = .returned (.func (.func 60) #[] #[.pointer (some ⟨w.heap.size, 0, none⟩), .pointer (some ⟨w.heap.size + 1, 0, none⟩)]) ∧ w' = (w.alloc (.cells #[.int .i64 (n : Nat)] 3)).alloc (.cells #[.func (.func cf) #[] caps] 91) := by
  have hmf : ∀ (fn : Fn) (first cap : Array Value) (w : World), (Instr.makeFunc fn first cap).run Try.prog w = .ok (.func fn first cap) w := fun _ _ _ _ => rfl
  go_enter Try.func47, Try.ntmps47
  go_wp2
  go_ret
  exact ⟨rfl, rfl⟩
end Go.Proofs.Ytmjbgfjjlgpieaa.Sp

namespace Go.Proofs.Ytmjbgfjjlgpieaa.Sp
open Go.RowKit Go.Shelf
attribute [local go_sem] Oper.semAt_some

/-- one of those that are told: its place. -/
structure Tk (n : Nat) where
  i : Nat
  hi : i < n
/-- what asks: a closure that answers of each place. -/
structure Asks (cf n : Nat) (caps : Array Value) (rv : Nat → Value) (Pw : World → Prop) : Prop where
  ent : ∀ (args : Array Value) (W : World), (callFunc cf args).run Try.prog W = .ok (.enter cf args) W
  call : ∀ W, Pw W → ∀ j : Nat, j < n → Calls Try.prog cf (#[.int .i64 (j : Nat)] ++ caps) W fun e W' => e = .returned (rv j) ∧ ∃ q, W' = W.drewN q
  own : ∀ X Y row, Pw X → X.grownBy Y row → (∀ r, row = some r → ∃ o : Obj, X.heap[r]? = some o ∧ o.isCells = false) → Pw Y
theorem grown_dr (W : World) (q : Nat) (row : Option Nat) : W.grownBy (W.drewN q) row := ⟨rfl, rfl, rfl, Nat.le_refl _, fun _ _ _ => rfl⟩
theorem Asks.drawn {cf n : Nat} {caps : Array Value} {rv : Nat → Value} {Pw : World → Prop} (h : Asks cf n caps rv Pw) (W : World) (q : Nat) (hp : Pw W) : Pw (W.drewN q) := h.own W _ none hp (grown_dr W q none) (fun _ e => by cases e)
/-- what told's function reads. -/
structure Gt (bp br cf n : Nat) (caps : Array Value) (Pw : World → Prop) (W : World) : Prop where
  p : Boxed W bp 3 (.int .i64 (n : Nat))
  r : Boxed W br 91 (.func (.func cf) #[] caps)
  s : Pw W
def KpT (bp br cf n : Nat) (caps : Array Value) (Pw : World → Prop) (W W' : World) : Prop := Gt bp br cf n caps Pw W → Gt bp br cf n caps Pw W'
theorem kpT_t {bp br cf n : Nat} {caps : Array Value} {Pw : World → Prop} {A B C : World} (h : KpT bp br cf n caps Pw A B) (k : KpT bp br cf n caps Pw B C) : KpT bp br cf n caps Pw A C := fun g => k (h g)
theorem Gt.drewN {bp br cf n : Nat} {caps : Array Value} {Pw : World → Prop} {W : World} (g : Gt bp br cf n caps Pw W) (hd : ∀ W q, Pw W → Pw (W.drewN q)) (q : Nat) : Gt bp br cf n caps Pw (W.drewN q) := ⟨g.p, g.r, hd W q g.s⟩

set_option maxRecDepth 100000 in
set_option maxHeartbeats 2000000 in
/-- told's function. -/
theorem told1_in (m : Nat) (l bp br cf n : Nat) (caps : Array Value) (rv : Nat → Value) (Pw : World → Prop) (hA : Asks cf n caps rv Pw) (hn : n ≤ 1000000000000) (J Jx : List (Tk n) → World → Prop)
    (hJ : ∀ s W q, J s W → J s (W.drewN q))
    (hY : ∀ pre x W, J pre W → pre.length < n → YieldAt Fence.wide (m - 1) Try.prog l #[rv x.i] W fun e W' =>
      (e = .returned (.bool true) ∧ J (pre ++ [x]) W' ∧ KpT bp br cf n caps Pw W W') ∨ (e = .returned (.bool false) ∧ Jx (pre ++ [x]) W'))
    (W : World) (hG : Gt bp br cf n caps Pw W) (h0 : J [] W) :
    CallsIn Fence.wide m Try.prog 60 #[.func (.yield l) #[] #[], .pointer (some ⟨bp, 0, none⟩), .pointer (some ⟨br, 0, none⟩)] W fun e W' => (∃ v, e = .returned v) ∧
      ((∃ ys : List (Tk n), ys.map Tk.i = List.range n ∧ J ys W') ∨ (∃ pre : List (Tk n), (∃ k, k ≤ n ∧ pre.map Tk.i = List.range k) ∧ Jx pre W')) := by
  have hW : ∀ k, Fence.wide.fn k := fun _ => trivial
  have hD : Fence.wide.depth = none := rfl
  have hb0 := hG.p.cell
  have HG := Lib.hid hG; clear hG
  have hent := hA.ent
  have HA := Lib.hid hA; clear hA
  refine callsIn_of_wp Try.func60 rfl trivial ?_ rfl
  simp only [Try.ntmps60, List.size_toArray, List.length_cons, List.length_nil, Nat.reduceAdd, Nat.reduceSub, Array.replicate_succ, Array.replicate_zero, List.push_toArray, List.append_toArray, List.nil_append, List.cons_append]
  gi_wp2
  gi_loopw [6] (fun i wr => ∃ k : Nat, k ≤ n ∧ i = .int .i64 (k : Nat) ∧ (∃ pre : List (Tk n), pre.map Tk.i = List.range k ∧ J pre wr) ∧ Gt bp br cf n caps Pw wr)
    (fun i _ => n - (intOf i).toNat)
  case atStart => exact ⟨0, Nat.zero_le _, rfl, ⟨[], rfl, h0⟩, HG.out⟩
  case round =>
    rename_i wr
    obtain ⟨k, hk1, rfl, ⟨pre, hp, hJs⟩, hG⟩ := hrel
    have hP := Lib.hid hp
    have hlen : pre.length = k := by have := congrArg List.length hp; rwa [List.length_map, List.length_range] at this
    clear hp hb0
    by_cases hkn : k < n
    · have i1 : (k : Int) < (n : Int) := by omega
      have hb1 := hG.r.cell
      have HG1 := Lib.hid hG
      have HJ := Lib.hid hJs
      have HL := Lib.hid hlen
      clear hG hlen hJs
      gi_wp2_with fail
      refine (callsIn_wide.2 (HA.out.call _ HG1.out.s k hkn)).mono ?_
      rintro e W2 ⟨rfl, q, rfl⟩
      obtain ⟨fn, tmps, assign, body, hy, hR⟩ := hY pre ⟨k, hkn⟩ (wr.drewN q) (hJ _ _ _ HJ.out) (by have := HL.out; omega)
      dsimp only at hy
      gi_wp2
      refine hR.mono ?_
      rintro e W3 (⟨rfl, hJ3, hk3⟩ | ⟨rfl, hJx3⟩)
      · have HG3 := Lib.hid (hk3 (HG1.out.drewN HA.out.drawn q))
        gi_wp2
        go_roundw
        case rel => exact ⟨k + 1, by omega, by go_num, ⟨_, by rw [List.range_succ, List.map_append, hP.out]; rfl, hJ3⟩, HG3.out⟩
        case measure => simp [intOf]; omega
      · gi_wp2
        refine bodyPost_ret (results_none rfl _ _ _) rfl ?_
        exact ⟨⟨_, rfl⟩, .inr ⟨_, ⟨k + 1, by omega, by rw [List.range_succ, List.map_append, hP.out]; rfl⟩, hJx3⟩⟩
    · obtain rfl : k = n := by omega
      have i1 : ¬ (k : Int) < (k : Int) := by omega
      gi_wp2
      go_end0
      exact ⟨⟨_, rfl⟩, .inl ⟨pre, hP.out, hJs⟩⟩

/-- told's value. -/
theorem told_stops (m bp br cf n : Nat) (caps : Array Value) (rv : Nat → Value) (Pw : World → Prop) (hA : Asks cf n caps rv Pw) (hn : n ≤ 1000000000000) (w : World) (hG : Gt bp br cf n caps Pw w) :
    SeqStopsK Fence.wide m Try.prog 60 #[.pointer (some ⟨bp, 0, none⟩), .pointer (some ⟨br, 0, none⟩)] (fun x : Tk n => #[rv x.i]) (KpT bp br cf n caps Pw) (fun ys => ys.map Tk.i = List.range n) (fun pre => ∃ k, k ≤ n ∧ pre.map Tk.i = List.range k) n w := fun l J Jx W hW hJ _ hY h0 =>
  told1_in m l bp br cf n caps rv Pw hA hn J Jx (fun s W' q hs => hJ s _ _ none hs (grown_dr W' q none) (fun _ e => by cases e)) hY W
    ⟨(hW.block bp hG.p.lt).trans hG.p, (hW.block br hG.r.lt).trans hG.r, hA.own w W none hG.s ⟨hW.os, hW.tape, hW.output, hW.size, fun k hk _ => hW.block k hk⟩ (fun _ e => by cases e)⟩ h0
theorem kpT_b {bp br cf n : Nat} {caps : Array Value} {rv : Nat → Value} {Pw : World → Prop} (hA : Asks cf n caps rv Pw) {w : World} (W : World) (l : Nat) (o o' : Obj) (_ : w.heap.size ≤ l) (h : W.heap[l]? = some o) (hc : o.isCells = false) (_ : o.isWalk = false) : KpT bp br cf n caps Pw W (W.putObj l o') :=
  fun g => ⟨g.p.kept (grownBy_putObj' W l o') (fun e => by cases e; have := h.symm.trans g.p; cases this; cases hc), g.r.kept (grownBy_putObj' W l o') (fun e => by cases e; have := h.symm.trans g.r; cases this; cases hc), hA.own W _ (some l) g.s (grownBy_putObj' W l o') (fun r e => by cases e; exact ⟨o, h, hc⟩)⟩
theorem grown_t {A B C : World} {r : Option Nat} (h : A.grownBy B r) (k : B.grownBy C r) : A.grownBy C r :=
  ⟨k.os.trans h.os, k.tape.trans h.tape, k.output.trans h.output, Nat.le_trans h.size k.size, fun i hi hr => (k.block i (Nat.lt_of_lt_of_le hi h.size) hr).trans (h.block i hi hr)⟩
/-- what turned lies behind w. -/
theorem grown_past {w A B : World} {r s : Option Nat} (h : w.grownBy A r) (k : A.grownBy B s) (hs : ∀ i, s = some i → w.heap.size ≤ i) : w.grownBy B r :=
  ⟨k.os.trans h.os, k.tape.trans h.tape, k.output.trans h.output, Nat.le_trans h.size k.size, fun i hi hr => (k.block i (Nat.lt_of_lt_of_le hi h.size) (fun e => by have := hs i e.symm; omega)).trans (h.block i hi hr)⟩
end Go.Proofs.Ytmjbgfjjlgpieaa.Sp

namespace Go.Proofs.Ytmjbgfjjlgpieaa.Sp
open Go.RowKit Go.Shelf
attribute [local go_sem] Oper.semAt_some

/-- slices, as they are told. -/
def rs (ra : Nat → Option Addr) (rl rc : Nat → Nat) (i : Nat) : Value := .slice (ra i) (rl i) (rc i)
/-- what has come is in the list, which is in its box. -/
structure Ap (w : World) (B G cap n : Nat) (rv : Nat → Value) (pre : List (Tk n)) (W : World) : Prop where
  box : Boxed W w.heap.size 32 (.slice (some ⟨G, 0, none⟩) pre.length cap)
  own : W.ownsRow B 37 1 (.slice (some ⟨G, 0, none⟩) pre.length cap) pre.length (pre.map fun x => rv x.i)
  gr : w.grownBy W (some G)
theorem Ap.lt {w W : World} {B G cap n : Nat} {rv : Nat → Value} {pre : List (Tk n)} (h : Ap w B G cap n rv pre W) : G < W.heap.size := (h.own.lt G rfl).2
theorem Ap.from_ (w : World) (B G cap n : Nat) (rv : Nat → Value) : OwnFrom w.heap.size (Ap w B G cap n rv) := fun pre X Y row h hg hr => by
  have hne : ∀ (j : Nat) (cs : Array Value) (t : TypeId) (z : Nat × Nat), X.heap[j]? = some (.cells cs t z) → some j ≠ row := fun j cs t z hj e => by
    obtain ⟨_, o, ho, hc⟩ := hr j e.symm
    rw [hj] at ho; cases ho; cases hc
  refine ⟨h.box.kept hg (hne _ _ _ _ h.box), h.own.kept hg ?_, grown_past h.gr hg (fun i e => (hr i e).1)⟩
  rcases h.own.2 with ⟨e, _⟩ | ⟨g, c, cur, e, _, hgb, _⟩
  · cases e
  · rw [e]; exact .inr (hne g _ _ _ hgb)

set_option maxRecDepth 100000 in
set_option maxHeartbeats 2000000 in
/-- slices.AppendSeq, of what is told, where there is room. -/
theorem appendSeq_any (B G cap bp br cf n : Nat) (caps : Array Value) (ra : Nat → Option Addr) (rl rc : Nat → Nat) (Pw : World → Prop) (hA : Asks cf n caps (rs ra rl rc) Pw) (hn : n ≤ 1000000) (hcap : n ≤ cap) (w : World) (hG : Gt bp br cf n caps Pw w)
    (ho : w.ownsRow B 37 1 (.slice (some ⟨G, 0, none⟩) 0 cap) 0 []) (hP : ∀ W, w.grownBy W (some G) → Pw W) :
    Calls Try.prog 46 #[.slice (some ⟨G, 0, none⟩) 0 cap, .func (.func 60) #[] #[.pointer (some ⟨bp, 0, none⟩), .pointer (some ⟨br, 0, none⟩)]] w fun e w' => e = .returned (.slice (some ⟨G, 0, none⟩) n cap) ∧ w'.ownsRow B 37 1 (.slice (some ⟨G, 0, none⟩) n cap) n ((List.range n).map (rs ra rl rc)) ∧ w.grownBy w' (some G) := by
  refine (callsIn_wide (n := 6)).1 ?_
  have hW : ∀ k, Fence.wide.fn k := fun _ => trivial
  have hD : Fence.wide.depth = none := rfl
  obtain ⟨i0, hi, hz0, hz1, hz2⟩ := info_parts (P := Try.prog) (e := 37) (z := .slice none 0 0) (size := 1) (bytes := 24) (by kernel_rfl)
  have HI := Lib.hid hi; have HZ1 := Lib.hid hz1
  have hGl := (ho.lt G rfl).2
  have HO := Lib.hid ho; have HG := Lib.hid hG; have HA := Lib.hid hA; have HP := Lib.hid hP
  clear hi hz0 hz1 hz2 ho hG hA hP
  refine callsIn_of_wp_marks Try.func46 rfl trivial ?_ rfl
  simp only [Try.ntmps46, List.size_toArray, List.length_cons, List.length_nil, Nat.reduceAdd, Nat.reduceSub, Array.replicate_succ, Array.replicate_zero, List.push_toArray, List.append_toArray, List.nil_append, List.cons_append]
  gi_wp2
  have hal : w.grownBy (w.alloc (.cells #[.slice (some ⟨G, 0, none⟩) 0 cap] 32)) (some G) := World.grownBy_alloc w _ _
  have b0 := Boxed.new w 32 (.slice (some ⟨G, 0, none⟩) 0 cap)
  have o0 := HO.out.alloc (.cells #[.slice (some ⟨G, 0, none⟩) 0 cap] 32)
  have g0 : Gt bp br cf n caps Pw (w.alloc (.cells #[.slice (some ⟨G, 0, none⟩) 0 cap] 32)) := ⟨HG.out.p.alloc _, HG.out.r.alloc _, HP.out _ hal⟩
  refine' wpIn_rangeFunc_ownG rfl (by omega) (gf := 60) (lb := #[.pointer (some ⟨bp, 0, none⟩), .pointer (some ⟨br, 0, none⟩)]) rfl trivial (enters_of Try.func60 (by kernel_rfl) rfl)
    (told_stops _ bp br cf n caps (rs ra rl rc) Pw HA.out (by omega) _ g0) kpT_t (kpT_b HA.out) (Below.refl _ _) (fun _ => rfl)
    (Ap w B G cap n (rs ra rl rc))
    (fun _ _ _ => False)
    (fun s X Y row h hg hr => Ap.from_ w B G cap n (rs ra rl rc) s X Y row h hg (fun r e => ⟨by have := (hr r e).1; simp at this; omega, (hr r e).2⟩))
    (fun _ _ _ _ _ hs _ _ => hs)
    ⟨b0, o0, hal⟩
    _ ?assign ?body ?done ?stop
  case assign =>
    intro l y W K hK
    unfold rs
    gi_wp2
    exact hK
  case body =>
    rintro l pre y W hI hlen
    clear b0 o0 g0 hal
    have c0 := hI.box.cell
    have f0 := hI.box.frozen
    have HH := Lib.hid hI; clear hI
    unfold rs
    have HL := Lib.hid (show pre.length + 1 ≤ cap by omega)
    gi_wp2_with (gi_at_builtin; go_loud (refine wpListIn_append_fits _ rfl (.tmp 8) (.tmp 10) 32 rfl B 37 i0 1 Try.underlying32 HI.out HZ1.out G pre.length cap (pre.map fun x => rs ra rl rc x.i) rfl (HH.out.own.alloc _) _ 1 1 [.slice (ra y.i) (rl y.i) (rc y.i)] rfl rfl (cell_new1 _ _ _) (fun u hu => by rw [List.mem_singleton.1 hu]; rfl) HL.out ?_; intro w6 hown6 hg6; have HOWN6 := Lib.hid hown6; have HG6 := Lib.hid hg6; clear hown6 hg6; have b6 : Boxed w6 w.heap.size 32 (.slice (some ⟨G, 0, none⟩) pre.length cap) := (HH.out.box.alloc _).kept HG6.out (fun e => by cases e; exact absurd hGl (Nat.lt_irrefl _)); have c6 := b6.cell; have f6 := b6.frozen))
    have s6 : Boxed (w6.setCell ⟨w.heap.size, 0, none⟩ (.slice (some ⟨G, 0, none⟩) (pre.length + 1) cap)) w.heap.size 32 (.slice (some ⟨G, 0, none⟩) (pre.length + 1) cap) := b6.set _
    have S6 := Lib.hid s6
    have g6 : w.grownBy w6 (some G) := grown_t (grown_t HH.out.gr (World.grownBy_alloc W _ _)) HG6.out
    have g7 : w.grownBy (w6.setCell ⟨w.heap.size, 0, none⟩ (.slice (some ⟨G, 0, none⟩) (pre.length + 1) cap)) (some G) := grown_past g6 (grownBy_setCell' w6 w.heap.size _) (fun i e => by cases e; exact Nat.le_refl _)
    have G7 := Lib.hid g7
    have hK : KeepsOthers W (w6.setCell ⟨w.heap.size, 0, none⟩ (.slice (some ⟨G, 0, none⟩) (pre.length + 1) cap)) :=
      ((KeepsOthers.alloc W _).trans (KeepsOthers.of_grownBy HG6.out fun j o ej hj => by
        cases ej
        rcases (HH.out.own.alloc (.cells #[.slice (ra y.i) (rl y.i) (rc y.i)] 37)).2 with ⟨e, _⟩ | ⟨g, c, cur, e, _, hgb, _⟩
        · cases e
        · cases e; rw [hgb] at hj; cases hj; rfl)).trans (KeepsOthers.setCell _ _ _)
    have HK := Lib.hid hK
    have hO7 := HOWN6.out.kept (grownBy_setCell' w6 w.heap.size (.slice (some ⟨G, 0, none⟩) (pre.length + 1) cap)) (Or.inr (fun e => by cases e; exact absurd hGl (Nat.lt_irrefl _)))
    have HO7 := Lib.hid hO7
    clear b6 s6 g6 g7 hK hO7
    refine ⟨HK.out.from _, fun g => ⟨HG.out.p.kept G7.out ?_, HG.out.r.kept G7.out ?_, HP.out _ G7.out⟩, ?_⟩
    · intro e; cases e; have := HG.out.p; rcases HO.out.2 with ⟨e, _⟩ | ⟨g, c, cur, e, _, hgb, _⟩
      · cases e
      · cases e; have := this.symm.trans hgb; cases this
    · intro e; cases e; have := HG.out.r; rcases HO.out.2 with ⟨e, _⟩ | ⟨g, c, cur, e, _, hgb, _⟩
      · cases e
      · cases e; have := this.symm.trans hgb; cases this
    · have hl : (pre ++ [y]).length = pre.length + 1 := by simp
      have hm : ((pre ++ [y]).map fun x => rs ra rl rc x.i) = (pre.map fun x => rs ra rl rc x.i) ++ [.slice (ra y.i) (rl y.i) (rc y.i)] := by rw [List.map_append]; rfl
      refine ⟨?_, ?_, G7.out⟩
      · rw [hl]; exact S6.out
      · rw [hl]; show World.ownsRow _ _ _ _ _ _ ((pre ++ [y]).map fun x => rs ra rl rc x.i); rw [hm]; exact HO7.out
  case done =>
    rintro D ys W hD hys hI hK
    clear b0 o0 g0 hal
    have hl : ys.length = n := by have := congrArg List.length hys; rwa [List.length_map, List.length_range] at this
    have hm : (ys.map fun x => rs ra rl rc x.i) = (List.range n).map (rs ra rl rc) := by rw [← hys, List.map_map]; rfl
    have c0 := hI.box.cell
    have hO := hI.own
    rw [hl] at c0 hO
    rw [hm] at hO
    have HO7 := Lib.hid hO; have G7 := Lib.hid hI.gr
    have hGW := hI.lt
    clear hI hO hys hl hm
    gi_wp2
    refine ⟨by simp, .inl ⟨_, _, rfl, run_takeDeferred hK, ?_⟩⟩
    refine ⟨_, results_tmp rfl _ _ _, rfl, HO7.out.kept (grownBy_putObj' _ D _) (Or.inr (fun e => ?_)), grown_past G7.out (grownBy_putObj' _ D _) (fun i e => by cases e; simp at hD; omega)⟩
    cases e
    simp at hD; omega
  case stop =>
    rintro D c pre W _ _ h _
    exact h.elim
end Go.Proofs.Ytmjbgfjjlgpieaa.Sp
