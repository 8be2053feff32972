import Derived.RangeFuncNested
import Derived.RangeFuncBox
import Derived.RangeFuncBound
import Derived.RangeFuncCalls
import Derived.RangeFuncLeaves
import Derived.Shelf.Abstract
import Derived.OwnWalkIn
import Derived.TacticsInMore
import Derived.LoopNIn
import Derived.LoopIn
import Derived.Test.YtkejabhjlflknaaGreatMg3
import Derived.Test.YtkejabhjlflknaaGreatMg4
namespace Go.Proofs.YtkejabhjlflknaaGreat
open Go.RowKit Go.Shelf
attribute [local go_sem] Oper.semAt_some

/-- one of those that come from the end: its place, and what stands there. -/
structure It (len : Nat) (ok : Nat → Nat → Prop) where
  i : Nat
  v : Nat
  hi : i < len
  hv : v < 256
  hok : ok i v
def It.enc {len : Nat} {ok : Nat → Nat → Prop} (x : It len ok) : Array Value := #[.int .i64 (x.i : Nat), .int .u8 (x.v : Nat)]
/-- k places, from the end. -/
def dnl (len k : Nat) : List Nat := (List.range k).map fun j => len - 1 - j
theorem dnl_succ {len m : Nat} (h : m < len) : dnl len (len - m) = dnl len (len - (m + 1)) ++ [m] := by
  unfold dnl
  rw [show len - m = (len - (m + 1)) + 1 by omega, List.range_succ, List.map_append]
  congr 1
  simp
  omega
theorem dnl_len (len k : Nat) : (dnl len k).length = k := by simp [dnl]

/-- what is read from the end: the slice in its box, and bytes in it. -/
def Good (Bs : Nat) (a : Option Addr) (len cap : Nat) (ok : Nat → Nat → Prop) (W : World) : Prop :=
  W.cell? ⟨Bs, 0, none⟩ = some (.slice a len cap) ∧ ∀ i, i < len → ∃ b off v, a = Option.some ⟨b, off, none⟩ ∧ v < 256 ∧ ok i v ∧ W.cell? ⟨b, off + i, none⟩ = some (.int .u8 (v : Nat))
def KpG (Bs : Nat) (a : Option Addr) (len cap : Nat) (ok : Nat → Nat → Prop) (W W' : World) : Prop := Good Bs a len cap ok W → Good Bs a len cap ok W'
theorem kpG_t {Bs : Nat} {a : Option Addr} {len cap : Nat} {ok : Nat → Nat → Prop} {A B C : World} (h : KpG Bs a len cap ok A B) (k : KpG Bs a len cap ok B C) : KpG Bs a len cap ok A C := fun g => k (h g)
theorem cell_putObj {W : World} {l : Nat} {o o' : Obj} (h : W.heap[l]? = some o) (hc : o.isCells = false) {p : Addr} {v : Value} (hp : W.cell? p = some v) : (W.putObj l o').cell? p = some v :=
  cell_kept hp (grownBy_putObj' W l o') (fun r e => by cases e; exact ⟨o, h, hc⟩)
theorem Good.putObj {Bs : Nat} {a : Option Addr} {len cap : Nat} {ok : Nat → Nat → Prop} {W : World} (g : Good Bs a len cap ok W) {l : Nat} {o : Obj} (o' : Obj) (h : W.heap[l]? = some o) (hc : o.isCells = false) : Good Bs a len cap ok (W.putObj l o') :=
  ⟨cell_putObj h hc g.1, fun i hi => by
    obtain ⟨b, off, v, h1, h2, h3, h4⟩ := g.2 i hi
    exact ⟨b, off, v, h1, h2, h3, cell_putObj h hc h4⟩⟩
theorem kpG_b {Bs : Nat} {a : Option Addr} {len cap : Nat} {ok : Nat → Nat → Prop} {w : World} (W : World) (l : Nat) (o o' : Obj) (_ : w.heap.size ≤ l) (h : W.heap[l]? = some o) (hc : o.isCells = false) (_ : o.isWalk = false) : KpG Bs a len cap ok W (W.putObj l o') :=
  fun g => g.putObj o' h hc
theorem Good.own {β : Type} (Bs : Nat) (a : Option Addr) (len cap : Nat) (ok : Nat → Nat → Prop) : Own (fun (_ : β) W => Good Bs a len cap ok W) := fun _ A B row g hg hr =>
  ⟨cell_kept g.1 hg hr, fun i hi => by
    obtain ⟨b, off, v, h1, h2, h3, h4⟩ := g.2 i hi
    exact ⟨b, off, v, h1, h2, h3, cell_kept h4 hg hr⟩⟩
theorem Good.of_sl {w : World} {a : Option Addr} {len cap : Nat} {f : Nat → Nat} (h : Sl w a len cap f) {Bs : Nat} (hb : w.cell? ⟨Bs, 0, none⟩ = some (.slice a len cap)) : Good Bs a len cap (fun i v => v = f i) w :=
  ⟨hb, fun i hi => by
    obtain ⟨b, off, e, hc⟩ := h.at_ hi
    exact ⟨b, off, f i, e, h.bytes i, rfl, hc⟩⟩

set_option maxRecDepth 100000 in
set_option maxHeartbeats 2000000 in
/-- slices.Backward's closure. -/
theorem back1_in (n : Nat) (hn : 1 ≤ n) (l Bs : Nat) (a : Option Addr) (len cap : Nat) (ok : Nat → Nat → Prop) (hm : len ≤ 1000000000000) (J Jx : List (It len ok) → World → Prop)
    (hY : ∀ pre x W, J pre W → pre.length < len → YieldAt Fence.wide (n - 1) Tryz.prog l (It.enc x) W fun e W' =>
      (e = .returned (.bool true) ∧ J (pre ++ [x]) W' ∧ KpG Bs a len cap ok W W') ∨ (e = .returned (.bool false) ∧ Jx (pre ++ [x]) W'))
    (W : World) (hG : Good Bs a len cap ok W) (h0 : J [] W) :
    CallsIn Fence.wide n Tryz.prog 140 #[.func (.yield l) #[] #[], .pointer (some ⟨Bs, 0, none⟩)] W fun e W' => (∃ v, e = .returned v) ∧
      ((∃ ys : List (It len ok), ys.map It.i = dnl len len ∧ J ys W') ∨ (∃ pre : List (It len ok), (∃ k, k ≤ len ∧ pre.map It.i = dnl len k) ∧ Jx pre W')) := by
  have hW : ∀ k, Fence.wide.fn k := fun _ => trivial
  have hD : Fence.wide.depth = none := rfl
  have hb0 := hG.1
  have HG := Lib.hid hG; clear hG
  refine callsIn_of_wp Tryz.func140 rfl trivial ?_ rfl
  simp only [Tryz.ntmps140, List.size_toArray, List.length_cons, List.length_nil, Nat.reduceAdd, Nat.reduceSub, Array.replicate_succ, Array.replicate_zero, List.push_toArray, List.append_toArray, List.nil_append, List.cons_append]
  gi_wp2
  gi_loopw [3] (fun i wr => ∃ m : Nat, m ≤ len ∧ i = .int .i64 ((m : Int) - 1) ∧ (∃ pre : List (It len ok), pre.map It.i = dnl len (len - m) ∧ J pre wr) ∧ Good Bs a len cap ok wr)
    (fun i _ => ((intOf i) + 1).toNat)
  case atStart => exact ⟨len, Nat.le_refl _, rfl, ⟨[], by simp [dnl], h0⟩, HG.out⟩
  case round =>
    rename_i wr
    obtain ⟨m, hm1, rfl, ⟨pre, hp, hJs⟩, hG⟩ := hrel
    have hP := Lib.hid hp
    have hlen : pre.length = len - m := by have := congrArg List.length hp; rwa [List.length_map, dnl_len] at this
    have HL := Lib.hid hlen
    clear hp hb0
    cases m with
    | zero =>
      clear hlen
      gi_wp2
      go_end0
      exact ⟨⟨_, rfl⟩, .inl ⟨pre, hP.out, hJs⟩⟩
    | succ m =>
      rw [show (((m + 1 : Nat) : Int) - 1) = (m : Int) by omega]
      obtain ⟨b, off, v, ha, hv, hok, hc⟩ := hG.2 m (by omega)
      obtain ⟨fn, tmps, assign, body, hy, hR⟩ := hY pre ⟨m, v, by omega, hv, hok⟩ wr hJs (by omega)
      unfold It.enc at hy
      dsimp only at hy
      have hb1 := hG.1
      have HG1 := Lib.hid hG
      subst ha
      clear hG hlen
      have i2 : (m : Int) < (len : Int) := by omega
      gi_wp2
      refine hR.mono ?_
      rintro e W3 (⟨rfl, hJ3, hk3⟩ | ⟨rfl, hJx3⟩)
      · have HG3 := Lib.hid (hk3 HG1.out)
        gi_wp2
        go_roundw
        case rel => exact ⟨m, by omega, rfl, ⟨_, by rw [dnl_succ (m := m) (by omega), List.map_append, hP.out]; rfl, hJ3⟩, HG3.out⟩
        case measure => simp [intOf]
      · gi_wp2
        refine bodyPost_ret (results_none rfl _ _ _) rfl ?_
        exact ⟨⟨_, rfl⟩, .inr ⟨_, ⟨len - m, by omega, by rw [dnl_succ (m := m) (by omega), List.map_append, hP.out]; rfl⟩, hJx3⟩⟩

/-- slices.Backward's value. -/
theorem back_stops (n : Nat) (hn : 1 ≤ n) (Bs : Nat) (a : Option Addr) (len cap : Nat) (ok : Nat → Nat → Prop) (hm : len ≤ 1000000000000) (w : World) (hBs : Bs < w.heap.size) (hG : Good Bs a len cap ok w) :
    SeqStopsK Fence.wide n Tryz.prog 140 #[.pointer (some ⟨Bs, 0, none⟩)] (It.enc (len := len) (ok := ok)) (KpG Bs a len cap ok) (fun ys => ys.map It.i = dnl len len) (fun pre => ∃ k, k ≤ len ∧ pre.map It.i = dnl len k) len w := fun l J Jx W hW _ _ hY h0 => by
  refine back1_in n hn l Bs a len cap ok hm J Jx hY W ⟨(hW.cell (p := ⟨Bs, 0, none⟩) hBs).trans hG.1, fun i hi => ?_⟩ h0
  obtain ⟨b, off, v, h1, h2, h3, h4⟩ := hG.2 i hi
  exact ⟨b, off, v, h1, h2, h3, (hW.cell (World.block_lt_of_cell? _ _ h4)).trans h4⟩

set_option maxHeartbeats 1000000 in
/-- slices.Backward: the slice is boxed. -/
theorem back_in (n : Nat) (a : Option Addr) (len cap : Nat) (w : World) :
    CallsIn Fence.wide n Tryz.prog 122 #[.slice a len cap] w fun e w' => e = .returned (.func (.func 140) #[] #[.pointer (some ⟨w.heap.size, 0, none⟩)]) ∧ w' = w.alloc (.cells #[.slice a len cap] 50) := by
  refine callsIn_wide.2 ?_
  go_enter Tryz.func122, Tryz.ntmps122
  go_wp2
  go_ret
  exact ⟨rfl, rfl⟩
end Go.Proofs.YtkejabhjlflknaaGreat

namespace Go.Proofs.YtkejabhjlflknaaGreat
open Go.RowKit Go.Shelf
attribute [local go_sem] Oper.semAt_some

/-- the lean part of a slice: nil where there is none. -/
def tA (a : Option Addr) (n : Nat) : Option Addr := if n = 0 then none else a
def tC (cap n : Nat) : Nat := if n = 0 then 0 else cap

theorem ln_of {f : Nat → Nat} {len n : Nat} (hu : Pf.Up f len) (h1 : ∀ i, n ≤ i → i < len → f i = 0) (h2 : n = 0 ∨ f (n - 1) ≠ 0) : Pf.ln f len = n := by
  refine Pf.Ln.uniq (Pf.ln_Ln len hu) ⟨fun i hi => ?_, h2⟩
  rcases Nat.lt_or_ge i len with h | h
  · exact h1 i hi h
  · exact hu i h
theorem mem_dnl {len k i : Nat} (hk : k ≤ len) : i ∈ dnl len k ↔ len - k ≤ i ∧ i < len := by
  unfold dnl
  rw [List.mem_map]
  constructor
  · rintro ⟨j, hj, rfl⟩
    have := List.mem_range.1 hj
    omega
  · intro h
    exact ⟨len - 1 - i, List.mem_range.2 (by omega), by omega⟩
theorem dnl_last {len k : Nat} (_hk : k < len) : dnl len (k + 1) = dnl len k ++ [len - 1 - k] := by
  unfold dnl
  rw [List.range_succ, List.map_append]; rfl

theorem Sl.trim {w : World} {a : Option Addr} {len cap : Nat} {f : Nat → Nat} (h : Sl w a len cap f) : Sl w (tA a (Pf.ln f len)) (Pf.ln f len) (tC cap (Pf.ln f len)) f := by
  have hl := Pf.ln_le f len
  have hL := Pf.ln_Ln len h.up
  unfold tA tC
  by_cases e : Pf.ln f len = 0
  · rw [if_pos e, if_pos e]
    exact ⟨by omega, by unfold maxLen; omega, h.bytes, hL.1, fun _ => ⟨e, rfl⟩, fun ad ha => (by cases ha), fun ad ha => (by cases ha)⟩
  · rw [if_neg e, if_neg e]
    exact ⟨Nat.le_trans hl h.capOk, h.maxOk, h.bytes, hL.1, fun ha => (by have := h.nil ha; omega), fun ad ha _ => h.spot ad ha (by omega), fun ad ha i hi => h.cell ad ha i (by omega)⟩

end Go.Proofs.YtkejabhjlflknaaGreat

namespace Go.Proofs.YtkejabhjlflknaaGreat
open Go.RowKit Go.Shelf

theorem Ow.trim {w : World} {B : Nat} {a : Option Addr} {cap : Nat} (h : Ow w B a cap) (n : Nat) : Ow w B (tA a n) (tC cap n) := by
  unfold tA tC
  by_cases e : n = 0
  · rw [if_pos e, if_pos e]; exact Or.inl ⟨rfl, rfl⟩
  · rw [if_neg e, if_neg e]; exact h
theorem Nw.trim {w : World} {B : Nat} {a : Option Addr} {len cap : Nat} {f : Nat → Nat} (h : Nw w B a len cap f) : Nw w B (tA a (Pf.ln f len)) (Pf.ln f len) (tC cap (Pf.ln f len)) f := ⟨h.sl.trim, h.ow.trim _⟩
end Go.Proofs.YtkejabhjlflknaaGreat
