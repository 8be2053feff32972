import Derived.BigQuiet
import Derived.Deep.QuietTactic
import Derived.Lib.AppendZerosOnto
import Derived.Lib.SliceRun
import Derived.Deep.RegionHeld3
import Derived.Lib.Walk
import Derived.Test.YtjlmajopfeplpaaMg7
namespace Go.Proofs.Ytjlmajopfeplpaa
open Go.RowKit Go.Shelf

/-- what a call leaves as it was: all but two blocks. -/
structure But2 (s b : Nat) (w w' : World) : Prop where
  os : w'.os = w.os
  tape : w'.tape = w.tape
  output : w'.output = w.output
  size : w.heap.size ≤ w'.heap.size
  block : ∀ k, k < w.heap.size → k ≠ s → k ≠ b → w'.heap[k]? = w.heap[k]?
theorem But2.refl (s b : Nat) (w : World) : But2 s b w w := ⟨rfl, rfl, rfl, Nat.le_refl _, fun _ _ _ _ => rfl⟩
theorem But2.trans {s b : Nat} {w w' w'' : World} (h : But2 s b w w') (k : But2 s b w' w'') : But2 s b w w'' :=
  ⟨k.os.trans h.os, k.tape.trans h.tape, k.output.trans h.output, Nat.le_trans h.size k.size, fun i h1 h2 h3 => (k.block i (Nat.lt_of_lt_of_le h1 h.size) h2 h3).trans (h.block i h1 h2 h3)⟩
theorem But2.of {s b : Nat} {w w' : World} (h : Below w.heap.size w w') : But2 s b w w' := ⟨h.os, h.tape, h.output, h.size, fun k hk _ _ => h.block k hk⟩
theorem But2.below {s b B : Nat} {w w' : World} (h : But2 s b w w') (h0 : B ≤ w.heap.size) (h1 : B ≤ s) (h2 : B ≤ b) : Below B w w' := ⟨h.os, h.tape, h.output, h.size, fun k hk => h.block k (by omega) (by omega) (by omega)⟩
theorem But2.grown {s b : Nat} {w w' : World} (h : w.grownBy w' (some b)) : But2 s b w w' :=
  ⟨h.os, h.tape, h.output, h.size, fun k hk _ hb => h.block k hk (fun e => hb (by cases e; rfl))⟩
theorem But2.grown1 {s b : Nat} {w w' : World} (h : w.grownBy w' (some s)) : But2 s b w w' :=
  ⟨h.os, h.tape, h.output, h.size, fun k hk hs _ => h.block k hk (fun e => hs (by cases e; rfl))⟩
theorem But2.grown0 {s b : Nat} {w w' : World} (h : w.grownBy w' none) : But2 s b w w' :=
  ⟨h.os, h.tape, h.output, h.size, fun k hk _ _ => h.block k hk (by simp)⟩
theorem But2.set {s b i : Nat} {v : Value} (w : World) : But2 s b w (w.setCell ⟨s, i, none⟩ v) := ⟨rfl, rfl, rfl, by simp, fun k _ hs _ => heap_setCell_other _ _ _ _ hs⟩
theorem But2.drewN {s b : Nat} {w w' : World} (h : But2 s b w w') (q : Nat) : But2 s b w (w'.drewN q) := ⟨h.os, h.tape, h.output, h.size, h.block⟩

/-- a stock: its bytes, its fault. -/
def Stk (w : World) (s : Nat) (a : Option Addr) (l c : Nat) (e : Int) : Prop := w.heap[s]? = some (.cells #[.slice a l c, .int .i64 e] 88 (0, 0))
section
variable {w w' : World} {s l c : Nat} {a : Option Addr} {e : Int}
theorem Stk.lt (h : Stk w s a l c e) : s < w.heap.size := (Array.getElem?_eq_some_iff.1 h).1
theorem Stk.c0 (h : Stk w s a l c e) : w.cell? ⟨s, 0, none⟩ = some (.slice a l c) := by rw [cell_of_row w s 0 _ _ _ h]; rfl
theorem Stk.c1 (h : Stk w s a l c e) : w.cell? ⟨s, 1, none⟩ = some (.int .i64 e) := by rw [cell_of_row w s 1 _ _ _ h]; rfl
theorem Stk.free (h : Stk w s a l c e) (i : Nat) : w.frozen? ⟨s, i, none⟩ = false := frozen_of_row w s i _ _ h
theorem Stk.kept (h : Stk w s a l c e) (hk : w'.heap[s]? = w.heap[s]?) : Stk w' s a l c e := hk.trans h
theorem Stk.same (h : Stk w s a l c e) (hB : Below w.heap.size w w') : Stk w' s a l c e := h.kept (hB.block s h.lt)
theorem Stk.set0 (h : Stk w s a l c e) (p : Option Addr) (k d : Nat) : Stk (w.setCell ⟨s, 0, none⟩ (.slice p k d)) s p k d e := heap_setCell_same w s 0 _ _ (.slice p k d) h
theorem Stk.ne {g n cap : Nat} {f : Nat → Nat} (h : Stk w s a l c e) (hb : Bl w g n cap f) : g ≠ s := fun k => by
  obtain ⟨vs, h1, _, _⟩ := hb
  unfold Stk at h
  rw [k, h] at h1
  simp at h1
end

theorem sstate_any (s : Nat) (a : Option Addr) (l c : Nat) (e : Int) (w : World) (h : Stk w s a l c e) :
    Calls Try.prog 74 #[.pointer (some ⟨s, 0, none⟩)] w fun x w' => x = .returned (.int .i64 e) ∧ w' = w := by
  have c1 := h.c1
  clear h
  go_enter Try.func74, Try.ntmps74
  go_wp2
  go_ret
  exact ⟨rfl, rfl⟩
theorem smany_any (s : Nat) (a : Option Addr) (l c : Nat) (e : Int) (w : World) (h : Stk w s a l c e) :
    Calls Try.prog 58 #[.pointer (some ⟨s, 0, none⟩)] w fun x w' => x = .returned (.int .i64 (l : Nat)) ∧ w' = w := by
  have c0 := h.c0
  clear h
  go_enter Try.func58, Try.ntmps58
  go_wp2
  go_ret
  exact ⟨rfl, rfl⟩
set_option maxHeartbeats 400000 in
theorem sfail_any (s : Nat) (a : Option Addr) (l c : Nat) (e e2 : Int) (w : World) (h : Stk w s a l c e) :
    Calls Try.prog 69 #[.pointer (some ⟨s, 0, none⟩), .int .i64 e2] w fun x w' => x = .returned (.tuple #[]) ∧ Stk w' s none 0 0 e2 ∧ ∀ b, But2 s b w w' := by
  have H := Lib.hid h
  have c0 := h.c0
  have c1 := h.c1
  have f0 := h.free 0
  have f1 := h.free 1
  clear h
  go_enter Try.func69, Try.ntmps69
  go_wp2
  go_end0
  have h0 := H.out.set0 none 0 0
  exact ⟨rfl, heap_setCell_same _ s 1 _ _ (.int .i64 e2) h0, fun b => (But2.set w).trans (But2.set _)⟩
end Go.Proofs.Ytjlmajopfeplpaa

namespace Go.Proofs.Ytjlmajopfeplpaa
open Go.RowKit Go.Shelf

/-- what Grow answers: a row with room for n more. -/
def Grows (w : World) (B : Nat) (a : Option Addr) (l c n : Nat) (f : Nat → Nat) (x : Ending) (w' : World) : Prop :=
  ∃ a' c', x = .returned (.slice a' l c') ∧ l + n ≤ c' ∧ Rq w' B a' l c' f ∧ ((a' = a ∧ c' = c ∧ w' = w) ∨ (∃ g, a' = some ⟨g, 0, none⟩ ∧ w.heap.size ≤ g ∧ w.grownBy w' none))
set_option maxHeartbeats 4000000 in
set_option maxRecDepth 100000 in
theorem grow_any (B : Nat) (a : Option Addr) (l c n : Nat) (f : Nat → Nat) (h : l + n ≤ 1000000000) (w : World) (hB : B ≤ w.heap.size) (hR : Rq w B a l c f) :
    Calls Try.prog 78 #[.slice a l c, .int .i64 (n : Nat)] w (Grows w B a l c n f) := by
  have hlc : l ≤ c ∧ c ≤ maxLen := by
    rcases hR with ⟨_, rfl, rfl⟩ | ⟨g, _, _, _, h3, h4⟩
    · exact ⟨Nat.le_refl _, Nat.zero_le _⟩
    · exact ⟨h3, h4⟩
  have hm : maxLen = 9223372036854775807 := by unfold maxLen; rfl
  have h1 : ¬ ((n : Int) < 0) := by omega
  have h2 : wrap64 ((c : Int) - (l : Int)) = (c : Int) - (l : Int) := by unfold wrap64; omega
  have h3 : wrap64 ((n : Int) - ((c : Int) - (l : Int))) = (n : Int) - ((c : Int) - (l : Int)) := by unfold wrap64; omega
  by_cases hroom : l + n ≤ c
  · have h4 : ¬ ((n : Int) - ((c : Int) - (l : Int)) > 0) := by omega
    have HR := Lib.hid hR; clear hR hm
    go_enter Try.func78, Try.ntmps78
    go_wp2
    go_ret
    exact ⟨a, c, rfl, hroom, HR.out, Or.inl ⟨rfl, rfl, rfl⟩⟩
  · have h4 : (n : Int) - ((c : Int) - (l : Int)) > 0 := by omega
    obtain ⟨i0, hi, hz0, hz1, hz2⟩ := info_parts Try.infoU8
    obtain ⟨cs, hcl, hcs, hnil, hfirst⟩ : ∃ cs : List Value, cs.length = c ∧ (∀ ad, a = some ad → ∀ j v, cs[j]? = some v → w.cell? (ad.add j) = some v) ∧ (a = none → c = 0) ∧ ∀ i, i < l → cs[i]? = some (.int .u8 (f i : Nat)) := by
      rcases hR with ⟨rfl, rfl, rfl⟩ | ⟨g, rfl, hg, ⟨vs, k1, k2, k3⟩, _, _⟩
      · exact ⟨[], rfl, fun _ e => (by cases e), fun _ => rfl, fun i hi => absurd hi (Nat.not_lt_zero i)⟩
      · refine ⟨vs.toList, by simpa using k2, fun ad e j v hj => ?_, fun e => (by cases e), fun i hi => by simpa using k3 i hi⟩
        cases e
        rw [Addr.add_lit, Nat.zero_add, cell_of_row w g j _ _ _ k1]
        simpa using hj
    have hold : (Builtin.firstCells i0.size c (.slice a c c)).run Try.prog w.drew = .ok cs.toArray w.drew := by
      rw [hz1]
      cases a with
      | none =>
        have h0 := hnil rfl
        subst h0
        have hc0 : cs = [] := List.length_eq_zero_iff.1 hcl
        rw [hc0]
        exact run_firstCells_none w.drew 1 0 0 0
      | some ad => exact run_firstCells_some w.drew 1 c ad c c cs (by omega) (fun j v hj => hcs ad rfl j v hj)
    have hck : c + (l + n - c) = l + n := by omega
    have hrz : ∀ ty, (Builtin.append_ #[27, 3] ty #[.slice a c c, .int .i64 ((n : Int) - ((c : Int) - (l : Int)))]).run Try.prog w =
        .ok (.slice (some ⟨w.heap.size, 0, none⟩) (l + n) (grownCap w (l + n) c 5)) (w.drew.alloc (.cells (cs.toArray ++ Builtin.zeroCells #[.int .u8 0] (l + n - c) ++ Builtin.zeroCells #[.int .u8 0] (grownCap w (l + n) c 5 - (l + n))) 5)) := fun ty => by
      have h := Lib.run_append_grow_zeros w 27 3 ty 5 i0 (.int .u8 0) .i64 .i64 Try.underlying27 Try.underlying3 hi hz0 a c c cs hold (l + n - c) (by omega) (by omega) (by omega) (by omega)
        (by rw [hz2]; omega)
        (by rw [hck]; exact growslice_fits (by omega) (by rw [hz2]; omega))
      rw [hck] at h
      rw [show (n : Int) - ((c : Int) - (l : Int)) = ((l + n - c : Nat) : Int) by omega]
      exact h
    have hGn : l + n ≤ grownCap w (l + n) c 5 := grownCap_ge w _ _ _
    have hGm : grownCap w (l + n) c 5 ≤ maxLen := grownCap_le_maxLen w (l + n) c 5 (by unfold maxLen; omega)
    obtain ⟨G, hG⟩ : ∃ G, G = grownCap w (l + n) c 5 := ⟨_, rfl⟩
    rw [← hG] at hrz hGn hGm
    have HGm := Lib.hid hGm
    have hG63 : G ≤ 9223372036854775807 := by omega
    obtain ⟨vs, hvs⟩ : ∃ vs : Array Value, vs = cs.toArray ++ Builtin.zeroCells #[.int .u8 0] (l + n - c) ++ Builtin.zeroCells #[.int .u8 0] (G - (l + n)) := ⟨_, rfl⟩
    rw [← hvs] at hrz
    have hvl : vs.size = G := by rw [hvs]; simp [Builtin.zeroCells, hcl]; omega
    have hvf : ∀ i, i < l → vs[i]? = some (.int .u8 (f i : Nat)) := fun i hi => by
      rw [hvs, Array.append_assoc, Array.getElem?_append_left (by simp; omega), List.getElem?_toArray]
      exact hfirst i hi
    have HRES := Lib.hid (show Rq (w.drew.alloc (.cells vs 5)) B (some ⟨w.heap.size, 0, none⟩) l G f from Or.inr ⟨w.heap.size, rfl, hB, ⟨vs, heap_alloc_new _ _, hvl, hvf⟩, by omega, hGm⟩)
    have hln : l ≤ l + n := by omega
    have HNIL := Lib.hid hnil
    have HH := Lib.hid h
    clear hold hck hG hcs hcl hvs hvl hvf hR hfirst hB hnil hGm hm
    go_enter Try.func78, Try.ntmps78
    cases a with
    | none =>
      obtain rfl : c = 0 := HNIL.out rfl
      obtain rfl : l = 0 := by omega
      go_wp2_with (at_builtin; refine Lib.wpList_append_run _ rfl _ _ _ _ rfl _ _ rfl rfl _ _ (hrz _) ?_)
      go_ret
      exact ⟨_, _, rfl, hGn, HRES.out, Or.inr ⟨_, rfl, Nat.le_refl _, grownBelow (((Below.refl _ w).alloc (Nat.le_refl _) _).drew) none⟩⟩
    | some ad =>
      obtain ⟨ab, ao, asp⟩ := ad
      go_wp2_with (at_builtin; refine Lib.wpList_append_run _ rfl _ _ _ _ rfl _ _ rfl rfl _ _ (hrz _) ?_)
      go_ret
      exact ⟨_, _, rfl, hGn, HRES.out, Or.inr ⟨_, rfl, Nat.le_refl _, grownBelow (((Below.refl _ w).alloc (Nat.le_refl _) _).drew) none⟩⟩

theorem Stk.neS {w : World} {s l c n cin : Nat} {a ain : Option Addr} {e : Int} {h : Nat → Nat} (hs : Stk w s a l c e) (hS : Sl w ain n cin h) : ∀ ad, ain = some ad → n ≠ 0 → ad.block ≠ s := fun ad ha hn k => by
  have hc := hS.cell ad ha 0 (by omega)
  have hsp := hS.spot ad ha hn
  obtain ⟨b, o, sp⟩ := ad
  simp only at hsp k hc
  subst k
  rw [cell_of_row w b _ _ _ _ hs] at hc
  match o, hc with
  | 0, hc => simp at hc
  | 1, hc => simp at hc
  | o + 2, hc => simp at hc
theorem wpList_copy_zero {P : Program} {w : World} {ops : Array Oper} {rest : List Oper} {o : Oper} {a : Act} {Q : Exit → Act → World → Prop} (hgd : o.guard = none) (d s : Operand) (dT sT : TypeId)
    (ho : o.op = .call { callee := .builtin .copy, args := #[d, s], argTypes := #[dT, sT] }) (elem : TypeId) (hu : P.underlying dT = some (.slice elem)) (hsz : (P.info? elem).map (·.size) = some 1)
    (dp sp : Option Addr) (dLen dCap sLen sCap : Nat) (hd : a.eval d = .slice dp dLen dCap) (hs : a.eval s = .slice sp sLen sCap) (hm : Nat.min sLen dLen = 0)
    (h : wpList P ops Q rest (a.put o.dst (goInt 0)) w) : wpList P ops Q (o :: rest) a w := by
  refine wpList_plain hgd fun K hK => ?_
  have hrun := run_copy_none (P := P) w dT sT o.type elem dp sp dLen dCap sLen sCap hu hsz hm
  unfold Oper.wp
  simp [execOp, ho, resolve, invoke, builtin, hd, hs, hrun, Result.andThen]
  exact hK _ _ h
/-- what add does. -/
def Adds (w : World) (s B : Nat) (a : Option Addr) (l n : Nat) (f h : Nat → Nat) (e : Int) (x : Ending) (w' : World) : Prop :=
  ∃ a' c', x = .returned (.tuple #[]) ∧ Stk w' s a' (l + n) c' e ∧ Rq w' B a' (l + n) c' (cpy l n h f) ∧ (∃ b, (b = s ∨ a = some ⟨b, 0, none⟩) ∧ But2 s b w w') ∧ (∀ g, a' = some ⟨g, 0, none⟩ → a = some ⟨g, 0, none⟩ ∨ w.heap.size ≤ g)
theorem done3 {w w1 w3 : World} {s B l n c c1 g : Nat} {a : Option Addr} {f h : Nat → Nat} {e : Int} (hg : B ≤ g) (hcm : c1 ≤ maxLen) (HSET : Stk (w1.setCell ⟨s, 0, none⟩ (.slice (some ⟨g, 0, none⟩) (l + n) c1)) s (some ⟨g, 0, none⟩) (l + n) c1 e) (HG1 : w.grownBy w1 none)
    (HCASE : (some ⟨g, 0, none⟩ = a ∧ c1 = c ∧ w1 = w) ∨ (∃ g', (some ⟨g, 0, none⟩ : Option Addr) = some ⟨g', 0, none⟩ ∧ w.heap.size ≤ g' ∧ w.grownBy w1 none)) (hgs : g ≠ s) (hb3 : Bl w3 g (l + n) c1 (cpy l n h f)) (hg3 : (w1.setCell ⟨s, 0, none⟩ (.slice (some ⟨g, 0, none⟩) (l + n) c1)).grownBy w3 (some g)) (hc1 : l + n ≤ c1) :
    Adds w s B a l n f h e (.returned (.tuple #[])) w3 := by
  refine ⟨some ⟨g, 0, none⟩, c1, rfl, HSET.kept (hg3.block s HSET.lt (by simp; omega)), Or.inr ⟨g, rfl, hg, hb3, hc1, hcm⟩, ?_, fun g' e' => ?_⟩
  · rcases HCASE with ⟨ha, _, _⟩ | ⟨g', hg', hn, _⟩
    · exact ⟨g, Or.inr ha.symm, ((But2.grown0 HG1).trans (But2.set _)).trans (But2.grown hg3)⟩
    · cases hg'
      refine ⟨s, Or.inl rfl, ⟨hg3.os.trans HG1.os, hg3.tape.trans HG1.tape, hg3.output.trans HG1.output, Nat.le_trans HG1.size (by simpa using hg3.size), fun k hk hks _ => ?_⟩⟩
      have hs1 := HG1.size
      rw [hg3.block k (by simp; omega) (by simp; omega), heap_setCell_other _ _ _ _ hks, HG1.block k hk (by simp)]
  · cases e'
    rcases HCASE with ⟨ha, _, _⟩ | ⟨g', hg', hn, _⟩
    · exact Or.inl ha.symm
    · cases hg'
      exact Or.inr hn
set_option maxHeartbeats 4000000 in
set_option maxRecDepth 100000 in
theorem sadd_any (s B : Nat) (a : Option Addr) (l c : Nat) (f : Nat → Nat) (e : Int) (ain : Option Addr) (n cin : Nat) (h : Nat → Nat) (hl : l + n ≤ 1000000000) (w : World) (hB : B ≤ w.heap.size) (hs : Stk w s a l c e) (hR : Rq w B a l c f) (hS : Sl w ain n cin h) :
    Calls Try.prog 67 #[.pointer (some ⟨s, 0, none⟩), .slice ain n cin] w (Adds w s B a l n f h e) := by
  have HS := Lib.hid hs; have HR := Lib.hid hR; have HIN := Lib.hid hS
  have hne := hs.neS hS
  have HNE := Lib.hid hne
  have c0 := hs.c0
  clear hs hR hS hne
  have hw1 : wrap64 ((l : Int) + (n : Int)) = (l : Int) + (n : Int) := by unfold wrap64; omega
  go_enter Try.func67, Try.ntmps67
  go_wp2_with fail
  refine (grow_any B a l c n f hl _ hB HR.out).mono ?_
  rintro x w1 ⟨a1, c1, rfl, hc1, hR1, hcase⟩
  have hb : w1.heap.size ≥ w.heap.size ∧ Stk w1 s a l c e ∧ Sl w1 ain n cin h ∧ w.grownBy w1 none := by
    rcases hcase with ⟨_, _, rfl⟩ | ⟨g, _, _, hg⟩
    · exact ⟨Nat.le_refl _, HS.out, HIN.out, grownBelow (Below.refl _ _) none⟩
    · exact ⟨hg.size, HS.out.kept (hg.block s HS.out.lt (by simp)), HIN.out.grown hg (fun _ _ _ => by simp), hg⟩
  obtain ⟨hsz1, hs1, hS1, hg1⟩ := hb
  have hR1m : l ≤ c1 ∧ c1 ≤ 9223372036854775807 := by
    rcases hR1 with ⟨_, rfl, rfl⟩ | ⟨g, _, _, _, h3, h4⟩
    · omega
    · exact ⟨h3, by unfold maxLen at h4; omega⟩
  have hf1 := hs1.free 0
  have hcc := hs1.c0
  have HSET := Lib.hid (hs1.set0 a1 (l + n) c1)
  have hRS : Rq (w1.setCell ⟨s, 0, none⟩ (.slice a1 (l + n) c1)) B a1 l c1 f := hR1.kept fun g eg hl => by
    refine heap_setCell_other _ _ _ _ (fun k => ?_)
    rcases hR1 with ⟨r, _⟩ | ⟨g', e', _, hbl, _⟩
    · rw [r] at eg; cases eg
    · rw [e'] at eg; cases eg; exact hs1.ne hbl k
  have hSS : Sl (w1.setCell ⟨s, 0, none⟩ (.slice a1 (l + n) c1)) ain n cin h := hS1.grown (row := some s) ⟨rfl, rfl, rfl, by simp, fun k _ hk => heap_setCell_other _ _ _ _ (fun e => hk (by rw [e]))⟩ (fun ad ha hn => by have := HNE.out ad ha hn; simpa using this)
  have HRS := Lib.hid hRS; have HSS := Lib.hid hSS; have HCASE := Lib.hid hcase; have HG1 := Lib.hid hg1
  have hcell2 := HSET.out.c0
  have hj1 : (l : Int) + (n : Int) ≤ (c1 : Int) := by omega
  clear hR1 hs1 hS1 hRS hSS hcase hg1
  rcases HRS.out with ⟨rfl, rfl, rfl⟩ | ⟨g, rfl, hg, hbl, _, hcm⟩
  · obtain rfl : n = 0 := by omega
    go_wp2_with (show wpList _ _ _ (⟨some 32, _, _, _, _, _⟩ :: _) _ _; refine wpList_copy_zero (o := ⟨some 32, _, _, _, _, _⟩) rfl (.tmp 30) (.tmp 31) 27 27 rfl 5 Try.underlying27 Try.sizeU8 _ _ _ _ _ _ rfl rfl (by simp) ?_)
    go_end0
    exact ⟨_, _, rfl, HSET.out, Or.inl ⟨rfl, rfl, rfl⟩, ⟨s, Or.inl rfl, (But2.grown0 HG1.out).trans (But2.set _)⟩, fun g e => by cases e⟩
  · have HBL := Lib.hid hbl
    have hgs := HSET.out.ne hbl
    clear hbl
    go_wp2_with (show wpList _ _ _ (⟨some 32, _, _, _, _, _⟩ :: _) _ _; refine wpList_copy_on (o := ⟨some 32, _, _, _, _, _⟩) rfl (.tmp 30) (.tmp 31) 27 27 rfl 5 Try.underlying27 Try.sizeU8 _ ain _ _ n cin n rfl rfl (by simp) g l c1 f h HBL.out (fun _ => HSS.out) (fun hn => ?_) hc1 (fun w3 hb3 hg3 => ?_))
    all_goals first
      | (go_end0; exact done3 hg hcm HSET.out HG1.out HCASE.out hgs hb3.out hg3.out hc1)
      | rfl
      | (exfalso; omega)
end Go.Proofs.Ytjlmajopfeplpaa

namespace Go.Proofs.Ytjlmajopfeplpaa
open Go.RowKit Go.Shelf

/-- bytes, and a fault: what a writer has, what a reader has left. -/
structure Bs where
  l : Nat
  f : Nat → Nat
  e : Int
/-- what they may be. -/
structure Bs.Ok (S : Bs) : Prop where
  by_ : Pf.By S.f
  up : Pf.Up S.f S.l
/-- what is told of them. -/
def Bs.m (S : Bs) : Nat := if S.e = 0 then S.l else 0
def Bs.g (S : Bs) (i : Nat) : Nat := if S.e = 0 then S.f i else 0
theorem Bs.Ok.gby {S : Bs} (h : S.Ok) : Pf.By S.g := fun i => by
  unfold Bs.g; split
  · exact h.by_ i
  · omega
theorem Bs.Ok.gup {S : Bs} (h : S.Ok) : Pf.Up S.g S.m := fun i hi => by
  unfold Bs.g Bs.m at *; split
  · rw [if_pos (by assumption)] at hi; exact h.up i hi
  · rfl
def Bs.broke (S : Bs) (e : Int) : Bs := ⟨S.l, S.f, e⟩
def Bs.add (S : Bs) (n : Nat) (h : Nat → Nat) : Bs := ⟨S.l + n, cpy S.l n h S.f, S.e⟩
def Bs.num (S : Bs) (n z : Int) : Bs := if S.e ≠ 0 then S else if Fit n z then S.add z.toNat (dg n.toNat z.toNat) else S.broke 2
def Bs.put (S : Bs) (n : Nat) (h : Nat → Nat) : Bs := if S.e ≠ 0 then S else S.add n h
theorem Bs.Ok.add {S : Bs} (h : S.Ok) {n : Nat} {g : Nat → Nat} (hg : Pf.By g) : (S.add n g).Ok :=
  ⟨cpy_by hg h.by_, cpy_up (Nat.le_refl _) (fun i hi => h.up i (by have : S.l + n ≤ i := hi; omega))⟩
theorem Bs.Ok.broke {S : Bs} (h : S.Ok) (e : Int) : (S.broke e).Ok := ⟨h.by_, h.up⟩
theorem Bs.Ok.num {S : Bs} (h : S.Ok) (n z : Int) : (S.num n z).Ok := by
  unfold Bs.num; split
  · exact h
  · split
    · exact h.add (dg_by _ _)
    · exact h.broke 2
theorem Bs.Ok.put {S : Bs} (h : S.Ok) {n : Nat} {g : Nat → Nat} (hg : Pf.By g) : (S.put n g).Ok := by
  unfold Bs.put; split
  · exact h
  · exact h.add hg
theorem Bs.num_len (S : Bs) (n z : Int) : (S.num n z).l ≤ S.l + 4 := by
  unfold Bs.num; split
  · omega
  · split
    · rename_i h; have h1 := h.1; have h2 := h.2.1; show S.l + z.toNat ≤ _; omega
    · show S.l ≤ _; omega
theorem Bs.put_len (S : Bs) (n : Nat) (g : Nat → Nat) : (S.put n g).l ≤ S.l + n := by
  unfold Bs.put; split
  · omega
  · exact Nat.le_refl _

/-- an object that holds a stock. -/
def Box (w : World) (t : TypeId) (p s : Nat) : Prop := w.heap[p]? = some (.cells #[.pointer (some ⟨s, 0, none⟩)] t (0, 0))
theorem Box.lt {w : World} {t : TypeId} {p s : Nat} (h : Box w t p s) : p < w.heap.size := (Array.getElem?_eq_some_iff.1 h).1
theorem Box.c0 {w : World} {t : TypeId} {p s : Nat} (h : Box w t p s) : w.cell? ⟨p, 0, none⟩ = some (.pointer (some ⟨s, 0, none⟩)) := by rw [cell_of_row w p 0 _ _ _ h]; rfl
theorem Box.kept {w w' : World} {t : TypeId} {p s : Nat} (h : Box w t p s) (hk : w'.heap[p]? = w.heap[p]?) : Box w' t p s := hk.trans h
theorem Box.ne {w : World} {t : TypeId} {p s g n cap : Nat} {f : Nat → Nat} (h : Box w t p s) (ht : t ≠ 5) (hb : Bl w g n cap f) : g ≠ p := fun k => by
  obtain ⟨vs, h1, _, _⟩ := hb
  unfold Box at h
  rw [k, h] at h1
  simp at h1
  exact ht h1.2
theorem Box.nes {w : World} {t : TypeId} {p s k l c : Nat} {a : Option Addr} {e : Int} (h : Box w t p s) (hs : Stk w k a l c e) : p ≠ k := fun q => by
  unfold Stk at hs
  unfold Box at h
  rw [← q, h] at hs
  simp at hs

/-- the program's writer. -/
structure Wr (w : World) (B p s : Nat) (a : Option Addr) (c : Nat) (S : Bs) : Prop where
  box : Box w 89 p s
  stk : ∃ l, Stk w s a l c S.e ∧ Rq w B a l c S.f ∧ (S.e = 0 → l = S.l)
  hp : B ≤ p
  hs : B ≤ s
section
variable {w w' : World} {B p s c : Nat} {a : Option Addr} {S : Bs}
theorem Wr.lts (h : Wr w B p s a c S) : s < w.heap.size := by obtain ⟨l, h1, _⟩ := h.stk; exact h1.lt
theorem Wr.lta (h : Wr w B p s a c S) : ∀ g, a = some ⟨g, 0, none⟩ → B ≤ g ∧ g < w.heap.size := by obtain ⟨l, _, h1, _⟩ := h.stk; exact h1.lt
theorem Wr.kept (h : Wr w B p s a c S) (h1 : w'.heap[p]? = w.heap[p]?) (h2 : w'.heap[s]? = w.heap[s]?) (h3 : ∀ g, a = some ⟨g, 0, none⟩ → w'.heap[g]? = w.heap[g]?) : Wr w' B p s a c S := by
  obtain ⟨l, k1, k2, k3⟩ := h.stk
  exact ⟨h.box.kept h1, ⟨l, k1.kept h2, k2.kept fun g e _ => h3 g e, k3⟩, h.hp, h.hs⟩
theorem Wr.same (h : Wr w B p s a c S) (hB : Below w.heap.size w w') : Wr w' B p s a c S :=
  h.kept (hB.block p h.box.lt) (hB.block s h.lts) fun g e => hB.block g (h.lta g e).2
theorem Wr.grown {row : Option Nat} (h : Wr w B p s a c S) (hg : w.grownBy w' row) (h1 : some p ≠ row) (h2 : some s ≠ row) (h3 : ∀ g, a = some ⟨g, 0, none⟩ → some g ≠ row) : Wr w' B p s a c S :=
  h.kept (hg.block p h.box.lt h1) (hg.block s h.lts h2) fun g e => hg.block g (h.lta g e).2 (h3 g e)
end

theorem wstate_any (p s : Nat) (a : Option Addr) (l c : Nat) (e : Int) (w : World) (h : Stk w s a l c e) (hb : Box w 89 p s) :
    Calls Try.prog 63 #[.pointer (some ⟨p, 0, none⟩)] w fun x w' => x = .returned (.int .i64 e) ∧ w' = w := by
  have H := Lib.hid h
  have c0 := hb.c0
  clear h hb
  go_enter Try.func63, Try.ntmps63
  go_wp2_with fail
  refine (sstate_any s a l c e _ H.out).mono ?_
  rintro x w' ⟨rfl, rfl⟩
  go_wp2
  go_ret
  exact ⟨rfl, rfl⟩

/-- what a call of a writer leaves. -/
def Wrote (w : World) (B p s : Nat) (a : Option Addr) (S : Bs) (x : Ending) (w' : World) : Prop :=
  ∃ a' c', x = .returned (.tuple #[]) ∧ Wr w' B p s a' c' S ∧ (∃ b, (b = s ∨ a = some ⟨b, 0, none⟩) ∧ But2 s b w w') ∧ (∀ g, a' = some ⟨g, 0, none⟩ → a = some ⟨g, 0, none⟩ ∨ w.heap.size ≤ g)

end Go.Proofs.Ytjlmajopfeplpaa

namespace Go.Proofs.Ytjlmajopfeplpaa
open Go.RowKit Go.Shelf

theorem Wr.added {w w' : World} {B p s c : Nat} {a : Option Addr} {S : Bs} (h : Wr w B p s a c S) {a2 : Option Addr} {c2 b : Nat} {S2 : Bs} (hs2 : Stk w' s a2 S2.l c2 S2.e) (hR2 : Rq w' B a2 S2.l c2 S2.f) (hb : b = s ∨ a = some ⟨b, 0, none⟩) (hbut : But2 s b w w') : Wr w' B p s a2 c2 S2 := by
  obtain ⟨l, hst, hR, hl0⟩ := h.stk
  refine ⟨h.box.kept (hbut.block p h.box.lt (h.box.nes hst) (fun k => ?_)), ⟨_, hs2, hR2, fun _ => rfl⟩, h.hp, h.hs⟩
  rcases hb with rfl | hb
  · exact h.box.nes hst k
  · subst k
    rcases hR with ⟨r, _⟩ | ⟨g', e', _, hbl, _⟩
    · rw [r] at hb; cases hb
    · rw [e'] at hb; cases hb; exact h.box.ne (by decide) hbl rfl
theorem Wr.failed {w w' : World} {B p s c : Nat} {a : Option Addr} {S : Bs} (h : Wr w B p s a c S) (e : Int) (he : e ≠ 0) (hs2 : Stk w' s none 0 0 e) (hbut : But2 s s w w') : Wr w' B p s none 0 (S.broke e) := by
  obtain ⟨l, hst, hR, hl0⟩ := h.stk
  exact ⟨h.box.kept (hbut.block p h.box.lt (h.box.nes hst) (h.box.nes hst)), ⟨0, hs2, Or.inl ⟨rfl, rfl, rfl⟩, fun k => absurd k he⟩, h.hp, h.hs⟩

set_option maxHeartbeats 4000000 in
set_option maxRecDepth 100000 in
theorem wnum_any (B p s : Nat) (a : Option Addr) (c : Nat) (S : Bs) (n z : Int) (hl : S.l ≤ 900000000) (w : World) (hB : B ≤ w.heap.size) (hW : Wr w B p s a c S) :
    Calls Try.prog 62 #[.pointer (some ⟨p, 0, none⟩), .int .i64 n, .int .i64 z] w (Wrote w B p s a (S.num n z)) := by
  have HW := Lib.hid hW
  obtain ⟨l, hst, hR, hl0⟩ := hW.stk
  have c0 := hW.box.c0
  have HST := Lib.hid hst; have HR := Lib.hid hR
  clear hW hst hR
  by_cases h0 : S.e = 0
  · obtain rfl := hl0 h0
    by_cases hf : Fit n z
    · have he : S.num n z = S.add z.toNat (dg n.toNat z.toNat) := by unfold Bs.num; rw [if_neg (by simp [h0]), if_pos hf]
      rw [he]
      have hff := decide_eq_true hf
      obtain ⟨hz1, hz4, hn0, hn⟩ := hf
      obtain ⟨z, rfl⟩ : ∃ k : Nat, z = k := ⟨z.toNat, by omega⟩
      obtain ⟨n, rfl⟩ : ∃ k : Nat, n = k := ⟨n.toNat, by omega⟩
      rw [Int.toNat_natCast, Int.toNat_natCast]
      have HN := Lib.hid (show n < 256 ^ z by rw [Int.toNat_natCast] at hn; exact_mod_cast hn)
      replace hz1 : 1 ≤ z := by omega
      replace hz4 : z ≤ 4 := by omega
      clear hn hn0 he
      have HFF := Lib.hid hff; clear hff
      go_enter Try.func62, Try.ntmps62
      go_wp2_with fail
      refine (wstate_any p s a _ c _ _ HST.out HW.out.box).mono ?_
      rintro x w' ⟨rfl, rfl⟩
      rw [h0]
      go_wp2_with fail
      refine (fits_any n z _).mono ?_
      rintro x w' ⟨rfl, rfl⟩
      rw [HFF.out]
      go_wp2_with fail
      refine wp_region_held_drew (S := fun W => Box W 89 p s) (by kernel_rfl) (HW.out.box) (fun hHeld => ?_)
      refine wpAnyH_take (i := 0) (oi := ⟨some 18, _, _, _, _, none⟩) (v := (.pointer (some ⟨p, 0, none⟩))) rfl (by kernel_rfl) (by kernel_rfl) (by kernel_rfl) (fun _ _ _ h => h) (Or.inl ⟨by rfl, fun W hW => ?_⟩) (by assumption) ?_
      · go_simp
      simp only [Act.put, List.setIfInBounds_toArray, List.set_cons_zero, List.set_cons_succ]
      refine wpAnyH_take (i := 1) (oi := ⟨some 19, _, _, _, _, none⟩) (v := (.pointer (some ⟨p, 0, none⟩))) rfl (by kernel_rfl) (by kernel_rfl) (by kernel_rfl) (fun _ _ _ h => h) (Or.inl ⟨by rfl, fun W hW => ?_⟩) (by assumption) ?_
      · go_simp
      simp only [Act.put, List.setIfInBounds_toArray, List.set_cons_zero, List.set_cons_succ]
      refine wpAnyH_take (i := 2) (oi := ⟨some 20, _, _, _, _, none⟩) (v := (.pointer (some ⟨p, 0, none⟩))) rfl (by kernel_rfl) (by kernel_rfl) (by kernel_rfl) (fun _ _ _ h => h) (Or.inl ⟨by rfl, fun W hW => ?_⟩) (by assumption) ?_
      · go_simp
      simp only [Act.put, List.setIfInBounds_toArray, List.set_cons_zero, List.set_cons_succ]
      refine wpAnyH_take (i := 3) (oi := ⟨some 21, _, _, _, _, none⟩) (v := (.pointer (some ⟨s, 0, none⟩))) rfl (by kernel_rfl) (by kernel_rfl) (by kernel_rfl) (fun _ _ _ h => h) (Or.inl ⟨by rfl, fun W hW => ?_⟩) (by assumption) ?_
      · have := hW.c0; go_simp
      simp only [Act.put, List.setIfInBounds_toArray, List.set_cons_zero, List.set_cons_succ]
      refine wpAnyH_take (i := 4) (oi := ⟨some 22, _, _, _, _, none⟩) (v := (.int .i64 (n : Nat))) rfl (by kernel_rfl) (by kernel_rfl) (by kernel_rfl) (fun _ _ _ h => h) (Or.inl ⟨by rfl, fun W hW => ?_⟩) (by assumption) ?_
      · go_simp
      simp only [Act.put, List.setIfInBounds_toArray, List.set_cons_zero, List.set_cons_succ]
      refine wpAnyH_take (i := 5) (oi := ⟨some 23, _, _, _, _, none⟩) (v := (.int .i64 (z : Nat))) rfl (by kernel_rfl) (by kernel_rfl) (by kernel_rfl) (fun _ _ _ h => h) (Or.inl ⟨by rfl, fun W hW => ?_⟩) (by assumption) ?_
      · go_simp
      simp only [Act.put, List.setIfInBounds_toArray, List.set_cons_zero, List.set_cons_succ]
      refine wpAnyH_ready (rs := [6]) (by kernel_rfl) (by simp) (AllReadyH.cons rfl (fun KK hKK => ?_) AllReadyH.nil)
      go_simp
      refine (row_any n z hz1 hz4 HN.out _).mono ?_
      rintro e w2 ⟨rfl, hb2, hB2⟩
      dsimp only
      have HB2 := Lib.hid ((Below.refl w'.heap.size w').drew.trans hB2); have HBL := Lib.hid hb2
      refine hKK.out _ _ (HW.out.box.kept (HB2.out.block p HW.out.box.lt)) (fun hHeld => ?_)
      clear hKK KK
      try simp only [Act.put, List.setIfInBounds_toArray, List.set_cons_zero, List.set_cons_succ]
      refine wpAnyH_ready (rs := [7]) (by kernel_rfl) (by simp) (AllReadyH.cons rfl (fun KK hKK => ?_) AllReadyH.nil)
      go_simp
      refine (sadd_any s B a S.l c S.f S.e (some ⟨w'.heap.size, 0, none⟩) z z (dg n z) (by omega) _ (Nat.le_trans hB HB2.out.size) (HST.out.same HB2.out) (HR.out.same HB2.out) (HBL.out.sl (Nat.le_refl _) (by unfold maxLen; omega) (dg_by _ _) (dg_up _ _))).mono ?_
      rintro x w3 ⟨a2, c2, rfl, hs2, hR2, ⟨b, hb, hbut⟩, hold⟩
      dsimp only
      have hfin := (HW.out.same HB2.out).added (S2 := S.add z (dg n z)) hs2 hR2 hb hbut
      refine hKK.out _ _ hfin.box (fun hHeld => ?_)
      refine wpAnyH_done (by kernel_rfl) ?_ _
      go_end0
      refine ⟨a2, c2, rfl, hfin, ⟨b, hb, (But2.of HB2.out).trans hbut⟩, fun g e => ?_⟩
      rcases hold g e with h | h
      · exact Or.inl h
      · exact Or.inr (Nat.le_trans HB2.out.size h)
    · have he : S.num n z = S.broke 2 := by unfold Bs.num; rw [if_neg (by simp [h0]), if_neg hf]
      rw [he]
      have hff := decide_eq_false hf
      have HFF := Lib.hid hff; clear hff
      go_enter Try.func62, Try.ntmps62
      go_wp2_with fail
      refine (wstate_any p s a _ c _ _ HST.out HW.out.box).mono ?_
      rintro x w' ⟨rfl, rfl⟩
      rw [h0]
      go_wp2_with fail
      refine (fits_any n z _).mono ?_
      rintro x w' ⟨rfl, rfl⟩
      rw [HFF.out]
      go_wp2_with fail
      refine (sfail_any s a S.l c S.e 2 _ HST.out).mono ?_
      rintro x w2 ⟨rfl, hs2, hbut⟩
      go_wp2
      go_end0
      exact ⟨none, 0, rfl, HW.out.failed 2 (by decide) hs2 (hbut s), ⟨s, Or.inl rfl, hbut s⟩, fun g e => by cases e⟩
  · have he : S.num n z = S := by unfold Bs.num; rw [if_pos h0]
    rw [he]
    have h1 : (S.e == 0) = false := by simpa using h0
    go_enter Try.func62, Try.ntmps62
    go_wp2_with fail
    refine (wstate_any p s a _ c _ _ HST.out HW.out.box).mono ?_
    rintro x w' ⟨rfl, rfl⟩
    go_wp2
    go_end0
    exact ⟨a, c, rfl, HW.out, ⟨s, Or.inl rfl, But2.refl _ _ _⟩, fun g e => Or.inl e⟩

set_option maxHeartbeats 1000000 in
theorem wnew_any (w : World) :
    Calls Try.prog 44 #[] w fun x w' => ∃ p s, x = .returned (.pointer (some ⟨p, 0, none⟩)) ∧ Wr w' w.heap.size p s none 0 ⟨0, fun _ => 0, 0⟩ ∧ Below w.heap.size w w' := by
  go_enter Try.func44, Try.ntmps44
  go_wp2
  go_ret
  have h1 : Stk (w.alloc (.cells #[.slice none 0 0, .int .i64 0] 88)) w.heap.size none 0 0 0 := heap_alloc_new _ _
  have hB1 := (Below.refl w.heap.size w).alloc (Nat.le_refl _) (.cells #[.slice none 0 0, .int .i64 0] 88)
  have h2 : Box ((w.alloc (.cells #[.slice none 0 0, .int .i64 0] 88)).alloc (.cells #[.pointer (some ⟨w.heap.size, 0, none⟩)] 89)) 89 (w.heap.size + 1) w.heap.size := by
    have := heap_alloc_new (w.alloc (.cells #[.slice none 0 0, .int .i64 0] 88)) (.cells #[.pointer (some ⟨w.heap.size, 0, none⟩)] 89)
    rwa [World.size_alloc] at this
  exact ⟨_, _, rfl, ⟨h2, ⟨0, h1.same ((Below.refl _ _).alloc (Nat.le_refl _) _), Or.inl ⟨rfl, rfl, rfl⟩, fun _ => rfl⟩, Nat.le_succ _, Nat.le_refl _⟩, hB1.alloc (by simp) _⟩
set_option maxHeartbeats 1000000 in
theorem sfirst_any (s : Nat) (a : Option Addr) (l c n : Nat) (f : Nat → Nat) (e : Int) (hn : n ≤ l) (hl : l ≤ 1000000000) (w : World) (hs : Stk w s a l c e) (hS : Sl w a l c f) :
    Calls Try.prog 64 #[.pointer (some ⟨s, 0, none⟩), .int .i64 (n : Nat)] w fun x w' => x = .returned (.slice (some ⟨w.heap.size, 0, none⟩) n n) ∧ Bl w' w.heap.size n n (sub f 0 n) ∧ Below w.heap.size w w' := by
  have HB0 := Lib.hid ((Below.refl w.heap.size w).alloc (Nat.le_refl _) (.cells (madeCells #[.int .u8 0] n) 5))
  have HST := Lib.hid (hs.same HB0.out)
  have HSS := Lib.hid (hS.same HB0.out)
  have HBL := Lib.hid (bl_made w n)
  have c0 := HST.out.c0
  have hmk := hmk8 n (by omega)
  clear hs hS
  go_enter Try.func64, Try.ntmps64
  go_wp2_with (show wpList _ _ _ (⟨some 13, _, _, _, _, _⟩ :: _) _ _; refine wpList_copy_bl (o := ⟨some 13, _, _, _, _, _⟩) rfl (.tmp 8) (.tmp 12) 27 27 rfl 5 Try.underlying27 Try.sizeU8 _ a _ _ l c n rfl rfl (Nat.min_eq_right hn).symm w.heap.size 0 n n (fun _ => 0) f HBL.out (fun _ => HSS.out) (fun _ => rfl) (by omega) (Nat.le_refl _) (fun w3 hb3 hg3 => ?_))
  go_ret
  exact ⟨rfl, hb3.out.congr (fun i hi => by unfold cpy sub; rw [if_pos (by omega), if_pos hi]; simp), ⟨hg3.out.os.trans HB0.out.os, hg3.out.tape.trans HB0.out.tape, hg3.out.output.trans HB0.out.output, Nat.le_trans HB0.out.size hg3.out.size, fun k hk => (hg3.out.block k (by simp; omega) (by simp; omega)).trans (HB0.out.block k hk)⟩⟩
end Go.Proofs.Ytjlmajopfeplpaa

namespace Go.Proofs.Ytjlmajopfeplpaa
open Go.RowKit Go.Shelf

theorem Rq.sl' {w : World} {B l c : Nat} {a : Option Addr} {f : Nat → Nat} (h : Rq w B a l c f) (hb : Pf.By f) (hu : Pf.Up f l) : Sl w a l c f := by
  rcases h with ⟨rfl, rfl, rfl⟩ | ⟨g, rfl, _, hbl, h3, h4⟩
  · exact ⟨Nat.le_refl _, Nat.zero_le _, hb, hu, fun _ => ⟨rfl, rfl⟩, fun _ e => (by cases e), fun _ e => (by cases e)⟩
  · exact hbl.sl h3 h4 hb hu
theorem sub_all {f : Nat → Nat} {l : Nat} (hu : Pf.Up f l) : sub f 0 l = f := funext fun i => by
  unfold sub; split
  · rw [Nat.zero_add]
  · rw [hu i (by omega)]
/-- bytes that are told, and a fault. -/
def Tells (w : World) (m : Nat) (f : Nat → Nat) (e : Int) (x : Ending) (w' : World) : Prop := ∃ a c, x = .returned (.tuple #[.slice a m c, .int .i64 e]) ∧ Nw w' w.heap.size a m c f ∧ Below w.heap.size w w'
set_option maxHeartbeats 1000000 in
theorem wbytes_any (B p s : Nat) (a : Option Addr) (c : Nat) (S : Bs) (hO : S.Ok) (hl : S.l ≤ 900000000) (w : World) (hW : Wr w B p s a c S) :
    Calls Try.prog 46 #[.pointer (some ⟨p, 0, none⟩)] w (Tells w S.m S.g S.e) := by
  have HW := Lib.hid hW
  obtain ⟨l, hst, hR, hl0⟩ := hW.stk
  have c0 := hW.box.c0
  have HST := Lib.hid hst; have HR := Lib.hid hR
  clear hW hst hR
  by_cases h0 : S.e = 0
  · obtain rfl := hl0 h0
    have hm : S.m = S.l := if_pos h0
    have hg : S.g = S.f := funext fun i => if_pos h0
    rw [hm, hg]
    go_enter Try.func46, Try.ntmps46
    go_wp2_with fail
    refine (wstate_any p s a _ c _ _ HST.out HW.out.box).mono ?_
    rintro x w' ⟨rfl, rfl⟩
    rw [h0]
    go_wp2_with fail
    refine wp_region_held_drew (S := fun W => Box W 89 p s) (by kernel_rfl) (HW.out.box) (fun hHeld => ?_)
    refine wpAnyH_take (i := 0) (oi := ⟨some 10, _, _, _, _, none⟩) (v := (.pointer (some ⟨p, 0, none⟩))) rfl (by kernel_rfl) (by kernel_rfl) (by kernel_rfl) (fun _ _ _ h => h) (Or.inl ⟨by rfl, fun W hW => ?_⟩) (by assumption) ?_
    · go_simp
    simp only [Act.put, List.setIfInBounds_toArray, List.set_cons_zero, List.set_cons_succ]
    refine wpAnyH_take (i := 1) (oi := ⟨some 11, _, _, _, _, none⟩) (v := (.pointer (some ⟨p, 0, none⟩))) rfl (by kernel_rfl) (by kernel_rfl) (by kernel_rfl) (fun _ _ _ h => h) (Or.inl ⟨by rfl, fun W hW => ?_⟩) (by assumption) ?_
    · go_simp
    simp only [Act.put, List.setIfInBounds_toArray, List.set_cons_zero, List.set_cons_succ]
    refine wpAnyH_take (i := 2) (oi := ⟨some 12, _, _, _, _, none⟩) (v := (.pointer (some ⟨p, 0, none⟩))) rfl (by kernel_rfl) (by kernel_rfl) (by kernel_rfl) (fun _ _ _ h => h) (Or.inl ⟨by rfl, fun W hW => ?_⟩) (by assumption) ?_
    · go_simp
    simp only [Act.put, List.setIfInBounds_toArray, List.set_cons_zero, List.set_cons_succ]
    refine wpAnyH_take (i := 3) (oi := ⟨some 13, _, _, _, _, none⟩) (v := (.pointer (some ⟨s, 0, none⟩))) rfl (by kernel_rfl) (by kernel_rfl) (by kernel_rfl) (fun _ _ _ h => h) (Or.inl ⟨by rfl, fun W hW => ?_⟩) (by assumption) ?_
    · have := hW.c0; go_simp
    simp only [Act.put, List.setIfInBounds_toArray, List.set_cons_zero, List.set_cons_succ]
    refine wpAnyH_take (i := 4) (oi := ⟨some 14, _, _, _, _, none⟩) (v := (.pointer (some ⟨p, 0, none⟩))) rfl (by kernel_rfl) (by kernel_rfl) (by kernel_rfl) (fun _ _ _ h => h) (Or.inl ⟨by rfl, fun W hW => ?_⟩) (by assumption) ?_
    · go_simp
    simp only [Act.put, List.setIfInBounds_toArray, List.set_cons_zero, List.set_cons_succ]
    refine wpAnyH_take (i := 5) (oi := ⟨some 15, _, _, _, _, none⟩) (v := (.pointer (some ⟨p, 0, none⟩))) rfl (by kernel_rfl) (by kernel_rfl) (by kernel_rfl) (fun _ _ _ h => h) (Or.inl ⟨by rfl, fun W hW => ?_⟩) (by assumption) ?_
    · go_simp
    simp only [Act.put, List.setIfInBounds_toArray, List.set_cons_zero, List.set_cons_succ]
    refine wpAnyH_take (i := 6) (oi := ⟨some 16, _, _, _, _, none⟩) (v := (.pointer (some ⟨p, 0, none⟩))) rfl (by kernel_rfl) (by kernel_rfl) (by kernel_rfl) (fun _ _ _ h => h) (Or.inl ⟨by rfl, fun W hW => ?_⟩) (by assumption) ?_
    · go_simp
    simp only [Act.put, List.setIfInBounds_toArray, List.set_cons_zero, List.set_cons_succ]
    refine wpAnyH_take (i := 7) (oi := ⟨some 17, _, _, _, _, none⟩) (v := (.pointer (some ⟨s, 0, none⟩))) rfl (by kernel_rfl) (by kernel_rfl) (by kernel_rfl) (fun _ _ _ h => h) (Or.inl ⟨by rfl, fun W hW => ?_⟩) (by assumption) ?_
    · have := hW.c0; go_simp
    simp only [Act.put, List.setIfInBounds_toArray, List.set_cons_zero, List.set_cons_succ]
    refine wpAnyH_ready (rs := [8]) (by kernel_rfl) (by simp) (AllReadyH.cons rfl (fun KK hKK => ?_) AllReadyH.nil)
    go_simp
    refine (smany_any s a S.l c _ w'.drew HST.out).mono ?_
    rintro e w2 ⟨rfl, rfl⟩
    dsimp only
    refine hKK.out _ _ (HW.out.box) (fun hHeld => ?_)
    clear hKK KK
    try simp only [Act.put, List.setIfInBounds_toArray, List.set_cons_zero, List.set_cons_succ]
    refine wpAnyH_ready (rs := [9]) (by kernel_rfl) (by simp) (AllReadyH.cons rfl (fun KK hKK => ?_) AllReadyH.nil)
    go_simp
    refine (sfirst_any s a S.l c S.l S.f _ (Nat.le_refl _) (by omega) w'.drew HST.out (Sl.drewN (HR.out.sl' hO.by_ hO.up) 1)).mono ?_
    rintro e w3 ⟨rfl, hb2, hB2⟩
    dsimp only
    refine hKK.out _ _ (HW.out.box.kept (hB2.block p HW.out.box.lt)) (fun hHeld => ?_)
    clear hKK KK
    try simp only [Act.put, List.setIfInBounds_toArray, List.set_cons_zero, List.set_cons_succ]
    refine wpAnyH_take (i := 10) (oi := ⟨some 2, _, _, _, _, none⟩) (v := (.slice (some ⟨w'.heap.size, 0, none⟩) S.l S.l)) rfl (by kernel_rfl) (by kernel_rfl) (by kernel_rfl) (fun _ _ _ h => h) (Or.inl ⟨by rfl, fun W hW => ?_⟩) (by assumption) ?_
    · go_simp
    simp only [Act.put, List.setIfInBounds_toArray, List.set_cons_zero, List.set_cons_succ]
    refine wpAnyH_take (i := 11) (oi := ⟨some 3, _, _, _, _, none⟩) (v := (.int .i64 0)) rfl (by kernel_rfl) (by kernel_rfl) (by kernel_rfl) (fun _ _ _ h => h) (Or.inl ⟨by rfl, fun W hW => ?_⟩) (by assumption) ?_
    · go_simp
    simp only [Act.put, List.setIfInBounds_toArray, List.set_cons_zero, List.set_cons_succ]
    refine wpAnyH_done (by kernel_rfl) ?_ _
    go_wp2
    go_ret2
    rw [sub_all hO.up] at hb2
    exact ⟨some ⟨w'.heap.size, 0, none⟩, S.l, by rw [h0]; rfl, ⟨hb2.sl (Nat.le_refl _) (by unfold maxLen; omega) hO.by_ hO.up, hb2.ow (Nat.le_refl _)⟩, (Below.refl _ w').drew.trans hB2⟩
  · have hm : S.m = 0 := if_neg h0
    have hg : S.g = fun _ => 0 := funext fun i => if_neg h0
    rw [hm, hg]
    have h1 : (S.e == 0) = false := by simpa using h0
    go_enter Try.func46, Try.ntmps46
    go_wp2_with fail
    refine (wstate_any p s a _ c _ _ HST.out HW.out.box).mono ?_
    rintro x w' ⟨rfl, rfl⟩
    go_wp2
    go_ret2
    exact ⟨none, 0, rfl, Nw.nil _ _ (fun _ => rfl), Below.refl _ _⟩
end Go.Proofs.Ytjlmajopfeplpaa
