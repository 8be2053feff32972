import Derived.RangeFuncNested
import Derived.RangeFuncBox
import Derived.RangeFuncBound
import Derived.RangeFuncCalls
import Derived.RangeFuncLeaves
import Derived.Shelf.Abstract
import Derived.OwnWalkIn
import Derived.TacticsInMore
import Derived.LoopNIn
import Derived.LoopIn
import Derived.Test.YtjlmajopfeplpaaMg13
namespace Go.Proofs.Ytjlmajopfeplpaa.Nt
open Go.RowKit Go.Shelf
attribute [local go_sem] Oper.semAt_some

/-- one of those that are told: its place. -/
structure Tk (n : Nat) where
  i : Nat
  hi : i < n
theorem grown_t {A B C : World} {r : Option Nat} (h : A.grownBy B r) (k : B.grownBy C r) : A.grownBy C r :=
  ⟨k.os.trans h.os, k.tape.trans h.tape, k.output.trans h.output, Nat.le_trans h.size k.size, fun i hi hr => (k.block i (Nat.lt_of_lt_of_le hi h.size) hr).trans (h.block i hi hr)⟩
/-- what turned lies behind w. -/
theorem grown_past {w A B : World} {r s : Option Nat} (h : w.grownBy A r) (k : A.grownBy B s) (hs : ∀ i, s = some i → w.heap.size ≤ i) : w.grownBy B r :=
  ⟨k.os.trans h.os, k.tape.trans h.tape, k.output.trans h.output, Nat.le_trans h.size k.size, fun i hi hr => (k.block i (Nat.lt_of_lt_of_le hi h.size) (fun e => by have := hs i e.symm; omega)).trans (h.block i hi hr)⟩
theorem bx_past {W : World} {b g i : Nat} {t : TypeId} {v u : Value} (h : Boxed W b t v) (hne : b ≠ g) : Boxed (W.setCell ⟨g, i, none⟩ u) b t v :=
  (heap_setCell_other W ⟨g, i, none⟩ b u hne).trans h
theorem heap_kp {X Y : World} {row : Option Nat} {k : Nat} {cs : Array Value} {t : TypeId} {z : Nat × Nat} (h : X.heap[k]? = some (.cells cs t z)) (hg : X.grownBy Y row) (hr : ∀ r, row = some r → ∃ o : Obj, X.heap[r]? = some o ∧ o.isCells = false) : Y.heap[k]? = some (.cells cs t z) :=
  (hg.block k (Array.getElem?_eq_some_iff.1 h).1 (fun e => by obtain ⟨o, ho, hc⟩ := hr k e.symm; rw [h] at ho; cases ho; cases hc)).trans h
theorem below_grown {w w' : World} (h : Below w.heap.size w w') (row : Option Nat) : w.grownBy w' row := ⟨h.os, h.tape, h.output, h.size, fun k hk _ => h.block k hk⟩
theorem rng_snoc {n : Nat} {pre : List (Tk n)} {x : Tk n} {k' : Nat} (h : (pre ++ [x]).map Tk.i = List.range k') : ∃ k, k' = k + 1 ∧ pre.map Tk.i = List.range k ∧ x.i = k := by
  cases k' with
  | zero => simp at h
  | succ k =>
    rw [List.range_succ, List.map_append] at h
    have h2 := List.append_inj' h rfl
    refine ⟨k, rfl, h2.1, ?_⟩
    have := h2.2
    simpa using this
theorem rng_nil {n k : Nat} (h : ([] : List (Tk n)).map Tk.i = List.range k) : k = 0 := by
  have := congrArg List.length h
  simpa using this.symm

/-- what told's function reads: a report in its box, its counts. -/
structure Gn (bs : Nat) (h : Mn) (a : Option Addr) (c : Nat) (W : World) : Prop where
  blk : NAt W bs h a c
  tb : Tb W a h.m h.C h.T
section
variable {bs c : Nat} {h : Mn} {a : Option Addr} {W W' : World}
theorem Gn.same (g : Gn bs h a c W) (hB : Below W.heap.size W W') : Gn bs h a c W' := ⟨g.blk.same hB, g.tb.same hB⟩
theorem Gn.own {row : Option Nat} (g : Gn bs h a c W) (hg : W.grownBy W' row) (hr : ∀ r, row = some r → ∃ o : Obj, W.heap[r]? = some o ∧ o.isCells = false) : Gn bs h a c W' := ⟨heap_kp g.blk hg hr, g.tb.own hg hr⟩
end
def KpN (bs : Nat) (h : Mn) (a : Option Addr) (c : Nat) (W W' : World) : Prop := Gn bs h a c W → Gn bs h a c W'
theorem kpN_t {bs c : Nat} {h : Mn} {a : Option Addr} {A B C : World} (p : KpN bs h a c A B) (q : KpN bs h a c B C) : KpN bs h a c A C := fun g => q (p g)
theorem kpN_b {bs c : Nat} {h : Mn} {a : Option Addr} {w : World} (W : World) (l : Nat) (o o' : Obj) (_ : w.heap.size ≤ l) (hl : W.heap[l]? = some o) (hc : o.isCells = false) (_ : o.isWalk = false) : KpN bs h a c W (W.putObj l o') :=
  fun g => g.own (grownBy_putObj' W l o') (fun r e => by cases e; exact ⟨o, hl, hc⟩)
theorem tb_other {W W' : World} {a : Option Addr} {n : Nat} {K L : Nat → Int} (s : Tb W a n K L) (hk : ∀ b o, a = some ⟨b, o, none⟩ → W'.heap[b]? = W.heap[b]?) : Tb W' a n K L := ⟨fun i hi => by
  obtain ⟨b, o, e, h1, h2⟩ := s.cell i hi
  exact ⟨b, o, e, (World.cell?_of_block (a := ⟨b, o + i * 2, none⟩) (hk b o e)).trans h1, (World.cell?_of_block (a := ⟨b, o + i * 2 + 1, none⟩) (hk b o e)).trans h2⟩⟩
/-- what comes at a place. -/
def encN (h : Mn) (i : Nat) : Array Value := #[.int .i64 (h.C i), .int .i64 (h.T i)]
/-- how many come. -/
def Many (h : Mn) (nk : Nat) : Prop := (RN h ∧ nk = h.m) ∨ (¬ RN h ∧ nk = 0)
theorem many (h : Mn) : ∃ nk, Many h nk := by
  by_cases hr : RN h
  · exact ⟨h.m, Or.inl ⟨hr, rfl⟩⟩
  · exact ⟨0, Or.inr ⟨hr, rfl⟩⟩

set_option maxRecDepth 100000 in
set_option maxHeartbeats 2000000 in
/-- told's function. -/
theorem told1_in (m0 : Nat) (l bs : Nat) (h : Mn) (a : Option Addr) (c : Nat) (hm : h.m ≤ 140737488355328) (nk : Nat) (hnk : Many h nk) (J Jx : List (Tk nk) → World → Prop)
    (hJ : ∀ s W W', Below W.heap.size W W' → J s W → J s W')
    (hY : ∀ pre x W, J pre W → pre.length < nk → YieldAt Fence.wide (m0 - 1) Try.prog l (encN h x.i) W fun e W' =>
      (e = .returned (.bool true) ∧ J (pre ++ [x]) W' ∧ KpN bs h a c W W') ∨ (e = .returned (.bool false) ∧ Jx (pre ++ [x]) W'))
    (W : World) (hG : Gn bs h a c W) (h0 : J [] W) :
    CallsIn Fence.wide m0 Try.prog 47 #[.func (.yield l) #[] #[], .pointer (some ⟨bs, 0, none⟩)] W fun e W' => (∃ v, e = .returned v) ∧
      ((∃ ys : List (Tk nk), ys.map Tk.i = List.range nk ∧ J ys W') ∨ (∃ pre : List (Tk nk), (∃ k, k ≤ nk ∧ pre.map Tk.i = List.range k) ∧ Jx pre W')) := by
  have hW : ∀ k, Fence.wide.fn k := fun _ => trivial
  have hD : Fence.wide.depth = none := rfl
  obtain ⟨c0, c1, c2, c3⟩ := hG.blk.c
  have HG := Lib.hid hG; clear hG
  have HPR := Lib.hid (fun W hT => pright_any h a c hm W hT)
  have HNK := Lib.hid hnk; clear hnk
  unfold nV at HPR
  refine callsIn_of_wp Try.func47 rfl trivial ?_ rfl
  simp only [Try.ntmps47, List.size_toArray, List.length_cons, List.length_nil, Nat.reduceAdd, Nat.reduceSub, Array.replicate_succ, Array.replicate_zero, List.push_toArray, List.append_toArray, List.nil_append, List.cons_append]
  gi_wp2_with fail
  refine (callsIn_wide.2 (HPR.out W HG.out.tb)).mono ?_
  rintro e W1 ⟨⟨v, rfl, hv⟩, hB1⟩
  have HG1 := Lib.hid (HG.out.same hB1); have HJ1 := Lib.hid (hJ _ _ _ hB1 h0); have HV := Lib.hid hv
  clear hB1 hv c0 c1 c2 c3 h0
  cases v
  · have HN := Lib.hid (show nk = 0 by
      rcases HNK.out with ⟨q, _⟩ | ⟨_, q⟩
      · exact absurd (HV.out.2 q) (by simp)
      · exact q)
    gi_wp2
    refine bodyPost_ret (results_none rfl _ _ _) rfl ?_
    exact ⟨⟨_, rfl⟩, .inl ⟨[], by rw [HN.out]; rfl, HJ1.out⟩⟩
  have hR : RN h := by first | exact HV.out.1 rfl | exact HV.out.1 trivial
  have hkm : nk = h.m := by
    rcases HNK.out with ⟨_, q⟩ | ⟨q, _⟩
    · exact q
    · exact absurd hR q
  have HKM := Lib.hid hkm
  clear hR
  obtain ⟨c0, c1, c2, c3⟩ := HG1.out.blk.c
  gi_wp2_with fail
  clear c0 c1 c2 c3
  gi_loopw [4, 11] (fun _ i wr => ∃ k : Nat, k ≤ h.m ∧ i = .int .i64 (k : Nat) ∧ (∃ pre : List (Tk nk), pre.map Tk.i = List.range k ∧ J pre wr) ∧ Gn bs h a c wr)
    (fun _ i _ => h.m - (intOf i).toNat)
  case atStart => exact ⟨0, Nat.zero_le _, rfl, ⟨[], rfl, HJ1.out⟩, HG1.out⟩
  case round =>
    rename_i wr
    obtain ⟨k, hk1, rfl, ⟨pre, hp, hJs⟩, hG⟩ := hrel
    have hlen : pre.length = k := by have := congrArg List.length hp; rwa [List.length_map, List.length_range] at this
    have HP := Lib.hid hp
    clear hp
    by_cases hkn : k < h.m
    · have i1 : (k : Int) < (h.m : Int) := by omega
      obtain ⟨b, o, ea, d0, d1⟩ := hG.tb.cell k hkn
      subst ea
      have HG2 := Lib.hid hG; have HJ := Lib.hid hJs
      have hknk : k < nk := by rw [hkm]; exact hkn
      have hpl : pre.length < nk := by rw [hlen]; exact hknk
      have HYY := Lib.hid (fun W hJ' => hY pre ⟨k, hknk⟩ W hJ' hpl)
      obtain ⟨x, hx⟩ : ∃ x, x = h.C k := ⟨_, rfl⟩
      obtain ⟨y, hy⟩ : ∃ y, y = h.T k := ⟨_, rfl⟩
      have hX : Below wr.heap.size wr (wr.alloc (.cells #[.int .i64 x, .int .i64 y] 41)) := (Below.refl _ _).alloc (Nat.le_refl _) _
      have HX := Lib.hid hX
      obtain ⟨fn, tmps, assign, body, hyy, hR⟩ := HYY.out _ (hJ _ _ _ HX.out HJ.out)
      simp only [encN, ← hx, ← hy] at hyy
      rw [← hx] at d0
      rw [← hy] at d1
      have HK1 := Lib.hid hkn
      clear hG hJs hY hx hy hX HYY
      have HLE := Lib.hid hlen; have HNN := Lib.hid hknk
      clear hlen hkm
      gi_wp2_with fail
      refine hR.mono ?_
      rintro e W4 (⟨rfl, hJ3, hk3⟩ | ⟨rfl, hJx3⟩)
      · have HG3 := Lib.hid (hk3 (HG2.out.same HX.out)); have HJ3 := Lib.hid hJ3
        clear hk3 hJ3 hyy hR
        gi_wp2
        go_roundw
        case rel => exact ⟨k + 1, by have := HK1.out; omega, by go_num, ⟨_, by rw [List.range_succ, List.map_append, HP.out]; rfl, HJ3.out⟩, HG3.out⟩
        case measure => simp [intOf]; omega
      · clear hyy hR
        gi_wp2
        refine bodyPost_ret (results_none rfl _ _ _) rfl ?_
        exact ⟨⟨_, rfl⟩, .inr ⟨_, ⟨k + 1, by have := HK1.out; have := HKM.out; omega, by rw [List.range_succ, List.map_append, HP.out]; rfl⟩, hJx3⟩⟩
    · have HKK := Lib.hid (show k = nk by omega)
      have i1 : ¬ (k : Int) < (h.m : Int) := by omega
      clear hkm hlen
      gi_wp2
      go_end0
      exact ⟨⟨_, rfl⟩, .inl ⟨pre, by rw [HP.out, HKK.out], hJs⟩⟩
/-- told's value. -/
theorem told_stops (m0 bs : Nat) (h : Mn) (a : Option Addr) (c : Nat) (hm : h.m ≤ 140737488355328) (nk : Nat) (hnk : Many h nk) (w : World) (hG : Gn bs h a c w) :
    SeqStopsK Fence.wide m0 Try.prog 47 #[.pointer (some ⟨bs, 0, none⟩)] (fun x : Tk nk => encN h x.i) (KpN bs h a c) (fun ys => ys.map Tk.i = List.range nk) (fun pre => ∃ k, k ≤ nk ∧ pre.map Tk.i = List.range k) nk w := fun l J Jx W hW hJ _ hY h0 =>
  told1_in m0 l bs h a c hm nk hnk J Jx (fun s W1 W2 hB hs => hJ s _ _ none hs (below_grown hB none) (fun _ e => by cases e)) hY W (hG.same hW) h0
set_option maxHeartbeats 1000000 in
theorem told_any (h : Mn) (a : Option Addr) (c : Nat) (w : World) (hT : Tb w a h.m h.C h.T) :
    Calls Try.prog 30 #[nV h a c] w fun e w' => e = .returned (.func (.func 47) #[] #[.pointer (some ⟨w.heap.size, 0, none⟩)]) ∧ Gn w.heap.size h a c w' ∧ Below w.heap.size w w' := by
  have HX := Lib.hid (show NAt (w.alloc (.cells #[.int .i64 h.S, .int .i64 h.Q, .int .i64 h.N, .slice a h.m c] 24)) w.heap.size h a c from heap_alloc_new _ _)
  have HB := Lib.hid ((Below.refl w.heap.size w).alloc (Nat.le_refl _) (.cells #[.int .i64 h.S, .int .i64 h.Q, .int .i64 h.N, .slice a h.m c] 24))
  have HT := Lib.hid hT
  clear hT
  unfold nV
  go_enter Try.func30, Try.ntmps30
  go_wp2
  go_ret
  exact ⟨rfl, ⟨HX.out, HT.out.same HB.out⟩, HB.out⟩
end Go.Proofs.Ytjlmajopfeplpaa.Nt

namespace Go.Proofs.Ytjlmajopfeplpaa.Nt
open Go.RowKit Go.Shelf

/-- how a body that always goes on is left. -/
def goesOn {α : Type} (Kp : World → World → Prop) (I : List α → World → Prop) (xs : List α) (W : World) : Exit → Act → World → Prop
  | .normal, _, W' => KeepsOthers W W' ∧ Kp W W' ∧ I xs W'
  | _, _, _ => False
/-- what the loop's own two blocks are. -/
def Bk (D : Nat) (r : Loop) (W : World) : Prop := W.heap[D + 1]? = some (.loop r) ∧ W.heap[D]? = some (.deferred (some []))
theorem Bk.kept {D : Nat} {r : Loop} {A B : World} (h : Bk D r A) (k : KeepsOthers A B) : Bk D r B := ⟨k.same _ _ h.1 rfl, k.same _ _ h.2 rfl⟩
theorem Bk.put {D : Nat} {r r' : Loop} {A : World} (h : Bk D r A) : Bk D r' (A.putObj (D + 1) (.loop r')) :=
  ⟨World.putObj_heap_same (Array.getElem?_eq_some_iff.1 h.1).1, (World.putObj_heap_other (by omega)).trans h.2⟩
/-- a range over a function whose iterator writes, too: the iterator is walked at the very invariant of the loop; the body always goes on. -/
theorem range_all {F : Fence} {n : Nat} {P : Program} {α : Type} {g : Operand} {ps : Array Tmp} {assign body : Code} {Q : Exit → Act → World → Prop} {a : Act} {w : World}
    (hro : F.round = none) (h1 : 1 ≤ n) {gf : Nat} {lb : Array Value} (hg : a.eval g = .func (.func gf) #[] lb) (hFg : F.fn gf) (eg : ∀ args w, (callFunc gf args).run P w = .ok (.enter gf args) w)
    {encs : α → Array Value} (hps : ∀ x, (encs x).size = ps.size) (Kp : World → World → Prop) (hKt : ∀ {A B C : World}, Kp A B → Kp B C → Kp A C) (hKb : ∀ (A : World) (l : Nat) (o o' : Obj), w.heap.size ≤ l → A.heap[l]? = some o → o.isCells = false → Kp A (A.putObj l o'))
    (Nn : Nat) (I E : List α → World → Prop) (St : World → Prop) (hSt : ∀ A B row, St A → A.grownBy B row → (∀ r, row = some r → w.heap.size ≤ r ∧ ∃ o : Obj, A.heap[r]? = some o ∧ o.isCells = false) → St B) (hs0 : St w)
    (hE : ∀ s A B row, E s A → A.grownBy B row → (∀ r, row = some r → w.heap.size ≤ r ∧ ∃ o : Obj, A.heap[r]? = some o ∧ o.isCells = false) → E s B)
    (hI : ∀ s A B row, I s A → A.grownBy B row → (∀ r, row = some r → w.heap.size ≤ r ∧ ∃ o : Obj, A.heap[r]? = some o ∧ o.isCells = false) → I s B) (h0 : I [] w)
    (hseq : ∀ (l : Nat) (W1 : World) (Pk : World → Prop), (∀ A B, Pk A → KeepsOthers A B → Pk B) → Pk W1 → St W1 → I [] W1 →
      (∀ pre x W, I pre W → Pk W → pre.length < Nn → YieldAt F (n - 1 - 1) P l (encs x) W fun e W' => e = .returned (.bool true) ∧ I (pre ++ [x]) W' ∧ Pk W' ∧ Kp W W') →
      CallsIn F (n - 1) P gf (#[.func (.yield l) #[] #[]] ++ lb) W1 fun e W' => (∃ v, e = .returned v) ∧ ∃ xs, E xs W' ∧ Pk W')
    (A1 : α → Act → World → Prop) (hA : ∀ x a' A B row, A1 x a' A → A.grownBy B row → (∀ r, row = some r → w.heap.size ≤ r ∧ ∃ o : Obj, A.heap[r]? = some o ∧ o.isCells = false) → A1 x a' B)
    (hassign : ∀ (l : Nat) (pre : List α) (x : α) (W : World) (K : Act → World → Prop), I pre W → (∀ a' W', KeepsOthers W W' → Kp W W' → I pre W' → A1 x a' W' → K a' W') →
      assign.wpIn (F.inRound l) (n - 1 - 1) P (Exit.then K (fun _ _ _ => False)) { tmps := (ps.zip (encs x)).foldl (fun t (p, v) => t.setIfInBounds p v) a.tmps, defers := [] } W)
    (hbody : ∀ (l : Nat) (pre : List α) (x : α) (a' : Act) (W : World), I pre W → pre.length < Nn → A1 x a' W → body.wpIn (F.inRound l) (n - 1 - 1) P (goesOn Kp I (pre ++ [x]) W) a' W)
    (hdone : ∀ (D : Nat) (xs : List α) (W : World), w.heap.size ≤ D → E xs W → W.heap[D]? = some (.deferred (some [])) → Q .normal { a with defers := { target := .collected D, args := #[] } :: a.defers } W) :
    (Code.rangeFunc g ps assign body).wpIn F n P Q a w := by
  refine wpIn_rangeFunc fun fn hfn => ?_
  rw [hro]
  obtain ⟨D, hD⟩ : ∃ D, D = w.heap.size := ⟨_, rfl⟩
  let lp : LoopState → Loop := fun st => { state := st, pending := none, fn, tmps := a.tmps, params := ps, assign, body, defers := w.heap.size }
  obtain ⟨W1, hW1⟩ : ∃ W1, W1 = (w.alloc (.deferred (some []))).alloc (.loop (lp .ready)) := ⟨_, rfl⟩
  have hbk : Bk D (lp .ready) W1 := by
    rw [hW1, hD]
    have e := World.alloc_heap_new (w.alloc (.deferred (some []))) (.loop (lp .ready))
    rw [World.size_alloc] at e
    exact ⟨e, (Below.heap_alloc _ _ _ (by simp)).trans (World.alloc_heap_new w _)⟩
  have hi1 : I [] W1 := by
    rw [hW1]
    exact hI _ _ _ none (hI _ _ _ none h0 (World.grownBy_alloc w _ _) (fun _ e => by cases e)) (World.grownBy_alloc _ _ _) (fun _ e => by cases e)
  have hs1 : St W1 := by
    rw [hW1]
    exact hSt _ _ none (hSt _ _ none hs0 (World.grownBy_alloc w _ _) (fun _ e => by cases e)) (World.grownBy_alloc _ _ _) (fun _ e => by cases e)
  have put : ∀ {s : List α} {A : World} {r r' : Loop}, I s A → Bk D r A → I s (A.putObj (D + 1) (.loop r')) := fun hi hb =>
    hI _ _ _ (some (D + 1)) hi (grownBy_putObj' _ _ _) (fun r e => by cases e; exact ⟨by omega, _, hb.1, rfl⟩)
  refine ⟨w.heap.size + 1, [{ target := .collected w.heap.size, args := #[] }], W1, { target := .fn (.func gf) lb, args := #[.func (.yield (w.heap.size + 1)) #[] #[]] }, W1, gf,
    #[.func (.yield (w.heap.size + 1)) #[] #[]] ++ lb, W1, by rw [hW1]; exact run_enterLoop_outer _ _ _ _ _, by simp only [resolve, hg]; simp [go_sem], fun f' hf' => by simp [Target.leads] at hf'; subst hf'; exact hFg, by simp [invoke, go_sem, eg], fun _ => h1, ?_⟩
  rw [← hD]
  refine (hseq (D + 1) W1 (Bk D (lp .ready)) (fun A B p k => p.kept k) hbk hs1 hi1 ?_).mono ?_
  · intro pre x W hi hb hln
    have hy := run_yield (P := P) (args := encs x) hb.1 (hps x)
    refine ⟨fn, _, assign, body, hy, roundIn_of_wpIn hfn (hassign _ pre x W _ hi fun a' V hko hkp hi' ha => ?_)⟩
    have hbv := hb.kept hko
    refine ⟨_, run_beginRound hbv.1 rfl, ?_⟩
    have hrow : ∀ r, some (D + 1) = some r → w.heap.size ≤ r ∧ ∃ o : Obj, V.heap[r]? = some o ∧ o.isCells = false := fun r e => by cases e; exact ⟨by omega, _, hbv.1, rfl⟩
    refine wpIn_mono (hbody _ pre x a' _ (put (r' := lp .busy) hi' hbv) hln (hA x a' V _ _ ha (grownBy_putObj' _ _ _) hrow)) ?_
    intro e a3 W3 hp
    cases e with
    | normal =>
      have hb2 := hbv.put (r' := lp .busy)
      have hb3 := hb2.kept hp.1
      exact ⟨_, _, run_endRound (P := P) none hb3.1, rfl, put hp.2.2 hb3, hb3.put (r' := lp .ready), hKt hkp (hKt (hKt (hKb _ _ _ _ (by omega) hbv.1 rfl) hp.2.1) (hKb _ _ _ _ (by omega) hb3.1 rfl))⟩
    | _ => exact hp.elim
  · rintro e W2 ⟨⟨v, rfl⟩, xs, hi, hb⟩
    exact ⟨none, _, run_endLoop (P := P) hb.1 (by simp [lp]), hdone D xs _ (by omega) (hE _ _ _ (some (D + 1)) hi (grownBy_putObj' _ _ _) (fun r e => by cases e; exact ⟨by omega, _, hb.1, rfl⟩)) (hb.put (r' := { lp .ready with state := .exhausted })).2⟩
end Go.Proofs.Ytjlmajopfeplpaa.Nt

namespace Go.Proofs.Ytjlmajopfeplpaa.Nt
open Go.RowKit Go.Shelf
attribute [local go_sem] Oper.semAt_some

/-- as sum goes through the counts. -/
structure SuS (w W : World) (v : Int) : Prop where
  v : Boxed W (w.heap.size + 1) 3 (.int .i64 v)
  be : Below w.heap.size w W
theorem SuS.kep {w W W' : World} {v : Int} {row : Option Nat} (s : SuS w W v) (hg : W.grownBy W' row) (hr : ∀ r, row = some r → w.heap.size ≤ r ∧ ∃ o : Obj, W.heap[r]? = some o ∧ o.isCells = false) : SuS w W' v :=
  ⟨heap_kp s.v hg (fun r e => (hr r e).2), s.be.grown hg s.be.size (fun k e => (hr k e).1)⟩
theorem SuS.set {w W : World} {v v' : Int} (s : SuS w W v) : SuS w (W.setCell ⟨w.heap.size + 1, 0, none⟩ (.int .i64 v')) v' := ⟨s.v.set _, s.be.setCell (p := ⟨w.heap.size + 1, 0, none⟩) (by simp) _⟩
theorem Gn.set {bs c : Nat} {h : Mn} {a : Option Addr} {W : World} {g : Nat} {v u : Value} (q : Gn bs h a c W) (_hb : Boxed W g 3 u) (hf : g ≠ bs) (hd : ∀ b o, a = some ⟨b, o, none⟩ → b ≠ g) : Gn bs h a c (W.setCell ⟨g, 0, none⟩ v) :=
  ⟨(heap_setCell_other W ⟨g, 0, none⟩ bs v (fun e => hf e.symm)).trans q.blk, tb_other q.tb fun b o e => heap_setCell_other W ⟨g, 0, none⟩ b v (hd b o e)⟩
/-- a table's block is older. -/
theorem tb_lt {W : World} {a : Option Addr} {n : Nat} {K L : Nat → Int} (s : Tb W a n K L) (h0 : 0 < n) : ∀ b o, a = some ⟨b, o, none⟩ → b < W.heap.size := fun b o e => by
  obtain ⟨b', o', e', h1, _⟩ := s.cell 0 h0
  rw [e] at e'
  cases e'
  exact World.block_lt_of_cell? _ _ h1
theorem Gn.setN {bs c : Nat} {h : Mn} {a : Option Addr} {w W : World} {g : Nat} {v u : Value} (q : Gn bs h a c W) (hb : Boxed W g 3 u) (hf : g ≠ bs) (hT : Tb w a h.m h.C h.T) (hg : w.heap.size ≤ g) : Gn bs h a c (W.setCell ⟨g, 0, none⟩ v) := by
  by_cases h0 : 0 < h.m
  · exact q.set hb hf (fun b o e => by have := tb_lt hT h0 b o e; omega)
  · exact ⟨(heap_setCell_other W ⟨g, 0, none⟩ bs v (fun e => hf e.symm)).trans q.blk, ⟨fun i hi => absurd hi (by omega)⟩⟩

set_option maxRecDepth 100000 in
set_option maxHeartbeats 4000000 in
theorem psum_any (h : Mn) (a : Option Addr) (c : Nat) (hm : h.m ≤ 140737488355328) (w : World) (hT : Tb w a h.m h.C h.T) :
    Calls Try.prog 15 #[nV h a c] w fun e w' => e = .returned (.int .i64 (sumN h)) ∧ Below w.heap.size w w' := by
  refine (callsIn_wide (n := 6)).1 ?_
  have hW : ∀ k, Fence.wide.fn k := fun _ => trivial
  have hD : Fence.wide.depth = none := rfl
  have HT := Lib.hid hT
  obtain ⟨nk, hnk⟩ := many h
  have HNK := Lib.hid hnk
  have HTO := Lib.hid (fun W hT => told_any h a c W hT)
  unfold nV at HTO ⊢
  have HE := Lib.hid (show sumT h.T nk = sumN h by
    rcases hnk with ⟨q, e⟩ | ⟨q, e⟩
    · rw [sumN_yes q, e]
    · rw [sumN_no q, e]; rfl)
  have HLE := Lib.hid (show nk ≤ 255 ∧ ∀ i, i < nk → 1 ≤ h.T i ∧ h.T i ≤ 65535 from by
    rcases hnk with ⟨q, e⟩ | ⟨q, e⟩
    · exact ⟨by rw [e]; exact rn_few q, fun i hi => ⟨(q.2.2.2 i (by omega)).2.2.1, (q.2.2.2 i (by omega)).2.2.2.1⟩⟩
    · exact ⟨by omega, fun i hi => absurd hi (by omega)⟩)
  generalize sumN h = E at *
  clear hT hnk
  refine callsIn_of_wp_marks Try.func15 rfl trivial ?_ rfl
  simp only [Try.ntmps15, List.size_toArray, List.length_cons, List.length_nil, Nat.reduceAdd, Nat.reduceSub, Array.replicate_succ, Array.replicate_zero, List.push_toArray, List.append_toArray, List.nil_append, List.cons_append]
  gi_wp2_with fail
  obtain ⟨w1, hw1⟩ : ∃ w1, w1 = (w.alloc (.cells #[.int .i64 h.S, .int .i64 h.Q, .int .i64 h.N, .slice a h.m c] 24)).alloc (.cells #[.int .i64 0] 3) := ⟨_, rfl⟩
  rw [← hw1]
  have hS1 : SuS w w1 0 := by
    rw [hw1]
    refine ⟨?_, ((Below.refl _ w).alloc (Nat.le_refl _) _).alloc (by simp) _⟩
    have := Boxed.new (w.alloc (.cells #[.int .i64 h.S, .int .i64 h.Q, .int .i64 h.N, .slice a h.m c] 24)) 3 (.int .i64 0)
    rwa [World.size_alloc] at this
  have HS1 := Lib.hid hS1
  have HT1 := Lib.hid (HT.out.same hS1.be)
  clear hw1 hS1
  refine (callsIn_wide.2 (HTO.out w1 HT1.out)).mono ?_
  rintro e w2 ⟨rfl, hG2, hB2⟩
  have HS2 := Lib.hid (show SuS w w2 0 from ⟨(hB2.block _ HS1.out.v.lt).trans HS1.out.v, HS1.out.be.trans (hB2.mono HS1.out.be.size)⟩)
  have HG2 := Lib.hid hG2
  have HZ := Lib.hid (show w.heap.size + 1 < w1.heap.size ∧ w1.heap.size ≤ w2.heap.size from ⟨HS1.out.v.lt, hB2.size⟩)
  generalize w1.heap.size = z1 at *
  clear hG2 hB2 HS1
  gi_wp2_with fail
  refine' wpIn_rangeFunc_ownG rfl (by omega) (gf := 47) (lb := #[.pointer (some ⟨z1, 0, none⟩)]) rfl trivial (enters_of Try.func47 (by kernel_rfl) rfl)
    (told_stops _ z1 h a c hm nk HNK.out _ HG2.out) kpN_t kpN_b (Below.refl _ _) (fun _ => rfl)
    (fun pre W => ∃ v, SuS w W v ∧ (0 ≤ v ∧ v ≤ 65535 * (pre.length : Int)) ∧ ∀ k, pre.map Tk.i = List.range k → v = sumT h.T k)
    (fun _ _ _ => False)
    (fun s X Y row hh hg hr => by
      obtain ⟨v, hs, hv⟩ := hh
      exact ⟨v, hs.kep hg (fun r e => ⟨by have := (hr r e).1; have := HZ.out; omega, (hr r e).2⟩), hv⟩)
    (fun _ _ _ _ _ hs _ _ => hs)
    ⟨0, HS2.out, ⟨by omega, by simp⟩, fun k hk => by rw [rng_nil hk]; rfl⟩
    _ ?assign ?body ?done ?stop
  case assign =>
    intro l x W K hK
    unfold encN
    gi_wp2
    exact hK
  case body =>
    rintro l pre x W ⟨v, hs, ⟨hv1, hv2⟩, hv⟩ hlen
    have d1 := hs.v.cell; have f1 := hs.v.frozen
    obtain ⟨ht1, ht2⟩ := HLE.out.2 x.i x.hi
    have hn5 := HLE.out.1
    have h3 : v ≤ 65535 * 255 := by omega
    have HPL := Lib.hid (show (0 : Int) ≤ v + h.T x.i ∧ v + h.T x.i ≤ 65535 * ((pre ++ [x]).length : Nat) by rw [List.length_append, List.length_singleton]; omega)
    obtain ⟨v0, hv0⟩ : ∃ v0, v0 = h.T x.i := ⟨_, rfl⟩
    have HS := Lib.hid hs; have HV := Lib.hid hv
    rw [← hv0] at ht1 ht2 HPL ⊢
    have HV0 := Lib.hid hv0
    clear hs hv hv0 hv2 hn5 hlen
    gi_wp2
    refine ⟨(KeepsOthers.setCell _ _ _).from _, fun g => g.setN HS.out.v (by have := HZ.out; omega) HT.out (by omega), v + v0, HS.out.set, HPL.out, fun k hk => ?_⟩
    obtain ⟨k2, rfl, h2, e⟩ := rng_snoc hk
    rw [HV.out k2 h2, HV0.out, e]; rfl
  case done =>
    rintro D ys W hD hys ⟨v, hs, _, hv⟩ hK
    obtain rfl := hv nk hys
    have d1 := hs.v.cell
    have HS := Lib.hid hs; clear hs hv hys
    gi_wp2
    refine ⟨by simp, .inl ⟨_, _, rfl, run_takeDeferred hK, ?_⟩⟩
    have hF := HS.out.kep (grownBy_putObj' _ D (.deferred none)) (fun k e => by cases e; exact ⟨by have := HZ.out; omega, _, hK, rfl⟩)
    exact ⟨_, results_tmp rfl _ _ _, by rw [← HE.out]; rfl, hF.be⟩
  case stop => exact fun _ _ _ _ _ _ h _ => h.elim

/-- as count goes through the counts: what is looked for, what is told. -/
structure CoS (w W : World) (x v : Int) : Prop where
  x : Boxed W (w.heap.size + 1) 3 (.int .i64 x)
  v : Boxed W (w.heap.size + 1 + 1) 3 (.int .i64 v)
  be : Below w.heap.size w W
theorem CoS.kep {w W W' : World} {x v : Int} {row : Option Nat} (s : CoS w W x v) (hg : W.grownBy W' row) (hr : ∀ r, row = some r → w.heap.size ≤ r ∧ ∃ o : Obj, W.heap[r]? = some o ∧ o.isCells = false) : CoS w W' x v :=
  ⟨heap_kp s.x hg (fun r e => (hr r e).2), heap_kp s.v hg (fun r e => (hr r e).2), s.be.grown hg s.be.size (fun k e => (hr k e).1)⟩
theorem CoS.set {w W : World} {x v v' : Int} (s : CoS w W x v) : CoS w (W.setCell ⟨w.heap.size + 1 + 1, 0, none⟩ (.int .i64 v')) x v' := ⟨bx_past s.x (by omega), s.v.set _, s.be.setCell (p := ⟨w.heap.size + 1 + 1, 0, none⟩) (by simp; omega) _⟩
theorem results_count {tmps : Array Value} {w : World} {p : Nat} {v : Int} (hp : tmps.getD 4 undef = .pointer (some ⟨p, 0, none⟩)) (c1 : w.cell? ⟨p, 0, none⟩ = some (.int .i64 v)) :
    (results Try.f17 tmps).run Try.prog w = .ok (.int .i64 v) w := by
  rw [Array.getD_eq_getD_getElem?] at hp
  simp [results, Try.f17, hp, go_sem, c1]
theorem nmem_next {C : Nat → Int} {x : Int} {k : Nat} (h : ∀ i, i < k → C i ≠ x) (hk : C k ≠ x) : ∀ i, i < k + 1 → C i ≠ x := all_next h hk

set_option maxRecDepth 100000 in
set_option maxHeartbeats 4000000 in
theorem pcount_any (h : Mn) (a : Option Addr) (c : Nat) (x0 : Int) (hm : h.m ≤ 140737488355328) (w : World) (hT : Tb w a h.m h.C h.T) :
    Calls Try.prog 17 #[nV h a c, .int .i64 x0] w fun e w' => e = .returned (.int .i64 (cntN h x0)) ∧ Below w.heap.size w w' := by
  refine (callsIn_wide (n := 6)).1 ?_
  have hW : ∀ k, Fence.wide.fn k := fun _ => trivial
  have hD : Fence.wide.depth = none := rfl
  have HT := Lib.hid hT
  obtain ⟨nk, hnk⟩ := many h
  have HNK := Lib.hid hnk
  have HTO := Lib.hid (fun W hT => told_any h a c W hT)
  unfold nV at HTO ⊢
  have HE := Lib.hid (show (∀ i, i < nk → h.C i ≠ x0) → cntN h x0 = 0 from fun hall => by
    rcases hnk with ⟨q, e⟩ | ⟨q, e⟩
    · rw [cntN_yes q]; exact cntT_none _ fun i hi => hall i (by omega)
    · rw [cntN_no q])
  have HF := Lib.hid (show ∀ i, i < nk → h.C i = x0 → cntN h x0 = h.T i from fun i hi hc => by
    rcases hnk with ⟨q, e⟩ | ⟨q, e⟩
    · rw [cntN_yes q, ← hc]; exact cntT_at q.2.2.2 _ (by omega) (Nat.le_refl _)
    · omega)
  generalize cntN h x0 = E at *
  clear hT hnk
  refine callsIn_of_wp_marks Try.func17 rfl trivial ?_ rfl
  simp only [Try.ntmps17, List.size_toArray, List.length_cons, List.length_nil, Nat.reduceAdd, Nat.reduceSub, Array.replicate_succ, Array.replicate_zero, List.push_toArray, List.append_toArray, List.nil_append, List.cons_append]
  gi_wp2_with fail
  obtain ⟨w1, hw1⟩ : ∃ w1, w1 = ((w.alloc (.cells #[.int .i64 h.S, .int .i64 h.Q, .int .i64 h.N, .slice a h.m c] 24)).alloc (.cells #[.int .i64 x0] 3)).alloc (.cells #[.int .i64 0] 3) := ⟨_, rfl⟩
  rw [← hw1]
  have hS1 : CoS w w1 x0 0 := by
    rw [hw1]
    have b1 := (Boxed.new (w.alloc (.cells #[.int .i64 h.S, .int .i64 h.Q, .int .i64 h.N, .slice a h.m c] 24)) 3 (.int .i64 x0)).alloc (.cells #[.int .i64 0] 3)
    have b2 := Boxed.new ((w.alloc (.cells #[.int .i64 h.S, .int .i64 h.Q, .int .i64 h.N, .slice a h.m c] 24)).alloc (.cells #[.int .i64 x0] 3)) 3 (.int .i64 0)
    exact ⟨by simpa using b1, by simpa using b2, (((Below.refl _ w).alloc (Nat.le_refl _) _).alloc (by simp) _).alloc (by simp; omega) _⟩
  have HS1 := Lib.hid hS1
  have HT1 := Lib.hid (HT.out.same hS1.be)
  clear hw1 hS1
  refine (callsIn_wide.2 (HTO.out w1 HT1.out)).mono ?_
  rintro e w2 ⟨rfl, hG2, hB2⟩
  have HS2 := Lib.hid (show CoS w w2 x0 0 from ⟨(hB2.block _ HS1.out.x.lt).trans HS1.out.x, (hB2.block _ HS1.out.v.lt).trans HS1.out.v, HS1.out.be.trans (hB2.mono HS1.out.be.size)⟩)
  have HG2 := Lib.hid hG2
  have HZ := Lib.hid (show w.heap.size + 1 + 1 < w1.heap.size ∧ w1.heap.size ≤ w2.heap.size from ⟨HS1.out.v.lt, hB2.size⟩)
  generalize w1.heap.size = z1 at *
  clear hG2 hB2 HS1
  gi_wp2_with fail
  refine' wpIn_rangeFunc_ownG rfl (by omega) (gf := 47) (lb := #[.pointer (some ⟨z1, 0, none⟩)]) rfl trivial (enters_of Try.func47 (by kernel_rfl) rfl)
    (told_stops _ z1 h a c hm nk HNK.out _ HG2.out) kpN_t kpN_b (Below.refl _ _) (fun _ => rfl)
    (fun pre W => CoS w W x0 0 ∧ ∀ k, pre.map Tk.i = List.range k → ∀ i, i < k → h.C i ≠ x0)
    (fun cc _ W => cc = .ret ∧ CoS w W x0 E)
    (fun s X Y row hh hg hr => by
      obtain ⟨hs, hv⟩ := hh
      exact ⟨hs.kep hg (fun r e => ⟨by have := (hr r e).1; have := HZ.out; omega, (hr r e).2⟩), hv⟩)
    (fun c s X Y row hh hg hr => by
      obtain ⟨h0, hs⟩ := hh
      exact ⟨h0, hs.kep hg (fun r e => ⟨by have := (hr r e).1; have := HZ.out; omega, (hr r e).2⟩)⟩)
    ⟨HS2.out, fun k hk i hi => by rw [rng_nil hk] at hi; exact absurd hi (Nat.not_lt_zero i)⟩
    _ ?assign ?body ?done ?stop
  case assign =>
    intro l x W K hK
    unfold encN
    gi_wp2
    exact hK
  case body =>
    rintro l pre x W ⟨hs, hv⟩ hlen
    have d0 := hs.x.cell
    have d1 := hs.v.cell; have f1 := hs.v.frozen
    have HFX := Lib.hid (HF.out x.i x.hi)
    have HX := Lib.hid (show h.C x.i ≠ x0 → ∀ k, (pre ++ [x]).map Tk.i = List.range k → ∀ i, i < k → h.C i ≠ x0 from fun hne k hk => by
      obtain ⟨k2, rfl, h2, e⟩ := rng_snoc hk
      exact nmem_next (hv k2 h2) (by rw [← e]; exact hne))
    have HS := Lib.hid hs
    generalize h.C x.i = u at *
    generalize h.T x.i = v0 at *
    clear hs hv hlen
    by_cases hux : u = x0
    · have g1 : (u == x0) = true := by simp [hux]
      have HEE := Lib.hid (HFX.out hux)
      clear hux
      gi_wp2
      exact ⟨(KeepsOthers.setCell _ _ _).from _, rfl, by rw [HEE.out]; exact HS.out.set⟩
    · have g1 : (u == x0) = false := by simp [hux]
      have HXX := Lib.hid (HX.out hux)
      clear hux
      gi_wp2
      exact ⟨(KeepsOthers.refl _).from _, fun g => g, HS.out, HXX.out⟩
  case done =>
    rintro D ys W hD hys ⟨hs, hv⟩ hK
    have HEE := Lib.hid (HE.out (hv nk hys))
    have d1 := hs.v.cell; have f1 := hs.v.frozen
    have HS := Lib.hid hs; clear hs hv hys
    gi_wp2
    have hK' := (KeepsOthers.setCell W ⟨w.heap.size + 1 + 1, 0, none⟩ (.int .i64 0)).same D _ hK rfl
    refine ⟨by simp, .inl ⟨_, _, rfl, run_takeDeferred hK', ?_⟩⟩
    have hF := (HS.out.set (v' := 0)).kep (grownBy_putObj' _ D (.deferred none)) (fun k e => by cases e; exact ⟨by have := HZ.out; omega, _, hK', rfl⟩)
    exact ⟨_, results_count rfl hF.v.cell, by rw [HEE.out], hF.be⟩
  case stop =>
    rintro D cc pre W hD ⟨k, hk, hp⟩ ⟨rfl, hs⟩ hK
    have HS := Lib.hid hs
    clear hs hp
    gi_wp2
    refine ⟨by simp, .inl ⟨_, _, rfl, run_takeDeferred hK, ?_⟩⟩
    have hF := HS.out.kep (grownBy_putObj' _ D (.deferred none)) (fun k e => by cases e; exact ⟨by have := HZ.out; omega, _, hK, rfl⟩)
    exact ⟨_, results_count rfl hF.v.cell, rfl, hF.be⟩
end Go.Proofs.Ytjlmajopfeplpaa.Nt
