import Derived.BigQuiet
import Derived.RegionIn
import Derived.BigRegionIn
import Derived.Test.YtjlmajopfeplpaaGreatMg11
import Derived.Test.YtjlmajopfeplpaaGreatMg16
import Derived.Test.YtjlmajopfeplpaaGreatMg41
namespace Go.Proofs.YtjlmajopfeplpaaGreat.Sp
open Go.RowKit Go.Shelf
attribute [local go_sem] Oper.semAt_some

/-- the row at a place. -/
def part (g wi i : Nat) : Value := .slice (some ⟨g, i * wi, none⟩) wi wi

theorem slice_part (g T l wi : Nat) (h : l + wi ≤ T) (W : World) :
    (Instr.slice 28 (.slice (some ⟨g, 0, none⟩) T T) (some (.int .i64 (l : Nat))) (some (.int .i64 (l + wi : Nat))) (some (.int .i64 (l + wi : Nat)))).run Tryz.prog W = .ok (.slice (cutA (some ⟨g, 0, none⟩) l (l + wi)) wi wi) W := by
  rw [run_slice_lhm (P := Tryz.prog) W 28 _ T T und8 .i64 .i64 .i64 l (l + wi : Nat) (l + wi : Nat) (by omega) (by omega) (by omega) (by omega), size8]
  have e : (((l + wi : Nat) : Int)).toNat = l + wi := Int.toNat_natCast _
  simp only [Result.andThen, sliced, cutA, e, Int.toNat_natCast, Nat.mul_one, Nat.add_sub_cancel_left]
theorem wrap_nat {x : Nat} (h : x ≤ 1000000) : wrap64 (x : Int) = (x : Int) := by unfold wrap64; omega
end Go.Proofs.YtjlmajopfeplpaaGreat.Sp

namespace Go.Proofs.YtjlmajopfeplpaaGreat.Sp
open Go.RowKit Go.Shelf
attribute [local go_sem] Oper.semAt_some

/-- one of those that are told: its place. -/
structure Tk (n : Nat) where
  i : Nat
  hi : i < n
/-- what asks: a closure that answers of each place. -/
structure Asks (cf n : Nat) (caps : Array Value) (rv : Nat → Value) (Pw : World → Prop) : Prop where
  ent : ∀ (args : Array Value) (W : World), (callFunc cf args).run Tryz.prog W = .ok (.enter cf args) W
  call : ∀ W, Pw W → ∀ j : Nat, j < n → Calls Tryz.prog cf (#[.int .i64 (j : Nat)] ++ caps) W fun e W' => e = .returned (rv j) ∧ ∃ q, W' = W.drewN q
  own : ∀ X Y row, Pw X → X.grownBy Y row → (∀ r, row = some r → ∃ o : Obj, X.heap[r]? = some o ∧ o.isCells = false) → Pw Y
theorem grown_dr (W : World) (q : Nat) (row : Option Nat) : W.grownBy (W.drewN q) row := ⟨rfl, rfl, rfl, Nat.le_refl _, fun _ _ _ => rfl⟩
theorem Asks.drawn {cf n : Nat} {caps : Array Value} {rv : Nat → Value} {Pw : World → Prop} (h : Asks cf n caps rv Pw) (W : World) (q : Nat) (hp : Pw W) : Pw (W.drewN q) := h.own W _ none hp (grown_dr W q none) (fun _ e => by cases e)
theorem grown_t {A B C : World} {r : Option Nat} (h : A.grownBy B r) (k : B.grownBy C r) : A.grownBy C r :=
  ⟨k.os.trans h.os, k.tape.trans h.tape, k.output.trans h.output, Nat.le_trans h.size k.size, fun i hi hr => (k.block i (Nat.lt_of_lt_of_le hi h.size) hr).trans (h.block i hi hr)⟩
/-- what turned lies behind w. -/
theorem grown_past {w A B : World} {r s : Option Nat} (h : w.grownBy A r) (k : A.grownBy B s) (hs : ∀ i, s = some i → w.heap.size ≤ i) : w.grownBy B r :=
  ⟨k.os.trans h.os, k.tape.trans h.tape, k.output.trans h.output, Nat.le_trans h.size k.size, fun i hi hr => (k.block i (Nat.lt_of_lt_of_le hi h.size) (fun e => by have := hs i e.symm; omega)).trans (h.block i hi hr)⟩
end Go.Proofs.YtjlmajopfeplpaaGreat.Sp

namespace Go.Proofs.YtjlmajopfeplpaaGreat.Sp
open Go.RowKit Go.Shelf
attribute [local go_sem] Oper.semAt_some

/-- slices, as they are told. -/
def rs (ra : Nat → Option Addr) (rl rc : Nat → Nat) (i : Nat) : Value := .slice (ra i) (rl i) (rc i)
/-- what has come is in the list, which is in its box. -/
structure Ap (w : World) (B G cap n : Nat) (rv : Nat → Value) (pre : List (Tk n)) (W : World) : Prop where
  box : Boxed W w.heap.size 43 (.slice (some ⟨G, 0, none⟩) pre.length cap)
  own : W.ownsRow B 28 1 (.slice (some ⟨G, 0, none⟩) pre.length cap) pre.length (pre.map fun x => rv x.i)
  gr : w.grownBy W (some G)
theorem Ap.lt {w W : World} {B G cap n : Nat} {rv : Nat → Value} {pre : List (Tk n)} (h : Ap w B G cap n rv pre W) : G < W.heap.size := (h.own.lt G rfl).2
theorem Ap.from_ (w : World) (B G cap n : Nat) (rv : Nat → Value) : OwnFrom w.heap.size (Ap w B G cap n rv) := fun pre X Y row h hg hr => by
  have hne : ∀ (j : Nat) (cs : Array Value) (t : TypeId) (z : Nat × Nat), X.heap[j]? = some (.cells cs t z) → some j ≠ row := fun j cs t z hj e => by
    obtain ⟨_, o, ho, hc⟩ := hr j e.symm
    rw [hj] at ho; cases ho; cases hc
  refine ⟨h.box.kept hg (hne _ _ _ _ h.box), h.own.kept hg ?_, grown_past h.gr hg (fun i e => (hr i e).1)⟩
  rcases h.own.2 with ⟨e, _⟩ | ⟨g, c, cur, e, _, hgb, _⟩
  · cases e
  · rw [e]; exact .inr (hne g _ _ _ hgb)

end Go.Proofs.YtjlmajopfeplpaaGreat.Sp

namespace Go.Proofs.YtjlmajopfeplpaaGreat.Sp
open Go.RowKit Go.Shelf
attribute [local go_sem] Oper.semAt_some

theorem bx_past {W : World} {b g i : Nat} {t : TypeId} {v u : Value} (h : Boxed W b t v) (hne : b ≠ g) : Boxed (W.setCell ⟨g, i, none⟩ u) b t v :=
  (heap_setCell_other W ⟨g, i, none⟩ b u hne).trans h
theorem heap_kp {X Y : World} {row : Option Nat} {k : Nat} {cs : Array Value} {t : TypeId} {z : Nat × Nat} (h : X.heap[k]? = some (.cells cs t z)) (hg : X.grownBy Y row) (hr : ∀ r, row = some r → ∃ o : Obj, X.heap[r]? = some o ∧ o.isCells = false) : Y.heap[k]? = some (.cells cs t z) :=
  (hg.block k (Array.getElem?_eq_some_iff.1 h).1 (fun e => by obtain ⟨o, ho, hc⟩ := hr k e.symm; rw [h] at ho; cases ho; cases hc)).trans h
/-- as rows are joined: the boxes of what is told, the width, the bytes, their place. -/
structure JoinS (w W : World) (L wi at_ : Nat) (h : Nat → Nat) (v4 : Value) (e5 : Int) : Prop where
  b4 : Boxed W w.heap.size 28 v4
  b5 : Boxed W (w.heap.size + 1) 32 (.int .i64 e5)
  b6 : Boxed W (w.heap.size + 1 + 1) 3 (.int .i64 (wi : Nat))
  bl : Bl W (w.heap.size + 1 + 1 + 1) L L h
  b8 : Boxed W (w.heap.size + 1 + 1 + 1 + 1) 28 (.slice (some ⟨w.heap.size + 1 + 1 + 1, 0, none⟩) L L)
  b9 : Boxed W (w.heap.size + 1 + 1 + 1 + 1 + 1) 3 (.int .i64 (at_ : Nat))
  be : Below w.heap.size w W
section
variable {w W W' : World} {L wi at_ : Nat} {h : Nat → Nat} {v4 : Value} {e5 : Int}
theorem JoinS.same (s : JoinS w W L wi at_ h v4 e5) (hB : Below W.heap.size W W') : JoinS w W' L wi at_ h v4 e5 :=
  ⟨(hB.block _ s.b4.lt).trans s.b4, (hB.block _ s.b5.lt).trans s.b5, (hB.block _ s.b6.lt).trans s.b6, s.bl.below hB s.bl.lt, (hB.block _ s.b8.lt).trans s.b8, (hB.block _ s.b9.lt).trans s.b9, s.be.trans (hB.mono s.be.size)⟩
theorem JoinS.kep {row : Option Nat} (s : JoinS w W L wi at_ h v4 e5) (hg : W.grownBy W' row) (hr : ∀ r, row = some r → w.heap.size ≤ r ∧ ∃ o : Obj, W.heap[r]? = some o ∧ o.isCells = false) : JoinS w W' L wi at_ h v4 e5 := by
  have hr' : ∀ r, row = some r → ∃ o : Obj, W.heap[r]? = some o ∧ o.isCells = false := fun r e => (hr r e).2
  obtain ⟨v, h1, h2, h3⟩ := s.bl
  exact ⟨heap_kp s.b4 hg hr', heap_kp s.b5 hg hr', heap_kp s.b6 hg hr', ⟨v, heap_kp h1 hg hr', h2, h3⟩, heap_kp s.b8 hg hr', heap_kp s.b9 hg hr', s.be.grown hg s.be.size (fun k e => (hr k e).1)⟩
theorem JoinS.setAt (s : JoinS w W L wi at_ h v4 e5) (v : Nat) : JoinS w (W.setCell ⟨w.heap.size + 1 + 1 + 1 + 1 + 1, 0, none⟩ (.int .i64 (v : Nat))) L wi v h v4 e5 :=
  ⟨bx_past s.b4 (by omega), bx_past s.b5 (by omega), bx_past s.b6 (by omega), s.bl.kept (heap_setCell_other W ⟨w.heap.size + 1 + 1 + 1 + 1 + 1, 0, none⟩ _ _ (by simp)), bx_past s.b8 (by omega), s.b9.set _, s.be.setCell (p := ⟨w.heap.size + 1 + 1 + 1 + 1 + 1, 0, none⟩) (by simp; omega) _⟩
theorem JoinS.copied {h' : Nat → Nat} (s : JoinS w W L wi at_ h v4 e5) (hg : W.grownBy W' (some (w.heap.size + 1 + 1 + 1))) (hb : Bl W' (w.heap.size + 1 + 1 + 1) L L h') : JoinS w W' L wi at_ h' v4 e5 :=
  ⟨s.b4.kept hg (by intro e; injection e; omega), s.b5.kept hg (by intro e; injection e; omega), s.b6.kept hg (by intro e; injection e; omega), hb, s.b8.kept hg (by intro e; injection e; omega), s.b9.kept hg (by intro e; injection e; omega), s.be.grown hg s.be.size (fun k e => by injection e; omega)⟩
theorem JoinS.told (s : JoinS w W L wi at_ h v4 e5) (v : Value) (e : Int) : JoinS w ((W.setCell ⟨w.heap.size, 0, none⟩ v).setCell ⟨w.heap.size + 1, 0, none⟩ (.int .i64 e)) L wi at_ h v e :=
  ⟨bx_past (s.b4.set v) (by omega), (bx_past s.b5 (by omega)).set _, bx_past (bx_past s.b6 (by omega)) (by omega), (s.bl.kept (heap_setCell_other W ⟨w.heap.size, 0, none⟩ _ _ (by simp; omega))).kept (heap_setCell_other _ ⟨w.heap.size + 1, 0, none⟩ _ _ (by simp; omega)), bx_past (bx_past s.b8 (by omega)) (by omega), bx_past (bx_past s.b9 (by omega)) (by omega), (s.be.setCell (p := ⟨w.heap.size, 0, none⟩) (Nat.le_refl _) _).setCell (p := ⟨w.heap.size + 1, 0, none⟩) (by simp) _⟩
theorem JoinS.congr {h' : Nat → Nat} (s : JoinS w W L wi at_ h v4 e5) (he : ∀ i, i < L → h i = h' i) : JoinS w W L wi at_ h' v4 e5 := ⟨s.b4, s.b5, s.b6, s.bl.congr he, s.b8, s.b9, s.be⟩
end
/-- which place comes at p. -/
def ixP {n : Nat} (pre : List (Tk n)) (p : Nat) : Nat := (pre.map Tk.i).getD p 0
/-- rows that are joined, one by one, as far as there is room. -/
def jpre {n : Nat} (f : Nat → Nat → Nat) (wi : Nat) (pre : List (Tk n)) (j : Nat) : Nat := if j < pre.length * wi then f (ixP pre (j / wi)) (j % wi) else 0
/-- rows that are joined. -/
def jn (f : Nat → Nat → Nat) (wi : Nat) (j : Nat) : Nat := f (j / wi) (j % wi)
theorem jpre_s {n : Nat} (f : Nat → Nat → Nat) (wi L : Nat) (pre : List (Tk n)) (y : Tk n) (j : Nat) (hj : j < L) :
    cpy (min (pre.length * wi) L) (min wi (L - min (pre.length * wi) L)) (f y.i) (jpre f wi pre) j = jpre f wi (pre ++ [y]) j := by
  unfold cpy jpre
  rw [List.length_append, List.length_singleton, Nat.add_mul, Nat.one_mul]
  by_cases c1 : j < pre.length * wi
  · rw [if_neg (by omega), if_pos c1, if_pos (by omega)]
    have hp : j / wi < pre.length := by
      rcases Nat.eq_zero_or_pos wi with e | e
      · subst e; omega
      · exact (Nat.div_lt_iff_lt_mul e).2 c1
    unfold ixP
    rw [List.map_append, List.getD_eq_getElem?_getD, List.getD_eq_getElem?_getD, List.getElem?_append_left (by rw [List.length_map]; exact hp)]
  · by_cases c2 : j < pre.length * wi + wi
    · rw [if_pos (by omega), if_pos c2]
      have hw : 0 < wi := by omega
      have hd : j = wi * pre.length + (j - pre.length * wi) := by rw [Nat.mul_comm]; omega
      have hlt : j - pre.length * wi < wi := by omega
      have e1 : j / wi = pre.length := by
        rw [hd, Nat.mul_add_div hw, Nat.div_eq_of_lt hlt, Nat.add_zero]
      have e2 : j % wi = j - pre.length * wi := by
        conv => lhs; rw [hd]
        rw [Nat.mul_add_mod, Nat.mod_eq_of_lt hlt]
      rw [e1, e2]
      unfold ixP
      rw [List.map_append, List.getD_eq_getElem?_getD, List.getElem?_append_right (by simp)]
      simp only [List.length_map, Nat.sub_self, List.map_cons, List.getElem?_cons_zero, Option.getD_some]
      rw [show min (pre.length * wi) L = pre.length * wi by omega]
    · rw [if_neg (by omega), if_neg c1, if_neg c2]
theorem jpre_all {n : Nat} (f : Nat → Nat → Nat) (wi L : Nat) (ys : List (Tk n)) (hys : ys.map Tk.i = List.range n) (hL : L ≤ n * wi) (j : Nat) (hj : j < L) : jpre f wi ys j = jn f wi j := by
  have hl : ys.length = n := by have := congrArg List.length hys; rwa [List.length_map, List.length_range] at this
  unfold jpre jn ixP
  have hjn : j < n * wi := by omega
  rw [hl, if_pos hjn, hys]
  have hw : 0 < wi := by rcases Nat.eq_zero_or_pos wi with e | e; subst e; omega; exact e
  have hd : j / wi < n := (Nat.div_lt_iff_lt_mul hw).2 hjn
  rw [List.getD_eq_getElem?_getD, List.getElem?_range hd]; rfl
theorem at_s (p wi L : Nat) : min (p * wi) L + min wi (L - min (p * wi) L) = min ((p + 1) * wi) L := by rw [Nat.add_mul, Nat.one_mul]; omega

theorem Rd.own {X Y : World} {row : Option Nat} {a : Option Addr} {n cap : Nat} {r : Nat → Option Addr} {l c : Nat → Nat} {f : Nat → Nat → Nat} (h : Rd X a n cap r l c f) (hg : X.grownBy Y row) (hr : ∀ k, row = some k → ∃ o : Obj, X.heap[k]? = some o ∧ o.isCells = false) : Rd Y a n cap r l c f :=
  ⟨h.capOk, h.maxOk, h.bm, h.nil, h.spot, fun ad e i hi => cell_kept (h.cell ad e i hi) hg hr, fun i hi => by
    have hs := h.row i hi
    exact ⟨hs.capOk, hs.maxOk, hs.bytes, hs.up, hs.nil, hs.spot, fun ad e j hj => cell_kept (hs.cell ad e j hj) hg hr⟩⟩
/-- what is joined: of rows that are as wide. -/
def JoinSays (w : World) (n wi L : Nat) (l : Nat → Nat) (f : Nat → Nat → Nat) (e : Ending) (w' : World) : Prop :=
  Below w.heap.size w w' ∧ ((e = .returned (.tuple #[.slice none 0 0, .int .i64 4]) ∧ ∃ i, i < n ∧ l i ≠ wi) ∨
    ((∀ i, i < n → l i = wi) ∧ ∃ g, e = .returned (.tuple #[.slice (some ⟨g, 0, none⟩) L L, .int .i64 0]) ∧ w.heap.size ≤ g ∧ Bl w' g L L (jn f wi)))
end Go.Proofs.YtjlmajopfeplpaaGreat.Sp
