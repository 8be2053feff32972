import Derived.Test.YtmabdfcabpnabaaP6
import Derived.Test.YtmabdfcabpnabaaPd
import Derived.Sort.CutIn
import Derived.Sort.QuietIn
import Derived.Lib.QuietBelow
namespace Go.Proofs.Ytmabdfcabpnabaa
open Go.RowKit Go.Shelf
attribute [local go_sem] Oper.semAt_some

theorem Boxed.drewN {W : World} {B : Nat} {t : TypeId} {v : Value} (h : Boxed W B t v) (q : Nat) : Boxed (W.drewN q) B t v := h
theorem Boxed.ne_bl {W : World} {B g n cap : Nat} {t : TypeId} {v : Value} {h : Nat → Nat} (hb : Boxed W B t v) (hl : Bl W g n cap h) (ht : t ≠ 5) : B ≠ g := by
  rintro rfl
  obtain ⟨vs, h1, _⟩ := hl
  rw [show W.heap[B]? = _ from hb] at h1
  injection h1 with h1
  injection h1 with _ h2
  exact ht h2
theorem Wk.ne_bl {W : World} {wb fb g n cap l c : Nat} {a : Option Addr} {h : Nat → Nat} (hb : Wk W wb fb a l c) (hl : Bl W g n cap h) : wb ≠ g := by
  rintro rfl
  obtain ⟨vs, h1, _⟩ := hl
  rw [show W.heap[wb]? = _ from hb] at h1
  injection h1 with h1
  injection h1 with _ h2
  cases h2

theorem Nw.putObj' {w : World} {B D : Nat} {a : Option Addr} {len cap : Nat} {f : Nat → Nat} {o o' : Obj} (h : Nw w B a len cap f) (hD : w.heap[D]? = some o) (ho : o.isCells = false := by rfl) : Nw (w.putObj D o') B a len cap f := by
  refine h.grown (grownBy_putObj' w D o') fun g e => ?_
  rcases h.ow with ⟨e0, _⟩ | ⟨g', vs, e', _, h1, _⟩
  · rw [e0] at e; cases e
  · rw [e'] at e; cases e
    intro hh
    cases hh
    rw [h1] at hD; cases hD; cases ho
/-- a division under way: what stands in its memory. -/
structure DvS (w : World) (B H wb fb gb gq gr Bs t N c d : Nat) (p : Option Addr) (W : World) (q r : Nat → Nat) : Prop where
  b0 : Boxed W H 78 (.pointer (some ⟨wb, 0, none⟩))
  b1 : Boxed W (H + 1) 22 (.slice p (t + 1) d)
  b2 : Boxed W (H + 1 + 1) 3 (.int .i64 (t : Nat))
  b3 : Boxed W gb 22 (.slice (some ⟨gq, 0, none⟩) N N)
  b4 : Boxed W Bs 22 (.slice (some ⟨gq, 0, none⟩) N N)
  wk : Wk W wb fb (some ⟨gr, 0, none⟩) (N + t) c
  bq : Bl W gq N N q
  br : Bl W gr (N + t) c r
  fi : IsField fb W
  be : Below B w W
section
variable {w W : World} {B H wb fb gb gq gr Bs t N c d : Nat} {p : Option Addr} {q r : Nat → Nat}
theorem DvS.drewN (h : DvS w B H wb fb gb gq gr Bs t N c d p W q r) (k : Nat) : DvS w B H wb fb gb gq gr Bs t N c d p (W.drewN k) q r :=
  ⟨h.b0, h.b1, h.b2, h.b3, h.b4, h.wk, h.bq, h.br, h.fi.drewN k, below_drewN h.be k⟩
theorem DvS.congr (h : DvS w B H wb fb gb gq gr Bs t N c d p W q r) {q' r' : Nat → Nat} (hq : ∀ i, i < N → q i = q' i) (hr : ∀ i, i < N + t → r i = r' i) : DvS w B H wb fb gb gq gr Bs t N c d p W q' r' :=
  ⟨h.b0, h.b1, h.b2, h.b3, h.b4, h.wk, h.bq.congr hq, h.br.congr hr, h.fi, h.be⟩
theorem set_other (W : World) (p : Addr) (u : Value) (k : Nat) (h : k ≠ p.block) : (W.setCell p u).heap[k]? = W.heap[k]? := Below.heap_setCell W p u k h
theorem DvS.setq (h : DvS w B H wb fb gb gq gr Bs t N c d p W q r) (h1 : gq ≠ gr) (h2 : gq ≠ fb) (h3 : B ≤ gq) {j : Nat} (hj : j < N) (v : Nat) :
    DvS w B H wb fb gb gq gr Bs t N c d p (W.setCell ⟨gq, j, none⟩ (.int .u8 (v : Nat))) (fun i => if i = j then v else q i) r :=
  ⟨(set_other W _ _ _ (Boxed.ne_bl h.b0 h.bq (by decide))).trans h.b0, (set_other W _ _ _ (Boxed.ne_bl h.b1 h.bq (by decide))).trans h.b1, (set_other W _ _ _ (Boxed.ne_bl h.b2 h.bq (by decide))).trans h.b2,
   (set_other W _ _ _ (Boxed.ne_bl h.b3 h.bq (by decide))).trans h.b3, (set_other W _ _ _ (Boxed.ne_bl h.b4 h.bq (by decide))).trans h.b4, (set_other W _ _ _ (h.wk.ne_bl h.bq)).trans h.wk,
   h.bq.set hj v, h.br.kept (set_other W _ _ _ (Ne.symm h1)), h.fi.grown (grown_set W ⟨gq, j, none⟩ _) (by simpa using Ne.symm h2), h.be.setCell (p := ⟨gq, j, none⟩) h3 _⟩
theorem DvS.setr (h : DvS w B H wb fb gb gq gr Bs t N c d p W q r) (h1 : gq ≠ gr) (h2 : gr ≠ fb) (h3 : B ≤ gr) {j : Nat} (hj : j < N + t) (v : Nat) :
    DvS w B H wb fb gb gq gr Bs t N c d p (W.setCell ⟨gr, j, none⟩ (.int .u8 (v : Nat))) q (fun i => if i = j then v else r i) :=
  ⟨(set_other W _ _ _ (Boxed.ne_bl h.b0 h.br (by decide))).trans h.b0, (set_other W _ _ _ (Boxed.ne_bl h.b1 h.br (by decide))).trans h.b1, (set_other W _ _ _ (Boxed.ne_bl h.b2 h.br (by decide))).trans h.b2,
   (set_other W _ _ _ (Boxed.ne_bl h.b3 h.br (by decide))).trans h.b3, (set_other W _ _ _ (Boxed.ne_bl h.b4 h.br (by decide))).trans h.b4, (set_other W _ _ _ (h.wk.ne_bl h.br)).trans h.wk,
   h.bq.kept (set_other W _ _ _ h1), h.br.set hj v, h.fi.grown (grown_set W ⟨gr, j, none⟩ _) (by simpa using Ne.symm h2), h.be.setCell (p := ⟨gr, j, none⟩) h3 _⟩
theorem heap_kept {X Y : World} {row : Option Nat} {k : Nat} {cs : Array Value} {t : TypeId} {z : Nat × Nat} (h : X.heap[k]? = some (.cells cs t z)) (hg : X.grownBy Y row) (hr : ∀ r, row = some r → ∃ o : Obj, X.heap[r]? = some o ∧ o.isCells = false) : Y.heap[k]? = some (.cells cs t z) :=
  (hg.block k (Array.getElem?_eq_some_iff.1 h).1 (fun e => by obtain ⟨o, ho, hc⟩ := hr k e.symm; rw [h] at ho; cases ho; cases hc)).trans h
theorem DvS.own (hw : B ≤ w.heap.size) (h3 : B ≤ H) {β : Type} (Q R : β → Nat → Nat) : OwnFrom H (fun (s : β) W => DvS w B H wb fb gb gq gr Bs t N c d p W (Q s) (R s)) := fun s X Y row h hg hr => by
  have hr' : ∀ r, row = some r → ∃ o : Obj, X.heap[r]? = some o ∧ o.isCells = false := fun r e => (hr r e).2
  obtain ⟨vq, q1, q2, q3⟩ := h.bq
  obtain ⟨vr, r1, r2, r3⟩ := h.br
  exact ⟨heap_kept h.b0 hg hr', heap_kept h.b1 hg hr', heap_kept h.b2 hg hr', heap_kept h.b3 hg hr', heap_kept h.b4 hg hr', heap_kept h.wk hg hr', ⟨vq, heap_kept q1 hg hr', q2, q3⟩, ⟨vr, heap_kept r1 hg hr', r2, r3⟩,
    fun j hj => ⟨cell_kept (h.fi j hj).1 hg hr', (frozen_kept (h.fi j hj).1 hg hr').trans (h.fi j hj).2⟩, h.be.grown hg (Nat.le_trans hw h.be.size) (fun k e => Nat.le_trans h3 (hr k e).1)⟩
theorem DvS.good (h : DvS w B H wb fb gb gq gr Bs t N c d p W q r) (hq : Pf.By q) : Good Bs (some ⟨gq, 0, none⟩) N N (fun _ _ => True) W :=
  ⟨h.b4.cell, fun i hi => ⟨gq, 0, q i, rfl, hq i, trivial, by rw [Nat.zero_add]; exact h.bq.cell hi⟩⟩
end
theorem bl_made (W : World) (N : Nat) : Bl (W.alloc (.cells (madeCells #[.int .u8 0] N) 5)) W.heap.size N N (fun _ => 0) :=
  ⟨_, heap_alloc_new W _, size_madeCells _ _, fun i hi => by
    have := get_zeros (n := N) (i := i) hi
    rwa [Array.getElem?_toList] at this⟩
theorem Bl.alloc' {W : World} {g n cap : Nat} {h : Nat → Nat} (hb : Bl W g n cap h) (o : Obj) : Bl (W.alloc o) g n cap h := hb.kept (Below.heap_alloc W o g hb.lt)
/-- what a division answers, and leaves. -/
def Divides (w : World) (wb fb B t : Nat) (f b : Nat → Nat) (e : Ending) (w' : World) : Prop :=
  ∃ aq nq cq qf, e = .returned (.slice aq nq cq) ∧ Nw w' B aq nq cq qf ∧ Pf.Ln qf nq ∧ ∃ a n c rf, Wk w' wb fb a n c ∧ Nw w' B a n c rf ∧ Pf.Ln rf n ∧ n ≤ t ∧ (∀ i, f i = Pf.cv qf b nq i ^^^ rf i) ∧ (∀ g g', a = some ⟨g, 0, none⟩ → aq = some ⟨g', 0, none⟩ → g ≠ g') ∧ Below B w w'

set_option maxRecDepth 100000 in
set_option maxHeartbeats 4000000 in
/-- the row is too short. -/
theorem divide_short (wb fb B t : Nat) (a p : Option Addr) (l c d : Nat) (f b : Nat → Nat) (w : World) (hWk : Wk w wb fb a l c) (hN : Nw w B a l c f) (hL : Pf.Ln f l) (_hS : Sl w p (t + 1) d b) (hB : B ≤ wb)
    (hl : l ≤ t) (ht : t ≤ 1000000000) :
    Calls Try.prog 35 #[.pointer (some ⟨wb, 0, none⟩), .slice p (t + 1) d] w (Divides w wb fb B t f b) := by
  have hwl := hWk.lt
  have w1 : ∀ o1 o2 o3, (((w.alloc o1).alloc o2).alloc o3).cell? ⟨wb, 1, none⟩ = some (.slice a l c) := fun o1 o2 o3 => by
    rw [World.cell?_alloc_lt _ _ _ (by simp; omega), World.cell?_alloc_lt _ _ _ (by simp; omega), World.cell?_alloc_lt _ _ _ (by simp; omega)]; exact hWk.c1
  have HWk := Lib.hid hWk; have HN := Lib.hid hN; have HL := Lib.hid hL
  clear hWk hN hL
  have g0 : (l : Int) ≤ (t : Int) := by omega
  go_enter Try.func35, Try.ntmps35
  go_wp2
  go_quiet (fail)
  go_wp2
  go_ret
  have hB1 : Below w.heap.size w ((((w.alloc (.cells #[.pointer (some ⟨wb, 0, none⟩)] 78)).alloc (.cells #[.slice p (t + 1) d] 22)).alloc (.cells #[.int .i64 (t : Nat)] 3)).drewN nq) := below_drewN ((((Below.refl _ _).alloc (Nat.le_refl _) _).alloc (by simp) _).alloc (by simp; omega) _) nq
  exact ⟨none, 0, 0, fun _ => 0, rfl, Nw.nil _ _ (fun _ => rfl), ⟨fun _ _ => rfl, Or.inl rfl⟩, a, l, c, f, HWk.out.below hB1, HN.out.below hB1, HL.out, hl, fun i => (Nat.zero_xor _).symm, fun _ _ _ h => (by cases h), hB1.mono (by omega)⟩

set_option maxRecDepth 100000 in
set_option maxHeartbeats 8000000 in
theorem divide_long (wb fb B t N : Nat) (a p : Option Addr) (c d : Nat) (f b : Nat → Nat) (w : World) (hWk : Wk w wb fb a (N + t) c) (hF : IsField fb w) (hN : Nw w B a (N + t) c f) (hL : Pf.Ln f (N + t)) (hS : Sl w p (t + 1) d b) (hLb : Pf.Ln b (t + 1)) (hB : B ≤ wb)
    (hp : ∀ ad, p = some ad → ad.block < B) (hfb : ∀ g, a = some ⟨g, 0, none⟩ → g ≠ fb) (hN1 : 1 ≤ N) (hl : N + t ≤ 1000000000) :
    Calls Try.prog 35 #[.pointer (some ⟨wb, 0, none⟩), .slice p (t + 1) d] w (Divides w wb fb B t f b) := by
  refine (callsIn_wide (n := 6)).1 ?_
  have hW : ∀ k, Fence.wide.fn k := fun _ => trivial
  have hD : Fence.wide.depth = none := rfl
  have hwl := hWk.lt
  obtain ⟨gr, ea, hgr, hbl⟩ := hN.cells (by omega)
  subst ea
  have w1 : ∀ o1 o2 o3, (((w.alloc o1).alloc o2).alloc o3).cell? ⟨wb, 1, none⟩ = some (.slice (some ⟨gr, 0, none⟩) (N + t) c) := fun o1 o2 o3 => by
    rw [World.cell?_alloc_lt _ _ _ (by simp; omega), World.cell?_alloc_lt _ _ _ (by simp; omega), World.cell?_alloc_lt _ _ _ (by simp; omega)]; exact hWk.c1
  have HWk := Lib.hid hWk; have HN := Lib.hid hN; have HL := Lib.hid hL; have HS := Lib.hid hS; have HF := Lib.hid hF; have HBL := Lib.hid hbl
  have HP := Lib.hid hp; have HFB := Lib.hid (hfb gr rfl); have HLB := Lib.hid hLb
  clear hWk hN hL hS hF hbl hp hfb hLb
  have g0 : ¬ (N : Int) + (t : Int) ≤ (t : Int) := by omega
  have hmk : ∀ W : World, (Instr.makeSlice 22 (.int .i64 (N : Nat)) (.int .i64 (N : Nat))).run Try.prog W = .ok (.slice (some ⟨W.heap.size, 0, none⟩) N N) (W.alloc (.cells (madeCells #[.int .u8 0] N) 5)) := fun W => by
    obtain ⟨i0, hi, hz0, hz1, hz2⟩ := info_parts Try.infoU8
    have := run_make (P := Try.prog) W 22 5 i0 (.int .u8 0) Try.underlying22 hi hz0 .i64 .i64 (N : Int) (N : Int) (by omega) (Int.le_refl _) (by rw [hz2]; omega) (by omega)
    have e : (Value.int .u8 0).cells = #[.int .u8 0] := rfl
    rw [hz1, e, Int.toNat_natCast, Nat.mul_one] at this; exact this
  refine callsIn_of_wp_marks Try.func35 rfl trivial ?_ rfl
  simp only [Try.ntmps35, List.size_toArray, List.length_cons, List.length_nil, Nat.reduceAdd, Nat.reduceSub, Array.replicate_succ, Array.replicate_zero, List.push_toArray, List.append_toArray, List.nil_append, List.cons_append]
  gi_wp2
  gi_quiet (fail)
  gi_wp2
  have b0 := ((Boxed.new w 78 (.pointer (some ⟨wb, 0, none⟩))).alloc (.cells #[.slice p (t + 1) d] 22)).alloc (.cells #[.int .i64 (t : Nat)] 3)
  have b1 := (Boxed.new (w.alloc (.cells #[.pointer (some ⟨wb, 0, none⟩)] 78)) 22 (.slice p (t + 1) d)).alloc (.cells #[.int .i64 (t : Nat)] 3)
  have b2 := Boxed.new ((w.alloc (.cells #[.pointer (some ⟨wb, 0, none⟩)] 78)).alloc (.cells #[.slice p (t + 1) d] 22)) 3 (.int .i64 (t : Nat))
  have hB0 : Below w.heap.size w ((((w.alloc (.cells #[.pointer (some ⟨wb, 0, none⟩)] 78)).alloc (.cells #[.slice p (t + 1) d] 22)).alloc (.cells #[.int .i64 (t : Nat)] 3)).drewN nq) := below_drewN ((((Below.refl _ w).alloc (Nat.le_refl _) _).alloc (by simp) _).alloc (by simp; omega) _) nq
  simp only [World.size_alloc] at b1 b2
  have hz : ((((w.alloc (.cells #[.pointer (some ⟨wb, 0, none⟩)] 78)).alloc (.cells #[.slice p (t + 1) d] 22)).alloc (.cells #[.int .i64 (t : Nat)] 3)).drewN nq).heap.size = w.heap.size + 1 + 1 + 1 := by
    show (((w.alloc _).alloc _).alloc _).heap.size = _
    simp
  have b0' := Boxed.drewN b0 nq; have b1' := Boxed.drewN b1 nq; have b2' := Boxed.drewN b2 nq
  clear b0 b1 b2 w1
  generalize ((((w.alloc (.cells #[.pointer (some ⟨wb, 0, none⟩)] 78)).alloc (.cells #[.slice p (t + 1) d] 22)).alloc (.cells #[.int .i64 (t : Nat)] 3)).drewN nq) = W0 at *
  have x1 : ∀ o, (W0.alloc o).cell? ⟨w.heap.size, 0, none⟩ = some (.pointer (some ⟨wb, 0, none⟩)) := fun o => (b0'.alloc o).cell
  have x2 : ∀ o, (W0.alloc o).cell? ⟨w.heap.size + 1 + 1, 0, none⟩ = some (.int .i64 (t : Nat)) := fun o => (b2'.alloc o).cell
  have x3 : ∀ o, (W0.alloc o).cell? ⟨wb, 1, none⟩ = some (.slice (some ⟨gr, 0, none⟩) (N + t) c) := fun o => by
    rw [World.cell?_alloc_lt _ _ _ (by rw [hz]; simp; omega)]; exact (hB0.cell (p := ⟨wb, 1, none⟩) hwl).trans HWk.out.c1
  have y1 := b0'.cell
  have y2 := b2'.cell
  have y3 : W0.cell? ⟨wb, 1, none⟩ = some (.slice (some ⟨gr, 0, none⟩) (N + t) c) := (hB0.cell (p := ⟨wb, 1, none⟩) hwl).trans HWk.out.c1
  have HB0 := Lib.hid hB0; have HZ := Lib.hid hz; have B0 := Lib.hid b0'; have B1 := Lib.hid b1'; have B2 := Lib.hid b2'
  clear hB0 hz b0' b1' b2'
  gi_cut [6] from 22 (fun s6 W => ∃ gb gq, s6 = .pointer (some ⟨gb, 0, none⟩) ∧ Boxed W gb 22 (.slice (some ⟨gq, 0, none⟩) N N) ∧ Bl W gq N N (fun _ => 0) ∧ w.heap.size + 1 + 1 + 1 ≤ gb ∧ w.heap.size + 1 + 1 + 1 ≤ gq ∧ Below (w.heap.size + 1 + 1 + 1) W0 W)
  case first =>
    gi_region
    · gi_wp2
      gi_meet
      case rel =>
        have hm := Boxed.new (W0.alloc (.cells (madeCells #[.int .u8 0] N) 5)) 22 (.slice (some ⟨W0.heap.size, 0, none⟩) N N)
        rw [World.size_alloc] at hm
        exact ⟨W0.heap.size + 1, W0.heap.size, rfl, hm, (bl_made W0 N).alloc' _, by rw [HZ.out]; omega, by rw [HZ.out]; omega, ((Below.refl _ W0).alloc (by rw [HZ.out]; omega) _).alloc (by simp; rw [HZ.out]; omega) _ |>.drew⟩
    · gi_wp2
      gi_meet
      case rel =>
        have hm := (Boxed.new W0 22 (.slice (some ⟨W0.heap.size + 1, 0, none⟩) N N)).alloc (.cells (madeCells #[.int .u8 0] N) 5)
        have hb := bl_made (W0.alloc (.cells #[.slice (some ⟨W0.heap.size + 1, 0, none⟩) N N] 22)) N
        rw [World.size_alloc] at hb
        exact ⟨W0.heap.size, W0.heap.size + 1, rfl, hm, hb, by rw [HZ.out]; omega, by rw [HZ.out]; omega, ((Below.refl _ W0).alloc (by rw [HZ.out]; omega) _).alloc (by simp; rw [HZ.out]; omega) _ |>.drew⟩
  case rest =>
    obtain ⟨gb, gq, rfl, hbx, hblq, hgb, hgq, hBc⟩ := hcut
    clear x1 x2 x3 y1 y2 y3 hmk g0
    have c6 := hbx.cell
    gi_wp2_with (gi_at_call 48; refine (back_in _ _ _ _ _).mono ?_; rintro e w' ⟨rfl, rfl⟩)
    clear c6
    have hB1 : Below w.heap.size w (wc.alloc (.cells #[.slice (some ⟨gq, 0, none⟩) N N] 22)) := (HB0.out.trans (hBc.mono (by omega))).alloc (Nat.le_trans HB0.out.size hBc.size) _
    have hsz : w.heap.size + 1 + 1 + 1 ≤ wc.heap.size := by have := hBc.size; rw [HZ.out] at this; exact this
    have e0 := ((hBc.block w.heap.size (by omega)).trans B0.out)
    have e1 := ((hBc.block (w.heap.size + 1) (by omega)).trans B1.out)
    have e2 := ((hBc.block (w.heap.size + 1 + 1) (by omega)).trans B2.out)
    have f0 : Boxed (wc.alloc (.cells #[.slice (some ⟨gq, 0, none⟩) N N] 22)) w.heap.size 78 (.pointer (some ⟨wb, 0, none⟩)) := Boxed.alloc e0 _
    have f1 : Boxed (wc.alloc (.cells #[.slice (some ⟨gq, 0, none⟩) N N] 22)) (w.heap.size + 1) 22 (.slice p (t + 1) d) := Boxed.alloc e1 _
    have f2 : Boxed (wc.alloc (.cells #[.slice (some ⟨gq, 0, none⟩) N N] 22)) (w.heap.size + 1 + 1) 3 (.int .i64 (t : Nat)) := Boxed.alloc e2 _
    have f3 := hbx.alloc (.cells #[.slice (some ⟨gq, 0, none⟩) N N] 22)
    have f4 := hblq.alloc' (.cells #[.slice (some ⟨gq, 0, none⟩) N N] 22)
    have f5 := Boxed.new wc 22 (.slice (some ⟨gq, 0, none⟩) N N)
    have f6 := HWk.out.below hB1
    have f7 := HBL.out.below hB1 HBL.out.lt
    clear e0 e1 e2
    have hDS : DvS w B w.heap.size wb fb gb gq gr wc.heap.size t N c d p (wc.alloc (.cells #[.slice (some ⟨gq, 0, none⟩) N N] 22)) (Pf.dfold b t f []).1 (Pf.dfold b t f []).2 :=
      ⟨f0, f1, f2, f3, f5, f6, f4, f7, HF.out.below hB1 (World.block_lt_of_cell? _ _ (HF.out 0 (by omega)).1), hB1.mono (by omega)⟩
    have hne1 : gq ≠ gr := by have := HBL.out.lt; omega
    have hne2 : gq ≠ fb := by have := World.block_lt_of_cell? _ _ (HF.out 0 (by omega)).1; simp at this; omega
    have hne3 := HFB.out
    have hG := hDS.good (fun i => by show 0 < 256; omega)
    have HDS := Lib.hid hDS; have HG := Lib.hid hG; have HB1 := Lib.hid hB1
    clear hDS hG hB1 f0 f1 f2 f3 f4 f5 f6 f7 hbx hblq hBc
    refine' wpIn_rangeFunc_ownG rfl (by omega) (gf := 67) (lb := #[.pointer (some ⟨wc.heap.size, 0, none⟩)]) rfl trivial (enters_of Try.func67 (by kernel_rfl) rfl)
      (back_stops _ (by omega) wc.heap.size (some ⟨gq, 0, none⟩) N N (fun _ _ => True) (by omega) _ (by simp) HG.out) kpG_t kpG_b (Below.refl _ _) (fun _ => rfl)
      (fun pre W => DvS w B w.heap.size wb fb gb gq gr wc.heap.size t N c d p W (Pf.dfold b t f (pre.map It.i)).1 (Pf.dfold b t f (pre.map It.i)).2)
      (fun _ _ _ => False)
      (fun s X Y row hs hg hr => DvS.own (by omega) (by omega) (fun pre : List (It N (fun _ _ => True)) => (Pf.dfold b t f (pre.map It.i)).1) (fun pre => (Pf.dfold b t f (pre.map It.i)).2) s X Y row hs hg (fun r e => ⟨by have := (hr r e).1; simp at this; omega, (hr r e).2⟩))
      (fun _ _ _ _ _ hs _ _ => hs)
      HDS.out
      _ ?assign ?body ?done ?stop
    case assign =>
      intro l x W K hK
      unfold It.enc
      gi_wp2
      exact hK
    case body =>
      rintro l pre y W hDS _
      have hby := Pf.dfold_by (t := t) HS.out.bytes HN.out.sl.bytes (pre.map It.i)
      have hsn := Pf.dfold_snoc b t f (pre.map It.i) y.i
      rw [show pre.map It.i ++ [y.i] = (pre ++ [y]).map It.i by simp] at hsn
      have HSN := Lib.hid hsn; clear hsn
      generalize Pf.dfold b t f (pre.map It.i) = s at *
      have hyi := y.hi
      generalize y.i = j at *
      obtain ⟨bp, offp, ep, cp⟩ := (HS.out.below hDS.be (fun ad ha _ => HP.out ad ha)).at_ (k := t) (by omega)
      have z0 := hDS.b0.cell; have z1 := hDS.b1.cell; have z2 := hDS.b2.cell; have z3 := hDS.b3.cell; have z5 := hDS.wk.c0; have z6 := hDS.wk.c1
      have z7 := hDS.br.cell (i := j + t) (by omega)
      have z8 := hDS.bq.cell hyi
      have z9 := hDS.bq.free j
      have FI := Lib.hid hDS.fi
      have HD1 := Lib.hid hDS
      clear hDS
      have d1 := hby.2 (j + t)
      have d2 := HS.out.bytes t
      have HPP := Lib.hid ep
      rw [ep] at z1
      have i1 : (j : Int) < (N : Int) := by omega
      have i2 : (j : Int) + (t : Int) < (N : Int) + (t : Int) := by omega
      have i3 : IntKind.i64.wrap ((j : Int) + (t : Int)) = (j : Int) + (t : Int) := IntWalk.i64_in _ (by omega)
      have i4 : ((j : Int) + (t : Int)).toNat = j + t := by omega
      have i5 : (0 : Int) ≤ (j : Int) + (t : Int) := by omega
      have i6 : (t : Int) < (t : Int) + 1 := by omega
      gi_wp2
      refine Rb.wpIn_round_quiet (by kernel_rfl) (by kernel_rfl) (by kernel_rfl) ?_
      repeat (go_big_quiet_step ((go_at_call 42; exact Calls.quiet_of (div_nat fb (s.2 (j + t)) (b t) d1 d2 _ (FI.out.drewN _)))))
      refine wpQuiet_nil ?_
      rintro _ ⟨k1, rfl⟩
      have hpt := Gf.mul_lt d1 (ivN_lt (b t))
      have hqb : Pf.By (fun i => if i = j then Gf.mul (s.2 (j + t)) (ivN (b t)) else s.1 i) := fun i => by
        show (if i = j then _ else _) < 256
        split
        · exact hpt
        · exact hby.1 i
      have HRE := Lib.hid (fun n => Pf.rmid_e HS.out.up s j n)
      generalize hpp : Gf.mul (s.2 (j + t)) (ivN (b t)) = pt at *
      have HPT := Lib.hid hpp; clear hpp
      have HD2 := Lib.hid (DvS.setq (HD1.out.drewN k1) hne1 hne2 (by omega) hyi pt)
      have HK2 := Lib.hid (KeepsOthers.trans (keeps_drewN W k1) (KeepsOthers.setCell (W.drewN k1) ⟨gq, j, none⟩ (.int .u8 (pt : Nat))))
      have v1 := (DvS.b1 HD2.out).cell
      rw [ep] at v1
      clear ep
      gi_wp2
      clear z0 z1 z2 z3 z5 z6 z7 z8 z9 v1
      gi_loopw [61] (fun i wr => ∃ k : Nat, k ≤ t + 1 ∧ i = .int .i64 k ∧ KeepsOthers W wr ∧ DvS w B w.heap.size wb fb gb gq gr wc.heap.size t N c d p wr (fun i => if i = j then pt else s.1 i) (Pf.rmid s.2 j pt b k)) (fun i _ => t + 1 - (intOf i).toNat)
      case atStart => exact ⟨0, by omega, rfl, HK2.out, HD2.out.congr (fun _ _ => rfl) (fun i _ => Pf.rmid_0 s.2 j pt b i)⟩
      case round =>
        obtain ⟨k, hk, rfl, hKO, hDv⟩ := hrel
        by_cases hlt : k < t + 1
        · obtain ⟨bp2, offp2, ep2, cp2⟩ := (HS.out.below hDv.be (fun ad ha _ => HP.out ad ha)).at_ hlt
          have z0 := hDv.b0.cell; have z5 := hDv.wk.c0; have z6 := hDv.wk.c1
          have z7 := hDv.br.cell (i := j + k) (by omega)
          have z9 := hDv.br.free (j + k)
          have FI2 := Lib.hid hDv.fi
          have HD3 := Lib.hid hDv; have HK3 := Lib.hid hKO
          clear hDv hKO
          rw [Pf.rmid_at] at z7
          have d3 := hby.2 (j + k)
          have d4 := HS.out.bytes k
          have d5 := Gf.mul_lt hpt d4
          obtain ⟨rfl, rfl⟩ : bp2 = bp ∧ offp2 = offp := by
            have := HPP.out
            rw [ep2] at this
            simpa using this
          clear ep2
          have i7 : (k : Int) < (t : Int) + 1 := by omega
          have i8 : (j : Int) + (k : Int) < (N : Int) + (t : Int) := by omega
          have i9 : IntKind.i64.wrap ((j : Int) + (k : Int)) = (j : Int) + (k : Int) := IntWalk.i64_in _ (by omega)
          have i10 : ((j : Int) + (k : Int)).toNat = j + k := by omega
          have i11 : (0 : Int) ≤ (j : Int) + (k : Int) := by omega
          gi_wp2
          refine Rb.wpIn_round_quiet_tail 25 (by kernel_rfl) (by kernel_rfl) (by kernel_rfl) ?_
          simp only [List.take_succ_cons, List.take_zero, List.drop_succ_cons, List.drop_zero]
          repeat (go_big_quiet_step ((first | (go_at_call 28; exact Calls.quiet_of (mul_nat fb pt (b k) hpt d4 _ (FI2.out.drewN _))) | (go_at_call 27; exact Calls.quiet_of_same (add_nat (s.2 (j + k)) (Gf.mul pt (b k)) d3 d5 _)))))
          refine wpQuiet_nil ?_
          rintro _ ⟨k2, rfl⟩
          gi_wp2
          refine ⟨⟨k + 1, by omega, by go_num, KeepsOthers.trans HK3.out (KeepsOthers.trans (keeps_drewN _ k2) (KeepsOthers.setCell _ _ _)), (DvS.setr (HD3.out.drewN k2) hne1 hne3 hgr (j := j + k) (by omega) _).congr (fun _ _ => rfl) (fun i _ => Pf.rmid_s s.2 j pt b k i)⟩, by simp [intOf]; omega⟩
        · obtain rfl : k = t + 1 := by omega
          have HD3 := Lib.hid hDv; have HK3 := Lib.hid hKO
          clear hDv hKO hlt
          gi_wp2
          have hfin : DvS w B w.heap.size wb fb gb gq gr wc.heap.size t N c d p wr (Pf.dfold b t f (List.map It.i (pre ++ [y]))).1 (Pf.dfold b t f (List.map It.i (pre ++ [y]))).2 := by
            rw [HSN.out]
            refine HD3.out.congr (fun i _ => ?_) (fun i _ => HRE.out i)
            show (if i = j then pt else s.1 i) = (if i = j then Gf.mul (s.2 (j + t)) (ivN (b t)) else s.1 i)
            rw [HPT.out]
          exact ⟨HK3.out.from _, fun _ => HD3.out.good hqb, hfin⟩
    case done =>
      rintro D ys W hD hys hDv hK
      obtain ⟨hfa, hfb2, hfc, hfd⟩ := Pf.dfold_inv HS.out.bytes HN.out.sl.bytes HLB.out HL.out.1 N (Nat.le_refl _) (ys.map It.i) hys
      have hby := Pf.dfold_by (t := t) HS.out.bytes HN.out.sl.bytes (ys.map It.i)
      clear hys
      generalize Pf.dfold b t f (ys.map It.i) = s at *
      have z0 := fun d os => cell_regrown hDv.b0.cell d os
      have z6 := fun d os => cell_regrown hDv.wk.c1 d os
      have HD1 := Lib.hid hDv; have HFA := Lib.hid hfa; have HFC := Lib.hid hfc; have HFD := Lib.hid (hfd (by omega)); have HFB2 := Lib.hid hfb2
      clear hDv hfa hfb2 hfc hfd
      have sr : Sl W (some ⟨gr, 0, none⟩) (N + t) c s.2 := HD1.out.br.sl HN.out.sl.capOk HN.out.sl.maxOk hby.2 (fun i hi => HFC.out i (by omega))
      have SR := Lib.hid sr; clear sr
      gi_wp2
      refine Rb.wpIn_wide_quiet_tail (C := fun w' => ∃ p : Regrown, w' = Sort.grow (redrawn W p.d) p.os) 8 (by kernel_rfl) (by kernel_rfl) (by kernel_rfl) ⟨⟨W.drawn + 1, #[]⟩, by rw [Sort.grow_empty]; rfl⟩ ?_
      simp only [List.take_succ_cons, List.take_zero, List.drop_succ_cons, List.drop_zero]
      repeat (go_big_quiet_step ((go_at_call 30; exact Calls.regrown_of (trim_any _ _ _ s.2 (by omega) _ (SR.out.same (below_regrown _ _ _))))))
      refine wpQuiet_nil ?_
      rintro W5 ⟨pq, hW5⟩
      have hB5 : Below W.heap.size W W5 := by rw [hW5]; exact below_regrown _ _ _
      clear hW5 z0 z6
      have hDl : D < W.heap.size := (Array.getElem?_eq_some_iff.1 hK).1
      have hK5 : W5.heap[D]? = some (.deferred (some [])) := (hB5.block D hDl).trans hK
      have wk5 := HD1.out.wk.below hB5
      have bx5 : Boxed W5 gb 22 (.slice (some ⟨gq, 0, none⟩) N N) := (hB5.block gb (Boxed.lt HD1.out.b3)).trans HD1.out.b3
      have z7 := wk5.c1
      have z8 := wk5.free 1
      have z9 := bx5.cell
      have WK5 := Lib.hid wk5; have HB5 := Lib.hid hB5; have HK5 := Lib.hid hK5
      have hln := Pf.ln_le s.2 (N + t)
      clear wk5 bx5 hB5 hK hK5
      gi_wp2
      have NR : Nw W5 B (tA (some ⟨gr, 0, none⟩) (Pf.ln s.2 (N + t))) (Pf.ln s.2 (N + t)) (tC c (Pf.ln s.2 (N + t))) s.2 := ((Nw.of_bl HD1.out.br HN.out.sl.capOk HN.out.sl.maxOk hby.2 SR.out.up hgr).below HB5.out).trim
      have NQ : Nw W5 B (some ⟨gq, 0, none⟩) N N s.1 := (Nw.of_bl HD1.out.bq (Nat.le_refl _) (by unfold maxLen; omega) hby.1 (fun i hi => HFB2.out i (Or.inr hi)) (by omega)).below HB5.out
      have hrw : ∀ g, tA (some ⟨gr, 0, none⟩) (Pf.ln s.2 (N + t)) = some ⟨g, 0, none⟩ → g = gr := fun g e => by
        unfold tA at e
        split at e
        · cases e
        · cases e; rfl
      have hwr : wb ≠ gr := Wk.ne_bl HD1.out.wk HD1.out.br
      have hwq : wb ≠ gq := Wk.ne_bl HD1.out.wk HD1.out.bq
      generalize tA (some ⟨gr, 0, none⟩) (Pf.ln s.2 (N + t)) = ar at *
      generalize tC c (Pf.ln s.2 (N + t)) = cr at *
      have hK6 := (KeepsOthers.setCell W5 ⟨wb, 1, none⟩ (.slice ar (Pf.ln s.2 (N + t)) cr)).same D _ HK5.out rfl
      refine ⟨by simp, .inl ⟨_, _, rfl, run_takeDeferred hK6, ?_⟩⟩
      have hgs := grown_set W5 ⟨wb, 1, none⟩ (.slice ar (Pf.ln s.2 (N + t)) cr)
      have hb0 : b t ≠ 0 := by have := HLB.out.2.resolve_left (by omega); simpa using this
      have hf0 : f (N - 1 + t) ≠ 0 := by have := HL.out.2.resolve_left (by omega); rwa [show N + t - 1 = N - 1 + t by omega] at this
      refine ⟨_, results_tmp rfl _ _ _, some ⟨gq, 0, none⟩, N, N, s.1, rfl, (NQ.grown hgs (fun g e => by cases e; simpa using Ne.symm hwq)).putObj' hK6, ⟨fun i hi => HFB2.out i (Or.inr hi), Or.inr ?_⟩,
        ar, _, cr, s.2, ?_, (NR.grown hgs (fun g e => by rw [hrw g e]; simpa using Ne.symm hwr)).putObj' hK6, Pf.ln_Ln _ SR.out.up, (Pf.ln_Ln _ SR.out.up).le (fun i hi => HFC.out i (by omega)), HFA.out, fun g g' e e' => ?_, ?_⟩
      · rw [HFD.out]
        refine Gf.mul_pos (HN.out.sl.bytes _) (ivN_lt _) hf0 ?_
        unfold ivN; rw [if_neg hb0]; exact Gf.pwr_pos _ _
      · have h1 := WK5.out.set ar (Pf.ln s.2 (N + t)) cr
        exact heap_kept h1 (grownBy_putObj' _ D _) (fun r e => by cases e; exact ⟨_, hK6, rfl⟩)
      · cases e'
        rw [hrw g e]; exact Ne.symm hne1
      · refine Below.trans (HD1.out.be.trans (HB5.out.mono (Nat.le_trans (by omega) HD1.out.be.size))) ((Below.setCell (Below.refl _ _) (p := ⟨wb, 1, none⟩) hB _).trans (belowK_b (w := w) (by omega) _ D _ _ (by simp at hD; omega) hK6 rfl rfl))
    case stop =>
      rintro D c pre W _ _ h _
      exact h.elim
end Go.Proofs.Ytmabdfcabpnabaa
