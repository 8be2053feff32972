import Derived.Deep.RegionWith
import Derived.Deep.DeepCutAuto
import Derived.Test.YtkejabhjlflknaaGreatMg15
import Derived.Test.YtkejabhjlflknaaGreatMg19
namespace Go.Proofs.YtkejabhjlflknaaGreat.Pf
open Gf
/-- K rows of a table, by whichever bytes. -/
theorem tbl_two {R : Nat → Nat} {K : Nat} (hR : By R) (hd : Dst R K) (hK : K ≤ 256) : Mt.Two K (fun j b => lw R K (idn j) b) (fun a j => lw idn K (R a) j) := by
  have hp : ∀ (P Q : Nat → Nat), By P → By Q → Dst P K → Dst Q K → ∀ x, x < 256 → ∀ b, b < K → xsum (fun j => mul (lw P K x j) (lw Q K (P j) b)) K = lw Q K x b := fun P Q hP hQ hdP hdQ x hx b hb => by
    rw [← lbp_ev hQ hx hb]
    exact (lagrange hP hdP (p := lbp Q K b) (v := fun j => lw Q K (P j) b) (lbp_by hQ K b) (lbp_up hb) (fun j => lw_by hQ K (hP j) b) (fun i hi => lbp_ev hQ (hP i) hb) hx).symm
  refine ⟨fun i j => lw_by hR K (idn_by i) j, fun i j => lw_by idn_by K (hR i) j, fun i j hi hj => ?_, fun i j hi hj => ?_⟩
  · show xsum (fun k => mul (lw R K (idn i) k) (lw idn K (R k) j)) K = _
    rw [hp R idn hR idn_by hd (idn_dst hK) _ (idn_by i) j hj, lw_at idn_by (idn_dst hK) hj hi]
    unfold Mt.dl
    by_cases e : j = i
    · rw [if_pos e, if_pos e.symm]
    · rw [if_neg e, if_neg (Ne.symm e)]
  · show xsum (fun k => mul (lw idn K (R i) k) (lw R K (idn k) j)) K = _
    rw [hp idn R idn_by hR (idn_dst hK) hd _ (hR i) j hj, lw_at hR hd hj hi]
    unfold Mt.dl
    by_cases e : j = i
    · rw [if_pos e, if_pos e.symm]
    · rw [if_neg e, if_neg (Ne.symm e)]
/-- their rank. -/
theorem tbl_rk {R : Nat → Nat} {K : Nat} (hR : ∀ i, i < K → R i < 256) (hd : Dst R K) (hK : K ≤ 256) : Mt.rk K K (fun i => tbl K (R i)) = K := by
  have hd2 : Dst (fun i => R i % 256) K := fun i j h1 h2 => by
    show R i % 256 ≠ R j % 256
    rw [Nat.mod_eq_of_lt (hR i (by omega)), Nat.mod_eq_of_lt (hR j h2)]; exact hd i j h1 h2
  exact Mt.rk_two (tbl_two (R := fun i => R i % 256) (fun i => Nat.mod_lt _ (by omega)) hd2 hK).turn
theorem isP_no {P : Nat → Nat} {x : Nat} : ∀ k, isP P x k = false → ∀ j, j < k → P j ≠ x
  | 0, _, _, h => by omega
  | k + 1, h, j, hj => by
    unfold isP at h
    rw [Bool.or_eq_false_iff] at h
    by_cases e : j = k
    · rw [e]; exact of_decide_eq_false h.2
    · exact isP_no k h.1 j (by omega)
theorem isP_congr {P Q : Nat → Nat} {x : Nat} : ∀ k, (∀ j, j < k → P j = Q j) → isP P x k = isP Q x k
  | 0, _ => rfl
  | k + 1, h => by
    unfold isP; rw [isP_congr k (fun j hj => h j (by omega)), h k (by omega)]
theorem isP_lt {P : Nat → Nat} {x k j : Nat} (hj : j < k) (e : P j = x) : isP P x k = true := by
  cases h : isP P x k
  · exact absurd e (isP_no k h j hj)
  · rfl
end Go.Proofs.YtkejabhjlflknaaGreat.Pf
namespace Go.Proofs.YtkejabhjlflknaaGreat
open Go.RowKit Go.Shelf

/-- a block of numbers. -/
def Bi (w : World) (g n : Nat) (h : Nat → Int) : Prop := ∃ vs : Array Value, w.heap[g]? = some (.cells vs 3 (0, 0)) ∧ vs.size = n ∧ ∀ i, i < n → vs[i]? = some (.int .i64 (h i))
section
variable {w w' : World} {g n : Nat} {h : Nat → Int}
theorem Bi.cell (b : Bi w g n h) {i : Nat} (hi : i < n) : w.cell? ⟨g, i, none⟩ = some (.int .i64 (h i)) := by
  obtain ⟨vs, h1, h2, h3⟩ := b
  rw [cell_of_row w g i vs _ _ h1]; exact h3 i hi
theorem Bi.free (b : Bi w g n h) (i : Nat) : w.frozen? ⟨g, i, none⟩ = false := by
  obtain ⟨vs, h1, _⟩ := b
  exact frozen_of_row w g i vs _ h1
theorem Bi.lt (b : Bi w g n h) : g < w.heap.size := by
  obtain ⟨vs, h1, _⟩ := b
  exact (Array.getElem?_eq_some_iff.1 h1).1
theorem Bi.kept (b : Bi w g n h) (hk : w'.heap[g]? = w.heap[g]?) : Bi w' g n h := by
  obtain ⟨vs, h1, h2⟩ := b
  exact ⟨vs, hk.trans h1, h2⟩
theorem Bi.congr {h' : Nat → Int} (b : Bi w g n h) (he : ∀ i, i < n → h i = h' i) : Bi w g n h' := by
  obtain ⟨vs, h1, h2, h3⟩ := b
  exact ⟨vs, h1, h2, fun i hi => by rw [← he i hi]; exact h3 i hi⟩
theorem Bi.set (b : Bi w g n h) {j : Nat} (hj : j < n) (v : Int) : Bi (w.setCell ⟨g, j, none⟩ (.int .i64 v)) g n (fun i => if i = j then v else h i) := by
  obtain ⟨vs, h1, h2, h3⟩ := b
  refine ⟨vs.setIfInBounds j (.int .i64 v), heap_setCell_same w g j vs _ _ h1, by simpa using h2, fun i hi => ?_⟩
  rw [Array.getElem?_setIfInBounds]
  show _ = some (Value.int .i64 (if i = j then v else h i))
  by_cases e : j = i
  · subst e; rw [if_pos rfl, if_pos (by omega), if_pos rfl]
  · rw [if_neg e, if_neg (fun hh => e (Eq.symm hh))]; exact h3 i hi
end
theorem bi_made (W : World) (N : Nat) : Bi (W.alloc (.cells (madeCells #[.int .i64 0] N) 3)) W.heap.size N (fun _ => 0) :=
  ⟨_, heap_alloc_new W _, size_madeCells _ _, fun i hi => by
    have : (madeCells #[Value.int .i64 0] N).toList[i]? = some (.int .i64 0) := by rw [toList_madeCells_one, List.getElem?_replicate, if_pos hi]
    rwa [Array.getElem?_toList] at this⟩
theorem Tryz.infoInt : (Tryz.prog.info? 3).map (fun i => (i.zero, i.size, i.bytes)) = some (some (.int .i64 0), 1, 8) := by kernel_rfl
theorem hmkI (N : Nat) (hN : N ≤ 1000000000) : ∀ W : World, (Instr.makeSlice 23 (.int .i64 (N : Nat)) (.int .i64 (N : Nat))).run Tryz.prog W = .ok (.slice (some ⟨W.heap.size, 0, none⟩) N N) (W.alloc (.cells (madeCells #[.int .i64 0] N) 3)) := fun W => by
  obtain ⟨i0, hi, hz0, hz1, hz2⟩ := info_parts Tryz.infoInt
  have := run_make (P := Tryz.prog) W 23 3 i0 (.int .i64 0) Tryz.underlying23 hi hz0 .i64 .i64 (N : Int) (N : Int) (by omega) (Int.le_refl _) (by rw [hz2]; omega) (by omega)
  have e : (Value.int .i64 0).cells = #[.int .i64 0] := rfl
  rw [hz1, e, Int.toNat_natCast, Nat.mul_one] at this; exact this
/-- a list of rows of a table. -/
def rowl (b : Nat → Nat) (K : Nat) (R : Nat → Nat) (m : Nat) : List Value := (List.range m).map fun i => Value.slice (some ⟨b (R i), 0, none⟩) K K
theorem rowl_succ (b : Nat → Nat) (K : Nat) (R : Nat → Nat) (m : Nat) : rowl b K R (m + 1) = rowl b K R m ++ [Value.slice (some ⟨b (R m), 0, none⟩) K K] := by
  unfold rowl; rw [List.range_succ, List.map_append]; rfl
theorem rowl_congr (b : Nat → Nat) (K : Nat) {R R' : Nat → Nat} {m : Nat} (h : ∀ i, i < m → R i = R' i) : rowl b K R m = rowl b K R' m := by
  unfold rowl
  exact List.map_congr_left fun i hi => by rw [h i (List.mem_range.1 hi)]
theorem rowl_rd {w : World} {B G N cap m sc K : Nat} {b : Nat → Nat} {R : Nat → Nat} {f : Nat → Nat → Nat} {sa : Option Addr} (ho : w.ownsRow B 50 1 (.slice sa m sc) m (rowl b K R m)) {B' : Nat} (hG : Gr w B' G N cap b (fun _ => K) (fun _ => K) f) (hR : ∀ i, i < m → R i < N) :
    Rd w sa m sc (fun i => some ⟨b (R i), 0, none⟩) (fun _ => K) (fun _ => K) (fun i => f (R i)) := by
  obtain ⟨_, ⟨e, h0⟩ | ⟨g, cap', cur, e, hg, hh, hnc, hcm, hs, ht⟩⟩ := ho
  · simp only [Value.slice.injEq] at e
    obtain ⟨rfl, rfl, rfl⟩ := e
    exact ⟨Nat.le_refl _, by unfold maxLen; omega, fun i j => hG.bm _ _, fun _ => ⟨rfl, rfl⟩, fun _ e => (by cases e), fun _ e => (by cases e), fun i hi => absurd hi (Nat.not_lt_zero i)⟩
  · simp only [Value.slice.injEq, true_and] at e
    obtain ⟨rfl, rfl⟩ := e
    refine ⟨by omega, hcm, fun i j => hG.bm _ _, fun e => (by cases e), fun ad e _ => (by cases e; rfl), fun ad e i hi => ?_, fun i hi => ?_⟩
    · cases e
      show w.cell? ⟨g, 0 + i, none⟩ = _
      rw [Nat.zero_add, cell_of_row w g i cur _ _ hh]
      have : (cur.toList.take (m * 1))[i]? = some (.slice (some ⟨b (R i), 0, none⟩) K K) := by rw [ht]; simp [rowl, hi]
      rw [List.getElem?_take, if_pos (by omega), Array.getElem?_toList] at this
      exact this
    · exact (hG.row (R i) (hR i hi)).sl (Nat.le_refl _) (hG.lc (R i) (hR i hi)).2 (hG.bm _) (hG.up (R i) (hR i hi))
end Go.Proofs.YtkejabhjlflknaaGreat

namespace Go.Proofs.YtkejabhjlflknaaGreat.Pf
open Gf
/-- values at t of rows that are held at the points R: the polynomials, place by place. -/
def mv (R : Nat → Nat) (K : Nat) (g : Nat → Nat → Nat) (t j : Nat) : Nat := xsum (fun p => mul (lw R K t p) (g p j)) K
section
variable {R : Nat → Nat} {K : Nat}
theorem mv_bm (hR : By R) {g : Nat → Nat → Nat} (hg : Mt.Bm g) {t : Nat} (ht : t < 256) : By (mv R K g t) := fun j => xsum_lt K fun p _ => mul_lt (lw_by hR K ht p) (hg p j)
theorem mv_up {g : Nat → Nat → Nat} {wi : Nat} (hg : ∀ p, p < K → Up (g p) wi) (t : Nat) : Up (mv R K g t) wi := fun j hj => xsum_zero K fun p hp => by rw [hg p hp j hj, mul_zero]
theorem mv_congr {g g' : Nat → Nat → Nat} (h : ∀ p j, p < K → g p j = g' p j) (t : Nat) : mv R K g t = mv R K g' t := funext fun j => xsum_congr K fun p hp => by rw [h p j hp]
theorem mv_points {R' : Nat → Nat} (h : ∀ j, j < K → R j = R' j) (g : Nat → Nat → Nat) (t : Nat) : mv R K g t = mv R' K g t := by
  unfold mv; rw [lw_congr h]
theorem mv_dot (g : Nat → Nat → Nat) (t j : Nat) : mv R K g t j = dotN (lw R K t) (fun p => g p j) K := rfl
/-- at a point itself stands what is held there. -/
theorem mv_at (hR : By R) (hd : Dst R K) {g : Nat → Nat → Nat} (hg : Mt.Bm g) {i : Nat} (hi : i < K) : mv R K g (R i) = g i := funext fun j => by
  unfold mv
  rw [xsum_one K hi (fun p hp hne => by rw [lw_at hR hd hp hi, if_neg hne, zero_mul]), lw_at hR hd hi hi, if_pos rfl, mul_one _ (hg i j)]
/-- from points to other points, and on from these, is the way straight on. -/
theorem mv_mv {Q : Nat → Nat} (hR : By R) (hQ : By Q) (_hdR : Dst R K) (hdQ : Dst Q K) {g : Nat → Nat → Nat} (hg : Mt.Bm g) {t : Nat} (ht : t < 256) : mv Q K (fun p => mv R K g (Q p)) t = mv R K g t := funext fun j => by
  have e : ∀ b, b < K → xsum (fun p => mul (lw Q K t p) (lw R K (Q p) b)) K = lw R K t b := fun b hb => by
    rw [← lbp_ev hR ht hb]
    exact (lagrange hQ hdQ (p := lbp R K b) (v := fun p => lw R K (Q p) b) (lbp_by hR K b) (lbp_up hb) (fun p => lw_by hR K (hQ p) b) (fun i hi => lbp_ev hR (hQ i) hb) ht).symm
  have a := Mt.mm_assoc (A := fun _ p => lw Q K t p) (B := fun p b => lw R K (Q p) b) (C := g) (fun _ p => lw_by hQ K ht p) (fun p b => lw_by hR K (hQ p) b) hg K K 0 j
  show xsum (fun p => mul (lw Q K t p) (xsum (fun b => mul (lw R K (Q p) b) (g b j)) K)) K = _
  refine Eq.trans a.symm ?_
  show xsum (fun b => mul (xsum (fun p => mul (lw Q K t p) (lw R K (Q p) b)) K) (g b j)) K = _
  exact xsum_congr K fun b hb => by rw [e b hb]
/-- of sums. -/
theorem mv_xor {g g' : Nat → Nat → Nat} (t j : Nat) : mv R K (fun p j => g p j ^^^ g' p j) t j = mv R K g t j ^^^ mv R K g' t j := by
  unfold mv
  rw [← xsum_xor]
  exact xsum_congr K fun p _ => mul_xor _ _ _
/-- the matrix that turns symbols to their source. -/
theorem inv_lw (hR : ∀ i, i < K → R i < 256) (hd : Dst R K) (hK : K ≤ 256) {i j : Nat} (hi : i < K) (hj : j < K) : Mt.inv (fun i => tbl K (R i)) K i j = lw R K i j := by
  have hd2 : Dst (fun i => R i % 256) K := fun i j h1 h2 => by
    show R i % 256 ≠ R j % 256
    rw [Nat.mod_eq_of_lt (hR i (by omega)), Nat.mod_eq_of_lt (hR j h2)]; exact hd i j h1 h2
  have t := tbl_two (R := fun i => R i % 256) (fun i => Nat.mod_lt _ (by omega)) hd2 hK
  have b := Mt.inv_two (A := fun i => tbl K (R i)) (fun i j => tbl_bm K (R i) j) (tbl_rk hR hd hK)
  have := Mt.two_uniq b t hi hj
  rw [this]
  show lw (fun i => R i % 256) K (idn i) j = lw R K i j
  rw [idn_at (by omega), lw_congr (P' := R) (fun j hj => Nat.mod_eq_of_lt (hR j hj))]
end
end Go.Proofs.YtkejabhjlflknaaGreat.Pf

namespace Go.Proofs.YtkejabhjlflknaaGreat
open Go.RowKit Go.Shelf

/-- a coder: its field, its table. -/
structure Cd (w : World) (cb fb G N K : Nat) (b : Nat → Nat) : Prop where
  blk : w.heap[cb]? = some (.cells #[.pointer (some ⟨fb, 0, none⟩), .slice (some ⟨G, 0, none⟩) N N] 125 (0, 0))
  fi : IsField fb w
  tb : Gr w 0 G N N b (fun _ => K) (fun _ => K) (Pf.tbl K)
  k1 : 1 ≤ K
  kn : K ≤ N
  nm : N ≤ 255
section
variable {w w' : World} {cb fb G N K : Nat} {b : Nat → Nat}
theorem Cd.lt (h : Cd w cb fb G N K b) : cb < w.heap.size := (Array.getElem?_eq_some_iff.1 h.blk).1
theorem Cd.same (h : Cd w cb fb G N K b) (hB : Below w.heap.size w w') : Cd w' cb fb G N K b := ⟨(hB.block cb h.lt).trans h.blk, h.fi.same hB, h.tb.same hB, h.k1, h.kn, h.nm⟩
theorem Cd.c0 (h : Cd w cb fb G N K b) : w.cell? ⟨cb, 0, none⟩ = some (.pointer (some ⟨fb, 0, none⟩)) := by rw [cell_of_row w cb 0 _ _ _ h.blk]; rfl
theorem Cd.c1 (h : Cd w cb fb G N K b) : w.cell? ⟨cb, 1, none⟩ = some (.slice (some ⟨G, 0, none⟩) N N) := by rw [cell_of_row w cb 1 _ _ _ h.blk]; rfl
end

set_option maxHeartbeats 400000 in
theorem cnone_any (cb fb G N K : Nat) (b : Nat → Nat) (w : World) (h : Cd w cb fb G N K b) :
    Calls Tryz.prog 74 #[.pointer (some ⟨cb, 0, none⟩)] w fun e w' => e = .returned (.bool false) ∧ w' = w := by
  have c0 := h.c0
  clear h
  go_enter Tryz.func74, Tryz.ntmps74
  go_wp2
  go_ret
  exact ⟨rfl, rfl⟩
set_option maxHeartbeats 400000 in
theorem enough_any (cb fb G N K : Nat) (b : Nat → Nat) (w : World) (h : Cd w cb fb G N K b) :
    Calls Tryz.prog 102 #[.pointer (some ⟨cb, 0, none⟩)] w fun e w' => e = .returned (.int .i64 (K : Nat)) ∧ w' = w := by
  have c1 := h.c1
  have k1 := h.k1; have kn := h.kn
  have c2 := h.tb.cell (i := 0) (by omega)
  have i1 : (0 : Int) < (N : Int) := by omega
  have i2 : 0 < N := by omega
  clear h
  go_enter Tryz.func102, Tryz.ntmps102
  go_wp2
  go_ret
  exact ⟨rfl, rfl⟩
set_option maxHeartbeats 400000 in
theorem has_yes (cb fb G N K : Nat) (b : Nat → Nat) (x : Nat) (hx : x < N) (w : World) (h : Cd w cb fb G N K b) :
    Calls Tryz.prog 131 #[.pointer (some ⟨cb, 0, none⟩), .int .i64 (x : Nat)] w fun e w' => e = .returned (.bool true) ∧ w' = w := by
  have c1 := h.c1
  have i1 : (0 : Int) ≤ (x : Int) := by omega
  have i2 : (x : Int) < (N : Int) := by omega
  clear h
  go_enter Tryz.func131, Tryz.ntmps131
  go_wp2
  go_ret
  exact ⟨rfl, rfl⟩
set_option maxHeartbeats 400000 in
theorem has_no (cb fb G N K : Nat) (b : Nat → Nat) (x : Int) (hx : x < 0 ∨ (N : Int) ≤ x) (w : World) (h : Cd w cb fb G N K b) :
    Calls Tryz.prog 131 #[.pointer (some ⟨cb, 0, none⟩), .int .i64 x] w fun e w' => e = .returned (.bool false) ∧ w' = w := by
  have c1 := h.c1
  clear h
  by_cases h0 : x < 0
  · have g1 : decide ((0 : Int) ≤ x) = false := by simp; omega
    clear hx
    go_enter Tryz.func131, Tryz.ntmps131
    go_wp2
    go_ret
    exact ⟨rfl, rfl⟩
  · have g1 : decide ((0 : Int) ≤ x) = true := by simp; omega
    have g2 : decide (x < (N : Int)) = false := by simp; omega
    clear hx
    go_enter Tryz.func131, Tryz.ntmps131
    go_wp2
    go_ret
    exact ⟨rfl, rfl⟩

/-- what asks rows: a function of a place. -/
structure Ask (w : World) (F lb n : Nat) (r : Nat → Option Addr) (l c : Nat → Nat) (f : Nat → Nat → Nat) : Prop where
  bm : Mt.Bm f
  ent : ∀ (args : Array Value) (W : World), (callFunc F args).run Tryz.prog W = .ok (.enter F args) W
  call : ∀ W, Below w.heap.size w W → ∀ k : Nat, k < n → Calls Tryz.prog F #[.int .i64 (k : Nat), .pointer (some ⟨lb, 0, none⟩)] W fun e W' => e = .returned (.slice (r k) (l k) (c k)) ∧ W' = W
  row : ∀ i, i < n → Sl w (r i) (l i) (c i) (f i)
theorem Ask.same {w w' : World} {F lb n : Nat} {r : Nat → Option Addr} {l c : Nat → Nat} {f : Nat → Nat → Nat} (h : Ask w F lb n r l c f) (hB : Below w.heap.size w w') : Ask w' F lb n r l c f :=
  ⟨h.bm, h.ent, fun W hW => h.call W (hB.trans (hW.mono hB.size)), fun i hi => (h.row i hi).same hB⟩

set_option maxHeartbeats 400000 in
theorem of1_any (a : Option Addr) (n cap lb k : Nat) (r : Nat → Option Addr) (l c : Nat → Nat) (f : Nat → Nat → Nat) (hk : k < n) (w : World) (hb : w.cell? ⟨lb, 0, none⟩ = some (.slice a n cap)) (hR : Rd w a n cap r l c f) :
    Calls Tryz.prog 104 #[.int .i64 (k : Nat), .pointer (some ⟨lb, 0, none⟩)] w fun e w' => e = .returned (.slice (r k) (l k) (c k)) ∧ w' = w := by
  obtain ⟨b, o, ea, hc⟩ := hR.at_ hk
  have i1 : (k : Int) < (n : Int) := by omega
  subst ea
  clear hR
  go_enter Tryz.func104, Tryz.ntmps104
  go_wp2
  go_ret
  exact ⟨rfl, rfl⟩
set_option maxHeartbeats 400000 in
theorem of_any (a : Option Addr) (n cap : Nat) (w : World) :
    Calls Tryz.prog 77 #[.slice a n cap] w fun e w' => e = .returned (.func (.func 104) #[] #[.pointer (some ⟨w.heap.size, 0, none⟩)]) ∧ w' = w.alloc (.cells #[.slice a n cap] 22) := by
  have hmf : ∀ (fn : Fn) (first cap : Array Value) (w : World), (Instr.makeFunc fn first cap).run Tryz.prog w = .ok (.func fn first cap) w := fun _ _ _ _ => rfl
  go_enter Tryz.func77, Tryz.ntmps77
  go_wp2
  go_ret
  exact ⟨rfl, rfl⟩
theorem ask_of {w : World} {a : Option Addr} {n cap : Nat} {r : Nat → Option Addr} {l c : Nat → Nat} {f : Nat → Nat → Nat} (hR : Rd w a n cap r l c f) : Ask (w.alloc (.cells #[.slice a n cap] 22)) 104 w.heap.size n r l c f := by
  have hB : Below w.heap.size w (w.alloc (.cells #[.slice a n cap] 22)) := (Below.refl _ w).alloc (Nat.le_refl _) _
  have h2 := hR.same hB
  have hb : (w.alloc (.cells #[.slice a n cap] 22)).heap[w.heap.size]? = some (.cells #[.slice a n cap] 22 (0, 0)) := heap_alloc_new _ _
  refine ⟨hR.bm, fun _ _ => by kernel_rfl, fun W hW k hk => of1_any a n cap _ k r l c f hk W ?_ (h2.same hW), h2.row⟩
  rw [cell_of_row W _ 0 _ _ _ ((hW.block _ (Array.getElem?_eq_some_iff.1 hb).1).trans hb)]; rfl

def EvenSays (n : Nat) (l : Nat → Nat) (e : Ending) : Prop := ∃ v : Bool, e = .returned (.bool v) ∧ (v = true ↔ ∀ i, i < n → l i = l 0)
set_option maxHeartbeats 1000000 in
set_option maxRecDepth 100000 in
theorem even_any (F lb n : Nat) (r : Nat → Option Addr) (l c : Nat → Nat) (f : Nat → Nat → Nat) (hn : n ≤ 1000000000000) (w : World) (hA : Ask w F lb n r l c f) :
    Calls Tryz.prog 94 #[.int .i64 (n : Nat), .func (.func F) #[] #[.pointer (some ⟨lb, 0, none⟩)]] w fun e w' => EvenSays n l e ∧ w' = w := by
  have hent := hA.ent
  have HA := Lib.hid hA; clear hA
  go_enter Tryz.func94, Tryz.ntmps94
  go_wp2_with fail
  go_loop [7] (fun i => ∃ k : Nat, k ≤ n ∧ i = .int .i64 k ∧ ∀ j, j < k → l j = l 0) (fun i => n - (intOf i).toNat)
  case atStart => exact ⟨0, by omega, rfl, fun j hj => absurd hj (Nat.not_lt_zero j)⟩
  case round =>
    obtain ⟨k, hk, rfl, hev⟩ := hrel
    have HE := Lib.hid hev; clear hev
    by_cases hlt : k < n
    · have i1 : (k : Int) < (n : Int) := by omega
      have h1 := HA.out.call w (Below.refl _ _) k hlt
      have h0 := HA.out.call w (Below.refl _ _) 0 (by omega)
      have H1 := Lib.hid h1; have H0 := Lib.hid h0; clear h1 h0
      by_cases he : l k = l 0
      · have g1 : (((l k : Nat) : Int) != ((l 0 : Nat) : Int)) = false := ne_no he
        have HEE := Lib.hid he; clear he
        go_wp2_with fail
        refine H1.out.mono ?_
        rintro e w' ⟨rfl, rfl⟩
        go_wp2_with fail
        refine H0.out.mono ?_
        rintro e w' ⟨rfl, rfl⟩
        go_wp2
        go_round
        case rel => exact ⟨k + 1, by omega, by go_num, fun j hj => by
          by_cases e : j = k
          · rw [e]; exact HEE.out
          · exact HE.out j (by omega)⟩
        case measure => simp [intOf]; omega
      · have g1 : (((l k : Nat) : Int) != ((l 0 : Nat) : Int)) = true := ne_yes he
        have HEE := Lib.hid (show ¬ ∀ i, i < n → l i = l 0 from fun h => he (h k hlt)); clear he
        go_wp2_with fail
        refine H1.out.mono ?_
        rintro e w' ⟨rfl, rfl⟩
        go_wp2_with fail
        refine H0.out.mono ?_
        rintro e w' ⟨rfl, rfl⟩
        go_wp2
        go_ret
        exact ⟨⟨false, rfl, ⟨fun h => (by cases h), fun h => absurd h HEE.out⟩⟩, rfl⟩
    · obtain rfl : k = n := by omega
      go_wp2
      go_ret
      exact ⟨⟨true, rfl, ⟨fun _ => HE.out, fun _ => rfl⟩⟩, rfl⟩

/-- rows that are a source. -/
def IsS (n K : Nat) (l : Nat → Nat) : Prop := n = K ∧ ∀ i, i < n → l i = l 0
def TakeSays (n K : Nat) (l : Nat → Nat) (e : Ending) : Prop := ∃ v : Bool, e = .returned (.bool v) ∧ (v = true ↔ IsS n K l)
set_option maxHeartbeats 1000000 in
set_option maxRecDepth 100000 in
theorem takes_any (cb fb G N K : Nat) (b : Nat → Nat) (a : Option Addr) (n cap : Nat) (r : Nat → Option Addr) (l c : Nat → Nat) (f : Nat → Nat → Nat) (hn : n ≤ 1000000000000) (w : World) (h : Cd w cb fb G N K b) (hR : Rd w a n cap r l c f) :
    Calls Tryz.prog 75 #[.pointer (some ⟨cb, 0, none⟩), .slice a n cap] w fun e w' => TakeSays n K l e ∧ Below w.heap.size w w' := by
  have H := Lib.hid h; have HR := Lib.hid hR; clear h hR
  by_cases hne : n = K
  · have g1 : ((n : Int) == (K : Int)) = true := eq_yes hne
    have HNE := Lib.hid hne; clear hne
    have HV := Lib.hid (even_any _ _ n r l c f hn _ (ask_of HR.out))
    have hal : Below w.heap.size w (w.alloc (.cells #[.slice a n cap] 22)) := (Below.refl _ w).alloc (Nat.le_refl _) _
    have HAL := Lib.hid hal; clear hal
    go_enter Tryz.func75, Tryz.ntmps75
    go_wp2_with fail
    refine (enough_any cb fb G N K b _ H.out).mono ?_
    rintro e w' ⟨rfl, hw'⟩
    rw [hw']; clear hw'
    go_wp2_with fail
    refine (of_any a n cap _).mono ?_
    rintro e w' ⟨rfl, hw'⟩
    rw [hw']; clear hw'
    go_wp2_with fail
    refine HV.out.mono ?_
    rintro e w' ⟨⟨v, rfl, hv⟩, hw'⟩
    rw [hw']; clear hw'
    have HVV := Lib.hid hv; clear hv
    go_wp2
    go_ret
    exact ⟨⟨v, by cases v <;> rfl, ⟨fun h => ⟨HNE.out, HVV.out.1 h⟩, fun h => HVV.out.2 h.2⟩⟩, HAL.out⟩
  · have g1 : ((n : Int) == (K : Int)) = false := eq_no hne
    have HNE := Lib.hid hne; clear hne
    go_enter Tryz.func75, Tryz.ntmps75
    go_wp2_with fail
    refine (enough_any cb fb G N K b _ H.out).mono ?_
    rintro e w' ⟨rfl, hw'⟩
    rw [hw']; clear hw'
    go_wp2
    go_ret
    exact ⟨⟨false, rfl, ⟨fun h => (by cases h), fun h => absurd h.1 HNE.out⟩⟩, Below.refl _ _⟩
end Go.Proofs.YtkejabhjlflknaaGreat

namespace Go.Proofs.YtkejabhjlflknaaGreat
open Go.RowKit Go.Shelf

/-- a sum of rows, each by its weight. -/
def smv (wt : Nat → Nat) (f : Nat → Nat → Nat) (m j : Nat) : Nat := Pf.xsum (fun p => Gf.mul (wt p) (f p j)) m
theorem smv_by {wt : Nat → Nat} {f : Nat → Nat → Nat} (hw : Pf.By wt) (hf : Mt.Bm f) (m : Nat) : Pf.By (smv wt f m) := fun j => Pf.xsum_lt m fun p _ => Gf.mul_lt (hw p) (hf p j)
theorem smv_up {wt : Nat → Nat} {f : Nat → Nat → Nat} {m wi : Nat} (hf : ∀ p, p < m → Pf.Up (f p) wi) : Pf.Up (smv wt f m) wi := fun j hj => Pf.xsum_zero m fun p hp => by rw [hf p hp j hj, Gf.mul_zero]
theorem smv_skip {wt : Nat → Nat} {f : Nat → Nat → Nat} {k : Nat} (h : wt k = 0) (j : Nat) : smv wt f k j = smv wt f (k + 1) j := by
  show _ = smv wt f k j ^^^ Gf.mul (wt k) (f k j)
  rw [h, Gf.zero_mul, Nat.xor_zero]
/-- amid a row. -/
def smd (wt : Nat → Nat) (f : Nat → Nat → Nat) (k j i : Nat) : Nat := if i < j then smv wt f (k + 1) i else smv wt f k i
theorem smd_by {wt : Nat → Nat} {f : Nat → Nat → Nat} (hw : Pf.By wt) (hf : Mt.Bm f) (k j : Nat) : Pf.By (smd wt f k j) := fun i => by
  unfold smd; split
  · exact smv_by hw hf _ i
  · exact smv_by hw hf _ i
theorem smd_s (wt : Nat → Nat) (f : Nat → Nat → Nat) (k j i : Nat) : (if i = j then smd wt f k j j ^^^ Gf.mul (wt k) (f k j) else smd wt f k j i) = smd wt f k (j + 1) i := by
  unfold smd
  by_cases e : i = j
  · subst e; rw [if_pos rfl, if_neg (by omega), if_pos (by omega)]; rfl
  · rw [if_neg e]
    by_cases h : i < j
    · rw [if_pos h, if_pos (by omega)]
    · rw [if_neg h, if_neg (by omega)]

theorem ask_row {w W : World} {F lb n wi k : Nat} {r : Nat → Option Addr} {l c : Nat → Nat} {f : Nat → Nat → Nat} (h : Ask w F lb n r l c f) (he : ∀ i, i < n → l i = wi) (hk : k < n) (hB : Below w.heap.size w W) : Sl W (r k) wi (c k) (f k) := by
  have := h.row k hk
  rw [he k hk] at this
  exact this.same hB
set_option maxHeartbeats 4000000 in
set_option maxRecDepth 100000 in
theorem csum_any (cb fb G N K : Nat) (b : Nat → Nat) (F lb n : Nat) (r : Nat → Option Addr) (l c : Nat → Nat) (f : Nat → Nat → Nat) (wa : Option Addr) (m wc : Nat) (wt : Nat → Nat) (hm : m ≤ n) (h0 : 0 < n) (he : ∀ i, i < n → l i = l 0) (hl : l 0 ≤ 1000000) (hn : n ≤ 1000000) (w : World) (h : Cd w cb fb G N K b) (hA : Ask w F lb n r l c f) (hW : Sl w wa m wc wt) :
    Calls Tryz.prog 103 #[.pointer (some ⟨cb, 0, none⟩), .func (.func F) #[] #[.pointer (some ⟨lb, 0, none⟩)], .slice wa m wc] w fun e w' => e = .returned (.slice (some ⟨w.heap.size, 0, none⟩) (l 0) (l 0)) ∧ Bl w' w.heap.size (l 0) (l 0) (smv wt f m) ∧ Below w.heap.size w w' := by
  obtain ⟨wi, hwi⟩ : ∃ wi, l 0 = wi := ⟨_, rfl⟩
  have hc0 := hA.call w (Below.refl _ _) 0 h0
  rw [hwi] at hc0 hl ⊢
  have he : ∀ i, i < n → l i = wi := fun i hi => (he i hi).trans hwi
  have HC0 := Lib.hid hc0; have HWI := Lib.hid hwi
  have hent := hA.ent
  have hmk := hmk8 wi (by omega)
  have H := Lib.hid h; have HA := Lib.hid hA; have HW := Lib.hid hW; have HE := Lib.hid he
  clear hwi h hA hW he hc0
  have hB0 : Below w.heap.size w (w.alloc (.cells (madeCells #[.int .u8 0] wi) 5)) := (Below.refl _ w).alloc (Nat.le_refl _) _
  have HS0 := Lib.hid ((bl_made w wi).congr (h' := smv wt f 0) fun i _ => rfl)
  have HB0 := Lib.hid hB0; clear hB0
  go_enter Tryz.func103, Tryz.ntmps103
  go_wp2_with fail
  refine HC0.out.mono ?_
  rintro e w' ⟨rfl, hw'⟩
  rw [hw']; clear hw'
  go_wp2_with fail
  go_loopw [18] (fun i wr => ∃ k : Nat, k ≤ m ∧ i = .int .i64 k ∧ Bl wr w.heap.size wi wi (smv wt f k) ∧ Below w.heap.size w wr) (fun i _ => m - (intOf i).toNat)
  case atStart => exact ⟨0, by omega, rfl, HS0.out, HB0.out⟩
  case round =>
    rename_i wr
    clear hmk HS0 HB0
    obtain ⟨k, hk, rfl, hBl, hBe⟩ := hrel
    obtain ⟨wo, rfl⟩ : ∃ wo : World, wo = wr := ⟨_, rfl⟩
    have HBl := Lib.hid hBl; have HBe := Lib.hid hBe
    clear hBl hBe
    by_cases hkm : k < m
    · have i1 : (k : Int) < (m : Int) := by omega
      obtain ⟨ab, ao, ea, hca⟩ := (HW.out.same HBe.out).at_ hkm
      have EA := Lib.hid (show wa = some ⟨ab, ao, none⟩ from ea)
      subst ea
      have d1 := HW.out.bytes k
      by_cases hz : wt k = 0
      · have g1 : (((wt k : Nat) : Int) == 0) = true := by simp [hz]
        have HZ := Lib.hid hz; clear hz
        go_wp2
        go_roundw
        case rel => exact ⟨k + 1, by omega, by go_num, HBl.out.congr (fun i _ => smv_skip HZ.out i), HBe.out⟩
        case measure => simp [intOf]; omega
      · have g1 : (((wt k : Nat) : Int) == 0) = false := by simp; omega
        have hq := HA.out.call wo HBe.out k (by omega)
        rw [HE.out k (by omega)] at hq
        have HQ := Lib.hid hq
        clear hq hz
        go_wp2_with fail
        refine HQ.out.mono ?_
        rintro e w' ⟨rfl, hw'⟩
        rw [hw']; clear hw' hca
        go_wp2_with fail
        go_loopw [29] (fun i wr => ∃ j : Nat, j ≤ wi ∧ i = .int .i64 j ∧ Bl wr w.heap.size wi wi (smd wt f k j) ∧ Below w.heap.size w wr) (fun i _ => wi - (intOf i).toNat)
        case atStart => exact ⟨0, by omega, rfl, HBl.out.congr (fun i _ => by unfold smd; rw [if_neg (by omega)]), HBe.out⟩
        case round =>
          rename_i wr
          obtain ⟨j, hj, rfl, hBl, hBe⟩ := hrel
          by_cases hlj : j < wi
          · obtain ⟨b2, off2, e2, c2⟩ := (ask_row HA.out HE.out (by omega : k < n) hBe).at_ hlj
            have d2 := HA.out.bm k j
            have c3 := hBl.cell (i := j) hlj
            have c4 := hBl.free j
            have d3 := smd_by HW.out.bytes HA.out.bm k j j
            have hcd := H.out.same hBe
            have z0 := hcd.c0
            have FI := Lib.hid hcd.fi
            have HBL2 := Lib.hid hBl; have HBR2 := Lib.hid hBe
            have E2 := Lib.hid (show r k = some ⟨b2, off2, none⟩ from e2)
            clear hBl hBe hcd
            rw [e2]
            have i2 : (j : Int) < (wi : Int) := by omega
            generalize hv : smd wt f k j j = v at c3 d3
            have HV := Lib.hid hv; clear hv
            have dm := Gf.mul_lt d1 d2
            clear e2
            go_wp2_with fail
            refine Rb.wp_region_quiet_tail 15 (by kernel_rfl) (by kernel_rfl) ?_
            simp only [List.take_succ_cons, List.take_zero, List.drop_succ_cons, List.drop_zero]
            repeat (go_big_quiet_step ((first | (go_at_call 121; exact Calls.quiet_of (mul_nat fb (wt k) (f k j) d1 d2 _ (FI.out.drewN _))) | (go_at_call 120; exact Calls.quiet_of_same (add_nat v _ d3 dm _)))))
            refine wpQuiet_nil ?_
            rintro _ ⟨nq, rfl⟩
            go_wp2
            go_roundw
            case rel =>
              refine ⟨j + 1, by omega, by go_num, ((HBL2.out.drewN nq).set hlj _).congr fun i _ => ?_, (below_drewN HBR2.out nq).setCell (p := ⟨w.heap.size, j, none⟩) (Nat.le_refl _) _⟩
              rw [← HV.out]; exact smd_s wt f k j i
            case measure => simp [intOf]; omega
          · obtain rfl : j = wi := by omega
            have HBL2 := Lib.hid hBl; have HBR2 := Lib.hid hBe
            clear hBl hBe hlj
            go_wp2
            go_roundw
            case rel => exact ⟨k + 1, by omega, by go_num, HBL2.out.congr (fun i hi => by unfold smd; rw [if_pos hi]), HBR2.out⟩
            case measure => simp [intOf]; omega
    · obtain rfl : k = m := by omega
      go_wp2
      go_ret
      exact ⟨rfl, HBl.out, HBe.out⟩

/-- the first k sums. -/
def smk (M f : Nat → Nat → Nat) (ml : Nat → Nat) (k i j : Nat) : Nat := if i < k then smv (M i) f (ml i) j else 0
theorem smk_bm {M f : Nat → Nat → Nat} (hM : Mt.Bm M) (hf : Mt.Bm f) (ml : Nat → Nat) (k : Nat) : Mt.Bm (smk M f ml k) := fun i j => by
  unfold smk; split
  · exact smv_by (hM i) hf _ j
  · omega

/-- a list of rows, in new memory. -/
def SumsSays (w : World) (m wi : Nat) (F : Nat → Nat → Nat) (e : Ending) (w' : World) : Prop := ∃ G b, e = .returned (.slice (some ⟨G, 0, none⟩) m m) ∧ Gr w' w.heap.size G m m b (fun _ => wi) (fun _ => wi) F ∧ Below w.heap.size w w'

set_option maxHeartbeats 4000000 in
set_option maxRecDepth 100000 in
theorem csums_any (cb fb G N K : Nat) (b : Nat → Nat) (F lb n : Nat) (r : Nat → Option Addr) (l c : Nat → Nat) (f : Nat → Nat → Nat) (ma : Option Addr) (m mc : Nat) (mr : Nat → Option Addr) (ml mcc : Nat → Nat) (M : Nat → Nat → Nat) (hm : ∀ i, i < m → ml i ≤ n) (h0 : 0 < n) (he : ∀ i, i < n → l i = l 0) (hl : l 0 ≤ 1000000) (hn : n ≤ 1000000) (hmm : m ≤ 1000000) (w : World) (h : Cd w cb fb G N K b) (hA : Ask w F lb n r l c f) (hM : Rd w ma m mc mr ml mcc M) :
    Calls Tryz.prog 76 #[.pointer (some ⟨cb, 0, none⟩), .func (.func F) #[] #[.pointer (some ⟨lb, 0, none⟩)], .slice ma m mc] w (SumsSays w m (l 0) (fun i => smv (M i) f (ml i))) := by
  obtain ⟨wi, hwi⟩ : ∃ wi, l 0 = wi := ⟨_, rfl⟩
  have HWI := Lib.hid hwi; have HL0 := Lib.hid hl; have HE0 := Lib.hid he
  rw [hwi] at hl ⊢
  have hmk := hmkRows m (by omega)
  have H := Lib.hid h; have HA := Lib.hid hA; have HM := Lib.hid hM; have HML := Lib.hid hm
  clear hwi h hA hM he hm
  have hG := gr_made w w.heap.size m (fun _ => 0) (fun _ => wi) (fun _ => wi) (by omega) (Nat.le_refl _)
  have HG0 := Lib.hid (hG.congr (smk_bm HM.out.bm HA.out.bm ml 0) (fun i j h => absurd h (Nat.not_lt_zero i)))
  have HB0 := Lib.hid (show Below w.heap.size w (w.alloc (.cells (madeCells #[.slice none 0 0] m) 50)) from (Below.refl _ w).alloc (Nat.le_refl _) _)
  clear hG
  go_enter Tryz.func76, Tryz.ntmps76
  go_wp2_with fail
  go_loopw [15] (fun i wr => ∃ (k : Nat) (b : Nat → Nat), k ≤ m ∧ i = .int .i64 k ∧ Gr wr w.heap.size w.heap.size k m b (fun _ => wi) (fun _ => wi) (smk M f ml k) ∧ Below w.heap.size w wr) (fun i _ => m - (intOf i).toNat)
  case atStart => exact ⟨0, _, by omega, rfl, HG0.out, HB0.out⟩
  case round =>
    rename_i wr
    clear hmk HG0 HB0
    obtain ⟨k, bb, hk, rfl, hG, hBe⟩ := hrel
    have HG := Lib.hid hG; have HBe := Lib.hid hBe
    clear hG hBe
    by_cases hkm : k < m
    · have i1 : (k : Int) < (m : Int) := by omega
      have hRk := HM.out.same HBe.out
      obtain ⟨ab, ao, ea, hca⟩ := hRk.at_ hkm
      subst ea
      have hc := csum_any cb fb G N K b F lb n r l c f (mr k) (ml k) (mcc k) (M k) (HML.out k hkm) h0 HE0.out HL0.out hn wr (H.out.same HBe.out) (HA.out.same HBe.out) (hRk.row k hkm)
      rw [HWI.out] at hc
      have HC := Lib.hid hc
      clear hc hRk
      go_wp2_with fail
      refine HC.out.mono ?_
      rintro e w2 ⟨rfl, hb, hB2⟩
      have hG2 := HG.out.same hB2
      obtain ⟨vs, k1, k2, k3⟩ := hG2.blk
      obtain ⟨v0, hcell⟩ : ∃ v, w2.cell? ⟨w.heap.size, k, none⟩ = some v := by
        refine ⟨vs[k]'(by omega), ?_⟩
        rw [cell_of_row w2 _ k vs _ _ k1]
        simp [show k < vs.size by omega]
      have hfr := hG2.free k
      have HG2 := Lib.hid hG2; have HBL := Lib.hid hb; have HB2 := Lib.hid (HBe.out.trans (hB2.mono HBe.out.size))
      have hsz2 := HBe.out.size
      have hltb := Lib.hid (fun i hi => HG.out.ltb (i := i) hi)
      clear hG2 hb hB2 k1 k2 k3
      go_wp2_with fail
      go_roundw
      case rel => exact ⟨k + 1, _, by omega, by go_num, HG2.out.pushU hkm HBL.out (by unfold maxLen; omega) hsz2 (fun i hi e => by have := hltb.out i hi; omega) (smv_by (HM.out.bm k) HA.out.bm _) (smv_up fun p hp => by have hpn := Nat.lt_of_lt_of_le hp (HML.out k hkm); have := (HA.out.row p hpn).up; rw [HE0.out p hpn, HWI.out] at this; exact this) (smk_bm HM.out.bm HA.out.bm ml (k + 1)) (fun i j hi => by unfold smk; rw [if_pos hi, if_pos (by omega)]) (fun j => by unfold smk; rw [if_pos (by omega)]), HB2.out.setCell (p := ⟨w.heap.size, k, none⟩) (Nat.le_refl _) _⟩
      case measure => simp [intOf]; omega
    · obtain rfl : k = m := by omega
      go_wp2
      go_ret
      exact ⟨_, bb, rfl, HG.out.congr (fun i j => smv_by (HM.out.bm i) HA.out.bm _ j) (fun i j hi => by unfold smk; rw [if_pos hi]), HBe.out⟩
end Go.Proofs.YtkejabhjlflknaaGreat

namespace Go.Proofs.YtkejabhjlflknaaGreat
open Go.RowKit Go.Shelf

/-- indexes of n symbols, all of them. -/
def InR (h : Nat → Int) (m N : Nat) : Prop := ∀ i, i < m → 0 ≤ h i ∧ h i < N
/-- no two the same. -/
def DsI (h : Nat → Int) (m : Nat) : Prop := ∀ i j, i < j → j < m → h i ≠ h j
/-- what is wrong with indexes, if anything. -/
def Chk (h : Nat → Int) (m N K : Nat) (E : Int) : Prop := (¬ InR h m N ∧ E = 2) ∨ (InR h m N ∧ ¬ DsI h m ∧ E = 9) ∨ (InR h m N ∧ DsI h m ∧ m < K ∧ E = 8) ∨ (InR h m N ∧ DsI h m ∧ K ≤ m ∧ E = 0)
theorem Chk.uniq {h : Nat → Int} {m N K : Nat} {E E' : Int} (a : Chk h m N K E) (b : Chk h m N K E') : E = E' := by
  rcases a with ⟨a1, rfl⟩ | ⟨a1, a2, rfl⟩ | ⟨a1, a2, a3, rfl⟩ | ⟨a1, a2, a3, rfl⟩ <;> rcases b with ⟨b1, rfl⟩ | ⟨b1, b2, rfl⟩ | ⟨b1, b2, b3, rfl⟩ | ⟨b1, b2, b3, rfl⟩ <;> first | rfl | exact absurd b1 a1 | exact absurd a1 b1 | exact absurd b2 a2 | exact absurd a2 b2 | omega
/-- is x one of the first t? -/
def hit (h : Nat → Int) (x : Int) : Nat → Bool
  | 0 => false
  | t + 1 => hit h x t || decide (h t = x)
theorem hit_yes {h : Nat → Int} {x : Int} : ∀ t, hit h x t = true → ∃ i, i < t ∧ h i = x
  | 0, e => by cases e
  | t + 1, e => by
    unfold hit at e
    rw [Bool.or_eq_true] at e
    rcases e with e | e
    · obtain ⟨i, h1, h2⟩ := hit_yes t e
      exact ⟨i, by omega, h2⟩
    · exact ⟨t, by omega, of_decide_eq_true e⟩
theorem hit_no {h : Nat → Int} {x : Int} : ∀ t, hit h x t = false → ∀ i, i < t → h i ≠ x
  | 0, _, i, hi => by omega
  | t + 1, e, i, hi => by
    unfold hit at e
    rw [Bool.or_eq_false_iff] at e
    by_cases c : i = t
    · rw [c]; exact of_decide_eq_false e.2
    · exact hit_no t e.1 i (by omega)
/-- the cells of what was seen, of nothing. -/
def zerosB : Array Value := Array.replicate 255 (.bool false)
theorem zero_seen : ∀ w, (zeroValue 114).run Tryz.prog w = .ok (.agg zerosB) w := fun _ => by kernel_rfl
/-- what was seen. -/
def Sn (w : World) (g : Nat) (h : Nat → Int) (t : Nat) : Prop := ∀ j, j < 255 → w.cell? ⟨g, j, none⟩ = some (.bool (hit h (j : Nat) t)) ∧ w.frozen? ⟨g, j, none⟩ = false
theorem Sn.new (w : World) (h : Nat → Int) : Sn (w.alloc (.cells zerosB 114)) w.heap.size h 0 := fun j hj => by
  refine ⟨?_, by simp⟩
  rw [World.cell?_alloc_new]
  simp [zerosB, hj, hit]
theorem Sn.set {w : World} {g : Nat} {h : Nat → Int} {t j : Nat} (s : Sn w g h t) (hj : j < 255) (he : h t = (j : Nat)) : Sn (w.setCell ⟨g, j, none⟩ (.bool true)) g h (t + 1) := fun i hi => by
  refine ⟨?_, by rw [World.frozen?_setCell]; exact (s i hi).2⟩
  by_cases e : i = j
  · subst e
    rw [World.cell?_setCell_same _ _ _ (s i hi).1]
    simp [hit, he]
  · rw [World.cell?_setCell_other _ _ _ _ (by intro hh; cases hh; exact e rfl), (s i hi).1]
    have : ¬ h t = (i : Nat) := by omega
    simp [hit, this]

def ChkSays (h : Nat → Int) (m N K : Nat) (e : Ending) : Prop := ∃ E : Int, e = .returned (.int .i64 E) ∧ Chk h m N K E

set_option maxHeartbeats 2000000 in
set_option maxRecDepth 100000 in
theorem check_any (cb fb G N K : Nat) (b : Nat → Nat) (a : Option Addr) (m cap : Nat) (h : Nat → Int) (hm : m ≤ 1000000000000) (w : World) (hC : Cd w cb fb G N K b) (hS : Si w a m h) :
    Calls Tryz.prog 116 #[.pointer (some ⟨cb, 0, none⟩), .slice a m cap] w fun e w' => ChkSays h m N K e ∧ Below w.heap.size w w' := by
  have hzs := zero_seen
  have HC := Lib.hid hC; have HS := Lib.hid hS; clear hC hS
  go_enter Tryz.func116, Tryz.ntmps116
  go_wp2_with fail
  go_loop [12] (fun i => ∃ k : Nat, k ≤ m ∧ i = .int .i64 k ∧ InR h k N) (fun i => m - (intOf i).toNat)
  case atStart => exact ⟨0, by omega, rfl, fun j hj => absurd hj (Nat.not_lt_zero j)⟩
  case round =>
    obtain ⟨k, hk, rfl, hin⟩ := hrel
    have HIN := Lib.hid hin; clear hin
    by_cases hlt : k < m
    · have i1 : (k : Int) < (m : Int) := by omega
      obtain ⟨ab, ao, ea, hca⟩ := HS.out.cell k hlt
      have EA := Lib.hid (show a = some ⟨ab, ao, none⟩ from ea)
      subst ea
      by_cases hx : 0 ≤ h k ∧ h k < N
      · obtain ⟨x, hx2⟩ : ∃ x : Nat, h k = (x : Nat) := ⟨(h k).toNat, by omega⟩
        have HX := Lib.hid hx; clear hx
        have hxN : x < N := by have := HX.out.2; omega
        have HX2 := Lib.hid hx2
        rw [hx2] at hca
        clear hx2
        go_wp2_with fail
        refine (has_yes cb fb G N K b x hxN _ HC.out).mono ?_
        rintro e w' ⟨rfl, rfl⟩
        go_wp2
        go_round
        case rel => exact ⟨k + 1, by omega, by go_num, fun j hj => by
          by_cases e : j = k
          · rw [e]; exact HX.out
          · exact HIN.out j (by omega)⟩
        case measure => simp [intOf]; omega
      · have hq := has_no cb fb G N K b (h k) (by omega) w HC.out
        have HQ := Lib.hid hq; clear hq
        have HX := Lib.hid (show ¬ InR h m N from fun hh => hx (hh k hlt)); clear hx
        go_wp2_with fail
        refine HQ.out.mono ?_
        rintro e w' ⟨rfl, rfl⟩
        go_wp2
        go_ret
        exact ⟨⟨2, rfl, Or.inl ⟨HX.out, rfl⟩⟩, Below.refl _ _⟩
    · obtain rfl : k = m := by omega
      have hal : Below w.heap.size w (w.alloc (.cells zerosB 114)) := (Below.refl _ w).alloc (Nat.le_refl _) _
      have HAL := Lib.hid hal; have HSN := Lib.hid (Sn.new w h)
      clear hal hlt
      go_wp2_with fail
      go_loopw [23] (fun i wr => ∃ t : Nat, t ≤ k ∧ i = .int .i64 t ∧ Sn wr w.heap.size h t ∧ DsI h t ∧ Below w.heap.size w wr) (fun i _ => k - (intOf i).toNat)
      case atStart => exact ⟨0, by omega, rfl, HSN.out, fun i j _ hj => absurd hj (Nat.not_lt_zero j), HAL.out⟩
      case round =>
        rename_i wr
        clear hzs
        obtain ⟨t, ht, rfl, hsn, hds, hB⟩ := hrel
        have HSN := Lib.hid hsn; have HDS := Lib.hid hds; have HB := Lib.hid hB
        clear hsn hds hB
        by_cases htk : t < k
        · have i1 : (t : Int) < (k : Int) := by omega
          obtain ⟨ab, ao, ea, hca⟩ := (HS.out.same HB.out).cell t htk
          have EA := Lib.hid (show a = some ⟨ab, ao, none⟩ from ea)
          subst ea
          have hin := HIN.out t htk
          have hn := HC.out.nm
          obtain ⟨x, hx2⟩ : ∃ x : Nat, h t = (x : Nat) := ⟨(h t).toNat, by omega⟩
          have hx5 : x < 255 := by omega
          have HX2 := Lib.hid hx2
          rw [hx2] at hca
          obtain ⟨cs, fs⟩ := HSN.out x hx5
          have j1 : (x : Int) < 255 := by omega
          clear hin hn hx2
          cases hh : hit h (x : Nat) t
          · rw [hh] at cs
            have HH := Lib.hid hh; clear hh
            go_wp2
            go_roundw
            case rel => exact ⟨t + 1, by omega, by go_num, HSN.out.set hx5 HX2.out, fun i j hij hj => by
              by_cases e : j = t
              · rw [e, HX2.out]; exact hit_no t HH.out i (by omega)
              · exact HDS.out i j hij (by omega), HB.out.setCell (p := ⟨w.heap.size, x, none⟩) (Nat.le_refl _) _⟩
            case measure => simp [intOf]; omega
          · rw [hh] at cs
            have HH := Lib.hid hh; clear hh
            go_wp2
            go_ret
            exact ⟨⟨9, rfl, Or.inr (Or.inl ⟨HIN.out, fun hd => by
              obtain ⟨i, h1, h2⟩ := hit_yes t HH.out
              exact hd i t h1 htk (h2.trans HX2.out.symm), rfl⟩)⟩, HB.out⟩
        · obtain rfl : t = k := by omega
          have hcd := HC.out.same HB.out
          have HCD := Lib.hid hcd; clear hcd
          by_cases hK : t < K
          · have i1 : (t : Int) < (K : Int) := by omega
            go_wp2_with fail
            refine (enough_any cb fb G N K b _ HCD.out).mono ?_
            rintro e w' ⟨rfl, hw'⟩
            rw [hw']; clear hw'
            go_wp2
            go_ret
            exact ⟨⟨8, rfl, Or.inr (Or.inr (Or.inl ⟨HIN.out, HDS.out, hK, rfl⟩))⟩, HB.out⟩
          · have i1 : ¬ (t : Int) < (K : Int) := by omega
            go_wp2_with fail
            refine (enough_any cb fb G N K b _ HCD.out).mono ?_
            rintro e w' ⟨rfl, hw'⟩
            rw [hw']; clear hw'
            go_wp2
            go_ret
            exact ⟨⟨0, rfl, Or.inr (Or.inr (Or.inr ⟨HIN.out, HDS.out, by omega, rfl⟩))⟩, HB.out⟩

/-- the points of indexes. -/
def pts (h : Nat → Int) (i : Nat) : Nat := (h i).toNat % 256
theorem pts_by (h : Nat → Int) : Pf.By (pts h) := fun _ => Nat.mod_lt _ (by omega)
theorem pts_at {h : Nat → Int} {m N i : Nat} (hr : InR h m N) (hN : N ≤ 255) (hi : i < m) : pts h i = (h i).toNat := by
  have := hr i hi
  unfold pts; omega
theorem pts_dst {h : Nat → Int} {m N K : Nat} (hr : InR h m N) (hd : DsI h m) (hN : N ≤ 255) (hK : K ≤ m) : Pf.Dst (pts h) K := fun i j hij hj => by
  have h1 := hr i (by omega); have h2 := hr j (by omega)
  rw [pts_at hr hN (by omega), pts_at hr hN (by omega)]
  have := hd i j hij (by omega)
  omega
/-- the matrix that turns symbols back. -/
def trn (h : Nat → Int) (K i j : Nat) : Nat := if i < K then Pf.lw (pts h) K i j else 0
theorem trn_bm (h : Nat → Int) {K : Nat} (hK : K ≤ 256) : Mt.Bm (trn h K) := fun i j => by
  unfold trn; split
  · exact Pf.lw_by (pts_by h) K (by omega) j
  · omega
/-- a list of which the first t rows are the table's rows R. -/
def Pk (w : World) (g K t : Nat) (b R : Nat → Nat) : Prop := ∃ vs : Array Value, w.heap[g]? = some (.cells vs 50 (0, 0)) ∧ vs.size = K ∧ ∀ i, i < t → vs[i]? = some (.slice (some ⟨b (R i), 0, none⟩) K K)
theorem Pk.made (w : World) (K : Nat) (b R : Nat → Nat) : Pk (w.alloc (.cells (madeCells #[.slice none 0 0] K) 50)) w.heap.size K 0 b R := ⟨_, heap_alloc_new _ _, size_madeCells _ _, fun i hi => absurd hi (Nat.not_lt_zero i)⟩
theorem Pk.cell {w : World} {g K t i : Nat} {b R : Nat → Nat} (h : Pk w g K t b R) (hi : i < K) : ∃ v, w.cell? ⟨g, i, none⟩ = some v := by
  obtain ⟨vs, h1, h2, _⟩ := h
  refine ⟨vs[i]'(by omega), ?_⟩
  rw [cell_of_row w g i vs _ _ h1]
  simp [show i < vs.size by omega]
theorem Pk.free {w : World} {g K t : Nat} {b R : Nat → Nat} (h : Pk w g K t b R) (i : Nat) : w.frozen? ⟨g, i, none⟩ = false := by
  obtain ⟨vs, h1, _⟩ := h
  exact frozen_of_row w g i vs _ h1
theorem Pk.set {w : World} {g K t : Nat} {b R : Nat → Nat} (h : Pk w g K t b R) (ht : t < K) : Pk (w.setCell ⟨g, t, none⟩ (.slice (some ⟨b (R t), 0, none⟩) K K)) g K (t + 1) b R := by
  obtain ⟨vs, h1, h2, h3⟩ := h
  refine ⟨vs.setIfInBounds t (.slice (some ⟨b (R t), 0, none⟩) K K), heap_setCell_same w g t vs _ _ h1, by simpa using h2, fun i hi => ?_⟩
  rw [Array.getElem?_setIfInBounds]
  by_cases e : t = i
  · subst e; rw [if_pos rfl, if_pos (by omega)]
  · rw [if_neg e]; exact h3 i (by omega)
theorem Pk.rd {w : World} {g K N G : Nat} {b R : Nat → Nat} (h : Pk w g K K b R) (hG : Gr w 0 G N N b (fun _ => K) (fun _ => K) (Pf.tbl K)) (hR : ∀ i, i < K → R i < N) (hK : K ≤ maxLen) :
    Rd w (some ⟨g, 0, none⟩) K K (fun i => some ⟨b (R i), 0, none⟩) (fun _ => K) (fun _ => K) (fun i => Pf.tbl K (R i)) := by
  obtain ⟨vs, h1, h2, h3⟩ := h
  refine ⟨Nat.le_refl _, hK, fun i j => hG.bm _ _, fun e => (by cases e), fun ad e _ => (by cases e; rfl), fun ad e i hi => ?_, fun i hi => (hG.row (R i) (hR i hi)).sl (Nat.le_refl _) (hG.lc (R i) (hR i hi)).2 (hG.bm _) (hG.up (R i) (hR i hi))⟩
  cases e
  show w.cell? ⟨g, 0 + i, none⟩ = _
  rw [Nat.zero_add, cell_of_row w g i vs _ _ h1]
  exact h3 i hi

/-- what is told of indexes: an error, or the matrix. -/
def TurnSays (h : Nat → Int) (m N K : Nat) (w : World) (e : Ending) (w' : World) : Prop :=
  (∃ E : Int, E ≠ 0 ∧ Chk h m N K E ∧ e = .returned (.tuple #[.slice none 0 0, .int .i64 E]) ∧ Below w.heap.size w w') ∨ (Chk h m N K 0 ∧ ∃ G b, e = .returned (.tuple #[.slice (some ⟨G, 0, none⟩) K K, .int .i64 0]) ∧ Gr w' w.heap.size G K K b (fun _ => K) (fun _ => K) (trn h K) ∧ Below w.heap.size w w')
theorem chk_ok {h : Nat → Int} {m N K : Nat} (c : Chk h m N K 0) : InR h m N ∧ DsI h m ∧ K ≤ m := by
  rcases c with ⟨_, e⟩ | ⟨_, _, e⟩ | ⟨_, _, _, e⟩ | ⟨h1, h2, h3, _⟩
  · cases e
  · cases e
  · cases e
  · exact ⟨h1, h2, h3⟩

set_option maxHeartbeats 4000000 in
set_option maxRecDepth 100000 in
theorem cturn_any (cb fb G N K : Nat) (b : Nat → Nat) (a : Option Addr) (m cap : Nat) (h : Nat → Int) (hm : m ≤ 1000000000000) (w : World) (hC : Cd w cb fb G N K b) (hS : Si w a m h) :
    Calls Tryz.prog 95 #[.pointer (some ⟨cb, 0, none⟩), .slice a m cap] w (TurnSays h m N K w) := by
  have HC := Lib.hid hC; have HS := Lib.hid hS; clear hC hS
  go_enter Tryz.func95, Tryz.ntmps95
  go_wp2_with fail
  refine (check_any cb fb G N K b a m cap h hm _ HC.out HS.out).mono ?_
  rintro e w1 ⟨⟨E, rfl, hE⟩, hB1⟩
  have HE := Lib.hid hE; have HB1 := Lib.hid hB1
  by_cases hz : E = 0
  · subst hz
    obtain ⟨hin, hds, hKm⟩ := chk_ok hE
    have HIN := Lib.hid hin; have HDS := Lib.hid hds
    have hcd := HC.out.same hB1
    have hkn := hcd.kn; have hnm := hcd.nm; have hk1 := hcd.k1
    have hmk := hmkRows K (by omega)
    have HCD := Lib.hid hcd
    have hal : Below w1.heap.size w1 (w1.alloc (.cells (madeCells #[.slice none 0 0] K) 50)) := (Below.refl _ w1).alloc (Nat.le_refl _) _
    have HAL := Lib.hid hal; have HPK := Lib.hid (Pk.made w1 K b (fun i => (h i).toNat))
    clear hE hB1 hin hds hcd hal
    go_wp2_with fail
    refine (enough_any cb fb G N K b _ HCD.out).mono ?_
    rintro e w' ⟨rfl, hw'⟩
    rw [hw']; clear hw'
    go_wp2_with fail
    go_loopw [20] (fun i wr => ∃ t : Nat, t ≤ K ∧ i = .int .i64 t ∧ Pk wr w1.heap.size K t b (fun i => (h i).toNat) ∧ Below w1.heap.size w1 wr) (fun i _ => K - (intOf i).toNat)
    case atStart => exact ⟨0, by omega, rfl, HPK.out, HAL.out⟩
    case round =>
      clear hmk HPK HAL
      obtain ⟨t, ht, rfl, hpk, hB⟩ := hrel
      have HPK := Lib.hid hpk; have HB := Lib.hid hB
      by_cases htK : t < K
      · have i1 : (t : Int) < (K : Int) := by omega
        have i2 : (t : Int) < (m : Int) := by omega
        have hcd := HCD.out.same hB
        have c1 := hcd.c1
        have hin := HIN.out t (by omega)
        obtain ⟨x, hx2⟩ : ∃ x : Nat, h t = (x : Nat) := ⟨(h t).toNat, by omega⟩
        have hxN : x < N := by omega
        have hxN' : (x : Int) < (N : Int) := by omega
        have c2 := hcd.tb.cell hxN
        obtain ⟨ab, ao, ea, c3⟩ := ((HS.out.same HB1.out).same hB).cell t (by omega)
        have EA := Lib.hid (show a = some ⟨ab, ao, none⟩ from ea)
        rw [hx2] at c3
        obtain ⟨v0, c4⟩ := hpk.cell htK
        have f4 := hpk.free t
        have HX2 := Lib.hid (show (h t).toNat = x by omega)
        subst ea
        clear hpk hB hcd hin hx2
        go_wp2_with fail
        go_region
        all_goals
          go_wp2
          go_roundw
          case rel => exact ⟨t + 1, by omega, by go_num, by
            have := HPK.out.set htK
            simp only [HX2.out] at this
            exact this, (HB.out.setCell (p := ⟨w1.heap.size, t, none⟩) (Nat.le_refl _) _).drew⟩
          case measure => simp [intOf]; omega
      · obtain rfl : t = K := by omega
        have hin : ∀ i, i < t → (h i).toNat < N := fun i hi => by have := HIN.out i (by omega); omega
        have hrd := hpk.rd (HCD.out.same hB).tb hin (by unfold maxLen; omega)
        have hinv := inverse_yes _ t t _ (fun _ => t) _ _ wr hrd ⟨fun _ _ => rfl, by omega, by unfold wd; rw [if_neg (by omega)]; show t ≤ 255; omega⟩ (by unfold wd; rw [if_neg (by omega)])
        have HINV := Lib.hid hinv; have HINN := Lib.hid hin
        clear hpk hB hrd hinv hin
        go_wp2_with fail
        refine HINV.out.mono ?_
        have hdn : Pf.Dst (fun i => (h i).toNat) t := fun i j hij hj => by
          have h1 := HIN.out i (by omega); have h2 := HIN.out j (by omega); have := HDS.out i j hij (by omega)
          show (h i).toNat ≠ (h j).toNat
          omega
        have hlt : ∀ i, i < t → (h i).toNat < 256 := fun i hi => by have := HINN.out i hi; omega
        rintro e w2 (⟨hr, _⟩ | ⟨_, GI, bI, rfl, hGI, hB2⟩)
        · have h1 := Pf.tbl_rk (R := fun i => (h i).toNat) (K := t) hlt hdn (by omega)
          omega
        · have HGI := Lib.hid (hGI.congr (trn_bm (K := t) h (by omega)) (fun i j hi => by
            unfold cl trn
            rw [if_pos hi]
            by_cases hj : j < t
            · rw [if_pos ⟨hi, hj⟩, Pf.inv_lw (R := fun i => (h i).toNat) hlt hdn (by omega) hi hj, Pf.lw_congr (P' := pts h) (fun j hj => (pts_at HIN.out (by omega) (by omega)).symm)]
            · rw [if_neg (by omega), Pf.lw_up t i j (by omega)]))
          have HB2 := Lib.hid (HB1.out.trans ((HB.out.trans (hB2.mono HB.out.size)).mono HB1.out.size))
          have hsz := Nat.le_trans HB1.out.size HB.out.size
          clear hGI hB2 hdn hlt
          go_wp2
          go_ret2
          exact Or.inr ⟨HE.out, GI, bI, rfl, HGI.out.mono hsz, HB2.out⟩
  · have g1 : (E != 0) = true := by simp [hz]
    have HZ := Lib.hid hz
    clear hE hB1 hz
    go_wp2
    go_ret2
    exact Or.inl ⟨E, HZ.out, HE.out, rfl, HB1.out⟩
end Go.Proofs.YtkejabhjlflknaaGreat

namespace Go.Proofs.YtkejabhjlflknaaGreat
open Go.RowKit Go.Shelf

set_option maxHeartbeats 1000000 in
set_option maxRecDepth 100000 in
theorem cnew_no (n k : Int) (h : k < 1 ∨ n < k ∨ 255 < n) (w : World) :
    Calls Tryz.prog 55 #[.int .i64 n, .int .i64 k] w fun e w' => e = .returned (.tuple #[.pointer none, .int .i64 2]) ∧ Below w.heap.size w w' := by
  have HT := Lib.hid (pTable_no k n h w)
  clear h
  go_enter Tryz.func55, Tryz.ntmps55
  go_wp2_with fail
  refine HT.out.mono ?_
  rintro e w1 ⟨rfl, hB⟩
  have HB := Lib.hid hB; clear hB
  go_wp2
  go_ret2
  exact ⟨rfl, HB.out⟩

/-- what New answers. -/
def NewSays (w : World) (N K : Nat) (e : Ending) (w' : World) : Prop := ∃ cb fb G b, e = .returned (.tuple #[.pointer (some ⟨cb, 0, none⟩), .int .i64 0]) ∧ Cd w' cb fb G N K b ∧ Below w.heap.size w w'
set_option maxHeartbeats 1000000 in
set_option maxRecDepth 100000 in
theorem cnew_yes (N K : Nat) (h1 : 1 ≤ K) (h2 : K ≤ N) (h3 : N ≤ 255) (w : World) :
    Calls Tryz.prog 55 #[.int .i64 (N : Nat), .int .i64 (K : Nat)] w (NewSays w N K) := by
  have HT := Lib.hid (pTable_yes K N h1 h2 h3 w)
  go_enter Tryz.func55, Tryz.ntmps55
  go_wp2_with fail
  refine HT.out.mono ?_
  rintro e w1 ⟨G, b, rfl, hG, hB⟩
  have HB := Lib.hid hB; have HG := Lib.hid (hG.mono (Nat.zero_le _)); clear hB hG
  go_wp2_with fail
  refine (new_any _).mono ?_
  rintro e w2 ⟨rfl, hF, hB⟩
  have HG2 := Lib.hid (HG.out.same hB); have HB2 := Lib.hid (HB.out.trans (hB.mono HB.out.size)); have HF := Lib.hid hF
  clear hF hB
  go_wp2
  go_ret2
  have hal : Below w2.heap.size w2 (w2.alloc (.cells #[.pointer (some ⟨w1.heap.size, 0, none⟩), .slice (some ⟨G, 0, none⟩) N N] 125)) := (Below.refl _ w2).alloc (Nat.le_refl _) _
  exact ⟨_, w1.heap.size, G, b, rfl, ⟨heap_alloc_new _ _, HF.out.same hal, HG2.out.same hal, h1, h2, h3⟩, HB2.out.trans (hal.mono HB2.out.size)⟩

/-- a source's symbols. -/
def enc (K : Nat) (f : Nat → Nat → Nat) (i : Nat) : Nat → Nat := Pf.mv Pf.idn K f (Pf.idn i)
theorem enc_bm {K : Nat} {f : Nat → Nat → Nat} (hf : Mt.Bm f) : Mt.Bm (enc K f) := fun i => Pf.mv_bm Pf.idn_by hf (Pf.idn_by i)
/-- a list of rows in new memory, and OK; or an error. -/
def Lst (w : World) (m wi : Nat) (F : Nat → Nat → Nat) (e : Ending) (w' : World) : Prop := ∃ G b, e = .returned (.tuple #[.slice (some ⟨G, 0, none⟩) m m, .int .i64 0]) ∧ Gr w' w.heap.size G m m b (fun _ => wi) (fun _ => wi) F ∧ Below w.heap.size w w'
def ErrL (w : World) (E : Int) (e : Ending) (w' : World) : Prop := e = .returned (.tuple #[.slice none 0 0, .int .i64 E]) ∧ Below w.heap.size w w'
def EncSays (n N K : Nat) (l : Nat → Nat) (f : Nat → Nat → Nat) (w : World) (e : Ending) (w' : World) : Prop := (¬ IsS n K l ∧ ErrL w 2 e w') ∨ (IsS n K l ∧ Lst w N (l 0) (enc K f) e w')

set_option maxHeartbeats 2000000 in
set_option maxRecDepth 100000 in
theorem cencode_any (cb fb G N K : Nat) (b : Nat → Nat) (a : Option Addr) (n cap : Nat) (r : Nat → Option Addr) (l c : Nat → Nat) (f : Nat → Nat → Nat) (hn : n ≤ 1000000) (hl : ∀ i, i < n → l i ≤ 1000000) (w : World) (h : Cd w cb fb G N K b) (hR : Rd w a n cap r l c f) :
    Calls Tryz.prog 57 #[.pointer (some ⟨cb, 0, none⟩), .slice a n cap] w (EncSays n N K l f w) := by
  have H := Lib.hid h; have HR := Lib.hid hR; have HL := Lib.hid hl; clear h hR hl
  go_enter Tryz.func57, Tryz.ntmps57
  go_wp2_with fail
  refine (cnone_any cb fb G N K b _ H.out).mono ?_
  rintro e w' ⟨rfl, hw'⟩
  rw [hw']; clear hw'
  go_wp2_with fail
  refine (takes_any cb fb G N K b a n cap r l c f (by omega) _ H.out HR.out).mono ?_
  rintro e w1 ⟨⟨v, rfl, hv⟩, hB1⟩
  have HV := Lib.hid hv; have HB1 := Lib.hid hB1
  cases v
  · clear hv hB1
    go_wp2
    go_ret2
    exact Or.inl ⟨fun hh => Bool.false_ne_true (HV.out.2 hh), rfl, HB1.out⟩
  · obtain ⟨hnK, hev⟩ := hv.1 rfl
    have hbd : Below w1.heap.size w1 w1.drew := below_dr (Below.refl _ w1) 1
    have hcd := H.out.same hB1
    have c1 := hcd.c1
    have HC := Lib.hid (hcd.same hbd); have HRR := Lib.hid ((HR.out.same hB1).same hbd); have HBD := Lib.hid hbd
    have hk1 := hcd.k1; have hnm := hcd.nm; have hkn := hcd.kn
    have HEV := Lib.hid hev; have HNK := Lib.hid hnK
    clear hv hB1 hbd hcd hev hnK
    go_wp2_with fail
    go_region_with (first | (go_at_call 77; refine (of_any a n cap _).mono ?_; rintro e w2 ⟨rfl, hw2⟩; have hal : Below w1.drew.heap.size w1.drew w2 := (by rw [hw2]; exact (Below.refl _ w1.drew).alloc (Nat.le_refl _) _); have hak := ask_of HRR.out; rw [← hw2] at hak; have HAK := Lib.hid hak; have HC2 := Lib.hid (HC.out.same hal); have HB2 := Lib.hid (HB1.out.trans ((HBD.out.trans (hal.mono (Nat.le_refl _))).mono HB1.out.size)); have c12 := HC2.out.c1; clear hw2 hal hak) | (go_at_call 76; refine (csums_any cb fb G N K b _ _ n r l c f (some ⟨G, 0, none⟩) N N _ (fun _ => K) _ _ (fun i _ => by rw [HNK.out]; exact Nat.le_refl _) (by rw [HNK.out]; exact hk1) HEV.out (HL.out 0 (by rw [HNK.out]; exact hk1)) hn (by omega) _ HC2.out HAK.out HC2.out.tb.rd).mono ?_; rintro e w3 ⟨G3, b3, rfl, hG3, hB3⟩; have HG3 := Lib.hid hG3; have HB3 := Lib.hid (HB2.out.trans (hB3.mono HB2.out.size)); clear hG3 hB3))
    all_goals
      go_wp2
      go_ret2
      exact Or.inr ⟨⟨HNK.out, HEV.out⟩, G3, b3, rfl, HG3.out.mono HB2.out.size, HB3.out⟩

/-- one row in new memory, and OK. -/
def Row1 (w : World) (wi : Nat) (F : Nat → Nat) (e : Ending) (w' : World) : Prop := ∃ g, e = .returned (.tuple #[.slice (some ⟨g, 0, none⟩) wi wi, .int .i64 0]) ∧ w.heap.size ≤ g ∧ Bl w' g wi wi F ∧ Below w.heap.size w w'
def SymSays (n N K : Nat) (x : Int) (l : Nat → Nat) (f : Nat → Nat → Nat) (w : World) (e : Ending) (w' : World) : Prop := (¬ (IsS n K l ∧ 0 ≤ x ∧ x < N) ∧ ErrL w 2 e w') ∨ (IsS n K l ∧ 0 ≤ x ∧ x < N ∧ Row1 w (l 0) (enc K f x.toNat) e w')

end Go.Proofs.YtkejabhjlflknaaGreat

namespace Go.Proofs.YtkejabhjlflknaaGreat
open Go.RowKit Go.Shelf

/-- held symbols, as they read: indexes, rows. -/
structure Hs (w : World) (a : Option Addr) (m : Nat) (h : Nat → Int) (r : Nat → Option Addr) (l c : Nat → Nat) (f : Nat → Nat → Nat) : Prop where
  bm : Mt.Bm f
  cell : ∀ i, i < m → ∃ b o, a = some ⟨b, o, none⟩ ∧ w.cell? ⟨b, o + i * 2, none⟩ = some (.int .i64 (h i)) ∧ w.cell? ⟨b, o + i * 2 + 1, none⟩ = some (.slice (r i) (l i) (c i))
  row : ∀ i, i < m → Sl w (r i) (l i) (c i) (f i)
section
variable {w w' : World} {a : Option Addr} {m : Nat} {h : Nat → Int} {r : Nat → Option Addr} {l c : Nat → Nat} {f : Nat → Nat → Nat}
theorem Hs.same (s : Hs w a m h r l c f) (hB : Below w.heap.size w w') : Hs w' a m h r l c f := ⟨s.bm, fun i hi => by
  obtain ⟨b, o, e, h1, h2⟩ := s.cell i hi
  exact ⟨b, o, e, by rw [hB.cell (World.block_lt_of_cell? _ _ h1)]; exact h1, by rw [hB.cell (World.block_lt_of_cell? _ _ h2)]; exact h2⟩, fun i hi => (s.row i hi).same hB⟩
theorem Hs.less (s : Hs w a m h r l c f) {k : Nat} (hk : k ≤ m) : Hs w a k h r l c f := ⟨s.bm, fun i hi => s.cell i (by omega), fun i hi => s.row i (by omega)⟩
end

set_option maxHeartbeats 400000 in
theorem dec1_any (a : Option Addr) (n cap lb k : Nat) (h : Nat → Int) (r : Nat → Option Addr) (l c : Nat → Nat) (f : Nat → Nat → Nat) (hk : k < n) (w : World) (hb : w.cell? ⟨lb, 0, none⟩ = some (.slice a n cap)) (hR : Hs w a n h r l c f) :
    Calls Tryz.prog 93 #[.int .i64 (k : Nat), .pointer (some ⟨lb, 0, none⟩)] w fun e w' => e = .returned (.slice (r k) (l k) (c k)) ∧ w' = w := by
  obtain ⟨b, o, ea, _, hc⟩ := hR.cell k hk
  have i1 : (k : Int) < (n : Int) := by omega
  subst ea
  clear hR
  go_enter Tryz.func93, Tryz.ntmps93
  go_wp2
  go_ret
  exact ⟨rfl, rfl⟩
theorem ask_dec {w : World} {a : Option Addr} {n cap : Nat} {h : Nat → Int} {r : Nat → Option Addr} {l c : Nat → Nat} {f : Nat → Nat → Nat} (hR : Hs w a n h r l c f) : Ask (w.alloc (.cells #[.slice a n cap] 37)) 93 w.heap.size n r l c f := by
  have hB : Below w.heap.size w (w.alloc (.cells #[.slice a n cap] 37)) := (Below.refl _ w).alloc (Nat.le_refl _) _
  have h2 := hR.same hB
  have hb : (w.alloc (.cells #[.slice a n cap] 37)).heap[w.heap.size]? = some (.cells #[.slice a n cap] 37 (0, 0)) := heap_alloc_new _ _
  refine ⟨hR.bm, fun _ _ => by kernel_rfl, fun W hW k hk => dec1_any a n cap _ k h r l c f hk W ?_ (h2.same hW), h2.row⟩
  rw [cell_of_row W _ 0 _ _ _ ((hW.block _ (Array.getElem?_eq_some_iff.1 hb).1).trans hb)]; rfl

/-- what is wrong with held symbols, if anything. -/
def DChk (h : Nat → Int) (l : Nat → Nat) (m N K : Nat) (E : Int) : Prop := (¬ (∀ i, i < m → l i = l 0) ∧ E = 2) ∨ ((∀ i, i < m → l i = l 0) ∧ Chk h m N K E)
theorem DChk.uniq {h : Nat → Int} {l : Nat → Nat} {m N K : Nat} {E E' : Int} (a : DChk h l m N K E) (b : DChk h l m N K E') : E = E' := by
  rcases a with ⟨a1, rfl⟩ | ⟨a1, a2⟩ <;> rcases b with ⟨b1, rfl⟩ | ⟨b1, b2⟩
  · rfl
  · exact absurd b1 a1
  · exact absurd a1 b1
  · exact a2.uniq b2
/-- the source of symbols held. -/
def dcd (h : Nat → Int) (K : Nat) (f : Nat → Nat → Nat) (i j : Nat) : Nat := if i < K then Pf.mv (pts h) K f i j else 0
theorem dcd_bm (h : Nat → Int) {K : Nat} (hK : K ≤ 256) {f : Nat → Nat → Nat} (hf : Mt.Bm f) : Mt.Bm (dcd h K f) := fun i j => by
  unfold dcd; split
  · exact Pf.mv_bm (pts_by h) hf (by omega) j
  · omega
def DecSays (h : Nat → Int) (l : Nat → Nat) (f : Nat → Nat → Nat) (m N K : Nat) (w : World) (e : Ending) (w' : World) : Prop :=
  (∃ E : Int, E ≠ 0 ∧ DChk h l m N K E ∧ ErrL w E e w') ∨ (DChk h l m N K 0 ∧ Lst w K (l 0) (dcd h K f) e w')
theorem dchk_ok {h : Nat → Int} {l : Nat → Nat} {m N K : Nat} (c : DChk h l m N K 0) : (∀ i, i < m → l i = l 0) ∧ InR h m N ∧ DsI h m ∧ K ≤ m := by
  rcases c with ⟨_, e⟩ | ⟨h1, h2⟩
  · cases e
  · exact ⟨h1, chk_ok h2⟩
theorem Bi.si {w : World} {g n : Nat} {h : Nat → Int} (b : Bi w g n h) : Si w (some ⟨g, 0, none⟩) n h := ⟨fun i hi => ⟨g, 0, rfl, by rw [Nat.zero_add]; exact b.cell hi⟩⟩

set_option maxHeartbeats 4000000 in
set_option maxRecDepth 100000 in
theorem cdecode_any (cb fb G N K : Nat) (b : Nat → Nat) (a : Option Addr) (m cap : Nat) (h : Nat → Int) (r : Nat → Option Addr) (l c : Nat → Nat) (f : Nat → Nat → Nat) (hm : m ≤ 1000000) (hl : ∀ i, i < m → l i ≤ 1000000) (w : World) (hC : Cd w cb fb G N K b) (hH : Hs w a m h r l c f) :
    Calls Tryz.prog 66 #[.pointer (some ⟨cb, 0, none⟩), .slice a m cap] w (DecSays h l f m N K w) := by
  have hmf : ∀ (fn : Fn) (first cap : Array Value) (w : World), (Instr.makeFunc fn first cap).run Tryz.prog w = .ok (.func fn first cap) w := fun _ _ _ _ => rfl
  have HM := Lib.hid hmf
  have hmk := hmkI m (by omega)
  obtain ⟨w0, hw0⟩ : ∃ w0, w0 = w.alloc (.cells #[.slice a m cap] 37) := ⟨_, rfl⟩
  have hB0 : Below w.heap.size w w0 := by rw [hw0]; exact (Below.refl _ w).alloc (Nat.le_refl _) _
  have hak : Ask w0 93 w.heap.size m r l c f := by rw [hw0]; exact ask_dec hH
  have hbx : w0.heap[w.heap.size]? = some (.cells #[.slice a m cap] 37 (0, 0)) := by rw [hw0]; exact heap_alloc_new _ _
  have HW0 := Lib.hid hw0; have HB0 := Lib.hid hB0; have HAK := Lib.hid hak; have HBX := Lib.hid hbx
  have HC := Lib.hid (hC.same hB0); have HH := Lib.hid (hH.same hB0); have HL := Lib.hid hl
  have hxc : ∀ W, Below w0.heap.size w0 W → W.cell? ⟨w.heap.size, 0, none⟩ = some (.slice a m cap) := fun W hW => by
    rw [cell_of_row W _ 0 _ _ _ ((hW.block _ (Array.getElem?_eq_some_iff.1 hbx).1).trans hbx)]; rfl
  have HXC := Lib.hid hxc
  have x0 := hxc w0 (Below.refl _ _)
  have hsz0 : w.heap.size < w0.heap.size := (Array.getElem?_eq_some_iff.1 hbx).1
  clear hw0 hB0 hak hbx hC hH hl hxc hmf
  go_enter Tryz.func66, Tryz.ntmps66
  go_wp2_with fail
  rw [← HW0.out]
  refine (cnone_any cb fb G N K b _ HC.out).mono ?_
  rintro e w' ⟨rfl, hw'⟩
  rw [hw']; clear hw'
  have hmf := HM.out
  go_wp2_with fail
  refine (even_any _ _ m r l c f (by omega) _ HAK.out).mono ?_
  rintro e w' ⟨⟨v, rfl, hv⟩, hw'⟩
  rw [hw']; clear hw' hmf
  have HV := Lib.hid hv
  cases v
  · clear hv hmk
    go_wp2
    go_ret2
    exact Or.inl ⟨2, by omega, Or.inl ⟨fun hh => Bool.false_ne_true (HV.out.2 hh), rfl⟩, rfl, HB0.out⟩
  · have hev := hv.1 rfl
    have HEV := Lib.hid hev
    have hal : Below w0.heap.size w0 (w0.alloc (.cells (madeCells #[.int .i64 0] m) 3)) := (Below.refl _ w0).alloc (Nat.le_refl _) _
    have x1 := HXC.out _ hal
    have HBI := Lib.hid ((bi_made w0 m).congr (h' := fun i => if i < 0 then h i else 0) (fun i _ => rfl)); have HAL := Lib.hid hal
    clear hv hev hal
    go_wp2_with fail
    clear x0 x1 hmk
    go_loopw [25] (fun i wr => ∃ k : Nat, k ≤ m ∧ i = .int .i64 k ∧ Bi wr w0.heap.size m (fun i => if i < k then h i else 0) ∧ Below w0.heap.size w0 wr) (fun i _ => m - (intOf i).toNat)
    case atStart => exact ⟨0, by omega, rfl, HBI.out, HAL.out⟩
    case round =>
      clear HBI HAL
      obtain ⟨k, hk, rfl, hbi, hB⟩ := hrel
      have HBI := Lib.hid hbi; have HB := Lib.hid hB
      by_cases hlt : k < m
      · have i1 : (k : Int) < (m : Int) := by omega
        obtain ⟨ab, ao, ea, c1, c2⟩ := (HH.out.same hB).cell k hlt
        have hal : Below wr.heap.size wr (wr.alloc (.cells #[.int .i64 (h k), .slice (r k) (l k) (c k)] 54)) := (Below.refl _ wr).alloc (Nat.le_refl _) _
        have hbi2 : Bi (wr.alloc (.cells #[.int .i64 (h k), .slice (r k) (l k) (c k)] 54)) w0.heap.size m (fun i => if i < k then h i else 0) := hbi.kept (hal.block _ hbi.lt)
        have c3 := hbi2.cell hlt
        have f3 := hbi2.free k
        have HBI2 := Lib.hid hbi2
        have hsz := hB.size
        have HB2 := Lib.hid (hB.trans (hal.mono hsz))
        have EA := Lib.hid (show a = some ⟨ab, ao, none⟩ from ea)
        subst ea
        clear hbi hB hal hbi2
        go_wp2
        go_roundw
        case rel => exact ⟨k + 1, by omega, by go_num, (HBI2.out.set hlt (h k)).congr (fun i _ => by
          by_cases e : i = k
          · subst e; rw [if_pos rfl, if_pos (by omega)]
          · rw [if_neg e]
            by_cases e2 : i < k
            · rw [if_pos e2, if_pos (by omega)]
            · rw [if_neg e2, if_neg (by omega)]), HB2.out.setCell (p := ⟨w0.heap.size, k, none⟩) (Nat.le_refl _) _⟩
        case measure => simp [intOf]; omega
      · obtain rfl : k = m := by omega
        have HSI := Lib.hid ((hbi.congr (h' := h) (fun i hi => by rw [if_pos hi])).si)
        have HCD := Lib.hid (HC.out.same hB)
        have hsz := HB0.out.size
        have hszr := hB.size
        have HBW := Lib.hid (HB0.out.trans (hB.mono hsz))
        clear hbi hB
        go_wp2_with fail
        refine (cturn_any cb fb G N K b _ k k h (by omega) wr HCD.out HSI.out).mono ?_
        rintro e w1 (⟨E, hE, hc, rfl, hB1⟩ | ⟨hc, G1, b1, rfl, hG1, hB1⟩)
        · have g1 : (E != 0) = true := by simp [hE]
          have HE := Lib.hid hE; have HCK := Lib.hid hc; have HB1 := Lib.hid (HBW.out.trans (hB1.mono (Nat.le_trans hsz hszr)))
          clear hE hc hB1
          go_wp2
          go_ret2
          exact Or.inl ⟨E, HE.out, Or.inr ⟨HEV.out, HCK.out⟩, rfl, HB1.out⟩
        · have hok := chk_ok hc
          have hk1 := HC.out.k1; have hnm := HC.out.nm; have hkn := HC.out.kn
          have hKk := hok.2.2
          have HCK := Lib.hid hc
          have HB1 := Lib.hid (HBW.out.trans (hB1.mono (Nat.le_trans hsz hszr)))
          have HA1 := Lib.hid ((HAK.out.same HB.out).same hB1)
          have HC1 := Lib.hid (HCD.out.same hB1)
          have HQ := Lib.hid (csums_any cb fb G N K b _ _ k r l c f _ K _ _ (fun _ => K) _ _ (fun i _ => hKk) (by omega) HEV.out (HL.out 0 (by omega)) hm (by omega) _ HC1.out HA1.out hG1.rd)
          have hs1 := HB1.out.size
          clear hc hG1 hB1 hok
          go_wp2_with fail
          refine HQ.out.mono ?_
          rintro e w2 ⟨G2, b2, rfl, hG2, hB2⟩
          have HG2 := Lib.hid hG2; have HB2 := Lib.hid (HB1.out.trans (hB2.mono hs1))
          clear hG2 hB2
          go_wp2
          go_ret2
          exact Or.inr ⟨Or.inr ⟨HEV.out, HCK.out⟩, G2, b2, rfl, (HG2.out.mono hs1).congr (dcd_bm h (by omega) HH.out.bm) (fun i j hi => by
            unfold dcd
            rw [if_pos hi]
            show Pf.xsum (fun p => Gf.mul (trn h K i p) (f p j)) K = Pf.xsum (fun p => Gf.mul (Pf.lw (pts h) K i p) (f p j)) K
            refine Pf.xsum_congr K fun p _ => ?_
            unfold trn
            rw [if_pos hi]), HB2.out⟩
end Go.Proofs.YtkejabhjlflknaaGreat

namespace Go.Proofs.YtkejabhjlflknaaGreat
open Go.RowKit Go.Shelf

theorem own_set {w : World} {B sz n g i : Nat} {e : TypeId} {v u : Value} {xs : List Value} (h : w.ownsRow B e sz v n xs) (hg : g < B) : (w.setCell ⟨g, i, none⟩ u).ownsRow B e sz v n xs := by
  have hl := h.lt
  refine h.kept (grownSet w g i u) ?_
  cases h2 : v.ownBlock with
  | none => exact Or.inl rfl
  | some k => exact Or.inr (fun hh => by have := (hl k h2).1; cases hh; omega)
/-- what was taken, with one more. -/
def onR (R : Nat → Nat) (t r i : Nat) : Nat := if i = t then r else R i
theorem onR_lo {R : Nat → Nat} {t r i : Nat} (h : i < t) : onR R t r i = R i := if_neg (by omega)
theorem onR_t (R : Nat → Nat) (t r : Nat) : onR R t r t = r := if_pos rfl
theorem isP_on (R : Nat → Nat) (t r i : Nat) : Pf.isP (onR R t r) i (t + 1) = (Pf.isP R i t || decide (r = i)) := by
  show (Pf.isP (onR R t r) i t || decide (onR R t r t = i)) = _
  rw [onR_t, Pf.isP_congr t (fun j hj => onR_lo hj)]
/-- the values at the points. -/
def vfn (f P : Nat → Nat) (l n i : Nat) : Nat := if i < n then Pf.ev f (P i) l else 0
theorem vfn_by {f P : Nat → Nat} (hf : Pf.By f) (hP : Pf.By P) (l n : Nat) : Pf.By (vfn f P l n) := fun i => by
  unfold vfn; split
  · exact Pf.ev_lt hf (hP i) l
  · omega
theorem vfn_up (f P : Nat → Nat) (l n : Nat) : Pf.Up (vfn f P l n) n := fun i hi => by unfold vfn; rw [if_neg (by omega)]
/-- a polynomial of as many coefficients as there are points at most, from its values. -/
theorem vfn_val {f P : Nat → Nat} {l n x : Nat} (hf : Pf.By f) (hu : Pf.Up f l) (hP : Pf.By P) (hd : Pf.Dst P n) (hl : l ≤ n) (hx : x < 256) : dotN (Pf.lw P n x) (vfn f P l n) n = Pf.ev f x l := by
  rw [← Pf.ev_up x hu hl]
  exact (Pf.lagrange hP hd hf (hu.mono hl) (vfn_by hf hP l n) (fun i hi => by unfold vfn; rw [if_pos hi, Pf.ev_up (P i) hu hl]) hx).symm

end Go.Proofs.YtkejabhjlflknaaGreat

namespace Go.Proofs.YtkejabhjlflknaaGreat
open Go.RowKit Go.Shelf

/-- held symbols, as values. -/
def hdv (h : Nat → Int) (r : Nat → Option Addr) (l c : Nat → Nat) : Nat → List Value
  | 0 => []
  | t + 1 => hdv h r l c t ++ [.int .i64 (h t), .slice (r t) (l t) (c t)]
section
variable {h : Nat → Int} {r : Nat → Option Addr} {l c : Nat → Nat}
theorem hdv_s (t : Nat) : hdv h r l c (t + 1) = hdv h r l c t ++ [.int .i64 (h t), .slice (r t) (l t) (c t)] := rfl
theorem hdv_len : ∀ t, (hdv h r l c t).length = t * 2
  | 0 => rfl
  | t + 1 => by rw [hdv_s, List.length_append, hdv_len t]; simp; omega
theorem hdv_congr {r' : Nat → Option Addr} : ∀ t, (∀ i, i < t → r i = r' i) → hdv h r l c t = hdv h r' l c t
  | 0, _ => rfl
  | t + 1, e => by rw [hdv_s, hdv_s, hdv_congr t (fun i hi => e i (by omega)), e t (by omega)]
theorem hdv_at : ∀ t i, i < t → (hdv h r l c t)[i * 2]? = some (.int .i64 (h i)) ∧ (hdv h r l c t)[i * 2 + 1]? = some (.slice (r i) (l i) (c i))
  | 0, i, e => absurd e (Nat.not_lt_zero i)
  | t + 1, i, e => by
    rw [hdv_s]
    have hl := hdv_len (h := h) (r := r) (l := l) (c := c) t
    by_cases q : i = t
    · subst q
      rw [List.getElem?_append_right (by omega), List.getElem?_append_right (by omega), hl, Nat.sub_self, Nat.add_sub_cancel_left]
      exact ⟨rfl, rfl⟩
    · rw [List.getElem?_append_left (by omega), List.getElem?_append_left (by omega)]
      exact hdv_at t i (by omega)
theorem hdv_hs {w : World} {B t hc : Nat} {e : TypeId} {f : Nat → Nat → Nat} {ha : Option Addr} (ho : w.ownsRow B e 2 (.slice ha t hc) t (hdv h r l c t)) (hf : Mt.Bm f) (hr : ∀ i, i < t → Sl w (r i) (l i) (c i) (f i)) : Hs w ha t h r l c f := by
  refine ⟨hf, fun i hi => ?_, hr⟩
  obtain ⟨_, ⟨e, h0⟩ | ⟨g, cap', cur, e, hg, hh, hnc, hcm, hs, ht⟩⟩ := ho
  · omega
  · simp only [Value.slice.injEq, true_and] at e
    obtain ⟨rfl, rfl⟩ := e
    have hat : ∀ j, j < t * 2 → cur[j]? = (hdv h r l c t)[j]? := fun j hj => by
      rw [← ht, List.getElem?_take, if_pos hj, Array.getElem?_toList]
    obtain ⟨h1, h2⟩ := hdv_at (h := h) (r := r) (l := l) (c := c) t i hi
    refine ⟨g, 0, rfl, ?_, ?_⟩
    · rw [Nat.zero_add, cell_of_row w g _ cur _ _ hh, hat _ (by omega)]; exact h1
    · rw [Nat.zero_add, cell_of_row w g _ cur _ _ hh, hat _ (by omega)]; exact h2
end
theorem pair_ones (z : Int) (a : Option Addr) (n c : Nat) : ∀ u ∈ [Value.int .i64 z, Value.slice a n c], u.oneCell' = true := by
  intro u hu
  rcases List.mem_cons.1 hu with rfl | hu
  · rfl
  · rcases List.mem_singleton.1 hu with rfl; rfl
end Go.Proofs.YtkejabhjlflknaaGreat
