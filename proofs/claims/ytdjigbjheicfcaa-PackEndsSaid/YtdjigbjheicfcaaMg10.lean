import Derived.Laws.AppendOwnNone
import Derived.Deep.RegionHeld3
import Derived.Test.YtdjigbjheicfcaaMg9
namespace Go.Proofs.Ytdjigbjheicfcaa
open Go.RowKit Go.Shelf

theorem rowv_cpy (h g : Nat → Nat) (n m : Nat) : rowv h n ++ rowv g m = rowv (cpy n m g h) (n + m) := by
  apply List.ext_getElem?
  intro i
  by_cases c : i < n
  · rw [List.getElem?_append_left (by rw [rowv_len]; exact c), rowv_get c, rowv_get (by omega)]
    unfold cpy; rw [if_neg (by omega)]
  · rw [List.getElem?_append_right (by rw [rowv_len]; omega), rowv_len]
    by_cases d : i < n + m
    · rw [rowv_get (by omega), rowv_get d]
      unfold cpy; rw [if_pos (by omega)]
    · rw [List.getElem?_eq_none (by rw [rowv_len]; omega), List.getElem?_eq_none (by rw [rowv_len]; omega)]
theorem run_append_sl (w : World) (ty : TypeId) (B : Nat) (a : Option Addr) (n cap : Nat) (h : Nat → Nat) (hR : Rq w B a n cap h) (ain : Option Addr) (m cin : Nat) (g : Nat → Nat) (hS : Sl w ain m cin g) (hl : n + m ≤ 1000000000) (hB : B ≤ w.heap.size) :
    ∃ a' c' w', (Builtin.append_ #[29, 29] ty #[.slice a n cap, .slice ain m cin]).run Try.prog w = .ok (.slice a' (n + m) c') w' ∧ Rq w' B a' (n + m) c' (cpy n m g h) ∧
      (∀ k, a' = some ⟨k, 0, none⟩ → a = some ⟨k, 0, none⟩ ∨ w.heap.size ≤ k) ∧ ∃ row, w.grownBy w' row ∧ ∀ k, row = some k → a = some ⟨k, 0, none⟩ := by
  obtain ⟨i0, hi, hz0, hz1, hz2⟩ := info_parts Try.infoU8
  by_cases hm : m = 0
  · subst hm
    have hrun : (Builtin.append_ #[29, 29] ty #[.slice a n cap, .slice ain 0 cin]).run Try.prog w = .ok (.slice a n cap) w := by
      have hn : n ≤ cap := by
        rcases hR with ⟨_, rfl, rfl⟩ | ⟨_, _, _, _, h3, _⟩
        · exact Nat.le_refl _
        · exact h3
      have hfc : (Builtin.firstCells i0.size 0 (.slice ain 0 cin)).run Try.prog w = .ok #[] w := by
        rw [hz1]
        cases ain with
        | none => exact run_firstCells_none w 1 0 0 cin
        | some ad => exact run_firstCells_some w 1 0 ad 0 cin [] rfl (fun j v hj => by simp at hj)
      cases a with
      | none =>
        rcases hR with ⟨_, rfl, rfl⟩ | ⟨_, h, _⟩
        · simp [Builtin.append_, run_underlying Try.underlying29, Go.sizeOf, typeInfo, hi, Builtin.lenOf, hfc, storeCells]
        · cases h
      | some ad =>
        simp [Builtin.append_, run_underlying Try.underlying29, Go.sizeOf, typeInfo, hi, Builtin.lenOf, hfc, hn, storeCells]
    exact ⟨a, cap, w, hrun, by rw [cpy_zero]; exact hR, fun k e => Or.inl e, none, grownBelow (Below.refl _ _) none, fun k e => by cases e⟩
  · obtain ⟨b, o, rfl, _⟩ := hS.at_ (k := 0) (by omega)
    obtain ⟨k, c', w', hr, h2, h3, h4⟩ := run_append_bag (P := Try.prog) w 29 ty B 5 i0 (.int .u8 0) 1 Try.underlying29 hi hz0 hz1 hz2 rfl a n cap (rowv h n) hR.owns ⟨b, o, none⟩ m cin (rowv g m) (rowv_len _ _) (Sl.reads hS _ rfl) (rowv_ones _ _) (by omega) (by unfold maxLen; omega) (by omega) hB
    rw [rowv_cpy] at h2
    refine ⟨_, c', w', hr, Rq.of_owns h2, fun k' e => ?_, ?_⟩
    · cases e
      rcases h3 with ⟨e, _, _⟩ | ⟨e, _⟩
      · exact Or.inl e
      · exact Or.inr e
    · rcases h3 with ⟨e, _, hg⟩ | ⟨_, hg⟩
      · exact ⟨some k, hg, fun k' e' => by cases e'; exact e⟩
      · exact ⟨none, hg, fun k' e' => by cases e'⟩
theorem wpList_append_sl {w : World} {ops : Array Oper} {rest : List Oper} {o : Oper} {act : Act} {Q : Exit → Act → World → Prop} (hgd : o.guard = none) (s x : Operand)
    (ho : o.op = .call { callee := .builtin .append, args := #[s, x], argTypes := #[29, 29] })
    (B : Nat) (a : Option Addr) (n cap : Nat) (h : Nat → Nat) (hs : act.eval s = .slice a n cap) (hR : Rq w B a n cap h) (ain : Option Addr) (m cin : Nat) (g : Nat → Nat) (hx : act.eval x = .slice ain m cin) (hS : Sl w ain m cin g) (hl : n + m ≤ 1000000000) (hB : B ≤ w.heap.size)
    (K : ∀ a' c' w', Hid (Rq w' B a' (n + m) c' (cpy n m g h)) → Hid (∀ k, a' = some ⟨k, 0, none⟩ → a = some ⟨k, 0, none⟩ ∨ w.heap.size ≤ k) → Hid (∃ row, w.grownBy w' row ∧ ∀ k, row = some k → a = some ⟨k, 0, none⟩) → wpList Try.prog ops Q rest (act.put o.dst (.slice a' (n + m) c')) w') : wpList Try.prog ops Q (o :: rest) act w := by
  refine wpList_plain hgd fun _ hK => ?_
  obtain ⟨a', c', w', hr, h2, h3, h4⟩ := run_append_sl w o.type B a n cap h hR ain m cin g hS hl hB
  unfold Oper.wp execOp
  simp only [ho, resolve, invoke, builtin, Sem.run_bind, Sem.run_pure, Result.andThen_ok, List.map_toArray, List.map_cons, List.map_nil, hs, hx, hr]
  exact hK _ _ (K a' c' w' h2 h3 h4)

/-- the document's writer. -/
def Xs (w : World) (t : TypeId) (q : Nat) (a : Option Addr) (l c : Nat) (e : Int) : Prop := w.heap[q]? = some (.cells #[.slice a l c, .int .i64 e] t (0, 0))
section
variable {w w' : World} {t : TypeId} {q l c : Nat} {a : Option Addr} {e : Int}
theorem Xs.lt (h : Xs w t q a l c e) : q < w.heap.size := (Array.getElem?_eq_some_iff.1 h).1
theorem Xs.c0 (h : Xs w t q a l c e) : w.cell? ⟨q, 0, none⟩ = some (.slice a l c) := by rw [cell_of_row w q 0 _ _ _ h]; rfl
theorem Xs.c1 (h : Xs w t q a l c e) : w.cell? ⟨q, 1, none⟩ = some (.int .i64 e) := by rw [cell_of_row w q 1 _ _ _ h]; rfl
theorem Xs.free (h : Xs w t q a l c e) (i : Nat) : w.frozen? ⟨q, i, none⟩ = false := frozen_of_row w q i _ _ h
theorem Xs.kept (h : Xs w t q a l c e) (hk : w'.heap[q]? = w.heap[q]?) : Xs w' t q a l c e := hk.trans h
theorem Xs.same (h : Xs w t q a l c e) (hB : Below w.heap.size w w') : Xs w' t q a l c e := h.kept (hB.block q h.lt)
theorem Xs.set0 (h : Xs w t q a l c e) (p : Option Addr) (k d : Nat) : Xs (w.setCell ⟨q, 0, none⟩ (.slice p k d)) t q p k d e := heap_setCell_same w q 0 _ _ (.slice p k d) h
theorem Xs.set1 (h : Xs w t q a l c e) (e' : Int) : Xs (w.setCell ⟨q, 1, none⟩ (.int .i64 e')) t q a l c e' := heap_setCell_same w q 1 _ _ (.int .i64 e') h
theorem Xs.ne {g n cap : Nat} {f : Nat → Nat} (h : Xs w t q a l c e) (ht : t ≠ 5) (hb : Bl w g n cap f) : g ≠ q := fun k => by
  obtain ⟨vs, h1, _, _⟩ := hb
  unfold Xs at h
  rw [k, h] at h1
  simp at h1
  exact ht h1.2
end
structure Xw (w : World) (B q : Nat) (a : Option Addr) (c : Nat) (S : Bs) : Prop where
  blk : ∃ l, Xs w 61 q a l c S.e ∧ Rq w B a l c S.f ∧ (S.e = 0 → l = S.l)
  hq : B ≤ q
section
variable {w w' : World} {B q c : Nat} {a : Option Addr} {S : Bs}
theorem Xw.lt (h : Xw w B q a c S) : q < w.heap.size := by obtain ⟨l, h1, _⟩ := h.blk; exact h1.lt
theorem Xw.lta (h : Xw w B q a c S) : ∀ g, a = some ⟨g, 0, none⟩ → B ≤ g ∧ g < w.heap.size := by obtain ⟨l, _, h1, _⟩ := h.blk; exact h1.lt
theorem Xw.kept (h : Xw w B q a c S) (h1 : w'.heap[q]? = w.heap[q]?) (h3 : ∀ g, a = some ⟨g, 0, none⟩ → w'.heap[g]? = w.heap[g]?) : Xw w' B q a c S := by
  obtain ⟨l, k1, k2, k3⟩ := h.blk
  exact ⟨⟨l, k1.kept h1, k2.kept fun g e _ => h3 g e, k3⟩, h.hq⟩
theorem Xw.same (h : Xw w B q a c S) (hB : Below w.heap.size w w') : Xw w' B q a c S := h.kept (hB.block q h.lt) fun g e => hB.block g (h.lta g e).2
end
/-- what a call of the document's writer leaves. -/
def Xrote (w : World) (B q : Nat) (a : Option Addr) (S : Bs) (x : Ending) (w' : World) : Prop :=
  ∃ a' c', x = .returned (.tuple #[]) ∧ Xw w' B q a' c' S ∧ (∃ b, (b = q ∨ a = some ⟨b, 0, none⟩) ∧ But2 q b w w') ∧ (∀ g, a' = some ⟨g, 0, none⟩ → a = some ⟨g, 0, none⟩ ∨ w.heap.size ≤ g)
/-- something appended to it, and stored. -/
theorem Xs.appended {w w2 : World} {B q l c m : Nat} {a : Option Addr} {S : Bs} {g : Nat → Nat} {a2 : Option Addr} {c2 : Nat} (hq : B ≤ q) (hX : Xs w 61 q a l c S.e) (hR : Rq w B a l c S.f) (hl0 : S.e = 0 → l = S.l) (h0 : S.e = 0)
    (h2 : Rq w2 B a2 (l + m) c2 (cpy l m g S.f)) (hold : ∀ k, a2 = some ⟨k, 0, none⟩ → a = some ⟨k, 0, none⟩ ∨ w.heap.size ≤ k) (hrow : ∃ row, w.grownBy w2 row ∧ ∀ k, row = some k → a = some ⟨k, 0, none⟩) :
    (∃ c1 vs, Xs w2 61 q a l c S.e ∧ w2.cell? ⟨q, 0, none⟩ = some c1 ∧ vs = c1) ∧ Xrote w B q a (S.add m g) (.returned (.tuple #[])) (w2.setCell ⟨q, 0, none⟩ (.slice a2 (l + m) c2)) := by
  obtain rfl := hl0 h0
  obtain ⟨row, hg, hrow⟩ := hrow
  have hqr : some q ≠ row := fun e => by
    have := hrow q e.symm
    rcases hR with ⟨r, _⟩ | ⟨g', e', _, hbl, _⟩
    · rw [r] at this; cases this
    · rw [e'] at this; cases this; exact hX.ne (by decide) hbl rfl
  have hX2 := hX.kept (hg.block q hX.lt hqr)
  refine ⟨⟨_, _, hX2, hX2.c0, rfl⟩, a2, c2, rfl, ⟨⟨S.l + m, hX2.set0 a2 (S.l + m) c2, h2.kept fun k e hk => ?_, fun _ => rfl⟩, hq⟩, ?_, hold⟩
  · refine heap_setCell_other _ _ _ _ (fun e2 => ?_)
    rcases h2 with ⟨r, _⟩ | ⟨g', e', _, hbl, _⟩
    · rw [r] at e; cases e
    · rw [e'] at e; cases e; exact hX2.ne (by decide) hbl e2
  · cases row with
    | none => exact ⟨q, Or.inl rfl, (But2.grown0 hg).trans (But2.set _)⟩
    | some k => exact ⟨k, Or.inr (hrow k rfl), (But2.grown hg).trans (But2.set _)⟩

set_option maxHeartbeats 1000000 in
theorem xput_any (B q : Nat) (a : Option Addr) (c : Nat) (S : Bs) (ain : Option Addr) (n cin : Nat) (h : Nat → Nat) (hl : S.l + n ≤ 1000000000) (w : World) (hB : B ≤ w.heap.size) (hW : Xw w B q a c S) (hS : Sl w ain n cin h) :
    Calls Try.prog 17 #[.pointer (some ⟨q, 0, none⟩), .slice ain n cin] w (Xrote w B q a (S.put n h)) := by
  have HW := Lib.hid hW; have HIN := Lib.hid hS
  obtain ⟨l, hst, hR, hl0⟩ := hW.blk
  have c0 := hst.c0
  have c1 := hst.c1
  have HST := Lib.hid hst; have HR := Lib.hid hR
  clear hW hS hst hR
  by_cases h0 : S.e = 0
  · have he : S.put n h = S.add n h := by unfold Bs.put; rw [if_neg (by simp [h0])]
    obtain rfl := hl0 h0
    rw [he]
    have h1 : (S.e == 0) = true := by simpa using h0
    have HAP := Lib.hid (fun (a2 : Option Addr) (c2 : Nat) (w2 : World) (k1 : Rq w2 B a2 (S.l + n) c2 (cpy S.l n h S.f)) k2 k3 => Xs.appended (a2 := a2) (c2 := c2) (w2 := w2) (m := n) (g := h) HW.out.hq HST.out HR.out (fun _ => rfl) h0 k1 k2 k3)
    go_enter Try.func17, Try.ntmps17
    go_wp2_with (at_builtin; refine wpList_append_sl (o := ⟨some 15, _, _, _, _, _⟩) rfl (.tmp 13) (.tmp 14) rfl B a S.l c S.f rfl HR.out ain n cin h rfl HIN.out hl hB (fun a2 c2 w2 hr2 ho2 hg2 => ?_); obtain ⟨⟨_, _, hx2, hc2, _⟩, hfin⟩ := HAP.out a2 c2 w2 hr2.out ho2.out hg2.out; have HX2 := Lib.hid hx2; have HFIN := Lib.hid hfin; have hfr := hx2.free 0; clear hx2 hfin)
    go_end0
    exact HFIN.out
  · have he : S.put n h = S := by unfold Bs.put; rw [if_pos h0]
    rw [he]
    have h1 : (S.e == 0) = false := by simpa using h0
    go_enter Try.func17, Try.ntmps17
    go_wp2
    go_end0
    exact ⟨a, c, rfl, HW.out, ⟨q, Or.inl rfl, But2.refl _ _ _⟩, fun g e => Or.inl e⟩
end Go.Proofs.Ytdjigbjheicfcaa

namespace Go.Proofs.Ytdjigbjheicfcaa
open Go.RowKit Go.Shelf

/-- how many numbers of a size there are. -/
def bnd (z : Int) : Int := if 1 ≤ z ∧ z ≤ 4 then ((256 ^ z.toNat : Nat) : Int) else 0
theorem fit_bnd (n z : Int) : Fit n z ↔ ¬ (n < 0 ∨ n ≥ bnd z) := by
  unfold Fit bnd
  by_cases h : 1 ≤ z ∧ z ≤ 4
  · rw [if_pos h]
    rw [show ((256 ^ z.toNat : Nat) : Int) = (256 : Int) ^ z.toNat from Int.natCast_pow 256 _]
    constructor
    · rintro ⟨_, _, h3, h4⟩; omega
    · intro k; exact ⟨h.1, h.2, by omega, by omega⟩
  · rw [if_neg h]
    constructor
    · rintro ⟨h1, h2, _, _⟩; exact absurd ⟨h1, h2⟩ h
    · intro k; omega
theorem bnd_le (z : Int) : 0 ≤ bnd z ∧ bnd z ≤ 4294967296 := by
  unfold bnd; split
  · rename_i h
    have := pow256 (size := z.toNat) (by omega)
    exact ⟨Int.natCast_nonneg _, by omega⟩
  · omega
set_option maxHeartbeats 1000000 in
theorem bound_any (z : Int) (w : World) :
    Calls Try.prog 42 #[.int .i64 z] w fun e w' => e = .returned (.int .i64 (bnd z)) ∧ w' = w := by
  by_cases h1 : 1 ≤ z
  · by_cases h2 : z ≤ 4
    · have hb : bnd z = ((256 ^ z.toNat : Nat) : Int) := if_pos ⟨h1, h2⟩
      rw [hb]
      obtain ⟨k, rfl⟩ : ∃ k : Nat, z = k := ⟨z.toNat, by omega⟩
      rw [Int.toNat_natCast]
      have HP := Lib.hid (fun j (hj : j ≤ 4) => pow256 hj)
      clear hb
      go_enter Try.func42, Try.ntmps42
      go_wp2_with fail
      go_loop [3, 4] (fun r i => ∃ j : Nat, j ≤ k ∧ i = .int .i64 j ∧ r = .int .i64 ((256 ^ j : Nat) : Int)) (fun _ i => k - (intOf i).toNat)
      case atStart => exact ⟨0, by omega, rfl, rfl⟩
      case round =>
        obtain ⟨j, hj, rfl, rfl⟩ := hrel
        by_cases hlt : j < k
        · have i1 : (j : Int) < (k : Int) := by omega
          obtain ⟨P, hP⟩ : ∃ P : Nat, P = 256 ^ j := ⟨_, rfl⟩
          have hP4 : P ≤ 4294967296 := by rw [hP]; exact HP.out j (by omega)
          rw [← hP]
          have HPP := Lib.hid hP; clear hP
          go_wp2
          go_round
          case rel => exact ⟨j + 1, by omega, by go_num, by rw [Nat.pow_succ, ← HPP.out, Int.natCast_mul, Int.mul_comm]; rfl⟩
          case measure => simp [intOf]; omega
        · obtain rfl : j = k := by omega
          have i1 : ¬ (j : Int) < (j : Int) := by omega
          go_wp2
          go_ret
          exact ⟨rfl, rfl⟩
    · have hb : bnd z = 0 := if_neg (fun h => h2 h.2)
      rw [hb]
      clear hb
      go_enter Try.func42, Try.ntmps42
      go_wp2
      go_ret
      exact ⟨rfl, rfl⟩
  · have hb : bnd z = 0 := if_neg (fun h => h1 h.1)
    rw [hb]
    clear hb
    go_enter Try.func42, Try.ntmps42
    go_wp2
    go_ret
    exact ⟨rfl, rfl⟩
theorem xnew_any (w : World) :
    Calls Try.prog 11 #[] w fun x w' => ∃ q, x = .returned (.pointer (some ⟨q, 0, none⟩)) ∧ Xw w' w.heap.size q none 0 ⟨0, fun _ => 0, 0⟩ ∧ Below w.heap.size w w' := by
  go_enter Try.func11, Try.ntmps11
  go_wp2
  go_ret
  have h1 : Xs (w.alloc (.cells #[.slice none 0 0, .int .i64 0] 61)) 61 w.heap.size none 0 0 0 := heap_alloc_new _ _
  exact ⟨_, rfl, ⟨⟨0, h1, Or.inl ⟨rfl, rfl, rfl⟩, fun _ => rfl⟩, Nat.le_refl _⟩, (Below.refl w.heap.size w).alloc (Nat.le_refl _) _⟩

theorem div_down (n k : Nat) : n / 256 ^ k / 256 = n / 256 ^ (k + 1) := by rw [Nat.pow_succ, Nat.div_div_eq_div_mul]
set_option maxHeartbeats 4000000 in
set_option maxRecDepth 100000 in
theorem xnum_any (B q : Nat) (a : Option Addr) (c : Nat) (S : Bs) (n z : Int) (hl : S.l ≤ 900000000) (w : World) (hB : B ≤ w.heap.size) (hW : Xw w B q a c S) :
    Calls Try.prog 15 #[.pointer (some ⟨q, 0, none⟩), .int .i64 n, .int .i64 z] w (Xrote w B q a (S.num n z)) := by
  have HW := Lib.hid hW
  obtain ⟨l, hst, hR, hl0⟩ := hW.blk
  have c0 := hst.c0
  have c1 := hst.c1
  have HST := Lib.hid hst; have HR := Lib.hid hR
  clear hW hst hR
  have hbl := bnd_le z
  by_cases h0 : S.e = 0
  · obtain rfl := hl0 h0
    rw [h0] at c1
    have hf1 := HST.out.free 1
    by_cases hn0 : n < 0
    · have hf : ¬ Fit n z := fun h => ((fit_bnd n z).1 h) (Or.inl hn0)
      have he : S.num n z = S.broke 2 := by unfold Bs.num; rw [if_neg (by simp [h0]), if_neg hf]
      rw [he]
      have hc2 := (HST.out.set1 2).c1
      go_enter Try.func15, Try.ntmps15
      go_wp2
      go_end0
      exact ⟨a, c, rfl, ⟨⟨S.l, HST.out.set1 2, HR.out.kept (fun g e hk => heap_setCell_other _ _ _ _ (fun e2 => by
        rcases HR.out with ⟨r, _⟩ | ⟨g', e', _, hbl, _⟩
        · rw [r] at e; cases e
        · rw [e'] at e; cases e; exact HST.out.ne (by decide) hbl e2)), fun _ => rfl⟩, HW.out.hq⟩, ⟨q, Or.inl rfl, But2.set _⟩, fun g e => Or.inl e⟩
    · by_cases hnb : n ≥ bnd z
      · have hf : ¬ Fit n z := fun h => ((fit_bnd n z).1 h) (Or.inr hnb)
        have he : S.num n z = S.broke 2 := by unfold Bs.num; rw [if_neg (by simp [h0]), if_neg hf]
        rw [he]
        have hc2 := (HST.out.set1 2).c1
        go_enter Try.func15, Try.ntmps15
        go_wp2_with fail
        refine (bound_any z _).mono ?_
        rintro x w' ⟨rfl, rfl⟩
        go_wp2
        go_end0
        exact ⟨a, c, rfl, ⟨⟨S.l, HST.out.set1 2, HR.out.kept (fun g e hk => heap_setCell_other _ _ _ _ (fun e2 => by
          rcases HR.out with ⟨r, _⟩ | ⟨g', e', _, hbl, _⟩
          · rw [r] at e; cases e
          · rw [e'] at e; cases e; exact HST.out.ne (by decide) hbl e2)), fun _ => rfl⟩, HW.out.hq⟩, ⟨q, Or.inl rfl, But2.set _⟩, fun g e => Or.inl e⟩
      · have hf : Fit n z := (fit_bnd n z).2 (fun h => h.elim hn0 hnb)
        have he : S.num n z = S.add z.toNat (dg n.toNat z.toNat) := by unfold Bs.num; rw [if_neg (by simp [h0]), if_pos hf]
        rw [he]
        obtain ⟨hz1, hz4, _, _⟩ := hf
        have hnn : n < 4294967296 := by omega
        obtain ⟨n, rfl⟩ : ∃ k : Nat, n = k := ⟨n.toNat, by omega⟩
        obtain ⟨z, rfl⟩ : ∃ k : Nat, z = k := ⟨z.toNat, by omega⟩
        rw [Int.toNat_natCast, Int.toNat_natCast]
        have hn8 : n < 4294967296 := by omega
        have hz8 : z ≤ 4 := by omega
        clear he hz1 hz4 hnn
        go_enter Try.func15, Try.ntmps15
        go_wp2_with fail
        refine (bound_any z _).mono ?_
        rintro x w' ⟨rfl, rfl⟩
        go_wp2_with fail
        clear c0 c1 hf1 hnb hbl
        go_loopw [1, 6, 7] (fun nv lv iv wr => ∃ (k : Nat) (a6 : Option Addr) (c6 : Nat), k ≤ z ∧ iv = .int .i64 k ∧ nv = .int .i64 (n / 256 ^ k : Nat) ∧ lv = .slice a6 k c6 ∧ Rq wr w'.heap.size a6 k c6 (dg n k) ∧ Below w'.heap.size w' wr) (fun _ _ i _ => z - (intOf i).toNat)
        case atStart => exact ⟨0, none, 0, by omega, rfl, by simp, rfl, Or.inl ⟨rfl, rfl, rfl⟩, Below.refl _ _⟩
        case round =>
          rename_i wr
          obtain ⟨k, a6, c6, hk, rfl, rfl, rfl, hr6, hB6⟩ := hrel
          have HR6 := Lib.hid hr6; have HB6 := Lib.hid hB6
          have hsz6 := hB6.size
          clear hr6 hB6
          by_cases hlt : k < z
          · have i1 : (k : Int) < (z : Int) := by omega
            obtain ⟨N, hN⟩ : ∃ N : Nat, N = n / 256 ^ k := ⟨_, rfl⟩
            have hN8 : N < 4294967296 := by rw [hN]; exact Nat.lt_of_le_of_lt (Nat.div_le_self _ _) hn8
            rw [← hN]
            have HN := Lib.hid hN; clear hN
            obtain ⟨M, hM⟩ : ∃ M : Nat, M = N % 256 := ⟨_, rfl⟩
            have hMi : (N : Int) % 256 = (M : Nat) := by omega
            have hM256 : M < 256 := by omega
            have HOWN := Lib.hid (show Rq (wr.alloc (.cells #[.int .u8 (M : Nat)] 5)) w'.heap.size (some ⟨wr.heap.size, 0, none⟩) 1 1 (fun _ => M) from Or.inr ⟨_, rfl, hsz6, Bl.alloc wr [.int .u8 (M : Nat)] (fun _ => M) (fun i hi => by match i, hi with | 0, _ => rfl), Nat.le_refl _, by unfold maxLen; omega⟩)
            have HSA := Lib.hid ((HR6.out.same ((Below.refl wr.heap.size wr).alloc (Nat.le_refl _) (.cells #[.int .u8 (M : Nat)] 5))).sl' (dg_by _ _) (dg_up _ _))
            have HMM := Lib.hid hM; clear hM
            go_wp2_with (at_builtin; refine wpList_append_sl (o := ⟨some 41, _, _, _, _, _⟩) rfl (.tmp 39) (.tmp 40) rfl w'.heap.size _ 1 1 (fun _ => M) rfl HOWN.out a6 k c6 (dg n k) rfl HSA.out (by omega) (by simp; omega) (fun a7 c7 w7 hr7 ho7 hg7 => ?_))
            go_roundw
            case rel => exact ⟨k + 1, a7, c7, by omega, by go_num, by rw [← div_down, ← HN.out]; rfl, by rw [Nat.add_comm], by
                have := hr7.out
                rw [Nat.add_comm] at this
                refine this.congr (fun i hi => ?_)
                rw [dg_succ, ← HN.out, ← HMM.out]
                unfold cpy
                by_cases d : i = 0
                · rw [if_neg (by omega), if_pos d]
                · rw [if_pos (by omega), if_neg d], by
                obtain ⟨row, hg, hrow⟩ := hg7.out
                refine (HB6.out.alloc hsz6 _).trans ⟨hg.os, hg.tape, hg.output, hg.size, fun j hj => hg.block j (by simp; omega) (fun e => ?_)⟩
                have := hrow j e.symm
                simp only [Option.some.injEq, Addr.mk.injEq, and_true] at this
                omega⟩
            case measure => simp [intOf]; omega
          · obtain rfl : k = z := by omega
            have i1 : ¬ (k : Int) < (k : Int) := by omega
            have HST6 := Lib.hid (HST.out.same HB6.out)
            have HRR := Lib.hid (HR.out.same HB6.out)
            have HSA := Lib.hid (HR6.out.sl' (dg_by _ _) (dg_up _ _))
            have c0' := HST6.out.c0
            have HAP := Lib.hid (fun (a2 : Option Addr) (c2 : Nat) (w2 : World) (k1 : Rq w2 B a2 (S.l + k) c2 (cpy S.l k (dg n k) S.f)) k2 k3 => Xs.appended (a2 := a2) (c2 := c2) (w2 := w2) (m := k) (g := dg n k) HW.out.hq HST6.out HRR.out (fun _ => rfl) h0 k1 k2 k3)
            go_wp2_with (at_builtin; refine wpList_append_sl (o := ⟨some 50, _, _, _, _, _⟩) rfl (.tmp 48) (.tmp 49) rfl B a S.l c S.f rfl HRR.out a6 k c6 (dg n k) rfl HSA.out (by omega) (by omega) (fun a2 c2 w2 hr2 ho2 hg2 => ?_); obtain ⟨⟨_, _, hx2, hc2, _⟩, hfin⟩ := HAP.out a2 c2 w2 hr2.out ho2.out hg2.out; have HX2 := Lib.hid hx2; have HFIN := Lib.hid hfin; have hfr := hx2.free 0; clear hx2 hfin)
            go_end0
            obtain ⟨a3, c3, _, h3, ⟨b, hb, hbut⟩, hold⟩ := HFIN.out
            exact ⟨a3, c3, rfl, h3, ⟨b, hb, (But2.of HB6.out).trans hbut⟩, fun g e => (hold g e).imp id (fun h => Nat.le_trans HB6.out.size h)⟩
  · have he : S.num n z = S := by unfold Bs.num; rw [if_pos h0]
    rw [he]
    have h1 : (S.e == 0) = false := by simpa using h0
    go_enter Try.func15, Try.ntmps15
    go_wp2
    go_end0
    exact ⟨a, c, rfl, HW.out, ⟨q, Or.inl rfl, But2.refl _ _ _⟩, fun g e => Or.inl e⟩
end Go.Proofs.Ytdjigbjheicfcaa

namespace Go.Proofs.Ytdjigbjheicfcaa
open Go.RowKit Go.Shelf

theorem Rq.nw8 {W : World} {B n cap : Nat} {a : Option Addr} {h : Nat → Nat} (r : Rq W B a n cap h) (hb : Pf.By h) (hu : Pf.Up h n) : Nw W B a n cap h := by
  refine ⟨r.sl' hb hu, ?_⟩
  rcases r with ⟨rfl, rfl, rfl⟩ | ⟨g, rfl, hg, hbl, _, _⟩
  · exact Or.inl ⟨rfl, rfl⟩
  · exact hbl.ow hg
theorem cpy_none (m : Nat) (f : Nat → Nat) (F : Nat → Nat) (i : Nat) (hi : i < 0 + m) : cpy 0 m f F i = f i := by
  unfold cpy; rw [if_pos (by omega), Nat.sub_zero]
set_option maxHeartbeats 1000000 in
theorem xbytes_any (B q : Nat) (a : Option Addr) (c : Nat) (S : Bs) (hO : S.Ok) (hl : S.l ≤ 900000000) (w : World) (hW : Xw w B q a c S) :
    Calls Try.prog 21 #[.pointer (some ⟨q, 0, none⟩)] w (Tells w S.m S.g S.e) := by
  have HW := Lib.hid hW
  obtain ⟨l, hst, hR, hl0⟩ := hW.blk
  have c0 := hst.c0
  have c1 := hst.c1
  have HST := Lib.hid hst; have HR := Lib.hid hR
  clear hW hst hR
  by_cases h0 : S.e = 0
  · obtain rfl := hl0 h0
    have hm : S.m = S.l := if_pos h0
    have hg : S.g = S.f := funext fun i => if_pos h0
    rw [hm, hg]
    have h1 : (S.e != 0) = false := by simpa using h0
    have HOWN := Lib.hid (show Rq (w.alloc (.cells #[] 5)) w.heap.size (some ⟨w.heap.size, 0, none⟩) 0 0 (fun _ => 0) from Or.inr ⟨_, rfl, Nat.le_refl _, Bl.alloc w [] (fun _ => 0) (fun i hi => absurd hi (Nat.not_lt_zero i)), Nat.le_refl _, by unfold maxLen; omega⟩)
    have HB1 := Lib.hid ((Below.refl w.heap.size w).alloc (Nat.le_refl _) (.cells #[] 5))
    have HSA := Lib.hid ((HR.out.same HB1.out).sl' hO.by_ hO.up)
    have c0' := (HST.out.same HB1.out).c0
    go_enter Try.func21, Try.ntmps21
    go_wp2_with (at_builtin; refine wpList_append_sl (o := ⟨some 18, _, _, _, _, _⟩) rfl (.tmp 13) (.tmp 17) rfl w.heap.size _ 0 0 (fun _ => 0) rfl HOWN.out a S.l c S.f rfl HSA.out (by omega) (by simp) (fun a7 c7 w7 hr7 ho7 hg7 => ?_))
    go_ret2
    have hr := hr7.out
    rw [Nat.zero_add] at hr
    refine ⟨a7, c7, rfl, (hr.congr (fun i hi => cpy_none _ _ _ i (by omega))).nw8 hO.by_ hO.up, ?_⟩
    obtain ⟨row, hg, hrow⟩ := hg7.out
    refine HB1.out.trans ⟨hg.os, hg.tape, hg.output, hg.size, fun j hj => hg.block j (by simp; omega) (fun e => ?_)⟩
    have := hrow j e.symm
    simp only [Option.some.injEq, Addr.mk.injEq, and_true] at this
    omega
  · have hm : S.m = 0 := if_neg h0
    have hg : S.g = fun _ => 0 := funext fun i => if_neg h0
    rw [hm, hg]
    have h1 : (S.e != 0) = true := by simpa using h0
    go_enter Try.func21, Try.ntmps21
    go_wp2_with fail
    go_quiet (fail)
    go_wp2
    go_ret2
    exact ⟨none, 0, rfl, Nw.nil _ _ (fun _ => rfl), below_dr (Below.refl _ _) _⟩

theorem over_none (w : World) :
    Calls Try.prog 19 #[.slice none 0 0] w fun e w' => e = .returned (.tuple #[]) ∧ w' = w := by
  go_enter Try.func19, Try.ntmps19
  go_wp2_with fail
  go_loopw [3] (fun vi wr => vi = .int .i64 0 ∧ wr = w) (fun i _ => 0)
  case atStart => exact ⟨rfl, rfl⟩
  case round =>
    obtain ⟨rfl, rfl⟩ := hrel
    go_wp2
    go_end0
    exact ⟨rfl, rfl⟩
/-- bytes that were told, written over. -/
theorem overN_any (B : Nat) (a : Option Addr) (m c : Nat) (f : Nat → Nat) (hm : m ≤ 1000000000) (w : World) (h : Nw w B a m c f) :
    Calls Try.prog 19 #[.slice a m c] w fun e w' => e = .returned (.tuple #[]) ∧ ∃ row, w.grownBy w' row ∧ ∀ k, row = some k → B ≤ k ∧ a = some ⟨k, 0, none⟩ := by
  have hc := h.sl.capOk; have hx := h.sl.maxOk
  rcases h.ow with ⟨rfl, rfl⟩ | ⟨g, vs, rfl, hg, hb, hs⟩
  · obtain rfl : m = 0 := by omega
    exact (over_none w).mono fun e w' ⟨h1, h2⟩ => ⟨h1, none, by rw [h2]; exact grownBelow (Below.refl _ _) none, fun k e => by cases e⟩
  · exact (over_any g m c vs hm hc hx w hb hs).mono fun e w' ⟨h1, h2⟩ => ⟨h1, some g, h2, fun k e => by cases e; exact ⟨hg, rfl⟩⟩

/-- calls, as they read. -/
structure Dos (w : World) (a : Option Addr) (m : Nat) (wh nn zz : Nat → Int) (ia : Nat → Option Addr) (il ic : Nat → Nat) (fb : Nat → Nat → Nat) : Prop where
  cell : ∀ i, i < m → ∃ b o, a = some ⟨b, o, none⟩ ∧ w.cell? ⟨b, o + i * 4, none⟩ = some (.int .i64 (wh i)) ∧ w.cell? ⟨b, o + i * 4 + 1, none⟩ = some (.int .i64 (nn i)) ∧ w.cell? ⟨b, o + i * 4 + 2, none⟩ = some (.int .i64 (zz i)) ∧ w.cell? ⟨b, o + i * 4 + 3, none⟩ = some (.slice (ia i) (il i) (ic i))
  ind : ∀ i, i < m → Sl w (ia i) (il i) (ic i) (fb i)
  ok : ∀ i, i < m → il i ≤ 140737488355328
section
variable {w w' : World} {a : Option Addr} {m : Nat} {wh nn zz : Nat → Int} {ia : Nat → Option Addr} {il ic : Nat → Nat} {fb : Nat → Nat → Nat}
theorem Dos.same (s : Dos w a m wh nn zz ia il ic fb) (hB : Below w.heap.size w w') : Dos w' a m wh nn zz ia il ic fb :=
  ⟨fun i hi => by
    obtain ⟨b, o, e, h1, h2, h3, h4⟩ := s.cell i hi
    exact ⟨b, o, e, by rw [hB.cell (World.block_lt_of_cell? _ _ h1)]; exact h1, by rw [hB.cell (World.block_lt_of_cell? _ _ h2)]; exact h2, by rw [hB.cell (World.block_lt_of_cell? _ _ h3)]; exact h3, by rw [hB.cell (World.block_lt_of_cell? _ _ h4)]; exact h4⟩, fun i hi => (s.ind i hi).same hB, s.ok⟩
end
def SizeSays (m : Nat) (il : Nat → Nat) (w : World) (e : Ending) (w' : World) : Prop := ∃ M : Nat, e = .returned (.int .i64 (M : Nat)) ∧ (M ≤ 2000 → m ≤ 2000 ∧ ∀ i, i < m → il i ≤ 2000) ∧ Below w.heap.size w w'
set_option maxHeartbeats 2000000 in
set_option maxRecDepth 100000 in
theorem size8_any (a : Option Addr) (m cap : Nat) (wh nn zz : Nat → Int) (ia : Nat → Option Addr) (il ic : Nat → Nat) (fb : Nat → Nat → Nat) (hm : m ≤ 1000000000000000) (w : World) (hA : Dos w a m wh nn zz ia il ic fb) :
    Calls Try.prog 8 #[.slice a m cap] w (SizeSays m il w) := by
  have HA := Lib.hid hA; clear hA
  go_enter Try.func8, Try.ntmps8
  go_wp2_with fail
  go_loopw [3, 4] (fun vm i wr => ∃ k M : Nat, k ≤ m ∧ i = .int .i64 k ∧ vm = .int .i64 M ∧ m ≤ M ∧ M ≤ 2000000000000000 ∧ (∀ j, j < k → il j ≤ M) ∧ Below w.heap.size w wr) (fun _ i _ => m - (intOf i).toNat)
  case atStart => exact ⟨0, m, by omega, rfl, rfl, Nat.le_refl _, by omega, fun j hj => absurd hj (Nat.not_lt_zero j), Below.refl _ _⟩
  case round =>
    rename_i wr
    obtain ⟨k, M, hk, rfl, rfl, hmM, hM, hil, hB⟩ := hrel
    have HIL := Lib.hid hil; have HB := Lib.hid hB
    clear hil hB
    by_cases hgo : k < m ∧ M ≤ 2000
    · obtain ⟨hkm, hM3⟩ := hgo
      have i1 : (k : Int) < (m : Int) := by omega
      have i2 : (M : Int) ≤ 2000 := by omega
      obtain ⟨b, o, ea, c0, c1, c2, c3⟩ := (HA.out.same HB.out).cell k hkm
      have EA := Lib.hid (show a = some ⟨b, o, none⟩ from ea)
      have hok := HA.out.ok k hkm
      subst ea
      generalize hl : il k = li at c3 hok
      have HLI := Lib.hid hl
      clear hl
      have hw3 : IntKind.i64.wrap ((M : Int) + (li : Int)) = (M : Int) + (li : Int) := IntWalk.i64_in _ (by omega)
      go_wp2_with fail
      go_roundw
      case rel => exact ⟨k + 1, M + li, by omega, by go_num, by go_num, by omega, by omega, fun j hj => by
        by_cases e : j = k
        · rw [e, HLI.out]; omega
        · have := HIL.out j (by omega); omega, HB.out⟩
      case measure => simp [intOf]; omega
    · by_cases hkm : k < m
      · have i1 : (k : Int) < (m : Int) := by omega
        have i2 : ¬ (M : Int) ≤ 2000 := by omega
        clear hgo
        go_wp2
        go_ret
        exact ⟨M, rfl, fun h => absurd h (by omega), HB.out⟩
      · obtain rfl : k = m := by omega
        have i1 : ¬ (k : Int) < (k : Int) := by omega
        clear hgo
        go_wp2
        go_ret
        exact ⟨M, rfl, fun h => ⟨by omega, fun i hi => by have := HIL.out i hi; omega⟩, HB.out⟩
end Go.Proofs.Ytdjigbjheicfcaa

namespace Go.Proofs.Ytdjigbjheicfcaa
open Go.RowKit Go.Shelf

def Bs.cut (S : Bs) (n : Nat) : Bs := ⟨S.l - n, sub S.f n (S.l - n), S.e⟩
def Bs.take (S : Bs) (n : Int) : Bs := if S.e ≠ 0 then S else if n < 0 then S.broke 2 else if n > (S.l : Int) then S.broke 4 else S.cut n.toNat
def Bs.tm (S : Bs) (n : Int) : Nat := if S.e = 0 ∧ 0 ≤ n ∧ n ≤ (S.l : Int) then n.toNat else 0
def Bs.tf (S : Bs) (n : Int) (i : Nat) : Nat := if S.e = 0 ∧ 0 ≤ n ∧ n ≤ (S.l : Int) then sub S.f 0 n.toNat i else 0
def Bs.rnum (S : Bs) (z : Int) : Bs := if S.e ≠ 0 then S else if 1 ≤ z ∧ z ≤ 4 then S.take z else S.broke 2
def Bs.rval (S : Bs) (z : Int) : Nat := if S.e = 0 ∧ (1 ≤ z ∧ z ≤ 4) ∧ z ≤ (S.l : Int) then vn S.f z.toNat else 0
def Bs.fin (S : Bs) : Int := if S.e ≠ 0 then S.e else if 0 < S.l then 4 else 0
theorem Bs.Ok.cut {S : Bs} (h : S.Ok) (n : Nat) : (S.cut n).Ok := ⟨sub_by h.by_ _ _, sub_up _ _ _⟩
theorem Bs.Ok.take {S : Bs} (h : S.Ok) (n : Int) : (S.take n).Ok := by
  unfold Bs.take; (repeat' split)
  · exact h
  · exact h.broke 2
  · exact h.broke 4
  · exact h.cut _
theorem Bs.Ok.rnum {S : Bs} (h : S.Ok) (z : Int) : (S.rnum z).Ok := by
  unfold Bs.rnum; (repeat' split)
  · exact h
  · exact h.take z
  · exact h.broke 2
theorem Bs.take_len (S : Bs) (n : Int) : (S.take n).l ≤ S.l := by
  unfold Bs.take; (repeat' split)
  · exact Nat.le_refl _
  · exact Nat.le_refl _
  · exact Nat.le_refl _
  · exact Nat.sub_le _ _
theorem Bs.rnum_len (S : Bs) (z : Int) : (S.rnum z).l ≤ S.l := by
  unfold Bs.rnum; (repeat' split)
  · exact Nat.le_refl _
  · exact Bs.take_len S z
  · exact Nat.le_refl _
theorem Bs.tm_le (S : Bs) (n : Int) : S.tm n ≤ S.l := by unfold Bs.tm; split <;> omega
theorem Bs.Ok.tfb {S : Bs} (h : S.Ok) (n : Int) : Pf.By (S.tf n) := fun i => by
  unfold Bs.tf; split
  · exact sub_by h.by_ _ _ i
  · omega
theorem Bs.tfu (S : Bs) (n : Int) : Pf.Up (S.tf n) (S.tm n) := fun i hi => by
  unfold Bs.tf; split
  · rename_i hc; unfold Bs.tm at hi; rw [if_pos hc] at hi; exact sub_up _ _ _ i hi
  · rfl

/-- the program's reader. -/
structure Rr (w : World) (B p s : Nat) (a : Option Addr) (c : Nat) (S : Bs) : Prop where
  box : Box w 66 p s
  stk : ∃ l, Stk w s a l c S.e ∧ (S.e = 0 → l = S.l ∧ Sl w a l c S.f)
  hp : B ≤ p
  hs : B ≤ s
  ha : ∀ ad, a = some ad → B ≤ ad.block ∧ ad.block < w.heap.size ∧ ad.block ≠ s
section
variable {w w' : World} {B p s c : Nat} {a : Option Addr} {S : Bs}
theorem Rr.lts (h : Rr w B p s a c S) : s < w.heap.size := by obtain ⟨l, h1, _⟩ := h.stk; exact h1.lt
theorem Sl.kept8 {l : Nat} {f : Nat → Nat} (h : Sl w a l c f) (hk : ∀ ad, a = some ad → w'.heap[ad.block]? = w.heap[ad.block]?) : Sl w' a l c f :=
  ⟨h.capOk, h.maxOk, h.bytes, h.up, h.nil, h.spot, fun ad e i hi => by
    have := h.cell ad e i hi
    have hk := hk ad e
    unfold World.cell? at this ⊢
    simp only at this ⊢
    rw [hk]; exact this⟩
theorem Rr.kept (h : Rr w B p s a c S) (hsz : w.heap.size ≤ w'.heap.size) (h1 : w'.heap[p]? = w.heap[p]?) (h2 : w'.heap[s]? = w.heap[s]?) (h3 : ∀ ad, a = some ad → w'.heap[ad.block]? = w.heap[ad.block]?) : Rr w' B p s a c S := by
  obtain ⟨l, k1, k2⟩ := h.stk
  exact ⟨h.box.kept h1, ⟨l, k1.kept h2, fun e => ⟨(k2 e).1, (k2 e).2.kept8 h3⟩⟩, h.hp, h.hs, fun ad e => ⟨(h.ha ad e).1, Nat.lt_of_lt_of_le (h.ha ad e).2.1 hsz, (h.ha ad e).2.2⟩⟩
theorem Rr.same (h : Rr w B p s a c S) (hB : Below w.heap.size w w') : Rr w' B p s a c S :=
  h.kept hB.size (hB.block p h.box.lt) (hB.block s h.lts) fun ad e => hB.block _ (h.ha ad e).2.1
end

theorem addr_add_block (ad : Addr) (n : Nat) : (ad.add n).block = ad.block := by
  unfold Addr.add; split <;> rfl
set_option maxHeartbeats 1000000 in
theorem spass_any (s : Nat) (a : Option Addr) (l c n : Nat) (f : Nat → Nat) (e : Int) (hn : n ≤ l) (w : World) (hs : Stk w s a l c e) (hS : Sl w a l c f) (hne : ∀ ad, a = some ad → ad.block ≠ s) :
    Calls Try.prog 53 #[.pointer (some ⟨s, 0, none⟩), .int .i64 (n : Nat)] w fun x w' => x = .returned (.tuple #[]) ∧ (∃ a' c', Stk w' s a' (l - n) c' e ∧ Sl w' a' (l - n) c' (sub f n (l - n)) ∧ ∀ ad, a' = some ad → ∃ ad', a = some ad' ∧ ad.block = ad'.block) ∧ But2 s s w w' := by
  have HST := Lib.hid hs; have HSS := Lib.hid hS; have HNE := Lib.hid hne
  have c0 := hs.c0
  have hf := hs.free 0
  have hcm := hS.capOk
  have hmx : c ≤ 9223372036854775807 := by have := hS.maxOk; unfold maxLen at this; omega
  clear hs hS hne
  go_enter Try.func53, Try.ntmps53
  go_wp2
  · obtain rfl : l = n := by omega
    go_end0
    refine ⟨rfl, ⟨a, 0, HST.out.set0 a (l - l) 0, ?_, fun ad e => ⟨ad, e, rfl⟩⟩, But2.set _⟩
    rw [Nat.sub_self, show sub f l 0 = fun _ => 0 from funext fun i => if_neg (Nat.not_lt_zero i)]
    exact Sl.none_ _ a 0 (Nat.zero_le _) (fun _ => rfl)
  · go_end0
    refine ⟨rfl, ⟨_, c - n, HST.out.set0 _ (l - n) (c - n), ?_, fun ad e => ?_⟩, But2.set _⟩
    · refine Sl.kept8 (w := w) ?_ (fun ad e => heap_setCell_other _ _ _ _ (fun k => ?_))
      · by_cases h0 : l - n = 0
        · rw [h0, show sub f n 0 = fun _ => 0 from funext fun i => if_neg (Nat.not_lt_zero i)]
          refine Sl.none_ _ _ _ (by have := HSS.out.maxOk; omega) (fun e => ?_)
          cases a with
          | none => have := (HSS.out.nil rfl).2; omega
          | some ad => cases e
        · cases a with
          | none => have := (HSS.out.nil rfl).1; omega
          | some ad =>
            have hsp := HSS.out.spot ad rfl (by omega)
            obtain ⟨b, o, sp⟩ := ad
            simp only at hsp
            subst hsp
            have := HSS.out.sub (lo := n) (m := l - n) (by omega)
            show Sl w (some ((⟨b, o, none⟩ : Addr).add n)) (l - n) (c - n) _
            rw [Addr.add_lit]; exact this
      · cases a with
        | none => cases e
        | some ad' =>
          simp only [Option.map, Option.some.injEq] at e
          refine HNE.out ad' rfl ?_
          have := addr_add_block ad' n
          rw [e] at this; rw [← this]; exact k
    · cases a with
      | none => cases e
      | some ad' =>
        simp only [Option.map, Option.some.injEq] at e
        exact ⟨ad', rfl, by rw [← e]; exact addr_add_block ad' n⟩

theorem rstate_any (p s : Nat) (a : Option Addr) (l c : Nat) (e : Int) (w : World) (h : Stk w s a l c e) (hb : Box w 66 p s) :
    Calls Try.prog 45 #[.pointer (some ⟨p, 0, none⟩)] w fun x w' => x = .returned (.int .i64 e) ∧ w' = w := by
  have H := Lib.hid h
  have c0 := hb.c0
  clear h hb
  go_enter Try.func45, Try.ntmps45
  go_wp2_with fail
  refine (sstate_any s a l c e _ H.out).mono ?_
  rintro x w' ⟨rfl, rfl⟩
  go_wp2
  go_ret
  exact ⟨rfl, rfl⟩
set_option maxHeartbeats 1000000 in
theorem rover_any (a : Option Addr) (n c : Nat) (f : Nat → Nat) (hn : n ≤ 900000000) (w : World) (hS : Sl w a n c f) :
    Calls Try.prog 23 #[.slice a n c] w fun x w' => ∃ p s a' c', x = .returned (.pointer (some ⟨p, 0, none⟩)) ∧ Rr w' w.heap.size p s a' c' ⟨n, f, 0⟩ ∧ Below w.heap.size w w' := by
  have HS := Lib.hid hS; clear hS
  obtain ⟨w1, hw1⟩ : ∃ w1, w1 = w.alloc (.cells #[.slice none 0 0, .int .i64 0] 57) := ⟨_, rfl⟩
  obtain ⟨w2, hw2⟩ : ∃ w2, w2 = w1.alloc (.cells #[.pointer (some ⟨w.heap.size, 0, none⟩)] 66) := ⟨_, rfl⟩
  have hs1 : w1.heap.size = w.heap.size + 1 := by rw [hw1, World.size_alloc]
  have h1 : Stk w1 w.heap.size none 0 0 0 := by rw [hw1]; exact heap_alloc_new _ _
  have hB1 : Below w.heap.size w w1 := by rw [hw1]; exact (Below.refl w.heap.size w).alloc (Nat.le_refl _) _
  have hB2 : Below w1.heap.size w1 w2 := by rw [hw2]; exact (Below.refl _ _).alloc (Nat.le_refl _) _
  have h2 : Box w2 66 (w.heap.size + 1) w.heap.size := by rw [← hs1, hw2]; exact heap_alloc_new _ _
  have HST := Lib.hid (h1.same hB2); have HBX := Lib.hid h2
  have HB12 := Lib.hid (hB1.trans (hB2.mono hB1.size))
  have HS2 := Lib.hid (HS.out.same HB12.out)
  have c0 := h2.c0
  have hsz := HB12.out.size
  clear h1 h2 hB1 hB2
  go_enter Try.func23, Try.ntmps23
  rw [hw2, hw1] at c0
  go_wp2_with fail
  rw [← hw1, ← hw2]
  refine (sadd_any w.heap.size w.heap.size none 0 0 (fun _ => 0) 0 a n c f (by omega) _ hsz HST.out (Or.inl ⟨rfl, rfl, rfl⟩) HS2.out).mono ?_
  rintro x w3 ⟨a3, c3, rfl, hs3, hR3, ⟨b, hb, hbut⟩, hold⟩
  have hbs : b = w.heap.size := by
    rcases hb with rfl | hb
    · rfl
    · cases hb
  subst hbs
  rw [Nat.zero_add] at hs3 hR3
  have hR4 := hR3.congr (h' := f) (fun i hi => cpy_none _ _ _ i (by omega))
  have hSl := hR4.sl' HS.out.bytes HS.out.up
  have HBX3 := Lib.hid (HBX.out.kept (hbut.block _ HBX.out.lt (by omega) (by omega)))
  have hc3 := HBX3.out.c0
  have HFIN := Lib.hid (show Rr w3 w.heap.size (w.heap.size + 1) w.heap.size a3 c3 ⟨n, f, 0⟩ from ⟨HBX3.out, ⟨n, hs3, fun _ => ⟨rfl, hSl⟩⟩, Nat.le_succ _, Nat.le_refl _, fun ad e => by
    rcases hR4 with ⟨r, _⟩ | ⟨g, r, hg, hbl, _⟩
    · rw [r] at e; cases e
    · rw [r] at e; cases e; exact ⟨hg, hbl.lt, hs3.ne hbl⟩⟩)
  have HB3 := Lib.hid (HB12.out.trans (hbut.below hsz (Nat.le_refl _) (Nat.le_refl _)))
  clear hs3 hR3 hR4 hSl hbut hold c0 hw1 hw2
  go_wp2
  go_ret
  exact ⟨_, _, _, _, rfl, HFIN.out, HB3.out⟩

/-- the reader after one of its calls. -/
def Red (w : World) (B p s : Nat) (a : Option Addr) (S : Bs) (w' : World) : Prop := (∃ a' c', Rr w' B p s a' c' S ∧ ∀ ad, a' = some ad → ∃ ad', a = some ad' ∧ ad.block = ad'.block) ∧ But2 s s w w'
theorem Rr.failed {w w' : World} {B p s c : Nat} {a : Option Addr} {S : Bs} (h : Rr w B p s a c S) (e : Int) (he : e ≠ 0) (hs2 : Stk w' s none 0 0 e) (hbut : But2 s s w w') : Red w B p s a (S.broke e) w' := by
  obtain ⟨l, hst, _⟩ := h.stk
  exact ⟨⟨none, 0, ⟨h.box.kept (hbut.block p h.box.lt (h.box.nes hst) (h.box.nes hst)), ⟨0, hs2, fun k => absurd k he⟩, h.hp, h.hs, fun ad e => by cases e⟩, fun ad e => by cases e⟩, hbut⟩
/-- the next bytes. -/
def Nexts (w : World) (B p s : Nat) (a : Option Addr) (m : Nat) (f : Nat → Nat) (S : Bs) (x : Ending) (w' : World) : Prop :=
  ∃ a2 c2, x = .returned (.slice a2 m c2) ∧ Nw w' w.heap.size a2 m c2 f ∧ Red w B p s a S w'
set_option maxHeartbeats 2000000 in
theorem next_any (B p s : Nat) (a : Option Addr) (c : Nat) (S : Bs) (n : Nat) (h0 : S.e = 0) (hO : S.Ok) (hl : S.l ≤ 900000000) (w : World) (hR : Rr w B p s a c S) :
    Calls Try.prog 48 #[.pointer (some ⟨p, 0, none⟩), .int .i64 (n : Nat)] w (Nexts w B p s a (S.tm n) (S.tf n) (S.take n)) := by
  have HR := Lib.hid hR
  obtain ⟨l, hst, hl0⟩ := hR.stk
  have c0 := hR.box.c0
  obtain ⟨rfl, hS⟩ := hl0 h0
  have HST := Lib.hid hst; have HS := Lib.hid hS
  clear hR hst hS hl0
  by_cases hn : n ≤ S.l
  · have e1 : S.take n = S.cut n := by unfold Bs.take; rw [if_neg (by simp [h0]), if_neg (by omega), if_neg (by omega), Int.toNat_natCast]
    have e2 : S.tm n = n := by unfold Bs.tm; rw [if_pos ⟨h0, by omega, by omega⟩, Int.toNat_natCast]
    have e3 : S.tf n = sub S.f 0 n := funext fun i => by unfold Bs.tf; rw [if_pos ⟨h0, by omega, by omega⟩, Int.toNat_natCast]
    rw [e1, e2, e3]
    clear e1 e2 e3
    have i1 : ¬ (S.l : Int) < (n : Int) := by omega
    go_enter Try.func48, Try.ntmps48
    go_wp2_with fail
    refine (smany_any s a S.l c _ _ HST.out).mono ?_
    rintro x w' ⟨rfl, rfl⟩
    go_wp2_with fail
    refine (sfirst_any s a S.l c n S.f _ hn (by omega) _ HST.out HS.out).mono ?_
    rintro x w2 ⟨rfl, hb2, hB2⟩
    have HB2 := Lib.hid hB2; have HBL := Lib.hid hb2
    have HR2 := Lib.hid (HR.out.same hB2)
    have HST2 := Lib.hid (HST.out.same hB2); have HS2 := Lib.hid (HS.out.same hB2)
    have c02 := HR2.out.box.c0
    clear hb2 hB2 c0
    go_wp2_with fail
    refine (spass_any s a S.l c n S.f _ hn _ HST2.out HS2.out (fun ad e => (HR2.out.ha ad e).2.2)).mono ?_
    rintro x w3 ⟨rfl, ⟨a3, c3, hs3, hS3, hbl⟩, hbut⟩
    have HFIN := Lib.hid (show Red w' B p s a (S.cut n) w3 from ⟨⟨a3, c3, ⟨HR2.out.box.kept (hbut.block p HR2.out.box.lt (HR2.out.box.nes HST2.out) (HR2.out.box.nes HST2.out)), ⟨_, hs3, fun _ => ⟨rfl, hS3⟩⟩, HR.out.hp, HR.out.hs, fun ad e => by
      obtain ⟨ad', e', hb⟩ := hbl ad e
      have := HR2.out.ha ad' e'
      rw [hb]; exact ⟨this.1, Nat.lt_of_lt_of_le this.2.1 hbut.size, this.2.2⟩⟩, hbl⟩, (But2.of HB2.out).trans hbut⟩)
    have HNW := Lib.hid (show Nw w3 w'.heap.size (some ⟨w'.heap.size, 0, none⟩) n n (sub S.f 0 n) from by
      have hb3 := HBL.out.kept (hbut.block _ HBL.out.lt (HST2.out.ne HBL.out) (HST2.out.ne HBL.out))
      exact ⟨hb3.sl (Nat.le_refl _) (by unfold maxLen; omega) (sub_by hO.by_ _ _) (sub_up _ _ _), hb3.ow (Nat.le_refl _)⟩)
    clear hs3 hS3 hbl hbut
    go_wp2
    go_ret
    exact ⟨_, _, rfl, HNW.out, HFIN.out⟩
  · have e1 : S.take n = S.broke 4 := by unfold Bs.take; rw [if_neg (by simp [h0]), if_neg (by omega), if_pos (by omega)]
    have e2 : S.tm n = 0 := by unfold Bs.tm; rw [if_neg (by omega)]
    have e3 : S.tf n = fun _ => 0 := funext fun i => by unfold Bs.tf; rw [if_neg (by omega)]
    rw [e1, e2, e3]
    clear e1 e2 e3
    have i1 : (S.l : Int) < (n : Int) := by omega
    go_enter Try.func48, Try.ntmps48
    go_wp2_with fail
    refine (smany_any s a S.l c _ _ HST.out).mono ?_
    rintro x w' ⟨rfl, rfl⟩
    go_wp2_with fail
    refine (sfail_any s a S.l c S.e 4 _ HST.out).mono ?_
    rintro x w2 ⟨rfl, hs2, hbut⟩
    go_wp2
    go_ret
    exact ⟨none, 0, rfl, Nw.nil _ _ (fun _ => rfl), HR.out.failed 4 (by decide) hs2 (hbut s)⟩
end Go.Proofs.Ytdjigbjheicfcaa

namespace Go.Proofs.Ytdjigbjheicfcaa
open Go.RowKit Go.Shelf

theorem Red.refl {w : World} {B p s c : Nat} {a : Option Addr} {S : Bs} (h : Rr w B p s a c S) : Red w B p s a S w := ⟨⟨a, c, h, fun ad e => ⟨ad, e, rfl⟩⟩, But2.refl _ _ _⟩
set_option maxHeartbeats 2000000 in
theorem rtake_any (B p s : Nat) (a : Option Addr) (c : Nat) (S : Bs) (n : Int) (hO : S.Ok) (hl : S.l ≤ 900000000) (w : World) (hR : Rr w B p s a c S) :
    Calls Try.prog 27 #[.pointer (some ⟨p, 0, none⟩), .int .i64 n] w (Nexts w B p s a (S.tm n) (S.tf n) (S.take n)) := by
  have HR := Lib.hid hR
  obtain ⟨l, hst, hl0⟩ := hR.stk
  have c0 := hR.box.c0
  have HST := Lib.hid hst
  by_cases h0 : S.e = 0
  · by_cases hn : n < 0
    · have e1 : S.take n = S.broke 2 := by unfold Bs.take; rw [if_neg (by simp [h0]), if_pos hn]
      have e2 : S.tm n = 0 := by unfold Bs.tm; rw [if_neg (by omega)]
      have e3 : S.tf n = fun _ => 0 := funext fun i => by unfold Bs.tf; rw [if_neg (by omega)]
      rw [e1, e2, e3]
      clear e1 e2 e3 hst hl0 hR
      go_enter Try.func27, Try.ntmps27
      go_wp2_with fail
      refine (rstate_any p s a _ c _ _ HST.out HR.out.box).mono ?_
      rintro x w' ⟨rfl, rfl⟩
      rw [h0]
      go_wp2_with fail
      refine (sfail_any s a l c S.e 2 _ HST.out).mono ?_
      rintro x w2 ⟨rfl, hs2, hbut⟩
      go_wp2
      go_ret
      exact ⟨none, 0, rfl, Nw.nil _ _ (fun _ => rfl), HR.out.failed 2 (by decide) hs2 (hbut s)⟩
    · obtain ⟨n, rfl⟩ : ∃ k : Nat, n = k := ⟨n.toNat, by omega⟩
      clear hst hl0 hR
      go_enter Try.func27, Try.ntmps27
      go_wp2_with fail
      refine (rstate_any p s a _ c _ _ HST.out HR.out.box).mono ?_
      rintro x w' ⟨rfl, rfl⟩
      rw [h0]
      go_wp2_with fail
      refine (next_any B p s a c S n h0 hO hl _ HR.out).mono ?_
      rintro x w2 ⟨a2, c2, rfl, hN, hRed⟩
      go_wp2
      go_ret
      exact ⟨a2, c2, rfl, hN, hRed⟩
  · have e1 : S.take n = S := by unfold Bs.take; rw [if_pos h0]
    have e2 : S.tm n = 0 := by unfold Bs.tm; rw [if_neg (fun h => h0 h.1)]
    have e3 : S.tf n = fun _ => 0 := funext fun i => by unfold Bs.tf; rw [if_neg (fun h => h0 h.1)]
    rw [e1, e2, e3]
    have h1 : (S.e == 0) = false := by simpa using h0
    have h2 : (S.e != 0) = true := by simpa using h0
    clear e1 e2 e3 hst hl0 hR
    go_enter Try.func27, Try.ntmps27
    go_wp2_with fail
    refine (rstate_any p s a _ c _ _ HST.out HR.out.box).mono ?_
    rintro x w' ⟨rfl, rfl⟩
    go_wp2
    go_ret
    exact ⟨none, 0, rfl, Nw.nil _ _ (fun _ => rfl), Red.refl HR.out⟩
theorem Red.drewN {w w' : World} {B p s : Nat} {a0 : Option Addr} {S : Bs} (h : Red w B p s a0 S w') (q : Nat) : Red w B p s a0 S (w'.drewN q) := by
  obtain ⟨⟨a, c, hr, hk⟩, hb⟩ := h
  exact ⟨⟨a, c, hr.same (below_dr (Below.refl _ _) q), hk⟩, hb.drewN q⟩
set_option maxHeartbeats 2000000 in
theorem rnum_any (B p s : Nat) (a : Option Addr) (c : Nat) (S : Bs) (z : Int) (hO : S.Ok) (hl : S.l ≤ 900000000) (w : World) (hR : Rr w B p s a c S) :
    Calls Try.prog 25 #[.pointer (some ⟨p, 0, none⟩), .int .i64 z] w fun x w' => x = .returned (.int .i64 (S.rval z : Nat)) ∧ Red w B p s a (S.rnum z) w' := by
  have HR := Lib.hid hR
  obtain ⟨l, hst, hl0⟩ := hR.stk
  have c0 := hR.box.c0
  have HST := Lib.hid hst
  by_cases h0 : S.e = 0
  · by_cases hz : 1 ≤ z ∧ z ≤ 4
    · obtain ⟨k, rfl⟩ : ∃ k : Nat, z = k := ⟨z.toNat, by omega⟩
      have e1 : S.rnum k = S.take k := by unfold Bs.rnum; rw [if_neg (by simp [h0]), if_pos hz]
      have e2 : S.rval k = vn (S.tf k) (S.tm k) := by
        unfold Bs.rval Bs.tm
        by_cases hk : k ≤ S.l
        · rw [if_pos ⟨h0, hz, by omega⟩, if_pos ⟨h0, by omega, by omega⟩, Int.toNat_natCast]
          exact vn_congr k fun i hi => by unfold Bs.tf sub; rw [if_pos ⟨h0, by omega, by omega⟩, Int.toNat_natCast, if_pos hi, Nat.zero_add]
        · rw [if_neg (by omega), if_neg (by omega)]; rfl
      rw [e1, e2]
      have htm : S.tm k ≤ 4 := by unfold Bs.tm; split <;> omega
      have hsz := decide_eq_true hz
      have HSZ := Lib.hid hsz
      clear e1 e2 hst hl0 hR hsz
      go_enter Try.func25, Try.ntmps25
      go_wp2_with fail
      refine (rstate_any p s a _ c _ _ HST.out HR.out.box).mono ?_
      rintro x w' ⟨rfl, rfl⟩
      rw [h0]
      go_wp2_with fail
      refine (sized_any k _).mono ?_
      rintro x w' ⟨rfl, rfl⟩
      rw [HSZ.out]
      go_wp2_with fail
      refine (next_any B p s a c S k h0 hO hl _ HR.out).mono ?_
      rintro x w2 ⟨a2, c2, rfl, hN, hRed⟩
      have HRED := Lib.hid hRed; have HNN := Lib.hid hN; clear hN hRed
      go_wp2_with fail
      refine (number_any a2 _ c2 _ htm _ HNN.out.sl).mono ?_
      rintro x w3 ⟨rfl, q, rfl⟩
      go_wp2
      go_ret
      exact ⟨rfl, HRED.out.drewN q⟩
    · have e1 : S.rnum z = S.broke 2 := by unfold Bs.rnum; rw [if_neg (by simp [h0]), if_neg hz]
      have e2 : S.rval z = 0 := by unfold Bs.rval; rw [if_neg (fun h => hz h.2.1)]
      rw [e1, e2]
      have hsz := decide_eq_false hz
      have HSZ := Lib.hid hsz
      clear e1 e2 hst hl0 hR hsz
      go_enter Try.func25, Try.ntmps25
      go_wp2_with fail
      refine (rstate_any p s a _ c _ _ HST.out HR.out.box).mono ?_
      rintro x w' ⟨rfl, rfl⟩
      rw [h0]
      go_wp2_with fail
      refine (sized_any z _).mono ?_
      rintro x w' ⟨rfl, rfl⟩
      rw [HSZ.out]
      go_wp2_with fail
      refine (sfail_any s a l c S.e 2 _ HST.out).mono ?_
      rintro x w2 ⟨rfl, hs2, hbut⟩
      go_wp2
      go_ret
      exact ⟨rfl, HR.out.failed 2 (by decide) hs2 (hbut s)⟩
  · have e1 : S.rnum z = S := by unfold Bs.rnum; rw [if_pos h0]
    have e2 : S.rval z = 0 := by unfold Bs.rval; rw [if_neg (fun h => h0 h.1)]
    rw [e1, e2]
    have h1 : (S.e == 0) = false := by simpa using h0
    have h2 : (S.e != 0) = true := by simpa using h0
    clear e1 e2 hst hl0 hR
    go_enter Try.func25, Try.ntmps25
    go_wp2_with fail
    refine (rstate_any p s a _ c _ _ HST.out HR.out.box).mono ?_
    rintro x w' ⟨rfl, rfl⟩
    go_wp2
    go_ret
    exact ⟨rfl, Red.refl HR.out⟩
theorem rleft_any (B p s : Nat) (a : Option Addr) (c : Nat) (S : Bs) (w : World) (hR : Rr w B p s a c S) :
    Calls Try.prog 29 #[.pointer (some ⟨p, 0, none⟩)] w fun x w' => x = .returned (.int .i64 (S.m : Nat)) ∧ w' = w := by
  have HR := Lib.hid hR
  obtain ⟨l, hst, hl0⟩ := hR.stk
  have c0 := hR.box.c0
  have HST := Lib.hid hst
  by_cases h0 : S.e = 0
  · have hm : S.m = l := by unfold Bs.m; rw [if_pos h0]; exact (hl0 h0).1.symm
    rw [hm]
    clear hm hst hl0 hR
    go_enter Try.func29, Try.ntmps29
    go_wp2_with fail
    refine (rstate_any p s a _ c _ _ HST.out HR.out.box).mono ?_
    rintro x w' ⟨rfl, rfl⟩
    rw [h0]
    go_wp2_with fail
    refine (smany_any s a l c _ _ HST.out).mono ?_
    rintro x w' ⟨rfl, rfl⟩
    go_wp2
    go_ret
    exact ⟨rfl, rfl⟩
  · have hm : S.m = 0 := if_neg h0
    rw [hm]
    have h1 : (S.e == 0) = false := by simpa using h0
    have h2 : (S.e != 0) = true := by simpa using h0
    clear hm hst hl0 hR
    go_enter Try.func29, Try.ntmps29
    go_wp2_with fail
    refine (rstate_any p s a _ c _ _ HST.out HR.out.box).mono ?_
    rintro x w' ⟨rfl, rfl⟩
    go_wp2
    go_ret
    exact ⟨rfl, rfl⟩
theorem rend_any (B p s : Nat) (a : Option Addr) (c : Nat) (S : Bs) (w : World) (hR : Rr w B p s a c S) :
    Calls Try.prog 31 #[.pointer (some ⟨p, 0, none⟩)] w fun x w' => x = .returned (.int .i64 S.fin) ∧ w' = w := by
  have HR := Lib.hid hR
  obtain ⟨l, hst, hl0⟩ := hR.stk
  have c0 := hR.box.c0
  have HST := Lib.hid hst
  by_cases h0 : S.e = 0
  · have hlS := (hl0 h0).1
    by_cases hl : 0 < l
    · have hm : S.fin = 4 := by unfold Bs.fin; rw [if_neg (by simp [h0]), if_pos (by omega)]
      rw [hm]
      clear hm hst hl0 hR hlS
      go_enter Try.func31, Try.ntmps31
      go_wp2_with fail
      refine (rstate_any p s a _ c _ _ HST.out HR.out.box).mono ?_
      rintro x w' ⟨rfl, rfl⟩
      rw [h0]
      go_wp2_with fail
      refine (smany_any s a l c _ _ HST.out).mono ?_
      rintro x w' ⟨rfl, rfl⟩
      go_wp2
      go_ret
      exact ⟨rfl, rfl⟩
    · have hm : S.fin = 0 := by unfold Bs.fin; rw [if_neg (by simp [h0]), if_neg (by omega)]
      rw [hm]
      clear hm hst hl0 hR hlS
      go_enter Try.func31, Try.ntmps31
      go_wp2_with fail
      refine (rstate_any p s a _ c _ _ HST.out HR.out.box).mono ?_
      rintro x w' ⟨rfl, rfl⟩
      rw [h0]
      go_wp2_with fail
      refine (smany_any s a l c _ _ HST.out).mono ?_
      rintro x w' ⟨rfl, rfl⟩
      go_wp2
      go_ret
      exact ⟨rfl, rfl⟩
  · have hm : S.fin = S.e := if_pos h0
    rw [hm]
    have h1 : (S.e == 0) = false := by simpa using h0
    have h2 : (S.e != 0) = true := by simpa using h0
    clear hm hst hl0 hR
    go_enter Try.func31, Try.ntmps31
    go_wp2_with fail
    refine (rstate_any p s a _ c _ _ HST.out HR.out.box).mono ?_
    rintro x w' ⟨rfl, rfl⟩
    go_wp2
    go_ret
    exact ⟨rfl, rfl⟩
end Go.Proofs.Ytdjigbjheicfcaa

namespace Go.Proofs.Ytdjigbjheicfcaa
open Go.RowKit Go.Shelf

theorem wrote_below {w w' : World} {B p s : Nat} {a : Option Addr} {S : Bs} {x : Ending} {c : Nat} {S0 : Bs} (hW : Wr w B p s a c S0) (hB : B ≤ w.heap.size) (h : Wrote w B p s a S x w') : Below B w w' := by
  obtain ⟨a', c', _, _, ⟨b, hb, hbut⟩, _⟩ := h
  refine hbut.below hB hW.hs ?_
  rcases hb with rfl | hb
  · exact hW.hs
  · exact (hW.lta b hb).1
theorem red_below {w w' : World} {B p s : Nat} {a : Option Addr} {S : Bs} {c : Nat} {S0 : Bs} {a0 : Option Addr} (hR : Rr w B p s a c S0) (hB : B ≤ w.heap.size) (h : Red w B p s a0 S w') : Below B w w' := h.2.below hB hR.hs hR.hs

def aw0 : Bs := ⟨0, fun _ => 0, 0⟩
def aw1 : Bs := aw0.num 258 2
theorem aw1_eq : aw1 = aw0.add 2 (dg 258 2) := by
  show (if (0 : Int) ≠ 0 then aw0 else if Fit 258 2 then aw0.add (2 : Int).toNat (dg (258 : Int).toNat (2 : Int).toNat) else aw0.broke 2) = _
  rw [if_neg (by decide), if_pos (show Fit 258 2 from ⟨by omega, by omega, by omega, by decide⟩)]; rfl
def aw2 : Bs := ⟨2, aw1.g, 0⟩
theorem aw1_e : aw1.e = 0 := by rw [aw1_eq]; rfl
theorem aw1_m : aw1.m = 2 := by unfold Bs.m; rw [if_pos aw1_e, aw1_eq]; rfl
theorem aw0_ok : aw0.Ok := ⟨fun _ => (by decide : 0 < 256), fun _ _ => rfl⟩
theorem aw1_ok : aw1.Ok := aw0_ok.num _ _
theorem aw1_g (i : Nat) : aw1.g i = cpy 0 2 (dg 258 2) (fun _ => 0) i := by unfold Bs.g; rw [if_pos aw1_e, aw1_eq]; rfl
theorem aw2_ok : aw2.Ok := ⟨aw1_ok.gby, by have := aw1_ok.gup; rw [aw1_m] at this; exact this⟩
theorem aw_g0 : aw1.g 0 = 1 := by rw [aw1_g]; decide
theorem aw_g1 : aw1.g 1 = 2 := by rw [aw1_g]; decide
theorem aw_r1 : aw2.rval 1 = 1 := by
  unfold Bs.rval; rw [if_pos ⟨rfl, by omega, by show (1 : Int) ≤ 2; omega⟩]
  show 256 * 0 + aw1.g 0 = 1
  rw [aw_g0]
def aw3 : Bs := aw2.rnum 1
theorem aw3_eq : aw3 = aw2.cut 1 := by
  show aw2.rnum 1 = _
  unfold Bs.rnum Bs.take; rw [if_neg (by decide), if_pos (by omega), if_neg (by decide), if_neg (by omega), if_neg (by show ¬ (1 : Int) > 2; omega)]; rfl
theorem aw3_ok : aw3.Ok := aw2_ok.rnum _
theorem aw_r2 : aw3.rval 1 = 2 := by
  rw [aw3_eq]
  unfold Bs.rval; rw [if_pos ⟨rfl, by omega, by show (1 : Int) ≤ 1; omega⟩]
  show 256 * 0 + sub aw1.g 1 1 0 = 2
  show 256 * 0 + (if 0 < 1 then aw1.g (1 + 0) else 0) = 2
  rw [if_pos (by omega), aw_g1]
def aw4 : Bs := aw3.rnum 1
theorem aw4_eq : aw4 = aw3.cut 1 := by
  show aw3.rnum 1 = _
  rw [aw3_eq]
  unfold Bs.rnum Bs.take; rw [if_neg (by decide), if_pos (by omega), if_neg (by decide), if_neg (by omega), if_neg (by show ¬ (1 : Int) > 1; omega)]; rfl
theorem aw4_m : aw4.m = 0 := by rw [aw4_eq, aw3_eq]; rfl
theorem aw4_fin : aw4.fin = 0 := by rw [aw4_eq, aw3_eq]; rfl

set_option maxHeartbeats 4000000 in
set_option maxRecDepth 100000 in
theorem awake8_any (w : World) :
    Calls Try.prog 9 #[] w fun e w' => e = .returned (.bool true) ∧ Below w.heap.size w w' := by
  go_enter Try.func9, Try.ntmps9
  go_wp2_with fail
  refine (wnew_any _).mono ?_
  rintro x w1 ⟨p, s, rfl, hW, hB1⟩
  have HW := Lib.hid hW; have HB1 := Lib.hid hB1; clear hW hB1
  go_wp2_with fail
  refine (wnum_any w.heap.size p s none 0 aw0 258 2 (by decide) _ HB1.out.size HW.out).mono ?_
  rintro x w2 h
  have hB2 := wrote_below HW.out HB1.out.size h
  obtain ⟨a2, c2, rfl, hW2, _, _⟩ := h
  have HW2 := Lib.hid (show Wr w2 w.heap.size p s a2 c2 aw1 from hW2); have HB2 := Lib.hid (HB1.out.trans hB2)
  clear hW2 hB2
  go_wp2_with fail
  refine (wbytes_any w.heap.size p s a2 c2 aw1 aw1_ok (by rw [aw1_eq]; decide) _ HW2.out).mono ?_
  rintro x w3 ⟨a3, c3, rfl, hN, hB3⟩
  have HB3 := Lib.hid (HB2.out.trans (hB3.mono HB2.out.size))
  rw [aw1_m] at hN ⊢
  rw [aw1_e]
  have HN := Lib.hid hN
  clear hB3 hN
  go_wp2_with fail
  refine (rover_any a3 2 c3 aw1.g (by omega) _ HN.out.sl).mono ?_
  rintro x w4 ⟨q, t, a4, c4, rfl, hR, hB4⟩
  have HB4 := Lib.hid (HB3.out.trans (hB4.mono HB3.out.size))
  have HR := Lib.hid (show Rr w4 w3.heap.size q t a4 c4 aw2 from hR)
  have HN4 := Lib.hid (HN.out.sl.same hB4)
  have hz4 := hB4.size
  clear hR hB4
  have hli : Sl (w4.alloc (.cells #[.int .u8 1, .int .u8 2] 5)) (some ⟨w4.heap.size, 0, none⟩) 2 2 aw1.g := by
    have := (Bl.alloc w4 [.int .u8 1, .int .u8 2] aw1.g (fun i hi => by
      match i, hi with
      | 0, _ => rw [aw_g0]; rfl
      | 1, _ => rw [aw_g1]; rfl)).sl (Nat.le_refl _) (by unfold maxLen; simp) aw1_ok.gby (by have := aw1_ok.gup; rw [aw1_m] at this; exact this)
    exact this
  have HLI := Lib.hid hli; clear hli
  have HBA := Lib.hid ((Below.refl w4.heap.size w4).alloc (Nat.le_refl _) (.cells #[.int .u8 1, .int .u8 2] 5))
  go_wp2_with fail
  refine (same_any a3 _ 2 c3 2 aw1.g (by omega) _ (HN4.out.same HBA.out) HLI.out).mono ?_
  rintro x w5 ⟨rfl, q5, hq5⟩
  have HB5 := Lib.hid (show Below w4.heap.size w4 w5 by rw [hq5]; exact below_dr HBA.out q5)
  clear hq5
  go_wp2_with fail
  refine (rnum_any w3.heap.size q t a4 c4 aw2 1 aw2_ok (by decide) _ (HR.out.same HB5.out)).mono ?_
  rintro x w6 ⟨rfl, hR6⟩
  have HB6 := Lib.hid (HB4.out.trans ((HB5.out.mono HB4.out.size).trans ((red_below (HR.out.same HB5.out) (Nat.le_trans hz4 HB5.out.size) hR6).mono HB3.out.size)))
  have hz6 := hR6.2.size
  obtain ⟨⟨a6, c6, hR6, _⟩, _⟩ := hR6
  have HR6 := Lib.hid (show Rr w6 w3.heap.size q t a6 c6 aw3 from hR6)
  have hz5 := HB5.out.size
  rw [aw_r1]
  clear hR6
  go_wp2_with fail
  refine (rnum_any w3.heap.size q t a6 c6 aw3 1 aw3_ok (by rw [aw3_eq]; decide) _ HR6.out).mono ?_
  rintro x w7 ⟨rfl, hR7⟩
  have HB7 := Lib.hid (HB6.out.trans ((red_below HR6.out (by omega) hR7).mono HB3.out.size))
  obtain ⟨⟨a7, c7, hR7, _⟩, _⟩ := hR7
  have HR7 := Lib.hid (show Rr w7 w3.heap.size q t a7 c7 aw4 from hR7)
  rw [aw_r2]
  clear hR7
  go_wp2_with fail
  refine (rleft_any w3.heap.size q t a7 c7 aw4 _ HR7.out).mono ?_
  rintro x w8 ⟨rfl, rfl⟩
  rw [aw4_m]
  go_wp2_with fail
  refine (rend_any w3.heap.size q t a7 c7 aw4 _ HR7.out).mono ?_
  rintro x w8 ⟨rfl, rfl⟩
  rw [aw4_fin]
  go_wp2
  go_ret
  exact ⟨rfl, HB7.out⟩
end Go.Proofs.Ytdjigbjheicfcaa

namespace Go.Proofs.Ytdjigbjheicfcaa
open Go.RowKit Go.Shelf

theorem Rq.mono8 {W : World} {B B' n cap : Nat} {a : Option Addr} {h : Nat → Nat} (r : Rq W B a n cap h) (hB : B' ≤ B) : Rq W B' a n cap h := by
  rcases r with r | ⟨g, e, h1, h2⟩
  · exact Or.inl r
  · exact Or.inr ⟨g, e, Nat.le_trans hB h1, h2⟩
theorem Wr.mono8 {w : World} {B B' p s c : Nat} {a : Option Addr} {S : Bs} (h : Wr w B p s a c S) (hB : B' ≤ B) : Wr w B' p s a c S :=
  ⟨h.box, h.stk.imp fun _ k => ⟨k.1, k.2.1.mono8 hB, k.2.2⟩, Nat.le_trans hB h.hp, Nat.le_trans hB h.hs⟩
theorem Xw.mono8 {w : World} {B B' q c : Nat} {a : Option Addr} {S : Bs} (h : Xw w B q a c S) (hB : B' ≤ B) : Xw w B' q a c S :=
  ⟨h.blk.imp fun _ k => ⟨k.1, k.2.1.mono8 hB, k.2.2⟩, Nat.le_trans hB h.hq⟩
/-- both writers, and what lies apart. -/
structure Two (w : World) (B p s q : Nat) (a : Option Addr) (c : Nat) (a' : Option Addr) (c' : Nat) (S T : Bs) : Prop where
  l : Wr w B p s a c S
  r : Xw w B q a' c' T
  sep : ∀ g, a = some ⟨g, 0, none⟩ → a' = some ⟨g, 0, none⟩ → False
section
variable {w w' : World} {B p s q c c' : Nat} {a a' : Option Addr} {S T S2 : Bs}
theorem Two.same (h : Two w B p s q a c a' c' S T) (hB : Below w.heap.size w w') : Two w' B p s q a c a' c' S T := ⟨h.l.same hB, h.r.same hB, h.sep⟩
theorem Xs.nes {t : TypeId} {l e : Nat} {a2 : Option Addr} {l2 c2 : Nat} {x y : Int} (h : Xs w t q a l c x) (ht : t ≠ 57) (hs : Stk w s a2 l2 c2 y) : q ≠ s := fun k => by
  unfold Stk at hs
  unfold Xs at h
  rw [← k, h] at hs
  simp at hs
  exact ht hs.2
theorem Wr.blk (h : Wr w B p s a c S) : ∀ g, a = some ⟨g, 0, none⟩ → ∃ vs, w.heap[g]? = some (.cells vs 5 (0, 0)) := fun g e => by
  obtain ⟨l, _, hR, _⟩ := h.stk
  rcases hR with ⟨r, _⟩ | ⟨g', e', _, ⟨vs, h1, _⟩, _⟩
  · rw [r] at e; cases e
  · rw [e'] at e; cases e; exact ⟨vs, h1⟩
theorem Xw.blk8 (h : Xw w B q a c S) : ∀ g, a = some ⟨g, 0, none⟩ → ∃ vs, w.heap[g]? = some (.cells vs 5 (0, 0)) := fun g e => by
  obtain ⟨l, _, hR, _⟩ := h.blk
  rcases hR with ⟨r, _⟩ | ⟨g', e', _, ⟨vs, h1, _⟩, _⟩
  · rw [r] at e; cases e
  · rw [e'] at e; cases e; exact ⟨vs, h1⟩
theorem Two.types (h : Two w B p s q a c a' c' S T) : (∃ vs, w.heap[p]? = some (.cells vs 59 (0, 0))) ∧ (∃ vs, w.heap[s]? = some (.cells vs 57 (0, 0))) ∧ (∃ vs, w.heap[q]? = some (.cells vs 61 (0, 0))) := by
  obtain ⟨l, h1, _⟩ := h.l.stk
  obtain ⟨l', h2, _⟩ := h.r.blk
  exact ⟨⟨_, h.l.box⟩, ⟨_, h1⟩, ⟨_, h2⟩⟩
theorem blocks_ne {w : World} {i j : Nat} {vs us : Array Value} {t u : TypeId} (h1 : w.heap[i]? = some (.cells vs t (0, 0))) (h2 : w.heap[j]? = some (.cells us u (0, 0))) (ht : t ≠ u) : i ≠ j := fun k => by
  rw [k, h2] at h1
  simp only [Option.some.injEq, Obj.cells.injEq] at h1
  exact ht h1.2.1.symm
/-- the program's writer has written. -/
theorem Two.left (h : Two w B p s q a c a' c' S T) {x : Ending} (hw : Wrote w B p s a S2 x w') : ∃ a2 c2, Two w' B p s q a2 c2 a' c' S2 T ∧ (∀ g vs, w.heap[g]? = some (.cells vs 5 (0, 0)) → a ≠ some ⟨g, 0, none⟩ → a2 ≠ some ⟨g, 0, none⟩ ∧ w'.heap[g]? = w.heap[g]?) := by
  obtain ⟨a2, c2, _, hW, ⟨b, hb, hbut⟩, hold⟩ := hw
  obtain ⟨_, ⟨v2, h2⟩, ⟨v3, h3⟩⟩ := h.types
  have hqs : q ≠ s := blocks_ne h3 h2 (by decide)
  have hqb : q ≠ b := by
    rcases hb with rfl | hb
    · exact hqs
    · obtain ⟨v4, h4⟩ := h.l.blk b hb; exact blocks_ne h3 h4 (by decide)
  refine ⟨a2, c2, ⟨hW, h.r.kept (hbut.block q h.r.lt hqs hqb) (fun g e => ?_), fun g e e' => ?_⟩, fun g vs hg hag => ⟨fun e => ?_, hbut.block g (Array.getElem?_eq_some_iff.1 hg).1 (blocks_ne hg h2 (by decide)) (by
    rcases hb with rfl | hb
    · exact blocks_ne hg h2 (by decide)
    · exact fun k => hag (by rw [k]; exact hb))⟩⟩
  · obtain ⟨v5, h5⟩ := h.r.blk8 g e
    refine hbut.block g (h.r.lta g e).2 (blocks_ne h5 h2 (by decide)) ?_
    rcases hb with rfl | hb
    · exact blocks_ne h5 h2 (by decide)
    · exact fun k => h.sep b hb (by rw [← k]; exact e)
  · rcases hold g e with h1 | h1
    · exact h.sep g h1 e'
    · have := (h.r.lta g e').2; omega
  · rcases hold g e with h1 | h1
    · exact hag h1
    · have := (Array.getElem?_eq_some_iff.1 hg).1; omega
/-- the document's writer has written. -/
theorem Two.right (h : Two w B p s q a c a' c' S T) {x : Ending} (hw : Xrote w B q a' S2 x w') : ∃ a2 c2, Two w' B p s q a c a2 c2 S S2 ∧ (∀ g vs, w.heap[g]? = some (.cells vs 5 (0, 0)) → a' ≠ some ⟨g, 0, none⟩ → a2 ≠ some ⟨g, 0, none⟩ ∧ w'.heap[g]? = w.heap[g]?) := by
  obtain ⟨a2, c2, _, hW, ⟨b, hb, hbut⟩, hold⟩ := hw
  obtain ⟨⟨v1, h1⟩, ⟨v2, h2⟩, ⟨v3, h3⟩⟩ := h.types
  have hne : ∀ (j : Nat) (vs : Array Value) (t : TypeId), w.heap[j]? = some (.cells vs t (0, 0)) → t ≠ 61 → t ≠ 5 → j ≠ q ∧ j ≠ b := fun j vs t hj t1 t2 => by
    refine ⟨blocks_ne hj h3 t1, ?_⟩
    rcases hb with rfl | hb
    · exact blocks_ne hj h3 t1
    · obtain ⟨v4, h4⟩ := h.r.blk8 b hb; exact blocks_ne hj h4 t2
  have n1 := hne p _ _ h1 (by decide) (by decide)
  have n2 := hne s _ _ h2 (by decide) (by decide)
  refine ⟨a2, c2, ⟨h.l.kept (hbut.block p h.l.box.lt n1.1 n1.2) (hbut.block s h.l.lts n2.1 n2.2) (fun g e => ?_), hW, fun g e e' => ?_⟩, fun g vs hg hag => ⟨fun e => ?_, hbut.block g (Array.getElem?_eq_some_iff.1 hg).1 (blocks_ne hg h3 (by decide)) (by
    rcases hb with rfl | hb
    · exact blocks_ne hg h3 (by decide)
    · exact fun k => hag (by rw [k]; exact hb))⟩⟩
  · obtain ⟨v5, h5⟩ := h.l.blk g e
    refine hbut.block g (h.l.lta g e).2 (blocks_ne h5 h3 (by decide)) ?_
    rcases hb with rfl | hb
    · exact blocks_ne h5 h3 (by decide)
    · exact fun k => h.sep g e (by rw [k]; exact hb)
  · rcases hold g e' with h1 | h1
    · exact h.sep g e h1
    · have := (h.l.lta g e).2; omega
  · rcases hold g e with h1 | h1
    · exact hag h1
    · have := (Array.getElem?_eq_some_iff.1 hg).1; omega
/-- a block of bytes that is none of theirs was written over. -/
theorem Two.grown (h : Two w B p s q a c a' c' S T) {row : Option Nat} (hg : w.grownBy w' row) (hr : ∀ g, row = some g → w.heap.size ≤ g ∨ ((∃ vs, w.heap[g]? = some (.cells vs 5 (0, 0))) ∧ a ≠ some ⟨g, 0, none⟩ ∧ a' ≠ some ⟨g, 0, none⟩)) : Two w' B p s q a c a' c' S T := by
  obtain ⟨⟨v1, h1⟩, ⟨v2, h2⟩, ⟨v3, h3⟩⟩ := h.types
  have hne : ∀ (j : Nat) (vs : Array Value) (t : TypeId), w.heap[j]? = some (.cells vs t (0, 0)) → t ≠ 5 → some j ≠ row := fun j vs t hj t2 e => by
    have hjl := (Array.getElem?_eq_some_iff.1 hj).1
    rcases hr j e.symm with k | ⟨⟨us, k⟩, _⟩
    · omega
    · exact blocks_ne hj k t2 rfl
  refine ⟨h.l.grown hg (hne p _ _ h1 (by decide)) (hne s _ _ h2 (by decide)) (fun g e e2 => ?_), h.r.kept (hg.block q h.r.lt (hne q _ _ h3 (by decide))) (fun g e => hg.block g (h.r.lta g e).2 (fun e2 => ?_)), h.sep⟩
  · have := (h.l.lta g e).2
    rcases hr g e2.symm with k | ⟨_, k, _⟩
    · omega
    · exact k e
  · have := (h.r.lta g e).2
    rcases hr g e2.symm with k | ⟨_, _, k⟩
    · omega
    · exact k e
end
end Go.Proofs.Ytdjigbjheicfcaa

namespace Go.Proofs.Ytdjigbjheicfcaa
open Go.RowKit Go.Shelf

/-- the document's reader. -/
structure Xr (w : World) (B q : Nat) (a : Option Addr) (c : Nat) (S : Bs) : Prop where
  blk : Xs w 67 q a S.l c S.e
  sl : Sl w a S.l c S.f
  hq : B ≤ q
  ha : ∀ ad, a = some ad → B ≤ ad.block ∧ ad.block < w.heap.size ∧ ad.block ≠ q
section
variable {w w' : World} {B q c : Nat} {a : Option Addr} {S : Bs}
theorem Xr.kept (h : Xr w B q a c S) (hsz : w.heap.size ≤ w'.heap.size) (h1 : w'.heap[q]? = w.heap[q]?) (h3 : ∀ ad, a = some ad → w'.heap[ad.block]? = w.heap[ad.block]?) : Xr w' B q a c S :=
  ⟨h.blk.kept h1, h.sl.kept8 h3, h.hq, fun ad e => ⟨(h.ha ad e).1, Nat.lt_of_lt_of_le (h.ha ad e).2.1 hsz, (h.ha ad e).2.2⟩⟩
theorem Xr.same (h : Xr w B q a c S) (hB : Below w.heap.size w w') : Xr w' B q a c S :=
  h.kept hB.size (hB.block q h.blk.lt) fun ad e => hB.block _ (h.ha ad e).2.1
theorem Xr.broke (h : Xr w B q a c S) (e : Int) : Xr (w.setCell ⟨q, 1, none⟩ (.int .i64 e)) B q a c (S.broke e) :=
  ⟨h.blk.set1 e, h.sl.kept8 (fun ad k => heap_setCell_other _ _ _ _ (h.ha ad k).2.2), h.hq, fun ad k => ⟨(h.ha ad k).1, by simpa using (h.ha ad k).2.1, (h.ha ad k).2.2⟩⟩
end
def Xed (w : World) (B q : Nat) (a : Option Addr) (S : Bs) (w' : World) : Prop := (∃ a' c', Xr w' B q a' c' S ∧ ∀ ad, a' = some ad → ∃ ad', a = some ad' ∧ ad.block = ad'.block) ∧ But2 q q w w'
theorem Xed.refl {w : World} {B q c : Nat} {a : Option Addr} {S : Bs} (h : Xr w B q a c S) : Xed w B q a S w := ⟨⟨a, c, h, fun ad e => ⟨ad, e, rfl⟩⟩, But2.refl _ _ _⟩
theorem Xed.drewN {w w' : World} {B q : Nat} {a0 : Option Addr} {S : Bs} (h : Xed w B q a0 S w') (n : Nat) : Xed w B q a0 S (w'.drewN n) := by
  obtain ⟨⟨a, c, hr, hk⟩, hb⟩ := h
  exact ⟨⟨a, c, hr.same (below_dr (Below.refl _ _) n), hk⟩, hb.drewN n⟩
theorem xed_below {w w' : World} {B q : Nat} {a : Option Addr} {S : Bs} {c : Nat} {S0 : Bs} {a0 : Option Addr} (hR : Xr w B q a c S0) (hB : B ≤ w.heap.size) (h : Xed w B q a0 S w') : Below B w w' := h.2.below hB hR.hq hR.hq

theorem own_lit0 (w : World) : Rq (w.alloc (.cells #[] 5)) w.heap.size (some ⟨w.heap.size, 0, none⟩) 0 0 (fun _ => 0) := Or.inr ⟨_, rfl, Nat.le_refl _, Bl.alloc w [] (fun _ => 0) (fun i hi => absurd hi (Nat.not_lt_zero i)), Nat.le_refl _, by unfold maxLen; omega⟩
/-- appended to an empty literal: new memory. -/
theorem lit0_below {w w2 : World} {row : Option Nat} (hg : (w.alloc (.cells #[] 5)).grownBy w2 row) (hrow : ∀ k, row = some k → (some ⟨w.heap.size, 0, none⟩ : Option Addr) = some ⟨k, 0, none⟩) : Below w.heap.size w w2 := by
  have hB1 := (Below.refl w.heap.size w).alloc (Nat.le_refl _) (.cells #[] 5)
  refine hB1.trans ⟨hg.os, hg.tape, hg.output, hg.size, fun j hj => hg.block j (by simp; omega) (fun e => ?_)⟩
  have := hrow j e.symm
  simp only [Option.some.injEq, Addr.mk.injEq, and_true] at this
  omega
theorem Rq.blocks {W : World} {B n cap : Nat} {a : Option Addr} {h : Nat → Nat} (r : Rq W B a n cap h) : ∀ ad, a = some ad → B ≤ ad.block ∧ ad.block < W.heap.size := fun ad e => by
  rcases r with ⟨r, _⟩ | ⟨g, r, hg, hbl, _⟩
  · rw [r] at e; cases e
  · rw [r] at e; cases e; exact ⟨hg, hbl.lt⟩
set_option maxHeartbeats 1000000 in
theorem xover_any (a : Option Addr) (n c : Nat) (f : Nat → Nat) (hn : n ≤ 900000000) (w : World) (hS : Sl w a n c f) :
    Calls Try.prog 24 #[.slice a n c] w fun x w' => ∃ q a' c', x = .returned (.pointer (some ⟨q, 0, none⟩)) ∧ Xr w' w.heap.size q a' c' ⟨n, f, 0⟩ ∧ Below w.heap.size w w' := by
  have HS := Lib.hid hS
  have HS1 := Lib.hid (hS.same ((Below.refl w.heap.size w).alloc (Nat.le_refl _) (.cells #[] 5)))
  have HOWN := Lib.hid (own_lit0 w)
  clear hS
  go_enter Try.func24, Try.ntmps24
  go_wp2_with (at_builtin; refine wpList_append_sl (o := ⟨some 5, _, _, _, _, _⟩) rfl (.tmp 3) (.tmp 4) rfl w.heap.size _ 0 0 (fun _ => 0) rfl HOWN.out a n c f rfl HS1.out (by omega) (by simp) (fun a2 c2 w2 hr2 ho2 hg2 => ?_))
  go_ret
  obtain ⟨row, hg, hrow⟩ := hg2.out
  have hB2 := lit0_below hg hrow
  have hr := hr2.out
  rw [Nat.zero_add] at hr
  have hr3 := hr.congr (h' := f) (fun i hi => cpy_none _ _ _ i (by omega))
  have hbl := hr3.blocks
  have hsl := hr3.sl' HS.out.bytes HS.out.up
  have hB3 := (Below.refl w2.heap.size w2).alloc (Nat.le_refl _) (.cells #[.slice a2 n c2, .int .i64 0] 67)
  refine ⟨w2.heap.size, a2, c2, rfl, ⟨heap_alloc_new _ _, hsl.same hB3, hB2.size, fun ad e => ⟨(hbl ad e).1, Nat.lt_of_lt_of_le (hbl ad e).2 hB3.size, Nat.ne_of_lt (hbl ad e).2⟩⟩, hB2.alloc hB2.size _⟩

/-- what is taken, and whether it was there. -/
def Xtook (w : World) (B q : Nat) (a : Option Addr) (S2 : Bs) (m : Nat) (f : Nat → Nat) (b : Bool) (x : Ending) (w' : World) : Prop :=
  ∃ a2 c2, x = .returned (.tuple #[.slice a2 m c2, .bool b]) ∧ Nw w' w.heap.size a2 m c2 f ∧ Xed w B q a S2 w'
theorem sl_past0 {w : World} {a : Option Addr} {l c : Nat} {f : Nat → Nat} (h : Sl w a l c f) {n : Nat} (hn : l = n) : Sl w a (l - n) 0 (sub f n (l - n)) := by
  have := h.capOk
  subst hn
  rw [Nat.sub_self, show sub f l 0 = fun _ => 0 from funext fun i => if_neg (Nat.not_lt_zero i)]
  exact Sl.none_ _ a 0 (Nat.zero_le _) (fun _ => rfl)
theorem sl_past {w : World} {a : Option Addr} {l c : Nat} {f : Nat → Nat} (h : Sl w a l c f) {n : Nat} (hn : n ≤ l) : Sl w (Option.map (fun x => x.add n) a) (l - n) (c - n) (sub f n (l - n)) := by
  have hcm := h.capOk
  by_cases h0 : l - n = 0
  · rw [h0, show sub f n 0 = fun _ => 0 from funext fun i => if_neg (Nat.not_lt_zero i)]
    refine Sl.none_ _ _ _ (by have := h.maxOk; omega) (fun e => ?_)
    cases a with
    | none => have := (h.nil rfl).2; omega
    | some ad => cases e
  · cases a with
    | none => have := (h.nil rfl).1; omega
    | some ad =>
      have hsp := h.spot ad rfl (by omega)
      obtain ⟨b, o, sp⟩ := ad
      simp only at hsp
      subst hsp
      have := h.sub (lo := n) (m := l - n) (by omega)
      show Sl w (some ((⟨b, o, none⟩ : Addr).add n)) (l - n) (c - n) _
      rw [Addr.add_lit]; exact this
theorem xtk_end {w w2 : World} {B q c n c2 c3 : Nat} {a a2 a3 : Option Addr} {S : Bs} (hR : Xr w2 B q a c S) (hO : S.Ok) (hn : n ≤ S.l) (hr2 : Rq w2 w.heap.size a2 (0 + n) c2 (cpy 0 n (sub S.f 0 n) (fun _ => 0))) (hB2 : Below w.heap.size w w2)
    (h3 : Sl w2 a3 (S.l - n) c3 (sub S.f n (S.l - n))) (hbl : ∀ ad, a3 = some ad → ∃ ad', a = some ad' ∧ ad.block = ad'.block) (hq : q < w.heap.size) :
    Xtook w B q a (S.cut n) n (sub S.f 0 n) true (.returned (.tuple #[.slice a2 n c2, .bool true])) (w2.setCell ⟨q, 0, none⟩ (.slice a3 (S.l - n) c3)) := by
  rw [Nat.zero_add] at hr2
  have hr3 := hr2.congr (h' := sub S.f 0 n) (fun i hi => cpy_none _ _ _ i (by omega))
  have hr4 : Rq (w2.setCell ⟨q, 0, none⟩ (.slice a3 (S.l - n) c3)) w.heap.size a2 n c2 (sub S.f 0 n) := hr3.kept fun g e hg => heap_setCell_other _ _ _ _ (show g ≠ q by have := (hr3.lt g e).1; omega)
  have hne : ∀ ad, a3 = some ad → ad.block ≠ q := fun ad e => by
    obtain ⟨ad', e', hb⟩ := hbl ad e
    rw [hb]; exact (hR.ha ad' e').2.2
  refine ⟨a2, c2, rfl, hr4.nw8 (sub_by hO.by_ _ _) (sub_up _ _ _), ⟨a3, c3, ⟨hR.blk.set0 a3 (S.l - n) c3, h3.kept8 (fun ad e => heap_setCell_other _ _ _ _ (hne ad e)), hR.hq, fun ad e => ?_⟩, hbl⟩, (But2.of hB2).trans (But2.set _)⟩
  obtain ⟨ad', e', hb⟩ := hbl ad e
  have := hR.ha ad' e'
  rw [hb]; exact ⟨this.1, by simpa using this.2.1, this.2.2⟩
set_option maxHeartbeats 4000000 in
set_option maxRecDepth 100000 in
theorem xtk_any (B q : Nat) (a : Option Addr) (c : Nat) (S : Bs) (n : Nat) (h0 : S.e = 0) (hO : S.Ok) (hl : S.l ≤ 900000000) (w : World) (hR : Xr w B q a c S) :
    Calls Try.prog 49 #[.pointer (some ⟨q, 0, none⟩), .int .i64 (n : Nat)] w (Xtook w B q a (S.take n) (S.tm n) (S.tf n) (decide (n ≤ S.l))) := by
  have HR := Lib.hid hR
  have c0 := hR.blk.c0
  have c1 := hR.blk.c1
  rw [h0] at c1
  by_cases hn : n ≤ S.l
  · have e1 : S.take n = S.cut n := by unfold Bs.take; rw [if_neg (by simp [h0]), if_neg (by omega), if_neg (by omega), Int.toNat_natCast]
    have e2 : S.tm n = n := by unfold Bs.tm; rw [if_pos ⟨h0, by omega, by omega⟩, Int.toNat_natCast]
    have e3 : S.tf n = sub S.f 0 n := funext fun i => by unfold Bs.tf; rw [if_pos ⟨h0, by omega, by omega⟩, Int.toNat_natCast]
    rw [e1, e2, e3, decide_eq_true hn]
    clear e1 e2 e3
    have i1 : ¬ (S.l : Int) < (n : Int) := by omega
    have HOWN := Lib.hid (own_lit0 w)
    have HB1 := Lib.hid ((Below.refl w.heap.size w).alloc (Nat.le_refl _) (.cells #[] 5))
    have HR1 := Lib.hid (hR.same HB1.out)
    have c01 := HR1.out.blk.c0
    have hcm := hR.sl.capOk
    have hnc : n ≤ c := by omega
    have hcc : c ≤ 9223372036854775807 := by have := hR.sl.maxOk; unfold maxLen at this; omega
    have HSUB := Lib.hid (show Sl (w.alloc (.cells #[] 5)) a n c (sub S.f 0 n) from ⟨hnc, HR1.out.sl.maxOk, sub_by hO.by_ _ _, sub_up _ _ _, fun e => ⟨by have := (HR1.out.sl.nil e).1; omega, (HR1.out.sl.nil e).2⟩, fun ad e h => HR1.out.sl.spot ad e (by omega), fun ad e i hi => by
      rw [HR1.out.sl.cell ad e i (by omega)]; unfold sub; rw [if_pos hi, Nat.zero_add]⟩)
    clear hR
    go_enter Try.func49, Try.ntmps49
    go_wp2_with (at_builtin; refine wpList_append_sl (o := ⟨some 36, _, _, _, _, _⟩) rfl (.tmp 29) (.tmp 35) rfl w.heap.size _ 0 0 (fun _ => 0) rfl HOWN.out a n c (sub S.f 0 n) rfl HSUB.out (by omega) (by simp) (fun a2 c2 w2 hr2 ho2 hg2 => ?_); obtain ⟨row, hg, hrow⟩ := hg2.out; have HB2 := Lib.hid (lit0_below hg hrow); have HR2 := Lib.hid (HR.out.same HB2.out); have c02 := HR2.out.blk.c0; have hf2 := HR2.out.blk.free 0; clear hg hrow hg2 ho2)
    · obtain rfl : S.l = n := by omega
      go_ret2
      exact xtk_end HR2.out hO (Nat.le_refl _) hr2.out HB2.out (sl_past0 HR2.out.sl (by omega)) (fun ad e => ⟨ad, e, rfl⟩) HR.out.blk.lt
    · go_ret2
      exact xtk_end HR2.out hO hn hr2.out HB2.out (sl_past HR2.out.sl hn) (fun ad e => by
        cases a with
        | none => cases e
        | some ad' =>
          simp only [Option.map, Option.some.injEq] at e
          exact ⟨ad', rfl, by rw [← e]; exact addr_add_block ad' n⟩) HR.out.blk.lt
  · have e1 : S.take n = S.broke 4 := by unfold Bs.take; rw [if_neg (by simp [h0]), if_neg (by omega), if_pos (by omega)]
    have e2 : S.tm n = 0 := by unfold Bs.tm; rw [if_neg (by omega)]
    have e3 : S.tf n = fun _ => 0 := funext fun i => by unfold Bs.tf; rw [if_neg (by omega)]
    rw [e1, e2, e3, decide_eq_false hn]
    clear e1 e2 e3
    have i1 : (S.l : Int) < (n : Int) := by omega
    have hf1 := hR.blk.free 1
    have hc2 := (hR.blk.set1 4).c1
    have HFIN := Lib.hid (hR.broke 4)
    clear hR
    go_enter Try.func49, Try.ntmps49
    go_wp2
    go_ret2
    exact ⟨none, 0, rfl, Nw.nil _ _ (fun _ => rfl), ⟨a, c, HFIN.out, fun ad e => ⟨ad, e, rfl⟩⟩, But2.set _⟩
theorem sl_head {w : World} {a : Option Addr} {l c n : Nat} {f : Nat → Nat} (h : Sl w a l c f) (hn : n ≤ l) : Sl w a n c (sub f 0 n) :=
  ⟨Nat.le_trans hn h.capOk, h.maxOk, sub_by h.bytes _ _, sub_up _ _ _, fun e => ⟨by have := (h.nil e).1; omega, (h.nil e).2⟩, fun ad e k => h.spot ad e (by omega), fun ad e i hi => by
    rw [h.cell ad e i (by omega)]; unfold sub; rw [if_pos hi, Nat.zero_add]⟩
end Go.Proofs.Ytdjigbjheicfcaa

namespace Go.Proofs.Ytdjigbjheicfcaa
open Go.RowKit Go.Shelf

set_option maxHeartbeats 2000000 in
theorem xtake_any (B q : Nat) (a : Option Addr) (c : Nat) (S : Bs) (n : Int) (hO : S.Ok) (hl : S.l ≤ 900000000) (w : World) (hR : Xr w B q a c S) :
    Calls Try.prog 28 #[.pointer (some ⟨q, 0, none⟩), .int .i64 n] w fun x w' => ∃ a2 c2, x = .returned (.slice a2 (S.tm n) c2) ∧ Nw w' w.heap.size a2 (S.tm n) c2 (S.tf n) ∧ Xed w B q a (S.take n) w' := by
  have HR := Lib.hid hR
  have c1 := hR.blk.c1
  have hf1 := hR.blk.free 1
  have hc2 := (hR.blk.set1 2).c1
  have HF := Lib.hid (hR.broke 2)
  clear hR
  by_cases h0 : S.e = 0
  · rw [h0] at c1
    by_cases hn : n < 0
    · have e1 : S.take n = S.broke 2 := by unfold Bs.take; rw [if_neg (by simp [h0]), if_pos hn]
      have e2 : S.tm n = 0 := by unfold Bs.tm; rw [if_neg (by omega)]
      have e3 : S.tf n = fun _ => 0 := funext fun i => by unfold Bs.tf; rw [if_neg (by omega)]
      rw [e1, e2, e3]
      clear e1 e2 e3
      go_enter Try.func28, Try.ntmps28
      go_wp2
      go_ret
      exact ⟨none, 0, rfl, Nw.nil _ _ (fun _ => rfl), ⟨a, c, HF.out, fun ad e => ⟨ad, e, rfl⟩⟩, But2.set _⟩
    · obtain ⟨n, rfl⟩ : ∃ k : Nat, n = k := ⟨n.toNat, by omega⟩
      clear hc2 hf1
      go_enter Try.func28, Try.ntmps28
      go_wp2_with fail
      refine (xtk_any B q a c S n h0 hO hl _ HR.out).mono ?_
      rintro x w2 ⟨a2, c2, rfl, hN, hX⟩
      have HN := Lib.hid hN; have HX := Lib.hid hX; clear hN hX
      go_wp2
      go_ret
      exact ⟨a2, c2, rfl, HN.out, HX.out⟩
  · have e1 : S.take n = S := by unfold Bs.take; rw [if_pos h0]
    have e2 : S.tm n = 0 := by unfold Bs.tm; rw [if_neg (fun h => h0 h.1)]
    have e3 : S.tf n = fun _ => 0 := funext fun i => by unfold Bs.tf; rw [if_neg (fun h => h0 h.1)]
    rw [e1, e2, e3]
    have h1 : (S.e == 0) = false := by simpa using h0
    have h2 : (S.e != 0) = true := by simpa using h0
    clear e1 e2 e3 hc2 hf1
    go_enter Try.func28, Try.ntmps28
    go_wp2
    go_ret
    exact ⟨none, 0, rfl, Nw.nil _ _ (fun _ => rfl), Xed.refl HR.out⟩

theorem xleft_any (B q : Nat) (a : Option Addr) (c : Nat) (S : Bs) (w : World) (hR : Xr w B q a c S) :
    Calls Try.prog 30 #[.pointer (some ⟨q, 0, none⟩)] w fun x w' => x = .returned (.int .i64 (S.m : Nat)) ∧ w' = w := by
  have c0 := hR.blk.c0
  have c1 := hR.blk.c1
  clear hR
  by_cases h0 : S.e = 0
  · have hm : S.m = S.l := if_pos h0
    rw [hm]
    rw [h0] at c1
    clear hm
    go_enter Try.func30, Try.ntmps30
    go_wp2
    go_ret
    exact ⟨rfl, rfl⟩
  · have hm : S.m = 0 := if_neg h0
    rw [hm]
    have h1 : (S.e == 0) = false := by simpa using h0
    have h2 : (S.e != 0) = true := by simpa using h0
    clear hm
    go_enter Try.func30, Try.ntmps30
    go_wp2
    go_ret
    exact ⟨rfl, rfl⟩
theorem xend_any (B q : Nat) (a : Option Addr) (c : Nat) (S : Bs) (w : World) (hR : Xr w B q a c S) :
    Calls Try.prog 32 #[.pointer (some ⟨q, 0, none⟩)] w fun x w' => x = .returned (.int .i64 S.fin) ∧ w' = w := by
  have c0 := hR.blk.c0
  have c1 := hR.blk.c1
  clear hR
  by_cases h0 : S.e = 0
  · rw [h0] at c1
    by_cases hl : 0 < S.l
    · have hm : S.fin = 4 := by unfold Bs.fin; rw [if_neg (by simp [h0]), if_pos (by omega)]
      rw [hm]
      clear hm
      go_enter Try.func32, Try.ntmps32
      go_wp2
      go_ret
      exact ⟨rfl, rfl⟩
    · have hm : S.fin = 0 := by unfold Bs.fin; rw [if_neg (by simp [h0]), if_neg (by omega)]
      rw [hm]
      clear hm
      go_enter Try.func32, Try.ntmps32
      go_wp2
      go_ret
      exact ⟨rfl, rfl⟩
  · have hm : S.fin = S.e := if_pos h0
    rw [hm]
    have h1 : (S.e == 0) = false := by simpa using h0
    have h2 : (S.e != 0) = true := by simpa using h0
    clear hm
    go_enter Try.func32, Try.ntmps32
    go_wp2
    go_ret
    exact ⟨rfl, rfl⟩
end Go.Proofs.Ytdjigbjheicfcaa

namespace Go.Proofs.Ytdjigbjheicfcaa
open Go.RowKit Go.Shelf

set_option maxHeartbeats 4000000 in
set_option maxRecDepth 100000 in
theorem xrn_any (B q : Nat) (a : Option Addr) (c : Nat) (S : Bs) (z : Int) (hO : S.Ok) (hl : S.l ≤ 900000000) (w : World) (hR : Xr w B q a c S) :
    Calls Try.prog 26 #[.pointer (some ⟨q, 0, none⟩), .int .i64 z] w fun x w' => x = .returned (.int .i64 (S.rval z : Nat)) ∧ Xed w B q a (S.rnum z) w' := by
  have HR := Lib.hid hR
  have c1 := hR.blk.c1
  have hf1 := hR.blk.free 1
  have hc2 := (hR.blk.set1 2).c1
  have HF := Lib.hid (hR.broke 2)
  clear hR
  by_cases h0 : S.e = 0
  · rw [h0] at c1
    by_cases hz : 1 ≤ z ∧ z ≤ 4
    · obtain ⟨k, rfl⟩ : ∃ k : Nat, z = k := ⟨z.toNat, by omega⟩
      have e1 : S.rnum k = S.take k := by unfold Bs.rnum; rw [if_neg (by simp [h0]), if_pos hz]
      have e2 : S.rval k = vn (S.tf k) (S.tm k) := by
        unfold Bs.rval Bs.tm
        by_cases hk : k ≤ S.l
        · rw [if_pos ⟨h0, hz, by omega⟩, if_pos ⟨h0, by omega, by omega⟩, Int.toNat_natCast]
          exact vn_congr k fun i hi => by unfold Bs.tf sub; rw [if_pos ⟨h0, by omega, by omega⟩, Int.toNat_natCast, if_pos hi, Nat.zero_add]
        · rw [if_neg (by omega), if_neg (by omega)]; rfl
      rw [e1, e2]
      have htm : S.tm k ≤ 4 := by unfold Bs.tm; split <;> omega
      have hb : bnd k ≠ 0 := by
        unfold bnd; rw [if_pos hz]
        have : 0 < 256 ^ (k : Int).toNat := Nat.pow_pos (by decide)
        omega
      have hb2 : (bnd k == 0) = false := by simpa using hb
      have HTK := Lib.hid (xtk_any B q a c S k h0 hO hl w HR.out)
      obtain ⟨M, hM⟩ : ∃ M, M = S.tm k := ⟨_, rfl⟩
      obtain ⟨F, hF⟩ : ∃ F, F = S.tf k := ⟨_, rfl⟩
      have hFB : Pf.By F := by rw [hF]; exact hO.tfb k
      have hdec : decide (k ≤ S.l) = false → M = 0 := fun h => by
        have : ¬ k ≤ S.l := of_decide_eq_false h
        rw [hM]; unfold Bs.tm; rw [if_neg (by omega)]
      unfold Xtook at HTK
      rw [← hM] at htm ⊢
      rw [← hF]
      rw [← hM, ← hF] at HTK
      obtain ⟨D, hD⟩ : ∃ D, D = decide (k ≤ S.l) := ⟨_, rfl⟩
      rw [← hD] at HTK hdec
      have HV := Lib.hid (fun j (hj : j ≤ 4) => Nat.lt_of_lt_of_le (vn_lt hFB j) (pow256 hj))
      clear e1 e2 hc2 hf1 hM hF hD hb hFB
      go_enter Try.func26, Try.ntmps26
      go_wp2_with fail
      refine (bound_any k _).mono ?_
      rintro x w' ⟨rfl, rfl⟩
      go_wp2_with fail
      refine HTK.out.mono ?_
      rintro x w2 ⟨a2, c2, rfl, hN, hX⟩
      have HN := Lib.hid hN; have HX := Lib.hid hX
      have HSL := Lib.hid hN.sl
      have hcm := hN.sl.capOk
      clear hN hX HTK c1
      cases D with
      | false =>
        obtain rfl := hdec rfl
        go_wp2_with fail
        go_loopw [7, 8] (fun vi i wr => vi = .int .i64 0 ∧ i = .int .i64 0 ∧ wr = w2) (fun _ i _ => 0)
        case atStart => exact ⟨rfl, rfl, rfl⟩
        case round =>
          obtain ⟨rfl, rfl, rfl⟩ := hrel
          go_wp2
          go_ret
          exact ⟨rfl, HX.out⟩
      | true =>
        clear hdec
        go_wp2_with fail
        go_loopw [7, 8] (fun vi i wr => ∃ j : Nat, j ≤ M ∧ i = .int .i64 j ∧ vi = .int .i64 (vn F j : Nat) ∧ wr = w2) (fun _ i _ => M - (intOf i).toNat)
        case atStart => exact ⟨0, by omega, rfl, rfl, rfl⟩
        case round =>
          obtain ⟨j, hj, rfl, rfl, rfl⟩ := hrel
          by_cases hlt : j < M
          · obtain ⟨b1, o1, ea, cc1⟩ := HSL.out.at_ hlt
            subst ea
            have i1 : (j : Int) < (M : Int) := by omega
            have hv := HV.out j (by omega)
            have hF8 := HSL.out.bytes j
            generalize hvj : vn F j = V at hv ⊢
            generalize hfj : F j = y at cc1 hF8
            have HVJ := Lib.hid hvj; have HFJ := Lib.hid hfj; clear hvj hfj
            go_wp2
            go_roundw
            case rel => exact ⟨j + 1, by omega, by go_num, by show _ = Value.int .i64 ((256 * vn F j + F j : Nat) : Int); rw [HVJ.out, HFJ.out]; exact congrArg (Value.int .i64) (by omega), trivial⟩
            case measure => simp [intOf]; omega
          · obtain rfl : j = M := by omega
            have i1 : ¬ (j : Int) < (j : Int) := by omega
            go_wp2
            go_ret
            exact ⟨rfl, HX.out⟩
    · have e1 : S.rnum z = S.broke 2 := by unfold Bs.rnum; rw [if_neg (by simp [h0]), if_neg hz]
      have e2 : S.rval z = 0 := by unfold Bs.rval; rw [if_neg (fun h => hz h.2.1)]
      have hb : bnd z = 0 := if_neg hz
      rw [e1, e2]
      have HB := Lib.hid hb
      clear e1 e2 hb
      go_enter Try.func26, Try.ntmps26
      go_wp2_with fail
      refine (bound_any z _).mono ?_
      rintro x w' ⟨rfl, rfl⟩
      rw [HB.out]
      go_wp2
      go_ret
      exact ⟨rfl, ⟨a, c, HF.out, fun ad e => ⟨ad, e, rfl⟩⟩, But2.set _⟩
  · have e1 : S.rnum z = S := by unfold Bs.rnum; rw [if_pos h0]
    have e2 : S.rval z = 0 := by unfold Bs.rval; rw [if_neg (fun h => h0 h.1)]
    rw [e1, e2]
    have h1 : (S.e == 0) = false := by simpa using h0
    have h2 : (S.e != 0) = true := by simpa using h0
    clear e1 e2 hc2 hf1
    go_enter Try.func26, Try.ntmps26
    go_wp2
    go_ret
    exact ⟨rfl, Xed.refl HR.out⟩
end Go.Proofs.Ytdjigbjheicfcaa

namespace Go.Proofs.Ytdjigbjheicfcaa
open Go.RowKit Go.Shelf

theorem Sl.kept9 {w w' : World} {a : Option Addr} {l c : Nat} {f : Nat → Nat} (h : Sl w a l c f) (hk : ∀ ad, a = some ad → l ≠ 0 → w'.heap[ad.block]? = w.heap[ad.block]?) : Sl w' a l c f :=
  ⟨h.capOk, h.maxOk, h.bytes, h.up, h.nil, h.spot, fun ad e i hi => by
    have := h.cell ad e i hi
    have hk := hk ad e (by omega)
    unfold World.cell? at this ⊢
    simp only at this ⊢
    rw [hk]; exact this⟩
theorem Xs.neS {w : World} {t : TypeId} {q l c n cin : Nat} {a ain : Option Addr} {e : Int} {h : Nat → Nat} (hs : Xs w t q a l c e) (hS : Sl w ain n cin h) : ∀ ad, ain = some ad → n ≠ 0 → ad.block ≠ q := fun ad ha hn k => by
  have hc := hS.cell ad ha 0 (by omega)
  have hsp := hS.spot ad ha hn
  obtain ⟨b, o, sp⟩ := ad
  simp only at hsp k hc
  subst k
  rw [cell_of_row w b _ _ _ _ hs] at hc
  match o, hc with
  | 0, hc => simp at hc
  | 1, hc => simp at hc
  | o + 2, hc => simp at hc
theorem nw_kept {w w' : World} {N m c q : Nat} {a : Option Addr} {f : Nat → Nat} (h : Nw w N a m c f) (hb : But2 q q w w') (hq : ∀ vs, w.heap[q]? ≠ some (.cells vs 5 (0, 0))) : Nw w' N a m c f := by
  rcases h.ow with ⟨rfl, h0⟩ | ⟨g, vs, rfl, hg, hh, hs⟩
  · have := h.sl.capOk
    exact ⟨h.sl.kept9 (fun ad e => by cases e), Or.inl ⟨rfl, h0⟩⟩
  · have hne : g ≠ q := fun e => hq vs (by rw [← e]; exact hh)
    have hk := hb.block g (Array.getElem?_eq_some_iff.1 hh).1 hne hne
    exact ⟨h.sl.kept9 (fun ad e _ => by cases e; exact hk), Or.inr ⟨g, vs, rfl, hg, hk.trans hh, hs⟩⟩

/-- both readers. -/
structure TwoR (w : World) (B p s q : Nat) (a : Option Addr) (c : Nat) (a' : Option Addr) (c' : Nat) (S T : Bs) : Prop where
  l : Rr w B p s a c S
  r : Xr w B q a' c' T
section
variable {w w' : World} {B p s q c c' : Nat} {a a' : Option Addr} {S T S2 : Bs}
theorem TwoR.same (h : TwoR w B p s q a c a' c' S T) (hB : Below w.heap.size w w') : TwoR w' B p s q a c a' c' S T := ⟨h.l.same hB, h.r.same hB⟩
theorem TwoR.types (h : TwoR w B p s q a c a' c' S T) : (∃ vs, w.heap[p]? = some (.cells vs 66 (0, 0))) ∧ (∃ vs, w.heap[s]? = some (.cells vs 57 (0, 0))) ∧ (∃ vs, w.heap[q]? = some (.cells vs 67 (0, 0))) := by
  obtain ⟨l, h1, _⟩ := h.l.stk
  exact ⟨⟨_, h.l.box⟩, ⟨_, h1⟩, ⟨_, h.r.blk⟩⟩
theorem TwoR.nots (h : TwoR w B p s q a c a' c' S T) : ∀ vs, w.heap[s]? ≠ some (.cells vs 5 (0, 0)) := fun vs e => by
  obtain ⟨_, ⟨us, h2⟩, _⟩ := h.types
  exact blocks_ne e h2 (by decide) rfl
theorem TwoR.notq (h : TwoR w B p s q a c a' c' S T) : ∀ vs, w.heap[q]? ≠ some (.cells vs 5 (0, 0)) := fun vs e => by
  obtain ⟨_, _, ⟨us, h2⟩⟩ := h.types
  exact blocks_ne e h2 (by decide) rfl
theorem Rr.kept2 (h : Rr w B p s a c S) (hsz : w.heap.size ≤ w'.heap.size) (h1 : w'.heap[p]? = w.heap[p]?) (h2 : w'.heap[s]? = w.heap[s]?) (h3 : ∀ ad, a = some ad → S.e = 0 → S.l ≠ 0 → w'.heap[ad.block]? = w.heap[ad.block]?) : Rr w' B p s a c S := by
  obtain ⟨l, k1, k2⟩ := h.stk
  exact ⟨h.box.kept h1, ⟨l, k1.kept h2, fun e => ⟨(k2 e).1, (k2 e).2.kept9 (fun ad ea hl => h3 ad ea e (by rw [← (k2 e).1]; exact hl))⟩⟩, h.hp, h.hs, fun ad e => ⟨(h.ha ad e).1, Nat.lt_of_lt_of_le (h.ha ad e).2.1 hsz, (h.ha ad e).2.2⟩⟩
theorem Xr.kept2 (h : Xr w B q a c S) (hsz : w.heap.size ≤ w'.heap.size) (h1 : w'.heap[q]? = w.heap[q]?) (h3 : ∀ ad, a = some ad → S.l ≠ 0 → w'.heap[ad.block]? = w.heap[ad.block]?) : Xr w' B q a c S :=
  ⟨h.blk.kept h1, h.sl.kept9 h3, h.hq, fun ad e => ⟨(h.ha ad e).1, Nat.lt_of_lt_of_le (h.ha ad e).2.1 hsz, (h.ha ad e).2.2⟩⟩
theorem Rr.mono8 {B' : Nat} (h : Rr w B p s a c S) (hB : B' ≤ B) : Rr w B' p s a c S := ⟨h.box, h.stk, Nat.le_trans hB h.hp, Nat.le_trans hB h.hs, fun ad e => ⟨Nat.le_trans hB (h.ha ad e).1, (h.ha ad e).2⟩⟩
theorem Xr.mono8 {B' : Nat} (h : Xr w B q a c S) (hB : B' ≤ B) : Xr w B' q a c S := ⟨h.blk, h.sl, Nat.le_trans hB h.hq, fun ad e => ⟨Nat.le_trans hB (h.ha ad e).1, (h.ha ad e).2⟩⟩
theorem TwoR.left (h : TwoR w B p s q a c a' c' S T) (hw : Red w B p s a S2 w') : ∃ a2 c2, TwoR w' B p s q a2 c2 a' c' S2 T ∧ ∀ ad, a2 = some ad → ∃ ad', a = some ad' ∧ ad.block = ad'.block := by
  obtain ⟨⟨a2, c2, hr, hk⟩, hbut⟩ := hw
  obtain ⟨_, ⟨v2, h2⟩, ⟨v3, h3⟩⟩ := h.types
  obtain ⟨l, hst, _⟩ := h.l.stk
  have hqs : q ≠ s := blocks_ne h3 h2 (by decide)
  refine ⟨a2, c2, ⟨hr, h.r.kept2 hbut.size (hbut.block q h.r.blk.lt hqs hqs) (fun ad e hl => ?_)⟩, hk⟩
  have := hst.neS h.r.sl ad e hl
  exact hbut.block _ (h.r.ha ad e).2.1 this this
theorem TwoR.right (h : TwoR w B p s q a c a' c' S T) (hw : Xed w B q a' S2 w') : ∃ a2 c2, TwoR w' B p s q a c a2 c2 S S2 ∧ ∀ ad, a2 = some ad → ∃ ad', a' = some ad' ∧ ad.block = ad'.block := by
  obtain ⟨⟨a2, c2, hr, hk⟩, hbut⟩ := hw
  obtain ⟨⟨v1, h1⟩, ⟨v2, h2⟩, ⟨v3, h3⟩⟩ := h.types
  obtain ⟨l, hst, hsl⟩ := h.l.stk
  have hpq : p ≠ q := blocks_ne h1 h3 (by decide)
  have hsq : s ≠ q := blocks_ne h2 h3 (by decide)
  refine ⟨a2, c2, ⟨h.l.kept2 hbut.size (hbut.block p h.l.box.lt hpq hpq) (hbut.block s h.l.lts hsq hsq) (fun ad e he hl => ?_), hr⟩, hk⟩
  obtain ⟨hll, hsl⟩ := hsl he
  have := h.r.blk.neS hsl ad e (by rw [hll]; exact hl)
  exact hbut.block _ (h.l.ha ad e).2.1 this this
theorem TwoR.grown (h : TwoR w B p s q a c a' c' S T) {row : Option Nat} (hg : w.grownBy w' row) (hr : ∀ g, row = some g → (∃ vs, w.heap[g]? = some (.cells vs 5 (0, 0))) ∧ (∀ ad, a = some ad → ad.block ≠ g) ∧ (∀ ad, a' = some ad → ad.block ≠ g)) : TwoR w' B p s q a c a' c' S T := by
  obtain ⟨⟨v1, h1⟩, ⟨v2, h2⟩, ⟨v3, h3⟩⟩ := h.types
  have hne : ∀ (j : Nat) (vs : Array Value) (t : TypeId), w.heap[j]? = some (.cells vs t (0, 0)) → t ≠ 5 → some j ≠ row := fun j vs t hj t2 e => by
    obtain ⟨⟨us, k⟩, _⟩ := hr j e.symm
    exact blocks_ne hj k t2 rfl
  exact ⟨h.l.kept2 hg.size (hg.block p h.l.box.lt (hne p _ _ h1 (by decide))) (hg.block s h.l.lts (hne s _ _ h2 (by decide))) (fun ad e _ _ => hg.block _ (h.l.ha ad e).2.1 (fun e2 => (hr _ e2.symm).2.1 ad e rfl)),
    h.r.kept2 hg.size (hg.block q h.r.blk.lt (hne q _ _ h3 (by decide))) (fun ad e _ => hg.block _ (h.r.ha ad e).2.1 (fun e2 => (hr _ e2.symm).2.2 ad e rfl))⟩
end
end Go.Proofs.Ytdjigbjheicfcaa
