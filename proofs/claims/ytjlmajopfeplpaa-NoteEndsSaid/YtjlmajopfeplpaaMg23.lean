import Derived.Sort.CutIn
import Derived.Test.YtjlmajopfeplpaaMg3
import Derived.Test.YtjlmajopfeplpaaMg14
import Derived.Test.YtjlmajopfeplpaaMg17
namespace Go.Proofs.Ytjlmajopfeplpaa.Nt
open Go.RowKit Go.Shelf
attribute [local go_sem] Oper.semAt_some

/-- a block is no row of bytes. -/
def NB (w : World) (k : Nat) : Prop := ∀ n cap f, ¬ Bl w k n cap f
theorem nb_of {w : World} {k : Nat} {vs : Array Value} {t : TypeId} {m : Nat × Nat} (h : w.heap[k]? = some (.cells vs t m)) (ht : t ≠ 5) : NB w k := fun n cap f ⟨us, h1, _⟩ => by
  rw [h] at h1
  simp at h1
  exact ht h1.2.1
theorem NB.kept {w w' : World} {k : Nat} (h : NB w k) (he : w'.heap[k]? = w.heap[k]?) : NB w' k := fun n cap f ⟨us, h1, h2⟩ => h n cap f ⟨us, by rw [← he]; exact h1, h2⟩
/-- all blocks stay but the stock's, and rows of bytes from B on. -/
structure Wf (B s : Nat) (w w' : World) : Prop where
  os : w'.os = w.os
  tape : w'.tape = w.tape
  output : w'.output = w.output
  size : w.heap.size ≤ w'.heap.size
  block : ∀ k, k < w.heap.size → k ≠ s → (k < B ∨ NB w k) → w'.heap[k]? = w.heap[k]?
theorem Wf.refl (B s : Nat) (w : World) : Wf B s w w := ⟨rfl, rfl, rfl, Nat.le_refl _, fun _ _ _ _ => rfl⟩
theorem Wf.trans {B s : Nat} {w w' w'' : World} (h : Wf B s w w') (k : Wf B s w' w'') : Wf B s w w'' :=
  ⟨k.os.trans h.os, k.tape.trans h.tape, k.output.trans h.output, Nat.le_trans h.size k.size, fun i h1 h2 h3 => by
    have e := h.block i h1 h2 h3
    exact (k.block i (Nat.lt_of_lt_of_le h1 h.size) h2 (h3.imp id fun q => q.kept e)).trans e⟩
theorem Wf.of {B s : Nat} {w w' : World} (h : Below w.heap.size w w') : Wf B s w w' := ⟨h.os, h.tape, h.output, h.size, fun k hk _ _ => h.block k hk⟩
theorem Wf.below {B s : Nat} {w w' : World} (h : Wf B s w w') (h0 : B ≤ w.heap.size) (h1 : B ≤ s) : Below B w w' := ⟨h.os, h.tape, h.output, h.size, fun k hk => h.block k (by omega) (by omega) (Or.inl hk)⟩
theorem Wf.but {B s p c b : Nat} {a : Option Addr} {S : Bs} {w w' : World} (hw : Wr w B p s a c S) (hb : b = s ∨ a = some ⟨b, 0, none⟩) (h : But2 s b w w') : Wf B s w w' :=
  ⟨h.os, h.tape, h.output, h.size, fun k h1 h2 h3 => by
    refine h.block k h1 h2 (fun e => ?_)
    rcases hb with rfl | hb
    · exact h2 e
    · obtain ⟨l, _, hR, _⟩ := hw.stk
      rcases hR with ⟨r, _⟩ | ⟨g, e', hg, hbl, _⟩
      · rw [r] at hb; cases hb
      · rw [e'] at hb
        cases hb
        subst e
        rcases h3 with h3 | h3
        · omega
        · exact h3 _ _ _ hbl⟩
/-- a writer that wrote so many bytes as they ought to be. -/
def PW (w : World) (B p s : Nat) (P : Nat → Nat) (L : Nat) : Prop := ∃ a c S, Wr w B p s a c S ∧ S.e = 0 ∧ S.l = L ∧ S.Ok ∧ ∀ i, i < L → S.f i = P i
section
variable {w w' : World} {B p s L : Nat} {P : Nat → Nat}
theorem PW.same (h : PW w B p s P L) (hB : Below w.heap.size w w') : PW w' B p s P L := by
  obtain ⟨a, c, S, h1, h2⟩ := h
  exact ⟨a, c, S, h1.same hB, h2⟩
theorem PW.mono {B' : Nat} (h : PW w B p s P L) (hB : B' ≤ B) : PW w B' p s P L := by
  obtain ⟨a, c, S, h1, h2⟩ := h
  obtain ⟨l, k1, k2, k3⟩ := h1.stk
  refine ⟨a, c, S, ⟨h1.box, ⟨l, k1, ?_, k3⟩, Nat.le_trans hB h1.hp, Nat.le_trans hB h1.hs⟩, h2⟩
  rcases k2 with k2 | ⟨g, e, q1, q2⟩
  · exact Or.inl k2
  · exact Or.inr ⟨g, e, Nat.le_trans hB q1, q2⟩
theorem PW.lts (h : PW w B p s P L) : s < w.heap.size ∧ B ≤ s := by
  obtain ⟨a, c, S, h1, h2⟩ := h
  exact ⟨h1.lts, h1.hs⟩
theorem PW.stk (h : PW w B p s P L) : ∃ vs, w.heap[s]? = some (.cells vs 88 (0, 0)) := by
  obtain ⟨a, c, S, h1, h2⟩ := h
  obtain ⟨l, k1, _⟩ := h1.stk
  exact ⟨_, k1⟩
theorem PW.ne (h : PW w B p s P L) {g : Nat} {vs : Array Value} {t : TypeId} {m : Nat × Nat} (hg : w.heap[g]? = some (.cells vs t m)) (ht : t ≠ 88) : g ≠ s := fun e => by
  obtain ⟨us, h1⟩ := h.stk
  rw [← e, hg] at h1
  simp at h1
  exact ht h1.2.1
/-- a block of another type stays. -/
theorem Wf.kept (h : Wf B s w w') (hP : PW w B p s P L) {g : Nat} {vs : Array Value} {t : TypeId} {m : Nat × Nat} (hg : w.heap[g]? = some (.cells vs t m)) (ht : t ≠ 88) (hu : t ≠ 5) : w'.heap[g]? = some (.cells vs t m) :=
  (h.block g (Array.getElem?_eq_some_iff.1 hg).1 (hP.ne hg ht) (Or.inr (nb_of hg hu))).trans hg
/-- what a number's bytes make of it. -/
theorem PW.num {x : Ending} {a : Option Addr} {c : Nat} {S : Bs} (hW : Wr w B p s a c S) (h0 : S.e = 0) (hL : S.l = L) (hO : S.Ok) (hf : ∀ i, i < L → S.f i = P i) {n : Int} {z : Nat} (hfit : Fit n z) (hP : ∀ j, j < z → dg n.toNat z j = P (L + j)) (h : Wrote w B p s a (S.num n z) x w') :
    x = .returned (.tuple #[]) ∧ PW w' B p s P (L + z) ∧ Wf B s w w' := by
  obtain ⟨a', c', hx, hw, ⟨b, hb, hbut⟩, _⟩ := h
  have he : S.num n z = S.add z (dg n.toNat z) := by unfold Bs.num; rw [if_neg (by simp [h0]), if_pos hfit, Int.toNat_natCast]
  rw [he] at hw
  refine ⟨hx, ⟨a', c', _, hw, h0, ?_, hO.add (dg_by _ _), fun i hi => ?_⟩, Wf.but hW hb hbut⟩
  · show S.l + z = L + z
    rw [hL]
  · show cpy S.l z (dg n.toNat z) S.f i = P i
    unfold cpy
    rw [hL]
    by_cases c : i < L
    · rw [if_neg (by omega)]; exact hf i c
    · rw [if_pos (by omega), hP _ (by omega), show L + (i - L) = i by omega]
theorem PW.ext {P' : Nat → Nat} (h : PW w B p s P L) (he : ∀ i, i < L → P' i = P i) : PW w B p s P' L := by
  obtain ⟨a, c, S, h1, h2, h3, h4, h5⟩ := h
  exact ⟨a, c, S, h1, h2, h3, h4, fun i hi => (h5 i hi).trans (he i hi).symm⟩
theorem PW.own {row : Option Nat} (h : PW w B p s P L) (hg : w.grownBy w' row) (hr : ∀ r, row = some r → ∃ o : Obj, w.heap[r]? = some o ∧ o.isCells = false) : PW w' B p s P L := by
  obtain ⟨a, c, S, h1, h2⟩ := h
  have kp : ∀ {k : Nat} {cs : Array Value} {t : TypeId} {z : Nat × Nat}, w.heap[k]? = some (.cells cs t z) → w'.heap[k]? = w.heap[k]? := fun e => (heap_kp e hg hr).trans e.symm
  obtain ⟨l, k1, k2, k3⟩ := h1.stk
  refine ⟨a, c, S, h1.kept (kp h1.box) (kp k1) (fun g e => ?_), h2⟩
  rcases k2 with ⟨r, _⟩ | ⟨g', e', _, hbl, _⟩
  · rw [r] at e; cases e
  · rw [e'] at e
    cases e
    obtain ⟨us, q1, _⟩ := hbl
    exact kp q1
/-- what is no block of cells stays. -/
theorem Wf.others (h : Wf B s w w') (hP : PW w B p s P L) : KeepsOthers w w' := ⟨h.size, fun k o hk ho => by
  obtain ⟨vs, hs⟩ := hP.stk
  refine (h.block k (Array.getElem?_eq_some_iff.1 hk).1 (fun e => ?_) (Or.inr fun n cap f q => ?_)).trans hk
  · rw [e, hs] at hk; cases hk; cases ho
  · obtain ⟨us, q1, _⟩ := q
    rw [hk] at q1; cases q1; cases ho⟩
end
/-- numbers of one size. -/
def NumsOk (P : Nat → Nat) (L z k : Nat) (xs : Nat → Int) : Prop := ∀ i, i < k → Fit (xs i) z ∧ ∀ j, j < z → dg (xs i).toNat z j = P (L + i * z + j)

set_option maxHeartbeats 4000000 in
set_option maxRecDepth 100000 in
theorem numbers_any (B p s : Nat) (P : Nat → Nat) (L k z : Nat) (xs : Nat → Int) (g : Nat) (hk : k ≤ 3) (hL : L ≤ 800000000) (hz : z ≤ 4) (hfit : NumsOk P L z k xs) (w : World) (hB : B ≤ w.heap.size) (hW : PW w B p s P L)
    (vs : Array Value) (hg : w.heap[g]? = some (.cells vs 3 (0, 0))) (hv : ∀ i, i < k → vs[i]? = some (.int .i64 (xs i))) :
    Calls Try.prog 45 #[.pointer (some ⟨p, 0, none⟩), .int .i64 (z : Nat), .slice (some ⟨g, 0, none⟩) k k] w fun e w' => e = .returned (.tuple #[]) ∧ PW w' B p s P (L + k * z) ∧ Wf B s w w' := by
  have HG := Lib.hid hg
  have HW := Lib.hid hW; have HF := Lib.hid hfit; have HV := Lib.hid hv; have HBB := Lib.hid hB
  have HK := Lib.hid hk; have HL := Lib.hid hL; have HZ := Lib.hid hz
  clear hW hfit hg hv hB hk hL hz
  go_enter Try.func45, Try.ntmps45
  go_wp2_with fail
  go_loopw [7, 10] (fun _ i wr => ∃ (j : Nat) (W : World), W = wr ∧ j ≤ k ∧ i = .int .i64 (j : Nat) ∧ PW wr B p s P (L + j * z) ∧ Wf B s w wr) (fun _ i _ => k - (intOf i).toNat)
  case atStart => exact ⟨0, _, rfl, by omega, rfl, by simpa using HW.out, Wf.refl _ _ _⟩
  case round =>
    obtain ⟨j, wx, rfl, hj, rfl, hP, hF⟩ := hrel
    by_cases hlt : j < k
    · have i1 : (j : Int) < (k : Int) := by omega
      have hgc := hF.kept HW.out HG.out (by decide) (by decide)
      have c1 : wx.cell? ⟨g, j, none⟩ = some (.int .i64 (xs j)) := by rw [cell_of_row _ _ j _ _ _ hgc]; exact HV.out j hlt
      have HF2 := Lib.hid hF
      obtain ⟨a, c, S, hw, h0, hl, hO, hf⟩ := hP
      have HWR := Lib.hid hw; have H0 := Lib.hid h0; have HLL := Lib.hid hl; have HO := Lib.hid hO; have HFF := Lib.hid hf
      have HBX := Lib.hid (Nat.le_trans HBB.out hF.size)
      have HJZ := Lib.hid (show j * z ≤ 3 * 4 from Nat.mul_le_mul (by have := HK.out; omega) HZ.out)
      have HSL := Lib.hid (show S.l ≤ 900000000 by rw [HLL.out]; have := HJZ.out; have := HL.out; omega)
      obtain ⟨x, hx⟩ : ∃ x, x = xs j := ⟨_, rfl⟩
      rw [← hx] at c1
      have HXJ := Lib.hid hx
      clear hw h0 hl hO hf hF hgc hx
      go_wp2_with fail
      refine (wnum_any B p s a c S x z HSL.out wx HBX.out HWR.out).mono ?_
      intro e w2 hwr
      obtain ⟨rfl, hP2, hF3⟩ := PW.num HWR.out H0.out HLL.out HO.out HFF.out (by rw [HXJ.out]; exact (HF.out j hlt).1) (fun i hi => by rw [HXJ.out, (HF.out j hlt).2 i hi]) hwr
      have HP2 := Lib.hid hP2; have HF3 := Lib.hid (HF2.out.trans hF3)
      clear hP2 hF3 hwr c1
      have hk3 := HK.out
      go_wp2
      go_roundw
      case rel => exact ⟨j + 1, _, rfl, by omega, by go_num, by rw [Nat.succ_mul, ← Nat.add_assoc]; exact HP2.out, HF3.out⟩
      case measure => simp [intOf]; omega
    · obtain rfl : j = k := by omega
      have i1 : ¬ (j : Int) < (j : Int) := by omega
      have HP := Lib.hid hP; have HF := Lib.hid hF
      clear hP hF
      go_wp2
      go_end0
      exact ⟨rfl, HP.out, HF.out⟩
theorem nums_one {P : Nat → Nat} {L z : Nat} {x : Int} (hf : Fit x z) (h : ∀ j, j < z → dg x.toNat z j = P (L + j)) : NumsOk P L z 1 (fun _ => x) := fun i hi => ⟨hf, fun j hj => by
  rw [show L + i * z + j = L + j by rw [show i = 0 by omega]; omega]; exact h j hj⟩
theorem dg_one (n : Nat) : dg n 1 0 = n % 256 := by
  unfold dg; rw [if_pos (by omega)]; simp
theorem fit_of {x : Int} {z : Nat} (h1 : 1 ≤ z) (h4 : z ≤ 4) (h : 0 ≤ x) {m : Nat} (hm : x ≤ (m : Int)) (hz : m < 256 ^ z) : Fit x z := ⟨by omega, by omega, h, by
  rw [Int.toNat_natCast]
  have h5 := Int.ofNat_lt.2 hz
  rw [Int.natCast_pow] at h5
  exact Int.lt_of_le_of_lt hm h5⟩
theorem at_one (x : Int) : ∀ i, i < 1 → (#[Value.int .i64 x])[i]? = some (.int .i64 ((fun _ => x) i)) := fun i hi => by
  have e : i = 0 := by omega
  subst e; rfl
theorem nums_ver (h : Mn) : NumsOk (pl h) 0 1 1 (fun _ => 2) := nums_one (by decide) fun j hj => by
  obtain rfl : j = 0 := by omega
  rw [show (2 : Int).toNat = 2 from rfl, dg_one]; rfl
theorem nums_S {h : Mn} (hr : RN h) : NumsOk (pl h) 1 2 1 (fun _ => h.S) := nums_one (fit_of (by decide) (by decide) hr.1.1 (m := 65535) hr.1.2 (by decide)) (pl_S h)
theorem nums_Q {h : Mn} (hr : RN h) : NumsOk (pl h) 3 4 1 (fun _ => h.Q) := nums_one (fit_of (by decide) (by decide) (by have := hr.2.1.1; omega) (m := 2147483647) hr.2.1.2 (by decide)) (pl_Q h)
/-- the two numbers of a byte each. -/
def two (h : Mn) (i : Nat) : Int := if i = 0 then h.N else (h.m : Nat)
theorem nums_N {h : Mn} (hr : RN h) : NumsOk (pl h) 7 1 2 (two h) := fun i hi => by
  have hm := rn_few hr
  have h3 := hr.2.2.1
  have hx : 0 ≤ two h i ∧ two h i ≤ ((255 : Nat) : Int) := by unfold two; split <;> omega
  refine ⟨fit_of (by decide) (by decide) hx.1 hx.2 (by decide), fun j hj => ?_⟩
  obtain rfl : j = 0 := by omega
  rw [dg_one, show 7 + i * 1 + 0 = 7 + i by omega]
  unfold two
  rcases (show i = 0 ∨ i = 1 by omega) with rfl | rfl
  · rfl
  · show ((h.m : Nat) : Int).toNat % 256 = h.m % 256
    rw [Int.toNat_natCast]
theorem at_two (h : Mn) : ∀ i, i < 2 → (#[Value.int .i64 h.N, .int .i64 (h.m : Nat)])[i]? = some (.int .i64 (two h i)) := fun i hi => by
  rcases (show i = 0 ∨ i = 1 by omega) with rfl | rfl <;> rfl
/-- bytes, and a number's behind them. -/
def ext (P : Nat → Nat) (L n z : Nat) (i : Nat) : Nat := if i < L then P i else dg n z (i - L)
theorem ext_lo {P : Nat → Nat} {L n z i : Nat} (h : i < L) : ext P L n z i = P i := if_pos h
theorem ext_hi {P : Nat → Nat} {L n z j : Nat} : ext P L n z (L + j) = dg n z j := by unfold ext; rw [if_neg (by omega), Nat.add_sub_cancel_left]
/-- a call of numbers whose row was just laid. -/
theorem numbers_at (B p s : Nat) (P : Nat → Nat) (L k z : Nat) (xs : Nat → Int) (hk : k ≤ 3) (hL : L ≤ 800000000) (hz : z ≤ 4) (hfit : NumsOk P L z k xs) (w : World) (hB : B ≤ w.heap.size) (hW : PW w B p s P L)
    (vs : Array Value) (hv : ∀ i, i < k → vs[i]? = some (.int .i64 (xs i))) :
    Calls Try.prog 45 #[.pointer (some ⟨p, 0, none⟩), .int .i64 (z : Nat), .slice (some ⟨w.heap.size, 0, none⟩) k k] (w.alloc (.cells vs 3)) fun e w' => e = .returned (.tuple #[]) ∧ PW w' B p s P (L + k * z) ∧ Wf B s w w' := by
  have hb : Below w.heap.size w (w.alloc (.cells vs 3)) := (Below.refl _ w).alloc (Nat.le_refl _) _
  refine (numbers_any B p s P L k z xs w.heap.size hk hL hz hfit _ (Nat.le_trans hB hb.size) (hW.same hb) vs (heap_alloc_new _ _) hv).mono ?_
  rintro e w' ⟨h1, h2, h3⟩
  exact ⟨h1, h2, (Wf.of hb).trans h3⟩
/-- a call of numbers with one number, whatever stands ahead of it. -/
theorem number_at (B p s : Nat) (P : Nat → Nat) (L z : Nat) (x : Int) (hL : L ≤ 800000000) (hz : z ≤ 4) (hfit : Fit x z) (w : World) (hB : B ≤ w.heap.size) (hW : PW w B p s P L) :
    Calls Try.prog 45 #[.pointer (some ⟨p, 0, none⟩), .int .i64 (z : Nat), .slice (some ⟨w.heap.size, 0, none⟩) 1 1] (w.alloc (.cells #[.int .i64 x] 3)) fun e w' => e = .returned (.tuple #[]) ∧ PW w' B p s (ext P L x.toNat z) (L + z) ∧ Wf B s w w' := by
  refine (numbers_at B p s (ext P L x.toNat z) L 1 z (fun _ => x) (by decide) hL hz (nums_one hfit fun j hj => ext_hi.symm) w hB (hW.ext fun i hi => ext_lo hi) #[.int .i64 x] (at_one x)).mono ?_
  rintro e w' ⟨h1, h2, h3⟩
  rw [Nat.one_mul] at h2
  exact ⟨h1, h2, h3⟩
end Go.Proofs.Ytjlmajopfeplpaa.Nt

namespace Go.Proofs.Ytjlmajopfeplpaa.Nt
open Go.RowKit Go.Shelf
attribute [local go_sem] Oper.semAt_some

theorem ext_pl {h : Mn} {k : Nat} (hk : k < h.m) {P : Nat → Nat} (hP : ∀ i, i < 9 + 3 * k → P i = pl h i) : ∀ i, i < 9 + 3 * (k + 1) → ext (ext P (9 + 3 * k) (h.C k).toNat 1) (9 + 3 * k + 1) (h.T k).toNat 2 i = pl h i := fun i hi => by
  by_cases c1 : i < 9 + 3 * k
  · rw [ext_lo (by omega), ext_lo c1]; exact hP i c1
  by_cases c2 : i = 9 + 3 * k
  · rw [ext_lo (by omega), show i = 9 + 3 * k + 0 by omega, ext_hi, dg_one, Nat.add_zero, pl_C h hk]
  · obtain ⟨j, rfl⟩ : ∃ j, i = 9 + 3 * k + 1 + j := ⟨i - (9 + 3 * k + 1), by omega⟩
    rw [ext_hi]; exact pl_T h hk j (by omega)
/-- the box of a writer's pointer. -/
def QAt (w : World) (g p : Nat) : Prop := w.heap[g]? = some (.cells #[.pointer (some ⟨p, 0, none⟩)] 66 (0, 0))
section
variable {w w' : World} {B p s L : Nat} {P : Nat → Nat}
theorem QAt.lt {g : Nat} (h : QAt w g p) : g < w.heap.size := (Array.getElem?_eq_some_iff.1 h).1
theorem QAt.c0 {g : Nat} (h : QAt w g p) : w.cell? ⟨g, 0, none⟩ = some (.pointer (some ⟨p, 0, none⟩)) := by rw [cell_of_row _ _ 0 _ _ _ h]; rfl
theorem QAt.same {g q : Nat} (hx : QAt w g q) (hB : Below w.heap.size w w') : QAt w' g q := (hB.block _ hx.lt).trans hx
theorem Wf.qat (h : Wf B s w w') (hP : PW w B p s P L) {g q : Nat} (hx : QAt w g q) : QAt w' g q := h.kept hP hx (by decide) (by decide)
theorem Wf.nat (h : Wf B s w w') (hP : PW w B p s P L) {g : Nat} {x : Mn} {a : Option Addr} {c : Nat} (hx : NAt w g x a c) : NAt w' g x a c := h.kept hP hx (by decide) (by decide)
theorem Wf.gn (h : Wf B s w w') (hP : PW w B p s P L) {g : Nat} {x : Mn} {a : Option Addr} {c : Nat} (hx : Gn g x a c w) {w0 : World} (h0 : w0.heap.size = B) (hT : Tb w0 a x.m x.C x.T) : Gn g x a c w' := by
  refine ⟨h.nat hP hx.blk, ?_⟩
  by_cases hm : 0 < x.m
  · have hl := tb_lt hT hm
    have hl2 := tb_lt hx.tb hm
    exact tb_other hx.tb fun b o e => h.block b (hl2 b o e) (by have := hl b o e; have := hP.lts.2; omega) (Or.inl (by have := hl b o e; omega))
  · exact ⟨fun i hi => absurd hi (by omega)⟩
end
theorem _root_.Go.Proofs.Ytjlmajopfeplpaa.Sl.oth {w w' : World} {a : Option Addr} {n c : Nat} {f : Nat → Nat} {row : Option Nat} (h : Sl w a n c f) (hg : w.grownBy w' row) (hr : ∀ r, row = some r → ∃ o : Obj, w.heap[r]? = some o ∧ o.isCells = false) : Sl w' a n c f :=
  ⟨h.capOk, h.maxOk, h.bytes, h.up, h.nil, h.spot, fun ad e i hi => cell_kept (h.cell ad e i hi) hg hr⟩
/-- as written goes through the counts. -/
structure WrS (w W : World) (h : Mn) (q p s len : Nat) (rng : Nat → Prop) : Prop where
  q : QAt W q p
  be : Below w.heap.size w W
  pw : ∃ P L, PW W w.heap.size p s P L ∧ L ≤ 9 + 3 * len ∧ ∀ k, rng k → L = 9 + 3 * k ∧ ∀ i, i < L → P i = pl h i

set_option maxRecDepth 100000 in
set_option maxHeartbeats 8000000 in
theorem written_any (h : Mn) (hr : RN h) (a : Option Addr) (c : Nat) (w : World) (hT : Tb w a h.m h.C h.T) :
    Calls Try.prog 28 #[nV h a c] w fun e w' => ∃ a' c' g, e = .returned (.tuple #[.slice a' (9 + 3 * h.m) c', .int .i64 0]) ∧ Sl w' a' (9 + 3 * h.m) c' g ∧ (∀ j, j < 9 + 3 * h.m → g j = pl h j) ∧ Below w.heap.size w w' := by
  refine (callsIn_wide (n := 6)).1 ?_
  have hW : ∀ k, Fence.wide.fn k := fun _ => trivial
  have hD : Fence.wide.depth = none := rfl
  have HT := Lib.hid hT; have HR := Lib.hid hr; have HM := Lib.hid (rn_few hr)
  have HNK := Lib.hid (show Many h h.m from Or.inl ⟨hr, rfl⟩)
  have HTO := Lib.hid (fun W hT => told_any h a c W hT)
  obtain ⟨B, hB⟩ : ∃ B, B = w.heap.size := ⟨_, rfl⟩
  have HBB := Lib.hid hB
  unfold nV at HTO ⊢
  obtain ⟨w0, hw0⟩ : ∃ w0, w0 = w.alloc (.cells #[.int .i64 h.S, .int .i64 h.Q, .int .i64 h.N, .slice a h.m c] 24) := ⟨_, rfl⟩
  have HX0 := Lib.hid (show NAt w0 B h a c by rw [hw0, hB]; exact heap_alloc_new _ _)
  have HB0 := Lib.hid (show Below w.heap.size w w0 by rw [hw0]; exact (Below.refl _ w).alloc (Nat.le_refl _) _)
  have HW0 := Lib.hid hw0
  clear hT hr hw0
  refine callsIn_of_wp_marks Try.func28 rfl trivial ?_ rfl
  simp only [Try.ntmps28, List.size_toArray, List.length_cons, List.length_nil, Nat.reduceAdd, Nat.reduceSub, Array.replicate_succ, Array.replicate_zero, List.push_toArray, List.append_toArray, List.nil_append, List.cons_append]
  gi_upto_region 1 with fail
  rw [← HW0.out, ← hB]
  clear HW0 hB
  gi_wp2_with fail
  refine (callsIn_wide.2 (wnew_any w0)).mono ?_
  rintro e w1 ⟨p, s, rfl, hwr, hB1⟩
  have HX1 := Lib.hid (HX0.out.same hB1)
  have HP1 := Lib.hid (show PW w1 w.heap.size p s (pl h) 0 from PW.mono (B := w0.heap.size) ⟨none, 0, ⟨0, fun _ => 0, 0⟩, hwr, rfl, rfl, ⟨fun _ => (by show 0 < 256; omega), fun _ _ => rfl⟩, fun i hi => absurd hi (Nat.not_lt_zero i)⟩ HB0.out.size)
  have HB1 := Lib.hid (HB0.out.trans (hB1.mono HB0.out.size))
  clear hwr hB1 HX0 HB0
  gi_upto_region 2 with fail
  obtain ⟨w2, hw2⟩ : ∃ w2, w2 = w1.alloc (.cells #[.pointer (some ⟨p, 0, none⟩)] 66) := ⟨_, rfl⟩
  rw [← hw2]
  have hb2 : Below w1.heap.size w1 w2 := by rw [hw2]; exact (Below.refl _ _).alloc (Nat.le_refl _) _
  have HQ := Lib.hid (show QAt w2 w1.heap.size p by rw [hw2]; exact heap_alloc_new _ _)
  have HX := Lib.hid (HX1.out.same hb2)
  have HP := Lib.hid (HP1.out.same hb2)
  have HB := Lib.hid (HB1.out.trans (hb2.mono HB1.out.size))
  generalize w1.heap.size = q at *
  clear hw2 hb2 HX1 HP1 HB1
  have q0 := HQ.out.c0
  gi_wp2_with fail
  clear q0
  refine (callsIn_wide.2 (numbers_at w.heap.size p s (pl h) 0 1 1 (fun _ => 2) (by decide) (by omega) (by decide) (nums_ver h) w2 HB.out.size HP.out #[.int .i64 2] (at_one _))).mono ?_
  rintro e w3 ⟨rfl, hP3, hF3⟩
  have HQ3 := Lib.hid (hF3.qat HP.out HQ.out); have HX3 := Lib.hid (hF3.nat HP.out HX.out)
  have HB3 := Lib.hid (HB.out.trans (hF3.below HB.out.size HP.out.lts.2)); have HP3 := Lib.hid hP3
  clear hP3 hF3 HQ HX HB HP
  obtain ⟨c0, c1, c2, c3⟩ := HX3.out.c
  have q0 := HQ3.out.c0
  gi_wp2_with fail
  clear q0 c0 c1 c2 c3
  refine (callsIn_wide.2 (numbers_at w.heap.size p s (pl h) (0 + 1 * 1) 1 2 (fun _ => h.S) (by decide) (by omega) (by decide) (nums_S HR.out) w3 HB3.out.size HP3.out #[.int .i64 h.S] (at_one _))).mono ?_
  rintro e w4 ⟨rfl, hP4, hF4⟩
  have HQ4 := Lib.hid (hF4.qat HP3.out HQ3.out); have HX4 := Lib.hid (hF4.nat HP3.out HX3.out)
  have HB4 := Lib.hid (HB3.out.trans (hF4.below HB3.out.size HP3.out.lts.2)); have HP4 := Lib.hid hP4
  clear hP4 hF4 HQ3 HX3 HB3 HP3
  obtain ⟨c0, c1, c2, c3⟩ := HX4.out.c
  have q0 := HQ4.out.c0
  gi_wp2_with fail
  clear q0 c0 c1 c2 c3
  refine (callsIn_wide.2 (numbers_at w.heap.size p s (pl h) (0 + 1 * 1 + 1 * 2) 1 4 (fun _ => h.Q) (by decide) (by omega) (by decide) (nums_Q HR.out) w4 HB4.out.size HP4.out #[.int .i64 h.Q] (at_one _))).mono ?_
  rintro e w5 ⟨rfl, hP5, hF5⟩
  have HQ5 := Lib.hid (hF5.qat HP4.out HQ4.out); have HX5 := Lib.hid (hF5.nat HP4.out HX4.out)
  have HB5 := Lib.hid (HB4.out.trans (hF5.below HB4.out.size HP4.out.lts.2)); have HP5 := Lib.hid hP5
  clear hP5 hF5 HQ4 HX4 HB4 HP4
  obtain ⟨c0, c1, c2, c3⟩ := HX5.out.c
  have q0 := HQ5.out.c0
  gi_wp2_with fail
  clear q0 c0 c1 c2 c3
  refine (callsIn_wide.2 (numbers_at w.heap.size p s (pl h) (0 + 1 * 1 + 1 * 2 + 1 * 4) 2 1 (two h) (by decide) (by omega) (by decide) (nums_N HR.out) w5 HB5.out.size HP5.out #[.int .i64 h.N, .int .i64 (h.m : Nat)] (at_two h))).mono ?_
  rintro e w6 ⟨rfl, hP6, hF6⟩
  have HQ6 := Lib.hid (hF6.qat HP5.out HQ5.out); have HX6 := Lib.hid (hF6.nat HP5.out HX5.out)
  have HB6 := Lib.hid (HB5.out.trans (hF6.below HB5.out.size HP5.out.lts.2)); have HP6 := Lib.hid (show PW w6 w.heap.size p s (pl h) 9 from hP6)
  clear hP6 hF6 HQ5 HX5 HB5 HP5
  obtain ⟨c0, c1, c2, c3⟩ := HX6.out.c
  gi_wp2_with fail
  clear c0 c1 c2 c3
  refine (callsIn_wide.2 (HTO.out w6 (HT.out.same HB6.out))).mono ?_
  rintro e w7 ⟨rfl, hG7, hB7⟩
  have HS7 := Lib.hid (show WrS w w7 h q p s 0 (fun k => k = 0) from ⟨HQ6.out.same hB7, HB6.out.trans (hB7.mono HB6.out.size), pl h, 9, HP6.out.same hB7, by omega, fun k e => ⟨by rw [e], fun i hi => rfl⟩⟩)
  have HG7 := Lib.hid hG7
  have HZ7 := Lib.hid (show w.heap.size ≤ w7.heap.size from HS7.out.be.size)
  generalize w6.heap.size = z1 at *
  clear hG7 hB7 HQ6 HX6 HB6 HP6
  gi_wp2_with fail
  refine' wpIn_rangeFunc_ownG rfl (by omega) (gf := 47) (lb := #[.pointer (some ⟨z1, 0, none⟩)]) rfl trivial (enters_of Try.func47 (by kernel_rfl) rfl)
    (told_stops _ z1 h a c (by have := HM.out; omega) h.m HNK.out _ HG7.out) kpN_t kpN_b (Below.refl _ _) (fun _ => rfl)
    (fun pre W => WrS w W h q p s pre.length (fun k => pre.map Tk.i = List.range k))
    (fun _ _ _ => False)
    (fun t X Y row hh hg hr => by
      obtain ⟨P, L, h1, h2⟩ := hh.pw
      exact ⟨heap_kp hh.q hg (fun r e => (hr r e).2), hh.be.grown hg hh.be.size (fun r e => by have := (hr r e).1; have := HZ7.out; omega), P, L, h1.own hg (fun r e => (hr r e).2), h2⟩)
    (fun _ _ _ _ _ hs _ _ => hs)
    ⟨HS7.out.q, HS7.out.be, by
      obtain ⟨P, L, h1, h2, h3⟩ := HS7.out.pw
      exact ⟨P, L, h1, h2, fun k hk => h3 k (rng_nil hk)⟩⟩
    _ ?assign ?body ?done ?stop
  case assign =>
    intro l x W K hK
    unfold encN
    gi_wp2
    exact hK
  case body =>
    rintro l pre x W ⟨hq, hbe, P, L, hpw, hL, hrn⟩ hlen
    have hok := HR.out.2.2.2 x.i x.hi
    have hN := HR.out.2.2.1.2
    unfold CtOk at hok
    have HF1 := Lib.hid (show Fit (h.C x.i) (1 : Nat) from fit_of (by decide) (by decide) (by omega) (m := 255) (by omega) (by decide))
    have HF2 := Lib.hid (show Fit (h.T x.i) (2 : Nat) from fit_of (by decide) (by decide) (by omega) (m := 65535) (by omega) (by decide))
    have HE := Lib.hid (show ∀ k, (pre ++ [x]).map Tk.i = List.range k → L + 1 + 2 = 9 + 3 * k ∧ ∀ i, i < L + 1 + 2 → ext (ext P L (h.C x.i).toNat 1) (L + 1) (h.T x.i).toNat 2 i = pl h i from fun k hk => by
      obtain ⟨k2, rfl, h2, e⟩ := rng_snoc hk
      obtain ⟨e1, e2⟩ := hrn k2 h2
      subst e1
      refine ⟨by omega, fun i hi => ?_⟩
      rw [e]
      exact ext_pl (by have := x.hi; omega) e2 i (by omega))
    have HLL := Lib.hid (show L + 1 + 2 ≤ 9 + 3 * (pre ++ [x]).length by rw [List.length_append, List.length_singleton]; omega)
    have HL8 := Lib.hid (show L + 1 ≤ 800000000 by have := HM.out; omega)
    generalize h.C x.i = u at *
    generalize h.T x.i = v at *
    have HQ := Lib.hid hq; have HBE := Lib.hid hbe; have HPW := Lib.hid hpw
    clear hok hN hq hbe hpw hL hrn hlen
    have q0 := HQ.out.c0
    gi_wp2_with fail
    clear q0
    refine (callsIn_wide.2 (number_at w.heap.size p s P L 1 u (by have := HL8.out; omega) (by decide) HF1.out W HBE.out.size HPW.out)).mono ?_
    rintro e W2 ⟨rfl, hp2, hf2⟩
    have HQ2 := Lib.hid (hf2.qat HPW.out HQ.out); have HP2 := Lib.hid hp2; have HW2 := Lib.hid hf2
    have HBE2 := Lib.hid (HBE.out.trans (hf2.below HBE.out.size HPW.out.lts.2))
    clear hp2 hf2
    have q0 := HQ2.out.c0
    gi_wp2_with fail
    clear q0
    refine (callsIn_wide.2 (number_at w.heap.size p s _ (L + 1) 2 v HL8.out (by decide) HF2.out W2 HBE2.out.size HP2.out)).mono ?_
    rintro e W3 ⟨rfl, hp3, hf3⟩
    have HQ3 := Lib.hid (hf3.qat HP2.out HQ2.out); have HP3 := Lib.hid hp3; have HW3 := Lib.hid (HW2.out.trans hf3)
    have HBE3 := Lib.hid (HBE2.out.trans (hf3.below HBE2.out.size HP2.out.lts.2))
    clear hp3 hf3
    gi_wp2
    exact ⟨(HW3.out.others HPW.out).from _, fun g => HW3.out.gn HPW.out g rfl HT.out, HQ3.out, HBE3.out, _, _, HP3.out, HLL.out, HE.out⟩
  case done =>
    rintro D ys W hD hys ⟨hq, hbe, P, L, hpw, hL, hrn⟩ hK
    obtain ⟨rfl, hP⟩ := hrn h.m hys
    obtain ⟨a5, c5, S5, hW5, h05, hL5, hO5, hf5⟩ := hpw
    have HW5 := Lib.hid hW5; have H05 := Lib.hid h05; have HO5 := Lib.hid hO5; have HF5 := Lib.hid (fun i hi => (hf5 i hi).trans (hP i hi))
    have HL5 := Lib.hid (show S5.m = 9 + 3 * h.m by unfold Bs.m; rw [if_pos h05, hL5])
    have HSL5 := Lib.hid (show S5.l ≤ 900000000 by rw [hL5]; have := HM.out; omega)
    have HBE := Lib.hid hbe
    have q0 := hq.c0
    clear hq hbe hL hrn hP hW5 h05 hL5 hO5 hf5 hys
    have HK := Lib.hid hK
    clear hK
    gi_wp2_with fail
    clear q0
    refine (callsIn_wide.2 (wbytes_any w.heap.size p s a5 c5 S5 HO5.out HSL5.out W HW5.out)).mono ?_
    rintro e w9 ⟨a6, c6, rfl, hN6, hB6⟩
    rw [HL5.out] at hN6
    rw [HL5.out, H05.out]
    have HK9 := Lib.hid ((hB6.block D (Array.getElem?_eq_some_iff.1 HK.out).1).trans HK.out)
    have HS6 := Lib.hid hN6.sl
    have HB6 := Lib.hid (HBE.out.trans (hB6.mono HBE.out.size))
    clear hN6 hB6
    gi_wp2
    refine ⟨by simp, .inl ⟨_, _, rfl, run_takeDeferred HK9.out, ?_⟩⟩
    have hb9 : Below w.heap.size w (w9.putObj D (.deferred none)) := HB6.out.grown (grownBy_putObj' w9 D _) HB6.out.size (fun r e => by cases e; have := HZ7.out; omega)
    exact ⟨_, results_tmp2 rfl _ _ _, ⟨a6, c6, _, rfl, HS6.out.oth (grownBy_putObj' w9 D _) (fun r e => by cases e; exact ⟨_, HK9.out, rfl⟩), fun j hj => (by unfold Bs.g; rw [if_pos H05.out]; exact HF5.out j (by omega)), hb9⟩⟩
  case stop => exact fun _ _ _ _ _ _ h _ => h.elim
end Go.Proofs.Ytjlmajopfeplpaa.Nt

namespace Go.Proofs.Ytjlmajopfeplpaa.Nt
open Go.RowKit Go.Shelf
attribute [local go_sem] Oper.semAt_some

/-- a number at a place, if its bytes are there. -/
def val (N : Nat) (F : Nat → Nat) (k z : Nat) : Nat := if k + z ≤ N then vn (fun j => F (k + j)) z else 0
theorem val_lt {N : Nat} {F : Nat → Nat} (hF : Pf.By F) (k z : Nat) : val N F k z < 256 ^ z := by
  unfold val; split
  · exact vn_lt (fun j => hF _) z
  · exact Nat.pow_pos (by decide)
theorem val_one {N : Nat} {F : Nat → Nat} {k : Nat} (h : k + 1 ≤ N) : val N F k 1 = F k := by
  unfold val; rw [if_pos h]; simp [vn]
/-- a reader of N bytes F, of which k were asked for. -/
def RS (w : World) (B H p s N : Nat) (F : Nat → Nat) (k : Nat) : Prop :=
  ∃ a c S, Rr w B p s a c S ∧ S.Ok ∧ (p < H ∧ s < H ∧ ∀ ad, a = some ad → ad.block < H) ∧ S.l ≤ 900000000 ∧ ((S.e = 0 ∧ k ≤ N ∧ S.l = N - k ∧ ∀ j, j < N - k → S.f j = F (k + j)) ∨ (S.e = 4 ∧ N < k))
section
variable {w w' : World} {B H p s N k : Nat} {F : Nat → Nat}
theorem RS.kept (h : RS w B H p s N F k) (hsz : w.heap.size ≤ w'.heap.size) (hk : ∀ i, i < H → w'.heap[i]? = w.heap[i]?) : RS w' B H p s N F k := by
  obtain ⟨a, c, S, h1, h2, ⟨hp, hs, ha⟩, h4⟩ := h
  exact ⟨a, c, S, h1.kept hsz (hk p hp) (hk s hs) (fun ad e => hk _ (ha ad e)), h2, ⟨hp, hs, ha⟩, h4⟩
theorem RS.same (h : RS w B H p s N F k) (hB : Below w.heap.size w w') (hH : H ≤ w.heap.size) : RS w' B H p s N F k := h.kept hB.size fun i hi => hB.block i (by omega)
theorem RS.set (h : RS w B H p s N F k) {g i : Nat} {v : Value} (hg : H ≤ g) : RS (w.setCell ⟨g, i, none⟩ v) B H p s N F k := h.kept (by simp) fun j hj => heap_setCell_other _ _ _ _ (fun e => by have e2 : j = g := e; omega)
theorem but2_drew (s : Nat) (w : World) : But2 s s w w.drew := ⟨rfl, rfl, rfl, Nat.le_refl _, fun _ _ _ _ => rfl⟩
theorem RS.ltS (h : RS w B H p s N F k) : s < H := by obtain ⟨a, c, S, h1, h2, ⟨hp, hs, ha⟩, h4⟩ := h; exact hs
theorem RS.top (h : RS w B H p s N F k) : RS w B w.heap.size p s N F k := by
  obtain ⟨a, c, S, h1, h2, ⟨hp, hs, ha⟩, h4⟩ := h
  exact ⟨a, c, S, h1, h2, ⟨h1.box.lt, h1.lts, fun ad e => (h1.ha ad e).2.1⟩, h4⟩
/-- what a number that is read is. -/
theorem RS.num {x : Ending} {a : Option Addr} {S : Bs} (hO : S.Ok) (hH : p < H ∧ s < H ∧ ∀ ad, a = some ad → ad.block < H) (hl : S.l ≤ 900000000) (hc : (S.e = 0 ∧ k ≤ N ∧ S.l = N - k ∧ ∀ j, j < N - k → S.f j = F (k + j)) ∨ (S.e = 4 ∧ N < k)) {z : Nat} (h1 : 1 ≤ z) (h4 : z ≤ 4)
    (hx : x = .returned (.int .i64 (S.rval (z : Nat) : Nat))) (hr : Red w B p s a (S.rnum (z : Nat)) w') : x = .returned (.int .i64 (val N F k z : Nat)) ∧ RS w' B H p s N F (k + z) ∧ But2 s s w w' := by
  obtain ⟨⟨a', c', hrr, hab⟩, hbut⟩ := hr
  have hH' : p < H ∧ s < H ∧ ∀ ad, a' = some ad → ad.block < H := ⟨hH.1, hH.2.1, fun ad e => by
    obtain ⟨ad', e', hb⟩ := hab ad e
    rw [hb]; exact hH.2.2 ad' e'⟩
  have hO' := hO.rnum (z : Nat)
  have hl' := Nat.le_trans (Bs.rnum_len S (z : Nat)) hl
  rcases hc with ⟨he, hkN, hlN, hf⟩ | ⟨he, hkN⟩
  · by_cases hz : k + z ≤ N
    · have hv : S.rval (z : Nat) = val N F k z := by
        unfold Bs.rval val
        rw [if_pos ⟨he, by omega, by omega⟩, if_pos hz, Int.toNat_natCast]
        exact vn_congr z fun i hi => hf i (by omega)
      have hS : S.rnum (z : Nat) = S.cut z := by
        unfold Bs.rnum Bs.take
        rw [if_neg (by simp [he]), if_pos (by omega), if_neg (by simp [he]), if_neg (by omega), if_neg (by omega), Int.toNat_natCast]
      rw [hS] at hrr hO' hl'
      refine ⟨by rw [hx, hv], ⟨a', c', _, hrr, hO', hH', hl', Or.inl ⟨he, hz, ?_, fun j hj => ?_⟩⟩, hbut⟩
      · show S.l - z = N - (k + z)
        omega
      · show sub S.f z (S.l - z) j = _
        unfold sub
        rw [if_pos (by omega), hf (z + j) (by omega)]
        congr 1; omega
    · have hv : S.rval (z : Nat) = val N F k z := by
        unfold Bs.rval val
        rw [if_neg (by omega), if_neg hz]
      have hS : S.rnum (z : Nat) = S.broke 4 := by
        unfold Bs.rnum Bs.take
        rw [if_neg (by simp [he]), if_pos (by omega), if_neg (by simp [he]), if_neg (by omega), if_pos (by omega)]
      rw [hS] at hrr hO' hl'
      exact ⟨by rw [hx, hv], ⟨a', c', _, hrr, hO', hH', hl', Or.inr ⟨rfl, by omega⟩⟩, hbut⟩
  · have hv : S.rval (z : Nat) = val N F k z := by
      unfold Bs.rval val
      rw [if_neg (by rw [he]; omega), if_neg (by omega)]
    have hS : S.rnum (z : Nat) = S := by
      unfold Bs.rnum
      rw [if_pos (by rw [he]; decide)]
    rw [hS] at hrr hO' hl'
    exact ⟨by rw [hx, hv], ⟨a', c', _, hrr, hO', hH', hl', Or.inr ⟨he, by omega⟩⟩, hbut⟩
theorem rnumber_at (z : Nat) (h1 : 1 ≤ z) (h4 : z ≤ 4) (w : World) (h : RS w B H p s N F k) :
    Calls Try.prog 53 #[.pointer (some ⟨p, 0, none⟩), .int .i64 (z : Nat)] w fun x w' => x = .returned (.int .i64 (val N F k z : Nat)) ∧ RS w' B H p s N F (k + z) ∧ But2 s s w w' := by
  obtain ⟨a, c, S, hR, hO, hH, hl, hc⟩ := h
  exact (rnum_any B p s a c S (z : Nat) hO hl w hR).mono fun x w' hh => RS.num hO hH hl hc h1 h4 hh.1 hh.2
/-- a block that is not the stock's stays. -/
theorem but2_kept {g : Nat} (hb : But2 s s w w') (hg : g < w.heap.size) (hs : g ≠ s) : w'.heap[g]? = w.heap[g]? := hb.block g hg hs hs
theorem RS.monoB {B' : Nat} (h : RS w B H p s N F k) (hB : B' ≤ B) : RS w B' H p s N F k := by
  obtain ⟨a, c, S, h1, h2⟩ := h
  exact ⟨a, c, S, ⟨h1.box, h1.stk, Nat.le_trans hB h1.hp, Nat.le_trans hB h1.hs, fun ad e => ⟨Nat.le_trans hB (h1.ha ad e).1, (h1.ha ad e).2⟩⟩, h2⟩
theorem RS.bs (h : RS w B H p s N F k) : B ≤ s := by
  obtain ⟨a, c, S, h1, h2⟩ := h
  exact h1.hs
theorem but2_below {s B : Nat} {w w' : World} (h : But2 s s w w') (h0 : B ≤ w.heap.size) (h1 : B ≤ s) : Below B w w' := h.below h0 h1 h1
theorem RS.stk (h : RS w B H p s N F k) : ∃ vs, w.heap[s]? = some (.cells vs 88 (0, 0)) := by
  obtain ⟨a, c, S, h1, _⟩ := h
  obtain ⟨l, k1, _⟩ := h1.stk
  exact ⟨_, k1⟩
theorem RS.others (h : RS w B H p s N F k) (hb : But2 s s w w') : KeepsOthers w w' := ⟨hb.size, fun j o hj ho => by
  obtain ⟨vs, hs⟩ := h.stk
  have hne : j ≠ s := fun e => by rw [e, hs] at hj; cases hj; cases ho
  exact (hb.block j (Array.getElem?_eq_some_iff.1 hj).1 hne hne).trans hj⟩
theorem RS.own {row : Option Nat} (h : RS w B H p s N F k) (hg : w.grownBy w' row) (hr : ∀ r, row = some r → ∃ o : Obj, w.heap[r]? = some o ∧ o.isCells = false) : RS w' B H p s N F k := by
  obtain ⟨a, c, S, h1, h2, h3, h4⟩ := h
  have kp : ∀ {k : Nat} {cs : Array Value} {t : TypeId} {z : Nat × Nat}, w.heap[k]? = some (.cells cs t z) → w'.heap[k]? = w.heap[k]? := fun e => (heap_kp e hg hr).trans e.symm
  obtain ⟨l, k1, k2⟩ := h1.stk
  refine ⟨a, c, S, ⟨(kp h1.box).trans h1.box, ⟨l, (kp k1).trans k1, fun e => ⟨(k2 e).1, (k2 e).2.oth hg hr⟩⟩, h1.hp, h1.hs, fun ad e => ⟨(h1.ha ad e).1, Nat.lt_of_lt_of_le (h1.ha ad e).2.1 hg.size, (h1.ha ad e).2.2⟩⟩, h2, h3, h4⟩
end

set_option maxHeartbeats 4000000 in
set_option maxRecDepth 100000 in
/-- numbers of one size are read to places; J j holds where j of them were stored. -/
theorem rnumbers_any (z : Nat) (h1 : 1 ≤ z) (h4 : z ≤ 4) (cnt : Nat) (hc : cnt ≤ 2) (B H p s N k : Nat) (F : Nat → Nat) (pb po : Nat → Nat) (J : Nat → World → Prop)
    (hJb : ∀ j A C, J j A → But2 s s A C → J j C)
    (hJc : ∀ j A, j < cnt → J j A → (∃ v, A.cell? ⟨pb j, po j, none⟩ = some v) ∧ A.frozen? ⟨pb j, po j, none⟩ = false)
    (hJs : ∀ j A, j < cnt → J j A → J (j + 1) (A.setCell ⟨pb j, po j, none⟩ (.int .i64 (val N F (k + j * z) z : Nat))))
    (g : Nat) (vs : Array Value) (w : World) (hH : ∀ j, j < cnt → H ≤ pb j ∧ pb j < w.heap.size ∧ pb j ≠ g) (hgs : g ≠ s) (hHw : H ≤ w.heap.size)
    (hg : w.heap[g]? = some (.cells vs 77 (0, 0))) (hv : ∀ j, j < cnt → vs[j]? = some (.pointer (some ⟨pb j, po j, none⟩))) (hR : RS w B H p s N F k) (hJ0 : J 0 w) :
    Calls Try.prog 54 #[.agg #[.pointer (some ⟨p, 0, none⟩)], .int .i64 (z : Nat), .slice (some ⟨g, 0, none⟩) cnt cnt] w fun e w' => e = .returned (.tuple #[]) ∧ RS w' B H p s N F (k + cnt * z) ∧ J cnt w' ∧ KeepsOthers w w' := by
  obtain ⟨w1, hw1⟩ : ∃ w1, w1 = w.alloc (.cells #[.pointer (some ⟨p, 0, none⟩)] 58) := ⟨_, rfl⟩
  have hb1 : Below w.heap.size w w1 := by rw [hw1]; exact (Below.refl _ w).alloc (Nat.le_refl _) _
  have HX := Lib.hid (show w1.heap[w.heap.size]? = some (.cells #[.pointer (some ⟨p, 0, none⟩)] 58 (0, 0)) by rw [hw1]; exact heap_alloc_new _ _)
  have HG := Lib.hid (show w1.heap[g]? = some (.cells vs 77 (0, 0)) from (hb1.block g (Array.getElem?_eq_some_iff.1 hg).1).trans hg)
  have HR := Lib.hid (hR.same hb1 hHw); have HJ := Lib.hid (hJb _ _ _ hJ0 (But2.of hb1))
  have HKO := Lib.hid (show KeepsOthers w w1 by rw [hw1]; exact KeepsOthers.alloc _ _)
  have HWS := Lib.hid (show w.heap.size ≠ s by have := hR.ltS; omega)
  have HGL := Lib.hid (Array.getElem?_eq_some_iff.1 hg).1
  have HW1 := Lib.hid hw1; have HH := Lib.hid hH; have HV := Lib.hid hv; have HGS := Lib.hid hgs
  have HJB := Lib.hid hJb; have HJC := Lib.hid hJc; have HJS := Lib.hid hJs
  have HC := Lib.hid hc; have HZ := Lib.hid (And.intro h1 h4)
  clear hw1 hb1 hg hR hJ0 hH hv hgs hHw hJb hJc hJs hc h1 h4
  go_enter Try.func54, Try.ntmps54
  go_upto_region 1 with fail
  rw [← HW1.out]
  generalize hwg : w.heap.size = wg at *
  clear HW1
  go_wp2_with fail
  go_loopw [7, 10] (fun _ i wr => ∃ (j : Nat) (W : World), W = wr ∧ j ≤ cnt ∧ i = .int .i64 (j : Nat) ∧ RS wr B H p s N F (k + j * z) ∧ J j wr ∧ KeepsOthers w1 wr ∧ wr.heap[wg]? = some (.cells #[.pointer (some ⟨p, 0, none⟩)] 58 (0, 0)) ∧ wr.heap[g]? = some (.cells vs 77 (0, 0))) (fun _ i _ => cnt - (intOf i).toNat)
  case atStart => exact ⟨0, _, rfl, by omega, rfl, by simpa using HR.out, HJ.out, KeepsOthers.refl _, HX.out, HG.out⟩
  case round =>
    obtain ⟨j, wx, rfl, hj, rfl, hR, hJ, hK, hx, hg⟩ := hrel
    by_cases hlt : j < cnt
    · have i1 : (j : Int) < (cnt : Int) := by omega
      have c0 : wx.cell? ⟨wg, 0, none⟩ = some (.pointer (some ⟨p, 0, none⟩)) := by rw [cell_of_row _ _ 0 _ _ _ hx]; rfl
      have c1 : wx.cell? ⟨g, j, none⟩ = some (.pointer (some ⟨pb j, po j, none⟩)) := by rw [cell_of_row _ _ j _ _ _ hg]; exact HV.out j hlt
      have HRX := Lib.hid hR; have HJX := Lib.hid hJ; have HKX := Lib.hid hK; have HXX := Lib.hid hx; have HGX := Lib.hid hg; have HLT := Lib.hid hlt
      obtain ⟨b, hb⟩ : ∃ b, b = pb j := ⟨_, rfl⟩
      obtain ⟨o, ho⟩ : ∃ o, o = po j := ⟨_, rfl⟩
      rw [← hb, ← ho] at c1
      have HEB := Lib.hid hb; have HEO := Lib.hid ho
      clear hR hJ hK hx hg hb ho hlt hj
      go_wp2_with fail
      clear c0 c1
      refine (rnumber_at z HZ.out.1 HZ.out.2 wx HRX.out).mono ?_
      rintro e w2 ⟨rfl, hr2, hb2⟩
      have hJ2 := HJB.out _ _ _ HJX.out hb2
      obtain ⟨⟨v, hcv⟩, hfz⟩ := HJC.out j w2 HLT.out hJ2
      have hJ3 := HJS.out j w2 HLT.out hJ2
      rw [← HEB.out, ← HEO.out] at hcv hfz hJ3
      have HH2 := HH.out j HLT.out
      rw [← HEB.out] at HH2
      have HJ3 := Lib.hid hJ3
      have HR3 := Lib.hid (show RS (w2.setCell ⟨b, o, none⟩ (.int .i64 (val N F (k + j * z) z : Nat))) B H p s N F (k + (j + 1) * z) by rw [Nat.succ_mul, ← Nat.add_assoc]; exact hr2.set HH2.1)
      have HK3 := Lib.hid ((HKX.out.trans (HRX.out.others hb2)).trans (KeepsOthers.setCell w2 ⟨b, o, none⟩ (.int .i64 (val N F (k + j * z) z : Nat))))
      have HX3 := Lib.hid (show (w2.setCell ⟨b, o, none⟩ (.int .i64 (val N F (k + j * z) z : Nat))).heap[wg]? = _ from (heap_setCell_other _ _ _ _ (fun e => by have e2 : wg = b := e; omega)).trans ((but2_kept hb2 (Array.getElem?_eq_some_iff.1 HXX.out).1 HWS.out).trans HXX.out))
      have HG3 := Lib.hid (show (w2.setCell ⟨b, o, none⟩ (.int .i64 (val N F (k + j * z) z : Nat))).heap[g]? = _ from (heap_setCell_other _ _ _ _ (fun e => by have e2 : g = b := e; omega)).trans ((but2_kept hb2 (Array.getElem?_eq_some_iff.1 HGX.out).1 HGS.out).trans HGX.out))
      generalize val N F (k + j * z) z = x at *
      clear hr2 hb2 hJ2 hJ3 HH2
      have hc2 := HC.out
      go_wp2
      go_roundw
      case rel => exact ⟨j + 1, _, rfl, by have := HLT.out; omega, by go_num, HR3.out, HJ3.out, HK3.out, HX3.out, HG3.out⟩
      case measure => simp [intOf]; have := HLT.out; omega
    · obtain rfl : j = cnt := by omega
      have i1 : ¬ (j : Int) < (j : Int) := by omega
      have HRX := Lib.hid hR; have HJX := Lib.hid hJ; have HKX := Lib.hid hK
      clear hR hJ hK hx hg
      go_wp2
      go_end0
      exact ⟨rfl, HRX.out, HJX.out, HKO.out.trans HKX.out⟩
end Go.Proofs.Ytjlmajopfeplpaa.Nt

namespace Go.Proofs.Ytjlmajopfeplpaa.Nt
open Go.RowKit Go.Shelf
attribute [local go_sem] Oper.semAt_some

theorem but2_set {s : Nat} {w W : World} {g i : Nat} {v : Value} (hb : But2 s s w W) (hg : w.heap.size ≤ g) : But2 s s w (W.setCell ⟨g, i, none⟩ v) :=
  ⟨hb.os, hb.tape, hb.output, by simp; exact hb.size, fun k h1 h2 h3 => (heap_setCell_other _ _ _ _ (fun e => by have e2 : k = g := e; omega)).trans (hb.block k h1 h2 h3)⟩
theorem own_oth {w w' : World} {B s n : Nat} {e : TypeId} {v : Value} {xs : List Value} (h : w.ownsRow B e s v n xs) (hk : ∀ g, B ≤ g → g < w.heap.size → w'.heap[g]? = w.heap[g]?) : w'.ownsRow B e s v n xs := by
  obtain ⟨h1, h2 | ⟨g, cap, cur, q1, q2, q3, q4⟩⟩ := h
  · exact ⟨h1, Or.inl h2⟩
  · exact ⟨h1, Or.inr ⟨g, cap, cur, q1, q2, (hk g q2 (Array.getElem?_eq_some_iff.1 q3).1).trans q3, q4⟩⟩
theorem own_mono {w : World} {B B' s n : Nat} {e : TypeId} {v : Value} {xs : List Value} (h : w.ownsRow B e s v n xs) (hB : B' ≤ B) : w.ownsRow B' e s v n xs := by
  obtain ⟨h1, h2 | ⟨g, cap, cur, q1, q2, q3⟩⟩ := h
  · exact ⟨h1, Or.inl h2⟩
  · exact ⟨h1, Or.inr ⟨g, cap, cur, q1, Nat.le_trans hB q2, q3⟩⟩

theorem ZAt.but {A C : World} {g s : Nat} {x y : Int} (h : ZAt A g x y) (hb : But2 s s A C) (hg : g ≠ s) : ZAt C g x y := (hb.block g h.lt hg hg).trans h
theorem ZAt.set0 {A : World} {g : Nat} {x y : Int} (h : ZAt A g x y) (v : Int) : ZAt (A.setCell ⟨g, 0, none⟩ (.int .i64 v)) g v y := heap_setCell_same A g 0 _ _ _ h
theorem ZAt.set1 {A : World} {g : Nat} {x y : Int} (h : ZAt A g x y) (v : Int) : ZAt (A.setCell ⟨g, 1, none⟩ (.int .i64 v)) g x v := heap_setCell_same A g 1 _ _ _ h
theorem ZAt.free {A : World} {g : Nat} {x y : Int} (h : ZAt A g x y) (i : Nat) : A.frozen? ⟨g, i, none⟩ = false := frozen_of_row A g i _ _ h
theorem at_ptr (b o : Nat) : ∀ j, j < 1 → (#[Value.pointer (some ⟨b, o, none⟩)])[j]? = some (.pointer (some ⟨(fun _ : Nat => b) j, (fun _ : Nat => o) j, none⟩)) := fun j hj => by
  have e : j = 0 := by omega
  subst e; rfl
section
variable {B H p s N k : Nat} {F : Nat → Nat}
/-- a call of numbers with one place, whose row was just laid. -/
theorem rnum1_at (z : Nat) (h1 : 1 ≤ z) (h4 : z ≤ 4) (b o : Nat) (J0 J1 : World → Prop) (hb0 : ∀ A C, J0 A → But2 s s A C → J0 C) (hb1 : ∀ A C, J1 A → But2 s s A C → J1 C)
    (hc : ∀ A, J0 A → (∃ v, A.cell? ⟨b, o, none⟩ = some v) ∧ A.frozen? ⟨b, o, none⟩ = false) (hs : ∀ A, J0 A → J1 (A.setCell ⟨b, o, none⟩ (.int .i64 (val N F k z : Nat))))
    (w : World) (hb : H ≤ b ∧ b < w.heap.size) (hHw : H ≤ w.heap.size) (hR : RS w B H p s N F k) (hJ : J0 w) :
    Calls Try.prog 54 #[.agg #[.pointer (some ⟨p, 0, none⟩)], .int .i64 (z : Nat), .slice (some ⟨w.heap.size, 0, none⟩) 1 1] (w.alloc (.cells #[.pointer (some ⟨b, o, none⟩)] 77)) fun e w' =>
      e = .returned (.tuple #[]) ∧ RS w' B H p s N F (k + z) ∧ J1 w' ∧ KeepsOthers w w' := by
  have hbw : Below w.heap.size w (w.alloc (.cells #[.pointer (some ⟨b, o, none⟩)] 77)) := (Below.refl _ w).alloc (Nat.le_refl _) _
  have hsl := hR.ltS
  refine (rnumbers_any z h1 h4 1 (by decide) B H p s N k F (fun _ => b) (fun _ => o) (fun j A => if j = 0 then J0 A else J1 A) (fun j A C hj hbt => ?_) (fun j A hj hJ => ?_) (fun j A hj hJ => ?_)
    w.heap.size #[.pointer (some ⟨b, o, none⟩)] _ (fun _ _ => ⟨hb.1, Nat.lt_of_lt_of_le hb.2 hbw.size, Nat.ne_of_lt hb.2⟩) (Nat.ne_of_gt (Nat.lt_of_lt_of_le hsl hHw)) (Nat.le_trans hHw hbw.size) (heap_alloc_new _ _) (at_ptr b o) (hR.same hbw hHw) ?_).mono ?_
  · by_cases e : j = 0
    · rw [if_pos e] at hj ⊢; exact hb0 _ _ hj hbt
    · rw [if_neg e] at hj ⊢; exact hb1 _ _ hj hbt
  · obtain rfl : j = 0 := by omega
    rw [if_pos rfl] at hJ; exact hc A hJ
  · obtain rfl : j = 0 := by omega
    rw [if_pos rfl] at hJ
    rw [if_neg (by omega), Nat.zero_mul, Nat.add_zero]; exact hs A hJ
  · rw [if_pos rfl]; exact hb0 _ _ hJ (But2.of hbw)
  · rintro e w' ⟨q1, q2, q3, q4⟩
    rw [if_neg (by omega)] at q3
    rw [Nat.one_mul] at q2
    exact ⟨q1, q2, q3, (KeepsOthers.alloc w _).trans q4⟩
end
/-- the blocks below stay. -/
def Kq (H2 : Nat) (A C : World) : Prop := A.heap.size ≤ C.heap.size ∧ ∀ i, i < H2 → C.heap[i]? = A.heap[i]?
theorem kq_t {H2 : Nat} {A C D : World} (h : Kq H2 A C) (k : Kq H2 C D) : Kq H2 A D := ⟨Nat.le_trans h.1 k.1, fun i hi => (k.2 i hi).trans (h.2 i hi)⟩
/-- counts as they are read. -/
def rC (N : Nat) (F : Nat → Nat) (K0 i : Nat) : Int := (val N F (K0 + 3 * i) 1 : Nat)
def rT (N : Nat) (F : Nat → Nat) (K0 i : Nat) : Int := (val N F (K0 + 3 * i + 1) 2 : Nat)
/-- what comes at a place. -/
def encR (N : Nat) (F : Nat → Nat) (K0 i : Nat) : Array Value := #[.agg #[.int .i64 (rC N F K0 i), .int .i64 (rT N F K0 i)]]

set_option maxRecDepth 100000 in
set_option maxHeartbeats 4000000 in
/-- counts' function. -/
theorem counts1_in (m0 l mb rb H2 K0 many : Nat) (B H p s N : Nat) (F : Nat → Nat) (hH : H ≤ H2) (hmb : H ≤ mb ∧ mb < H2) (hrb : H ≤ rb ∧ rb < H2) (hmn : many ≤ 255)
    (C : List (Tk many) → World → Prop) (hC : ∀ t A D, C t A → But2 s s A D → C t D) (Pk : World → Prop) (hPk : ∀ A D, Pk A → KeepsOthers A D → Pk D)
    (hY : ∀ pre x W, C pre W → Pk W → pre.length < many → YieldAt Fence.wide (m0 - 1) Try.prog l (encR N F K0 x.i) W fun e W' => e = .returned (.bool true) ∧ C (pre ++ [x]) W' ∧ Pk W' ∧ Kq H2 W W')
    (W : World) (hHw : H2 ≤ W.heap.size) (hm : W.heap[mb]? = some (.cells #[.int .i64 (many : Nat)] 3 (0, 0))) (hr : W.heap[rb]? = some (.cells #[.pointer (some ⟨p, 0, none⟩)] 58 (0, 0)))
    (hR : RS W B H p s N F K0) (h0 : C [] W) (hP0 : Pk W) :
    CallsIn Fence.wide m0 Try.prog 73 #[.func (.yield l) #[] #[], .pointer (some ⟨mb, 0, none⟩), .pointer (some ⟨rb, 0, none⟩)] W fun e W' => (∃ v, e = .returned v) ∧
      ∃ ys : List (Tk many), (ys.map Tk.i = List.range many ∧ C ys W' ∧ RS W' B H p s N F (K0 + 3 * many)) ∧ Pk W' := by
  have hW : ∀ k, Fence.wide.fn k := fun _ => trivial
  have hD : Fence.wide.depth = none := rfl
  have c0 : W.cell? ⟨mb, 0, none⟩ = some (.int .i64 (many : Nat)) := by rw [cell_of_row _ _ 0 _ _ _ hm]; rfl
  have HM := Lib.hid hm; have HRB := Lib.hid hr; have HR0 := Lib.hid hR; have H00 := Lib.hid h0; have HP0 := Lib.hid hP0
  have HB := Lib.hid (And.intro hH (And.intro hmb (And.intro hrb hHw))); have HS := Lib.hid hR.ltS
  have HY := Lib.hid hY; have HC := Lib.hid hC; have HPK := Lib.hid hPk; have HMN := Lib.hid hmn
  clear hm hr hR h0 hP0 hH hmb hrb hHw hY hC hPk hmn
  refine callsIn_of_wp Try.func73 rfl trivial ?_ rfl
  simp only [Try.ntmps73, List.size_toArray, List.length_cons, List.length_nil, Nat.reduceAdd, Nat.reduceSub, Array.replicate_succ, Array.replicate_zero, List.push_toArray, List.append_toArray, List.nil_append, List.cons_append]
  gi_wp2_with fail
  clear c0
  gi_loopw [4, 6] (fun _ i wr => ∃ k : Nat, k ≤ many ∧ i = .int .i64 (k : Nat) ∧ (∃ pre : List (Tk many), pre.map Tk.i = List.range k ∧ C pre wr) ∧ RS wr B H p s N F (K0 + 3 * k) ∧ Pk wr ∧ H2 ≤ wr.heap.size ∧ wr.heap[mb]? = some (.cells #[.int .i64 (many : Nat)] 3 (0, 0)) ∧ wr.heap[rb]? = some (.cells #[.pointer (some ⟨p, 0, none⟩)] 58 (0, 0)))
    (fun _ i _ => many - (intOf i).toNat)
  case atStart => exact ⟨0, Nat.zero_le _, rfl, ⟨[], rfl, H00.out⟩, HR0.out, HP0.out, HB.out.2.2.2, HM.out, HRB.out⟩
  case round =>
    rename_i wr
    obtain ⟨k, hk1, rfl, ⟨pre, hp, hJs⟩, hR, hPw, hHw, hm, hr⟩ := hrel
    have HP := Lib.hid hp; have HJ := Lib.hid hJs; have HRX := Lib.hid hR; have HPW := Lib.hid hPw; have HHW := Lib.hid hHw; have HMX := Lib.hid hm; have HRBX := Lib.hid hr
    clear hp hJs hR hPw hHw hm hr
    by_cases hkn : k < many
    · have i1 : (k : Int) < (many : Int) := by omega
      have HK := Lib.hid hkn
      clear hk1 hkn
      gi_upto_region 3 with fail
      obtain ⟨w2, hw2⟩ : ∃ w2, w2 = wr.alloc (.cells #[.int .i64 0, .int .i64 0] 41) := ⟨_, rfl⟩
      rw [← hw2]
      have hb2 : Below wr.heap.size wr w2 := by rw [hw2]; exact (Below.refl _ _).alloc (Nat.le_refl _) _
      have hz2 : w2.heap.size = wr.heap.size + 1 := by rw [hw2, World.size_alloc]
      have HZ2 := Lib.hid (show ZAt w2 wr.heap.size 0 0 by rw [hw2]; exact heap_alloc_new _ _)
      have HBT := Lib.hid (show But2 s s wr w2 from But2.of hb2)
      have HKO := Lib.hid (show KeepsOthers wr w2 by rw [hw2]; exact KeepsOthers.alloc _ _)
      obtain ⟨cb, hcb⟩ : ∃ cb, cb = wr.heap.size := ⟨_, rfl⟩
      rw [← hcb] at HZ2 ⊢
      have HCB := Lib.hid (show H2 ≤ cb ∧ cb ≠ s ∧ cb < w2.heap.size ∧ wr.heap.size ≤ cb from ⟨by rw [hcb]; exact HHW.out, by have := HS.out; have := HB.out.1; have := HHW.out; omega, by omega, by omega⟩)
      have HR2 := Lib.hid (HRX.out.same hb2 (by have := HB.out.1; have := HHW.out; omega))
      have HRB2 := Lib.hid ((hb2.block rb (by have := HB.out.2.2.1.2; have := HHW.out; omega)).trans HRBX.out)
      have HSZ := Lib.hid (show H ≤ w2.heap.size by have := HB.out.1; have := HHW.out; omega)
      clear hw2 hb2 hz2 hcb
      have c0 : w2.cell? ⟨rb, 0, none⟩ = some (.pointer (some ⟨p, 0, none⟩)) := by rw [cell_of_row _ _ 0 _ _ _ HRB2.out]; rfl
      gi_wp2_with fail
      clear c0
      obtain ⟨x, hx⟩ : ∃ x : Int, x = rC N F K0 k := ⟨_, rfl⟩
      obtain ⟨y, hy⟩ : ∃ y : Int, y = rT N F K0 k := ⟨_, rfl⟩
      have HX := Lib.hid hx; have HYY := Lib.hid hy
      refine (callsIn_wide.2 (rnum1_at 1 (by decide) (by decide) cb 0 (fun A => ZAt A cb 0 0 ∧ But2 s s wr A) (fun A => ZAt A cb x 0 ∧ But2 s s wr A)
        (fun A D h hb => ⟨h.1.but hb HCB.out.2.1, h.2.trans hb⟩) (fun A D h hb => ⟨h.1.but hb HCB.out.2.1, h.2.trans hb⟩) (fun A h => ⟨⟨_, h.1.c.1⟩, h.1.free 0⟩)
        (fun A h => ⟨by rw [hx]; exact h.1.set0 _, but2_set h.2 HCB.out.2.2.2⟩) w2 ⟨by have := HB.out.1; have := HCB.out.1; omega, HCB.out.2.2.1⟩ HSZ.out HR2.out ⟨HZ2.out, HBT.out⟩)).mono ?_
      rintro e w3 ⟨rfl, hR3, ⟨hZ3, hB3⟩, hK3⟩
      have HR3 := Lib.hid hR3; have HZ3 := Lib.hid hZ3; have HB3 := Lib.hid hB3; have HK3 := Lib.hid (HKO.out.trans hK3)
      have HRB3 := Lib.hid ((hB3.block rb (by have := HB.out.2.2.1.2; have := HHW.out; omega) (by have := HRB2.out; intro e; obtain ⟨vs, hs⟩ := HRX.out.stk; rw [← e, HRBX.out] at hs; cases hs) (by intro e; obtain ⟨vs, hs⟩ := HRX.out.stk; rw [← e, HRBX.out] at hs; cases hs)).trans HRBX.out)
      clear hR3 hZ3 hB3 hK3 HR2 HZ2 HBT HKO hx hy
      have c0 : w3.cell? ⟨rb, 0, none⟩ = some (.pointer (some ⟨p, 0, none⟩)) := by rw [cell_of_row _ _ 0 _ _ _ HRB3.out]; rfl
      gi_wp2_with fail
      clear c0
      refine (callsIn_wide.2 (rnum1_at 2 (by decide) (by decide) cb 1 (fun A => ZAt A cb x 0 ∧ But2 s s wr A) (fun A => ZAt A cb x y ∧ But2 s s wr A)
        (fun A D h hb => ⟨h.1.but hb HCB.out.2.1, h.2.trans hb⟩) (fun A D h hb => ⟨h.1.but hb HCB.out.2.1, h.2.trans hb⟩) (fun A h => ⟨⟨_, h.1.c.2⟩, h.1.free 1⟩)
        (fun A h => ⟨by rw [HYY.out]; exact h.1.set1 _, but2_set h.2 HCB.out.2.2.2⟩) w3 ⟨by have := HB.out.1; have := HCB.out.1; omega, HZ3.out.lt⟩ (by have := HB.out.1; have := HHW.out; have := HB3.out.size; omega) HR3.out ⟨HZ3.out, HB3.out⟩)).mono ?_
      rintro e w4 ⟨rfl, hR4, ⟨hZ4, hB4⟩, hK4⟩
      have HR4 := Lib.hid hR4; have HB4 := Lib.hid hB4
      have HKK := Lib.hid (HK3.out.trans hK4)
      obtain ⟨z0, z1⟩ := hZ4.c
      obtain ⟨fn, tmps, assign, body, hyy, hRR⟩ := HY.out pre ⟨k, HK.out⟩ w4 (HC.out _ _ _ HJ.out HB4.out) (HPK.out _ _ HPW.out HKK.out) (by have := congrArg List.length HP.out; rw [List.length_map, List.length_range] at this; rw [this]; exact HK.out)
      simp only [encR, ← HX.out, ← HYY.out] at hyy
      clear hR4 hZ4 hB4 hK4 HR3 HZ3 HB3 HK3
      gi_wp2_with fail
      clear z0 z1
      refine hRR.mono ?_
      rintro e W5 ⟨rfl, hC5, hP5, hq5⟩
      have HC5 := Lib.hid hC5; have HP5 := Lib.hid hP5
      have HH5 := Lib.hid (show H2 ≤ W5.heap.size by have := HHW.out; have := HB4.out.size; have := hq5.1; omega)
      have HR5 := Lib.hid (show RS W5 B H p s N F (K0 + 3 * (k + 1)) from (show K0 + 3 * k + 1 + 2 = K0 + 3 * (k + 1) by omega) ▸ HR4.out.kept hq5.1 fun i hi => hq5.2 i (by have := HB.out.1; omega))
      have ns : ∀ {g : Nat} {vs : Array Value} {ty : TypeId} {m : Nat × Nat}, wr.heap[g]? = some (.cells vs ty m) → ty ≠ 88 → g ≠ s := fun hg ht e => by
        obtain ⟨us, hs⟩ := HRX.out.stk
        rw [← e, hg] at hs
        simp at hs
        exact ht hs.2.1
      have kp : ∀ {g : Nat} {vs : Array Value} {ty : TypeId} {m : Nat × Nat}, g < H2 → wr.heap[g]? = some (.cells vs ty m) → ty ≠ 88 → W5.heap[g]? = some (.cells vs ty m) := fun hl hg ht =>
        (hq5.2 _ hl).trans ((HB4.out.block _ (Array.getElem?_eq_some_iff.1 hg).1 (ns hg ht) (ns hg ht)).trans hg)
      have HM5 := Lib.hid (kp HB.out.2.1.2 HMX.out (by decide)); have HRB5 := Lib.hid (kp HB.out.2.2.1.2 HRBX.out (by decide))
      have hmn := HMN.out
      have hkk := HK.out
      clear hC5 hP5 hq5 ns kp hyy hRR
      gi_wp2
      go_roundw
      case rel => exact ⟨k + 1, by omega, by go_num, ⟨_, by rw [List.range_succ, List.map_append, HP.out]; rfl, HC5.out⟩, HR5.out, HP5.out, HH5.out, HM5.out, HRB5.out⟩
      case measure => simp [intOf]; omega
    · obtain rfl : k = many := by omega
      have i1 : ¬ (k : Int) < (k : Int) := by omega
      gi_wp2
      go_end0
      first | exact ⟨⟨_, rfl⟩, pre, ⟨HP.out, HJ.out, HRX.out⟩, HPW.out⟩ | exact ⟨⟨_, rfl⟩, ⟨pre, HP.out, HJ.out, HRX.out⟩, HPW.out⟩
end Go.Proofs.Ytjlmajopfeplpaa.Nt

namespace Go.Proofs.Ytjlmajopfeplpaa.Nt
open Go.RowKit Go.Shelf
attribute [local go_sem] Oper.semAt_some

/-- what has come, as cells. -/
def lsC (C T : Nat → Int) {n : Nat} (pre : List (Tk n)) : List Value := pre.flatMap fun x => [.int .i64 (C x.i), .int .i64 (T x.i)]
theorem lsC_snoc (C T : Nat → Int) {n : Nat} (pre : List (Tk n)) (x : Tk n) : lsC C T (pre ++ [x]) = lsC C T pre ++ [.int .i64 (C x.i), .int .i64 (T x.i)] := by
  unfold lsC; rw [List.flatMap_append]; rfl
theorem lsC_rng (C T : Nat → Int) {n : Nat} (ys : List (Tk n)) (k : Nat) (h : ys.map Tk.i = List.range k) : lsC C T ys = tdl C T k := by
  have e : lsC C T ys = (ys.map Tk.i).flatMap fun i => [.int .i64 (C i), .int .i64 (T i)] := by unfold lsC; rw [List.flatMap_map]
  rw [e, h]
  clear e h
  induction k with
  | zero => rfl
  | succ k ih => rw [List.range_succ, List.flatMap_append, ih]; rfl
/-- the list in its box. -/
structure Li (w : World) (s : Nat) (C T : Nat → Int) {n : Nat} (pre : List (Tk n)) (W : World) : Prop where
  li : ∃ a c, Boxed W w.heap.size 22 (.slice a pre.length c) ∧ W.ownsRow w.heap.size 41 2 (.slice a pre.length c) pre.length (lsC C T pre)
  be : But2 s s w W
theorem but2_own {s : Nat} {w A D : World} {row : Option Nat} (h : But2 s s w A) (hg : A.grownBy D row) (hr : ∀ r, row = some r → w.heap.size ≤ r) : But2 s s w D :=
  ⟨hg.os.trans h.os, hg.tape.trans h.tape, hg.output.trans h.output, Nat.le_trans h.size hg.size, fun k h1 h2 h3 => (hg.block k (Nat.lt_of_lt_of_le h1 h.size) (fun e => by have := hr k e.symm; omega)).trans (h.block k h1 h2 h3)⟩
section
variable {w A D : World} {s : Nat} {C T : Nat → Int} {n : Nat} {pre : List (Tk n)}
theorem Li.own {row : Option Nat} (h : Li w s C T pre A) (hg : A.grownBy D row) (hr : ∀ r, row = some r → w.heap.size ≤ r ∧ ∃ o : Obj, A.heap[r]? = some o ∧ o.isCells = false) : Li w s C T pre D := by
  obtain ⟨a, c, h1, h2⟩ := h.li
  refine ⟨⟨a, c, heap_kp h1 hg (fun r e => (hr r e).2), h2.kept hg ?_⟩, but2_own h.be hg (fun r e => (hr r e).1)⟩
  rcases h2.2 with ⟨e, _⟩ | ⟨g, cap, cur, e, _, hgb, _⟩
  · rw [e]; exact .inl rfl
  · rw [e]
    exact .inr (fun q => by obtain ⟨_, o, ho, hc⟩ := hr g q.symm; rw [hgb] at ho; cases ho; cases hc)
theorem Li.but (h : Li w s C T pre A) (hb : But2 s s A D) (hs : s < w.heap.size) : Li w s C T pre D := by
  obtain ⟨a, c, h1, h2⟩ := h.li
  exact ⟨⟨a, c, (hb.block _ h1.lt (by omega) (by omega)).trans h1, own_oth h2 fun g h3 h4 => hb.block g h4 (by omega) (by omega)⟩, h.be.trans hb⟩
end

set_option maxRecDepth 100000 in
set_option maxHeartbeats 4000000 in
theorem appendSeq_any (mb rb H2 K0 many : Nat) (B H p s N : Nat) (F : Nat → Nat) (hH : H ≤ H2) (hmb : H ≤ mb ∧ mb < H2) (hrb : H ≤ rb ∧ rb < H2) (hmn : many ≤ 255)
    (w : World) (hHw : H2 ≤ w.heap.size) (hm : w.heap[mb]? = some (.cells #[.int .i64 (many : Nat)] 3 (0, 0))) (hr : w.heap[rb]? = some (.cells #[.pointer (some ⟨p, 0, none⟩)] 58 (0, 0)))
    (hR : RS w B H p s N F K0) :
    Calls Try.prog 72 #[.slice none 0 0, .func (.func 73) #[] #[.pointer (some ⟨mb, 0, none⟩), .pointer (some ⟨rb, 0, none⟩)]] w fun e w' =>
      ∃ a c, e = .returned (.slice a many c) ∧ w'.ownsRow w.heap.size 41 2 (.slice a many c) many (tdl (rC N F K0) (rT N F K0) many) ∧ RS w' B H p s N F (K0 + 3 * many) ∧ But2 s s w w' := by
  refine (callsIn_wide (n := 6)).1 ?_
  have hW : ∀ k, Fence.wide.fn k := fun _ => trivial
  have hD : Fence.wide.depth = none := rfl
  obtain ⟨i0, hi, hz0, hz1, hz2⟩ := info_parts Try.infoCt
  have HI := Lib.hid hi; have HZ0 := Lib.hid hz0; have HZ1 := Lib.hid hz1; have HZ2 := Lib.hid hz2
  have HSL := Lib.hid hR.ltS
  have hss : s < w.heap.size := by have := hR.ltS; omega
  have HSS := Lib.hid hss
  obtain ⟨w1, hw1⟩ : ∃ w1, w1 = w.alloc (.cells #[.slice none 0 0] 22) := ⟨_, rfl⟩
  have hb1 : Below w.heap.size w w1 := by rw [hw1]; exact (Below.refl _ w).alloc (Nat.le_refl _) _
  have HL1 := Lib.hid (show Li w s (rC N F K0) (rT N F K0) ([] : List (Tk many)) w1 from ⟨⟨none, 0, by rw [hw1]; exact heap_alloc_new _ _, World.ownsRow_nil _ _ _ _⟩, But2.of hb1⟩)
  have HM0 := Lib.hid hm; have HRB0 := Lib.hid hr
  have HM1 := Lib.hid ((hb1.block mb (Array.getElem?_eq_some_iff.1 hm).1).trans hm)
  have HRB1 := Lib.hid ((hb1.block rb (Array.getElem?_eq_some_iff.1 hr).1).trans hr)
  have HR1 := Lib.hid (hR.same hb1 (Nat.le_trans hH hHw))
  have HNS := Lib.hid (show mb ≠ s ∧ rb ≠ s from by have := hR.ltS; omega)
  have HZW := Lib.hid (show w.heap.size < w1.heap.size by rw [hw1, World.size_alloc]; omega)
  have HW1 := Lib.hid hw1
  have HB := Lib.hid (And.intro hH (And.intro hmb (And.intro hrb hHw))); have HMN := Lib.hid hmn
  clear hi hz0 hz1 hz2 hH hmb hrb hmn hHw hm hr hR hw1 hb1 hss
  refine callsIn_of_wp_marks Try.func72 rfl trivial ?_ rfl
  simp only [Try.ntmps72, List.size_toArray, List.length_cons, List.length_nil, Nat.reduceAdd, Nat.reduceSub, Array.replicate_succ, Array.replicate_zero, List.push_toArray, List.append_toArray, List.nil_append, List.cons_append]
  gi_wp2_with fail
  rw [← HW1.out]
  obtain ⟨bx, hbx⟩ : ∃ bx, bx = w.heap.size := ⟨_, rfl⟩
  rw [← hbx]
  have HBX := Lib.hid hbx
  clear HW1 hbx
  refine' range_all rfl (by omega) (gf := 73) (lb := #[.pointer (some ⟨mb, 0, none⟩), .pointer (some ⟨rb, 0, none⟩)]) rfl trivial (enters_of Try.func73 (by kernel_rfl) rfl)
    (encs := fun x : Tk many => encR N F K0 x.i) (fun _ => rfl) (Kq H2) kq_t
    (fun A l o o' hl hA _ => ⟨by unfold World.putObj; simp, fun i hi => World.putObj_heap_other (by have := HB.out.2.2.2; have := HZW.out; omega)⟩)
    many (fun pre W => Li w s (rC N F K0) (rT N F K0) pre W)
    (fun ys W => ys.map Tk.i = List.range many ∧ Li w s (rC N F K0) (rT N F K0) ys W ∧ RS W B H p s N F (K0 + 3 * many))
    (fun W => RS W B H p s N F K0) (fun A D row h hg hr => h.own hg (fun r e => (hr r e).2)) HR1.out
    (fun ys A D row h hg hr => ⟨h.1, h.2.1.own hg (fun r e => ⟨by have := (hr r e).1; have := HZW.out; omega, (hr r e).2⟩), h.2.2.own hg (fun r e => (hr r e).2)⟩)
    (fun pre A D row h hg hr => h.own hg (fun r e => ⟨by have := (hr r e).1; have := HZW.out; omega, (hr r e).2⟩))
    HL1.out ?seq
    (fun x a' W => ∃ q, a' = ⟨#[.slice none 0 0, .func (.func 73) #[] #[.pointer (some ⟨mb, 0, none⟩), .pointer (some ⟨rb, 0, none⟩)], .pointer (some ⟨bx, 0, none⟩), undef, .slice none 0 0, .pointer (some ⟨q, 0, none⟩),
      .func (.func 73) #[] #[.pointer (some ⟨mb, 0, none⟩), .pointer (some ⟨rb, 0, none⟩)], .agg #[.int .i64 (rC N F K0 x.i), .int .i64 (rT N F K0 x.i)], undef, undef, undef, undef, undef], []⟩ ∧ ZAt W q (rC N F K0 x.i) (rT N F K0 x.i))
    (fun x a' A D row h hg hr => by obtain ⟨q, h1, h2⟩ := h; exact ⟨q, h1, heap_kp h2 hg (fun r e => (hr r e).2)⟩)
    ?assign ?body ?done
  case seq =>
    intro l W1 Pk hPk hP1 hR1 hI1 hY
    have kp : ∀ {g : Nat} {vs : Array Value} {ty : TypeId} {m : Nat × Nat}, g < w.heap.size → g ≠ s → w.heap[g]? = some (.cells vs ty m) → W1.heap[g]? = some (.cells vs ty m) := fun hl hn hg => (hI1.be.block _ hl hn hn).trans hg
    refine (counts1_in _ l mb rb H2 K0 many B H p s N F HB.out.1 HB.out.2.1 HB.out.2.2.1 HMN.out (fun pre W => Li w s (rC N F K0) (rT N F K0) pre W) (fun t A D h hb => h.but hb HSS.out) Pk hPk hY W1 (by have := HB.out.2.2.2; have := hI1.be.size; omega)
      (kp (by have := HB.out.2.1.2; have := HB.out.2.2.2; omega) HNS.out.1 HM0.out) (kp (by have := HB.out.2.2.1.2; have := HB.out.2.2.2; omega) HNS.out.2 HRB0.out) hR1 hI1 hP1).mono ?_
    rintro e W' ⟨h1, ys, h2, h3⟩
    exact ⟨h1, ys, h2, h3⟩
  case assign =>
    intro l pre x W K hI hK
    have hal := (Below.refl W.heap.size W).alloc (Nat.le_refl _) (.cells #[.int .i64 (rC N F K0 x.i), .int .i64 (rT N F K0 x.i)] 41)
    have hR := hK _ _ (KeepsOthers.alloc W (.cells #[.int .i64 (rC N F K0 x.i), .int .i64 (rT N F K0 x.i)] 41)) ⟨hal.size, fun i hi => hal.block i (by have := HB.out.2.2.2; have := hI.be.size; omega)⟩ (hI.own (below_grown hal none) (fun r e => by cases e)) ⟨W.heap.size, rfl, heap_alloc_new W _⟩
    unfold encR
    gi_wp2
    exact hR
  case body =>
    rintro l pre x a' W hI hln ⟨q, rfl, hz⟩
    obtain ⟨z0, z1⟩ := hz.c
    obtain ⟨a, c, hbox, hown⟩ := hI.li
    rw [HBX.out.symm] at hbox
    have c0 := hbox.cell
    have HS := Lib.hid (lsC_snoc (rC N F K0) (rT N F K0) pre x)
    generalize rC N F K0 x.i = u at *
    generalize rT N F K0 x.i = v at *
    have HBE := Lib.hid hI.be; have HBO := Lib.hid hbox; have HOW := Lib.hid hown
    obtain ⟨ln, hl⟩ : ∃ ln, ln = pre.length := ⟨_, rfl⟩
    rw [← hl] at c0 HBO HOW hln
    have HLE := Lib.hid hl
    have HLN := Lib.hid (show ln ≤ 255 by have := HMN.out; omega)
    clear hI hz hbox hown hl hln
    have hal := (Below.refl W.heap.size W).alloc (Nat.le_refl _) (.cells #[.int .i64 u, .int .i64 v] 41)
    have HAL := Lib.hid hal
    have HO1 := Lib.hid (own_be HOW.out hal)
    have HNE := Lib.hid (show some bx ≠ (Value.slice a ln c).ownBlock from by
      rcases HO1.out.2 with ⟨e, _⟩ | ⟨g, cap, cur, e, _, hgb, _⟩
      · rw [e]; intro k; cases k
      · rw [e]
        intro k
        have k2 : bx = g := by cases k; rfl
        rw [← k2] at hgb
        have h9 := ((HAL.out.block bx HBO.out.lt).trans HBO.out).symm.trans hgb
        simp only [Option.some.injEq, Obj.cells.injEq] at h9
        exact absurd h9.2.1 (by decide))
    clear hal
    gi_wp2_with (gi_at_builtin; go_loud (refine wpListIn_append_own _ rfl (.tmp 8) (.tmp 10) 22 rfl w.heap.size 41 i0 (.agg #[.int .i64 0, .int .i64 0]) 2 16 Try.underlying22 HI.out HZ0.out HZ1.out HZ2.out rfl (by decide) (.slice a ln c) ln _ rfl HO1.out ⟨W.heap.size, 0, none⟩ 1 1 [.int .i64 u, .int .i64 v] rfl rfl (cell_new2 _ _ _ _) (int_ones _ _) (by have := HLN.out; unfold maxLen; omega) (by have := HLN.out; omega) (Nat.le_trans HBE.out.size HAL.out.size) ?_; intro v6 w6 hown6 hg6 _; obtain ⟨a6, c6, rfl⟩ := own_sl hown6; have HOWN6 := Lib.hid hown6; have HG6 := Lib.hid hg6; clear hown6 hg6; have b6 : Boxed w6 bx 22 (.slice a ln c) := Boxed.kept ((HAL.out.block bx HBO.out.lt).trans HBO.out) HG6.out HNE.out; have c6' := b6.cell; have f6 := b6.frozen; have HB6 := Lib.hid b6; clear b6))
    have hrow : ∀ r, (Value.slice a ln c).ownBlock = some r → w.heap.size ≤ r := fun r e => (HO1.out.lt r e).1
    have hk6 : KeepsOthers W w6 := (KeepsOthers.alloc W _).trans (KeepsOthers.of_grownBy HG6.out fun j o ej hj => by
      rcases HO1.out.2 with ⟨e, _⟩ | ⟨g, cap, cur, e, _, hgb, _⟩
      · rw [e] at ej; cases ej
      · rw [e] at ej
        cases ej; rw [hgb] at hj; cases hj; rfl)
    have hbe6 : But2 s s w w6 := but2_own (HBE.out.trans (But2.of HAL.out)) HG6.out hrow
    refine ⟨(hk6.trans (KeepsOthers.setCell _ _ _)), ⟨?_, fun i hi => ?_⟩, ⟨⟨a6, c6, ?_, ?_⟩, but2_set hbe6 (by have := HBX.out; omega)⟩⟩
    · simp; exact Nat.le_trans HAL.out.size HG6.out.size
    · have hiw : i < w.heap.size := by have := HB.out.2.2.2; omega
      have hiW : i < W.heap.size := Nat.lt_of_lt_of_le hiw HBE.out.size
      exact (heap_setCell_other _ _ _ _ (fun e => by have e2 : i = bx := e; have := HBX.out; omega)).trans ((HG6.out.block i (Nat.lt_of_lt_of_le hiW HAL.out.size) (fun e => by have := hrow i e.symm; omega)).trans (HAL.out.block i hiW))
    · rw [List.length_append, List.length_singleton, ← HLE.out, ← HBX.out]
      exact HB6.out.set _
    · rw [HS.out, List.length_append, List.length_singleton, ← HLE.out]
      exact HOWN6.out.kept (grownBy_setCell' w6 bx _) (Or.inr (fun e => by
        rcases HOWN6.out.2 with ⟨k, _⟩ | ⟨g, cap, cur, k, _, hgb, _⟩
        · rw [k] at e; cases e
        · rw [k] at e
          have k2 : bx = g := by cases e; rfl
          rw [← k2] at hgb
          have h9 := HB6.out.symm.trans hgb
          simp only [Option.some.injEq, Obj.cells.injEq] at h9
          exact absurd h9.2.1 (by decide)))
  case done =>
    rintro D ys W hD ⟨hys, hL, hR⟩ hK
    obtain ⟨a, c, hbox, hown⟩ := hL.li
    rw [lsC_rng _ _ ys many hys] at hown
    have hlen : ys.length = many := by have := congrArg List.length hys; rwa [List.length_map, List.length_range] at this
    rw [hlen] at hbox hown
    rw [HBX.out.symm] at hbox
    have c0 := hbox.cell
    have HOW := Lib.hid hown; have HR := Lib.hid hR; have HBE := Lib.hid hL.be; have HK := Lib.hid hK
    clear hys hL hR hbox hown hlen hK
    gi_wp2
    refine ⟨by simp, .inl ⟨_, _, rfl, run_takeDeferred HK.out, ?_⟩⟩
    have hg := grownBy_putObj' W D (.deferred none)
    have hr : ∀ r, some D = some r → w.heap.size ≤ r ∧ ∃ o : Obj, W.heap[r]? = some o ∧ o.isCells = false := fun r e => by cases e; exact ⟨by have := HZW.out; omega, _, HK.out, rfl⟩
    refine ⟨_, results_tmp rfl _ _ _, a, c, rfl, HOW.out.kept hg ?_, HR.out.own hg (fun r e => (hr r e).2), but2_own HBE.out hg (fun r e => (hr r e).1)⟩
    rcases HOW.out.2 with ⟨e, _⟩ | ⟨g, cap, cur, e, _, hgb, _⟩
    · rw [e]; exact .inl rfl
    · rw [e]
      exact .inr (fun q => by cases q; have h9 := HK.out; rw [hgb] at h9; cases h9)

set_option maxHeartbeats 1000000 in
theorem collect_any (mb rb H2 K0 many : Nat) (B H p s N : Nat) (F : Nat → Nat) (hH : H ≤ H2) (hmb : H ≤ mb ∧ mb < H2) (hrb : H ≤ rb ∧ rb < H2) (hmn : many ≤ 255)
    (w : World) (hHw : H2 ≤ w.heap.size) (hm : w.heap[mb]? = some (.cells #[.int .i64 (many : Nat)] 3 (0, 0))) (hr : w.heap[rb]? = some (.cells #[.pointer (some ⟨p, 0, none⟩)] 58 (0, 0)))
    (hR : RS w B H p s N F K0) :
    Calls Try.prog 55 #[.func (.func 73) #[] #[.pointer (some ⟨mb, 0, none⟩), .pointer (some ⟨rb, 0, none⟩)]] w fun e w' =>
      ∃ a c, e = .returned (.slice a many c) ∧ w'.ownsRow w.heap.size 41 2 (.slice a many c) many (tdl (rC N F K0) (rT N F K0) many) ∧ RS w' B H p s N F (K0 + 3 * many) ∧ But2 s s w w' := by
  have HA := Lib.hid (appendSeq_any mb rb H2 K0 many B H p s N F hH hmb hrb hmn w hHw hm hr hR)
  clear hH hmb hrb hmn hHw hm hr hR
  go_enter Try.func55, Try.ntmps55
  go_wp2_with fail
  refine HA.out.mono ?_
  rintro e w' ⟨a, c, rfl, h1, h2, h3⟩
  have H1 := Lib.hid h1; have H2' := Lib.hid h2; have H3 := Lib.hid h3
  clear h1 h2 h3 HA
  go_wp2
  go_ret
  exact ⟨a, c, rfl, H1.out, H2'.out, H3.out⟩
end Go.Proofs.Ytjlmajopfeplpaa.Nt

namespace Go.Proofs.Ytjlmajopfeplpaa.Nt
open Go.RowKit Go.Shelf
attribute [local go_sem] Oper.semAt_some

def oerr (n : Nat) (f : Nat → Nat) : Int := if n < 4 then 4 else if okB f (n - 4) = false then 10 else if n = 4 then 4 else if f 0 ≠ 2 then 11 else 0
theorem perr_o {n : Nat} {f : Nat → Nat} (h : oerr n f ≠ 0) : perr n f = oerr n f := by
  unfold perr oerr at *
  split
  · rfl
  · rename_i h1
    rw [if_neg h1] at h
    split
    · rfl
    · rename_i h2
      rw [if_neg h2] at h
      split
      · rfl
      · rename_i h3
        rw [if_neg h3] at h
        split
        · rfl
        · rename_i h4
          rw [if_neg h4] at h
          exact absurd rfl h
theorem perr_z {n : Nat} {f : Nat → Nat} (h : oerr n f = 0) : 4 < n ∧ f 0 = 2 ∧ (GoodP (n - 4) f → perr n f = 0) ∧ (¬ GoodP (n - 4) f → perr n f = 4) := by
  unfold oerr at h
  unfold perr
  by_cases h1 : n < 4
  · rw [if_pos h1] at h; cases h
  rw [if_neg h1] at h ⊢
  by_cases h2 : okB f (n - 4) = false
  · rw [if_pos h2] at h; cases h
  rw [if_neg h2] at h ⊢
  by_cases h3 : n = 4
  · rw [if_pos h3] at h; cases h
  rw [if_neg h3] at h ⊢
  by_cases h4 : f 0 ≠ 2
  · rw [if_pos h4] at h; cases h
  rw [if_neg h4]
  exact ⟨by omega, by omega, fun g => if_pos g, fun g => if_neg g⟩
theorem results_rd {fn : Func} {p q : Tmp} (h : fn.results = #[.cell p 58, .tmp q]) (tmps : Array Value) (w : World) (g : Nat) (v : Value)
    (hp : tmps.getD p undef = .pointer (some ⟨g, 0, none⟩)) (hg : w.heap[g]? = some (.cells #[v] 58 (0, 0))) : (results fn tmps).run Try.prog w = .ok (.tuple #[.agg #[v], tmps.getD q undef]) w := by
  have hp' : tmps[p]?.getD undef = .pointer (some ⟨g, 0, none⟩) := by simpa using hp
  have hr := run_loadVar_row (P := Try.prog) w g _ _ #[v] (0, 0) _ hg Try.underlying58 rfl (by kernel_rfl)
  simp [results, h, hp', asAddr, hr]
theorem RS.keptB {w w' : World} {B H p s N k : Nat} {F : Nat → Nat} (h : RS w B H p s N F k) (hsz : w.heap.size ≤ w'.heap.size) (hk : ∀ i, B ≤ i → i < H → w'.heap[i]? = w.heap[i]?) : RS w' B H p s N F k := by
  obtain ⟨a, c, S, h1, h2, ⟨hp, hs, ha⟩, h4⟩ := h
  exact ⟨a, c, S, h1.kept hsz (hk p h1.hp hp) (hk s h1.hs hs) (fun ad e => hk _ (h1.ha ad e).1 (ha ad e)), h2, ⟨hp, hs, ha⟩, h4⟩
theorem set_rd {W : World} {g : Nat} {vs : Array Value} (v : Value) (hg : W.heap[g]? = some (.cells vs 58 (0, 0))) :
    (W.setRow g #[v]).heap[g]? = some (.cells #[v] 58 (0, 0)) ∧ ∀ B, B ≤ g → Below B W (W.setRow g #[v]) :=
  ⟨setRow_heap _ _ _ _ _ _ hg, fun B hB => ⟨rfl, rfl, rfl, by simp, fun k hk => setRow_other W g k _ (by omega)⟩⟩

set_option maxHeartbeats 4000000 in
set_option maxRecDepth 100000 in
theorem popen2_any (a : Option Addr) (n c : Nat) (f : Nat → Nat) (hn : n ≤ 1000000) (w : World) (hS : Sl w a n c f) :
    Calls Try.prog 37 #[.slice a n c] w fun e w' => ((oerr n f ≠ 0 ∧ e = .returned (.tuple #[.agg #[.pointer none], .int .i64 (oerr n f)])) ∨
      (oerr n f = 0 ∧ ∃ p s, e = .returned (.tuple #[.agg #[.pointer (some ⟨p, 0, none⟩)], .int .i64 0]) ∧ RS w' w.heap.size w'.heap.size p s (n - 4) f 1)) ∧ Below w.heap.size w w' := by
  obtain ⟨w0, hw0⟩ : ∃ w0, w0 = w.alloc (.cells #[.pointer none] 58) := ⟨_, rfl⟩
  have hb0 : Below w.heap.size w w0 := by rw [hw0]; exact (Below.refl _ w).alloc (Nat.le_refl _) _
  have HX0 := Lib.hid (show w0.heap[w.heap.size]? = some (.cells #[.pointer none] 58 (0, 0)) by rw [hw0]; exact heap_alloc_new _ _)
  have HO := Lib.hid (popen_any a n c f (by omega) w0 (hS.same hb0))
  have HN := Lib.hid hn; have HBY := Lib.hid hS.bytes; have HB0 := Lib.hid hb0; have HW := Lib.hid hw0
  have HZ0 := Lib.hid (show w.heap.size < w0.heap.size by rw [hw0, World.size_alloc]; omega)
  clear hS hn hb0 hw0
  obtain ⟨oe, hoe⟩ : ∃ oe, oe = oerr n f := ⟨_, rfl⟩
  rw [← hoe]
  have HOE := Lib.hid hoe
  clear hoe
  obtain ⟨wg, hwg⟩ : ∃ wg, wg = w.heap.size := ⟨_, rfl⟩
  have HWG := Lib.hid hwg
  rw [← hwg] at HX0
  go_enter Try.func37, Try.ntmps37
  go_upto_region 1 with fail
  rw [← HW.out, ← hwg]
  clear hwg HW
  go_wp2_with fail
  refine HO.out.mono ?_
  rintro e w1 (⟨h4, rfl, hB⟩ | ⟨h4, hok, rfl, hB⟩ | ⟨h4, hok, b, cap, rfl, hN, hB⟩)
  · obtain rfl : oe = 4 := by rw [HOE.out]; unfold oerr; rw [if_pos h4]
    have HX1 := Lib.hid ((hB.block wg (by have := HWG.out; have := HZ0.out; omega)).trans HX0.out)
    have HB := Lib.hid (HB0.out.trans (hB.mono HB0.out.size))
    clear h4 hB
    go_wp2_with (show wpList _ _ _ (⟨none, _, _, _, _, _⟩ :: _) _ _; refine wpList_store_row rfl 58 _ _ rfl wg #[.pointer none] rfl rfl 58 _ HX1.out (by kernel_rfl) rfl (by simp [Value.oneCell']) ?_)
    have hzz := set_rd (.pointer none) HX1.out
    exact bodyPost_ret (results_rd rfl _ _ wg _ rfl hzz.1) rfl ⟨Or.inl ⟨by decide, rfl⟩, HB.out.trans (hzz.2 _ (by have := HWG.out; omega))⟩
  · obtain rfl : oe = 10 := by rw [HOE.out]; unfold oerr; rw [if_neg (by omega), if_pos hok]
    have HX1 := Lib.hid ((hB.block wg (by have := HWG.out; have := HZ0.out; omega)).trans HX0.out)
    have HB := Lib.hid (HB0.out.trans (hB.mono HB0.out.size))
    clear h4 hok hB
    go_wp2_with (show wpList _ _ _ (⟨none, _, _, _, _, _⟩ :: _) _ _; refine wpList_store_row rfl 58 _ _ rfl wg #[.pointer none] rfl rfl 58 _ HX1.out (by kernel_rfl) rfl (by simp [Value.oneCell']) ?_)
    have hzz := set_rd (.pointer none) HX1.out
    exact bodyPost_ret (results_rd rfl _ _ wg _ rfl hzz.1) rfl ⟨Or.inl ⟨by decide, rfl⟩, HB.out.trans (hzz.2 _ (by have := HWG.out; omega))⟩
  have HX1 := Lib.hid ((hB.block wg (by have := HWG.out; have := HZ0.out; omega)).trans HX0.out)
  have HB1 := Lib.hid (show w0.heap.size ≤ w1.heap.size from hB.size)
  have HB := Lib.hid (HB0.out.trans (hB.mono HB0.out.size)); have HNW := Lib.hid hN; have HS1 := Lib.hid hN.sl
  have HE := Lib.hid (show oe = if n = 4 then 4 else if f 0 ≠ 2 then 11 else 0 by rw [HOE.out]; unfold oerr; rw [if_neg (by omega), if_neg (by rw [hok]; decide)])
  obtain ⟨N, hNN⟩ : ∃ N, N = n - 4 := ⟨_, rfl⟩
  rw [← hNN] at HS1 ⊢
  have H4 := Lib.hid (show n = N + 4 by omega)
  clear hB hN h4 hok HOE HO HNW hNN
  go_wp2_with fail
  refine (rover_any b N cap (sub f 0 N) (by have := HN.out; have := H4.out; omega) w1 HS1.out).mono ?_
  rintro e w2 ⟨p, s, a', c', rfl, hR, hB2⟩
  have HX2 := Lib.hid ((hB2.block wg (Array.getElem?_eq_some_iff.1 HX1.out).1).trans HX1.out)
  have HRS := Lib.hid (show RS w2 w0.heap.size w2.heap.size p s N f 0 from RS.monoB ⟨a', c', _, hR, ⟨HS1.out.bytes, HS1.out.up⟩, ⟨hR.box.lt, hR.lts, fun ad e => (hR.ha ad e).2.1⟩, by have := HN.out; have := H4.out; show N ≤ _; omega, Or.inl ⟨rfl, Nat.zero_le _, rfl, fun j hj => by show sub f 0 N j = _; unfold sub; rw [if_pos (by omega)]⟩⟩ HB1.out)
  have HR := Lib.hid hR
  have HB2 := Lib.hid (HB.out.trans (hB2.mono HB.out.size))
  clear hR hB2
  go_upto_region 5 with fail
  obtain ⟨w3, hw3⟩ : ∃ w3, w3 = w2.alloc (.cells #[.pointer (some ⟨p, 0, none⟩)] 58) := ⟨_, rfl⟩
  rw [← hw3]
  have hb3 : Below w2.heap.size w2 w3 := by rw [hw3]; exact (Below.refl _ _).alloc (Nat.le_refl _) _
  have HQ := Lib.hid (show w3.heap[w2.heap.size]? = some (.cells #[.pointer (some ⟨p, 0, none⟩)] 58 (0, 0)) by rw [hw3]; exact heap_alloc_new _ _)
  have HX3 := Lib.hid ((hb3.block wg (Array.getElem?_eq_some_iff.1 HX2.out).1).trans HX2.out)
  have HR3 := Lib.hid (HR.out.same hb3)
  have HRS3 := Lib.hid (show RS w3 w0.heap.size w2.heap.size p s N f 0 from HRS.out.same hb3 (Nat.le_refl _))
  have HB3 := Lib.hid (HB2.out.trans (hb3.mono HB2.out.size))
  generalize w2.heap.size = q at *
  clear hw3 hb3 HX2 HR HRS HB2
  have q0 : w3.cell? ⟨q, 0, none⟩ = some (.pointer (some ⟨p, 0, none⟩)) := by rw [cell_of_row _ _ 0 _ _ _ HQ.out]; rfl
  go_wp2_with fail
  refine (rleft_any w1.heap.size p s a' c' ⟨N, sub f 0 N, 0⟩ w3 HR3.out).mono ?_
  rintro e w4 ⟨rfl, rfl⟩
  rw [show Bs.m ⟨N, sub f 0 N, 0⟩ = N from if_pos rfl]
  by_cases hz : N = 0
  · have g1 : ((N : Int) == 0) = true := by simp [hz]
    obtain rfl : oe = 4 := by rw [HE.out, if_pos (by have := H4.out; omega)]
    clear hz q0
    go_wp2_with (show wpList _ _ _ (⟨none, _, _, _, _, _⟩ :: _) _ _; refine wpList_store_row rfl 58 _ _ rfl wg #[.pointer none] rfl rfl 58 _ HX3.out (by kernel_rfl) rfl (by simp [Value.oneCell']) ?_)
    have hzz := set_rd (.pointer none) HX3.out
    exact bodyPost_ret (results_rd rfl _ _ wg _ rfl hzz.1) rfl ⟨Or.inl ⟨by decide, rfl⟩, HB3.out.trans (hzz.2 _ (by have := HWG.out; omega))⟩
  have g1 : ((N : Int) == 0) = false := by simp [hz]
  have HZ := Lib.hid (show 1 ≤ N by omega)
  clear hz HR3
  go_wp2_with fail
  refine (rnumber_at 1 (by decide) (by decide) w4 HRS3.out).mono ?_
  rintro e w5 ⟨rfl, hr5, hb5⟩
  rw [val_one (by have := HZ.out; omega)]
  have HR5 := Lib.hid (show RS w5 w0.heap.size w5.heap.size p s N f 1 from hr5.top)
  have HSW := Lib.hid (show wg < s by have := HRS3.out.bs; have := HZ0.out; have := HWG.out; omega)
  have HX5 := Lib.hid ((but2_kept hb5 (Array.getElem?_eq_some_iff.1 HX3.out).1 (by have := HSW.out; omega)).trans HX3.out)
  have HB5 := Lib.hid (HB3.out.trans (but2_below hb5 HB3.out.size (by have := HSW.out; have := HWG.out; omega)))
  have HNE := Lib.hid (show ¬ n = 4 by have := HZ.out; have := H4.out; omega)
  have HQ5 := Lib.hid ((but2_kept hb5 (Array.getElem?_eq_some_iff.1 HQ.out).1 (fun e => by have := HRS3.out.ltS; omega)).trans HQ.out)
  clear hr5 hb5 g1 q0
  obtain ⟨x, hx⟩ : ∃ x, x = f 0 := ⟨_, rfl⟩
  rw [← hx]
  by_cases h1 : x = 2
  · have g1 : ((x : Int) != 2) = false := by simp [h1]
    have HO0 := Lib.hid (show oe = 0 by rw [HE.out, if_neg HNE.out, if_neg (by rw [← hx, h1]; decide)])
    have q0 : w5.cell? ⟨q, 0, none⟩ = some (.pointer (some ⟨p, 0, none⟩)) := by rw [cell_of_row _ _ 0 _ _ _ HQ5.out]; rfl
    clear hx h1
    go_wp2_with (show wpList _ _ _ (⟨none, _, _, _, _, _⟩ :: _) _ _; refine wpList_store_row rfl 58 _ _ rfl wg #[.pointer (some ⟨p, 0, none⟩)] rfl rfl 58 _ HX5.out (by kernel_rfl) rfl (by simp [Value.oneCell']) ?_)
    have hzz := set_rd (.pointer (some ⟨p, 0, none⟩)) HX5.out
    refine bodyPost_ret (results_rd rfl _ _ wg _ rfl hzz.1) rfl ⟨Or.inr ⟨HO0.out, p, s, rfl, ?_⟩, HB5.out.trans (hzz.2 _ (by have := HWG.out; omega))⟩
    have hr := HR5.out.keptB (w' := w5.setRow wg #[.pointer (some ⟨p, 0, none⟩)]) (by simp) (fun i hi _ => setRow_other w5 wg i _ (by have := HZ0.out; have := HWG.out; omega))
    rw [show n - 4 = N by have := H4.out; omega]
    have hr2 := hr.monoB (B' := w.heap.size) (by have := HZ0.out; omega)
    rw [show w5.heap.size = (w5.setRow wg #[.pointer (some ⟨p, 0, none⟩)]).heap.size by simp] at hr2
    exact hr2
  · have g1 : ((x : Int) != 2) = true := by simp; omega
    obtain rfl : oe = 11 := by rw [HE.out, if_neg HNE.out, if_pos (by rw [← hx]; exact h1)]
    clear hx h1
    go_wp2_with (show wpList _ _ _ (⟨none, _, _, _, _, _⟩ :: _) _ _; refine wpList_store_row rfl 58 _ _ rfl wg #[.pointer none] rfl rfl 58 _ HX5.out (by kernel_rfl) rfl (by simp [Value.oneCell']) ?_)
    have hzz := set_rd (.pointer none) HX5.out
    exact bodyPost_ret (results_rd rfl _ _ wg _ rfl hzz.1) rfl ⟨Or.inl ⟨by decide, rfl⟩, HB5.out.trans (hzz.2 _ (by have := HWG.out; omega))⟩
end Go.Proofs.Ytjlmajopfeplpaa.Nt

namespace Go.Proofs.Ytjlmajopfeplpaa.Nt
open Go.RowKit Go.Shelf
attribute [local go_sem] Oper.semAt_some

/-- a report as it is read of so many bytes. -/
def ntN (N : Nat) (F : Nat → Nat) : Mn := ⟨(val N F 1 2 : Nat), (val N F 3 4 : Nat), (val N F 7 1 : Nat), val N F 8 1, rC N F 9, rT N F 9⟩
/-- what is there as a report is read: the reader's box, the result's, the report's, the number of counts. -/
structure Rp (w : World) (s p g0 g1 g2 g3 : Nat) (S Q M m : Int) (A : World) : Prop where
  r : A.heap[g0]? = some (.cells #[.pointer (some ⟨p, 0, none⟩)] 58 (0, 0))
  z : A.heap[g1]? = some (.cells #[.int .i64 0, .int .i64 0, .int .i64 0, .slice none 0 0] 24 (0, 0))
  n : A.heap[g2]? = some (.cells #[.int .i64 S, .int .i64 Q, .int .i64 M, .slice none 0 0] 24 (0, 0))
  m : A.heap[g3]? = some (.cells #[.int .i64 m] 3 (0, 0))
  b : But2 s s w A
/-- blocks of their own. -/
structure Gs4 (w : World) (s g0 g1 g2 g3 : Nat) : Prop where
  s : s < w.heap.size
  h0 : w.heap.size ≤ g0
  h1 : w.heap.size ≤ g1
  h2 : w.heap.size ≤ g2
  h3 : w.heap.size ≤ g3
  n02 : g0 ≠ g2
  n03 : g0 ≠ g3
  n12 : g1 ≠ g2
  n13 : g1 ≠ g3
  n23 : g2 ≠ g3
section
variable {w A C : World} {s p g0 g1 g2 g3 : Nat} {S Q M m : Int}
theorem Rp.but (h : Rp w s p g0 g1 g2 g3 S Q M m A) (G : Gs4 w s g0 g1 g2 g3) (hb : But2 s s A C) : Rp w s p g0 g1 g2 g3 S Q M m C := by
  have k : ∀ {g : Nat} {vs : Array Value} {ty : TypeId} {q : Nat × Nat}, w.heap.size ≤ g → A.heap[g]? = some (.cells vs ty q) → C.heap[g]? = some (.cells vs ty q) := fun hg h =>
    (hb.block _ (Array.getElem?_eq_some_iff.1 h).1 (by have := G.s; omega) (by have := G.s; omega)).trans h
  exact ⟨k G.h0 h.r, k G.h1 h.z, k G.h2 h.n, k G.h3 h.m, h.b.trans hb⟩
theorem Rp.setN (h : Rp w s p g0 g1 g2 g3 S Q M m A) (G : Gs4 w s g0 g1 g2 g3) {i : Nat} {v : Value} {S' Q' M' : Int} (hv : (A.setCell ⟨g2, i, none⟩ v).heap[g2]? = some (.cells #[.int .i64 S', .int .i64 Q', .int .i64 M', .slice none 0 0] 24 (0, 0))) :
    Rp w s p g0 g1 g2 g3 S' Q' M' m (A.setCell ⟨g2, i, none⟩ v) :=
  ⟨(heap_setCell_other _ _ _ _ G.n02).trans h.r, (heap_setCell_other _ _ _ _ G.n12).trans h.z, hv, (heap_setCell_other _ _ _ _ (Ne.symm G.n23)).trans h.m, but2_set h.b G.h2⟩
theorem Rp.set0 (h : Rp w s p g0 g1 g2 g3 S Q M m A) (G : Gs4 w s g0 g1 g2 g3) (x : Int) : Rp w s p g0 g1 g2 g3 x Q M m (A.setCell ⟨g2, 0, none⟩ (.int .i64 x)) := h.setN G (heap_setCell_same A g2 0 _ _ _ h.n)
theorem Rp.set1 (h : Rp w s p g0 g1 g2 g3 S Q M m A) (G : Gs4 w s g0 g1 g2 g3) (x : Int) : Rp w s p g0 g1 g2 g3 S x M m (A.setCell ⟨g2, 1, none⟩ (.int .i64 x)) := h.setN G (heap_setCell_same A g2 1 _ _ _ h.n)
theorem Rp.set2 (h : Rp w s p g0 g1 g2 g3 S Q M m A) (G : Gs4 w s g0 g1 g2 g3) (x : Int) : Rp w s p g0 g1 g2 g3 S Q x m (A.setCell ⟨g2, 2, none⟩ (.int .i64 x)) := h.setN G (heap_setCell_same A g2 2 _ _ _ h.n)
theorem Rp.setM (h : Rp w s p g0 g1 g2 g3 S Q M m A) (G : Gs4 w s g0 g1 g2 g3) (x : Int) : Rp w s p g0 g1 g2 g3 S Q M x (A.setCell ⟨g3, 0, none⟩ (.int .i64 x)) :=
  ⟨(heap_setCell_other _ _ _ _ G.n03).trans h.r, (heap_setCell_other _ _ _ _ G.n13).trans h.z, (heap_setCell_other _ _ _ _ G.n23).trans h.n, heap_setCell_same A g3 0 _ _ _ h.m, but2_set h.b G.h3⟩
theorem Rp.c (h : Rp w s p g0 g1 g2 g3 S Q M m A) : A.cell? ⟨g0, 0, none⟩ = some (.pointer (some ⟨p, 0, none⟩)) ∧ A.cell? ⟨g2, 0, none⟩ = some (.int .i64 S) ∧ A.cell? ⟨g2, 1, none⟩ = some (.int .i64 Q) ∧ A.cell? ⟨g2, 2, none⟩ = some (.int .i64 M) ∧ A.cell? ⟨g2, 3, none⟩ = some (.slice none 0 0) ∧ A.cell? ⟨g3, 0, none⟩ = some (.int .i64 m) :=
  ⟨by rw [cell_of_row _ _ 0 _ _ _ h.r]; rfl, by rw [cell_of_row _ _ 0 _ _ _ h.n]; rfl, by rw [cell_of_row _ _ 1 _ _ _ h.n]; rfl, by rw [cell_of_row _ _ 2 _ _ _ h.n]; rfl, by rw [cell_of_row _ _ 3 _ _ _ h.n]; rfl, by rw [cell_of_row _ _ 0 _ _ _ h.m]; rfl⟩
end
theorem at_ptr2 (b o b' o' : Nat) : ∀ j, j < 2 → (#[Value.pointer (some ⟨b, o, none⟩), .pointer (some ⟨b', o', none⟩)])[j]? = some (.pointer (some ⟨(fun j : Nat => if j = 0 then b else b') j, (fun j : Nat => if j = 0 then o else o') j, none⟩)) := fun j hj => by
  rcases (show j = 0 ∨ j = 1 by omega) with rfl | rfl <;> rfl
/-- a call of numbers with two places, whose row was just laid. -/
theorem rnum2_at {B H p s N k : Nat} {F : Nat → Nat} (b o b' o' : Nat) (J0 J1 J2 : World → Prop) (hb0 : ∀ A C, J0 A → But2 s s A C → J0 C) (hb1 : ∀ A C, J1 A → But2 s s A C → J1 C) (hb2 : ∀ A C, J2 A → But2 s s A C → J2 C)
    (hc : ∀ A, J0 A → (∃ v, A.cell? ⟨b, o, none⟩ = some v) ∧ A.frozen? ⟨b, o, none⟩ = false) (hs : ∀ A, J0 A → J1 (A.setCell ⟨b, o, none⟩ (.int .i64 (val N F k 1 : Nat))))
    (hc' : ∀ A, J1 A → (∃ v, A.cell? ⟨b', o', none⟩ = some v) ∧ A.frozen? ⟨b', o', none⟩ = false) (hs' : ∀ A, J1 A → J2 (A.setCell ⟨b', o', none⟩ (.int .i64 (val N F (k + 1) 1 : Nat))))
    (w : World) (hb : H ≤ b ∧ b < w.heap.size) (hb' : H ≤ b' ∧ b' < w.heap.size) (hHw : H ≤ w.heap.size) (hR : RS w B H p s N F k) (hJ : J0 w) :
    Calls Try.prog 54 #[.agg #[.pointer (some ⟨p, 0, none⟩)], .int .i64 1, .slice (some ⟨w.heap.size, 0, none⟩) 2 2] (w.alloc (.cells #[.pointer (some ⟨b, o, none⟩), .pointer (some ⟨b', o', none⟩)] 77)) fun e w' =>
      e = .returned (.tuple #[]) ∧ RS w' B H p s N F (k + 2) ∧ J2 w' ∧ KeepsOthers w w' := by
  have hbw : Below w.heap.size w (w.alloc (.cells #[.pointer (some ⟨b, o, none⟩), .pointer (some ⟨b', o', none⟩)] 77)) := (Below.refl _ w).alloc (Nat.le_refl _) _
  have hsl := hR.ltS
  refine (rnumbers_any 1 (by decide) (by decide) 2 (by decide) B H p s N k F (fun j => if j = 0 then b else b') (fun j => if j = 0 then o else o') (fun j A => if j = 0 then J0 A else if j = 1 then J1 A else J2 A) (fun j A C hj hbt => ?_) (fun j A hj hJ => ?_) (fun j A hj hJ => ?_)
    w.heap.size #[.pointer (some ⟨b, o, none⟩), .pointer (some ⟨b', o', none⟩)] _ (fun j _ => ?_) (Nat.ne_of_gt (Nat.lt_of_lt_of_le hsl hHw)) (Nat.le_trans hHw hbw.size) (heap_alloc_new _ _) (at_ptr2 b o b' o') (hR.same hbw hHw) ?_).mono ?_
  · by_cases e : j = 0
    · rw [if_pos e] at hj ⊢; exact hb0 _ _ hj hbt
    · rw [if_neg e] at hj ⊢
      by_cases e2 : j = 1
      · rw [if_pos e2] at hj ⊢; exact hb1 _ _ hj hbt
      · rw [if_neg e2] at hj ⊢; exact hb2 _ _ hj hbt
  · rcases (show j = 0 ∨ j = 1 by omega) with rfl | rfl
    · exact hc A hJ
    · exact hc' A hJ
  · rcases (show j = 0 ∨ j = 1 by omega) with rfl | rfl
    · exact hs A hJ
    · exact hs' A hJ
  · show H ≤ (if j = 0 then b else b') ∧ (if j = 0 then b else b') < _ ∧ (if j = 0 then b else b') ≠ _
    have := hbw.size
    split <;> omega
  · exact hb0 _ _ hJ (But2.of hbw)
  · rintro e w' ⟨q1, q2, q3, q4⟩
    exact ⟨q1, q2, q3, (KeepsOthers.alloc w _).trans q4⟩
set_option maxHeartbeats 1000000 in
theorem counts_any (p : Nat) (m : Int) (w : World) :
    Calls Try.prog 56 #[.agg #[.pointer (some ⟨p, 0, none⟩)], .int .i64 m] w fun e w' => e = .returned (.func (.func 73) #[] #[.pointer (some ⟨w.heap.size + 1, 0, none⟩), .pointer (some ⟨w.heap.size, 0, none⟩)]) ∧
      w'.heap[w.heap.size + 1]? = some (.cells #[.int .i64 m] 3 (0, 0)) ∧ w'.heap[w.heap.size]? = some (.cells #[.pointer (some ⟨p, 0, none⟩)] 58 (0, 0)) ∧ w'.heap.size = w.heap.size + 2 ∧ Below w.heap.size w w' := by
  obtain ⟨w1, hw1⟩ : ∃ w1, w1 = w.alloc (.cells #[.pointer (some ⟨p, 0, none⟩)] 58) := ⟨_, rfl⟩
  obtain ⟨w2, hw2⟩ : ∃ w2, w2 = w1.alloc (.cells #[.int .i64 m] 3) := ⟨_, rfl⟩
  have hz1 : w1.heap.size = w.heap.size + 1 := by rw [hw1, World.size_alloc]
  have hb1 : Below w.heap.size w w1 := by rw [hw1]; exact (Below.refl _ w).alloc (Nat.le_refl _) _
  have hb2 : Below w1.heap.size w1 w2 := by rw [hw2]; exact (Below.refl _ w1).alloc (Nat.le_refl _) _
  have HX := Lib.hid (show w2.heap[w.heap.size]? = some (.cells #[.pointer (some ⟨p, 0, none⟩)] 58 (0, 0)) from (hb2.block _ (by omega)).trans (by rw [hw1]; exact heap_alloc_new _ _))
  have HY := Lib.hid (show w2.heap[w.heap.size + 1]? = some (.cells #[.int .i64 m] 3 (0, 0)) by rw [hw2, ← hz1]; exact heap_alloc_new _ _)
  have HZ := Lib.hid (show w2.heap.size = w.heap.size + 2 by rw [hw2, World.size_alloc, hz1])
  have HB := Lib.hid (hb1.trans (hb2.mono hb1.size))
  have HW := Lib.hid (show w2 = (w.alloc (.cells #[.pointer (some ⟨p, 0, none⟩)] 58)).alloc (.cells #[.int .i64 m] 3) by rw [hw2, hw1])
  clear hw1 hw2 hz1 hb1 hb2
  go_enter Try.func56, Try.ntmps56
  go_upto_region 1 with fail
  rw [← HW.out]
  clear HW
  go_wp2
  go_ret
  exact ⟨rfl, HY.out, HX.out, HZ.out, HB.out⟩
theorem set_note {W : World} {g : Nat} {vs : Array Value} (h : Mn) (a : Option Addr) (c : Nat) (hg : W.heap[g]? = some (.cells vs 24 (0, 0))) :
    NAt (W.setRow g #[.int .i64 h.S, .int .i64 h.Q, .int .i64 h.N, .slice a h.m c]) g h a c ∧ ∀ B, B ≤ g → Below B W (W.setRow g #[.int .i64 h.S, .int .i64 h.Q, .int .i64 h.N, .slice a h.m c]) :=
  ⟨setRow_heap _ _ _ _ _ _ hg, fun B hB => ⟨rfl, rfl, rfl, by simp, fun k hk => setRow_other W g k _ (by omega)⟩⟩

set_option maxHeartbeats 8000000 in
set_option maxRecDepth 100000 in
theorem report_any (N : Nat) (F : Nat → Nat) (hF : Pf.By F) (B p s : Nat) (w : World) (hR : RS w B w.heap.size p s N F 1) :
    Calls Try.prog 38 #[.agg #[.pointer (some ⟨p, 0, none⟩)]] w fun e w' => ∃ a c, e = .returned (nV (ntN N F) a c) ∧ w'.ownsRow w.heap.size 41 2 (.slice a (ntN N F).m c) (ntN N F).m (tdl (ntN N F).C (ntN N F).T (ntN N F).m) ∧
      RS w' B w.heap.size p s N F (9 + 3 * (ntN N F).m) ∧ But2 s s w w' := by
  obtain ⟨w1, hw1⟩ : ∃ w1, w1 = w.alloc (.cells #[.pointer (some ⟨p, 0, none⟩)] 58) := ⟨_, rfl⟩
  obtain ⟨w2, hw2⟩ : ∃ w2, w2 = w1.alloc (.cells #[.int .i64 0, .int .i64 0, .int .i64 0, .slice none 0 0] 24) := ⟨_, rfl⟩
  obtain ⟨w3, hw3⟩ : ∃ w3, w3 = w2.alloc (.cells #[.int .i64 0, .int .i64 0, .int .i64 0, .slice none 0 0] 24) := ⟨_, rfl⟩
  obtain ⟨w4, hw4⟩ : ∃ w4, w4 = w3.alloc (.cells #[.int .i64 0] 3) := ⟨_, rfl⟩
  have hz1 : w1.heap.size = w.heap.size + 1 := by rw [hw1, World.size_alloc]
  have hz2 : w2.heap.size = w.heap.size + 1 + 1 := by rw [hw2, World.size_alloc, hz1]
  have hz3 : w3.heap.size = w.heap.size + 1 + 1 + 1 := by rw [hw3, World.size_alloc, hz2]
  have hz4 : w4.heap.size = w.heap.size + 1 + 1 + 1 + 1 := by rw [hw4, World.size_alloc, hz3]
  have hb1 : Below w.heap.size w w1 := by rw [hw1]; exact (Below.refl _ w).alloc (Nat.le_refl _) _
  have hb2 : Below w1.heap.size w1 w2 := by rw [hw2]; exact (Below.refl _ _).alloc (Nat.le_refl _) _
  have hb3 : Below w2.heap.size w2 w3 := by rw [hw3]; exact (Below.refl _ _).alloc (Nat.le_refl _) _
  have hb4 : Below w3.heap.size w3 w4 := by rw [hw4]; exact (Below.refl _ _).alloc (Nat.le_refl _) _
  have hb24 : Below w1.heap.size w1 w4 := (hb2.trans (hb3.mono (by omega))).trans (hb4.mono (by omega))
  have hB4 : Below w.heap.size w w4 := hb1.trans (hb24.mono (by omega))
  have hR0 : Rp w s p w.heap.size (w.heap.size + 1) (w.heap.size + 1 + 1) (w.heap.size + 1 + 1 + 1) 0 0 0 0 w4 := ⟨(hb24.block _ (by omega)).trans (by rw [hw1]; exact heap_alloc_new _ _),
    (hb4.block _ (by omega)).trans ((hb3.block _ (by omega)).trans (by rw [hw2, ← hz1]; exact heap_alloc_new _ _)), (hb4.block _ (by omega)).trans (by rw [hw3, ← hz2]; exact heap_alloc_new _ _), by rw [hw4, ← hz3]; exact heap_alloc_new _ _, But2.of hB4⟩
  have HP0 := Lib.hid hR0
  have HG := Lib.hid (show Gs4 w s w.heap.size (w.heap.size + 1) (w.heap.size + 1 + 1) (w.heap.size + 1 + 1 + 1) from ⟨hR.ltS, by omega, by omega, by omega, by omega, by omega, by omega, by omega, by omega, by omega⟩)
  have HR := Lib.hid (hR.same hB4 (Nat.le_refl _))
  have HZ := Lib.hid (show w.heap.size + 1 + 1 + 1 < w4.heap.size by omega)
  have HW := Lib.hid (show w4 = (((w.alloc (.cells #[.pointer (some ⟨p, 0, none⟩)] 58)).alloc (.cells #[.int .i64 0, .int .i64 0, .int .i64 0, .slice none 0 0] 24)).alloc (.cells #[.int .i64 0, .int .i64 0, .int .i64 0, .slice none 0 0] 24)).alloc (.cells #[.int .i64 0] 3) by rw [hw4, hw3, hw2, hw1])
  have HF := Lib.hid hF
  obtain ⟨g0, hg0⟩ : ∃ g, g = w.heap.size := ⟨_, rfl⟩
  obtain ⟨g1, hg1⟩ : ∃ g, g = w.heap.size + 1 := ⟨_, rfl⟩
  obtain ⟨g2, hg2⟩ : ∃ g, g = w.heap.size + 1 + 1 := ⟨_, rfl⟩
  obtain ⟨g3, hg3⟩ : ∃ g, g = w.heap.size + 1 + 1 + 1 := ⟨_, rfl⟩
  rw [← hg3] at HP0 HG HZ
  rw [← hg2] at HP0 HG
  rw [← hg1] at HP0 HG
  have HP0 := Lib.hid (show Rp w s p g0 g1 g2 g3 0 0 0 0 w4 by rw [hg0]; exact HP0.out)
  have HG := Lib.hid (show Gs4 w s g0 g1 g2 g3 by rw [hg0]; exact HG.out)
  have HGG := Lib.hid (show g0 < w4.heap.size ∧ g1 < w4.heap.size ∧ g2 < w4.heap.size ∧ g3 < w4.heap.size ∧ w.heap.size ≤ w4.heap.size by omega)
  obtain ⟨S, hS⟩ : ∃ x, x = val N F 1 2 := ⟨_, rfl⟩
  obtain ⟨Q, hQ⟩ : ∃ x, x = val N F 3 4 := ⟨_, rfl⟩
  obtain ⟨M, hM⟩ : ∃ x, x = val N F 7 1 := ⟨_, rfl⟩
  obtain ⟨m, hm⟩ : ∃ x, x = val N F 8 1 := ⟨_, rfl⟩
  have HE := Lib.hid (show ntN N F = ⟨(S : Nat), (Q : Nat), (M : Nat), m, rC N F 9, rT N F 9⟩ by rw [hS, hQ, hM, hm]; rfl)
  have HMM := Lib.hid (show m ≤ 255 by rw [hm]; have := val_lt (N := N) hF 8 1; omega)
  have ES := Lib.hid hS; have EQ := Lib.hid hQ; have EM := Lib.hid hM; have Em := Lib.hid hm
  go_enter Try.func38, Try.ntmps38
  go_upto_region 3 with fail
  rw [← HW.out]
  rw [← hg3, ← hg2, ← hg1, ← hg0]
  clear hw1 hw2 hw3 hw4 hz1 hz2 hz3 hz4 hb1 hb2 hb3 hb4 hb24 hB4 hR0 HW hF hg0 hg1 hg2 hg3 hS hQ hM hm hR
  obtain ⟨c0, c1, c2, c3, c4, c5⟩ := HP0.out.c
  go_wp2_with fail
  clear c0 c1 c2 c3 c4 c5
  refine (rnum1_at 2 (by decide) (by decide) g2 0 (Rp w s p g0 g1 g2 g3 0 0 0 0) (Rp w s p g0 g1 g2 g3 S 0 0 0) (fun A C h hb => h.but HG.out hb) (fun A C h hb => h.but HG.out hb) (fun A h => ⟨⟨_, h.c.2.1⟩, frozen_of_row _ _ _ _ _ h.n⟩) (fun A h => by rw [ES.out]; exact h.set0 HG.out _)
    w4 ⟨HG.out.h2, HGG.out.2.2.1⟩ HGG.out.2.2.2.2 HR.out HP0.out).mono ?_
  rintro e w5 ⟨rfl, hr5, hp5, hk5⟩
  have HR5 := Lib.hid hr5; have HP5 := Lib.hid hp5; have HZ5 := Lib.hid (Nat.le_refl w5.heap.size)
  have HK5 := Lib.hid hk5.size
  clear hr5 hp5 hk5 HR HP0
  obtain ⟨c0, c1, c2, c3, c4, c5⟩ := HP5.out.c
  go_wp2_with fail
  clear c0 c1 c2 c3 c4 c5
  refine (rnum1_at 4 (by decide) (by decide) g2 1 (Rp w s p g0 g1 g2 g3 S 0 0 0) (Rp w s p g0 g1 g2 g3 S Q 0 0) (fun A C h hb => h.but HG.out hb) (fun A C h hb => h.but HG.out hb) (fun A h => ⟨⟨_, h.c.2.2.1⟩, frozen_of_row _ _ _ _ _ h.n⟩) (fun A h => by rw [EQ.out]; exact h.set1 HG.out _)
    w5 ⟨HG.out.h2, by have := HGG.out; have := HK5.out; omega⟩ (by have := HGG.out; have := HK5.out; omega) HR5.out HP5.out).mono ?_
  rintro e w6 ⟨rfl, hr6, hp6, hk6⟩
  have HR6 := Lib.hid hr6; have HP6 := Lib.hid hp6
  have HK6 := Lib.hid (Nat.le_trans HK5.out hk6.size)
  clear hr6 hp6 hk6 HR5 HP5 HK5
  obtain ⟨c0, c1, c2, c3, c4, c5⟩ := HP6.out.c
  go_wp2_with fail
  clear c0 c1 c2 c3 c4 c5
  refine (rnum2_at g2 2 g3 0 (Rp w s p g0 g1 g2 g3 S Q 0 0) (Rp w s p g0 g1 g2 g3 S Q M 0) (Rp w s p g0 g1 g2 g3 S Q M m) (fun A C h hb => h.but HG.out hb) (fun A C h hb => h.but HG.out hb) (fun A C h hb => h.but HG.out hb)
    (fun A h => ⟨⟨_, h.c.2.2.2.1⟩, frozen_of_row _ _ _ _ _ h.n⟩) (fun A h => by rw [EM.out]; exact h.set2 HG.out _) (fun A h => ⟨⟨_, h.c.2.2.2.2.2⟩, frozen_of_row _ _ _ _ _ h.m⟩) (fun A h => by rw [Em.out]; exact h.setM HG.out _)
    w6 ⟨HG.out.h2, by have := HGG.out; have := HK6.out; omega⟩ ⟨HG.out.h3, by have := HGG.out; have := HK6.out; omega⟩ (by have := HGG.out; have := HK6.out; omega) HR6.out HP6.out).mono ?_
  rintro e w7 ⟨rfl, hr7, hp7, hk7⟩
  have HR7 := Lib.hid (show RS w7 B w.heap.size p s N F 9 from hr7); have HP7 := Lib.hid hp7
  have HK7 := Lib.hid (Nat.le_trans HK6.out hk7.size)
  clear hr7 hp7 hk7 HR6 HP6 HK6
  obtain ⟨c0, c1, c2, c3, c4, c5⟩ := HP7.out.c
  go_wp2_with fail
  clear c0 c1 c2 c3 c4 c5
  refine (counts_any p (m : Nat) w7).mono ?_
  rintro e w8 ⟨rfl, hmb, hrb, hz8, hB8⟩
  have HMB := Lib.hid hmb; have HRB := Lib.hid hrb; have HZ8 := Lib.hid hz8
  have HR8 := Lib.hid (HR7.out.same hB8 (by have := HGG.out; have := HK7.out; omega))
  have HP8 := Lib.hid (HP7.out.but HG.out (But2.of hB8))
  clear hmb hrb hz8 hB8
  obtain ⟨q, hq⟩ : ∃ q, q = w7.heap.size := ⟨_, rfl⟩
  rw [← hq] at HMB HRB HZ8 ⊢
  obtain ⟨q1, hq1⟩ : ∃ q1, q1 = q + 1 := ⟨_, rfl⟩
  rw [← hq1] at HMB ⊢
  have HQ := Lib.hid (show w.heap.size ≤ q ∧ q1 = q + 1 by have := HGG.out; have := HK7.out; omega)
  clear hq hq1
  go_wp2_with fail
  refine (collect_any q1 q w8.heap.size 9 m B w.heap.size p s N F (by have := HQ.out; have := HZ8.out; omega) (by have := HQ.out; have := HZ8.out; omega) (by have := HQ.out; have := HZ8.out; omega) HMM.out w8 (Nat.le_refl _) HMB.out HRB.out HR8.out).mono ?_
  rintro e w9 ⟨a, c, rfl, hown, hr9, hb9⟩
  have HP9 := Lib.hid (HP8.out.but HG.out hb9); have HR9 := Lib.hid hr9; have HO9 := Lib.hid hown
  have HZ9 := Lib.hid (show g1 < w8.heap.size ∧ g2 < w8.heap.size ∧ w.heap.size ≤ w8.heap.size from ⟨(Array.getElem?_eq_some_iff.1 HP8.out.z).1, (Array.getElem?_eq_some_iff.1 HP8.out.n).1, by have := HQ.out; have := HZ8.out; omega⟩)
  clear hown hr9 hb9 HP8 HR8 HMB HRB
  obtain ⟨c0, c1, c2, c3, c4, c5⟩ := HP9.out.c
  have f4 : w9.frozen? ⟨g2, 3, none⟩ = false := frozen_of_row _ _ _ _ _ HP9.out.n
  go_upto_region 7 with fail
  obtain ⟨wa, hwa⟩ : ∃ wa, wa = w9.setCell ⟨g2, 3, none⟩ (.slice a m c) := ⟨_, rfl⟩
  rw [← hwa]
  have HNA := Lib.hid (show wa.heap[g2]? = some (.cells #[.int .i64 (S : Nat), .int .i64 (Q : Nat), .int .i64 (M : Nat), .slice a m c] 24 (0, 0)) by rw [hwa]; exact heap_setCell_same w9 g2 3 _ _ _ HP9.out.n)
  have HZA := Lib.hid (show wa.heap[g1]? = some (.cells #[.int .i64 0, .int .i64 0, .int .i64 0, .slice none 0 0] 24 (0, 0)) by rw [hwa]; exact (heap_setCell_other _ _ _ _ HG.out.n12).trans HP9.out.z)
  have HBA := Lib.hid (show But2 s s w wa by rw [hwa]; exact but2_set HP9.out.b HG.out.h2)
  have HRA := Lib.hid (show RS wa B w.heap.size p s N F (9 + 3 * m) by rw [hwa]; exact HR9.out.set HG.out.h2)
  have HOA := Lib.hid (show wa.ownsRow w8.heap.size 41 2 (.slice a m c) m (tdl (rC N F 9) (rT N F 9) m) by rw [hwa]; exact own_oth HO9.out fun g hg _ => heap_setCell_other _ _ _ _ (fun e => by have e2 : g = g2 := e; have := HZ9.out; omega))
  clear hwa c0 c1 c2 c3 c4 c5 f4 HP9 HR9 HO9
  have c0 : wa.cell? ⟨g2, 0, none⟩ = some (.int .i64 (S : Nat)) := by rw [cell_of_row _ _ 0 _ _ _ HNA.out]; rfl
  have c1 : wa.cell? ⟨g2, 1, none⟩ = some (.int .i64 (Q : Nat)) := by rw [cell_of_row _ _ 1 _ _ _ HNA.out]; rfl
  have c2 : wa.cell? ⟨g2, 2, none⟩ = some (.int .i64 (M : Nat)) := by rw [cell_of_row _ _ 2 _ _ _ HNA.out]; rfl
  have c3 : wa.cell? ⟨g2, 3, none⟩ = some (.slice a m c) := by rw [cell_of_row _ _ 3 _ _ _ HNA.out]; rfl
  go_wp2_with (show wpList _ _ _ (⟨none, _, _, _, _, _⟩ :: _) _ _; refine wpList_store_row rfl 24 _ _ rfl g1 #[.int .i64 (S : Nat), .int .i64 (Q : Nat), .int .i64 (M : Nat), .slice a m c] rfl rfl 24 _ HZA.out (by kernel_rfl) rfl (by simp [Value.oneCell']) ?_)
  have hset := set_note ⟨(S : Nat), (Q : Nat), (M : Nat), m, rC N F 9, rT N F 9⟩ a c HZA.out
  have hoth : ∀ j, j ≠ g1 → (wa.setRow g1 #[.int .i64 (S : Nat), .int .i64 (Q : Nat), .int .i64 (M : Nat), .slice a m c]).heap[j]? = wa.heap[j]? := fun j hj => setRow_other wa g1 j _ hj
  refine bodyPost_ret (results_cell_row rfl _ _ g1 _ _ (0, 0) _ rfl hset.1 Try.underlying24 rfl (by kernel_rfl)) rfl ?_
  rw [HE.out]
  refine ⟨a, c, rfl, own_mono (own_oth HOA.out fun g hg _ => hoth g (by have := HZ9.out; omega)) HZ9.out.2.2, HRA.out.kept (by simp) (fun i hi => hoth i (by have := HG.out.h1; omega)), ?_⟩
  have hb := HBA.out
  exact ⟨hb.os, hb.tape, hb.output, by simp; exact hb.size, fun k h1 h2 h3 => (hoth k (by have := HG.out.h1; omega)).trans (hb.block k h1 h2 h3)⟩
end Go.Proofs.Ytjlmajopfeplpaa.Nt

namespace Go.Proofs.Ytjlmajopfeplpaa.Nt
open Go.RowKit Go.Shelf
attribute [local go_sem] Oper.semAt_some

def zN : Value := .agg #[.int .i64 0, .int .i64 0, .int .i64 0, .slice none 0 0]
/-- what Parse tells of so many bytes. -/
def ParSays (w : World) (n : Nat) (f : Nat → Nat) (e : Ending) (w' : World) : Prop :=
  (perr n f ≠ 0 ∧ e = .returned (.tuple #[zN, .int .i64 (perr n f)])) ∨
  (perr n f = 0 ∧ ∃ a c, e = .returned (.tuple #[nV (nt f) a c, .int .i64 0]) ∧ w'.ownsRow w.heap.size 41 2 (.slice a (f 8) c) (f 8) (tdl (nt f).C (nt f).T (f 8)))
theorem val_in {N : Nat} {F : Nat → Nat} {k z : Nat} (h : k + z ≤ N) : val N F k z = vn (fun j => F (k + j)) z := by unfold val; rw [if_pos h]
theorem ntN_eq {N : Nat} {F : Nat → Nat} (h9 : 9 ≤ N) (h : 9 + 3 * F 8 ≤ N) : EN (ntN N F) (nt F) := by
  have em : val N F 8 1 = F 8 := val_one (by omega)
  refine ⟨?_, ?_, ?_, em, fun i hi => ?_⟩
  · show ((val N F 1 2 : Nat) : Int) = _; rw [val_in (by omega)]; rfl
  · show ((val N F 3 4 : Nat) : Int) = _; rw [val_in (by omega)]; rfl
  · show ((val N F 7 1 : Nat) : Int) = _; rw [val_one (by omega)]; rfl
  · have hi : i < F 8 := by
      have : (ntN N F).m = F 8 := em
      omega
    constructor
    · show ((val N F (9 + 3 * i) 1 : Nat) : Int) = _; rw [val_one (by omega)]; rfl
    · show ((val N F (9 + 3 * i + 1) 2 : Nat) : Int) = _
      rw [val_in (by omega)]
      show _ = ((vn (fun j => F (10 + 3 * i + j)) 2 : Nat) : Int)
      rw [vn_congr (g := fun j => F (10 + 3 * i + j)) 2 (fun j _ => by congr 1; omega)]
theorem nV_eq {h g : Mn} (e : EN h g) (a : Option Addr) (c : Nat) : nV h a c = nV g a c := by
  unfold nV; rw [e.1, e.2.1, e.2.2.1, e.2.2.2.1]
theorem tdl_en {h g : Mn} (e : EN h g) : tdl h.C h.T h.m = tdl g.C g.T g.m := by
  rw [← e.2.2.2.1]; exact tdl_congr _ e.2.2.2.2
/-- just as long as it tells. -/
theorem long_m {N : Nat} {F : Nat → Nat} (h : 9 + 3 * (ntN N F).m = N) : (ntN N F).m = F 8 ∧ 9 + 3 * F 8 = N := by
  have e : (ntN N F).m = val N F 8 1 := rfl
  have em : val N F 8 1 = F 8 := val_one (by omega)
  omega
theorem good_m {N : Nat} {F : Nat → Nat} (g : GoodP N F) : 9 + 3 * (ntN N F).m = N := by
  have e : (ntN N F).m = val N F 8 1 := rfl
  have em : val N F 8 1 = F 8 := val_one (by have := g.1; omega)
  have := g.1
  omega
theorem good_iff {N : Nat} {F : Nat → Nat} (h : 9 + 3 * (ntN N F).m = N) : RN (ntN N F) ↔ GoodP N F := by
  obtain ⟨h1, h2⟩ := long_m h
  have e := ntN_eq (N := N) (F := F) (by omega) (by omega)
  exact ⟨fun r => ⟨h2.symm, rn_congr e r⟩, fun g => rn_congr e.symm g.2⟩
/-- what End tells. -/
theorem fin_of {S : Bs} {N k : Nat} {F : Nat → Nat} (hc : (S.e = 0 ∧ k ≤ N ∧ S.l = N - k ∧ ∀ j, j < N - k → S.f j = F (k + j)) ∨ (S.e = 4 ∧ N < k)) : S.fin = if k = N then 0 else 4 := by
  unfold Bs.fin
  rcases hc with ⟨he, hk, hl, hf⟩ | ⟨he, hk⟩
  · rw [if_neg (by simp [he])]
    by_cases e : k = N
    · rw [if_pos e, if_neg (by omega)]
    · rw [if_neg e, if_pos (by omega)]
  · rw [if_pos (by rw [he]; decide), he, if_neg (by omega)]
theorem results_note2 {fn : Func} {p q : Tmp} (h : fn.results = #[.cell p 24, .tmp q]) (tmps : Array Value) (w : World) (g : Nat) (x : Mn) (a : Option Addr) (c : Nat)
    (hp : tmps.getD p undef = .pointer (some ⟨g, 0, none⟩)) (hg : NAt w g x a c) : (results fn tmps).run Try.prog w = .ok (.tuple #[nV x a c, tmps.getD q undef]) w := by
  have hp' : tmps[p]?.getD undef = .pointer (some ⟨g, 0, none⟩) := by simpa using hp
  have hr := run_loadVar_row (P := Try.prog) w g _ _ #[.int .i64 x.S, .int .i64 x.Q, .int .i64 x.N, .slice a x.m c] (0, 0) _ hg Try.underlying24 rfl (by kernel_rfl)
  simp [results, h, hp', asAddr, hr, nV]
def nz : Mn := ⟨0, 0, 0, 0, fun _ => 0, fun _ => 0⟩

set_option maxHeartbeats 8000000 in
set_option maxRecDepth 100000 in
theorem pparse_any (a : Option Addr) (n c : Nat) (f : Nat → Nat) (hn : n ≤ 1000000) (w : World) (hS : Sl w a n c f) :
    Calls Try.prog 23 #[.slice a n c] w fun e w' => ParSays w n f e w' ∧ Below w.heap.size w w' := by
  obtain ⟨w0, hw0⟩ : ∃ w0, w0 = w.alloc (.cells #[.int .i64 0, .int .i64 0, .int .i64 0, .slice none 0 0] 24) := ⟨_, rfl⟩
  have HX0 := Lib.hid (show NAt w0 w.heap.size nz none 0 by rw [hw0]; exact heap_alloc_new _ _)
  have hB0 : Below w.heap.size w w0 := by rw [hw0]; exact (Below.refl _ w).alloc (Nat.le_refl _) _
  have HB0 := Lib.hid hB0
  have HZ0 := Lib.hid (show w0.heap.size = w.heap.size + 1 by rw [hw0, World.size_alloc])
  have HO := Lib.hid (popen2_any a n c f hn w0 (hS.same hB0))
  have HW := Lib.hid hw0; have HBY := Lib.hid hS.bytes; have HN := Lib.hid hn
  clear hw0 hB0 hS hn
  obtain ⟨wg, hwg⟩ : ∃ wg, wg = w.heap.size := ⟨_, rfl⟩
  rw [← hwg] at HX0 HZ0
  have HWG := Lib.hid hwg
  go_enter Try.func23, Try.ntmps23
  go_upto_region 1 with fail
  rw [← HW.out, ← hwg]
  clear hwg HW
  go_wp2_with fail
  refine HO.out.mono ?_
  rintro e w1 ⟨hc, hB1⟩
  have HB1 := Lib.hid (HB0.out.trans (hB1.mono HB0.out.size))
  have HX1 := Lib.hid (HX0.out.same hB1)
  have HWL := Lib.hid (show wg < w1.heap.size ∧ w0.heap.size ≤ w1.heap.size by have := HZ0.out; have := hB1.size; omega)
  clear hB1 HB0 HO
  rcases hc with ⟨h0, rfl⟩ | ⟨h0, p, s, rfl, hR⟩
  · have HP := Lib.hid (perr_o h0)
    have HP0 := Lib.hid h0
    obtain ⟨er, her⟩ : ∃ er, er = oerr n f := ⟨_, rfl⟩
    rw [← her] at HP HP0 ⊢
    have g1 : (er != 0) = true := by simpa using HP0.out
    clear h0 her
    go_upto_region 2 with fail
    obtain ⟨w2, hw2⟩ : ∃ w2, w2 = w1.alloc (.cells #[.pointer none] 58) := ⟨_, rfl⟩
    rw [← hw2]
    have hb2 : Below w1.heap.size w1 w2 := by rw [hw2]; exact (Below.refl _ _).alloc (Nat.le_refl _) _
    have HX2 := Lib.hid (HX1.out.same hb2)
    have HB2 := Lib.hid (HB1.out.trans (hb2.mono HB1.out.size))
    clear hw2 hb2
    have HRW := Lib.hid (show w2.heap[wg]? = some (.cells #[.int .i64 0, .int .i64 0, .int .i64 0, .slice none 0 0] 24 (0, 0)) from HX2.out)
    go_wp2_with (show wpList _ _ _ (⟨none, _, _, _, _, _⟩ :: _) _ _; refine wpList_store_row rfl 24 _ _ rfl wg #[.int .i64 0, .int .i64 0, .int .i64 0, .slice none 0 0] rfl rfl 24 _ HRW.out (by kernel_rfl) rfl (by simp [Value.oneCell']) ?_)
    have hzz := set_note nz none 0 HRW.out
    exact bodyPost_ret (results_note2 rfl _ _ wg nz none 0 rfl hzz.1) rfl ⟨Or.inl ⟨by rw [HP.out]; exact HP0.out, by rw [HP.out]; rfl⟩, HB2.out.trans (hzz.2 _ (by have := HWG.out; omega))⟩
  · obtain ⟨hn4, hf0, hgood, hbad⟩ := perr_z h0
    have HGOOD := Lib.hid hgood; have HBAD := Lib.hid hbad
    obtain ⟨N, hNN⟩ : ∃ N, N = n - 4 := ⟨_, rfl⟩
    rw [← hNN] at hR HGOOD HBAD
    have HNN := Lib.hid (show n = N + 4 by omega)
    have HSZ := Lib.hid (show wg + 1 = w0.heap.size from HZ0.out.symm)
    have HR := Lib.hid hR
    have HS1 := Lib.hid (show w.heap.size ≤ s ∧ wg < s by have := hR.bs; have := HZ0.out; have := HWG.out; omega)
    clear h0 hn4 hf0 hgood hbad hNN hR
    go_upto_region 2 with fail
    obtain ⟨w2, hw2⟩ : ∃ w2, w2 = w1.alloc (.cells #[.pointer (some ⟨p, 0, none⟩)] 58) := ⟨_, rfl⟩
    rw [← hw2]
    have hb2 : Below w1.heap.size w1 w2 := by rw [hw2]; exact (Below.refl _ _).alloc (Nat.le_refl _) _
    have HX2 := Lib.hid (HX1.out.same hb2)
    have HB2 := Lib.hid (HB1.out.trans (hb2.mono HB1.out.size))
    have HQ2 := Lib.hid (show w2.heap[w1.heap.size]? = some (.cells #[.pointer (some ⟨p, 0, none⟩)] 58 (0, 0)) by rw [hw2]; exact heap_alloc_new _ _)
    have HR2 := Lib.hid (show RS w2 w0.heap.size w2.heap.size p s N f 1 from (HR.out.same hb2 (Nat.le_refl _)).top)
    have HSL := Lib.hid (show s < w1.heap.size from HR.out.ltS)
    generalize w1.heap.size = q at *
    clear hw2 hb2 HX1 HB1 HR
    have q0 : w2.cell? ⟨q, 0, none⟩ = some (.pointer (some ⟨p, 0, none⟩)) := by rw [cell_of_row _ _ 0 _ _ _ HQ2.out]; rfl
    have HH := Lib.hid (report_any N f HBY.out w0.heap.size p s w2 HR2.out)
    obtain ⟨H, hH⟩ : ∃ H, H = ntN N f := ⟨_, rfl⟩
    rw [← hH] at HH
    have HEQ := Lib.hid hH
    unfold nV at HH
    clear hH
    go_wp2_with fail
    clear q0
    refine HH.out.mono ?_
    rintro e w3 ⟨ca, cc, rfl, hown, hr, hb⟩
    have HX3 := Lib.hid (show NAt w3 wg nz none 0 from (but2_kept hb HX2.out.lt (by have := HS1.out; omega)).trans HX2.out)
    have HQ3 := Lib.hid ((but2_kept hb (Array.getElem?_eq_some_iff.1 HQ2.out).1 (by have := HSL.out; omega)).trans HQ2.out)
    have HB3 := Lib.hid (HB2.out.trans (but2_below hb HB2.out.size HS1.out.1))
    have HO3 := Lib.hid hown
    have HR3 := Lib.hid hr.top
    have HZ3 := Lib.hid (show w2.heap.size ≤ w3.heap.size ∧ w.heap.size ≤ w2.heap.size from ⟨hb.size, HB2.out.size⟩)
    clear hown hr hb HH
    go_upto_region 5 with fail
    obtain ⟨w4, hw4⟩ : ∃ w4, w4 = w3.alloc (.cells #[.int .i64 H.S, .int .i64 H.Q, .int .i64 H.N, .slice ca H.m cc] 24) := ⟨_, rfl⟩
    rw [← hw4]
    have hb4 : Below w3.heap.size w3 w4 := by rw [hw4]; exact (Below.refl _ _).alloc (Nat.le_refl _) _
    have HN4 := Lib.hid (show NAt w4 w3.heap.size H ca cc by rw [hw4]; exact heap_alloc_new _ _)
    have HX4 := Lib.hid (HX3.out.same hb4)
    have HQ4 := Lib.hid ((hb4.block q (Array.getElem?_eq_some_iff.1 HQ3.out).1).trans HQ3.out)
    have HB4 := Lib.hid (HB3.out.trans (hb4.mono HB3.out.size))
    have HO4 := Lib.hid (own_be HO3.out hb4)
    have HR4 := Lib.hid (show ∃ a c S, Rr w4 w0.heap.size p s a c S ∧ S.fin = if 9 + 3 * H.m = N then 0 else 4 from by
      obtain ⟨a, c, S, q1, q2, q3, q4, q5⟩ := HR3.out
      exact ⟨a, c, S, q1.same hb4, fin_of q5⟩)
    generalize w3.heap.size = nb at *
    clear hw4 hb4 HX3 HQ3 HB3 HO3 HR3
    obtain ⟨ra, rc, S, hRr, hfin⟩ := HR4.out
    have HRR := Lib.hid hRr; have HFI := Lib.hid hfin
    clear hRr hfin HR4
    have q0 : w4.cell? ⟨q, 0, none⟩ = some (.pointer (some ⟨p, 0, none⟩)) := by rw [cell_of_row _ _ 0 _ _ _ HQ4.out]; rfl
    go_wp2_with fail
    clear q0
    refine (rend_any w0.heap.size p s ra rc S w4 HRR.out).mono ?_
    rintro e w5 ⟨rfl, rfl⟩
    rw [HFI.out]
    have HRW := Lib.hid (show w5.heap[wg]? = some (.cells #[.int .i64 0, .int .i64 0, .int .i64 0, .slice none 0 0] 24 (0, 0)) from HX4.out)
    by_cases hk : 9 + 3 * H.m = N
    rotate_left
    · rw [if_neg hk]
      have HP := Lib.hid (HBAD.out (fun g => hk (by rw [HEQ.out]; exact good_m g)))
      clear hk
      go_wp2_with (show wpList _ _ _ (⟨none, _, _, _, _, _⟩ :: _) _ _; refine wpList_store_row rfl 24 _ _ rfl wg #[.int .i64 0, .int .i64 0, .int .i64 0, .slice none 0 0] rfl rfl 24 _ HRW.out (by kernel_rfl) rfl (by simp [Value.oneCell']) ?_)
      have hzz := set_note nz none 0 HRW.out
      exact bodyPost_ret (results_note2 rfl _ _ wg nz none 0 rfl hzz.1) rfl ⟨Or.inl ⟨by rw [HP.out]; decide, by rw [HP.out]; rfl⟩, HB4.out.trans (hzz.2 _ (by have := HWG.out; omega))⟩
    rw [if_pos hk]
    have HK := Lib.hid hk
    clear hk
    have HT := Lib.hid (tdl_tb HO4.out).1
    have HRI := Lib.hid (pright_any H ca cc (by rw [HEQ.out]; have := val_lt (N := N) HBY.out 8 1; show val N f 8 1 ≤ _; omega) w5 HT.out)
    unfold nV at HRI
    obtain ⟨c0, c1, c2, c3⟩ := HN4.out.c
    go_wp2_with fail
    clear c0 c1 c2 c3
    refine HRI.out.mono ?_
    rintro e w6 ⟨⟨v, rfl, hv⟩, hB6⟩
    have HV := Lib.hid (show v = true ↔ GoodP N f by rw [hv, HEQ.out]; exact good_iff (by rw [← HEQ.out]; exact HK.out))
    have HN6 := Lib.hid (HN4.out.same hB6)
    have HX6 := Lib.hid (HX4.out.same hB6)
    have HB6 := Lib.hid (HB4.out.trans (hB6.mono HB4.out.size))
    have HO6 := Lib.hid (own_be HO4.out hB6)
    have HRW := Lib.hid (show w6.heap[wg]? = some (.cells #[.int .i64 0, .int .i64 0, .int .i64 0, .slice none 0 0] 24 (0, 0)) from HX6.out)
    clear hv hB6 HRI
    cases v
    · have HP := Lib.hid (HBAD.out (fun g => absurd (HV.out.2 g) (by simp)))
      go_wp2_with (show wpList _ _ _ (⟨none, _, _, _, _, _⟩ :: _) _ _; refine wpList_store_row rfl 24 _ _ rfl wg #[.int .i64 0, .int .i64 0, .int .i64 0, .slice none 0 0] rfl rfl 24 _ HRW.out (by kernel_rfl) rfl (by simp [Value.oneCell']) ?_)
      have hzz := set_note nz none 0 HRW.out
      exact bodyPost_ret (results_note2 rfl _ _ wg nz none 0 rfl hzz.1) rfl ⟨Or.inl ⟨by rw [HP.out]; decide, by rw [HP.out]; rfl⟩, HB6.out.trans (hzz.2 _ (by have := HWG.out; omega))⟩
    · have HGP := Lib.hid (show GoodP N f by first | exact HV.out.1 rfl | exact HV.out.1 trivial)
      have HP := Lib.hid (HGOOD.out HGP.out)
      obtain ⟨c0, c1, c2, c3⟩ := HN6.out.c
      go_wp2_with (show wpList _ _ _ (⟨none, _, _, _, _, _⟩ :: _) _ _; refine wpList_store_row rfl 24 _ _ rfl wg #[.int .i64 H.S, .int .i64 H.Q, .int .i64 H.N, .slice ca H.m cc] rfl rfl 24 _ HRW.out (by kernel_rfl) rfl (by simp [Value.oneCell']) ?_)
      have hzz := set_note H ca cc HRW.out
      have he : EN H (nt f) := by
        have hk := HK.out
        rw [HEQ.out] at hk ⊢
        have := long_m hk
        exact ntN_eq (by omega) (by omega)
      have em : H.m = f 8 := he.2.2.2.1
      refine bodyPost_ret (results_note2 rfl _ _ wg H ca cc rfl hzz.1) rfl ⟨Or.inr ⟨HP.out, ca, cc, ?_, ?_⟩, HB6.out.trans (hzz.2 _ (by have := HWG.out; omega))⟩
      · rw [nV_eq he]; rfl
      · have ho := own_oth (w' := w6.setRow wg #[.int .i64 H.S, .int .i64 H.Q, .int .i64 H.N, .slice ca H.m cc]) HO6.out (fun g hg _ => setRow_other w6 wg g _ (by have := HX2.out.lt; omega))
        have e2 : tdl (nt f).C (nt f).T H.m = tdl H.C H.T H.m := (tdl_congr _ he.2.2.2.2).symm
        rw [← em, e2]
        exact own_mono ho HZ3.out.2
end Go.Proofs.Ytjlmajopfeplpaa.Nt

namespace Go.Proofs.Ytjlmajopfeplpaa.Nt
open Go.RowKit Go.Shelf
attribute [local go_sem] Oper.semAt_some

theorem perr_ok {n : Nat} {f : Nat → Nat} (h4 : 4 ≤ n) (hok : okB f (n - 4) = true) : (n = 4 → perr n f = 4) ∧ (n ≠ 4 → f 0 ≠ 2 → perr n f = 11) ∧ (n ≠ 4 → f 0 = 2 → GoodP (n - 4) f → perr n f = 0) ∧ (n ≠ 4 → f 0 = 2 → ¬ GoodP (n - 4) f → perr n f = 4) := by
  unfold perr
  rw [if_neg (by omega), if_neg (by rw [hok]; decide)]
  exact ⟨fun h => if_pos h, fun h k => by rw [if_neg h, if_pos k], fun h k g => by rw [if_neg h, if_neg (by omega), if_pos g], fun h k g => by rw [if_neg h, if_neg (by omega), if_neg g]⟩
set_option maxHeartbeats 8000000 in
set_option maxRecDepth 100000 in
theorem rparse_any (a : Option Addr) (n c : Nat) (f : Nat → Nat) (hn : n ≤ 1000000) (w : World) (hS : Sl w a n c f) :
    Calls Try.prog 33 #[.slice a n c] w fun e w' => ParSays w n f e w' ∧ Below w.heap.size w w' := by
  obtain ⟨w0, hw0⟩ : ∃ w0, w0 = w.alloc (.cells #[.int .i64 0, .int .i64 0, .int .i64 0, .slice none 0 0] 24) := ⟨_, rfl⟩
  have HX0 := Lib.hid (show NAt w0 w.heap.size nz none 0 by rw [hw0]; exact heap_alloc_new _ _)
  have hB0 : Below w.heap.size w w0 := by rw [hw0]; exact (Below.refl _ w).alloc (Nat.le_refl _) _
  have HB0 := Lib.hid hB0
  have HZ0 := Lib.hid (show w0.heap.size = w.heap.size + 1 by rw [hw0, World.size_alloc])
  have HO := Lib.hid (ropen_any a n c f (by omega) w0 (hS.same hB0))
  have HW := Lib.hid hw0; have HBY := Lib.hid hS.bytes; have HN := Lib.hid hn
  clear hw0 hB0 hS hn
  obtain ⟨pe, hpe⟩ : ∃ pe, pe = perr n f := ⟨_, rfl⟩
  have HPE := Lib.hid hpe
  clear hpe
  obtain ⟨wg, hwg⟩ : ∃ wg, wg = w.heap.size := ⟨_, rfl⟩
  rw [← hwg] at HX0 HZ0
  have HWG := Lib.hid hwg
  go_enter Try.func33, Try.ntmps33
  go_upto_region 1 with fail
  rw [← HW.out, ← hwg]
  clear hwg HW
  go_wp2_with fail
  refine HO.out.mono ?_
  rintro e w1 (⟨h4, rfl, hB⟩ | ⟨h4, hok, rfl, hB⟩ | ⟨h4, hok, b, cap, rfl, hN, hB⟩)
  · have HP := Lib.hid (show perr n f = 4 by unfold perr; rw [if_pos h4])
    have HX1 := Lib.hid (HX0.out.same hB)
    have HB := Lib.hid (HB0.out.trans (hB.mono HB0.out.size))
    have HRW := Lib.hid (show w1.heap[wg]? = some (.cells #[.int .i64 0, .int .i64 0, .int .i64 0, .slice none 0 0] 24 (0, 0)) from HX1.out)
    clear h4 hB
    go_wp2_with (show wpList _ _ _ (⟨none, _, _, _, _, _⟩ :: _) _ _; refine wpList_store_row rfl 24 _ _ rfl wg #[.int .i64 0, .int .i64 0, .int .i64 0, .slice none 0 0] rfl rfl 24 _ HRW.out (by kernel_rfl) rfl (by simp [Value.oneCell']) ?_)
    have hzz := set_note nz none 0 HRW.out
    exact bodyPost_ret (results_note2 rfl _ _ wg nz none 0 rfl hzz.1) rfl ⟨Or.inl ⟨by rw [HP.out]; decide, by rw [HP.out]; rfl⟩, HB.out.trans (hzz.2 _ (by have := HWG.out; omega))⟩
  · have HP := Lib.hid (show perr n f = 10 by unfold perr; rw [if_neg (by omega), if_pos hok])
    have HX1 := Lib.hid (HX0.out.same hB)
    have HB := Lib.hid (HB0.out.trans (hB.mono HB0.out.size))
    have HRW := Lib.hid (show w1.heap[wg]? = some (.cells #[.int .i64 0, .int .i64 0, .int .i64 0, .slice none 0 0] 24 (0, 0)) from HX1.out)
    clear h4 hok hB
    go_wp2_with (show wpList _ _ _ (⟨none, _, _, _, _, _⟩ :: _) _ _; refine wpList_store_row rfl 24 _ _ rfl wg #[.int .i64 0, .int .i64 0, .int .i64 0, .slice none 0 0] rfl rfl 24 _ HRW.out (by kernel_rfl) rfl (by simp [Value.oneCell']) ?_)
    have hzz := set_note nz none 0 HRW.out
    exact bodyPost_ret (results_note2 rfl _ _ wg nz none 0 rfl hzz.1) rfl ⟨Or.inl ⟨by rw [HP.out]; decide, by rw [HP.out]; rfl⟩, HB.out.trans (hzz.2 _ (by have := HWG.out; omega))⟩
  have HX1 := Lib.hid (HX0.out.same hB)
  have HB := Lib.hid (HB0.out.trans (hB.mono HB0.out.size)); have HS1 := Lib.hid hN.sl
  have HPQ := Lib.hid (perr_ok (f := f) (by omega) hok)
  have HRW := Lib.hid (show w1.heap[wg]? = some (.cells #[.int .i64 0, .int .i64 0, .int .i64 0, .slice none 0 0] 24 (0, 0)) from HX1.out)
  obtain ⟨N, hNN⟩ : ∃ N, N = n - 4 := ⟨_, rfl⟩
  rw [← hNN] at HS1 HPQ ⊢
  have H4 := Lib.hid (show n = N + 4 by omega)
  have HZ1 := Lib.hid (show wg < w1.heap.size ∧ w.heap.size ≤ w1.heap.size from ⟨HX1.out.lt, HB.out.size⟩)
  clear hB hN h4 hok HO hNN
  by_cases hz : N = 0
  · have g1 : ((N : Int) == 0) = true := by simp [hz]
    have HP := Lib.hid (show perr n f = 4 from HPQ.out.1 (by have := H4.out; omega))
    clear hz
    go_wp2_with (show wpList _ _ _ (⟨none, _, _, _, _, _⟩ :: _) _ _; refine wpList_store_row rfl 24 _ _ rfl wg #[.int .i64 0, .int .i64 0, .int .i64 0, .slice none 0 0] rfl rfl 24 _ HRW.out (by kernel_rfl) rfl (by simp [Value.oneCell']) ?_)
    have hzz := set_note nz none 0 HRW.out
    exact bodyPost_ret (results_note2 rfl _ _ wg nz none 0 rfl hzz.1) rfl ⟨Or.inl ⟨by rw [HP.out]; decide, by rw [HP.out]; rfl⟩, HB.out.trans (hzz.2 _ (by have := HWG.out; omega))⟩
  have g1 : ((N : Int) == 0) = false := by simp [hz]
  have HZ := Lib.hid (show 1 ≤ N by omega)
  -- the bytes, each at its place
  obtain ⟨bb, bo, ea, _⟩ := HS1.out.at_ (k := 0) (by omega)
  subst ea
  have HC := Lib.hid (show ∀ k, k < N → w1.cell? ⟨bb, bo + k, none⟩ = some (.int .u8 (f k : Nat)) from fun k hk => by
    obtain ⟨b2, o2, e2, hc⟩ := HS1.out.at_ (k := k) hk
    cases e2
    rw [hc]; unfold sub; rw [if_pos hk, Nat.zero_add])
  have d0 := HC.out 0 HZ.out
  rw [Nat.add_zero] at d0
  have j0 : (0 : Int) < (N : Int) := by have := HZ.out; omega
  obtain ⟨x0, hx0⟩ : ∃ x0, x0 = f 0 := ⟨_, rfl⟩
  rw [← hx0] at d0
  have HX9 := Lib.hid hx0
  clear hz hx0
  by_cases h2 : x0 = 2
  rotate_left
  · have g2 : ((x0 : Int) != 2) = true := by simp; omega
    have HP := Lib.hid (show perr n f = 11 from HPQ.out.2.1 (by have := H4.out; have := HZ.out; omega) (by rw [← HX9.out]; exact h2))
    clear h2
    go_wp2_with (show wpList _ _ _ (⟨none, _, _, _, _, _⟩ :: _) _ _; refine wpList_store_row rfl 24 _ _ rfl wg #[.int .i64 0, .int .i64 0, .int .i64 0, .slice none 0 0] rfl rfl 24 _ HRW.out (by kernel_rfl) rfl (by simp [Value.oneCell']) ?_)
    have hzz := set_note nz none 0 HRW.out
    exact bodyPost_ret (results_note2 rfl _ _ wg nz none 0 rfl hzz.1) rfl ⟨Or.inl ⟨by rw [HP.out]; decide, by rw [HP.out]; rfl⟩, HB.out.trans (hzz.2 _ (by have := HWG.out; omega))⟩
  have g2 : ((x0 : Int) != 2) = false := by simp [h2]
  have HPG := Lib.hid (show (GoodP N f → perr n f = 0) ∧ (¬ GoodP N f → perr n f = 4) from ⟨HPQ.out.2.2.1 (by have := H4.out; have := HZ.out; omega) (by rw [← HX9.out, h2]), HPQ.out.2.2.2 (by have := H4.out; have := HZ.out; omega) (by rw [← HX9.out, h2])⟩)
  clear h2 HPQ
  by_cases h9 : N < 9
  · have g3 : decide ((N : Int) < 9) = true := by simp; omega
    have HP := Lib.hid (show perr n f = 4 from HPG.out.2 (fun g => by have := g.1; omega))
    clear h9
    go_wp2_with (show wpList _ _ _ (⟨none, _, _, _, _, _⟩ :: _) _ _; refine wpList_store_row rfl 24 _ _ rfl wg #[.int .i64 0, .int .i64 0, .int .i64 0, .slice none 0 0] rfl rfl 24 _ HRW.out (by kernel_rfl) rfl (by simp [Value.oneCell']) ?_)
    have hzz := set_note nz none 0 HRW.out
    exact bodyPost_ret (results_note2 rfl _ _ wg nz none 0 rfl hzz.1) rfl ⟨Or.inl ⟨by rw [HP.out]; decide, by rw [HP.out]; rfl⟩, HB.out.trans (hzz.2 _ (by have := HWG.out; omega))⟩
  have g3 : decide ((N : Int) < 9) = false := by simp; omega
  have H9 := Lib.hid (show 9 ≤ N by omega)
  have d8 := HC.out 8 (by omega)
  have j8 : (8 : Int) < (N : Int) := by omega
  have hm8 := HBY.out 8
  obtain ⟨m, hm⟩ : ∃ m, m = f 8 := ⟨_, rfl⟩
  rw [← hm] at d8 hm8
  have HM := Lib.hid hm
  clear hm h9
  by_cases hl : N = 9 + 3 * m
  rotate_left
  · have g4 : ((N : Int) != 9 + 3 * (m : Int)) = true := by simp; omega
    have HP := Lib.hid (show perr n f = 4 from HPG.out.2 (fun g => hl (by rw [HM.out]; exact g.1)))
    clear hl
    go_wp2_with (show wpList _ _ _ (⟨none, _, _, _, _, _⟩ :: _) _ _; refine wpList_store_row rfl 24 _ _ rfl wg #[.int .i64 0, .int .i64 0, .int .i64 0, .slice none 0 0] rfl rfl 24 _ HRW.out (by kernel_rfl) rfl (by simp [Value.oneCell']) ?_)
    have hzz := set_note nz none 0 HRW.out
    exact bodyPost_ret (results_note2 rfl _ _ wg nz none 0 rfl hzz.1) rfl ⟨Or.inl ⟨by rw [HP.out]; decide, by rw [HP.out]; rfl⟩, HB.out.trans (hzz.2 _ (by have := HWG.out; omega))⟩
  have g4 : ((N : Int) != 9 + 3 * (m : Int)) = false := by simp; omega
  have HL := Lib.hid hl
  clear hl
  go_upto_region 10 with fail
  clear d0 g1 g2 g3 g4
  have j1 : (1 : Int) < (N : Int) := by have := H9.out; omega
  have j2 : (2 : Int) < (N : Int) := by have := H9.out; omega
  have j3 : (3 : Int) < (N : Int) := by have := H9.out; omega
  have j4 : (4 : Int) < (N : Int) := by have := H9.out; omega
  have j5 : (5 : Int) < (N : Int) := by have := H9.out; omega
  have j6 : (6 : Int) < (N : Int) := by have := H9.out; omega
  have j7 : (7 : Int) < (N : Int) := by have := H9.out; omega
  have HD := Lib.hid (show ∀ k, k < N → ∀ W, Below w1.heap.size w1 W → W.cell? ⟨bb, bo + k, none⟩ = some (.int .u8 (f k : Nat)) from fun k hk W hW => (World.cell?_of_block (hW.block _ (World.block_lt_of_cell? _ _ (HC.out k hk)))).trans (HC.out k hk))
  have b1 := HBY.out 1; have b2 := HBY.out 2; have b3 := HBY.out 3; have b4 := HBY.out 4; have b5 := HBY.out 5; have b6 := HBY.out 6; have b7 := HBY.out 7
  have HV := Lib.hid (show (nt f).S = 256 * (f 1 : Int) + f 2 ∧ (nt f).Q = 16777216 * (f 3 : Int) + 65536 * f 4 + 256 * f 5 + f 6 ∧ (nt f).N = (f 7 : Int) from by
    refine ⟨?_, ?_, rfl⟩
    · show ((vn (fun j => f (1 + j)) 2 : Nat) : Int) = _; simp [vn]
    · show ((vn (fun j => f (3 + j)) 4 : Nat) : Int) = _; simp [vn]; omega)
  obtain ⟨y1, hy1⟩ : ∃ y, y = f 1 := ⟨_, rfl⟩
  obtain ⟨y2, hy2⟩ : ∃ y, y = f 2 := ⟨_, rfl⟩
  obtain ⟨y3, hy3⟩ : ∃ y, y = f 3 := ⟨_, rfl⟩
  obtain ⟨y4, hy4⟩ : ∃ y, y = f 4 := ⟨_, rfl⟩
  obtain ⟨y5, hy5⟩ : ∃ y, y = f 5 := ⟨_, rfl⟩
  obtain ⟨y6, hy6⟩ : ∃ y, y = f 6 := ⟨_, rfl⟩
  obtain ⟨y7, hy7⟩ : ∃ y, y = f 7 := ⟨_, rfl⟩
  rw [← hy1, ← hy2, ← hy3, ← hy4, ← hy5, ← hy6, ← hy7] at HV
  rw [← hy1] at b1
  have HY1 := Lib.hid hy1.symm
  clear hy1
  rw [← hy2] at b2
  have HY2 := Lib.hid hy2.symm
  clear hy2
  rw [← hy3] at b3
  have HY3 := Lib.hid hy3.symm
  clear hy3
  rw [← hy4] at b4
  have HY4 := Lib.hid hy4.symm
  clear hy4
  rw [← hy5] at b5
  have HY5 := Lib.hid hy5.symm
  clear hy5
  rw [← hy6] at b6
  have HY6 := Lib.hid hy6.symm
  clear hy6
  rw [← hy7] at b7
  have HY7 := Lib.hid hy7.symm
  clear hy7
  refine wp_region_held_drew (S := fun W => Below w1.heap.size w1 W) (by kernel_rfl) (below_dr (Below.refl _ w1) 1) (fun hHeld => ?_)
  obtain ⟨w2, hw2⟩ : ∃ w2, w2 = w1.drew := ⟨_, rfl⟩
  rw [← hw2] at hHeld ⊢
  clear hw2
  refine wpAnyH_take (i := 0) (oi := ⟨some 41, _, _, _, _, none⟩) (v := (.slice (some ⟨bb, bo, none⟩) N cap)) rfl (by kernel_rfl) (by kernel_rfl) (by kernel_rfl) (fun _ _ _ h => h) (Or.inl ⟨by rfl, fun W hW => ?_⟩) (by assumption) ?_
  · go_simp
  simp only [Act.put, List.setIfInBounds_toArray, List.set_cons_zero, List.set_cons_succ]
  refine wpAnyH_take (i := 1) (oi := ⟨some 42, _, _, _, _, none⟩) (v := (.pointer (some ⟨bb, bo + 1, none⟩))) rfl (by kernel_rfl) (by kernel_rfl) (by kernel_rfl) (fun _ _ _ h => h) (Or.inl ⟨by rfl, fun W hW => ?_⟩) (by assumption) ?_
  · have := j1; go_simp
  simp only [Act.put, List.setIfInBounds_toArray, List.set_cons_zero, List.set_cons_succ]
  refine wpAnyH_take (i := 2) (oi := ⟨some 43, _, _, _, _, none⟩) (v := (.int .u8 (y1 : Nat))) rfl (by kernel_rfl) (by kernel_rfl) (by kernel_rfl) (fun _ _ _ h => h) (Or.inl ⟨by rfl, fun W hW => ?_⟩) (by assumption) ?_
  · have := HD.out 1 (by omega) W hW; rw [HY1.out] at this; go_simp
  simp only [Act.put, List.setIfInBounds_toArray, List.set_cons_zero, List.set_cons_succ]
  refine wpAnyH_take (i := 3) (oi := ⟨some 44, _, _, _, _, none⟩) (v := (.int .i64 (y1 : Nat))) rfl (by kernel_rfl) (by kernel_rfl) (by kernel_rfl) (fun _ _ _ h => h) (Or.inl ⟨by rfl, fun W hW => ?_⟩) (by assumption) ?_
  · have := b1; go_simp; exact IntWalk.i64_in _ (by omega)
  simp only [Act.put, List.setIfInBounds_toArray, List.set_cons_zero, List.set_cons_succ]
  refine wpAnyH_take (i := 4) (oi := ⟨some 45, _, _, _, _, none⟩) (v := (.int .i64 (256 * (y1 : Int)))) rfl (by kernel_rfl) (by kernel_rfl) (by kernel_rfl) (fun _ _ _ h => h) (Or.inl ⟨by rfl, fun W hW => ?_⟩) (by assumption) ?_
  · have := b1; go_simp; exact IntWalk.i64_in _ (by omega)
  simp only [Act.put, List.setIfInBounds_toArray, List.set_cons_zero, List.set_cons_succ]
  refine wpAnyH_take (i := 5) (oi := ⟨some 46, _, _, _, _, none⟩) (v := (.slice (some ⟨bb, bo, none⟩) N cap)) rfl (by kernel_rfl) (by kernel_rfl) (by kernel_rfl) (fun _ _ _ h => h) (Or.inl ⟨by rfl, fun W hW => ?_⟩) (by assumption) ?_
  · go_simp
  simp only [Act.put, List.setIfInBounds_toArray, List.set_cons_zero, List.set_cons_succ]
  refine wpAnyH_take (i := 6) (oi := ⟨some 47, _, _, _, _, none⟩) (v := (.pointer (some ⟨bb, bo + 2, none⟩))) rfl (by kernel_rfl) (by kernel_rfl) (by kernel_rfl) (fun _ _ _ h => h) (Or.inl ⟨by rfl, fun W hW => ?_⟩) (by assumption) ?_
  · have := j2; go_simp
  simp only [Act.put, List.setIfInBounds_toArray, List.set_cons_zero, List.set_cons_succ]
  refine wpAnyH_take (i := 7) (oi := ⟨some 48, _, _, _, _, none⟩) (v := (.int .u8 (y2 : Nat))) rfl (by kernel_rfl) (by kernel_rfl) (by kernel_rfl) (fun _ _ _ h => h) (Or.inl ⟨by rfl, fun W hW => ?_⟩) (by assumption) ?_
  · have := HD.out 2 (by omega) W hW; rw [HY2.out] at this; go_simp
  simp only [Act.put, List.setIfInBounds_toArray, List.set_cons_zero, List.set_cons_succ]
  refine wpAnyH_take (i := 8) (oi := ⟨some 49, _, _, _, _, none⟩) (v := (.int .i64 (y2 : Nat))) rfl (by kernel_rfl) (by kernel_rfl) (by kernel_rfl) (fun _ _ _ h => h) (Or.inl ⟨by rfl, fun W hW => ?_⟩) (by assumption) ?_
  · have := b2; go_simp; exact IntWalk.i64_in _ (by omega)
  simp only [Act.put, List.setIfInBounds_toArray, List.set_cons_zero, List.set_cons_succ]
  refine wpAnyH_take (i := 9) (oi := ⟨some 50, _, _, _, _, none⟩) (v := (.int .i64 (256 * (y1 : Int) + y2))) rfl (by kernel_rfl) (by kernel_rfl) (by kernel_rfl) (fun _ _ _ h => h) (Or.inl ⟨by rfl, fun W hW => ?_⟩) (by assumption) ?_
  · have := b1; have := b2; go_simp; exact IntWalk.i64_in _ (by omega)
  simp only [Act.put, List.setIfInBounds_toArray, List.set_cons_zero, List.set_cons_succ]
  refine wpAnyH_take (i := 10) (oi := ⟨some 51, _, _, _, _, none⟩) (v := (.slice (some ⟨bb, bo, none⟩) N cap)) rfl (by kernel_rfl) (by kernel_rfl) (by kernel_rfl) (fun _ _ _ h => h) (Or.inl ⟨by rfl, fun W hW => ?_⟩) (by assumption) ?_
  · go_simp
  simp only [Act.put, List.setIfInBounds_toArray, List.set_cons_zero, List.set_cons_succ]
  refine wpAnyH_take (i := 11) (oi := ⟨some 52, _, _, _, _, none⟩) (v := (.pointer (some ⟨bb, bo + 3, none⟩))) rfl (by kernel_rfl) (by kernel_rfl) (by kernel_rfl) (fun _ _ _ h => h) (Or.inl ⟨by rfl, fun W hW => ?_⟩) (by assumption) ?_
  · have := j3; go_simp
  simp only [Act.put, List.setIfInBounds_toArray, List.set_cons_zero, List.set_cons_succ]
  refine wpAnyH_take (i := 12) (oi := ⟨some 53, _, _, _, _, none⟩) (v := (.int .u8 (y3 : Nat))) rfl (by kernel_rfl) (by kernel_rfl) (by kernel_rfl) (fun _ _ _ h => h) (Or.inl ⟨by rfl, fun W hW => ?_⟩) (by assumption) ?_
  · have := HD.out 3 (by omega) W hW; rw [HY3.out] at this; go_simp
  simp only [Act.put, List.setIfInBounds_toArray, List.set_cons_zero, List.set_cons_succ]
  refine wpAnyH_take (i := 13) (oi := ⟨some 54, _, _, _, _, none⟩) (v := (.int .i64 (y3 : Nat))) rfl (by kernel_rfl) (by kernel_rfl) (by kernel_rfl) (fun _ _ _ h => h) (Or.inl ⟨by rfl, fun W hW => ?_⟩) (by assumption) ?_
  · have := b3; go_simp; exact IntWalk.i64_in _ (by omega)
  simp only [Act.put, List.setIfInBounds_toArray, List.set_cons_zero, List.set_cons_succ]
  refine wpAnyH_take (i := 14) (oi := ⟨some 55, _, _, _, _, none⟩) (v := (.int .i64 ((y3 : Int) * 16777216))) rfl (by kernel_rfl) (by kernel_rfl) (by kernel_rfl) (fun _ _ _ h => h) (Or.inl ⟨by rfl, fun W hW => ?_⟩) (by assumption) ?_
  · have := b3; go_simp; exact IntWalk.i64_in _ (by omega)
  simp only [Act.put, List.setIfInBounds_toArray, List.set_cons_zero, List.set_cons_succ]
  refine wpAnyH_take (i := 15) (oi := ⟨some 56, _, _, _, _, none⟩) (v := (.slice (some ⟨bb, bo, none⟩) N cap)) rfl (by kernel_rfl) (by kernel_rfl) (by kernel_rfl) (fun _ _ _ h => h) (Or.inl ⟨by rfl, fun W hW => ?_⟩) (by assumption) ?_
  · go_simp
  simp only [Act.put, List.setIfInBounds_toArray, List.set_cons_zero, List.set_cons_succ]
  refine wpAnyH_take (i := 16) (oi := ⟨some 57, _, _, _, _, none⟩) (v := (.pointer (some ⟨bb, bo + 4, none⟩))) rfl (by kernel_rfl) (by kernel_rfl) (by kernel_rfl) (fun _ _ _ h => h) (Or.inl ⟨by rfl, fun W hW => ?_⟩) (by assumption) ?_
  · have := j4; go_simp
  simp only [Act.put, List.setIfInBounds_toArray, List.set_cons_zero, List.set_cons_succ]
  refine wpAnyH_take (i := 17) (oi := ⟨some 58, _, _, _, _, none⟩) (v := (.int .u8 (y4 : Nat))) rfl (by kernel_rfl) (by kernel_rfl) (by kernel_rfl) (fun _ _ _ h => h) (Or.inl ⟨by rfl, fun W hW => ?_⟩) (by assumption) ?_
  · have := HD.out 4 (by omega) W hW; rw [HY4.out] at this; go_simp
  simp only [Act.put, List.setIfInBounds_toArray, List.set_cons_zero, List.set_cons_succ]
  refine wpAnyH_take (i := 18) (oi := ⟨some 59, _, _, _, _, none⟩) (v := (.int .i64 (y4 : Nat))) rfl (by kernel_rfl) (by kernel_rfl) (by kernel_rfl) (fun _ _ _ h => h) (Or.inl ⟨by rfl, fun W hW => ?_⟩) (by assumption) ?_
  · have := b4; go_simp; exact IntWalk.i64_in _ (by omega)
  simp only [Act.put, List.setIfInBounds_toArray, List.set_cons_zero, List.set_cons_succ]
  refine wpAnyH_take (i := 19) (oi := ⟨some 60, _, _, _, _, none⟩) (v := (.int .i64 ((y4 : Int) * 65536))) rfl (by kernel_rfl) (by kernel_rfl) (by kernel_rfl) (fun _ _ _ h => h) (Or.inl ⟨by rfl, fun W hW => ?_⟩) (by assumption) ?_
  · have := b4; go_simp; exact IntWalk.i64_in _ (by omega)
  simp only [Act.put, List.setIfInBounds_toArray, List.set_cons_zero, List.set_cons_succ]
  refine wpAnyH_take (i := 20) (oi := ⟨some 61, _, _, _, _, none⟩) (v := (.int .i64 ((y3 : Int) * 16777216 + y4 * 65536))) rfl (by kernel_rfl) (by kernel_rfl) (by kernel_rfl) (fun _ _ _ h => h) (Or.inl ⟨by rfl, fun W hW => ?_⟩) (by assumption) ?_
  · have := b3; have := b4; go_simp; exact IntWalk.i64_in _ (by omega)
  simp only [Act.put, List.setIfInBounds_toArray, List.set_cons_zero, List.set_cons_succ]
  refine wpAnyH_take (i := 21) (oi := ⟨some 62, _, _, _, _, none⟩) (v := (.slice (some ⟨bb, bo, none⟩) N cap)) rfl (by kernel_rfl) (by kernel_rfl) (by kernel_rfl) (fun _ _ _ h => h) (Or.inl ⟨by rfl, fun W hW => ?_⟩) (by assumption) ?_
  · go_simp
  simp only [Act.put, List.setIfInBounds_toArray, List.set_cons_zero, List.set_cons_succ]
  refine wpAnyH_take (i := 22) (oi := ⟨some 63, _, _, _, _, none⟩) (v := (.pointer (some ⟨bb, bo + 5, none⟩))) rfl (by kernel_rfl) (by kernel_rfl) (by kernel_rfl) (fun _ _ _ h => h) (Or.inl ⟨by rfl, fun W hW => ?_⟩) (by assumption) ?_
  · have := j5; go_simp
  simp only [Act.put, List.setIfInBounds_toArray, List.set_cons_zero, List.set_cons_succ]
  refine wpAnyH_take (i := 23) (oi := ⟨some 64, _, _, _, _, none⟩) (v := (.int .u8 (y5 : Nat))) rfl (by kernel_rfl) (by kernel_rfl) (by kernel_rfl) (fun _ _ _ h => h) (Or.inl ⟨by rfl, fun W hW => ?_⟩) (by assumption) ?_
  · have := HD.out 5 (by omega) W hW; rw [HY5.out] at this; go_simp
  simp only [Act.put, List.setIfInBounds_toArray, List.set_cons_zero, List.set_cons_succ]
  refine wpAnyH_take (i := 24) (oi := ⟨some 65, _, _, _, _, none⟩) (v := (.int .i64 (y5 : Nat))) rfl (by kernel_rfl) (by kernel_rfl) (by kernel_rfl) (fun _ _ _ h => h) (Or.inl ⟨by rfl, fun W hW => ?_⟩) (by assumption) ?_
  · have := b5; go_simp; exact IntWalk.i64_in _ (by omega)
  simp only [Act.put, List.setIfInBounds_toArray, List.set_cons_zero, List.set_cons_succ]
  refine wpAnyH_take (i := 25) (oi := ⟨some 66, _, _, _, _, none⟩) (v := (.int .i64 ((y5 : Int) * 256))) rfl (by kernel_rfl) (by kernel_rfl) (by kernel_rfl) (fun _ _ _ h => h) (Or.inl ⟨by rfl, fun W hW => ?_⟩) (by assumption) ?_
  · have := b5; go_simp; exact IntWalk.i64_in _ (by omega)
  simp only [Act.put, List.setIfInBounds_toArray, List.set_cons_zero, List.set_cons_succ]
  refine wpAnyH_take (i := 26) (oi := ⟨some 67, _, _, _, _, none⟩) (v := (.int .i64 ((y3 : Int) * 16777216 + y4 * 65536 + y5 * 256))) rfl (by kernel_rfl) (by kernel_rfl) (by kernel_rfl) (fun _ _ _ h => h) (Or.inl ⟨by rfl, fun W hW => ?_⟩) (by assumption) ?_
  · have := b3; have := b4; have := b5; go_simp; exact IntWalk.i64_in _ (by omega)
  simp only [Act.put, List.setIfInBounds_toArray, List.set_cons_zero, List.set_cons_succ]
  refine wpAnyH_take (i := 27) (oi := ⟨some 68, _, _, _, _, none⟩) (v := (.slice (some ⟨bb, bo, none⟩) N cap)) rfl (by kernel_rfl) (by kernel_rfl) (by kernel_rfl) (fun _ _ _ h => h) (Or.inl ⟨by rfl, fun W hW => ?_⟩) (by assumption) ?_
  · go_simp
  simp only [Act.put, List.setIfInBounds_toArray, List.set_cons_zero, List.set_cons_succ]
  refine wpAnyH_take (i := 28) (oi := ⟨some 69, _, _, _, _, none⟩) (v := (.pointer (some ⟨bb, bo + 6, none⟩))) rfl (by kernel_rfl) (by kernel_rfl) (by kernel_rfl) (fun _ _ _ h => h) (Or.inl ⟨by rfl, fun W hW => ?_⟩) (by assumption) ?_
  · have := j6; go_simp
  simp only [Act.put, List.setIfInBounds_toArray, List.set_cons_zero, List.set_cons_succ]
  refine wpAnyH_take (i := 29) (oi := ⟨some 70, _, _, _, _, none⟩) (v := (.int .u8 (y6 : Nat))) rfl (by kernel_rfl) (by kernel_rfl) (by kernel_rfl) (fun _ _ _ h => h) (Or.inl ⟨by rfl, fun W hW => ?_⟩) (by assumption) ?_
  · have := HD.out 6 (by omega) W hW; rw [HY6.out] at this; go_simp
  simp only [Act.put, List.setIfInBounds_toArray, List.set_cons_zero, List.set_cons_succ]
  refine wpAnyH_take (i := 30) (oi := ⟨some 71, _, _, _, _, none⟩) (v := (.int .i64 (y6 : Nat))) rfl (by kernel_rfl) (by kernel_rfl) (by kernel_rfl) (fun _ _ _ h => h) (Or.inl ⟨by rfl, fun W hW => ?_⟩) (by assumption) ?_
  · have := b6; go_simp; exact IntWalk.i64_in _ (by omega)
  simp only [Act.put, List.setIfInBounds_toArray, List.set_cons_zero, List.set_cons_succ]
  refine wpAnyH_take (i := 31) (oi := ⟨some 72, _, _, _, _, none⟩) (v := (.int .i64 ((y3 : Int) * 16777216 + y4 * 65536 + y5 * 256 + y6))) rfl (by kernel_rfl) (by kernel_rfl) (by kernel_rfl) (fun _ _ _ h => h) (Or.inl ⟨by rfl, fun W hW => ?_⟩) (by assumption) ?_
  · have := b3; have := b4; have := b5; have := b6; go_simp; exact IntWalk.i64_in _ (by omega)
  simp only [Act.put, List.setIfInBounds_toArray, List.set_cons_zero, List.set_cons_succ]
  refine wpAnyH_take (i := 32) (oi := ⟨some 73, _, _, _, _, none⟩) (v := (.slice (some ⟨bb, bo, none⟩) N cap)) rfl (by kernel_rfl) (by kernel_rfl) (by kernel_rfl) (fun _ _ _ h => h) (Or.inl ⟨by rfl, fun W hW => ?_⟩) (by assumption) ?_
  · go_simp
  simp only [Act.put, List.setIfInBounds_toArray, List.set_cons_zero, List.set_cons_succ]
  refine wpAnyH_take (i := 33) (oi := ⟨some 74, _, _, _, _, none⟩) (v := (.pointer (some ⟨bb, bo + 7, none⟩))) rfl (by kernel_rfl) (by kernel_rfl) (by kernel_rfl) (fun _ _ _ h => h) (Or.inl ⟨by rfl, fun W hW => ?_⟩) (by assumption) ?_
  · have := j7; go_simp
  simp only [Act.put, List.setIfInBounds_toArray, List.set_cons_zero, List.set_cons_succ]
  refine wpAnyH_take (i := 34) (oi := ⟨some 75, _, _, _, _, none⟩) (v := (.int .u8 (y7 : Nat))) rfl (by kernel_rfl) (by kernel_rfl) (by kernel_rfl) (fun _ _ _ h => h) (Or.inl ⟨by rfl, fun W hW => ?_⟩) (by assumption) ?_
  · have := HD.out 7 (by omega) W hW; rw [HY7.out] at this; go_simp
  simp only [Act.put, List.setIfInBounds_toArray, List.set_cons_zero, List.set_cons_succ]
  refine wpAnyH_take (i := 35) (oi := ⟨some 76, _, _, _, _, none⟩) (v := (.int .i64 (y7 : Nat))) rfl (by kernel_rfl) (by kernel_rfl) (by kernel_rfl) (fun _ _ _ h => h) (Or.inl ⟨by rfl, fun W hW => ?_⟩) (by assumption) ?_
  · have := b7; go_simp; exact IntWalk.i64_in _ (by omega)
  simp only [Act.put, List.setIfInBounds_toArray, List.set_cons_zero, List.set_cons_succ]
  refine wpAnyH_take (i := 36) (oi := ⟨some 77, _, _, _, _, none⟩) (v := (.agg #[.int .i64 (256 * (y1 : Int) + y2), .int .i64 ((y3 : Int) * 16777216 + y4 * 65536 + y5 * 256 + y6), .int .i64 (y7 : Nat), .slice none 0 0])) rfl (by kernel_rfl) (by kernel_rfl) (by kernel_rfl) (fun _ _ _ h => h) (Or.inl ⟨by rfl, fun W hW => ?_⟩) (by assumption) ?_
  · go_simp
  simp only [Act.put, List.setIfInBounds_toArray, List.set_cons_zero, List.set_cons_succ]
  refine wpAnyH_ready (rs := [37]) (by kernel_rfl) (by simp) (AllReadyH.cons rfl (fun KK hKK => ?_) AllReadyH.nil)
  go_simp
  obtain ⟨w3, hw3⟩ : ∃ w3, w3 = w2.alloc (.cells #[.int .i64 0, .int .i64 0, .int .i64 0, .slice none 0 0] 24) := ⟨_, rfl⟩
  rw [← hw3]
  have hb3 : Below w1.heap.size w1 w3 := by rw [hw3]; exact hHeld.alloc hHeld.size _
  have hn3 : w3.heap[w2.heap.size]? = some (.cells #[.int .i64 0, .int .i64 0, .int .i64 0, .slice none 0 0] 24 (0, 0)) := by rw [hw3]; exact heap_alloc_new _ _
  have hz2 : w1.heap.size ≤ w2.heap.size := hHeld.size
  generalize w2.heap.size = g6 at *
  clear hw3
  refine hKK.out _ _ (hb3) (fun hHeld => ?_)
  clear hKK KK
  try simp only [Act.put, List.setIfInBounds_toArray, List.set_cons_zero, List.set_cons_succ]
  refine wpAnyH_ready (rs := [38]) (by kernel_rfl) (by simp) (AllReadyH.cons rfl (fun KK hKK => ?_) AllReadyH.nil)
  rw [if_pos (by rfl)]
  refine wp_store_row 24 _ _ rfl g6 #[.int .i64 (256 * (y1 : Int) + y2), .int .i64 ((y3 : Int) * 16777216 + y4 * 65536 + y5 * 256 + y6), .int .i64 (y7 : Nat), .slice none 0 0] rfl rfl 24 _ hn3 (by kernel_rfl) rfl (by simp [Value.oneCell']) ?_
  obtain ⟨w4, hw4⟩ : ∃ w4, w4 = w3.setRow g6 #[.int .i64 (256 * (y1 : Int) + y2), .int .i64 ((y3 : Int) * 16777216 + y4 * 65536 + y5 * 256 + y6), .int .i64 (y7 : Nat), .slice none 0 0] := ⟨_, rfl⟩
  rw [← hw4]
  have hn4 : w4.heap[g6]? = some (.cells #[.int .i64 (256 * (y1 : Int) + y2), .int .i64 ((y3 : Int) * 16777216 + y4 * 65536 + y5 * 256 + y6), .int .i64 (y7 : Nat), .slice none 0 0] 24 (0, 0)) := by rw [hw4]; exact setRow_heap _ _ _ _ _ _ hn3
  have hb4 : Below w1.heap.size w1 w4 := hb3.trans (by rw [hw4]; exact ⟨rfl, rfl, rfl, by simp, fun k hk => setRow_other w3 g6 k _ (by omega)⟩)
  clear hw4
  refine hKK.out _ _ (hb4) (fun hHeld => ?_)
  clear hKK KK
  try simp only [Act.put, List.setIfInBounds_toArray]
  refine wpAnyH_done (by kernel_rfl) ?_ _
  obtain ⟨i0, hi, hiz0, hiz1, hiz2⟩ := info_parts Try.infoCt
  have HI := Lib.hid hi; have HIZ0 := Lib.hid hiz0; have HIZ1 := Lib.hid hiz1; have HIZ2 := Lib.hid hiz2
  obtain ⟨B, hBd⟩ : ∃ B, B = w4.heap.size := ⟨_, rfl⟩
  have HBD := Lib.hid hBd
  have HN4 := Lib.hid (show NAt w4 g6 ⟨256 * (y1 : Int) + y2, (y3 : Int) * 16777216 + y4 * 65536 + y5 * 256 + y6, (y7 : Nat), 0, fun _ => 0, fun _ => 0⟩ none 0 from hn4)
  have HG6 := Lib.hid (show w1.heap.size ≤ g6 ∧ g6 < B from ⟨hz2, by rw [hBd]; exact (Array.getElem?_eq_some_iff.1 hn4).1⟩)
  have HB4 := Lib.hid hb4
  clear hi hiz0 hiz1 hiz2 hBd hn4 hb4 hn3 hb3 hz2 hHeld
  go_wp2_with fail
  go_loopw [7] (fun i wr => ∃ (k : Nat) (ta : Option Addr) (tc : Nat) (W : World), W = wr ∧ k ≤ m ∧ i = .int .i64 (k : Nat) ∧ NAt wr g6 ⟨256 * (y1 : Int) + y2, (y3 : Int) * 16777216 + y4 * 65536 + y5 * 256 + y6, (y7 : Nat), k, (nt f).C, (nt f).T⟩ ta tc ∧ wr.ownsRow B 41 2 (.slice ta k tc) k (tdl (nt f).C (nt f).T k) ∧ Below w1.heap.size w1 wr ∧ B ≤ wr.heap.size) (fun i _ => m - (intOf i).toNat)
  case atStart => exact ⟨0, none, 0, _, rfl, by omega, rfl, HN4.out, World.ownsRow_nil _ _ _ _, HB4.out, by rw [HBD.out]; exact Nat.le_refl _⟩
  case round =>
    obtain ⟨k, ta, tc, wx, rfl, hk, rfl, hnx, hox, hbx, hzx⟩ := hrel
    have HNX := Lib.hid hnx; have HOX := Lib.hid hox; have HBX := Lib.hid hbx; have HZX := Lib.hid hzx
    have d8 := HD.out 8 (by omega) wx hbx
    rw [← HM.out] at d8
    clear hnx hox hbx hzx
    by_cases hlt : k < m
    · have i1 : (k : Int) < (m : Int) := by omega
      have HLT := Lib.hid hlt
      have HSW := Lib.hid (show Below B wx wx from ⟨rfl, rfl, rfl, Nat.le_refl _, fun _ _ => rfl⟩)
      have HWX := Lib.hid (show ∀ W, Below B wx W → Below w1.heap.size w1 W from fun W hW => HBX.out.trans (hW.mono (by have := HG6.out; omega)))
      have HC3 := Lib.hid (show ∀ W, Below B wx W → W.cell? ⟨g6, 3, none⟩ = some (.slice ta k tc) from fun W hW => (World.cell?_of_block (a := ⟨g6, 3, none⟩) (hW.block g6 HG6.out.2)).trans HNX.out.c.2.2.2)
      have HF3 := Lib.hid (show ∀ W, Below B wx W → W.frozen? ⟨g6, 3, none⟩ = false from fun W hW => frozen_of_row _ _ _ _ _ ((hW.block g6 HG6.out.2).trans HNX.out))
      have HK9 := Lib.hid (show k < 256 by omega)
      obtain ⟨u9, hu9⟩ : ∃ u, u = 9 + 3 * k := ⟨_, rfl⟩
      obtain ⟨u10, hu10⟩ : ∃ u, u = 10 + 3 * k := ⟨_, rfl⟩
      obtain ⟨u11, hu11⟩ : ∃ u, u = 11 + 3 * k := ⟨_, rfl⟩
      have HU9 := Lib.hid (show 9 + 3 * (k : Int) = (u9 : Int) by omega); have HU10 := Lib.hid (show 10 + 3 * (k : Int) = (u10 : Int) by omega); have HU11 := Lib.hid (show 11 + 3 * (k : Int) = (u11 : Int) by omega)
      have hlN := HL.out
      have HJ9 := Lib.hid (show (u9 : Int) < (N : Int) by omega); have HJ10 := Lib.hid (show (u10 : Int) < (N : Int) by omega); have HJ11 := Lib.hid (show (u11 : Int) < (N : Int) by omega)
      obtain ⟨x0, hx0⟩ : ∃ x, x = f u9 := ⟨_, rfl⟩
      obtain ⟨x1, hx1⟩ : ∃ x, x = f u10 := ⟨_, rfl⟩
      obtain ⟨x2, hx2⟩ : ∃ x, x = f u11 := ⟨_, rfl⟩
      have HE9 := Lib.hid (show ∀ W, Below B wx W → W.cell? ⟨bb, bo + u9, none⟩ = some (.int .u8 (x0 : Nat)) from fun W hW => by rw [hx0]; exact HD.out u9 (by omega) W (HWX.out W hW))
      have HE10 := Lib.hid (show ∀ W, Below B wx W → W.cell? ⟨bb, bo + u10, none⟩ = some (.int .u8 (x1 : Nat)) from fun W hW => by rw [hx1]; exact HD.out u10 (by omega) W (HWX.out W hW))
      have HE11 := Lib.hid (show ∀ W, Below B wx W → W.cell? ⟨bb, bo + u11, none⟩ = some (.int .u8 (x2 : Nat)) from fun W hW => by rw [hx2]; exact HD.out u11 (by omega) W (HWX.out W hW))
      have HB9 := Lib.hid (show x0 < 256 by rw [hx0]; exact HBY.out _); have HB10 := Lib.hid (show x1 < 256 by rw [hx1]; exact HBY.out _); have HB11 := Lib.hid (show x2 < 256 by rw [hx2]; exact HBY.out _)
      have HCC := Lib.hid (show (nt f).C k = (x0 : Nat) by rw [hx0, hu9]; rfl)
      have HTT := Lib.hid (show (nt f).T k = 256 * (x1 : Int) + x2 by
        rw [hx1, hx2, hu10, hu11]
        show ((vn (fun j => f (10 + 3 * k + j)) 2 : Nat) : Int) = _
        simp [vn, show 10 + 3 * k + 1 = 11 + 3 * k by omega])
      clear hu9 hu10 hu11 hlN hx0 hx1 hx2 hlt hk
      go_wp2_with fail
      clear d8
      refine AnyU.start (S := fun W => Below B wx W) (z := 29) (by kernel_rfl) (below_dr HSW.out 1) (fun hHeld => ?_)
      obtain ⟨w5, hw5⟩ : ∃ w5, w5 = wx.drew := ⟨_, rfl⟩
      rw [← hw5] at hHeld ⊢
      have ho5 : w5.ownsRow B 41 2 (.slice ta k tc) k (tdl (nt f).C (nt f).T k) := by rw [hw5]; exact own_be HOX.out (below_dr (Below.refl _ _) 1)
      clear hw5
      refine AnyU.take (i := 0) (p := 0) (oi := ⟨some 86, _, _, _, _, none⟩) (v := (.pointer (some ⟨g6, 3, none⟩))) rfl (by kernel_rfl) (Or.inl rfl) (by kernel_rfl) (by kernel_rfl) (by kernel_rfl) (by kernel_rfl) (fun _ _ _ h => h) (Or.inl ⟨by rfl, fun W hW => ?_⟩) (by assumption) ?_
      · go_simp
      simp only [Act.put, List.setIfInBounds_toArray, List.set_cons_zero, List.set_cons_succ]
      refine AnyU.take (i := 1) (p := 1) (oi := ⟨some 87, _, _, _, _, none⟩) (v := (.slice ta k tc)) rfl (by kernel_rfl) (Or.inl rfl) (by kernel_rfl) (by kernel_rfl) (by kernel_rfl) (by kernel_rfl) (fun _ _ _ h => h) (Or.inl ⟨by rfl, fun W hW => ?_⟩) (by assumption) ?_
      · have := HC3.out W hW; go_simp
      simp only [Act.put, List.setIfInBounds_toArray, List.set_cons_zero, List.set_cons_succ]
      refine AnyU.take (i := 2) (p := 2) (oi := ⟨some 88, _, _, _, _, none⟩) (v := (.slice (some ⟨bb, bo, none⟩) N cap)) rfl (by kernel_rfl) (Or.inl rfl) (by kernel_rfl) (by kernel_rfl) (by kernel_rfl) (by kernel_rfl) (fun _ _ _ h => h) (Or.inl ⟨by rfl, fun W hW => ?_⟩) (by assumption) ?_
      · go_simp
      simp only [Act.put, List.setIfInBounds_toArray, List.set_cons_zero, List.set_cons_succ]
      refine AnyU.take (i := 3) (p := 3) (oi := ⟨some 89, _, _, _, _, none⟩) (v := (.int .i64 (k : Nat))) rfl (by kernel_rfl) (Or.inl rfl) (by kernel_rfl) (by kernel_rfl) (by kernel_rfl) (by kernel_rfl) (fun _ _ _ h => h) (Or.inl ⟨by rfl, fun W hW => ?_⟩) (by assumption) ?_
      · go_simp
      simp only [Act.put, List.setIfInBounds_toArray, List.set_cons_zero, List.set_cons_succ]
      refine AnyU.take (i := 4) (p := 4) (oi := ⟨some 90, _, _, _, _, none⟩) (v := (.int .i64 (3 * (k : Int)))) rfl (by kernel_rfl) (Or.inl rfl) (by kernel_rfl) (by kernel_rfl) (by kernel_rfl) (by kernel_rfl) (fun _ _ _ h => h) (Or.inl ⟨by rfl, fun W hW => ?_⟩) (by assumption) ?_
      · have := HK9.out; go_simp; exact IntWalk.i64_in _ (by omega)
      simp only [Act.put, List.setIfInBounds_toArray, List.set_cons_zero, List.set_cons_succ]
      refine AnyU.take (i := 5) (p := 5) (oi := ⟨some 91, _, _, _, _, none⟩) (v := (.int .i64 (u9 : Nat))) rfl (by kernel_rfl) (Or.inl rfl) (by kernel_rfl) (by kernel_rfl) (by kernel_rfl) (by kernel_rfl) (fun _ _ _ h => h) (Or.inl ⟨by rfl, fun W hW => ?_⟩) (by assumption) ?_
      · have := HK9.out; have h9 := HU9.out; go_simp; rw [IntWalk.i64_in _ (by omega)]
      simp only [Act.put, List.setIfInBounds_toArray, List.set_cons_zero, List.set_cons_succ]
      refine AnyU.take (i := 6) (p := 6) (oi := ⟨some 92, _, _, _, _, none⟩) (v := (.pointer (some ⟨bb, bo + u9, none⟩))) rfl (by kernel_rfl) (Or.inl rfl) (by kernel_rfl) (by kernel_rfl) (by kernel_rfl) (by kernel_rfl) (fun _ _ _ h => h) (Or.inl ⟨by rfl, fun W hW => ?_⟩) (by assumption) ?_
      · have := HJ9.out; go_simp
      simp only [Act.put, List.setIfInBounds_toArray, List.set_cons_zero, List.set_cons_succ]
      refine AnyU.take (i := 7) (p := 7) (oi := ⟨some 93, _, _, _, _, none⟩) (v := (.int .u8 (x0 : Nat))) rfl (by kernel_rfl) (Or.inl rfl) (by kernel_rfl) (by kernel_rfl) (by kernel_rfl) (by kernel_rfl) (fun _ _ _ h => h) (Or.inl ⟨by rfl, fun W hW => ?_⟩) (by assumption) ?_
      · have := HE9.out W hW; go_simp
      simp only [Act.put, List.setIfInBounds_toArray, List.set_cons_zero, List.set_cons_succ]
      refine AnyU.take (i := 8) (p := 8) (oi := ⟨some 94, _, _, _, _, none⟩) (v := (.int .i64 (x0 : Nat))) rfl (by kernel_rfl) (Or.inl rfl) (by kernel_rfl) (by kernel_rfl) (by kernel_rfl) (by kernel_rfl) (fun _ _ _ h => h) (Or.inl ⟨by rfl, fun W hW => ?_⟩) (by assumption) ?_
      · have := HB9.out; go_simp; exact IntWalk.i64_in _ (by omega)
      simp only [Act.put, List.setIfInBounds_toArray, List.set_cons_zero, List.set_cons_succ]
      refine AnyU.take (i := 9) (p := 9) (oi := ⟨some 95, _, _, _, _, none⟩) (v := (.slice (some ⟨bb, bo, none⟩) N cap)) rfl (by kernel_rfl) (Or.inl rfl) (by kernel_rfl) (by kernel_rfl) (by kernel_rfl) (by kernel_rfl) (fun _ _ _ h => h) (Or.inl ⟨by rfl, fun W hW => ?_⟩) (by assumption) ?_
      · go_simp
      simp only [Act.put, List.setIfInBounds_toArray, List.set_cons_zero, List.set_cons_succ]
      refine AnyU.take (i := 10) (p := 10) (oi := ⟨some 96, _, _, _, _, none⟩) (v := (.int .i64 (k : Nat))) rfl (by kernel_rfl) (Or.inl rfl) (by kernel_rfl) (by kernel_rfl) (by kernel_rfl) (by kernel_rfl) (fun _ _ _ h => h) (Or.inl ⟨by rfl, fun W hW => ?_⟩) (by assumption) ?_
      · go_simp
      simp only [Act.put, List.setIfInBounds_toArray, List.set_cons_zero, List.set_cons_succ]
      refine AnyU.take (i := 11) (p := 11) (oi := ⟨some 97, _, _, _, _, none⟩) (v := (.int .i64 (3 * (k : Int)))) rfl (by kernel_rfl) (Or.inl rfl) (by kernel_rfl) (by kernel_rfl) (by kernel_rfl) (by kernel_rfl) (fun _ _ _ h => h) (Or.inl ⟨by rfl, fun W hW => ?_⟩) (by assumption) ?_
      · have := HK9.out; go_simp; exact IntWalk.i64_in _ (by omega)
      simp only [Act.put, List.setIfInBounds_toArray, List.set_cons_zero, List.set_cons_succ]
      refine AnyU.take (i := 12) (p := 12) (oi := ⟨some 98, _, _, _, _, none⟩) (v := (.int .i64 (u10 : Nat))) rfl (by kernel_rfl) (Or.inl rfl) (by kernel_rfl) (by kernel_rfl) (by kernel_rfl) (by kernel_rfl) (fun _ _ _ h => h) (Or.inl ⟨by rfl, fun W hW => ?_⟩) (by assumption) ?_
      · have := HK9.out; have h9 := HU10.out; go_simp; rw [IntWalk.i64_in _ (by omega)]
      simp only [Act.put, List.setIfInBounds_toArray, List.set_cons_zero, List.set_cons_succ]
      refine AnyU.take (i := 13) (p := 13) (oi := ⟨some 99, _, _, _, _, none⟩) (v := (.pointer (some ⟨bb, bo + u10, none⟩))) rfl (by kernel_rfl) (Or.inl rfl) (by kernel_rfl) (by kernel_rfl) (by kernel_rfl) (by kernel_rfl) (fun _ _ _ h => h) (Or.inl ⟨by rfl, fun W hW => ?_⟩) (by assumption) ?_
      · have := HJ10.out; go_simp
      simp only [Act.put, List.setIfInBounds_toArray, List.set_cons_zero, List.set_cons_succ]
      refine AnyU.take (i := 14) (p := 14) (oi := ⟨some 100, _, _, _, _, none⟩) (v := (.int .u8 (x1 : Nat))) rfl (by kernel_rfl) (Or.inl rfl) (by kernel_rfl) (by kernel_rfl) (by kernel_rfl) (by kernel_rfl) (fun _ _ _ h => h) (Or.inl ⟨by rfl, fun W hW => ?_⟩) (by assumption) ?_
      · have := HE10.out W hW; go_simp
      simp only [Act.put, List.setIfInBounds_toArray, List.set_cons_zero, List.set_cons_succ]
      refine AnyU.take (i := 15) (p := 15) (oi := ⟨some 101, _, _, _, _, none⟩) (v := (.int .i64 (x1 : Nat))) rfl (by kernel_rfl) (Or.inl rfl) (by kernel_rfl) (by kernel_rfl) (by kernel_rfl) (by kernel_rfl) (fun _ _ _ h => h) (Or.inl ⟨by rfl, fun W hW => ?_⟩) (by assumption) ?_
      · have := HB10.out; go_simp; exact IntWalk.i64_in _ (by omega)
      simp only [Act.put, List.setIfInBounds_toArray, List.set_cons_zero, List.set_cons_succ]
      refine AnyU.take (i := 16) (p := 16) (oi := ⟨some 102, _, _, _, _, none⟩) (v := (.int .i64 (256 * (x1 : Int)))) rfl (by kernel_rfl) (Or.inl rfl) (by kernel_rfl) (by kernel_rfl) (by kernel_rfl) (by kernel_rfl) (fun _ _ _ h => h) (Or.inl ⟨by rfl, fun W hW => ?_⟩) (by assumption) ?_
      · have := HB10.out; go_simp; exact IntWalk.i64_in _ (by omega)
      simp only [Act.put, List.setIfInBounds_toArray, List.set_cons_zero, List.set_cons_succ]
      refine AnyU.take (i := 17) (p := 17) (oi := ⟨some 103, _, _, _, _, none⟩) (v := (.slice (some ⟨bb, bo, none⟩) N cap)) rfl (by kernel_rfl) (Or.inl rfl) (by kernel_rfl) (by kernel_rfl) (by kernel_rfl) (by kernel_rfl) (fun _ _ _ h => h) (Or.inl ⟨by rfl, fun W hW => ?_⟩) (by assumption) ?_
      · go_simp
      simp only [Act.put, List.setIfInBounds_toArray, List.set_cons_zero, List.set_cons_succ]
      refine AnyU.take (i := 18) (p := 18) (oi := ⟨some 104, _, _, _, _, none⟩) (v := (.int .i64 (k : Nat))) rfl (by kernel_rfl) (Or.inl rfl) (by kernel_rfl) (by kernel_rfl) (by kernel_rfl) (by kernel_rfl) (fun _ _ _ h => h) (Or.inl ⟨by rfl, fun W hW => ?_⟩) (by assumption) ?_
      · go_simp
      simp only [Act.put, List.setIfInBounds_toArray, List.set_cons_zero, List.set_cons_succ]
      refine AnyU.take (i := 19) (p := 19) (oi := ⟨some 105, _, _, _, _, none⟩) (v := (.int .i64 (3 * (k : Int)))) rfl (by kernel_rfl) (Or.inl rfl) (by kernel_rfl) (by kernel_rfl) (by kernel_rfl) (by kernel_rfl) (fun _ _ _ h => h) (Or.inl ⟨by rfl, fun W hW => ?_⟩) (by assumption) ?_
      · have := HK9.out; go_simp; exact IntWalk.i64_in _ (by omega)
      simp only [Act.put, List.setIfInBounds_toArray, List.set_cons_zero, List.set_cons_succ]
      refine AnyU.take (i := 20) (p := 20) (oi := ⟨some 106, _, _, _, _, none⟩) (v := (.int .i64 (u11 : Nat))) rfl (by kernel_rfl) (Or.inl rfl) (by kernel_rfl) (by kernel_rfl) (by kernel_rfl) (by kernel_rfl) (fun _ _ _ h => h) (Or.inl ⟨by rfl, fun W hW => ?_⟩) (by assumption) ?_
      · have := HK9.out; have h9 := HU11.out; go_simp; rw [IntWalk.i64_in _ (by omega)]
      simp only [Act.put, List.setIfInBounds_toArray, List.set_cons_zero, List.set_cons_succ]
      refine AnyU.take (i := 21) (p := 21) (oi := ⟨some 107, _, _, _, _, none⟩) (v := (.pointer (some ⟨bb, bo + u11, none⟩))) rfl (by kernel_rfl) (Or.inl rfl) (by kernel_rfl) (by kernel_rfl) (by kernel_rfl) (by kernel_rfl) (fun _ _ _ h => h) (Or.inl ⟨by rfl, fun W hW => ?_⟩) (by assumption) ?_
      · have := HJ11.out; go_simp
      simp only [Act.put, List.setIfInBounds_toArray, List.set_cons_zero, List.set_cons_succ]
      refine AnyU.take (i := 22) (p := 22) (oi := ⟨some 108, _, _, _, _, none⟩) (v := (.int .u8 (x2 : Nat))) rfl (by kernel_rfl) (Or.inl rfl) (by kernel_rfl) (by kernel_rfl) (by kernel_rfl) (by kernel_rfl) (fun _ _ _ h => h) (Or.inl ⟨by rfl, fun W hW => ?_⟩) (by assumption) ?_
      · have := HE11.out W hW; go_simp
      simp only [Act.put, List.setIfInBounds_toArray, List.set_cons_zero, List.set_cons_succ]
      refine AnyU.take (i := 23) (p := 23) (oi := ⟨some 109, _, _, _, _, none⟩) (v := (.int .i64 (x2 : Nat))) rfl (by kernel_rfl) (Or.inl rfl) (by kernel_rfl) (by kernel_rfl) (by kernel_rfl) (by kernel_rfl) (fun _ _ _ h => h) (Or.inl ⟨by rfl, fun W hW => ?_⟩) (by assumption) ?_
      · have := HB11.out; go_simp; exact IntWalk.i64_in _ (by omega)
      simp only [Act.put, List.setIfInBounds_toArray, List.set_cons_zero, List.set_cons_succ]
      refine AnyU.take (i := 24) (p := 24) (oi := ⟨some 110, _, _, _, _, none⟩) (v := (.int .i64 (256 * (x1 : Int) + x2))) rfl (by kernel_rfl) (Or.inl rfl) (by kernel_rfl) (by kernel_rfl) (by kernel_rfl) (by kernel_rfl) (fun _ _ _ h => h) (Or.inl ⟨by rfl, fun W hW => ?_⟩) (by assumption) ?_
      · have := HB10.out; have := HB11.out; go_simp; exact IntWalk.i64_in _ (by omega)
      simp only [Act.put, List.setIfInBounds_toArray, List.set_cons_zero, List.set_cons_succ]
      refine AnyU.take (i := 25) (p := 25) (oi := ⟨some 111, _, _, _, _, none⟩) (v := (.agg #[.int .i64 (x0 : Nat), .int .i64 (256 * (x1 : Int) + x2)])) rfl (by kernel_rfl) (Or.inl rfl) (by kernel_rfl) (by kernel_rfl) (by kernel_rfl) (by kernel_rfl) (fun _ _ _ h => h) (Or.inl ⟨by rfl, fun W hW => ?_⟩) (by assumption) ?_
      · go_simp
      simp only [Act.put, List.setIfInBounds_toArray, List.set_cons_zero, List.set_cons_succ]
      refine AnyU.ready (rs := [26]) (by kernel_rfl) (by simp) (EachU.cons rfl (fun KK hKK => ?_) EachU.nil)
      go_simp
      obtain ⟨w6, hw6⟩ : ∃ w6, w6 = w5.alloc (.cells #[.int .i64 (x0 : Nat), .int .i64 (256 * (x1 : Int) + x2)] 41) := ⟨_, rfl⟩
      rw [← hw6]
      have hb6 : Below B wx w6 := by rw [hw6]; exact hHeld.alloc (Nat.le_trans HZX.out hHeld.size) _
      have hnew : ∀ j u, [Value.int .i64 (x0 : Nat), .int .i64 (256 * (x1 : Int) + x2)][j]? = some u → w6.cell? ((⟨w5.heap.size, 0, none⟩ : Addr).add j) = some u := by rw [hw6]; exact cell_new2 w5 _ _ 41
      have ho6 : w6.ownsRow B 41 2 (.slice ta k tc) k (tdl (nt f).C (nt f).T k) := by rw [hw6]; exact own_be ho5 ((Below.refl w5.heap.size w5).alloc (Nat.le_refl _) _)
      have hz6 : B ≤ w6.heap.size := Nat.le_trans HZX.out hb6.size
      clear hw6
      refine hKK.out _ _ (fun _ => hb6) (fun _ => ?_)
      clear hKK KK
      try simp only [Act.put, List.setIfInBounds_toArray, List.set_cons_zero, List.set_cons_succ]
      refine AnyU.ready (rs := [27]) (by kernel_rfl) (by simp) (EachU.cons rfl (fun KK hKK => ?_) EachU.nil)
      refine step_apd rfl (.tmp 87) (.tmp 112) 22 rfl B 41 i0 (.agg #[.int .i64 0, .int .i64 0]) 2 16 Try.underlying22 HI.out HIZ0.out HIZ1.out HIZ2.out rfl (by decide) (.slice ta k tc) k _ rfl ho6 ⟨w5.heap.size, 0, none⟩ 1 1 [.int .i64 (x0 : Nat), .int .i64 (256 * (x1 : Int) + x2)] rfl rfl hnew (int_ones _ _) (by have := HK9.out; unfold maxLen; omega) (by have := HK9.out; omega) hz6 ?_
      intro v7 w7 hown7 hgrow7
      obtain ⟨g7, c7, rfl⟩ := own_sl hown7
      have hb7 : Below B wx w7 := hb6.grown hgrow7 hz6 (fun r e => (ho6.lt r e).1)
      refine hKK.out _ _ (fun _ => hb7) (fun _ => ?_)
      clear hKK KK
      try simp only [Act.put, List.setIfInBounds_toArray]
      refine AnyU.take (i := 28) (p := 28) (oi := ⟨some 114, _, _, _, _, none⟩) (v := (.pointer (some ⟨g6, 3, none⟩))) rfl (by kernel_rfl) (Or.inl rfl) (by kernel_rfl) (by kernel_rfl) (by kernel_rfl) (by kernel_rfl) (fun _ _ _ h => h) (Or.inl ⟨by rfl, fun W hW => ?_⟩) (by assumption) ?_
      · go_simp
      simp only [Act.put]
      refine AnyU.ready (rs := [29]) (by kernel_rfl) (by simp) (EachU.cons rfl (fun KK hKK => ?_) EachU.nil)
      have xx := HC3.out w7 hb7
      have ff := HF3.out w7 hb7
      have hl7 : tdl (nt f).C (nt f).T (k + 1) = tdl (nt f).C (nt f).T k ++ [.int .i64 (x0 : Nat), .int .i64 (256 * (x1 : Int) + x2)] := by show _ ++ [_, _] = _; rw [HCC.out, HTT.out]
      have hn7 : NAt w7 g6 ⟨256 * (y1 : Int) + y2, (y3 : Int) * 16777216 + y4 * 65536 + y5 * 256 + y6, (y7 : Nat), k, (nt f).C, (nt f).T⟩ ta tc := (hb7.block g6 HG6.out.2).trans HNX.out
      go_simp
      obtain ⟨w8, hw8⟩ : ∃ w8, w8 = w7.setCell ⟨g6, 3, none⟩ (.slice g7 (k + 1) c7) := ⟨_, rfl⟩
      rw [← hw8]
      have HN8 := Lib.hid (show NAt w8 g6 ⟨256 * (y1 : Int) + y2, (y3 : Int) * 16777216 + y4 * 65536 + y5 * 256 + y6, (y7 : Nat), k + 1, (nt f).C, (nt f).T⟩ g7 c7 by rw [hw8]; exact heap_setCell_same w7 g6 3 _ _ _ hn7)
      have HO8 := Lib.hid (show w8.ownsRow B 41 2 (.slice g7 (k + 1) c7) (k + 1) (tdl (nt f).C (nt f).T (k + 1)) by rw [hw8, hl7]; exact own_oth hown7 fun g hg _ => heap_setCell_other _ _ _ _ (fun e => by have e2 : g = g6 := e; have := HG6.out; omega))
      have HB8 := Lib.hid (show Below w1.heap.size w1 w8 by rw [hw8]; exact (HWX.out w7 hb7).setCell (p := ⟨g6, 3, none⟩) HG6.out.1 _)
      have HZ8 := Lib.hid (show B ≤ w8.heap.size by rw [hw8]; simp; exact Nat.le_trans HZX.out hb7.size)
      clear hw8 hn7 hl7 xx ff
      refine hKK.out _ _ (fun hh => absurd rfl hh) (fun _ => ?_)
      clear hKK KK
      try simp only [Act.put, List.setIfInBounds_toArray, List.set_cons_zero, List.set_cons_succ]
      refine AnyU.done (by kernel_rfl) ?_ _
      have hlt := HLT.out
      have hk9 := HK9.out
      clear hHeld hb6 hb7 hnew ho5 ho6 hz6 hown7 hgrow7
      go_wp2
      go_roundw
      case rel => exact ⟨k + 1, g7, c7, _, rfl, by omega, by go_num, HN8.out, HO8.out, HB8.out, HZ8.out⟩
      case measure => simp [intOf]; omega
    · obtain hkm : k = m := by omega
      have i1 : ¬ (k : Int) < (m : Int) := by omega
      obtain ⟨H, hH⟩ : ∃ H : Mn, H = ⟨256 * (y1 : Int) + y2, (y3 : Int) * 16777216 + y4 * 65536 + y5 * 256 + y6, (y7 : Nat), m, (nt f).C, (nt f).T⟩ := ⟨_, rfl⟩
      have HEN := Lib.hid (show EN H (nt f) by
        rw [hH]
        obtain ⟨v1, v2, v3⟩ := HV.out
        exact ⟨v1.symm, by show (y3 : Int) * 16777216 + y4 * 65536 + y5 * 256 + y6 = _; rw [v2]; omega, v3.symm, HM.out, fun _ _ => ⟨rfl, rfl⟩⟩)
      have HNH := Lib.hid (show NAt wx g6 H ta tc by rw [hH, ← hkm]; exact HNX.out)
      have HOH := Lib.hid (show wx.ownsRow B 41 2 (.slice ta H.m tc) H.m (tdl H.C H.T H.m) by rw [hH, ← hkm]; exact HOX.out)
      have HMH := Lib.hid (show H.m = m by rw [hH])
      have HTH := Lib.hid (tdl_tb HOH.out).1
      have HRI := Lib.hid (rright_any H ta tc (by rw [HMH.out]; omega) wx HTH.out)
      have HBW := Lib.hid (HB.out.trans (HBX.out.mono HB.out.size))
      have HNR := Lib.hid (show wx.heap[wg]? = some (.cells #[.int .i64 0, .int .i64 0, .int .i64 0, .slice none 0 0] 24 (0, 0)) from (HBX.out.block wg HZ1.out.1).trans HRW.out)
      obtain ⟨c0, c1, c2, c3⟩ := HNH.out.c
      unfold nV at HRI
      clear hH hkm hlt hk
      go_wp2_with fail
      clear c0 c1 c2 c3 d8
      refine HRI.out.mono ?_
      rintro e w6 ⟨⟨v, rfl, hv⟩, hB6⟩
      have HVV := Lib.hid (show v = true ↔ GoodP N f by
        rw [hv]
        exact ⟨fun r => ⟨by rw [← HM.out]; exact HL.out, rn_congr HEN.out r⟩, fun g => rn_congr HEN.out.symm g.2⟩)
      have HN6 := Lib.hid (HNH.out.same hB6)
      have HO6 := Lib.hid (own_be HOH.out hB6)
      have HRW := Lib.hid ((hB6.block wg (Array.getElem?_eq_some_iff.1 HNR.out).1).trans HNR.out)
      have HB6 := Lib.hid (HBW.out.trans (hB6.mono HBW.out.size))
      clear hv hB6 HRI
      cases v
      · have HP := Lib.hid (HPG.out.2 (fun g => absurd (HVV.out.2 g) (by simp)))
        go_wp2_with (show wpList _ _ _ (⟨none, _, _, _, _, _⟩ :: _) _ _; refine wpList_store_row rfl 24 _ _ rfl wg #[.int .i64 0, .int .i64 0, .int .i64 0, .slice none 0 0] rfl rfl 24 _ HRW.out (by kernel_rfl) rfl (by simp [Value.oneCell']) ?_)
        have hzz := set_note nz none 0 HRW.out
        exact bodyPost_ret (results_note2 rfl _ _ wg nz none 0 rfl hzz.1) rfl ⟨Or.inl ⟨by rw [HP.out]; decide, by rw [HP.out]; rfl⟩, HB6.out.trans (hzz.2 _ (by have := HWG.out; omega))⟩
      · have HP := Lib.hid (HPG.out.1 (show GoodP N f by first | exact HVV.out.1 rfl | exact HVV.out.1 trivial))
        obtain ⟨c0, c1, c2, c3⟩ := HN6.out.c
        go_wp2_with (show wpList _ _ _ (⟨none, _, _, _, _, _⟩ :: _) _ _; refine wpList_store_row rfl 24 _ _ rfl wg #[.int .i64 H.S, .int .i64 H.Q, .int .i64 H.N, .slice ta H.m tc] rfl rfl 24 _ HRW.out (by kernel_rfl) rfl (by simp [Value.oneCell']) ?_)
        have hzz := set_note H ta tc HRW.out
        have em : H.m = f 8 := HMH.out.trans HM.out
        refine bodyPost_ret (results_note2 rfl _ _ wg H ta tc rfl hzz.1) rfl ⟨Or.inr ⟨HP.out, ta, tc, ?_, ?_⟩, HB6.out.trans (hzz.2 _ (by have := HWG.out; omega))⟩
        · rw [nV_eq HEN.out]; rfl
        · have ho := own_oth (w' := w6.setRow wg #[.int .i64 H.S, .int .i64 H.Q, .int .i64 H.N, .slice ta H.m tc]) HO6.out (fun g hg _ => setRow_other w6 wg g _ (by have := HG6.out; have := HZ1.out; omega))
          have e2 : tdl (nt f).C (nt f).T H.m = tdl H.C H.T H.m := (tdl_congr _ HEN.out.2.2.2.2).symm
          rw [← em, e2]
          exact own_mono ho (by have := HG6.out; have := HZ1.out; omega)
end Go.Proofs.Ytjlmajopfeplpaa.Nt

namespace Go.Proofs.Ytjlmajopfeplpaa.Nt
open Go.RowKit Go.Shelf
attribute [local go_sem] Oper.semAt_some

theorem NAt.s3 {W : World} {g cc : Nat} {h : Mn} {a : Option Addr} (s : NAt W g h a cc) (b : Option Addr) (m c : Nat) (C T : Nat → Int) : NAt (W.setCell ⟨g, 3, none⟩ (.slice b m c)) g ⟨h.S, h.Q, h.N, m, C, T⟩ b c := heap_setCell_same W g 3 _ _ _ s
set_option maxHeartbeats 4000000 in
set_option maxRecDepth 100000 in
theorem sameNote_any (h g : Mn) (a b : Option Addr) (c d : Nat) (hm : h.m ≤ 140737488355328) (gm : g.m ≤ 140737488355328) (w : World) (hT : Tb w a h.m h.C h.T) (gT : Tb w b g.m g.C g.T) :
    Calls Try.prog 25 #[nV h a c, nV g b d] w fun e w' => BoSays (EN h g) e ∧ Below w.heap.size w w' := by
  obtain ⟨w0, hw0⟩ : ∃ w0, w0 = w.alloc (.cells #[.int .i64 h.S, .int .i64 h.Q, .int .i64 h.N, .slice a h.m c] 24) := ⟨_, rfl⟩
  obtain ⟨w1, hw1⟩ : ∃ w1, w1 = w0.alloc (.cells #[.int .i64 g.S, .int .i64 g.Q, .int .i64 g.N, .slice b g.m d] 24) := ⟨_, rfl⟩
  have hz0 : w0.heap.size = w.heap.size + 1 := by rw [hw0, World.size_alloc]
  have hb0 : Below w.heap.size w w0 := by rw [hw0]; exact (Below.refl _ w).alloc (Nat.le_refl _) _
  have hb1 : Below w0.heap.size w0 w1 := by rw [hw1]; exact (Below.refl _ w0).alloc (Nat.le_refl _) _
  have hq0 : NAt w0 w.heap.size h a c := by rw [hw0]; exact heap_alloc_new _ _
  have HX := Lib.hid (hq0.same hb1)
  have HY := Lib.hid (show NAt w1 (w.heap.size + 1) g b d by rw [hw1, ← hz0]; exact heap_alloc_new _ _)
  have HB := Lib.hid (hb0.trans (hb1.mono hb0.size))
  have HSC := Lib.hid (sameCounts_any a b h.m g.m c d h.C h.T g.C g.T hm gm w1 (hT.same HB.out) (gT.same HB.out))
  have HW := Lib.hid (show w1 = (w.alloc (.cells #[.int .i64 h.S, .int .i64 h.Q, .int .i64 h.N, .slice a h.m c] 24)).alloc (.cells #[.int .i64 g.S, .int .i64 g.Q, .int .i64 g.N, .slice b g.m d] 24) by rw [hw1, hw0])
  have HEN := Lib.hid (show EN h g ↔ h.S = g.S ∧ h.Q = g.Q ∧ h.N = g.N ∧ SR h.m g.m h.C h.T g.C g.T from Iff.rfl)
  unfold nV
  generalize EN h g = R at *
  clear hT gT hw0 hw1 hz0 hb0 hb1 hq0 hm gm
  go_enter Try.func25, Try.ntmps25
  go_upto_region 1 with fail
  rw [← HW.out]
  clear HW
  obtain ⟨c0, c1, c2, c3⟩ := HX.out.c
  obtain ⟨d0, d1, d2, d3⟩ := HY.out.c
  obtain ⟨S, hS⟩ : ∃ x, x = h.S := ⟨_, rfl⟩
  obtain ⟨Q, hQ⟩ : ∃ x, x = h.Q := ⟨_, rfl⟩
  obtain ⟨N, hN⟩ : ∃ x, x = h.N := ⟨_, rfl⟩
  obtain ⟨S', hS'⟩ : ∃ x, x = g.S := ⟨_, rfl⟩
  obtain ⟨Q', hQ'⟩ : ∃ x, x = g.Q := ⟨_, rfl⟩
  obtain ⟨N', hN'⟩ : ∃ x, x = g.N := ⟨_, rfl⟩
  rw [← hS] at c0
  rw [← hQ] at c1
  rw [← hN] at c2
  rw [← hS'] at d0
  rw [← hQ'] at d1
  rw [← hN'] at d2
  have HEN := Lib.hid (show R ↔ S = S' ∧ Q = Q' ∧ N = N' ∧ SR h.m g.m h.C h.T g.C g.T by rw [hS, hQ, hN, hS', hQ', hN']; exact HEN.out)
  clear hS hQ hN hS' hQ' hN'
  by_cases e1 : S = S'
  rotate_left
  · have g1 : (S == S') = false := by simp [e1]
    have HNO := Lib.hid (show ¬ R from fun r => e1 (HEN.out.1 r).1)
    clear e1
    go_wp2
    go_ret
    exact ⟨BoSays.no HNO.out, HB.out⟩
  have g1 : (S == S') = true := by simp [e1]
  by_cases e2 : Q = Q'
  rotate_left
  · have g2 : (Q == Q') = false := by simp [e2]
    have HNO := Lib.hid (show ¬ R from fun r => e2 (HEN.out.1 r).2.1)
    clear e1 e2
    go_wp2
    go_ret
    exact ⟨BoSays.no HNO.out, HB.out⟩
  have g2 : (Q == Q') = true := by simp [e2]
  by_cases e3 : N = N'
  rotate_left
  · have g3 : (N == N') = false := by simp [e3]
    have HNO := Lib.hid (show ¬ R from fun r => e3 (HEN.out.1 r).2.2.1)
    clear e1 e2 e3
    go_wp2
    go_ret
    exact ⟨BoSays.no HNO.out, HB.out⟩
  have g3 : (N == N') = true := by simp [e3]
  have HIF := Lib.hid (show R ↔ SR h.m g.m h.C h.T g.C g.T from ⟨fun r => (HEN.out.1 r).2.2.2, fun r => HEN.out.2 ⟨e1, e2, e3, r⟩⟩)
  clear e1 e2 e3 HEN
  go_wp2_with fail
  clear c0 c1 c2 c3 d0 d1 d2 d3
  refine HSC.out.mono ?_
  rintro e w2 ⟨⟨v, rfl, hv⟩, hB2⟩
  have HV := Lib.hid (hv.trans HIF.out.symm); have HB2 := Lib.hid (HB.out.trans (hB2.mono HB.out.size))
  clear hv hB2 HSC
  go_wp2
  go_ret
  exact ⟨⟨v, rfl, HV.out⟩, HB2.out⟩

/-- a report, lent. -/
def LentSays (w : World) (h : Mn) (e : Ending) (w' : World) : Prop := ∃ x, w.heap.size ≤ x ∧ e = .returned (nV h (some ⟨x, 0, none⟩) (h.m + 12)) ∧ Tb w' (some ⟨x, 0, none⟩) (h.m + 12) (tK h.C h.m) (tL h.T h.m) ∧ Below w.heap.size w w'
set_option maxHeartbeats 4000000 in
set_option maxRecDepth 100000 in
theorem lentNote_any (h : Mn) (a : Option Addr) (c : Nat) (hnil : a = none → h.m = 0 ∧ c = 0) (hl : h.m ≤ 1000000) (w : World) (hT : Tb w a h.m h.C h.T) :
    Calls Try.prog 9 #[nV h a c] w (LentSays w h) := by
  obtain ⟨w0, hw0⟩ : ∃ w0, w0 = w.alloc (.cells #[.int .i64 h.S, .int .i64 h.Q, .int .i64 h.N, .slice a h.m c] 24) := ⟨_, rfl⟩
  obtain ⟨w1, hw1⟩ : ∃ w1, w1 = w0.alloc (.cells #[.int .i64 0, .int .i64 0, .int .i64 0, .slice none 0 0] 24) := ⟨_, rfl⟩
  have hz0 : w0.heap.size = w.heap.size + 1 := by rw [hw0, World.size_alloc]
  have hb0 : Below w.heap.size w w0 := by rw [hw0]; exact (Below.refl _ w).alloc (Nat.le_refl _) _
  have hb1 : Below w0.heap.size w0 w1 := by rw [hw1]; exact (Below.refl _ w0).alloc (Nat.le_refl _) _
  have hq0 : NAt w0 w.heap.size h a c := by rw [hw0]; exact heap_alloc_new _ _
  have HX := Lib.hid (hq0.same hb1)
  have HY := Lib.hid (show w1.heap[w.heap.size + 1]? = some (.cells #[.int .i64 0, .int .i64 0, .int .i64 0, .slice none 0 0] 24 (0, 0)) by rw [hw1, ← hz0]; exact heap_alloc_new _ _)
  have HB := Lib.hid (hb0.trans (hb1.mono hb0.size))
  have HCT := Lib.hid (lentCounts_any a h.m c h.C h.T w1 (hT.same HB.out) hnil hl)
  have HSZ := Lib.hid (show w1.heap.size = w.heap.size + 1 + 1 by rw [hw1, World.size_alloc, hz0])
  have HW := Lib.hid (show w1 = (w.alloc (.cells #[.int .i64 h.S, .int .i64 h.Q, .int .i64 h.N, .slice a h.m c] 24)).alloc (.cells #[.int .i64 0, .int .i64 0, .int .i64 0, .slice none 0 0] 24) by rw [hw1, hw0])
  obtain ⟨wg, hwg⟩ : ∃ wg, wg = w.heap.size := ⟨_, rfl⟩
  rw [← hwg] at HX HY HSZ
  have HWG := Lib.hid hwg
  unfold nV
  clear hw0 hw1 hz0 hb0 hb1 hq0 hT hnil
  go_enter Try.func9, Try.ntmps9
  go_upto_region 1 with fail
  rw [← HW.out, ← hwg]
  clear hwg HW
  obtain ⟨c0, c1, c2, c3⟩ := HX.out.c
  go_wp2_with fail
  clear c0 c1 c2 c3
  refine HCT.out.mono ?_
  rintro e w2 ⟨rfl, hT2, hB2⟩
  have HX2 := Lib.hid (HX.out.same hB2)
  have HY2 := Lib.hid ((hB2.block _ (Array.getElem?_eq_some_iff.1 HY.out).1).trans HY.out)
  have HT2 := Lib.hid hT2
  have HB2 := Lib.hid (HB.out.trans (hB2.mono HB.out.size))
  obtain ⟨z1, hz1⟩ : ∃ z1, z1 = w1.heap.size := ⟨_, rfl⟩
  rw [← hz1] at HT2 HSZ ⊢
  clear hT2 hB2 HCT hz1
  obtain ⟨c0, c1, c2, c3⟩ := HX2.out.c
  have f0 := HX2.out.free 3
  go_upto_region 2 with fail
  obtain ⟨w3, hw3⟩ : ∃ w3, w3 = w2.setCell ⟨wg, 3, none⟩ (.slice (some ⟨z1, 0, none⟩) h.m (h.m + 12)) := ⟨_, rfl⟩
  rw [← hw3]
  have HX3 := Lib.hid (show NAt w3 wg h (some ⟨z1, 0, none⟩) (h.m + 12) by rw [hw3]; exact HX2.out.s3 _ _ _ h.C h.T)
  have HRW := Lib.hid (show w3.heap[wg + 1]? = _ from ((show w3.heap[wg + 1]? = w2.heap[wg + 1]? by rw [hw3]; exact heap_setCell_other _ _ _ _ (fun e => by have e2 : wg + 1 = wg := e; omega))).trans HY2.out)
  have HT3 := Lib.hid (Tb.blk (w' := w3) HT2.out (by rw [hw3]; exact heap_setCell_other _ _ _ _ (fun e => by have e2 : z1 = wg := e; have := HSZ.out; omega)))
  have HB3 := Lib.hid (show Below w.heap.size w w3 by rw [hw3]; exact HB2.out.setCell (by have := HWG.out; show w.heap.size ≤ wg; omega) _)
  clear hw3 c0 c1 c2 c3 f0 HX2 HY2 HT2 HB2
  obtain ⟨c0, c1, c2, c3⟩ := HX3.out.c
  go_wp2_with (show wpList _ _ _ (⟨none, _, _, _, _, _⟩ :: _) _ _; refine wpList_store_row rfl 24 _ _ rfl (wg + 1) #[.int .i64 h.S, .int .i64 h.Q, .int .i64 h.N, .slice (some ⟨z1, 0, none⟩) h.m (h.m + 12)] rfl rfl 24 _ HRW.out (by kernel_rfl) rfl (by simp [Value.oneCell']) ?_)
  have hset := HRW.out
  refine bodyPost_ret (results_cell_row rfl _ _ (wg + 1) _ _ (0, 0) _ rfl (setRow_heap _ _ _ _ _ _ hset) Try.underlying24 rfl (by kernel_rfl)) rfl ⟨z1, by have := HSZ.out; have := HWG.out; omega, rfl, ?_, ?_⟩
  · exact Tb.blk HT3.out (setRow_other w3 (wg + 1) z1 _ (by have := HSZ.out; omega))
  · exact HB3.out.trans ⟨rfl, rfl, rfl, by simp, fun k hk => setRow_other w3 (wg + 1) k _ (by have := HWG.out; omega)⟩
set_option maxHeartbeats 4000000 in
set_option maxRecDepth 100000 in
theorem copyNote_any (h : Mn) (a : Option Addr) (c : Nat) (hn : h.m ≤ 1000000) (w : World) (hT : Tb w a h.m h.C h.T) (hnil : a = none → h.m = 0 ∧ c = 0) :
    Calls Try.prog 22 #[nV h a c] w fun e w' => ∃ a' c', e = .returned (nV h a' c') ∧ w'.ownsRow w.heap.size 41 2 (.slice a' h.m c') h.m (tdl h.C h.T h.m) ∧ Below w.heap.size w w' := by
  obtain ⟨w0, hw0⟩ : ∃ w0, w0 = w.alloc (.cells #[.int .i64 h.S, .int .i64 h.Q, .int .i64 h.N, .slice a h.m c] 24) := ⟨_, rfl⟩
  obtain ⟨w1, hw1⟩ : ∃ w1, w1 = w0.alloc (.cells #[.int .i64 0, .int .i64 0, .int .i64 0, .slice none 0 0] 24) := ⟨_, rfl⟩
  have hz0 : w0.heap.size = w.heap.size + 1 := by rw [hw0, World.size_alloc]
  have hb0 : Below w.heap.size w w0 := by rw [hw0]; exact (Below.refl _ w).alloc (Nat.le_refl _) _
  have hb1 : Below w0.heap.size w0 w1 := by rw [hw1]; exact (Below.refl _ w0).alloc (Nat.le_refl _) _
  have hq0 : NAt w0 w.heap.size h a c := by rw [hw0]; exact heap_alloc_new _ _
  have HX := Lib.hid (hq0.same hb1)
  have HY := Lib.hid (show w1.heap[w.heap.size + 1]? = some (.cells #[.int .i64 0, .int .i64 0, .int .i64 0, .slice none 0 0] 24 (0, 0)) by rw [hw1, ← hz0]; exact heap_alloc_new _ _)
  have HB := Lib.hid (hb0.trans (hb1.mono hb0.size))
  have HCT := Lib.hid (copyCounts_any a h.m c h.C h.T hn w1 (hT.same HB.out) hnil)
  have HSZ := Lib.hid (show w1.heap.size = w.heap.size + 1 + 1 by rw [hw1, World.size_alloc, hz0])
  have HW := Lib.hid (show w1 = (w.alloc (.cells #[.int .i64 h.S, .int .i64 h.Q, .int .i64 h.N, .slice a h.m c] 24)).alloc (.cells #[.int .i64 0, .int .i64 0, .int .i64 0, .slice none 0 0] 24) by rw [hw1, hw0])
  obtain ⟨wg, hwg⟩ : ∃ wg, wg = w.heap.size := ⟨_, rfl⟩
  rw [← hwg] at HX HY HSZ
  have HWG := Lib.hid hwg
  unfold nV
  clear hw0 hw1 hz0 hb0 hb1 hq0 hT hnil
  go_enter Try.func22, Try.ntmps22
  go_upto_region 1 with fail
  rw [← HW.out, ← hwg]
  clear hwg HW
  obtain ⟨c0, c1, c2, c3⟩ := HX.out.c
  go_wp2_with fail
  clear c0 c1 c2 c3
  refine HCT.out.mono ?_
  rintro e w2 ⟨a', c', rfl, ho, hB2⟩
  have HX2 := Lib.hid (HX.out.same hB2)
  have HY2 := Lib.hid ((hB2.block _ (Array.getElem?_eq_some_iff.1 HY.out).1).trans HY.out)
  have HO2 := Lib.hid ho
  have HB2 := Lib.hid (HB.out.trans (hB2.mono HB.out.size))
  clear ho hB2 HCT
  obtain ⟨c0, c1, c2, c3⟩ := HX2.out.c
  have f0 := HX2.out.free 3
  go_upto_region 2 with fail
  obtain ⟨w3, hw3⟩ : ∃ w3, w3 = w2.setCell ⟨wg, 3, none⟩ (.slice a' h.m c') := ⟨_, rfl⟩
  rw [← hw3]
  have HX3 := Lib.hid (show NAt w3 wg h a' c' by rw [hw3]; exact HX2.out.s3 _ _ _ h.C h.T)
  have HRW := Lib.hid (show w3.heap[wg + 1]? = _ from ((show w3.heap[wg + 1]? = w2.heap[wg + 1]? by rw [hw3]; exact heap_setCell_other _ _ _ _ (fun e => by have e2 : wg + 1 = wg := e; omega))).trans HY2.out)
  have HO3 := Lib.hid (own_oth (w' := w3) HO2.out (fun g hg _ => by rw [hw3]; exact heap_setCell_other _ _ _ _ (fun e => by have e2 : g = wg := e; have := HSZ.out; omega)))
  have HB3 := Lib.hid (show Below w.heap.size w w3 by rw [hw3]; exact HB2.out.setCell (by have := HWG.out; show w.heap.size ≤ wg; omega) _)
  clear hw3 c0 c1 c2 c3 f0 HX2 HY2 HO2 HB2
  obtain ⟨c0, c1, c2, c3⟩ := HX3.out.c
  go_wp2_with (show wpList _ _ _ (⟨none, _, _, _, _, _⟩ :: _) _ _; refine wpList_store_row rfl 24 _ _ rfl (wg + 1) #[.int .i64 h.S, .int .i64 h.Q, .int .i64 h.N, .slice a' h.m c'] rfl rfl 24 _ HRW.out (by kernel_rfl) rfl (by simp [Value.oneCell']) ?_)
  have hset := HRW.out
  refine bodyPost_ret (results_cell_row rfl _ _ (wg + 1) _ _ (0, 0) _ rfl (setRow_heap _ _ _ _ _ _ hset) Try.underlying24 rfl (by kernel_rfl)) rfl ⟨a', c', rfl, ?_, ?_⟩
  · exact own_mono (own_oth HO3.out fun g hg _ => setRow_other w3 (wg + 1) g _ (by have := HSZ.out; omega)) HB.out.size
  · exact HB3.out.trans ⟨rfl, rfl, rfl, by simp, fun k hk => setRow_other w3 (wg + 1) k _ (by have := HWG.out; omega)⟩
set_option maxHeartbeats 4000000 in
set_option maxRecDepth 100000 in
theorem keptNote_any (h : Mn) (x : Nat) (a : Option Addr) (c : Nat) (hc : h.m ≤ c) (hl : h.m ≤ 1000000) (w : World) (hT : Tb w a h.m h.C h.T) (hG : Tb w (some ⟨x, 0, none⟩) (h.m + 12) (tK h.C h.m) (tL h.T h.m)) :
    Calls Try.prog 19 #[nV h (some ⟨x, 0, none⟩) (h.m + 12), nV h a c] w fun e w' => e = .returned (.bool true) ∧ Below w.heap.size w w' := by
  obtain ⟨w0, hw0⟩ : ∃ w0, w0 = w.alloc (.cells #[.int .i64 h.S, .int .i64 h.Q, .int .i64 h.N, .slice (some ⟨x, 0, none⟩) h.m (h.m + 12)] 24) := ⟨_, rfl⟩
  obtain ⟨w1, hw1⟩ : ∃ w1, w1 = w0.alloc (.cells #[.int .i64 h.S, .int .i64 h.Q, .int .i64 h.N, .slice a h.m c] 24) := ⟨_, rfl⟩
  have hx0 : NAt w0 w.heap.size h (some ⟨x, 0, none⟩) (h.m + 12) := by rw [hw0]; exact heap_alloc_new _ _
  have hb0 : Below w.heap.size w w0 := by rw [hw0]; exact (Below.refl _ w).alloc (Nat.le_refl _) _
  have hz0 : w0.heap.size = w.heap.size + 1 := by rw [hw0, World.size_alloc]
  have hb1 : Below w0.heap.size w0 w1 := by rw [hw1]; exact (Below.refl _ w0).alloc (Nat.le_refl _) _
  have HX := Lib.hid (hx0.same hb1)
  have HY := Lib.hid (show NAt w1 (w.heap.size + 1) h a c by rw [hw1, ← hz0]; exact heap_alloc_new _ _)
  have HB := Lib.hid (hb0.trans (hb1.mono hb0.size))
  have HW := Lib.hid (show w1 = (w.alloc (.cells #[.int .i64 h.S, .int .i64 h.Q, .int .i64 h.N, .slice (some ⟨x, 0, none⟩) h.m (h.m + 12)] 24)).alloc (.cells #[.int .i64 h.S, .int .i64 h.Q, .int .i64 h.N, .slice a h.m c] 24) by rw [hw1, hw0])
  have HT := Lib.hid (hT.same HB.out); have HG := Lib.hid (hG.same HB.out)
  have HSH := Lib.hid (sameNote_any h h (some ⟨x, 0, none⟩) a (h.m + 12) c (by omega) (by omega) w1 (Tb.orig HG.out) HT.out)
  have HKT := Lib.hid (fun W hT hG => keptCounts_any x a h.m c h.C h.T W hT hc hG hl)
  unfold nV at HSH ⊢
  clear hT hG hw0 hw1 hx0 hb0 hz0 hb1
  go_enter Try.func19, Try.ntmps19
  go_upto_region 1 with fail
  rw [← HW.out]
  clear HW
  obtain ⟨c0, c1, c2, c3⟩ := HX.out.c
  obtain ⟨d0, d1, d2, d3⟩ := HY.out.c
  go_wp2_with fail
  clear c0 c1 c2 c3 d0 d1 d2 d3
  refine HSH.out.mono ?_
  rintro e w2 ⟨⟨v, rfl, hv⟩, hB2⟩
  obtain rfl : v = true := hv.2 (EN.refl h)
  have HX2 := Lib.hid (HX.out.same hB2); have HY2 := Lib.hid (HY.out.same hB2)
  have HT2 := Lib.hid (HT.out.same hB2); have HG2 := Lib.hid (HG.out.same hB2)
  have HB2 := Lib.hid (HB.out.trans (hB2.mono HB.out.size))
  clear hv hB2
  have c3 := HX2.out.c.2.2.2
  have d3 := HY2.out.c.2.2.2
  go_wp2_with fail
  refine (HKT.out w2 HT2.out HG2.out).mono ?_
  rintro e w3 ⟨rfl, hB3⟩
  have HB3 := Lib.hid (HB2.out.trans (hB3.mono HB2.out.size))
  clear hB3 c3 d3
  go_wp2
  go_ret
  exact ⟨rfl, HB3.out⟩
end Go.Proofs.Ytjlmajopfeplpaa.Nt

namespace Go.Proofs.Ytjlmajopfeplpaa.Nt
open Go.RowKit Go.Shelf
attribute [local go_sem] Oper.semAt_some

theorem sealed_same {f g : Nat → Nat} {n : Nat} (h : ∀ j, j < n → f j = g j) (i : Nat) : Crc.sealed f n i = Crc.sealed g n i := by
  unfold Crc.sealed
  rw [Crc.go_congr h]
  split
  · rw [h i (by assumption)]
  · rfl
/-- what Put tells: the block may go on behind the bytes. -/
def PutGoes (w : World) (h : Mn) (e : Ending) (w' : World) : Prop :=
  (RN h ∧ ∃ g C, e = .returned (.tuple #[.slice (some ⟨g, 0, none⟩) (9 + 3 * h.m + 4) (9 + 3 * h.m + 4), .int .i64 0]) ∧ w.heap.size ≤ g ∧ 9 + 3 * h.m + 4 ≤ C ∧ Bl w' g (9 + 3 * h.m + 4) C (Crc.sealed (pl h) (9 + 3 * h.m))) ∨
  (¬ RN h ∧ e = .returned (.tuple #[.slice none 0 0, .int .i64 2]))
set_option maxHeartbeats 4000000 in
set_option maxRecDepth 100000 in
theorem pput_any (h : Mn) (a : Option Addr) (c : Nat) (hm : h.m ≤ 140737488355328) (w : World) (hT : Tb w a h.m h.C h.T) :
    Calls Try.prog 10 #[nV h a c] w fun e w' => PutGoes w h e w' ∧ Below w.heap.size w w' := by
  obtain ⟨w0, hw0⟩ : ∃ w0, w0 = w.alloc (.cells #[.int .i64 h.S, .int .i64 h.Q, .int .i64 h.N, .slice a h.m c] 24) := ⟨_, rfl⟩
  have HX0 := Lib.hid (show NAt w0 w.heap.size h a c by rw [hw0]; exact heap_alloc_new _ _)
  have HB0 := Lib.hid (show Below w.heap.size w w0 by rw [hw0]; exact (Below.refl _ w).alloc (Nat.le_refl _) _)
  have HT := Lib.hid hT; have HW0 := Lib.hid hw0
  have HRI := Lib.hid (fun W hT => pright_any h a c hm W hT)
  have HWR := Lib.hid (fun hr W hT => written_any h hr a c W hT)
  unfold nV at HRI HWR ⊢
  clear hT hw0 hm
  go_enter Try.func10, Try.ntmps10
  go_upto_region 1 with fail
  rw [← HW0.out]
  clear HW0
  obtain ⟨c0, c1, c2, c3⟩ := HX0.out.c
  go_wp2_with fail
  clear c0 c1 c2 c3
  refine (HRI.out w0 (HT.out.same HB0.out)).mono ?_
  rintro e w1 ⟨⟨v, rfl, hv⟩, hB1⟩
  have HX1 := Lib.hid (HX0.out.same hB1); have HB1 := Lib.hid (HB0.out.trans (hB1.mono HB0.out.size))
  have HVV := Lib.hid hv
  clear hv hB1
  cases v
  · have HN := Lib.hid (show ¬ RN h from fun q => absurd (HVV.out.2 q) (by simp))
    go_wp2
    go_ret2
    exact ⟨Or.inr ⟨HN.out, rfl⟩, HB1.out⟩
  have HR := Lib.hid (show RN h by first | exact HVV.out.1 rfl | exact HVV.out.1 trivial)
  clear HVV
  obtain ⟨c0, c1, c2, c3⟩ := HX1.out.c
  go_wp2_with fail
  clear c0 c1 c2 c3
  refine (HWR.out HR.out w1 (HT.out.same HB1.out)).mono ?_
  rintro e w2 ⟨a2, cc2, g2, rfl, hS2, hg2, hB2⟩
  have HS2 := Lib.hid hS2; have HG2 := Lib.hid hg2
  have HB2 := Lib.hid (HB1.out.trans (hB2.mono HB1.out.size))
  have HM := Lib.hid (rn_few HR.out)
  obtain ⟨n, hn⟩ : ∃ n, n = 9 + 3 * h.m := ⟨_, rfl⟩
  rw [← hn] at HS2 HG2 ⊢
  have HNN := Lib.hid hn
  clear hS2 hg2 hB2 hn
  go_wp2_with fail
  refine (pseal_any a2 n cc2 g2 (by have := HM.out; have := HNN.out; omega) w2 HS2.out).mono ?_
  rintro e w3 ⟨g, C, rfl, hg, hC, hbl, hB3⟩
  have HBL := Lib.hid (show Bl w3 g (n + 4) C (Crc.sealed (pl h) n) from hbl.congr fun i hi => sealed_same HG2.out i)
  have HB3 := Lib.hid (HB2.out.trans (hB3.mono HB2.out.size))
  have HG := Lib.hid (Nat.le_trans HB2.out.size hg); have HC := Lib.hid hC
  clear hg hC hbl hB3
  go_wp2
  go_ret2
  rw [HNN.out] at HBL HC ⊢
  exact ⟨Or.inl ⟨HR.out, g, C, rfl, HG.out, HC.out, HBL.out⟩, HB3.out⟩

end Go.Proofs.Ytjlmajopfeplpaa.Nt

namespace Go.Proofs.Ytjlmajopfeplpaa.Nt
open Go.RowKit Go.Shelf
attribute [local go_sem] Oper.semAt_some

/-- what the document's Put tells. -/
def PutSays (w : World) (h : Mn) (e : Ending) (w' : World) : Prop :=
  (RN h ∧ ∃ a c, e = .returned (.tuple #[.slice a (9 + 3 * h.m + 4) c, .int .i64 0]) ∧ Nw w' w.heap.size a (9 + 3 * h.m + 4) c (Crc.sealed (pl h) (9 + 3 * h.m))) ∨
  (¬ RN h ∧ e = .returned (.tuple #[.slice none 0 0, .int .i64 2]))
theorem nine_pl {h : Mn} {S Q N : Nat} (hS : (S : Int) = h.S) (hQ : (Q : Int) = h.Q) (hN : (N : Int) = h.N) :
    [Value.int .u8 2, .int .u8 ((S : Int) / 256 % 256), .int .u8 ((S : Int) % 256), .int .u8 ((Q : Int) / 16777216 % 256), .int .u8 ((Q : Int) / 65536 % 256), .int .u8 ((Q : Int) / 256 % 256), .int .u8 ((Q : Int) % 256), .int .u8 ((N : Int) % 256), .int .u8 ((h.m : Int) % 256)] = bl (pl h) 9 := by
  have eS : h.S.toNat = S := by omega
  have eQ : h.Q.toNat = Q := by omega
  have eN : h.N.toNat = N := by omega
  have p1 : pl h 1 = S / 256 % 256 := by rw [show (1 : Nat) = 1 + 0 from rfl, ← pl_S h 0 (by omega), eS]; unfold dg; simp
  have p2 : pl h 2 = S % 256 := by rw [show (2 : Nat) = 1 + 1 from rfl, ← pl_S h 1 (by omega), eS]; unfold dg; simp
  have p3 : pl h 3 = Q / 16777216 % 256 := by rw [show (3 : Nat) = 3 + 0 from rfl, ← pl_Q h 0 (by omega), eQ]; unfold dg; simp
  have p4 : pl h 4 = Q / 65536 % 256 := by rw [show (4 : Nat) = 3 + 1 from rfl, ← pl_Q h 1 (by omega), eQ]; unfold dg; simp
  have p5 : pl h 5 = Q / 256 % 256 := by rw [show (5 : Nat) = 3 + 2 from rfl, ← pl_Q h 2 (by omega), eQ]; unfold dg; simp
  have p6 : pl h 6 = Q % 256 := by rw [show (6 : Nat) = 3 + 3 from rfl, ← pl_Q h 3 (by omega), eQ]; unfold dg; simp
  have p7 : pl h 7 = N % 256 := by show h.N.toNat % 256 = _; rw [eN]
  have p8 : pl h 8 = h.m % 256 := rfl
  show _ = [Value.int .u8 ((pl h 0 : Nat) : Int), .int .u8 ((pl h 1 : Nat) : Int), .int .u8 ((pl h 2 : Nat) : Int), .int .u8 ((pl h 3 : Nat) : Int), .int .u8 ((pl h 4 : Nat) : Int), .int .u8 ((pl h 5 : Nat) : Int), .int .u8 ((pl h 6 : Nat) : Int), .int .u8 ((pl h 7 : Nat) : Int), .int .u8 ((pl h 8 : Nat) : Int)]
  rw [p1, p2, p3, p4, p5, p6, p7, p8]
  rfl
theorem three_pl {h : Mn} {k : Nat} (hk : k < h.m) {x y : Nat} (hx : (x : Int) = h.C k) (hy : (y : Int) = h.T k) :
    [Value.int .u8 ((x : Int) % 256), .int .u8 ((y : Int) / 256 % 256), .int .u8 ((y : Int) % 256)] = bl (fun j => pl h (9 + 3 * k + j)) 3 := by
  have eC : (h.C k).toNat = x := by omega
  have eT : (h.T k).toNat = y := by omega
  have p0 : pl h (9 + 3 * k + 0) = x % 256 := by rw [Nat.add_zero, pl_C h hk, eC]
  have p1 : pl h (9 + 3 * k + 1) = y / 256 % 256 := by rw [show 9 + 3 * k + 1 = 9 + 3 * k + 1 + 0 from rfl, ← pl_T h hk 0 (by omega), eT]; unfold dg; simp
  have p2 : pl h (9 + 3 * k + 2) = y % 256 := by rw [show 9 + 3 * k + 2 = 9 + 3 * k + 1 + 1 from rfl, ← pl_T h hk 1 (by omega), eT]; unfold dg; simp
  show _ = [Value.int .u8 ((pl h (9 + 3 * k + 0) : Nat) : Int), .int .u8 ((pl h (9 + 3 * k + 1) : Nat) : Int), .int .u8 ((pl h (9 + 3 * k + 2) : Nat) : Int)]
  rw [p0, p1, p2]
  rfl
theorem bytes_ones (l : List Int) : ∀ u ∈ l.map (Value.int .u8), u.oneCell' = true := fun u hu => by
  obtain ⟨x, _, rfl⟩ := List.mem_map.1 hu; rfl
theorem cell_news (w : World) (l : List Value) (t : TypeId) : ∀ j u, l[j]? = some u → (w.alloc (.cells l.toArray t)).cell? ((⟨w.heap.size, 0, none⟩ : Addr).add j) = some u := fun j u hu => by
  rw [Addr.add_lit, Nat.zero_add, cell_of_row _ _ j _ _ _ (heap_alloc_new w _), List.getElem?_toArray]; exact hu
/-- bytes that were just laid, as a row of one's own. -/
theorem own_lit (w : World) (f : Nat → Nat) (n : Nat) (hn : n ≤ 1000) (vs : Array Value) (hv : vs = (bl f n).toArray) : (w.alloc (.cells vs 5)).ownsRow w.heap.size 5 1 (.slice (some ⟨w.heap.size, 0, none⟩) n n) n (bl f n) := by
  subst hv
  exact ⟨by rw [bl_len, Nat.mul_one], Or.inr ⟨w.heap.size, n, _, rfl, Nat.le_refl _, heap_alloc_new _ _, Nat.le_refl _, by unfold maxLen; omega, by simp [bl_len], by rw [List.toList_toArray, Nat.mul_one, List.take_of_length_le (by rw [bl_len]; omega)]⟩⟩
set_option maxHeartbeats 4000000 in
set_option maxRecDepth 100000 in
theorem rput_any (h : Mn) (a : Option Addr) (c : Nat) (hm : h.m ≤ 140737488355328) (w : World) (hT : Tb w a h.m h.C h.T) :
    Calls Try.prog 11 #[nV h a c] w fun e w' => PutSays w h e w' ∧ Below w.heap.size w w' := by
  obtain ⟨w0, hw0⟩ : ∃ w0, w0 = w.alloc (.cells #[.int .i64 h.S, .int .i64 h.Q, .int .i64 h.N, .slice a h.m c] 24) := ⟨_, rfl⟩
  have HX0 := Lib.hid (show NAt w0 w.heap.size h a c by rw [hw0]; exact heap_alloc_new _ _)
  have HB0 := Lib.hid (show Below w.heap.size w w0 by rw [hw0]; exact (Below.refl _ w).alloc (Nat.le_refl _) _)
  have HT := Lib.hid hT; have HW0 := Lib.hid hw0
  have HRI := Lib.hid (fun W hT => rright_any h a c hm W hT)
  unfold nV at HRI ⊢
  clear hT hw0 hm
  go_enter Try.func11, Try.ntmps11
  go_upto_region 1 with fail
  rw [← HW0.out]
  clear HW0
  obtain ⟨c0, c1, c2, c3⟩ := HX0.out.c
  go_wp2_with fail
  clear c0 c1 c2 c3
  refine (HRI.out w0 (HT.out.same HB0.out)).mono ?_
  rintro e w1 ⟨⟨v, rfl, hv⟩, hB1⟩
  have HX1 := Lib.hid (HX0.out.same hB1); have HB1 := Lib.hid (HB0.out.trans (hB1.mono HB0.out.size))
  have HVV := Lib.hid hv
  clear hv hB1
  cases v
  · have HN := Lib.hid (show ¬ RN h from fun q => absurd (HVV.out.2 q) (by simp))
    go_wp2
    go_ret2
    exact ⟨Or.inr ⟨HN.out, rfl⟩, HB1.out⟩
  have HR := Lib.hid (show RN h by first | exact HVV.out.1 rfl | exact HVV.out.1 trivial)
  clear HVV
  obtain ⟨c0, c1, c2, c3⟩ := HX1.out.c
  obtain ⟨S, hS⟩ : ∃ S : Nat, (S : Int) = h.S := ⟨h.S.toNat, by have := HR.out.1.1; omega⟩
  obtain ⟨Q, hQ⟩ : ∃ Q : Nat, (Q : Int) = h.Q := ⟨h.Q.toNat, by have := HR.out.2.1.1; omega⟩
  obtain ⟨N, hN⟩ : ∃ N : Nat, (N : Int) = h.N := ⟨h.N.toNat, by have := HR.out.2.2.1.1; omega⟩
  rw [← hS] at c0
  rw [← hQ] at c1
  rw [← hN] at c2
  have HS := Lib.hid hS; have HQ := Lib.hid hQ; have HN := Lib.hid hN
  clear hS hQ hN
  obtain ⟨i0, hi, hz0, hz1, hz2⟩ := info_parts Try.infoU8
  have HI := Lib.hid hi; have HZ0 := Lib.hid hz0; have HZ1' := Lib.hid hz1; have HZ2 := Lib.hid hz2
  clear hi hz0 hz1 hz2
  go_upto_region 4 with fail
  obtain ⟨vs, hvs⟩ : ∃ vs, vs = #[Value.int .u8 2, .int .u8 ((S : Int) / 256 % 256), .int .u8 ((S : Int) % 256), .int .u8 ((Q : Int) / 16777216 % 256), .int .u8 ((Q : Int) / 65536 % 256), .int .u8 ((Q : Int) / 256 % 256), .int .u8 ((Q : Int) % 256), .int .u8 ((N : Int) % 256), .int .u8 ((h.m : Int) % 256)] := ⟨_, rfl⟩
  rw [← hvs]
  obtain ⟨w2, hw2⟩ : ∃ w2, w2 = w1.alloc (.cells vs 5) := ⟨_, rfl⟩
  rw [← hw2]
  have HO2 := Lib.hid (show w2.ownsRow w1.heap.size 5 1 (.slice (some ⟨w1.heap.size, 0, none⟩) 9 9) 9 (bl (pl h) 9) by rw [hw2]; exact own_lit w1 (pl h) 9 (by omega) vs (by rw [hvs, ← nine_pl HS.out HQ.out HN.out]))
  have hb2 : Below w1.heap.size w1 w2 := by rw [hw2]; exact (Below.refl _ _).alloc (Nat.le_refl _) _
  have HX2 := Lib.hid (HX1.out.same hb2)
  have HB2 := Lib.hid (HB1.out.trans (hb2.mono HB1.out.size))
  have HB12 := Lib.hid hb2
  have HT2 := Lib.hid (HT.out.same HB2.out)
  have HM := Lib.hid (rn_few HR.out)
  have HZ1 := Lib.hid (show w.heap.size < w1.heap.size ∧ w.heap.size ≤ w1.heap.size from ⟨HX1.out.lt, HB1.out.size⟩)
  generalize hze : w1.heap.size = z1 at *
  have HZE := Lib.hid hze
  clear hze
  clear hvs hw2 hb2 c0 c1 c2 c3
  obtain ⟨c0, c1, c2, c3⟩ := HX2.out.c
  go_wp2_with fail
  clear c0 c1 c2 c3
  go_loopw [4, 5] (fun o i wr => ∃ (k : Nat) (ta : Option Addr) (tc : Nat) (W : World), W = wr ∧ k ≤ h.m ∧ i = .int .i64 (k : Nat) ∧ o = .slice ta (9 + 3 * k) tc ∧ wr.ownsRow z1 5 1 (.slice ta (9 + 3 * k) tc) (9 + 3 * k) (bl (pl h) (9 + 3 * k)) ∧ Below z1 w1 wr ∧ Below w.heap.size w wr) (fun _ i _ => h.m - (intOf i).toNat)
  case atStart => exact ⟨0, _, _, _, rfl, by omega, rfl, rfl, HO2.out, HB12.out, HB2.out⟩
  case round =>
    obtain ⟨k, ta, tc, wx, rfl, hk, rfl, rfl, hO, hB1, hB⟩ := hrel
    have HO := Lib.hid hO; have HBX := Lib.hid hB; have HB1X := Lib.hid hB1
    clear hO hB hB1
    have HXX := Lib.hid (show NAt wx w.heap.size h a c from (HB1X.out.block _ HZ1.out.1).trans HX1.out)
    obtain ⟨c0, c1, c2, c3⟩ := HXX.out.c
    have hsz := HBX.out.size
    by_cases hlt : k < h.m
    · have i1 : (k : Int) < (h.m : Int) := by omega
      obtain ⟨b, o, ea, d0, d1⟩ := HT.out.cell k hlt
      subst ea
      have hok := HR.out.2.2.2 k hlt
      unfold CtOk at hok
      obtain ⟨x, hx⟩ : ∃ x : Nat, (x : Int) = h.C k := ⟨(h.C k).toNat, by omega⟩
      obtain ⟨y, hy⟩ : ∃ y : Nat, (y : Int) = h.T k := ⟨(h.T k).toNat, by omega⟩
      have H3 := Lib.hid (three_pl hlt hx hy)
      rw [← hx] at d0
      rw [← hy] at d1
      have HLT := Lib.hid hlt
      have HN9 := Lib.hid (show 9 + 3 * k + 3 ≤ 1000 by have := HM.out; omega)
      have HNX := Lib.hid (show 9 + 3 * k + 3 = 9 + 3 * (k + 1) by omega)
      obtain ⟨n, hn⟩ : ∃ n, n = 9 + 3 * k := ⟨_, rfl⟩
      rw [← hn] at HO H3 HN9 HNX ⊢
      have HNN := Lib.hid hn
      have HRO := Lib.hid (show ∀ W, Below wx.heap.size wx W → W.ownsRow z1 5 1 (.slice ta n tc) n (bl (pl h) n) from fun W hW => own_be HO.out hW)
      have HZX := Lib.hid (show z1 ≤ wx.heap.size from HZE.out ▸ HB1X.out.size)
      have HSW := Lib.hid (show Below z1 wx wx from ⟨rfl, rfl, rfl, Nat.le_refl _, fun _ _ => rfl⟩)
      have HBB := Lib.hid (World.block_lt_of_cell? _ _ d0)
      have HCB := Lib.hid (show ∀ W, Below z1 wx W → W.heap[b]? = w.heap[b]? from fun W hW => (hW.block b (Nat.lt_of_lt_of_le HBB.out HZ1.out.2)).trans (HBX.out.block b HBB.out))
      have HD0 := Lib.hid (show ∀ W, Below z1 wx W → W.cell? ⟨b, o + k * 2, none⟩ = some (.int .i64 (x : Nat)) from fun W hW => (World.cell?_of_block (a := ⟨b, o + k * 2, none⟩) (HCB.out W hW)).trans d0)
      have HD1 := Lib.hid (show ∀ W, Below z1 wx W → W.cell? ⟨b, o + k * 2 + 1, none⟩ = some (.int .i64 (y : Nat)) from fun W hW => (World.cell?_of_block (a := ⟨b, o + k * 2 + 1, none⟩) (HCB.out W hW)).trans d1)
      have HC3 := Lib.hid (show ∀ W, Below z1 wx W → W.cell? ⟨w.heap.size, 3, none⟩ = some (.slice (some ⟨b, o, none⟩) h.m c) from fun W hW => (World.cell?_of_block (a := ⟨w.heap.size, 3, none⟩) (hW.block _ HZ1.out.1)).trans c3)
      have HK1 := Lib.hid (show (k : Int) < (h.m : Int) by omega)
      clear hok hx hy hn hlt hsz hk d0 d1
      go_wp2_with fail
      refine wp_region_held_drew (S := fun W => Below z1 wx W) (by kernel_rfl) (below_dr HSW.out 1) (fun hHeld => ?_)
      obtain ⟨w5, hw5⟩ : ∃ w5, w5 = wx.drew := ⟨_, rfl⟩
      rw [← hw5] at hHeld ⊢
      have ho5 : w5.ownsRow z1 5 1 (.slice ta n tc) n (bl (pl h) n) := by rw [hw5]; exact HRO.out _ (below_dr (Below.refl _ _) 1)
      clear hw5
      refine wpAnyH_take (i := 0) (oi := ⟨some 46, _, _, _, _, none⟩) (v := (.slice ta n tc)) rfl (by kernel_rfl) (by kernel_rfl) (by kernel_rfl) (fun _ _ _ h => h) (Or.inl ⟨by rfl, fun W hW => ?_⟩) (by assumption) ?_
      · go_simp
      simp only [Act.put, List.setIfInBounds_toArray, List.set_cons_zero, List.set_cons_succ]
      refine wpAnyH_take (i := 1) (oi := ⟨some 47, _, _, _, _, none⟩) (v := (.pointer (some ⟨w.heap.size, 3, none⟩))) rfl (by kernel_rfl) (by kernel_rfl) (by kernel_rfl) (fun _ _ _ h => h) (Or.inl ⟨by rfl, fun W hW => ?_⟩) (by assumption) ?_
      · go_simp
      simp only [Act.put, List.setIfInBounds_toArray, List.set_cons_zero, List.set_cons_succ]
      refine wpAnyH_take (i := 2) (oi := ⟨some 48, _, _, _, _, none⟩) (v := (.slice (some ⟨b, o, none⟩) h.m c)) rfl (by kernel_rfl) (by kernel_rfl) (by kernel_rfl) (fun _ _ _ h => h) (Or.inl ⟨by rfl, fun W hW => ?_⟩) (by assumption) ?_
      · have := HC3.out W hW; go_simp
      simp only [Act.put, List.setIfInBounds_toArray, List.set_cons_zero, List.set_cons_succ]
      refine wpAnyH_take (i := 3) (oi := ⟨some 49, _, _, _, _, none⟩) (v := (.int .i64 (k : Nat))) rfl (by kernel_rfl) (by kernel_rfl) (by kernel_rfl) (fun _ _ _ h => h) (Or.inl ⟨by rfl, fun W hW => ?_⟩) (by assumption) ?_
      · go_simp
      simp only [Act.put, List.setIfInBounds_toArray, List.set_cons_zero, List.set_cons_succ]
      refine wpAnyH_take (i := 4) (oi := ⟨some 50, _, _, _, _, none⟩) (v := (.pointer (some ⟨b, o + k * 2, none⟩))) rfl (by kernel_rfl) (by kernel_rfl) (by kernel_rfl) (fun _ _ _ h => h) (Or.inl ⟨by rfl, fun W hW => ?_⟩) (by assumption) ?_
      · have := HK1.out; go_simp
      simp only [Act.put, List.setIfInBounds_toArray, List.set_cons_zero, List.set_cons_succ]
      refine wpAnyH_take (i := 5) (oi := ⟨some 51, _, _, _, _, none⟩) (v := (.pointer (some ⟨b, o + k * 2, none⟩))) rfl (by kernel_rfl) (by kernel_rfl) (by kernel_rfl) (fun _ _ _ h => h) (Or.inl ⟨by rfl, fun W hW => ?_⟩) (by assumption) ?_
      · go_simp
      simp only [Act.put, List.setIfInBounds_toArray, List.set_cons_zero, List.set_cons_succ]
      refine wpAnyH_take (i := 6) (oi := ⟨some 52, _, _, _, _, none⟩) (v := (.int .i64 (x : Nat))) rfl (by kernel_rfl) (by kernel_rfl) (by kernel_rfl) (fun _ _ _ h => h) (Or.inl ⟨by rfl, fun W hW => ?_⟩) (by assumption) ?_
      · have := HD0.out W hW; go_simp
      simp only [Act.put, List.setIfInBounds_toArray, List.set_cons_zero, List.set_cons_succ]
      refine wpAnyH_take (i := 7) (oi := ⟨some 53, _, _, _, _, none⟩) (v := (.int .u8 ((x : Int) % 256))) rfl (by kernel_rfl) (by kernel_rfl) (by kernel_rfl) (fun _ _ _ h => h) (Or.inl ⟨by rfl, fun W hW => ?_⟩) (by assumption) ?_
      · go_simp; first | rfl | (unfold IntKind.wrap; rfl) | (simp [IntKind.wrap]; done)
      simp only [Act.put, List.setIfInBounds_toArray, List.set_cons_zero, List.set_cons_succ]
      refine wpAnyH_take (i := 8) (oi := ⟨some 54, _, _, _, _, none⟩) (v := (.pointer (some ⟨w.heap.size, 3, none⟩))) rfl (by kernel_rfl) (by kernel_rfl) (by kernel_rfl) (fun _ _ _ h => h) (Or.inl ⟨by rfl, fun W hW => ?_⟩) (by assumption) ?_
      · go_simp
      simp only [Act.put, List.setIfInBounds_toArray, List.set_cons_zero, List.set_cons_succ]
      refine wpAnyH_take (i := 9) (oi := ⟨some 55, _, _, _, _, none⟩) (v := (.slice (some ⟨b, o, none⟩) h.m c)) rfl (by kernel_rfl) (by kernel_rfl) (by kernel_rfl) (fun _ _ _ h => h) (Or.inl ⟨by rfl, fun W hW => ?_⟩) (by assumption) ?_
      · have := HC3.out W hW; go_simp
      simp only [Act.put, List.setIfInBounds_toArray, List.set_cons_zero, List.set_cons_succ]
      refine wpAnyH_take (i := 10) (oi := ⟨some 56, _, _, _, _, none⟩) (v := (.int .i64 (k : Nat))) rfl (by kernel_rfl) (by kernel_rfl) (by kernel_rfl) (fun _ _ _ h => h) (Or.inl ⟨by rfl, fun W hW => ?_⟩) (by assumption) ?_
      · go_simp
      simp only [Act.put, List.setIfInBounds_toArray, List.set_cons_zero, List.set_cons_succ]
      refine wpAnyH_take (i := 11) (oi := ⟨some 57, _, _, _, _, none⟩) (v := (.pointer (some ⟨b, o + k * 2, none⟩))) rfl (by kernel_rfl) (by kernel_rfl) (by kernel_rfl) (fun _ _ _ h => h) (Or.inl ⟨by rfl, fun W hW => ?_⟩) (by assumption) ?_
      · have := HK1.out; go_simp
      simp only [Act.put, List.setIfInBounds_toArray, List.set_cons_zero, List.set_cons_succ]
      refine wpAnyH_take (i := 12) (oi := ⟨some 58, _, _, _, _, none⟩) (v := (.pointer (some ⟨b, o + k * 2 + 1, none⟩))) rfl (by kernel_rfl) (by kernel_rfl) (by kernel_rfl) (fun _ _ _ h => h) (Or.inl ⟨by rfl, fun W hW => ?_⟩) (by assumption) ?_
      · go_simp
      simp only [Act.put, List.setIfInBounds_toArray, List.set_cons_zero, List.set_cons_succ]
      refine wpAnyH_take (i := 13) (oi := ⟨some 59, _, _, _, _, none⟩) (v := (.int .i64 (y : Nat))) rfl (by kernel_rfl) (by kernel_rfl) (by kernel_rfl) (fun _ _ _ h => h) (Or.inl ⟨by rfl, fun W hW => ?_⟩) (by assumption) ?_
      · have := HD1.out W hW; go_simp
      simp only [Act.put, List.setIfInBounds_toArray, List.set_cons_zero, List.set_cons_succ]
      refine wpAnyH_take (i := 14) (oi := ⟨some 60, _, _, _, _, none⟩) (v := (.int .i64 ((y : Int) / 256))) rfl (by kernel_rfl) (by kernel_rfl) (by kernel_rfl) (fun _ _ _ h => h) (Or.inl ⟨by rfl, fun W hW => ?_⟩) (by assumption) ?_
      · go_simp
      simp only [Act.put, List.setIfInBounds_toArray, List.set_cons_zero, List.set_cons_succ]
      refine wpAnyH_take (i := 15) (oi := ⟨some 61, _, _, _, _, none⟩) (v := (.int .u8 ((y : Int) / 256 % 256))) rfl (by kernel_rfl) (by kernel_rfl) (by kernel_rfl) (fun _ _ _ h => h) (Or.inl ⟨by rfl, fun W hW => ?_⟩) (by assumption) ?_
      · go_simp; first | rfl | (unfold IntKind.wrap; rfl) | (simp [IntKind.wrap]; done)
      simp only [Act.put, List.setIfInBounds_toArray, List.set_cons_zero, List.set_cons_succ]
      refine wpAnyH_take (i := 16) (oi := ⟨some 62, _, _, _, _, none⟩) (v := (.pointer (some ⟨w.heap.size, 3, none⟩))) rfl (by kernel_rfl) (by kernel_rfl) (by kernel_rfl) (fun _ _ _ h => h) (Or.inl ⟨by rfl, fun W hW => ?_⟩) (by assumption) ?_
      · go_simp
      simp only [Act.put, List.setIfInBounds_toArray, List.set_cons_zero, List.set_cons_succ]
      refine wpAnyH_take (i := 17) (oi := ⟨some 63, _, _, _, _, none⟩) (v := (.slice (some ⟨b, o, none⟩) h.m c)) rfl (by kernel_rfl) (by kernel_rfl) (by kernel_rfl) (fun _ _ _ h => h) (Or.inl ⟨by rfl, fun W hW => ?_⟩) (by assumption) ?_
      · have := HC3.out W hW; go_simp
      simp only [Act.put, List.setIfInBounds_toArray, List.set_cons_zero, List.set_cons_succ]
      refine wpAnyH_take (i := 18) (oi := ⟨some 64, _, _, _, _, none⟩) (v := (.int .i64 (k : Nat))) rfl (by kernel_rfl) (by kernel_rfl) (by kernel_rfl) (fun _ _ _ h => h) (Or.inl ⟨by rfl, fun W hW => ?_⟩) (by assumption) ?_
      · go_simp
      simp only [Act.put, List.setIfInBounds_toArray, List.set_cons_zero, List.set_cons_succ]
      refine wpAnyH_take (i := 19) (oi := ⟨some 65, _, _, _, _, none⟩) (v := (.pointer (some ⟨b, o + k * 2, none⟩))) rfl (by kernel_rfl) (by kernel_rfl) (by kernel_rfl) (fun _ _ _ h => h) (Or.inl ⟨by rfl, fun W hW => ?_⟩) (by assumption) ?_
      · have := HK1.out; go_simp
      simp only [Act.put, List.setIfInBounds_toArray, List.set_cons_zero, List.set_cons_succ]
      refine wpAnyH_take (i := 20) (oi := ⟨some 66, _, _, _, _, none⟩) (v := (.pointer (some ⟨b, o + k * 2 + 1, none⟩))) rfl (by kernel_rfl) (by kernel_rfl) (by kernel_rfl) (fun _ _ _ h => h) (Or.inl ⟨by rfl, fun W hW => ?_⟩) (by assumption) ?_
      · go_simp
      simp only [Act.put, List.setIfInBounds_toArray, List.set_cons_zero, List.set_cons_succ]
      refine wpAnyH_take (i := 21) (oi := ⟨some 67, _, _, _, _, none⟩) (v := (.int .i64 (y : Nat))) rfl (by kernel_rfl) (by kernel_rfl) (by kernel_rfl) (fun _ _ _ h => h) (Or.inl ⟨by rfl, fun W hW => ?_⟩) (by assumption) ?_
      · have := HD1.out W hW; go_simp
      simp only [Act.put, List.setIfInBounds_toArray, List.set_cons_zero, List.set_cons_succ]
      refine wpAnyH_take (i := 22) (oi := ⟨some 68, _, _, _, _, none⟩) (v := (.int .u8 ((y : Int) % 256))) rfl (by kernel_rfl) (by kernel_rfl) (by kernel_rfl) (fun _ _ _ h => h) (Or.inl ⟨by rfl, fun W hW => ?_⟩) (by assumption) ?_
      · go_simp; first | rfl | (unfold IntKind.wrap; rfl) | (simp [IntKind.wrap]; done)
      simp only [Act.put, List.setIfInBounds_toArray, List.set_cons_zero, List.set_cons_succ]
      refine wpAnyH_ready (rs := [23]) (by kernel_rfl) (by simp) (AllReadyH.cons rfl (fun KK hKK => ?_) AllReadyH.nil)
      go_simp
      obtain ⟨w6, hw6⟩ : ∃ w6, w6 = w5.alloc (.cells #[Value.int .u8 ((x : Int) % 256), .int .u8 ((y : Int) / 256 % 256), .int .u8 ((y : Int) % 256)] 5) := ⟨_, rfl⟩
      rw [← hw6]
      have hb6 : Below z1 wx w6 := by rw [hw6]; exact hHeld.alloc (Nat.le_trans HZX.out hHeld.size) _
      have hnew : ∀ j u, [Value.int .u8 ((x : Int) % 256), .int .u8 ((y : Int) / 256 % 256), .int .u8 ((y : Int) % 256)][j]? = some u → w6.cell? ((⟨w5.heap.size, 0, none⟩ : Addr).add j) = some u := by rw [hw6]; exact cell_news w5 _ 5
      have ho6 : w6.ownsRow z1 5 1 (.slice ta n tc) n (bl (pl h) n) := by rw [hw6]; exact own_be ho5 ((Below.refl w5.heap.size w5).alloc (Nat.le_refl _) _)
      have hz6 : z1 ≤ w6.heap.size := Nat.le_trans HZX.out hb6.size
      clear hw6
      refine hKK.out _ _ (hb6) (fun hHeld => ?_)
      clear hKK KK
      try simp only [Act.put, List.setIfInBounds_toArray, List.set_cons_zero, List.set_cons_succ]
      refine wpAnyH_ready (rs := [24]) (by kernel_rfl) (by simp) (AllReadyH.cons rfl (fun KK hKK => ?_) AllReadyH.nil)
      refine step_apd rfl (.tmp 46) (.tmp 69) 27 rfl z1 5 i0 (.int .u8 0) 1 1 Try.underlying27 HI.out HZ0.out HZ1'.out HZ2.out rfl (by decide) (.slice ta n tc) n _ rfl ho6 ⟨w5.heap.size, 0, none⟩ 3 3 [Value.int .u8 ((x : Int) % 256), .int .u8 ((y : Int) / 256 % 256), .int .u8 ((y : Int) % 256)] rfl rfl hnew (bytes_ones [_, _, _]) (by have := HN9.out; unfold maxLen; omega) (by have := HN9.out; omega) hz6 ?_
      intro v7 w7 hown7 hgrow7
      obtain ⟨g6, c6, rfl⟩ := own_sl hown7
      have HOWN6 := Lib.hid hown7
      have hb7 : Below z1 wx w7 := hb6.grown hgrow7 hz6 (fun r e => (ho6.lt r e).1)
      have HB7 := Lib.hid hb7
      refine hKK.out _ _ (hb7) (fun hHeld => ?_)
      clear hKK KK
      try simp only [Act.put, List.setIfInBounds_toArray]
      refine wpAnyH_ready (rs := [25]) (by kernel_rfl) (by simp) (AllReadyH.cons rfl (fun KK hKK => ?_) AllReadyH.nil)
      go_simp
      refine hKK.out _ _ (hb7) (fun hHeld => ?_)
      clear hKK KK
      try simp only [Act.put, List.setIfInBounds_toArray, List.set_cons_zero, List.set_cons_succ]
      refine wpAnyH_done (by kernel_rfl) ?_ _
      clear hHeld hb6 hb7 hnew ho5 ho6 hz6 hown7 hgrow7
      have HB6 := Lib.hid (show Below z1 w1 w7 from HB1X.out.trans HB7.out)
      have hlt := HLT.out
      have hm5 := HM.out
      have HO7 := Lib.hid (show w7.ownsRow z1 5 1 (.slice g6 (9 + 3 * (k + 1)) c6) (9 + 3 * (k + 1)) (bl (pl h) (9 + 3 * (k + 1))) by rw [← HNX.out, ← bl_app (g := fun j => pl h (n + j)) (fun j _ => rfl), ← H3.out]; exact HOWN6.out)
      go_wp2
      go_roundw
      case rel => exact ⟨k + 1, g6, c6, _, rfl, by omega, by go_num, by rw [← HNX.out], HO7.out, HB6.out, HB1.out.trans (HB6.out.mono HZ1.out.2)⟩
      case measure => simp [intOf]; omega
    · obtain hkm : k = h.m := by omega
      have i1 : ¬ (k : Int) < (h.m : Int) := by omega
      have ho9 : wx.ownsRow z1 5 1 (.slice ta (9 + 3 * h.m) tc) (9 + 3 * h.m) (bl (pl h) (9 + 3 * h.m)) := by rw [← hkm]; exact HO.out
      obtain ⟨a9, c9, e9, hN9⟩ := owns_new ho9 (pl_by h) (pl_up h)
      cases e9
      have HN9 := Lib.hid hN9
      obtain ⟨n, hn⟩ : ∃ n, n = 9 + 3 * h.m := ⟨_, rfl⟩
      rw [hkm] at i1 ⊢
      rw [← hn] at HN9 ⊢
      have HNN := Lib.hid hn
      clear ho9 hN9 hn hkm hk
      go_wp2_with fail
      clear c0 c1 c2 c3
      refine (rseal_any ta n tc (pl h) (by have := HNN.out; have := HM.out; omega) wx HN9.out.sl).mono ?_
      rintro e w9 ⟨ad9, cs, rfl, hNs, hBs⟩
      have HNS := Lib.hid (hNs.mono hsz); have HBS := Lib.hid (HBX.out.trans (hBs.mono hsz))
      clear hNs hBs
      go_wp2
      go_ret2
      rw [HNN.out] at HNS ⊢
      exact ⟨Or.inl ⟨HR.out, ad9, cs, rfl, HNS.out⟩, HBS.out⟩
end Go.Proofs.Ytjlmajopfeplpaa.Nt
