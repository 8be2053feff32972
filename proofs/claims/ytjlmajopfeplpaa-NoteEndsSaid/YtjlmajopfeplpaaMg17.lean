import Derived.Laws.AppendOwnNone
import Derived.Test.YtjlmajopfeplpaaMg15
import Derived.Test.YtjlmajopfeplpaaMg16
namespace Go.Proofs.Ytjlmajopfeplpaa
open Go.RowKit Go.Shelf

/-- the document's writer. -/
def Xs (w : World) (t : TypeId) (q : Nat) (a : Option Addr) (l c : Nat) (e : Int) : Prop := w.heap[q]? = some (.cells #[.slice a l c, .int .i64 e] t (0, 0))
section
variable {w w' : World} {t : TypeId} {q l c : Nat} {a : Option Addr} {e : Int}
theorem Xs.lt (h : Xs w t q a l c e) : q < w.heap.size := (Array.getElem?_eq_some_iff.1 h).1
theorem Xs.c0 (h : Xs w t q a l c e) : w.cell? ⟨q, 0, none⟩ = some (.slice a l c) := by rw [cell_of_row w q 0 _ _ _ h]; rfl
theorem Xs.c1 (h : Xs w t q a l c e) : w.cell? ⟨q, 1, none⟩ = some (.int .i64 e) := by rw [cell_of_row w q 1 _ _ _ h]; rfl
theorem Xs.free (h : Xs w t q a l c e) (i : Nat) : w.frozen? ⟨q, i, none⟩ = false := frozen_of_row w q i _ _ h
theorem Xs.kept (h : Xs w t q a l c e) (hk : w'.heap[q]? = w.heap[q]?) : Xs w' t q a l c e := hk.trans h
theorem Xs.same (h : Xs w t q a l c e) (hB : Below w.heap.size w w') : Xs w' t q a l c e := h.kept (hB.block q h.lt)
theorem Xs.set0 (h : Xs w t q a l c e) (p : Option Addr) (k d : Nat) : Xs (w.setCell ⟨q, 0, none⟩ (.slice p k d)) t q p k d e := heap_setCell_same w q 0 _ _ (.slice p k d) h
theorem Xs.set1 (h : Xs w t q a l c e) (e' : Int) : Xs (w.setCell ⟨q, 1, none⟩ (.int .i64 e')) t q a l c e' := heap_setCell_same w q 1 _ _ (.int .i64 e') h
theorem Xs.ne {g n cap : Nat} {f : Nat → Nat} (h : Xs w t q a l c e) (ht : t ≠ 5) (hb : Bl w g n cap f) : g ≠ q := fun k => by
  obtain ⟨vs, h1, _, _⟩ := hb
  unfold Xs at h
  rw [k, h] at h1
  simp at h1
  exact ht h1.2
end
section
variable {w w' : World} {B q c : Nat} {a : Option Addr} {S : Bs}
end
end Go.Proofs.Ytjlmajopfeplpaa

namespace Go.Proofs.Ytjlmajopfeplpaa
open Go.RowKit Go.Shelf

/-- how many numbers of a size there are. -/
def bnd (z : Int) : Int := if 1 ≤ z ∧ z ≤ 4 then ((256 ^ z.toNat : Nat) : Int) else 0
theorem fit_bnd (n z : Int) : Fit n z ↔ ¬ (n < 0 ∨ n ≥ bnd z) := by
  unfold Fit bnd
  by_cases h : 1 ≤ z ∧ z ≤ 4
  · rw [if_pos h]
    rw [show ((256 ^ z.toNat : Nat) : Int) = (256 : Int) ^ z.toNat from Int.natCast_pow 256 _]
    constructor
    · rintro ⟨_, _, h3, h4⟩; omega
    · intro k; exact ⟨h.1, h.2, by omega, by omega⟩
  · rw [if_neg h]
    constructor
    · rintro ⟨h1, h2, _, _⟩; exact absurd ⟨h1, h2⟩ h
    · intro k; omega
theorem bnd_le (z : Int) : 0 ≤ bnd z ∧ bnd z ≤ 4294967296 := by
  unfold bnd; split
  · rename_i h
    have := pow256 (size := z.toNat) (by omega)
    exact ⟨Int.natCast_nonneg _, by omega⟩
  · omega
theorem div_down (n k : Nat) : n / 256 ^ k / 256 = n / 256 ^ (k + 1) := by rw [Nat.pow_succ, Nat.div_div_eq_div_mul]
end Go.Proofs.Ytjlmajopfeplpaa

namespace Go.Proofs.Ytjlmajopfeplpaa
open Go.RowKit Go.Shelf

theorem Rq.nw8 {W : World} {B n cap : Nat} {a : Option Addr} {h : Nat → Nat} (r : Rq W B a n cap h) (hb : Pf.By h) (hu : Pf.Up h n) : Nw W B a n cap h := by
  refine ⟨r.sl' hb hu, ?_⟩
  rcases r with ⟨rfl, rfl, rfl⟩ | ⟨g, rfl, hg, hbl, _, _⟩
  · exact Or.inl ⟨rfl, rfl⟩
  · exact hbl.ow hg
theorem cpy_none (m : Nat) (f : Nat → Nat) (F : Nat → Nat) (i : Nat) (hi : i < 0 + m) : cpy 0 m f F i = f i := by
  unfold cpy; rw [if_pos (by omega), Nat.sub_zero]
/-- calls, as they read. -/
structure Dos (w : World) (a : Option Addr) (m : Nat) (wh nn zz : Nat → Int) (ia : Nat → Option Addr) (il ic : Nat → Nat) (fb : Nat → Nat → Nat) : Prop where
  cell : ∀ i, i < m → ∃ b o, a = some ⟨b, o, none⟩ ∧ w.cell? ⟨b, o + i * 4, none⟩ = some (.int .i64 (wh i)) ∧ w.cell? ⟨b, o + i * 4 + 1, none⟩ = some (.int .i64 (nn i)) ∧ w.cell? ⟨b, o + i * 4 + 2, none⟩ = some (.int .i64 (zz i)) ∧ w.cell? ⟨b, o + i * 4 + 3, none⟩ = some (.slice (ia i) (il i) (ic i))
  ind : ∀ i, i < m → Sl w (ia i) (il i) (ic i) (fb i)
  ok : ∀ i, i < m → il i ≤ 140737488355328
section
variable {w w' : World} {a : Option Addr} {m : Nat} {wh nn zz : Nat → Int} {ia : Nat → Option Addr} {il ic : Nat → Nat} {fb : Nat → Nat → Nat}
theorem Dos.same (s : Dos w a m wh nn zz ia il ic fb) (hB : Below w.heap.size w w') : Dos w' a m wh nn zz ia il ic fb :=
  ⟨fun i hi => by
    obtain ⟨b, o, e, h1, h2, h3, h4⟩ := s.cell i hi
    exact ⟨b, o, e, by rw [hB.cell (World.block_lt_of_cell? _ _ h1)]; exact h1, by rw [hB.cell (World.block_lt_of_cell? _ _ h2)]; exact h2, by rw [hB.cell (World.block_lt_of_cell? _ _ h3)]; exact h3, by rw [hB.cell (World.block_lt_of_cell? _ _ h4)]; exact h4⟩, fun i hi => (s.ind i hi).same hB, s.ok⟩
end
def SizeSays8 (m : Nat) (il : Nat → Nat) (w : World) (e : Ending) (w' : World) : Prop := ∃ M : Nat, e = .returned (.int .i64 (M : Nat)) ∧ (M ≤ 2000 → m ≤ 2000 ∧ ∀ i, i < m → il i ≤ 2000) ∧ Below w.heap.size w w'
end Go.Proofs.Ytjlmajopfeplpaa

namespace Go.Proofs.Ytjlmajopfeplpaa
open Go.RowKit Go.Shelf

def Bs.cut (S : Bs) (n : Nat) : Bs := ⟨S.l - n, sub S.f n (S.l - n), S.e⟩
def Bs.take (S : Bs) (n : Int) : Bs := if S.e ≠ 0 then S else if n < 0 then S.broke 2 else if n > (S.l : Int) then S.broke 4 else S.cut n.toNat
def Bs.tm (S : Bs) (n : Int) : Nat := if S.e = 0 ∧ 0 ≤ n ∧ n ≤ (S.l : Int) then n.toNat else 0
def Bs.tf (S : Bs) (n : Int) (i : Nat) : Nat := if S.e = 0 ∧ 0 ≤ n ∧ n ≤ (S.l : Int) then sub S.f 0 n.toNat i else 0
def Bs.rnum (S : Bs) (z : Int) : Bs := if S.e ≠ 0 then S else if 1 ≤ z ∧ z ≤ 4 then S.take z else S.broke 2
def Bs.rval (S : Bs) (z : Int) : Nat := if S.e = 0 ∧ (1 ≤ z ∧ z ≤ 4) ∧ z ≤ (S.l : Int) then vn S.f z.toNat else 0
def Bs.fin (S : Bs) : Int := if S.e ≠ 0 then S.e else if 0 < S.l then 4 else 0
theorem Bs.Ok.cut {S : Bs} (h : S.Ok) (n : Nat) : (S.cut n).Ok := ⟨sub_by h.by_ _ _, sub_up _ _ _⟩
theorem Bs.Ok.take {S : Bs} (h : S.Ok) (n : Int) : (S.take n).Ok := by
  unfold Bs.take; (repeat' split)
  · exact h
  · exact h.broke 2
  · exact h.broke 4
  · exact h.cut _
theorem Bs.Ok.rnum {S : Bs} (h : S.Ok) (z : Int) : (S.rnum z).Ok := by
  unfold Bs.rnum; (repeat' split)
  · exact h
  · exact h.take z
  · exact h.broke 2
theorem Bs.take_len (S : Bs) (n : Int) : (S.take n).l ≤ S.l := by
  unfold Bs.take; (repeat' split)
  · exact Nat.le_refl _
  · exact Nat.le_refl _
  · exact Nat.le_refl _
  · exact Nat.sub_le _ _
theorem Bs.rnum_len (S : Bs) (z : Int) : (S.rnum z).l ≤ S.l := by
  unfold Bs.rnum; (repeat' split)
  · exact Nat.le_refl _
  · exact Bs.take_len S z
  · exact Nat.le_refl _
theorem Bs.tm_le (S : Bs) (n : Int) : S.tm n ≤ S.l := by unfold Bs.tm; split <;> omega
theorem Bs.Ok.tfb {S : Bs} (h : S.Ok) (n : Int) : Pf.By (S.tf n) := fun i => by
  unfold Bs.tf; split
  · exact sub_by h.by_ _ _ i
  · omega
theorem Bs.tfu (S : Bs) (n : Int) : Pf.Up (S.tf n) (S.tm n) := fun i hi => by
  unfold Bs.tf; split
  · rename_i hc; unfold Bs.tm at hi; rw [if_pos hc] at hi; exact sub_up _ _ _ i hi
  · rfl

/-- the program's reader. -/
structure Rr (w : World) (B p s : Nat) (a : Option Addr) (c : Nat) (S : Bs) : Prop where
  box : Box w 84 p s
  stk : ∃ l, Stk w s a l c S.e ∧ (S.e = 0 → l = S.l ∧ Sl w a l c S.f)
  hp : B ≤ p
  hs : B ≤ s
  ha : ∀ ad, a = some ad → B ≤ ad.block ∧ ad.block < w.heap.size ∧ ad.block ≠ s
section
variable {w w' : World} {B p s c : Nat} {a : Option Addr} {S : Bs}
theorem Rr.lts (h : Rr w B p s a c S) : s < w.heap.size := by obtain ⟨l, h1, _⟩ := h.stk; exact h1.lt
theorem Sl.kept8 {l : Nat} {f : Nat → Nat} (h : Sl w a l c f) (hk : ∀ ad, a = some ad → w'.heap[ad.block]? = w.heap[ad.block]?) : Sl w' a l c f :=
  ⟨h.capOk, h.maxOk, h.bytes, h.up, h.nil, h.spot, fun ad e i hi => by
    have := h.cell ad e i hi
    have hk := hk ad e
    unfold World.cell? at this ⊢
    simp only at this ⊢
    rw [hk]; exact this⟩
theorem Rr.kept (h : Rr w B p s a c S) (hsz : w.heap.size ≤ w'.heap.size) (h1 : w'.heap[p]? = w.heap[p]?) (h2 : w'.heap[s]? = w.heap[s]?) (h3 : ∀ ad, a = some ad → w'.heap[ad.block]? = w.heap[ad.block]?) : Rr w' B p s a c S := by
  obtain ⟨l, k1, k2⟩ := h.stk
  exact ⟨h.box.kept h1, ⟨l, k1.kept h2, fun e => ⟨(k2 e).1, (k2 e).2.kept8 h3⟩⟩, h.hp, h.hs, fun ad e => ⟨(h.ha ad e).1, Nat.lt_of_lt_of_le (h.ha ad e).2.1 hsz, (h.ha ad e).2.2⟩⟩
theorem Rr.same (h : Rr w B p s a c S) (hB : Below w.heap.size w w') : Rr w' B p s a c S :=
  h.kept hB.size (hB.block p h.box.lt) (hB.block s h.lts) fun ad e => hB.block _ (h.ha ad e).2.1
end

theorem addr_add_block (ad : Addr) (n : Nat) : (ad.add n).block = ad.block := by
  unfold Addr.add; split <;> rfl
set_option maxHeartbeats 1000000 in
theorem spass_any (s : Nat) (a : Option Addr) (l c n : Nat) (f : Nat → Nat) (e : Int) (hn : n ≤ l) (w : World) (hs : Stk w s a l c e) (hS : Sl w a l c f) (hne : ∀ ad, a = some ad → ad.block ≠ s) :
    Calls Try.prog 79 #[.pointer (some ⟨s, 0, none⟩), .int .i64 (n : Nat)] w fun x w' => x = .returned (.tuple #[]) ∧ (∃ a' c', Stk w' s a' (l - n) c' e ∧ Sl w' a' (l - n) c' (sub f n (l - n)) ∧ ∀ ad, a' = some ad → ∃ ad', a = some ad' ∧ ad.block = ad'.block) ∧ But2 s s w w' := by
  have HST := Lib.hid hs; have HSS := Lib.hid hS; have HNE := Lib.hid hne
  have c0 := hs.c0
  have hf := hs.free 0
  have hcm := hS.capOk
  have hmx : c ≤ 9223372036854775807 := by have := hS.maxOk; unfold maxLen at this; omega
  clear hs hS hne
  go_enter Try.func79, Try.ntmps79
  go_wp2
  · obtain rfl : l = n := by omega
    go_end0
    refine ⟨rfl, ⟨a, 0, HST.out.set0 a (l - l) 0, ?_, fun ad e => ⟨ad, e, rfl⟩⟩, But2.set _⟩
    rw [Nat.sub_self, show sub f l 0 = fun _ => 0 from funext fun i => if_neg (Nat.not_lt_zero i)]
    exact Sl.none_ _ a 0 (Nat.zero_le _) (fun _ => rfl)
  · go_end0
    refine ⟨rfl, ⟨_, c - n, HST.out.set0 _ (l - n) (c - n), ?_, fun ad e => ?_⟩, But2.set _⟩
    · refine Sl.kept8 (w := w) ?_ (fun ad e => heap_setCell_other _ _ _ _ (fun k => ?_))
      · by_cases h0 : l - n = 0
        · rw [h0, show sub f n 0 = fun _ => 0 from funext fun i => if_neg (Nat.not_lt_zero i)]
          refine Sl.none_ _ _ _ (by have := HSS.out.maxOk; omega) (fun e => ?_)
          cases a with
          | none => have := (HSS.out.nil rfl).2; omega
          | some ad => cases e
        · cases a with
          | none => have := (HSS.out.nil rfl).1; omega
          | some ad =>
            have hsp := HSS.out.spot ad rfl (by omega)
            obtain ⟨b, o, sp⟩ := ad
            simp only at hsp
            subst hsp
            have := HSS.out.sub (lo := n) (m := l - n) (by omega)
            show Sl w (some ((⟨b, o, none⟩ : Addr).add n)) (l - n) (c - n) _
            rw [Addr.add_lit]; exact this
      · cases a with
        | none => cases e
        | some ad' =>
          simp only [Option.map, Option.some.injEq] at e
          refine HNE.out ad' rfl ?_
          have := addr_add_block ad' n
          rw [e] at this; rw [← this]; exact k
    · cases a with
      | none => cases e
      | some ad' =>
        simp only [Option.map, Option.some.injEq] at e
        exact ⟨ad', rfl, by rw [← e]; exact addr_add_block ad' n⟩

theorem rstate_any (p s : Nat) (a : Option Addr) (l c : Nat) (e : Int) (w : World) (h : Stk w s a l c e) (hb : Box w 84 p s) :
    Calls Try.prog 57 #[.pointer (some ⟨p, 0, none⟩)] w fun x w' => x = .returned (.int .i64 e) ∧ w' = w := by
  have H := Lib.hid h
  have c0 := hb.c0
  clear h hb
  go_enter Try.func57, Try.ntmps57
  go_wp2_with fail
  refine (sstate_any s a l c e _ H.out).mono ?_
  rintro x w' ⟨rfl, rfl⟩
  go_wp2
  go_ret
  exact ⟨rfl, rfl⟩
set_option maxHeartbeats 1000000 in
theorem rover_any (a : Option Addr) (n c : Nat) (f : Nat → Nat) (hn : n ≤ 900000000) (w : World) (hS : Sl w a n c f) :
    Calls Try.prog 51 #[.slice a n c] w fun x w' => ∃ p s a' c', x = .returned (.pointer (some ⟨p, 0, none⟩)) ∧ Rr w' w.heap.size p s a' c' ⟨n, f, 0⟩ ∧ Below w.heap.size w w' := by
  have HS := Lib.hid hS; clear hS
  obtain ⟨w1, hw1⟩ : ∃ w1, w1 = w.alloc (.cells #[.slice none 0 0, .int .i64 0] 88) := ⟨_, rfl⟩
  obtain ⟨w2, hw2⟩ : ∃ w2, w2 = w1.alloc (.cells #[.pointer (some ⟨w.heap.size, 0, none⟩)] 84) := ⟨_, rfl⟩
  have hs1 : w1.heap.size = w.heap.size + 1 := by rw [hw1, World.size_alloc]
  have h1 : Stk w1 w.heap.size none 0 0 0 := by rw [hw1]; exact heap_alloc_new _ _
  have hB1 : Below w.heap.size w w1 := by rw [hw1]; exact (Below.refl w.heap.size w).alloc (Nat.le_refl _) _
  have hB2 : Below w1.heap.size w1 w2 := by rw [hw2]; exact (Below.refl _ _).alloc (Nat.le_refl _) _
  have h2 : Box w2 84 (w.heap.size + 1) w.heap.size := by rw [← hs1, hw2]; exact heap_alloc_new _ _
  have HST := Lib.hid (h1.same hB2); have HBX := Lib.hid h2
  have HB12 := Lib.hid (hB1.trans (hB2.mono hB1.size))
  have HS2 := Lib.hid (HS.out.same HB12.out)
  have c0 := h2.c0
  have hsz := HB12.out.size
  clear h1 h2 hB1 hB2
  go_enter Try.func51, Try.ntmps51
  rw [hw2, hw1] at c0
  go_wp2_with fail
  rw [← hw1, ← hw2]
  refine (sadd_any w.heap.size w.heap.size none 0 0 (fun _ => 0) 0 a n c f (by omega) _ hsz HST.out (Or.inl ⟨rfl, rfl, rfl⟩) HS2.out).mono ?_
  rintro x w3 ⟨a3, c3, rfl, hs3, hR3, ⟨b, hb, hbut⟩, hold⟩
  have hbs : b = w.heap.size := by
    rcases hb with rfl | hb
    · rfl
    · cases hb
  subst hbs
  rw [Nat.zero_add] at hs3 hR3
  have hR4 := hR3.congr (h' := f) (fun i hi => cpy_none _ _ _ i (by omega))
  have hSl := hR4.sl' HS.out.bytes HS.out.up
  have HBX3 := Lib.hid (HBX.out.kept (hbut.block _ HBX.out.lt (by omega) (by omega)))
  have hc3 := HBX3.out.c0
  have HFIN := Lib.hid (show Rr w3 w.heap.size (w.heap.size + 1) w.heap.size a3 c3 ⟨n, f, 0⟩ from ⟨HBX3.out, ⟨n, hs3, fun _ => ⟨rfl, hSl⟩⟩, Nat.le_succ _, Nat.le_refl _, fun ad e => by
    rcases hR4 with ⟨r, _⟩ | ⟨g, r, hg, hbl, _⟩
    · rw [r] at e; cases e
    · rw [r] at e; cases e; exact ⟨hg, hbl.lt, hs3.ne hbl⟩⟩)
  have HB3 := Lib.hid (HB12.out.trans (hbut.below hsz (Nat.le_refl _) (Nat.le_refl _)))
  clear hs3 hR3 hR4 hSl hbut hold c0 hw1 hw2
  go_wp2
  go_ret
  exact ⟨_, _, _, _, rfl, HFIN.out, HB3.out⟩

/-- the reader after one of its calls. -/
def Red (w : World) (B p s : Nat) (a : Option Addr) (S : Bs) (w' : World) : Prop := (∃ a' c', Rr w' B p s a' c' S ∧ ∀ ad, a' = some ad → ∃ ad', a = some ad' ∧ ad.block = ad'.block) ∧ But2 s s w w'
theorem Rr.failed {w w' : World} {B p s c : Nat} {a : Option Addr} {S : Bs} (h : Rr w B p s a c S) (e : Int) (he : e ≠ 0) (hs2 : Stk w' s none 0 0 e) (hbut : But2 s s w w') : Red w B p s a (S.broke e) w' := by
  obtain ⟨l, hst, _⟩ := h.stk
  exact ⟨⟨none, 0, ⟨h.box.kept (hbut.block p h.box.lt (h.box.nes hst) (h.box.nes hst)), ⟨0, hs2, fun k => absurd k he⟩, h.hp, h.hs, fun ad e => by cases e⟩, fun ad e => by cases e⟩, hbut⟩
/-- the next bytes. -/
def Nexts (w : World) (B p s : Nat) (a : Option Addr) (m : Nat) (f : Nat → Nat) (S : Bs) (x : Ending) (w' : World) : Prop :=
  ∃ a2 c2, x = .returned (.slice a2 m c2) ∧ Nw w' w.heap.size a2 m c2 f ∧ Red w B p s a S w'
set_option maxHeartbeats 2000000 in
theorem next_any (B p s : Nat) (a : Option Addr) (c : Nat) (S : Bs) (n : Nat) (h0 : S.e = 0) (hO : S.Ok) (hl : S.l ≤ 900000000) (w : World) (hR : Rr w B p s a c S) :
    Calls Try.prog 71 #[.pointer (some ⟨p, 0, none⟩), .int .i64 (n : Nat)] w (Nexts w B p s a (S.tm n) (S.tf n) (S.take n)) := by
  have HR := Lib.hid hR
  obtain ⟨l, hst, hl0⟩ := hR.stk
  have c0 := hR.box.c0
  obtain ⟨rfl, hS⟩ := hl0 h0
  have HST := Lib.hid hst; have HS := Lib.hid hS
  clear hR hst hS hl0
  by_cases hn : n ≤ S.l
  · have e1 : S.take n = S.cut n := by unfold Bs.take; rw [if_neg (by simp [h0]), if_neg (by omega), if_neg (by omega), Int.toNat_natCast]
    have e2 : S.tm n = n := by unfold Bs.tm; rw [if_pos ⟨h0, by omega, by omega⟩, Int.toNat_natCast]
    have e3 : S.tf n = sub S.f 0 n := funext fun i => by unfold Bs.tf; rw [if_pos ⟨h0, by omega, by omega⟩, Int.toNat_natCast]
    rw [e1, e2, e3]
    clear e1 e2 e3
    have i1 : ¬ (S.l : Int) < (n : Int) := by omega
    go_enter Try.func71, Try.ntmps71
    go_wp2_with fail
    refine (smany_any s a S.l c _ _ HST.out).mono ?_
    rintro x w' ⟨rfl, rfl⟩
    go_wp2_with fail
    refine (sfirst_any s a S.l c n S.f _ hn (by omega) _ HST.out HS.out).mono ?_
    rintro x w2 ⟨rfl, hb2, hB2⟩
    have HB2 := Lib.hid hB2; have HBL := Lib.hid hb2
    have HR2 := Lib.hid (HR.out.same hB2)
    have HST2 := Lib.hid (HST.out.same hB2); have HS2 := Lib.hid (HS.out.same hB2)
    have c02 := HR2.out.box.c0
    clear hb2 hB2 c0
    go_wp2_with fail
    refine (spass_any s a S.l c n S.f _ hn _ HST2.out HS2.out (fun ad e => (HR2.out.ha ad e).2.2)).mono ?_
    rintro x w3 ⟨rfl, ⟨a3, c3, hs3, hS3, hbl⟩, hbut⟩
    have HFIN := Lib.hid (show Red w' B p s a (S.cut n) w3 from ⟨⟨a3, c3, ⟨HR2.out.box.kept (hbut.block p HR2.out.box.lt (HR2.out.box.nes HST2.out) (HR2.out.box.nes HST2.out)), ⟨_, hs3, fun _ => ⟨rfl, hS3⟩⟩, HR.out.hp, HR.out.hs, fun ad e => by
      obtain ⟨ad', e', hb⟩ := hbl ad e
      have := HR2.out.ha ad' e'
      rw [hb]; exact ⟨this.1, Nat.lt_of_lt_of_le this.2.1 hbut.size, this.2.2⟩⟩, hbl⟩, (But2.of HB2.out).trans hbut⟩)
    have HNW := Lib.hid (show Nw w3 w'.heap.size (some ⟨w'.heap.size, 0, none⟩) n n (sub S.f 0 n) from by
      have hb3 := HBL.out.kept (hbut.block _ HBL.out.lt (HST2.out.ne HBL.out) (HST2.out.ne HBL.out))
      exact ⟨hb3.sl (Nat.le_refl _) (by unfold maxLen; omega) (sub_by hO.by_ _ _) (sub_up _ _ _), hb3.ow (Nat.le_refl _)⟩)
    clear hs3 hS3 hbl hbut
    go_wp2
    go_ret
    exact ⟨_, _, rfl, HNW.out, HFIN.out⟩
  · have e1 : S.take n = S.broke 4 := by unfold Bs.take; rw [if_neg (by simp [h0]), if_neg (by omega), if_pos (by omega)]
    have e2 : S.tm n = 0 := by unfold Bs.tm; rw [if_neg (by omega)]
    have e3 : S.tf n = fun _ => 0 := funext fun i => by unfold Bs.tf; rw [if_neg (by omega)]
    rw [e1, e2, e3]
    clear e1 e2 e3
    have i1 : (S.l : Int) < (n : Int) := by omega
    go_enter Try.func71, Try.ntmps71
    go_wp2_with fail
    refine (smany_any s a S.l c _ _ HST.out).mono ?_
    rintro x w' ⟨rfl, rfl⟩
    go_wp2_with fail
    refine (sfail_any s a S.l c S.e 4 _ HST.out).mono ?_
    rintro x w2 ⟨rfl, hs2, hbut⟩
    go_wp2
    go_ret
    exact ⟨none, 0, rfl, Nw.nil _ _ (fun _ => rfl), HR.out.failed 4 (by decide) hs2 (hbut s)⟩
end Go.Proofs.Ytjlmajopfeplpaa

namespace Go.Proofs.Ytjlmajopfeplpaa
open Go.RowKit Go.Shelf

theorem Red.refl {w : World} {B p s c : Nat} {a : Option Addr} {S : Bs} (h : Rr w B p s a c S) : Red w B p s a S w := ⟨⟨a, c, h, fun ad e => ⟨ad, e, rfl⟩⟩, But2.refl _ _ _⟩
theorem Red.drewN {w w' : World} {B p s : Nat} {a0 : Option Addr} {S : Bs} (h : Red w B p s a0 S w') (q : Nat) : Red w B p s a0 S (w'.drewN q) := by
  obtain ⟨⟨a, c, hr, hk⟩, hb⟩ := h
  exact ⟨⟨a, c, hr.same (below_dr (Below.refl _ _) q), hk⟩, hb.drewN q⟩
set_option maxHeartbeats 2000000 in
theorem rnum_any (B p s : Nat) (a : Option Addr) (c : Nat) (S : Bs) (z : Int) (hO : S.Ok) (hl : S.l ≤ 900000000) (w : World) (hR : Rr w B p s a c S) :
    Calls Try.prog 53 #[.pointer (some ⟨p, 0, none⟩), .int .i64 z] w fun x w' => x = .returned (.int .i64 (S.rval z : Nat)) ∧ Red w B p s a (S.rnum z) w' := by
  have HR := Lib.hid hR
  obtain ⟨l, hst, hl0⟩ := hR.stk
  have c0 := hR.box.c0
  have HST := Lib.hid hst
  by_cases h0 : S.e = 0
  · by_cases hz : 1 ≤ z ∧ z ≤ 4
    · obtain ⟨k, rfl⟩ : ∃ k : Nat, z = k := ⟨z.toNat, by omega⟩
      have e1 : S.rnum k = S.take k := by unfold Bs.rnum; rw [if_neg (by simp [h0]), if_pos hz]
      have e2 : S.rval k = vn (S.tf k) (S.tm k) := by
        unfold Bs.rval Bs.tm
        by_cases hk : k ≤ S.l
        · rw [if_pos ⟨h0, hz, by omega⟩, if_pos ⟨h0, by omega, by omega⟩, Int.toNat_natCast]
          exact vn_congr k fun i hi => by unfold Bs.tf sub; rw [if_pos ⟨h0, by omega, by omega⟩, Int.toNat_natCast, if_pos hi, Nat.zero_add]
        · rw [if_neg (by omega), if_neg (by omega)]; rfl
      rw [e1, e2]
      have htm : S.tm k ≤ 4 := by unfold Bs.tm; split <;> omega
      have hsz := decide_eq_true hz
      have HSZ := Lib.hid hsz
      clear e1 e2 hst hl0 hR hsz
      go_enter Try.func53, Try.ntmps53
      go_wp2_with fail
      refine (rstate_any p s a _ c _ _ HST.out HR.out.box).mono ?_
      rintro x w' ⟨rfl, rfl⟩
      rw [h0]
      go_wp2_with fail
      refine (sized_any k _).mono ?_
      rintro x w' ⟨rfl, rfl⟩
      rw [HSZ.out]
      go_wp2_with fail
      refine (next_any B p s a c S k h0 hO hl _ HR.out).mono ?_
      rintro x w2 ⟨a2, c2, rfl, hN, hRed⟩
      have HRED := Lib.hid hRed; have HNN := Lib.hid hN; clear hN hRed
      go_wp2_with fail
      refine (number_any a2 _ c2 _ htm _ HNN.out.sl).mono ?_
      rintro x w3 ⟨rfl, q, rfl⟩
      go_wp2
      go_ret
      exact ⟨rfl, HRED.out.drewN q⟩
    · have e1 : S.rnum z = S.broke 2 := by unfold Bs.rnum; rw [if_neg (by simp [h0]), if_neg hz]
      have e2 : S.rval z = 0 := by unfold Bs.rval; rw [if_neg (fun h => hz h.2.1)]
      rw [e1, e2]
      have hsz := decide_eq_false hz
      have HSZ := Lib.hid hsz
      clear e1 e2 hst hl0 hR hsz
      go_enter Try.func53, Try.ntmps53
      go_wp2_with fail
      refine (rstate_any p s a _ c _ _ HST.out HR.out.box).mono ?_
      rintro x w' ⟨rfl, rfl⟩
      rw [h0]
      go_wp2_with fail
      refine (sized_any z _).mono ?_
      rintro x w' ⟨rfl, rfl⟩
      rw [HSZ.out]
      go_wp2_with fail
      refine (sfail_any s a l c S.e 2 _ HST.out).mono ?_
      rintro x w2 ⟨rfl, hs2, hbut⟩
      go_wp2
      go_ret
      exact ⟨rfl, HR.out.failed 2 (by decide) hs2 (hbut s)⟩
  · have e1 : S.rnum z = S := by unfold Bs.rnum; rw [if_pos h0]
    have e2 : S.rval z = 0 := by unfold Bs.rval; rw [if_neg (fun h => h0 h.1)]
    rw [e1, e2]
    have h1 : (S.e == 0) = false := by simpa using h0
    have h2 : (S.e != 0) = true := by simpa using h0
    clear e1 e2 hst hl0 hR
    go_enter Try.func53, Try.ntmps53
    go_wp2_with fail
    refine (rstate_any p s a _ c _ _ HST.out HR.out.box).mono ?_
    rintro x w' ⟨rfl, rfl⟩
    go_wp2
    go_ret
    exact ⟨rfl, Red.refl HR.out⟩
theorem rleft_any (B p s : Nat) (a : Option Addr) (c : Nat) (S : Bs) (w : World) (hR : Rr w B p s a c S) :
    Calls Try.prog 52 #[.pointer (some ⟨p, 0, none⟩)] w fun x w' => x = .returned (.int .i64 (S.m : Nat)) ∧ w' = w := by
  have HR := Lib.hid hR
  obtain ⟨l, hst, hl0⟩ := hR.stk
  have c0 := hR.box.c0
  have HST := Lib.hid hst
  by_cases h0 : S.e = 0
  · have hm : S.m = l := by unfold Bs.m; rw [if_pos h0]; exact (hl0 h0).1.symm
    rw [hm]
    clear hm hst hl0 hR
    go_enter Try.func52, Try.ntmps52
    go_wp2_with fail
    refine (rstate_any p s a _ c _ _ HST.out HR.out.box).mono ?_
    rintro x w' ⟨rfl, rfl⟩
    rw [h0]
    go_wp2_with fail
    refine (smany_any s a l c _ _ HST.out).mono ?_
    rintro x w' ⟨rfl, rfl⟩
    go_wp2
    go_ret
    exact ⟨rfl, rfl⟩
  · have hm : S.m = 0 := if_neg h0
    rw [hm]
    have h1 : (S.e == 0) = false := by simpa using h0
    have h2 : (S.e != 0) = true := by simpa using h0
    clear hm hst hl0 hR
    go_enter Try.func52, Try.ntmps52
    go_wp2_with fail
    refine (rstate_any p s a _ c _ _ HST.out HR.out.box).mono ?_
    rintro x w' ⟨rfl, rfl⟩
    go_wp2
    go_ret
    exact ⟨rfl, rfl⟩
theorem rend_any (B p s : Nat) (a : Option Addr) (c : Nat) (S : Bs) (w : World) (hR : Rr w B p s a c S) :
    Calls Try.prog 39 #[.pointer (some ⟨p, 0, none⟩)] w fun x w' => x = .returned (.int .i64 S.fin) ∧ w' = w := by
  have HR := Lib.hid hR
  obtain ⟨l, hst, hl0⟩ := hR.stk
  have c0 := hR.box.c0
  have HST := Lib.hid hst
  by_cases h0 : S.e = 0
  · have hlS := (hl0 h0).1
    by_cases hl : 0 < l
    · have hm : S.fin = 4 := by unfold Bs.fin; rw [if_neg (by simp [h0]), if_pos (by omega)]
      rw [hm]
      clear hm hst hl0 hR hlS
      go_enter Try.func39, Try.ntmps39
      go_wp2_with fail
      refine (rstate_any p s a _ c _ _ HST.out HR.out.box).mono ?_
      rintro x w' ⟨rfl, rfl⟩
      rw [h0]
      go_wp2_with fail
      refine (smany_any s a l c _ _ HST.out).mono ?_
      rintro x w' ⟨rfl, rfl⟩
      go_wp2
      go_ret
      exact ⟨rfl, rfl⟩
    · have hm : S.fin = 0 := by unfold Bs.fin; rw [if_neg (by simp [h0]), if_neg (by omega)]
      rw [hm]
      clear hm hst hl0 hR hlS
      go_enter Try.func39, Try.ntmps39
      go_wp2_with fail
      refine (rstate_any p s a _ c _ _ HST.out HR.out.box).mono ?_
      rintro x w' ⟨rfl, rfl⟩
      rw [h0]
      go_wp2_with fail
      refine (smany_any s a l c _ _ HST.out).mono ?_
      rintro x w' ⟨rfl, rfl⟩
      go_wp2
      go_ret
      exact ⟨rfl, rfl⟩
  · have hm : S.fin = S.e := if_pos h0
    rw [hm]
    have h1 : (S.e == 0) = false := by simpa using h0
    have h2 : (S.e != 0) = true := by simpa using h0
    clear hm hst hl0 hR
    go_enter Try.func39, Try.ntmps39
    go_wp2_with fail
    refine (rstate_any p s a _ c _ _ HST.out HR.out.box).mono ?_
    rintro x w' ⟨rfl, rfl⟩
    go_wp2
    go_ret
    exact ⟨rfl, rfl⟩
end Go.Proofs.Ytjlmajopfeplpaa
