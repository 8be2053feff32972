import Derived.Test.YtmabdfcabpnabaaA2
import Derived.Test.YtmabdfcabpnabaaP9
import Derived.Test.YtmabdfcabpnabaaR4
import Derived.Test.YtmabdfcabpnabaaAp
namespace Go.Proofs.Ytmabdfcabpnabaa
open Go.RowKit Go.Shelf

namespace Pf
open Gf
theorem quot_le2 {f b Q R : Nat → Nat} {t nq l : Nat} (hb : By b) (hQ : By Q) (hbl : Ln b (t + 1)) (hq : Ln Q nq) (hr : Up R t) (hf : Up f l) (h : ∀ i, f i = pm Q b i ^^^ R i) : nq ≤ l := by
  rcases Nat.eq_zero_or_pos nq with e | hp
  · omega
  rcases Nat.lt_or_ge l nq with hlt | hge
  · exfalso
    have hl := pm_Ln hQ hb hq hbl
    have e : pl nq (t + 1) = nq + t := by unfold pl; rw [if_neg (by omega)]; omega
    rw [e] at hl
    rcases hl.2 with h0 | h0
    · omega
    · have h1 := h (nq + t - 1)
      rw [hf _ (by omega), hr _ (by omega), Nat.xor_zero] at h1
      exact h0 h1.symm
  · exact hge
end Pf

theorem Nw.owns {w : World} {B n cap : Nat} {a : Option Addr} {f : Nat → Nat} (h : Nw w B a n cap f) : w.ownsRow B 5 1 (.slice a n cap) n (rowv f n) := by
  rcases h.cond with ⟨rfl, rfl, rfl, _⟩ | ⟨g, rfl, hg, vs, h1, h2, h3⟩
  · exact ⟨by simp [rowv], Or.inl ⟨rfl, rfl⟩⟩
  · refine ⟨by rw [rowv_len]; omega, Or.inr ⟨g, cap, vs, rfl, hg, h1, h.sl.capOk, h.sl.maxOk, by omega, ?_⟩⟩
    have := h.sl.capOk
    apply List.ext_getElem?
    intro i
    rw [List.getElem?_take]
    by_cases hi : i < n
    · rw [if_pos (by omega), rowv_get hi]
      simpa using h3 i hi
    · rw [if_neg (by omega), List.getElem?_eq_none (by rw [rowv_len]; omega)]
theorem Nw.blkB {w : World} {B n cap g : Nat} {a : Option Addr} {f : Nat → Nat} (h : Nw w B a n cap f) (e : blk a = some g) : B ≤ g ∧ g < w.heap.size := by
  have := h.owns.lt g (by rw [own_blk]; exact e)
  exact this
theorem Nw.len {w : World} {B n cap : Nat} {a : Option Addr} {f : Nat → Nat} (h : Nw w B a n cap f) : n ≤ cap := h.sl.capOk

theorem mul_agree {w w' : World} {l l' : Nat} {f g : Nat → Nat} {e : Ending} (hfu : Pf.Up f l) (hgu : Pf.Up g l') (h : MulSays w l l' f g e w') :
    ∃ a n c M E, e = .returned (.tuple #[.slice a n c, .int .i64 E]) ∧ Nw w' w.heap.size a n c M ∧ n ≤ l + l' ∧ Below w.heap.size w w' ∧
      ∀ wx e2 w2, RMulSays wx l l' f g e2 w2 → ∃ a2 c2, e2 = .returned (.tuple #[.slice a2 n c2, .int .i64 E]) ∧ Sl w2 a2 n c2 M ∧ Below wx.heap.size wx w2 := by
  rcases h with ⟨hl, rfl, hB⟩ | ⟨hl, a, n, c, rfl, hN, hL, hB⟩
  · refine ⟨none, 0, 0, fun _ => 0, 3, rfl, Nw.nil _ _ fun _ => rfl, by omega, hB, ?_⟩
    rintro wx e2 w2 (⟨_, rfl, hB2⟩ | ⟨hl2, _⟩)
    · exact ⟨none, 0, rfl, (Nw.nil w2 0 fun _ => rfl).sl, hB2⟩
    · omega
  · refine ⟨a, n, c, _, 0, rfl, hN, hL.le (Pf.pm_up hfu hgu), hB, ?_⟩
    rintro wx e2 w2 (⟨hl2, _⟩ | ⟨_, a2, n2, c2, rfl, hN2, hL2, hB2⟩)
    · omega
    · obtain rfl := hL.uniq hL2
      exact ⟨a2, c2, rfl, hN2.sl, hB2⟩
theorem div_agree {w w' : World} {l l' : Nat} {f g : Nat → Nat} {e : Ending} (hg : Pf.By g) (hfu : Pf.Up f l) (hgu : Pf.Up g l') (h : DivSays w l l' f g e w') :
    ∃ a n c Q b m d R E, e = .returned (.tuple #[.slice a n c, .slice b m d, .int .i64 E]) ∧ Nw w' w.heap.size a n c Q ∧ Nw w' w.heap.size b m d R ∧ n ≤ l ∧ m ≤ l' ∧ (∀ x, blk a = some x → blk b ≠ some x) ∧ Below w.heap.size w w' ∧
      ∀ wx e2 w2, RDivSays wx l l' f g e2 w2 → ∃ a2 c2 b2 d2, e2 = .returned (.tuple #[.slice a2 n c2, .slice b2 m d2, .int .i64 E]) ∧ Sl w2 a2 n c2 Q ∧ Sl w2 b2 m d2 R ∧ Below wx.heap.size wx w2 := by
  have k2 := Pf.ln_le g l'
  rcases h with ⟨hl, rfl, hB⟩ | ⟨hl, h0, rfl, hB⟩ | ⟨hl, h0, a, n, c, Q, b, m, d, R, rfl, hQ, hLQ, hR, hLR, hlt, hid, hdis, hB⟩
  · refine ⟨none, 0, 0, fun _ => 0, none, 0, 0, fun _ => 0, 3, rfl, Nw.nil _ _ fun _ => rfl, Nw.nil _ _ fun _ => rfl, by omega, by omega, fun x hx => (by cases hx), hB, ?_⟩
    rintro wx e2 w2 (⟨_, rfl, hB2⟩ | ⟨hl2, _⟩ | ⟨hl2, _⟩)
    · exact ⟨none, 0, none, 0, rfl, (Nw.nil w2 0 fun _ => rfl).sl, (Nw.nil w2 0 fun _ => rfl).sl, hB2⟩
    · omega
    · omega
  · refine ⟨none, 0, 0, fun _ => 0, none, 0, 0, fun _ => 0, 6, rfl, Nw.nil _ _ fun _ => rfl, Nw.nil _ _ fun _ => rfl, by omega, by omega, fun x hx => (by cases hx), hB, ?_⟩
    rintro wx e2 w2 (⟨hl2, _⟩ | ⟨_, _, rfl, hB2⟩ | ⟨_, h1, _⟩)
    · omega
    · exact ⟨none, 0, none, 0, rfl, (Nw.nil w2 0 fun _ => rfl).sl, (Nw.nil w2 0 fun _ => rfl).sl, hB2⟩
    · exact absurd h0 h1
  · obtain ⟨t, ht⟩ : ∃ t, Pf.ln g l' = t + 1 := ⟨Pf.ln g l' - 1, by omega⟩
    have hlg : Pf.Ln g (t + 1) := by rw [← ht]; exact Pf.ln_Ln l' hgu
    have hid' : ∀ i, f i = Pf.pm Q g i ^^^ R i := fun i => by rw [hid i, Pf.cv_eq hLQ.1]
    refine ⟨a, n, c, Q, b, m, d, R, 0, rfl, hQ, hR, Pf.quot_le2 hg hQ.sl.bytes hlg hLQ (hLR.1.mono (by omega)) hfu hid', by omega, ?_, hB, ?_⟩
    · intro x hx hx2
      rcases hQ.cond with ⟨e, _⟩ | ⟨g1, e, _⟩
      · rw [e] at hx; cases hx
      · rcases hR.cond with ⟨e2, _⟩ | ⟨g2, e2, _⟩
        · rw [e2] at hx2; cases hx2
        · have h1 : some g1 = some x := by rw [← hx, e]; rfl
          have h2 : some g2 = some x := by rw [← hx2, e2]; rfl
          cases h1
          cases h2
          exact hdis _ _ e2 e rfl
    · rintro wx e2 w2 (⟨hl2, _⟩ | ⟨_, h1, _⟩ | ⟨_, _, a2, n2, c2, Q2, b2, m2, d2, R2, rfl, hQ2, hLQ2, hR2, hLR2, hlt2, hid2, hB2⟩)
      · omega
      · exact absurd h1 h0
      · obtain ⟨rfl, rfl⟩ := Pf.long_uniq hg hQ.sl.bytes hQ2.bytes hlg hLQ.1 hLQ2.1 (hLR.1.mono (by omega)) (hLR2.1.mono (by omega)) hid' hid2
        obtain rfl := hLQ.uniq hLQ2
        obtain rfl := hLR.uniq hLR2
        exact ⟨a2, c2, b2, d2, rfl, hQ2, hR2, hB2⟩

/-- one of seven. -/
def sel7 {α : Type} (x0 x1 x2 x3 x4 x5 x6 : α) : Nat → α
  | 0 => x0 | 1 => x1 | 2 => x2 | 3 => x3 | 4 => x4 | 5 => x5 | _ => x6
theorem sep7 {x0 x1 x2 x3 x4 x5 x6 : Option Addr} {t0 t1 t2 t3 t4 t5 t6 : Nat} (m1 : t1 ≤ t2) (m2 : t2 ≤ t3) (m3 : t3 ≤ t4) (m4 : t4 ≤ t5)
    (h0 : ∀ g, blk x0 = some g → t0 ≤ g ∧ g < t1) (h1 : ∀ g, blk x1 = some g → t1 ≤ g ∧ g < t2) (h2 : ∀ g, blk x2 = some g → t2 ≤ g ∧ g < t3) (h3 : ∀ g, blk x3 = some g → t3 ≤ g ∧ g < t4)
    (h4 : ∀ g, blk x4 = some g → t4 ≤ g ∧ g < t5) (h5 : ∀ g, blk x5 = some g → t4 ≤ g ∧ g < t5) (h6 : ∀ g, blk x6 = some g → t5 ≤ g ∧ g < t6) (h45 : ∀ g, blk x4 = some g → blk x5 ≠ some g) : Sep (sel7 x0 x1 x2 x3 x4 x5 x6) 7 := by
  have H : ∀ k, k < 7 → ∀ g, blk (sel7 x0 x1 x2 x3 x4 x5 x6 k) = some g → sel7 t0 t1 t2 t3 t4 t4 t5 k ≤ g ∧ g < sel7 t1 t2 t3 t4 t5 t5 t6 k := by
    intro k hk
    rcases k with _ | _ | _ | _ | _ | _ | _ | k
    · exact h0
    · exact h1
    · exact h2
    · exact h3
    · exact h4
    · exact h5
    · exact h6
    · omega
  intro i j hi hj hne
  cases e : blk (sel7 x0 x1 x2 x3 x4 x5 x6 i) with
  | none => exact Or.inl rfl
  | some g =>
    right
    intro e2
    have q1 := H i hi g e
    have q2 := H j hj g e2.symm
    rcases i with _ | _ | _ | _ | _ | _ | _ | i <;> rcases j with _ | _ | _ | _ | _ | _ | _ | j <;> first | omega | (simp only [sel7] at q1 q2; omega) | exact h45 g e e2.symm | exact h45 g e2.symm e
end Go.Proofs.Ytmabdfcabpnabaa
