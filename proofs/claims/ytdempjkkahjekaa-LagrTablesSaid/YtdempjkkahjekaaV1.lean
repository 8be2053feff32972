import Derived.Test.YtdempjkkahjekaaV0
import Derived.Test.YtdempjkkahjekaaP4
import Derived.Test.YtdempjkkahjekaaG5
namespace Go.Proofs.Ytdempjkkahjekaa
open Go.RowKit Go.Shelf

/-- a row of its own from B on, of which the first n are h; or none. -/
def Rq (W : World) (B : Nat) (a : Option Addr) (n cap : Nat) (h : Nat → Nat) : Prop :=
  (a = none ∧ n = 0 ∧ cap = 0) ∨ ∃ g, a = some ⟨g, 0, none⟩ ∧ B ≤ g ∧ Bl W g n cap h ∧ n ≤ cap ∧ cap ≤ maxLen
section
variable {W W' : World} {B n cap : Nat} {a : Option Addr} {h : Nat → Nat}
theorem Rq.kept (r : Rq W B a n cap h) (hk : ∀ g, a = some ⟨g, 0, none⟩ → g < W.heap.size → W'.heap[g]? = W.heap[g]?) : Rq W' B a n cap h := by
  rcases r with r | ⟨g, e, h1, h2, h3, h4⟩
  · exact Or.inl r
  · exact Or.inr ⟨g, e, h1, h2.kept (hk g e h2.lt), h3, h4⟩
theorem Rq.same (r : Rq W B a n cap h) (hB : Below W.heap.size W W') : Rq W' B a n cap h := r.kept fun g _ hl => hB.block g hl
theorem Rq.grown {row : Option Nat} (r : Rq W B a n cap h) (hg : W.grownBy W' row) (hr : ∀ g, a = some ⟨g, 0, none⟩ → some g ≠ row) : Rq W' B a n cap h := r.kept fun g e hl => hg.block g hl (hr g e)
theorem Rq.congr {h' : Nat → Nat} (r : Rq W B a n cap h) (he : ∀ i, i < n → h i = h' i) : Rq W B a n cap h' := by
  rcases r with r | ⟨g, e, h1, h2, h3, h4⟩
  · exact Or.inl r
  · exact Or.inr ⟨g, e, h1, h2.congr he, h3, h4⟩
theorem Rq.lt (r : Rq W B a n cap h) : ∀ g, a = some ⟨g, 0, none⟩ → B ≤ g ∧ g < W.heap.size := fun g e => by
  rcases r with ⟨r, _⟩ | ⟨g', e', h1, h2, _⟩
  · rw [r] at e; cases e
  · rw [e'] at e; cases e; exact ⟨h1, h2.lt⟩
theorem Rq.at_ (r : Rq W B a n cap h) {i : Nat} (hi : i < n) : ∃ g, a = some ⟨g, 0, none⟩ ∧ B ≤ g ∧ Bl W g n cap h := by
  rcases r with ⟨_, r, _⟩ | ⟨g, e, h1, h2, _⟩
  · omega
  · exact ⟨g, e, h1, h2⟩
theorem Rq.owns (r : Rq W B a n cap h) : W.ownsRow B 5 1 (.slice a n cap) n (rowv h n) := by
  rcases r with ⟨rfl, rfl, rfl⟩ | ⟨g, rfl, h1, ⟨vs, k1, k2, k3⟩, h3, h4⟩
  · exact World.ownsRow_nil _ _ _ _
  · refine ⟨by rw [rowv_len]; omega, Or.inr ⟨g, cap, vs, rfl, h1, k1, h3, h4, by omega, ?_⟩⟩
    apply List.ext_getElem?
    intro i
    rw [List.getElem?_take]
    by_cases c : i < n
    · rw [if_pos (by omega), Array.getElem?_toList, k3 i c, rowv_get c]
    · rw [if_neg (by omega), List.getElem?_eq_none (by rw [rowv_len]; omega)]
theorem Rq.of_owns {g : Nat} (ho : W.ownsRow B 5 1 (.slice (some ⟨g, 0, none⟩) n cap) n (rowv h n)) : Rq W B (some ⟨g, 0, none⟩) n cap h := by
  have hb := Bl.of_owns (h := h) ho (fun i hi => rowv_get hi)
  obtain ⟨_, h2 | ⟨g', cap', cur, e, hg, hh, hn, hm, hs, ht⟩⟩ := ho
  · exact absurd h2.1 (by simp)
  · simp only [Value.slice.injEq, Option.some.injEq, Addr.mk.injEq, and_true, true_and] at e
    obtain ⟨rfl, rfl⟩ := e
    exact Or.inr ⟨g, rfl, hg, hb, by omega, hm⟩
end

/-- a worker: its field, its points, their scales. -/
def Wl (W : World) (wb fb : Nat) (ap : Option Addr) (n cp : Nat) (aq : Option Addr) (m cs : Nat) : Prop := W.heap[wb]? = some (.cells #[.pointer (some ⟨fb, 0, none⟩), .slice ap n cp, .slice aq m cs] 48 (0, 0))
section
variable {W W' : World} {wb fb n cp m cs : Nat} {ap aq : Option Addr}
theorem Wl.lt (h : Wl W wb fb ap n cp aq m cs) : wb < W.heap.size := (Array.getElem?_eq_some_iff.1 h).1
theorem Wl.c0 (h : Wl W wb fb ap n cp aq m cs) : W.cell? ⟨wb, 0, none⟩ = some (.pointer (some ⟨fb, 0, none⟩)) := by rw [cell_of_row W wb 0 _ _ _ h]; rfl
theorem Wl.c1 (h : Wl W wb fb ap n cp aq m cs) : W.cell? ⟨wb, 1, none⟩ = some (.slice ap n cp) := by rw [cell_of_row W wb 1 _ _ _ h]; rfl
theorem Wl.c2 (h : Wl W wb fb ap n cp aq m cs) : W.cell? ⟨wb, 2, none⟩ = some (.slice aq m cs) := by rw [cell_of_row W wb 2 _ _ _ h]; rfl
theorem Wl.free (h : Wl W wb fb ap n cp aq m cs) (i : Nat) : W.frozen? ⟨wb, i, none⟩ = false := frozen_of_row W wb i _ _ h
theorem Wl.kept (h : Wl W wb fb ap n cp aq m cs) (hk : W'.heap[wb]? = W.heap[wb]?) : Wl W' wb fb ap n cp aq m cs := hk.trans h
theorem Wl.set1 (h : Wl W wb fb ap n cp aq m cs) (p : Option Addr) (k d : Nat) : Wl (W.setCell ⟨wb, 1, none⟩ (.slice p k d)) wb fb p k d aq m cs := heap_setCell_same W wb 1 _ _ (.slice p k d) h
theorem Wl.set2 (h : Wl W wb fb ap n cp aq m cs) (p : Option Addr) (k d : Nat) : Wl (W.setCell ⟨wb, 2, none⟩ (.slice p k d)) wb fb ap n cp p k d := heap_setCell_same W wb 2 _ _ (.slice p k d) h
end
/-- the worker: n points P, m scales S. -/
structure Stn (W : World) (wb fb : Nat) (ap : Option Addr) (n cp : Nat) (aq : Option Addr) (m cs : Nat) (P S : Nat → Nat) : Prop where
  wl : Wl W wb fb ap n cp aq m cs
  pr : Rq W (wb + 1) ap n cp P
  sr : Rq W (wb + 1) aq m cs S
  ne : ∀ g, ap = some ⟨g, 0, none⟩ → aq ≠ some ⟨g, 0, none⟩
  fi : IsField fb W
  fl : fb < wb
/-- points that come lie elsewhere. -/
def Far (wb : Nat) (ap aq a : Option Addr) (m : Nat) : Prop := ∀ ad, a = some ad → m ≠ 0 → ad.block ≠ wb ∧ ap ≠ some ⟨ad.block, 0, none⟩ ∧ aq ≠ some ⟨ad.block, 0, none⟩
section
variable {W W' : World} {wb fb n cp m cs : Nat} {ap aq : Option Addr} {P S : Nat → Nat}
theorem Stn.same (h : Stn W wb fb ap n cp aq m cs P S) (hB : Below W.heap.size W W') : Stn W' wb fb ap n cp aq m cs P S :=
  ⟨h.wl.kept (hB.block wb h.wl.lt), h.pr.same hB, h.sr.same hB, h.ne, h.fi.same hB, h.fl⟩
theorem Stn.drewN (h : Stn W wb fb ap n cp aq m cs P S) (q : Nat) : Stn (W.drewN q) wb fb ap n cp aq m cs P S := h.same (below_dr (Below.refl _ _) q)
theorem Stn.congr {P' S' : Nat → Nat} (h : Stn W wb fb ap n cp aq m cs P S) (hp : ∀ i, i < n → P i = P' i) (hs : ∀ i, i < m → S i = S' i) : Stn W wb fb ap n cp aq m cs P' S' :=
  ⟨h.wl, h.pr.congr hp, h.sr.congr hs, h.ne, h.fi, h.fl⟩
/-- a scale is written anew. -/
theorem Stn.set {g i : Nat} (h : Stn W wb fb ap n cp aq m cs P S) (e : aq = some ⟨g, 0, none⟩) (hi : i < m) (v : Nat) : Stn (W.setCell ⟨g, i, none⟩ (.int .u8 (v : Nat))) wb fb ap n cp aq m cs P (fun k => if k = i then v else S k) := by
  obtain ⟨g', e', hg, hb⟩ := h.sr.at_ hi
  rw [e] at e'
  obtain rfl : g = g' := by cases e'; rfl
  have hs := grownSet W g i (.int .u8 (v : Nat))
  refine ⟨h.wl.kept (hs.block wb h.wl.lt (by simp; omega)), h.pr.grown hs (fun k ek => by
    have := h.ne k ek
    intro hh
    cases hh
    exact this e), ?_, h.ne, h.fi.grown hs (by have := h.fl; simp; omega), h.fl⟩
  rcases h.sr with ⟨r, _⟩ | ⟨g2, e2, h1, h2, h3, h4⟩
  · rw [r] at e; cases e
  · rw [e] at e2
    obtain rfl : g = g2 := by cases e2; rfl
    exact Or.inr ⟨g, e, h1, h2.set hi v, h3, h4⟩
/-- a point more. -/
theorem Stn.app1 {g c v : Nat} (h : Stn W wb fb ap n cp aq m cs P S) (hv : v = P n) (ho : W'.ownsRow (wb + 1) 5 1 (.slice (some ⟨g, 0, none⟩) (n + 1) c) (n + 1) (rowv P n ++ [.int .u8 (v : Nat)])) (hc : ap = some ⟨g, 0, none⟩ ∧ c = cp ∧ W.grownBy W' (some g) ∨ W.heap.size ≤ g ∧ W.grownBy W' none) :
    Wl W' wb fb ap n cp aq m cs ∧ Stn (W'.setCell ⟨wb, 1, none⟩ (.slice (some ⟨g, 0, none⟩) (n + 1) c)) wb fb (some ⟨g, 0, none⟩) (n + 1) c aq m cs P S ∧ (∀ B, B ≤ wb → Below B W (W'.setCell ⟨wb, 1, none⟩ (.slice (some ⟨g, 0, none⟩) (n + 1) c))) := by
  rw [hv, ← rowv_succ] at ho
  have hwl := h.wl.lt
  have hfl := h.fl
  have hg : W.grownBy W' (some g) := by
    rcases hc with ⟨_, _, hg⟩ | ⟨_, hg⟩
    · exact hg
    · exact ⟨hg.os, hg.tape, hg.output, hg.size, fun k hk _ => hg.block k hk (by simp)⟩
  have hgb : wb + 1 ≤ g := (Rq.of_owns ho).lt g rfl |>.1
  have hne : aq ≠ some ⟨g, 0, none⟩ := by
    rcases hc with ⟨e, _⟩ | ⟨e, _⟩
    · exact h.ne g e
    · exact fun hh => by have := (h.sr.lt g hh).2; omega
  have hs := grownSet W' wb 1 (.slice (some ⟨g, 0, none⟩) (n + 1) c)
  have hw1 : Wl W' wb fb ap n cp aq m cs := h.wl.kept (hg.block wb hwl (by simp; omega))
  refine ⟨hw1, ⟨hw1.set1 _ _ _, (Rq.of_owns ho).grown hs (fun k e => by cases e; simp; omega), (h.sr.grown hg (fun k e hh => hne (by cases hh; exact e))).grown hs (fun k e => by have := (h.sr.lt k e).1; simp; omega), fun k e => by cases e; exact hne,
    (h.fi.grown hg (by simp; omega)).grown hs (by simp; omega), hfl⟩, fun B hB => ?_⟩
  exact ((Below.refl B W).grown hg (by omega) (fun k e => by cases e; omega)).setCell (p := ⟨wb, 1, none⟩) hB _
/-- a scale more. -/
theorem Stn.app2 {g c v : Nat} (h : Stn W wb fb ap n cp aq m cs P S) (hv : v = S m) (ho : W'.ownsRow (wb + 1) 5 1 (.slice (some ⟨g, 0, none⟩) (m + 1) c) (m + 1) (rowv S m ++ [.int .u8 (v : Nat)])) (hc : aq = some ⟨g, 0, none⟩ ∧ c = cs ∧ W.grownBy W' (some g) ∨ W.heap.size ≤ g ∧ W.grownBy W' none) :
    Wl W' wb fb ap n cp aq m cs ∧ Stn (W'.setCell ⟨wb, 2, none⟩ (.slice (some ⟨g, 0, none⟩) (m + 1) c)) wb fb ap n cp (some ⟨g, 0, none⟩) (m + 1) c P S ∧ (∀ B, B ≤ wb → Below B W (W'.setCell ⟨wb, 2, none⟩ (.slice (some ⟨g, 0, none⟩) (m + 1) c))) := by
  rw [hv, ← rowv_succ] at ho
  have hwl := h.wl.lt
  have hfl := h.fl
  have hg : W.grownBy W' (some g) := by
    rcases hc with ⟨_, _, hg⟩ | ⟨_, hg⟩
    · exact hg
    · exact ⟨hg.os, hg.tape, hg.output, hg.size, fun k hk _ => hg.block k hk (by simp)⟩
  have hgb : wb + 1 ≤ g := (Rq.of_owns ho).lt g rfl |>.1
  have hne : ap ≠ some ⟨g, 0, none⟩ := by
    rcases hc with ⟨e, _⟩ | ⟨e, _⟩
    · exact fun hh => h.ne g hh e
    · exact fun hh => by have := (h.pr.lt g hh).2; omega
  have hs := grownSet W' wb 2 (.slice (some ⟨g, 0, none⟩) (m + 1) c)
  have hw1 : Wl W' wb fb ap n cp aq m cs := h.wl.kept (hg.block wb hwl (by simp; omega))
  refine ⟨hw1, ⟨hw1.set2 _ _ _, (h.pr.grown hg (fun k e hh => hne (by cases hh; exact e))).grown hs (fun k e => by have := (h.pr.lt k e).1; simp; omega), (Rq.of_owns ho).grown hs (fun k e => by cases e; simp; omega), fun k e hh => by cases hh; exact hne e,
    (h.fi.grown hg (by simp; omega)).grown hs (by simp; omega), hfl⟩, fun B hB => ?_⟩
  exact ((Below.refl B W).grown hg (by omega) (fun k e => by cases e; omega)).setCell (p := ⟨wb, 2, none⟩) hB _
end
/-- what came is still there behind an append to a row of the worker's. -/
theorem Sl.app {W W' : World} {a : Option Addr} {k d cp : Nat} {f : Nat → Nat} (hS : Sl W a k d f) {ap : Option Addr} {g c wb o : Nat} {u : Value} (hc : ap = some ⟨g, 0, none⟩ ∧ c = cp ∧ W.grownBy W' (some g) ∨ W.heap.size ≤ g ∧ W.grownBy W' none)
    (hf : ∀ ad, a = some ad → k ≠ 0 → ad.block ≠ wb ∧ ap ≠ some ⟨ad.block, 0, none⟩) : Sl (W'.setCell ⟨wb, o, none⟩ u) a k d f ∧ ∀ ad, a = some ad → k ≠ 0 → ad.block ≠ g := by
  have hne : ∀ ad, a = some ad → k ≠ 0 → ad.block ≠ g := fun ad ha hk => by
    rcases hc with ⟨e, _⟩ | ⟨e, _⟩
    · intro hh; exact (hf ad ha hk).2 (by rw [e, hh])
    · have := hS.lt ad ha hk; omega
  have h1 : Sl W' a k d f := by
    rcases hc with ⟨_, _, hg⟩ | ⟨_, hg⟩
    · exact hS.grown hg (fun ad ha hk => by have := hne ad ha hk; simpa using this)
    · exact hS.grown hg (fun ad ha hk => by simp)
  exact ⟨h1.grown (grownSet W' wb o u) (fun ad ha hk => by have := (hf ad ha hk).1; simpa using this), hne⟩
end Go.Proofs.Ytdempjkkahjekaa
