import Derived.Test.YtmabdfcabpnabaaBk
namespace Go.Proofs.Ytmabdfcabpnabaa
open Go.RowKit Go.Shelf
attribute [local go_sem] Oper.semAt_some

/-- the lean part of a slice: nil where there is none. -/
def tA (a : Option Addr) (n : Nat) : Option Addr := if n = 0 then none else a
def tC (cap n : Nat) : Nat := if n = 0 then 0 else cap

theorem ln_of {f : Nat → Nat} {len n : Nat} (hu : Pf.Up f len) (h1 : ∀ i, n ≤ i → i < len → f i = 0) (h2 : n = 0 ∨ f (n - 1) ≠ 0) : Pf.ln f len = n := by
  refine Pf.Ln.uniq (Pf.ln_Ln len hu) ⟨fun i hi => ?_, h2⟩
  rcases Nat.lt_or_ge i len with h | h
  · exact h1 i hi h
  · exact hu i h
theorem mem_dnl {len k i : Nat} (hk : k ≤ len) : i ∈ dnl len k ↔ len - k ≤ i ∧ i < len := by
  unfold dnl
  rw [List.mem_map]
  constructor
  · rintro ⟨j, hj, rfl⟩
    have := List.mem_range.1 hj
    omega
  · intro h
    exact ⟨len - 1 - i, List.mem_range.2 (by omega), by omega⟩
theorem dnl_last {len k : Nat} (_hk : k < len) : dnl len (k + 1) = dnl len k ++ [len - 1 - k] := by
  unfold dnl
  rw [List.range_succ, List.map_append]; rfl

theorem Sl.trim {w : World} {a : Option Addr} {len cap : Nat} {f : Nat → Nat} (h : Sl w a len cap f) : Sl w (tA a (Pf.ln f len)) (Pf.ln f len) (tC cap (Pf.ln f len)) f := by
  have hl := Pf.ln_le f len
  have hL := Pf.ln_Ln len h.up
  unfold tA tC
  by_cases e : Pf.ln f len = 0
  · rw [if_pos e, if_pos e]
    exact ⟨by omega, by unfold maxLen; omega, h.bytes, hL.1, fun _ => ⟨e, rfl⟩, fun ad ha => (by cases ha), fun ad ha => (by cases ha)⟩
  · rw [if_neg e, if_neg e]
    exact ⟨Nat.le_trans hl h.capOk, h.maxOk, h.bytes, hL.1, fun ha => (by have := h.nil ha; omega), fun ad ha _ => h.spot ad ha (by omega), fun ad ha i hi => h.cell ad ha i (by omega)⟩

set_option maxRecDepth 100000 in
set_option maxHeartbeats 2000000 in
theorem trim_any (a : Option Addr) (len cap : Nat) (f : Nat → Nat) (hm : len ≤ 1000000000000) (w : World) (hS : Sl w a len cap f) :
    Calls Try.prog 30 #[.slice a len cap] w fun e w' => e = .returned (.slice (tA a (Pf.ln f len)) (Pf.ln f len) (tC cap (Pf.ln f len))) ∧ Below w.heap.size w w' := by
  refine (callsIn_wide (n := 6)).1 ?_
  have hW : ∀ k, Fence.wide.fn k := fun _ => trivial
  have hD : Fence.wide.depth = none := rfl
  have HS := Lib.hid hS
  have hcap := hS.capOk
  have hmax := hS.maxOk
  unfold maxLen at hmax
  clear hS
  refine callsIn_of_wp_marks Try.func30 rfl trivial ?_ rfl
  simp only [Try.ntmps30, List.size_toArray, List.length_cons, List.length_nil, Nat.reduceAdd, Nat.reduceSub, Array.replicate_succ, Array.replicate_zero, List.push_toArray, List.append_toArray, List.nil_append, List.cons_append]
  gi_wp2_with (gi_at_call 48; refine (back_in _ _ _ _ _).mono ?_; rintro e w' ⟨rfl, rfl⟩)
  have bP := Boxed.new w 22 (.slice a len cap)
  have bR := Boxed.new (w.alloc (.cells #[.slice a len cap] 22)) 22 (.slice none 0 0)
  have bN := Boxed.new ((w.alloc (.cells #[.slice a len cap] 22)).alloc (.cells #[.slice none 0 0] 22)) 22 (.slice a len cap)
  rw [World.size_alloc] at bR
  rw [World.size_alloc, World.size_alloc] at bN
  have bP' := (bP.alloc (.cells #[.slice none 0 0] 22)).alloc (.cells #[.slice a len cap] 22)
  have bR' := bR.alloc (.cells #[.slice a len cap] 22)
  have hB0 : Below w.heap.size w (((w.alloc (.cells #[.slice a len cap] 22)).alloc (.cells #[.slice none 0 0] 22)).alloc (.cells #[.slice a len cap] 22)) := (((Below.refl _ w).alloc (Nat.le_refl _) _).alloc (by simp) _).alloc (by simp; omega) _
  have hG := Good.of_sl (HS.out.same hB0) bN.cell
  clear bP bR bN
  refine wpIn_rangeFunc_ownG rfl (by omega) (gf := 67) (lb := #[.pointer (some ⟨w.heap.size + 1 + 1, 0, none⟩)]) rfl trivial (enters_of Try.func67 (by kernel_rfl) rfl)
    (back_stops _ (by omega) (w.heap.size + 1 + 1) a len cap (fun i v => v = f i) hm _ (by simp) hG) kpG_t kpG_b (Below.refl _ _) (fun _ => rfl)
    (fun pre W => ((∀ x ∈ pre, x.v = 0) ∧ W.cell? ⟨w.heap.size, 0, none⟩ = some (.slice a len cap) ∧ W.cell? ⟨w.heap.size + 1, 0, none⟩ = some (.slice none 0 0) ∧ W.frozen? ⟨w.heap.size + 1, 0, none⟩ = false) ∧ Below w.heap.size w W)
    (fun c pre W => (c = .ret ∧ ∃ ini last, pre = ini ++ [last] ∧ (∀ x ∈ ini, x.v = 0) ∧ last.v ≠ 0 ∧ W.cell? ⟨w.heap.size + 1, 0, none⟩ = some (.slice a (last.i + 1) cap)) ∧ Below w.heap.size w W)
    (OwnFrom.and (Own.from (fun s A B row hs hg hr => ⟨hs.1, cell_kept hs.2.1 hg hr, cell_kept hs.2.2.1 hg hr, (frozen_kept hs.2.2.1 hg hr).trans hs.2.2.2⟩) _) (ownFrom_below (Nat.le_refl _) (by simp; omega)))
    (fun c => OwnFrom.and (Own.from (fun s A B row hs hg hr => by obtain ⟨hc, ini, last, e1, e2, e3, e4⟩ := hs; exact ⟨hc, ini, last, e1, e2, e3, cell_kept e4 hg hr⟩) _) (ownFrom_below (Nat.le_refl _) (by simp; omega)))
    ⟨⟨by simp, bP'.cell, bR'.cell, bR'.frozen⟩, hB0⟩
    (fun x => { tmps := #[.slice a len cap, .pointer (some ⟨w.heap.size, 0, none⟩), .pointer (some ⟨w.heap.size + 1, 0, none⟩), .int .i64 (x.i : Nat), .int .u8 (x.v : Nat), .slice a len cap, .func (.func 67) #[] #[.pointer (some ⟨w.heap.size + 1 + 1, 0, none⟩)], .int .i64 (x.i : Nat), .int .u8 (x.v : Nat), undef, undef, undef, undef, undef, undef], defers := [] }) ?assign ?body ?done ?stop
  case assign =>
    intro l x W K hK
    unfold It.enc
    gi_wp2
    exact hK
  case body =>
    rintro l pre x W ⟨⟨hp, hcp, hcr, hfr⟩, hB⟩ _
    have hHB := Lib.hid hB; have HP := Lib.hid hp; clear hB hp hG bP' bR' hB0
    have hxi := x.hi
    have hxv := x.hv
    by_cases h0 : x.v = 0
    · have g0 : (((x.v : Nat) : Int) != 0) = false := by simp [h0]
      have H0 := Lib.hid h0; clear h0
      gi_wp2
      exact ⟨KeepsFrom.refl _ _, fun g => g, ⟨fun y hy => (List.mem_append.1 hy).elim (HP.out y) (fun e => by simp at e; subst e; exact H0.out), hcp, hcr, hfr⟩, hHB.out⟩
    · have g0 : (((x.v : Nat) : Int) != 0) = true := by simp; omega
      have H0 := Lib.hid h0; clear h0
      have i1 : (x.i : Int) + 1 ≤ (cap : Int) := by omega
      gi_wp2
      exact ⟨(KeepsOthers.setCell _ _ _).from _, ⟨rfl, pre, x, rfl, HP.out, H0.out, World.cell?_setCell_same' _ _ _ (by rw [hcr]; rfl)⟩, hHB.out.setCell (p := ⟨w.heap.size + 1, 0, none⟩) (by simp) _⟩
  case done =>
    rintro D ys W hD hys ⟨⟨hne, hcp, hcr, hfr⟩, hB⟩ hK
    clear hG bP' bR' hB0
    have hln : Pf.ln f len = 0 := ln_of HS.out.up (fun i _ hi => by
      have : i ∈ ys.map It.i := by rw [hys, mem_dnl (Nat.le_refl _)]; omega
      obtain ⟨x, hx, rfl⟩ := List.mem_map.1 this
      rw [← x.hok]; exact hne x hx) (Or.inl rfl)
    have HB := Lib.hid hB; have HN := Lib.hid hln; clear hB hne hys hln
    gi_wp2
    have hK' := (KeepsOthers.setCell W ⟨w.heap.size + 1, 0, none⟩ (.slice none 0 0)).same D _ hK rfl
    refine ⟨by simp, .inl ⟨_, _, rfl, run_takeDeferred hK', ?_⟩⟩
    have hc5 := cell_kept (World.cell?_setCell_same' W ⟨w.heap.size + 1, 0, none⟩ (.slice none 0 0) (by rw [hcr]; rfl)) (grownBy_putObj' _ D (.deferred none)) (fun r e => by cases e; exact ⟨_, hK', rfl⟩)
    refine ⟨.slice none 0 0, ?_, by rw [HN.out]; rfl, (HB.out.setCell (p := ⟨w.heap.size + 1, 0, none⟩) (by simp) _).trans (belowK_b (w := w) (Nat.le_refl _) _ D _ _ (by simp at hD; omega) hK' rfl rfl)⟩
    simp [results, Try.f30, go_sem, hc5]
  case stop =>
    rintro D c pre W hD ⟨k, hk, hpre⟩ ⟨⟨rfl, ini, last, e1, e2, e3, hcr⟩, hB⟩ hK
    clear hG bP' bR' hB0
    have hln : Pf.ln f len = last.i + 1 := by
      subst e1
      have hkl : k = ini.length + 1 := by have := congrArg List.length hpre; simp [dnl_len] at this; omega
      subst hkl
      rw [dnl_last (by omega), List.map_append] at hpre
      obtain ⟨h1, h2⟩ := List.append_inj' hpre rfl
      have h2 : last.i = len - 1 - ini.length := by simpa using h2
      refine ln_of HS.out.up (fun i h3 h4 => ?_) (Or.inr ?_)
      · have : i ∈ ini.map It.i := by rw [h1, mem_dnl (by omega)]; omega
        obtain ⟨x, hx, rfl⟩ := List.mem_map.1 this
        rw [← x.hok]; exact e2 x hx
      · rw [Nat.add_sub_cancel, ← last.hok]; exact e3
    have HB := Lib.hid hB; have HN := Lib.hid hln; clear hB e2 hpre hln
    gi_wp2
    refine ⟨by simp, .inl ⟨_, _, rfl, run_takeDeferred hK, ?_⟩⟩
    have hc5 := cell_kept hcr (grownBy_putObj' _ D (.deferred none)) (fun r e => by cases e; exact ⟨_, hK, rfl⟩)
    refine ⟨.slice a (last.i + 1) cap, ?_, by rw [HN.out]; rfl, HB.out.trans (belowK_b (w := w) (Nat.le_refl _) W D _ _ (by simp at hD; omega) hK rfl rfl)⟩
    simp [results, Try.f30, go_sem, hc5]
end Go.Proofs.Ytmabdfcabpnabaa
