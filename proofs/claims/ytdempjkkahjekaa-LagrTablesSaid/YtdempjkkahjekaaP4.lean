import Derived.Test.YtdempjkkahjekaaP3
namespace Go.Proofs.Ytdempjkkahjekaa
open Go.RowKit Go.Shelf
attribute [local go_sem] Oper.semAt_some

theorem keeps_drewN (W : World) (q : Nat) : KeepsOthers W (W.drewN q) := ⟨Nat.le_refl _, fun _ _ h _ => h⟩
theorem World.drewN_cell? (W : World) (q : Nat) (p : Addr) : (W.drewN q).cell? p = W.cell? p := rfl
theorem Good.drewN {Bs : Nat} {a : Option Addr} {len cap : Nat} {ok : Nat → Nat → Prop} {W : World} (g : Good Bs a len cap ok W) (q : Nat) : Good Bs a len cap ok (W.drewN q) := g
theorem Good.set {Bs : Nat} {a : Option Addr} {len cap : Nat} {ok : Nat → Nat → Prop} {W : World} (g : Good Bs a len cap ok W) {p : Addr} (h1 : p.block ≠ Bs) (h2 : ∀ ad, a = some ad → len ≠ 0 → ad.block ≠ p.block) (u : Value) : Good Bs a len cap ok (W.setCell p u) :=
  ⟨by rw [World.cell?_setCell_other _ _ _ _ (by intro hh; cases hh; exact h1 rfl)]; exact g.1, fun i hi => by
    obtain ⟨b, off, v, e1, e2, e3, e4⟩ := g.2 i hi
    refine ⟨b, off, v, e1, e2, e3, ?_⟩
    rw [World.cell?_setCell_other _ _ _ _ (by intro hh; cases hh; exact h2 _ e1 (by omega) rfl)]; exact e4⟩
/-- the value as it grows from the end. -/
def hvl {len : Nat} {ok : Nat → Nat → Prop} (x : Nat) (pre : List (It len ok)) : Nat := pre.foldl (fun v y => Gf.mul v x ^^^ y.v) 0
theorem hvl_snoc {len : Nat} {ok : Nat → Nat → Prop} (x : Nat) (pre : List (It len ok)) (y : It len ok) : hvl x (pre ++ [y]) = Gf.mul (hvl x pre) x ^^^ y.v := by simp [hvl]
theorem snoc_cases {α : Type} : ∀ l : List α, l = [] ∨ ∃ i y, l = i ++ [y] := fun l => by
  rcases List.eq_nil_or_concat l with h | ⟨i, y, h⟩
  · exact Or.inl h
  · exact Or.inr ⟨i, y, by rw [h, List.concat_eq_append]⟩
theorem hvl_lt {len : Nat} {ok : Nat → Nat → Prop} {x : Nat} (hx : x < 256) (pre : List (It len ok)) : hvl x pre < 256 := by
  have : ∀ n, ∀ pre : List (It len ok), pre.length = n → hvl x pre < 256 := by
    intro n
    induction n with
    | zero => intro pre h; rw [List.eq_nil_of_length_eq_zero h]; show 0 < 256; omega
    | succ n ih =>
      intro pre h
      rcases snoc_cases pre with rfl | ⟨i, y, rfl⟩
      · simp at h
      · rw [hvl_snoc]
        exact Gf.xor_lt (Gf.mul_lt (ih i (by simpa using h)) hx) y.hv
  exact this _ pre rfl
theorem hvl_hn {len : Nat} {f : Nat → Nat} (x : Nat) : ∀ k, k ≤ len → ∀ pre : List (It len (fun i v => v = f i)), pre.map It.i = dnl len k → hvl x pre = Pf.hn f x len k
  | 0, _, pre, h => by
    have : pre = [] := by simpa [dnl] using h
    rw [this]; rfl
  | k + 1, hk, pre, h => by
    rw [dnl_last (by omega)] at h
    rcases snoc_cases pre with rfl | ⟨i, y, rfl⟩
    · simp at h
    · rw [List.map_append] at h
      obtain ⟨h1, h2⟩ := List.append_inj' h rfl
      have h2 : y.i = len - 1 - k := by simpa using h2
      rw [hvl_snoc, hvl_hn x k (by omega) i h1, y.hok, h2]; rfl

set_option maxRecDepth 100000 in
set_option maxHeartbeats 2000000 in
theorem value_any (wb fb : Nat) (x : Nat) (hx : x < 256) (a : Option Addr) (len cap : Nat) (f : Nat → Nat) (hm : len ≤ 1000000000000) (w : World) (hW0 : w.cell? ⟨wb, 0, none⟩ = some (.pointer (some ⟨fb, 0, none⟩))) (hW1 : w.cell? ⟨wb, 1, none⟩ = some (.slice a len cap)) (hF : IsField fb w) (hS : Sl w a len cap f) :
    Calls Try.prog 34 #[.pointer (some ⟨wb, 0, none⟩), .int .u8 x] w fun e w' => e = .returned (.int .u8 (Pf.ev f x len : Nat)) ∧ Below w.heap.size w w' := by
  refine (callsIn_wide (n := 6)).1 ?_
  have hW : ∀ k, Fence.wide.fn k := fun _ => trivial
  have hD : Fence.wide.depth = none := rfl
  have HS := Lib.hid hS; have HF := Lib.hid hF; have HW0 := Lib.hid hW0
  clear hS hF hW0
  refine callsIn_of_wp_marks Try.func34 rfl trivial ?_ rfl
  simp only [Try.ntmps34, List.size_toArray, List.length_cons, List.length_nil, Nat.reduceAdd, Nat.reduceSub, Array.replicate_succ, Array.replicate_zero, List.push_toArray, List.append_toArray, List.nil_append, List.cons_append]
  have hwl : wb < w.heap.size := World.block_lt_of_cell? _ _ hW1
  have hW2 : (((w.alloc (.cells #[.pointer (some ⟨wb, 0, none⟩)] 108)).alloc (.cells #[.int .u8 (x : Nat)] 5)).alloc (.cells #[.int .u8 0] 5)).cell? ⟨wb, 1, none⟩ = some (.slice a len cap) := by
    rw [World.cell?_alloc_lt _ _ _ (by simp; omega), World.cell?_alloc_lt _ _ _ (by simp; omega), World.cell?_alloc_lt _ _ _ (by simp; omega)]; exact hW1
  clear hW1
  gi_wp2_with (gi_at_call 44; refine (back_in _ _ _ _ _).mono ?_; rintro e w' ⟨rfl, rfl⟩)
  clear hW2
  have b0 := (((Boxed.new w 108 (.pointer (some ⟨wb, 0, none⟩))).alloc (.cells #[.int .u8 (x : Nat)] 5)).alloc (.cells #[.int .u8 0] 5)).alloc (.cells #[.slice a len cap] 22)
  have b1 := ((Boxed.new (w.alloc (.cells #[.pointer (some ⟨wb, 0, none⟩)] 108)) 5 (.int .u8 (x : Nat))).alloc (.cells #[.int .u8 0] 5)).alloc (.cells #[.slice a len cap] 22)
  have b2 := (Boxed.new ((w.alloc (.cells #[.pointer (some ⟨wb, 0, none⟩)] 108)).alloc (.cells #[.int .u8 (x : Nat)] 5)) 5 (.int .u8 0)).alloc (.cells #[.slice a len cap] 22)
  have b3 := Boxed.new (((w.alloc (.cells #[.pointer (some ⟨wb, 0, none⟩)] 108)).alloc (.cells #[.int .u8 (x : Nat)] 5)).alloc (.cells #[.int .u8 0] 5)) 22 (.slice a len cap)
  have hB0 : Below w.heap.size w ((((w.alloc (.cells #[.pointer (some ⟨wb, 0, none⟩)] 108)).alloc (.cells #[.int .u8 (x : Nat)] 5)).alloc (.cells #[.int .u8 0] 5)).alloc (.cells #[.slice a len cap] 22)) := ((((Below.refl _ w).alloc (Nat.le_refl _) _).alloc (by simp) _).alloc (by simp; omega) _).alloc (by simp; omega) _
  simp only [World.size_alloc] at b1 b2 b3
  have hG := Good.of_sl (HS.out.same hB0) b3.cell
  refine' wpIn_rangeFunc_ownG rfl (by omega) (gf := 73) (lb := #[.pointer (some ⟨w.heap.size + 1 + 1 + 1, 0, none⟩)]) rfl trivial (enters_of Try.func73 (by kernel_rfl) rfl)
    (back_stops _ (by omega) (w.heap.size + 1 + 1 + 1) a len cap (fun i v => v = f i) hm _ (by simp) hG) kpG_t kpG_b (Below.refl _ _) (fun _ => rfl)
    (fun pre W => (W.cell? ⟨w.heap.size, 0, none⟩ = some (.pointer (some ⟨wb, 0, none⟩)) ∧ W.cell? ⟨w.heap.size + 1, 0, none⟩ = some (.int .u8 (x : Nat)) ∧ W.cell? ⟨w.heap.size + 1 + 1, 0, none⟩ = some (.int .u8 (hvl x pre : Nat)) ∧ W.frozen? ⟨w.heap.size + 1 + 1, 0, none⟩ = false) ∧ Below w.heap.size w W)
    (fun _ _ _ => False)
    (OwnFrom.and (Own.from (fun s A B row hs hg hr => ⟨cell_kept hs.1 hg hr, cell_kept hs.2.1 hg hr, cell_kept hs.2.2.1 hg hr, (frozen_kept hs.2.2.1 hg hr).trans hs.2.2.2⟩) _) (ownFrom_below (Nat.le_refl _) (by simp; omega)))
    (fun _ _ _ _ _ hs _ _ => hs)
    ⟨⟨b0.cell, b1.cell, b2.cell, b2.frozen⟩, hB0⟩
    _ ?assign ?body ?done ?stop
  case assign =>
    intro l y W K hK
    unfold It.enc
    gi_wp2
    exact hK
  case body =>
    rintro l pre y W ⟨⟨hc0, hc1, hc2, hf2⟩, hB⟩ _
    clear b0 b1 b2 b3 hB0 hG
    have hw0 := (hB.cell (p := ⟨wb, 0, none⟩) hwl).trans HW0.out
    have FI := Lib.hid (HF.out.below hB (World.block_lt_of_cell? _ _ (HF.out 0 (by omega)).1))
    have HB := Lib.hid hB; clear hB
    have d1 := hvl_lt hx pre
    have d2 := y.hv
    have d3 := Gf.mul_lt d1 hx
    have HS2 := Lib.hid (hvl_snoc x pre y)
    generalize hvl x pre = v at *
    gi_wp2
    refine Rb.wpIn_round_quiet_tail 9 (by kernel_rfl) (by kernel_rfl) (by kernel_rfl) ?_
    simp only [List.take_succ_cons, List.take_zero, List.drop_succ_cons, List.drop_zero]
    repeat (go_big_quiet_step ((first | (go_at_call 43; exact Calls.quiet_of (mul_nat fb v x d1 hx _ (FI.out.drewN _))) | (go_at_call 24; exact Calls.quiet_of_same (add_nat (Gf.mul v x) y.v d3 d2 _)))))
    refine wpQuiet_nil ?_
    rintro _ ⟨nq, rfl⟩
    gi_wp2
    refine ⟨(KeepsOthers.trans (keeps_drewN W nq) (KeepsOthers.setCell _ _ _)).from _, fun g => Good.set (Good.drewN g nq) (by simp) (fun ad ha hl => by have := HS.out.lt ad ha hl; simp; omega) _, ⟨?_, ?_, ?_, ?_⟩, (below_drewN HB.out nq).setCell (p := ⟨w.heap.size + 1 + 1, 0, none⟩) (by simp; omega) _⟩
    · rw [World.cell?_setCell_other _ _ _ _ (by intro hh; simp at hh)]; exact hc0
    · rw [World.cell?_setCell_other _ _ _ _ (by intro hh; simp at hh)]; exact hc1
    · rw [HS2.out]; exact World.cell?_setCell_same' _ _ _ (by rw [World.drewN_cell?, hc2]; rfl)
    · rw [World.frozen?_setCell]; exact hf2
  case done =>
    rintro D ys W hD hys ⟨⟨hc0, hc1, hc2, hf2⟩, hB⟩ hK
    clear b0 b1 b2 b3 hB0 hG
    have hv : hvl x ys = Pf.ev f x len := by rw [hvl_hn x len (Nat.le_refl _) ys hys, Pf.hn_all HS.out.bytes hx]
    rw [hv] at hc2
    have HB := Lib.hid hB; clear hB hv hys
    gi_wp2
    refine ⟨by simp, .inl ⟨_, _, rfl, run_takeDeferred hK, ?_⟩⟩
    exact ⟨_, results_tmp rfl _ _ _, rfl, HB.out.trans (belowK_b (w := w) (Nat.le_refl _) W D _ _ (by simp at hD; omega) hK rfl rfl)⟩
  case stop =>
    rintro D c pre W _ _ h _
    exact h.elim
end Go.Proofs.Ytdempjkkahjekaa
