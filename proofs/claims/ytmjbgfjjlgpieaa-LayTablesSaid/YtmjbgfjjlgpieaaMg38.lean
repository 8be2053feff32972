import Derived.Deep.RegionWith
import Derived.Test.YtmjbgfjjlgpieaaMg35
namespace Go.Proofs.Ytmjbgfjjlgpieaa.Sp
open Go.RowKit Go.Shelf
attribute [local go_sem] Oper.semAt_some

theorem hmkL (N : Nat) (hN : N ≤ 1000000000) : ∀ W : World, (Instr.makeSlice 32 (.int .i64 0) (.int .i64 (N : Nat))).run Try.prog W = .ok (.slice (some ⟨W.heap.size, 0, none⟩) 0 N) (W.alloc (.cells (madeCells #[.slice none 0 0] N) 37)) := fun W => by
  obtain ⟨i0, hi, hz0, hz1, hz2⟩ := info_parts (P := Try.prog) (e := 37) (z := .slice none 0 0) (size := 1) (bytes := 24) (by kernel_rfl)
  have := run_make (P := Try.prog) W 32 37 i0 (.slice none 0 0) Try.underlying32 hi hz0 .i64 .i64 (0 : Int) (N : Int) (by omega) (by omega) (by rw [hz2]; omega) (by omega)
  have e : (Value.slice none 0 0).cells = #[.slice none 0 0] := rfl
  rw [hz1, e, Int.toNat_natCast, Nat.mul_one] at this; exact this
/-- what is cut: the list, of which the rows are parts, and the list of these. -/
def CutFin (w : World) (f : Nat → Nat) (n k wi G : Nat) (w' : World) : Prop :=
  ∃ g, w.heap.size ≤ G ∧ w.heap.size ≤ g ∧ G ≠ g ∧ Below w.heap.size w w' ∧ Bl w' g (k * wi) (k * wi) (cpy 0 n f fun _ => 0) ∧
    w'.ownsRow w.heap.size 37 1 (.slice (some ⟨G, 0, none⟩) k k) k ((List.range k).map (part g wi))
def CutSays (w : World) (f : Nat → Nat) (n k : Nat) (e : Ending) (w' : World) : Prop :=
  ∃ G, e = .returned (.tuple #[.slice (some ⟨G, 0, none⟩) k k, .int .i64 0]) ∧ CutFin w f n k (wid n k) G w'
theorem asks_within (bw bl n wi g : Nat) (hn : n ≤ 1000000) (hs : n * wi ≤ 1000000) : Asks 61 n #[.pointer (some ⟨bw, 0, none⟩), .pointer (some ⟨bl, 0, none⟩)] (rs (fun i => some ⟨g, i * wi, none⟩) (fun _ => wi) fun _ => wi)
    (fun W => Boxed W bw 3 (.int .i64 (wi : Nat)) ∧ Boxed W bl 37 (.slice (some ⟨g, 0, none⟩) (n * wi) (n * wi))) :=
  ⟨fun _ _ => by kernel_rfl, fun W h j hj => within1_any bw bl n wi g j hj hn hs W h.1 h.2, fun X Y row h hg hr => by
    have hne : ∀ (j : Nat) (cs : Array Value) (t : TypeId) (z : Nat × Nat), X.heap[j]? = some (.cells cs t z) → some j ≠ row := fun j cs t z hj e => by
      obtain ⟨o, ho, hc⟩ := hr j e.symm
      rw [hj] at ho; cases ho; cases hc
    exact ⟨h.1.kept hg (hne _ _ _ _ h.1), h.2.kept hg (hne _ _ _ _ h.2)⟩⟩
theorem cut_end (w1 w5 w9 : World) (f : Nat → Nat) (g G bl bw bp br n k wi T : Nat) (hT : T = k * wi) (hk : k ≤ 1000000) (hs : T ≤ 1000000) (hB5 : Below w1.heap.size w1 w5) (hg : w1.heap.size ≤ g) (hBL : Bl w5 g T T (cpy 0 n f fun _ => 0)) (hB9 : Below w5.heap.size w5 w9) (hG : w5.heap.size ≤ G)
    (hl : Boxed w9 bl 37 (.slice (some ⟨g, 0, none⟩) T T)) (hw : Boxed w9 bw 3 (.int .i64 (wi : Nat))) (hp : Boxed w9 bp 3 (.int .i64 (k : Nat)))
    (hr : Boxed w9 br 91 (.func (.func 61) #[] #[.pointer (some ⟨bw, 0, none⟩), .pointer (some ⟨bl, 0, none⟩)])) (hm : w9.heap[G]? = some (.cells (madeCells #[.slice none 0 0] k) 37 (0, 0))) (nl : bl ≠ G) :
    Calls Try.prog 46 #[.slice (some ⟨G, 0, none⟩) 0 k, .func (.func 60) #[] #[.pointer (some ⟨bp, 0, none⟩), .pointer (some ⟨br, 0, none⟩)]] w9 fun e w' => e = .returned (.slice (some ⟨G, 0, none⟩) k k) ∧ CutFin w1 f n k wi G w' := by
  subst hT
  have hs5 := hB5.size
  have ho : w9.ownsRow w1.heap.size 37 1 (.slice (some ⟨G, 0, none⟩) 0 k) 0 [] :=
    ⟨rfl, .inr ⟨G, k, _, rfl, by omega, hm, Nat.zero_le _, by unfold maxLen; omega, by rw [size_madeCells, Nat.mul_one], by simp⟩⟩
  have hne : ∀ (j : Nat) (v : Value) (t : TypeId), t ≠ 37 → Boxed w9 j t v → j ≠ G := fun j v t ht hb e => by
    subst e
    have := hm.symm.trans hb
    simp only [Option.some.injEq, Obj.cells.injEq] at this
    exact ht this.2.1.symm
  have hgl := hBL.lt
  refine (appendSeq_any w1.heap.size G k bp br _ k _ (fun i => some ⟨g, i * wi, none⟩) (fun _ => wi) (fun _ => wi) _ (asks_within bw bl k wi g hk hs) (by omega) (Nat.le_refl _) w9 ⟨hp, hr, hw, hl⟩ ho (fun W hW => ⟨hw.kept hW (fun e => hne bw _ _ (by decide) hw (by cases e; rfl)), hl.kept hW (fun e => nl (by cases e; rfl))⟩)).mono ?_
  rintro e w' ⟨rfl, h1, h2⟩
  exact ⟨rfl, g, by omega, hg, by omega, (hB5.trans (hB9.mono hB5.size)).grown h2 (Nat.le_trans hB5.size hB9.size) (fun j e => by cases e; omega), hBL.kept ((h2.block g (Nat.lt_of_lt_of_le hgl hB9.size) (fun e => by cases e; omega)).trans (hB9.block g hgl)), h1⟩

theorem cut_endX (w1 w5 A w6 B w7 W9 : World) (f : Nat → Nat) (g G n0 nb n k wi T : Nat) (hT : T = k * wi) (hk : k ≤ 1000000) (hs : T ≤ 1000000) (hB5 : Below w1.heap.size w1 w5) (hg : w1.heap.size ≤ g) (hBL : Bl w5 g T T (cpy 0 n f fun _ => 0))
    (hA : Below w5.heap.size w5 A) (h6 : w6 = (A.alloc (.cells #[.slice (some ⟨g, 0, none⟩) T T] 37)).alloc (.cells #[.int .i64 (wi : Nat)] 3)) (h0 : n0 = A.heap.size) (hB : Below w6.heap.size w6 B)
    (h7 : w7 = (B.alloc (.cells #[.int .i64 (k : Nat)] 3)).alloc (.cells #[.func (.func 61) #[] #[.pointer (some ⟨n0 + 1, 0, none⟩), .pointer (some ⟨n0, 0, none⟩)]] 91)) (hb : nb = B.heap.size) (h9 : Below w7.heap.size w7 W9) (hG : w5.heap.size ≤ G)
    (hm : A.heap[G]? = some (.cells (madeCells #[.slice none 0 0] k) 37 (0, 0)) ∨ B.heap[G]? = some (.cells (madeCells #[.slice none 0 0] k) 37 (0, 0)) ∨ W9.heap[G]? = some (.cells (madeCells #[.slice none 0 0] k) 37 (0, 0))) :
    Calls Try.prog 46 #[.slice (some ⟨G, 0, none⟩) 0 k, .func (.func 60) #[] #[.pointer (some ⟨nb, 0, none⟩), .pointer (some ⟨nb + 1, 0, none⟩)]] W9 fun e w' => e = .returned (.slice (some ⟨G, 0, none⟩) k k) ∧ CutFin w1 f n k wi G w' := by
  subst h0 hb
  have hA6 : Below A.heap.size A w6 := by rw [h6]; exact ((Below.refl _ A).alloc (Nat.le_refl _) _).alloc (by rw [World.size_alloc]; omega) _
  have hB7 : Below B.heap.size B w7 := by rw [h7]; exact ((Below.refl _ B).alloc (Nat.le_refl _) _).alloc (by rw [World.size_alloc]; omega) _
  have l6 : Boxed w6 A.heap.size 37 (.slice (some ⟨g, 0, none⟩) T T) := by rw [h6]; exact (Boxed.new A 37 (.slice (some ⟨g, 0, none⟩) T T)).alloc _
  have k6 : Boxed w6 (A.heap.size + 1) 3 (.int .i64 (wi : Nat)) := by
    have := Boxed.new (A.alloc (.cells #[.slice (some ⟨g, 0, none⟩) T T] 37)) 3 (.int .i64 (wi : Nat))
    rw [World.size_alloc] at this; rw [h6]; exact this
  have p7 : Boxed w7 B.heap.size 3 (.int .i64 (k : Nat)) := by rw [h7]; exact (Boxed.new B 3 (.int .i64 (k : Nat))).alloc _
  have r7 : Boxed w7 (B.heap.size + 1) 91 (.func (.func 61) #[] #[.pointer (some ⟨A.heap.size + 1, 0, none⟩), .pointer (some ⟨A.heap.size, 0, none⟩)]) := by
    have := Boxed.new (B.alloc (.cells #[.int .i64 (k : Nat)] 3)) 91 (.func (.func 61) #[] #[.pointer (some ⟨A.heap.size + 1, 0, none⟩), .pointer (some ⟨A.heap.size, 0, none⟩)])
    rw [World.size_alloc] at this; rw [h7]; exact this
  have h69 : Below w6.heap.size w6 W9 := (hB.trans (hB7.mono hB.size)).trans (h9.mono (Nat.le_trans hB.size hB7.size))
  have h59 : Below w5.heap.size w5 W9 := (hA.trans (hA6.mono hA.size)).trans (h69.mono (Nat.le_trans hA.size hA6.size))
  have l9 : Boxed W9 A.heap.size 37 _ := (h69.block _ l6.lt).trans l6
  have k9 : Boxed W9 (A.heap.size + 1) 3 _ := (h69.block _ k6.lt).trans k6
  have p9 : Boxed W9 B.heap.size 3 _ := (h9.block _ p7.lt).trans p7
  have r9 : Boxed W9 (B.heap.size + 1) 91 _ := (h9.block _ r7.lt).trans r7
  have m9 : W9.heap[G]? = some (.cells (madeCells #[.slice none 0 0] k) 37 (0, 0)) := by
    rcases hm with h | h | h
    · have hl := (Array.getElem?_eq_some_iff.1 h).1
      exact (h69.block G (Nat.lt_of_lt_of_le hl hA6.size)).trans ((hA6.block G hl).trans h)
    · have hl := (Array.getElem?_eq_some_iff.1 h).1
      exact (h9.block G (Nat.lt_of_lt_of_le hl hB7.size)).trans ((hB7.block G hl).trans h)
    · exact h
  have nl : A.heap.size ≠ G := fun e => by
    have h := m9.symm.trans (e ▸ l9)
    simp only [Option.some.injEq, Obj.cells.injEq] at h
    have h1 := congrArg Array.toList h.1
    rw [toList_madeCells_one] at h1
    have h2 : Value.slice (some ⟨g, 0, none⟩) T T ∈ List.replicate k (Value.slice none 0 0) := by rw [h1]; exact List.mem_singleton.2 rfl
    have h3 := List.eq_of_mem_replicate h2
    cases h3
  exact cut_end w1 w5 W9 f g G A.heap.size (A.heap.size + 1) _ _ n k wi T hT hk hs hB5 hg hBL h59 hG l9 k9 p9 r9 m9 nl

set_option maxHeartbeats 1000000 in
theorem cut_bad (a : Option Addr) (n cap : Nat) (k : Int) (h : Bad n k) (w : World) :
    Calls Try.prog 39 #[.slice a n cap, .int .i64 k] w fun e w' => e = .returned (.tuple #[.slice none 0 0, .int .i64 2]) ∧ w' = w := by
  have H := Lib.hid h; clear h
  go_enter Try.func39, Try.ntmps39
  go_wp2_with fail
  refine (width_bad n k H.out _).mono ?_
  rintro e w1 ⟨rfl, rfl⟩
  go_wp2
  go_ret2
  exact ⟨rfl, rfl⟩

end Go.Proofs.Ytmjbgfjjlgpieaa.Sp

namespace Go.Proofs.Ytmjbgfjjlgpieaa.Sp
open Go.RowKit Go.Shelf
attribute [local go_sem] Oper.semAt_some

set_option maxHeartbeats 4000000 in
set_option maxRecDepth 100000 in
theorem cut_ok (a : Option Addr) (n cap k : Nat) (f : Nat → Nat) (hn : n ≤ 65535) (hk1 : 1 ≤ k) (hk2 : k ≤ 255) (w : World) (hS : Sl w a n cap f) :
    Calls Try.prog 39 #[.slice a n cap, .int .i64 (k : Nat)] w (CutSays w f n k) := by
  have hlo := wid_lo (L := n) hk1
  have hhi := wid_hi (L := n) hk1
  have hle := wid_le (L := n) hk1
  have hm : (k : Int) * ((wid n k : Nat) : Int) = ((k * wid n k : Nat) : Int) := by rw [Int.natCast_mul]
  have hb65 : k * wid n k ≤ 66000 := by omega
  obtain ⟨T, hT⟩ : ∃ T, T = k * wid n k := ⟨_, rfl⟩
  obtain ⟨wi, hwi⟩ : ∃ wi, wi = wid n k := ⟨_, rfl⟩
  rw [← hT] at hm hb65 hlo hhi
  rw [← hwi] at hm hle
  have hmk := hmk8 T (by omega)
  have HS := Lib.hid hS; have HT := Lib.hid hT; have HWI := Lib.hid hwi; have HLO := Lib.hid hlo; have HHI := Lib.hid hhi
  clear hS hT hwi hlo hhi
  go_enter Try.func39, Try.ntmps39
  go_wp2_with fail
  refine (width_ok n k hn hk1 hk2 _).mono ?_
  rw [← HWI.out]
  rintro e w1 ⟨rfl, rfl⟩
  have hz := Lib.hid (bl_made w1 T)
  have hsa := Lib.hid (HS.out.same ((Below.refl _ w1).alloc (Nat.le_refl _) (.cells (madeCells #[.int .u8 0] T) 5)))
  go_upto_region 6 with ((refine wpList_copy_bl (o := ⟨some 25, _, _, _, _, _⟩) rfl (.tmp 23) (.tmp 24) 37 37 rfl 5 Try.underlying37 Try.sizeU8 _ _ _ _ _ _ n rfl rfl ?_ w1.heap.size 0 T T _ _ hz.out (fun _ => hsa.out) (fun _ => rfl) ?_ (Nat.le_refl _) ?_))
  · exact (Nat.min_eq_left HHI.out).symm
  · have := HHI.out; omega
  intro w5 HBL HGR
  have HBe := Lib.hid ((((Below.refl _ w1).alloc (Nat.le_refl _) _).grown HGR.out (by simp) (fun j e => by cases e; exact Nat.le_refl _)) : Below w1.heap.size w1 w5)
  obtain ⟨g, hg⟩ : ∃ g, g = w1.heap.size := ⟨_, rfl⟩
  rw [← hg] at HBL ⊢
  have HGE := Lib.hid (show w1.heap.size ≤ g from Nat.le_of_eq hg.symm)
  clear hg HGR hz hsa hmk hm HS
  have hmr := hmkL k (by omega)
  go_wp2_with fail
  have HK2 := Lib.hid (show k ≤ 1000000 by omega)
  have HTW := Lib.hid (show T = k * wi by rw [HT.out, HWI.out])
  have HFN := Lib.hid (show ∀ G w', CutFin w1 f n k wi G w' → CutSays w1 f n k (.returned (.tuple #[.slice (some ⟨G, 0, none⟩) k k, .int .i64 0])) w' from fun G w' h => ⟨G, rfl, by rw [← HWI.out]; exact h⟩)
  go_region_with (first | (go_at_call 48; refine (within_any _ _ _ _).mono ?_; rintro e w6 ⟨rfl, hw6⟩; have HW6 := Lib.hid hw6; clear hw6) | (go_at_call 47; refine (told_any _ _ _ _).mono ?_; rintro e w7 ⟨rfl, hw7⟩; have HW7 := Lib.hid hw7; clear hw7) | (go_at_call 46; refine (cut_endX w1 w5 _ w6 _ w7 _ f g _ _ _ n k wi T HTW.out HK2.out (by omega) HBe.out HGE.out HBL.out (by first | exact Below.refl _ _ | exact (Below.refl _ _).drew | exact (Below.refl _ _).alloc (Nat.le_refl _) _ | exact ((Below.refl _ _).alloc (Nat.le_refl _) _).drew) HW6.out (by first | rfl | simp) (by first | exact Below.refl _ _ | exact (Below.refl _ _).drew | exact (Below.refl _ _).alloc (Nat.le_refl _) _ | exact ((Below.refl _ _).alloc (Nat.le_refl _) _).drew) HW7.out (by first | rfl | simp) (by first | exact Below.refl _ _ | exact (Below.refl _ _).drew | exact (Below.refl _ _).alloc (Nat.le_refl _) _ | exact ((Below.refl _ _).alloc (Nat.le_refl _) _).drew) ?_ (by first | exact .inl (heap_alloc_new _ _) | exact .inr (.inl (heap_alloc_new _ _)) | exact .inr (.inr (heap_alloc_new _ _)))).mono ?_; (have := congrArg (fun x : World => x.heap.size) HW6.out; have h2 := congrArg (fun x : World => x.heap.size) HW7.out; simp at this h2; omega); rintro e w8 ⟨rfl, hfin⟩; have HFIN := Lib.hid (HFN.out _ _ hfin); clear hfin))
  all_goals
    go_wp2
    go_ret2
    exact HFIN.out
end Go.Proofs.Ytmjbgfjjlgpieaa.Sp
