import Derived.Test.YtgflpfopiofjeaaGD
import Derived.Lib.QuietBelow
namespace Go.Proofs.Ytgflpfopiofjeaa
open Go.RowKit Go.Shelf

/-- what size answers: a number; if it is at most 900, no rows and no row are more than 900. -/
def SizeSays (n : Nat) (l : Nat → Nat) (e : Ending) : Prop := ∃ s : Nat, e = .returned (.int .i64 (s : Nat)) ∧ s ≤ 281474976710656 ∧ (s ≤ 900 → n ≤ 900 ∧ ∀ i, i < n → l i ≤ 900)

set_option maxHeartbeats 1000000 in
set_option maxRecDepth 100000 in
theorem size_any (a : Option Addr) (n cap : Nat) (r : Nat → Option Addr) (l c : Nat → Nat) (f : Nat → Nat → Nat) (hn : n ≤ 140737488355328) (hl : ∀ i, i < n → l i ≤ 140737488355328) (w : World) (hR : Rd w a n cap r l c f) :
    Calls Try.prog 7 #[.slice a n cap] w fun e w' => SizeSays n l e ∧ w' = w := by
  have HR := Lib.hid hR; have HL := Lib.hid hl; clear hR hl
  go_enter Try.func7, Try.ntmps7
  go_wp2_with fail
  go_loop [3, 4] (fun t i => ∃ k s : Nat, k ≤ n ∧ i = .int .i64 k ∧ t = .int .i64 s ∧ n ≤ s ∧ s ≤ 281474976710656 ∧ ∀ i, i < k → l i ≤ s) (fun _ i => n - (intOf i).toNat)
  case atStart => exact ⟨0, n, by omega, rfl, rfl, by omega, by omega, fun i hi => absurd hi (Nat.not_lt_zero i)⟩
  case round =>
    obtain ⟨k, s, hk, rfl, rfl, hns, hs, hev⟩ := hrel
    have HV := Lib.hid hev; clear hev
    by_cases hlt : k < n
    · have i1 : (k : Int) < (n : Int) := by omega
      by_cases h9 : s ≤ 900
      · have i2 : decide ((s : Int) ≤ 900) = true := by simp; omega
        obtain ⟨b, off, ea, hc⟩ := HR.out.at_ hlt
        have hlk := HL.out k hlt
        subst ea
        go_wp2_with fail
        go_round
        case rel => exact ⟨k + 1, s + l k, by omega, by go_num, by go_num, by omega, by omega, fun i hi => by
          by_cases e : i = k
          · rw [e]; omega
          · have := HV.out i (by omega); omega⟩
        case measure => simp [intOf]; omega
      · have i2 : decide ((s : Int) ≤ 900) = false := by simp; omega
        have H9 := Lib.hid h9; clear h9
        go_wp2
        go_ret
        exact ⟨⟨s, rfl, hs, fun h => absurd h H9.out⟩, rfl⟩
    · obtain rfl : k = n := by omega
      go_wp2
      go_ret
      exact ⟨⟨s, rfl, hs, fun h => ⟨by omega, fun i hi => Nat.le_trans (HV.out i hi) h⟩⟩, rfl⟩

set_option maxHeartbeats 1000000 in
set_option maxRecDepth 100000 in
theorem sameRows_any (a a' : Option Addr) (n cap cap' : Nat) (r r' : Nat → Option Addr) (l c l' c' : Nat → Nat) (f f' : Nat → Nat → Nat) (hn : n ≤ 1000000) (hl : ∀ i, i < n → l i ≤ 1000000) (w : World) (hR : Rd w a n cap r l c f) (hR' : Rd w a' n cap' r' l' c' f') (he : ∀ i, i < n → l' i = l i ∧ f' i = f i) :
    Calls Try.prog 19 #[.slice a n cap, .slice a' n cap'] w fun e w' => e = .returned (.bool true) ∧ ∃ q, w' = w.drewN q := by
  have HR := Lib.hid hR; have HR' := Lib.hid hR'; have HE := Lib.hid he; have HL := Lib.hid hl; clear hR hR' he hl
  have ht : (((n : Nat) : Int) != (n : Int)) = false := by simp
  go_enter Try.func19, Try.ntmps19
  go_wp2_with fail
  clear ht
  go_loopw [5] (fun i wr => ∃ k : Nat, k ≤ n ∧ i = .int .i64 k ∧ ∃ q, wr = w.drewN q) (fun i _ => n - (intOf i).toNat)
  case atStart => exact ⟨0, by omega, rfl, 0, rfl⟩
  case round =>
    rename_i wr
    obtain ⟨k, hk, rfl, q, hq⟩ := hrel
    have HQ := Lib.hid hq
    by_cases hkn : k < n
    · have i1 : (k : Int) < (n : Int) := by omega
      have hR1 : Rd wr a n cap r l c f := by rw [hq]; exact HR.out.drewN q
      have hR2 : Rd wr a' n cap' r' l' c' f' := by rw [hq]; exact HR'.out.drewN q
      obtain ⟨b1, o1, e1, c1⟩ := hR1.at_ hkn
      obtain ⟨b2, o2, e2, c2⟩ := hR2.at_ hkn
      subst e1 e2
      have s1 := hR1.row k hkn
      have s2 := hR2.row k hkn
      rw [(HE.out k hkn).1] at c2 s2
      rw [(HE.out k hkn).2] at s2
      have S1 := Lib.hid s1; have S2 := Lib.hid s2
      have hlk := HL.out k hkn
      clear hq hR1 hR2 s1 s2
      go_wp2_with fail
      go_quiet ((go_at_call 20; exact Calls.quiet_of (same_any (r k) (r' k) (l k) (c k) (c' k) (f k) (by omega) _ (S1.out.drewN _) (S2.out.drewN _))))
      go_wp2_with fail
      go_roundw
      case rel => exact ⟨k + 1, by omega, by go_num, _, by rw [HQ.out, World.drewN_drewN]⟩
      case measure => simp [intOf]; omega
    · obtain rfl : k = n := by omega
      clear hq
      go_wp2
      go_ret
      exact ⟨rfl, q, HQ.out⟩

/-- a matrix written out. -/
def matL (L : List (List Nat)) (i j : Nat) : Nat := (L.getD i []).getD j 0
theorem Bl.allocd {W : World} {g n cap : Nat} {h : Nat → Nat} (hb : Bl W g n cap h) (o : Obj) : Bl (W.alloc o) g n cap h := hb.kept (Below.heap_alloc W o g hb.lt)
theorem rd2 (w : World) (p q r s : Nat) (hp : p < 256) (hq : q < 256) (hr : r < 256) (hs : s < 256) :
    Rd (((w.alloc (.cells #[.int .u8 (p : Nat), .int .u8 (q : Nat)] 5)).alloc (.cells #[.int .u8 (r : Nat), .int .u8 (s : Nat)] 5)).alloc (.cells #[.slice (some ⟨w.heap.size, 0, none⟩) 2 2, .slice (some ⟨w.heap.size + 1, 0, none⟩) 2 2] 23))
      (some ⟨w.heap.size + 1 + 1, 0, none⟩) 2 2 (fun i => some ⟨w.heap.size + i, 0, none⟩) (fun _ => 2) (fun _ => 2) (matL [[p, q], [r, s]]) := by
  have b0 := ((Bl.alloc w [.int .u8 (p : Nat), .int .u8 (q : Nat)] (matL [[p, q], [r, s]] 0) (fun i hi => by
    have : i = 0 ∨ i = 1 := by simp at hi; omega
    rcases this with rfl | rfl <;> rfl)).allocd (.cells #[.int .u8 (r : Nat), .int .u8 (s : Nat)] 5)).allocd (.cells #[.slice (some ⟨w.heap.size, 0, none⟩) 2 2, .slice (some ⟨w.heap.size + 1, 0, none⟩) 2 2] 23)
  have b1 := (Bl.alloc (w.alloc (.cells #[.int .u8 (p : Nat), .int .u8 (q : Nat)] 5)) [.int .u8 (r : Nat), .int .u8 (s : Nat)] (matL [[p, q], [r, s]] 1) (fun i hi => by
    have : i = 0 ∨ i = 1 := by simp at hi; omega
    rcases this with rfl | rfl <;> rfl)).allocd (.cells #[.slice (some ⟨w.heap.size, 0, none⟩) 2 2, .slice (some ⟨w.heap.size + 1, 0, none⟩) 2 2] 23)
  rw [World.size_alloc] at b1
  have hb : Mt.Bm (matL [[p, q], [r, s]]) := fun i j => by
    unfold matL
    rcases i with _ | _ | i <;> rcases j with _ | _ | j <;> simp <;> omega
  have hu : ∀ i, i < 2 → Pf.Up (matL [[p, q], [r, s]] i) 2 := fun i hi j hj => by
    unfold matL
    rcases (show i = 0 ∨ i = 1 by omega) with rfl | rfl <;> simp <;> (rcases j with _ | _ | j <;> simp_all)
  refine ⟨Nat.le_refl _, by unfold maxLen; omega, hb, fun e => (by cases e), fun ad e _ => (by cases e; rfl), fun ad e i hi => ?_, fun i hi => ?_⟩
  · cases e
    have := World.cell?_alloc_new ((w.alloc (.cells #[.int .u8 (p : Nat), .int .u8 (q : Nat)] 5)).alloc (.cells #[.int .u8 (r : Nat), .int .u8 (s : Nat)] 5)) #[.slice (some ⟨w.heap.size, 0, none⟩) 2 2, .slice (some ⟨w.heap.size + 1, 0, none⟩) 2 2] 23 i
    rw [World.size_alloc, World.size_alloc] at this
    show World.cell? _ ⟨w.heap.size + 1 + 1, 0 + i, none⟩ = _
    rw [Nat.zero_add, this]
    rcases (show i = 0 ∨ i = 1 by omega) with rfl | rfl <;> rfl
  · rcases (show i = 0 ∨ i = 1 by omega) with rfl | rfl
    · exact b0.sl (Nat.le_refl _) (by unfold maxLen; simp) (hb 0) (hu 0 (by omega))
    · exact b1.sl (Nat.le_refl _) (by unfold maxLen; simp) (hb 1) (hu 1 (by omega))
theorem isM2 : IsM 2 (fun _ => 2) := ⟨fun _ _ => rfl, by omega, by decide⟩
theorem wd2 : wd 2 (fun _ => 2) = 2 := rfl
theorem awake_rk1 : Mt.rk 2 2 (matL [[1, 1], [0, 2]]) = 2 := by decide +kernel
theorem awake_rk2 : Mt.rk 2 2 (matL [[1, 1], [1, 1]]) = 1 := by decide +kernel
theorem awake_inv' : ∀ i, i < 2 → ∀ j, j < 2 → Mt.inv (matL [[1, 1], [0, 2]]) 2 i j = matL [[1, 142], [0, 142]] i j := by decide +kernel
end Go.Proofs.Ytgflpfopiofjeaa
