import Derived.Lib.MakeNoZero
import Derived.Laws.Externs
import Derived.Test.YtjlmajopfeplpaaMg11
namespace Go.Proofs.Ytjlmajopfeplpaa
open Go.RowKit Go.Shelf

/-- as many bytes as were made, whatever they are. -/
theorem nozero (w : World) (T : Nat) (hT : T ≤ 280000000000000) : ∃ cs : Array Value, (callFunc 59 #[.int .i64 (T : Nat)]).run Try.prog w = .ok (.value (.slice (some ⟨w.heap.size, 0, none⟩) T cs.size)) ((w.alloc (.cells cs 5)).drewN 2) ∧ T ≤ cs.size ∧ cs.size ≤ maxLen := by
  obtain ⟨cs, hr, h1, h2⟩ := Lib.run_makeNoZero (P := Try.prog) w #[3] 27 5 Try.underlying27 T (by omega)
  refine ⟨cs, ?_, h1, h2 (by unfold maxLen; omega)⟩
  rw [run_callFunc_extern Try.func59 (by kernel_rfl) (by kernel_rfl) (by kernel_rfl) (e := Extern.BytealgMakeNoZero.makeNoZero #[3] #[27]) (by kernel_rfl), hr]
  rfl
theorem bl_none {w : World} {g : Nat} {cs : Array Value} (h : w.heap[g]? = some (.cells cs 5 (0, 0))) : Bl w g 0 cs.size (fun _ => 0) := ⟨cs, h, rfl, fun _ hi => absurd hi (Nat.not_lt_zero _)⟩

/-- where the second row is laid. -/
def JTwo (w w2 : World) (n m T C : Nat) (f h : Nat → Nat) (s i : Value) (wr : World) : Prop := (s = .int .i64 n ∧ i = .int .i64 0 ∧ wr = w2) ∨ (s = .int .i64 T ∧ i = .int .i64 1 ∧ Bl wr w.heap.size T C (cpy n m h (cpy 0 n f (fun _ => 0))) ∧ Below w.heap.size w wr)
/-- how long the first ones are. -/
def JLen (n m : Nat) (s i : Value) : Prop := (s = .int .i64 0 ∧ i = .int .i64 0) ∨ (s = .int .i64 n ∧ i = .int .i64 1) ∨ (s = .int .i64 ((n + m : Nat) : Int) ∧ i = .int .i64 2)
def JLeft (n : Nat) (i : Value) : Nat := n - (intOf i).toNat
set_option maxHeartbeats 2000000 in
set_option maxRecDepth 100000 in
theorem join_two (L : Nat) (a : Option Addr) (n cap : Nat) (f : Nat → Nat) (a2 : Option Addr) (m c2 : Nat) (h : Nat → Nat) (hn : n ≤ 100000000000) (hm : m ≤ 100000000000) (hm0 : 0 < m) (w : World)
    (h0 : w.cell? ⟨L, 0, none⟩ = some (.slice a n cap)) (h1 : w.cell? ⟨L, 1, none⟩ = some (.slice a2 m c2)) (hS : Sl w a n cap f) (hS2 : Sl w a2 m c2 h) :
    Calls Try.prog 40 #[.slice (some ⟨L, 0, none⟩) 2 2, .slice none 0 0] w (fun e w' => ∃ g C, e = .returned (.slice (some ⟨g, 0, none⟩) (n + m) (n + m)) ∧ w.heap.size ≤ g ∧ n + m ≤ C ∧ Bl w' g (n + m) C (cpy n m h (cpy 0 n f (fun _ => 0))) ∧ Below w.heap.size w w') := by
  have HS := Lib.hid hS; have HS2 := Lib.hid hS2; clear hS hS2
  have H0 := Lib.hid h0; have H1 := Lib.hid h1
  go_enter Try.func40, Try.ntmps40
  go_wp2_with fail
  go_loop [5, 44] (fun s i => JLen n m s i) (fun _ i => JLeft 2 i)
  case atStart => exact Or.inl ⟨rfl, rfl⟩
  case round =>
    rcases hrel with ⟨rfl, rfl⟩ | ⟨rfl, rfl⟩ | ⟨rfl, rfl⟩
    · go_wp2_with fail
      go_round
      case rel => exact Or.inr (Or.inl ⟨by go_num, by go_num⟩)
      case measure => unfold JLeft; simp [intOf]
    · go_wp2_with fail
      go_round
      case rel => exact Or.inr (Or.inr ⟨by go_num, by go_num⟩)
      case measure => unfold JLeft; simp [intOf]
    · obtain ⟨T, hT⟩ : ∃ T, T = n + m := ⟨_, rfl⟩
      rw [← hT]
      have HT := Lib.hid hT; 
      obtain ⟨cs, hcall, h1', h2'⟩ := nozero w T (by omega)
      have HL1 := Lib.hid h1'; have HL2 := Lib.hid h2'
      have i0 : (0 : Int) ≤ (T : Int) := by omega
      have i1 : (T : Int) ≤ (cs.size : Int) := by omega
      clear hT h1' h2'
      have HW1 := Lib.hid (show Below w.heap.size w ((w.alloc (.cells cs 5)).drewN 2) from below_dr ((Below.refl _ w).alloc (Nat.le_refl _) _) 2)
      have HBN := Lib.hid (show Bl ((w.alloc (.cells cs 5)).drewN 2) w.heap.size 0 cs.size (fun _ => 0) from bl_none (heap_alloc_new w _))
      obtain ⟨w1, hw1⟩ : ∃ w1, w1 = (w.alloc (.cells cs 5)).drewN 2 := ⟨_, rfl⟩
      rw [← hw1] at hcall HW1 HBN
      have hc0 : w1.cell? ⟨L, 0, none⟩ = some (.slice a n cap) := by rw [HW1.out.cell (p := ⟨L, 0, none⟩) (World.block_lt_of_cell? _ _ H0.out)]; exact H0.out
      clear hw1 h0 h1
      obtain ⟨w2, hr2, hBL, hGR⟩ := run_copy_on (P := Try.prog) w1 27 27 3 5 Try.underlying27 Try.sizeU8 (some ⟨w.heap.size, 0, none⟩) a T T n cap n (show n = min n T by have := HT.out; omega) w.heap.size 0 cs.size (fun _ => 0) f HBN.out (fun _ => HS.out.same HW1.out) (fun _ => rfl) (by have := HT.out; have := HL1.out; omega)
      rw [Nat.zero_add] at hBL
      have HBL := Lib.hid hBL; clear hBL
      have HW2 := Lib.hid (show Below w.heap.size w w2 from HW1.out.grown hGR HW1.out.size (fun g e => by cases e; exact Nat.le_refl _))
      have hc1 : w2.cell? ⟨L, 1, none⟩ = some (.slice a2 m c2) := by rw [HW2.out.cell (p := ⟨L, 1, none⟩) (World.block_lt_of_cell? _ _ H1.out)]; exact H1.out
      clear hGR
      obtain ⟨w3, hr3, hBL3, hGR3⟩ := run_copy_on (P := Try.prog) w2 27 27 3 5 Try.underlying27 Try.sizeU8 (some ⟨w.heap.size, n, none⟩) none (T - n) (T - n) 0 0 0 (Nat.zero_min _).symm w.heap.size n cs.size (cpy 0 n f (fun _ => 0)) h HBL.out (fun h => absurd h (Nat.lt_irrefl 0)) (fun h => absurd h (Nat.lt_irrefl 0)) (by have := HT.out; have := HL1.out; omega)
      rw [Nat.add_zero, cpy_zero] at hBL3
      have HBL3 := Lib.hid hBL3; clear hBL3
      have HW3 := Lib.hid (show Below w.heap.size w w3 from HW2.out.grown hGR3 HW2.out.size (fun g e => by cases e; exact Nat.le_refl _))
      clear hGR3
      obtain ⟨w4, hr4, hBL4, hGR4⟩ := run_copy_on (P := Try.prog) w3 27 27 3 5 Try.underlying27 Try.sizeU8 (some ⟨w.heap.size, n, none⟩) a2 (T - n) (T - n) m c2 m (show m = min m (T - n) by have := HT.out; omega) w.heap.size n cs.size (cpy 0 n f (fun _ => 0)) h HBL3.out (fun _ => HS2.out.same HW3.out) (fun _ => rfl) (by have := HT.out; have := HL1.out; omega)
      rw [← HT.out] at hBL4
      have HBL4 := Lib.hid hBL4; clear hBL4
      have HW4 := Lib.hid (show Below w.heap.size w w4 from HW3.out.grown hGR4 HW3.out.size (fun g e => by cases e; exact Nat.le_refl _))
      clear hGR4 HBN HBL HBL3
      change _ = Result.ok (Value.int .i64 (n : Nat)) w2 at hr2
      change _ = Result.ok (Value.int .i64 0) w3 at hr3
      change _ = Result.ok (Value.int .i64 (m : Nat)) w4 at hr4
      have i2 : (n : Int) ≤ (T : Int) := by have := HT.out; omega
      have i3 : ¬ T = n := by have := HT.out; omega
      have i4 : ¬ n = T := by have := HT.out; omega
      have i5 : (n : Int) + (m : Int) = (T : Int) := by have := HT.out; omega
      go_wp2_with fail
      go_loopw [9, 72] (fun s i wr => JTwo w w2 n m T cs.size f h s i wr) (fun _ i _ => JLeft 1 i)
      case atStart => exact Or.inl ⟨rfl, rfl, rfl⟩
      case round =>
        rename_i wr
        rcases hrel with ⟨rfl, rfl, rfl⟩ | ⟨rfl, rfl, hb, hB⟩
        · go_wp2_with fail
          go_roundw
          case rel => exact Or.inr ⟨by go_num, by go_num, HBL4.out, HW4.out⟩
          case measure => unfold JLeft; simp [intOf]
        · have HBB := Lib.hid hb; have HBE := Lib.hid hB; clear hb hB
          go_wp2
          go_ret
          exact ⟨w.heap.size, cs.size, (by show Ending.returned (.slice (some ⟨w.heap.size, 0, none⟩) T T) = _; rw [HT.out]), Nat.le_refl _, by rw [← HT.out]; exact HL1.out, by rw [← HT.out]; exact HBB.out, HBE.out⟩
end Go.Proofs.Ytjlmajopfeplpaa
