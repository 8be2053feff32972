import Derived.Laws.AppendOwnNone
import Derived.Test.YtkejabhjlflknaaGreatMg6
namespace Go.Proofs.YtkejabhjlflknaaGreat
open Go.RowKit Go.Shelf

theorem up_less {f : Nat → Nat} {k : Nat} (h : Pf.Up f (k + 1)) (h0 : f k = 0) : Pf.Up f k := fun i hi => by
  rcases Nat.lt_or_ge k i with hl | hl
  · exact h i (by omega)
  · obtain rfl : i = k := by omega
    exact h0
theorem Sl.cut {w : World} {a : Option Addr} {len cap : Nat} {f : Nat → Nat} (h : Sl w a len cap f) {k : Nat} (hk : k ≤ len) (hu : Pf.Up f k) : Sl w a k cap f :=
  ⟨Nat.le_trans hk h.capOk, h.maxOk, h.bytes, hu, fun e => ⟨by have := (h.nil e).1; omega, (h.nil e).2⟩, fun ad e hn => h.spot ad e (by omega), fun ad e i hi => h.cell ad e i (by omega)⟩

set_option maxHeartbeats 1000000 in
set_option maxRecDepth 100000 in
theorem rlean_any (a : Option Addr) (len cap : Nat) (f : Nat → Nat) (hm : len ≤ 1000000000000) (w : World) (hS : Sl w a len cap f) :
    Calls Tryz.prog 127 #[.slice a len cap] w (Gives w (Pf.ln f len) f) := by
  have HS := Lib.hid hS
  have hcap := hS.capOk
  have hmax := hS.maxOk
  unfold maxLen at hmax
  clear hS
  obtain ⟨i0, hi, hz0, hz1, hz2⟩ := info_parts Tryz.infoU8
  have HI := Lib.hid hi; have HZ0 := Lib.hid hz0; have HZ1 := Lib.hid hz1; have HZ2 := Lib.hid hz2
  clear hi hz0 hz1 hz2
  go_enter Tryz.func127, Tryz.ntmps127
  go_wp2_with fail
  go_loop [3] (fun n => ∃ k : Nat, k ≤ len ∧ n = .int .i64 k ∧ Pf.Up f k) (fun n => (intOf n).toNat)
  case atStart => exact ⟨len, Nat.le_refl _, rfl, HS.out.up⟩
  case round =>
    obtain ⟨k, hk, rfl, hu⟩ := hrel
    have HU := Lib.hid hu; clear hu
    by_cases hgo : ∃ j, k = j + 1 ∧ f j = 0
    · obtain ⟨j, rfl, h0⟩ := hgo
      obtain ⟨b, off, e1, c1⟩ := HS.out.at_ (k := j) (by omega)
      have g0 : (((f j : Nat) : Int) == 0) = true := by simp [h0]
      have H0 := Lib.hid h0
      have E1 := Lib.hid e1
      subst e1
      clear h0
      have i1 : (j : Int) < (len : Int) := by omega
      have i2 : decide ((0 : Int) < (j : Int) + 1) = true := decide_eq_true (by omega)
      go_wp2_with fail
      go_round
      case rel => exact ⟨j, by omega, by go_num, up_less HU.out H0.out⟩
      case measure => simp [intOf]
    · have HK := Lib.hid (show k = 0 ∨ f (k - 1) ≠ 0 by
        rcases Nat.eq_zero_or_pos k with e | e
        · exact Or.inl e
        · exact Or.inr (fun h => hgo ⟨k - 1, by omega, h⟩))
      have HLN := Lib.hid (ln_of HS.out.up (fun i h1 _ => HU.out i h1) HK.out)
      clear hgo
      have HB := Lib.hid ((Below.refl w.heap.size w).alloc (Nat.le_refl _) (.cells #[] 5))
      have SC := Lib.hid ((HS.out.cut hk HU.out).same HB.out)
      have hE : Nw (w.alloc (.cells #[] 5)) w.heap.size (some ⟨w.heap.size, 0, none⟩) 0 0 (fun _ => 0) :=
        Nw.of_bl (Bl.alloc w [] (fun _ => 0) (fun i hi => by simp at hi)) (Nat.le_refl _) (by unfold maxLen; omega) (fun _ => by show 0 < 256; omega) (fun _ _ => rfl) (Nat.le_refl _)
      have HE := Lib.hid hE; clear hE
      rcases Nat.eq_zero_or_pos k with e | e
      · subst e
        have HF0 := Lib.hid (show (fun _ => 0) = f from funext fun i => (HU.out i (by omega)).symm)
        have i1 : decide ((0 : Int) < 0) = false := rfl
        clear HK
        cases a with
        | none =>
          obtain ⟨rfl, rfl⟩ := HS.out.nil rfl
          go_wp2
          go_ret
          rw [HLN.out, ← HF0.out]
          exact ⟨_, 0, rfl, HE.out, HB.out⟩
        | some ad =>
          go_wp2
          go_ret
          rw [HLN.out, ← HF0.out]
          exact ⟨_, 0, rfl, HE.out, HB.out⟩
      · obtain ⟨j, rfl⟩ : ∃ j, k = j + 1 := ⟨k - 1, by omega⟩
        obtain ⟨b, off, e1, c1⟩ := HS.out.at_ (k := j) (by omega)
        have h0 : f j ≠ 0 := by have := HK.out.resolve_left (by omega); simpa using this
        have g0 : (((f j : Nat) : Int) == 0) = false := by simp; omega
        have i1 : (j : Int) < (len : Int) := by omega
        have i2 : decide ((0 : Int) < (j : Int) + 1) = true := decide_eq_true (by omega)
        have i3 : (j : Int) + 1 ≤ (cap : Int) := by omega
        subst e1
        clear HK h0
        go_wp2_with (at_builtin; refine wpList_append_own _ rfl _ _ 50 rfl w.heap.size 5 i0 (.int .u8 0) 1 1 Tryz.underlying50 HI.out HZ0.out HZ1.out HZ2.out rfl (by decide) _ 0 [] rfl (World.ownsRow_made w #[] 0 (Nat.le_refl _) (by unfold maxLen; omega) rfl) ⟨b, off, none⟩ (j + 1) cap ((List.range (j + 1)).map fun i => Value.int .u8 (f i : Nat)) rfl (by simp) (Sl.reads SC.out _ rfl) (ones_map _ _) (by unfold maxLen; omega) (by omega) (by simp) ?_; intro v' w1 hown hgrow _; rw [Nat.zero_add, List.nil_append] at hown; have HO := Lib.hid (owns_new hown HS.out.bytes HU.out); have HB1 := Lib.hid (HB.out.grown hgrow (by simp) (by intro k hk; cases hk; exact Nat.le_refl _)); clear hown hgrow)
        obtain ⟨a1, cap1, e, hN⟩ := HO.out
        subst e
        go_ret
        rw [HLN.out]
        exact ⟨a1, cap1, rfl, hN, HB1.out⟩
end Go.Proofs.YtkejabhjlflknaaGreat
