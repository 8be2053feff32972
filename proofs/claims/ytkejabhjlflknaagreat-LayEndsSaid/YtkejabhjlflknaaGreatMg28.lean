import Derived.Lib.QuietBelow
import Derived.Laws.AppendOwnNone
import Derived.Test.YtkejabhjlflknaaGreatMg8
namespace Go.Proofs.YtkejabhjlflknaaGreat
open Go.RowKit Go.Shelf

theorem Block.bl {w : World} {g len : Nat} {f : Nat → Nat} (h : Block w g (lentC (ints f len) 12) 5) : Bl w g len (len + 12) f :=
  ⟨_, h, by rw [List.size_toArray, lentC_len, ints_len], fun i hi => by
    rw [List.getElem?_toArray, lentC_lo (n := 12) (by rw [ints_len]; exact hi), ints_get hi]⟩
theorem Block.kept {w w' : World} {g : Nat} {vs : List Value} {e : TypeId} (h : Block w g vs e) (hk : w'.heap[g]? = w.heap[g]?) : Block w' g vs e := hk.trans h
theorem Block.same {w w' : World} {g : Nat} {vs : List Value} {e : TypeId} (h : Block w g vs e) (hB : Below w.heap.size w w') : Block w' g vs e := h.kept (hB.block g h.lt)
/-- what an append to a list of rows leaves of a block of bytes. -/
theorem app_keeps {w w1 w2 : World} {B k cap G' cap' : Nat} {a : Option Addr} {xs : List Value} (ho : w.ownsRow B 50 1 (.slice a k cap) k xs) (hW : Below w.heap.size w w1)
    (hc : a = some ⟨G', 0, none⟩ ∧ cap' = cap ∧ w1.grownBy w2 (some G') ∨ w1.heap.size ≤ G' ∧ w1.grownBy w2 none) {y m cp : Nat} {z : Nat → Nat} (hz : Bl w1 y m cp z) : w2.heap[y]? = w1.heap[y]? := by
  rcases hc with ⟨e, _, hgr⟩ | ⟨hG, hgr⟩
  · refine hgr.block y hz.lt (fun e2 => ?_)
    injection e2 with e2
    subst e
    exact own_ne_bl (own_below ho hW) hz e2
  · exact hgr.block y hz.lt (by simp)

/-- rows that were lent: each a block that holds its bytes, and marks behind. -/
def Lent (w : World) (n : Nat) (b l : Nat → Nat) (f : Nat → Nat → Nat) : Prop := ∀ i, i < n → Block w (b i) (lentC (ints (f i) (l i)) 12) 5
theorem Lent.same {w w' : World} {n : Nat} {b l : Nat → Nat} {f : Nat → Nat → Nat} (h : Lent w n b l f) (hB : Below w.heap.size w w') : Lent w' n b l f := fun i hi => (h i hi).same hB

set_option maxHeartbeats 2000000 in
set_option maxRecDepth 100000 in
theorem lentRows_any (a : Option Addr) (n cap : Nat) (r : Nat → Option Addr) (l c : Nat → Nat) (f : Nat → Nat → Nat) (hn : n ≤ 1000000) (hl : ∀ i, i < n → l i ≤ 1000000) (w : World) (hR : Rd w a n cap r l c f) :
    Calls Tryz.prog 8 #[.slice a n cap] w fun e w' => ∃ pa pc b, e = .returned (.slice pa n pc) ∧ Go_ w' w.heap.size pa n pc b l (fun i => l i + 12) f ∧ Lent w' n b l f ∧ Below w.heap.size w w' := by
  obtain ⟨i0, hi', hz0', hz1', hz2'⟩ := info_parts Tryz.infoRow
  have HI := Lib.hid hi'; have HZ0 := Lib.hid hz0'; have HZ1 := Lib.hid hz1'; have HZ2 := Lib.hid hz2'
  have HR := Lib.hid hR; have HL := Lib.hid hl
  clear hi' hz0' hz1' hz2' hR hl
  have hp0 : Pr w w.heap.size none 0 0 (fun _ => 0) l (fun i => l i + 12) f := (pr_none w w.heap.size (fun _ => 0) l (fun i => l i + 12)).congr (fun _ _ => rfl) (fun _ _ => rfl) HR.out.bm (fun i _ hi => absurd hi (Nat.not_lt_zero i))
  have HP0 := Lib.hid hp0; clear hp0
  have HB0 := Lib.hid (Below.refl w.heap.size w)
  go_enter Tryz.func8, Tryz.ntmps8
  go_wp2_with fail
  go_loopw [3, 4] (fun v i wr => ∃ (k : Nat) (pa : Option Addr) (pc : Nat) (b : Nat → Nat), k ≤ n ∧ i = .int .i64 k ∧ v = .slice pa k pc ∧ Pr wr w.heap.size pa k pc b l (fun i => l i + 12) f ∧ Lent wr k b l f ∧ Below w.heap.size w wr) (fun _ i _ => n - (intOf i).toNat)
  case atStart => exact ⟨0, none, 0, fun _ => 0, by omega, rfl, rfl, HP0.out, fun i hi => absurd hi (Nat.not_lt_zero i), HB0.out⟩
  case round =>
    rename_i wr
    obtain ⟨k, pa, pc, b, hk, rfl, rfl, hP, hLe, hB⟩ := hrel
    have HP := Lib.hid hP; have HB := Lib.hid hB; have HLE := Lib.hid hLe
    clear hP hB hLe
    by_cases hkn : k < n
    · have i1 : (k : Int) < (n : Int) := by omega
      have ra := HR.out.same HB.out
      obtain ⟨ab, ao, ea, ca⟩ := ra.at_ hkn
      have HROW := Lib.hid (ra.row k hkn)
      have hlk := HL.out k hkn
      subst ea
      clear ra
      go_wp2_with fail
      refine (lentS_any (r k) (l k) (c k) (f k) wr HROW.out (by omega)).mono ?_
      rintro e w1 ⟨rfl, hbl, hB1⟩
      have HBK := Lib.hid hbl; have HB1 := Lib.hid hB1; clear hbl hB1 ca
      have hw := HB.out.size
      have hs1 := HB1.out.size
      go_wp2_with ((refine wpList_append_bag _ rfl (.tmp 11) (.tmp 17) 22 rfl w.heap.size 50 i0 (.slice none 0 0) 24 Tryz.underlying22 HI.out HZ0.out HZ1.out HZ2.out rfl pa k pc ((List.range k).map fun i => Value.slice (some ⟨b i, 0, none⟩) (l i) (l i + 12)) rfl (own_below (own_below HP.out.own HB1.out) ((Below.refl _ _).alloc (Nat.le_refl _) _)) ⟨w1.heap.size, 0, none⟩ 1 1 [.slice (some ⟨wr.heap.size, 0, none⟩) (l k) (l k + 12)] rfl rfl (cell_new1 _ _ _) (fun u hu => by rw [List.mem_singleton.1 hu]; rfl) (by omega) (by unfold maxLen; omega) (by omega) (by simp; omega) ?_); intro g' cap' w2 hown hc hlt; have HO := Lib.hid hown; have HC := Lib.hid hc; clear hown hc hlt)
      have hb2 : Below wr.heap.size wr (w1.alloc (.cells #[.slice (some ⟨wr.heap.size, 0, none⟩) (l k) (l k + 12)] 50)) := HB1.out.alloc HB1.out.size _
      have hbk2 : Block (w1.alloc (.cells #[.slice (some ⟨wr.heap.size, 0, none⟩) (l k) (l k + 12)] 50)) wr.heap.size (lentC (ints (f k) (l k)) 12) 5 := HBK.out.same ((Below.refl _ _).alloc (Nat.le_refl _) _)
      have hst := HP.out.step hb2 hbk2.bl (Nat.le_refl _) hw ⟨by omega, by unfold maxLen; omega⟩ (HR.out.bm k) (HROW.out.up) HO.out HC.out
      have HST := Lib.hid (hst.congr (l' := l) (c' := fun i => l i + 12) (f' := f) (fun i _ => by
        show (if i = k then l k else l i) = l i
        split
        · rename_i e; rw [e]
        · rfl) (fun i _ => by
        show (if i = k then l k + 12 else l i + 12) = l i + 12
        split
        · rename_i e; rw [e]
        · rfl) HR.out.bm (fun i j _ => by
        show (if i = k then f k j else f i j) = f i j
        split
        · rename_i e; rw [e]
        · rfl))
      have HLE2 := Lib.hid (show Lent w2 (k + 1) (fun i => if i = k then wr.heap.size else b i) l f from fun i hi => by
        by_cases e : i = k
        · subst e
          simp only [if_true]
          exact hbk2.kept (app_keeps HP.out.own hb2 HC.out hbk2.bl)
        · simp only [if_neg e]
          have h1 := (HLE.out i (by omega)).same hb2
          exact h1.kept (app_keeps HP.out.own hb2 HC.out h1.bl))
      have HB2 := Lib.hid (below_apn (HB.out.trans (hb2.mono hw)) (by have := hb2.size; omega) HC.out (fun g e => by subst e; exact (HP.out.own.lt g rfl).1))
      clear hb2 hst hbk2
      go_wp2_with fail
      go_roundw
      case rel => exact ⟨k + 1, _, _, _, by omega, by go_num, rfl, HST.out, HLE2.out, HB2.out⟩
      case measure => simp [intOf]; omega
    · obtain rfl : k = n := by omega
      go_wp2
      go_ret
      exact ⟨pa, pc, b, rfl, HP.out.go, HLE.out, HB.out⟩

set_option maxHeartbeats 1000000 in
set_option maxRecDepth 100000 in
theorem keptRows_any (a a' : Option Addr) (n cap cap' B : Nat) (b : Nat → Nat) (r' : Nat → Option Addr) (l c' : Nat → Nat) (f : Nat → Nat → Nat) (hn : n ≤ 1000000) (hl : ∀ i, i < n → l i ≤ 1000000) (w : World) (hG : Go_ w B a n cap b l (fun i => l i + 12) f) (hLe : Lent w n b l f) (hR' : Rd w a' n cap' r' l c' f) :
    Calls Tryz.prog 13 #[.slice a n cap, .slice a' n cap'] w fun e w' => e = .returned (.bool true) ∧ ∃ q, w' = w.drewN q := by
  have HG := Lib.hid hG; have HR' := Lib.hid hR'; have HLE := Lib.hid hLe; have HL := Lib.hid hl; clear hG hR' hLe hl
  have ht : (((n : Nat) : Int) != (n : Int)) = false := by simp
  go_enter Tryz.func13, Tryz.ntmps13
  go_wp2_with fail
  clear ht
  go_loopw [5] (fun i wr => ∃ k : Nat, k ≤ n ∧ i = .int .i64 k ∧ ∃ q, wr = w.drewN q) (fun i _ => n - (intOf i).toNat)
  case atStart => exact ⟨0, by omega, rfl, 0, rfl⟩
  case round =>
    rename_i wr
    obtain ⟨k, hk, rfl, q, hq⟩ := hrel
    have HQ := Lib.hid hq
    by_cases hkn : k < n
    · have i1 : (k : Int) < (n : Int) := by omega
      have hR1 : Rd wr a n cap (fun i => some ⟨b i, 0, none⟩) l (fun i => l i + 12) f := by rw [hq]; exact HG.out.rd.drewN q
      have hR2 : Rd wr a' n cap' r' l c' f := by rw [hq]; exact HR'.out.drewN q
      have hK : Block wr (b k) (lentC (ints (f k) (l k)) 12) 5 := by rw [hq]; exact HLE.out k hkn
      obtain ⟨b1, o1, e1, c1⟩ := hR1.at_ hkn
      obtain ⟨b2, o2, e2, c2⟩ := hR2.at_ hkn
      subst e1 e2
      have S2 := Lib.hid (hR2.row k hkn); have HK := Lib.hid hK
      have hlk := HL.out k hkn
      clear hq hR1 hR2 hK
      go_wp2_with fail
      go_quiet ((go_at_call 37; exact Calls.quiet_of (keptS_any (b k) (r' k) (l k) (c' k) (f k) _ (S2.out.drewN _) HK.out (by omega))))
      go_wp2_with fail
      go_roundw
      case rel => exact ⟨k + 1, by omega, by go_num, _, by rw [HQ.out, World.drewN_drewN]⟩
      case measure => simp [intOf]; omega
    · obtain rfl : k = n := by omega
      clear hq
      go_wp2
      go_ret
      exact ⟨rfl, q, HQ.out⟩
end Go.Proofs.YtkejabhjlflknaaGreat
