import Derived.Test.YtgflpfopiofjeaaH4
namespace Go.Proofs.Ytgflpfopiofjeaa
open Go.RowKit Go.Shelf

/-- what a call answers that hands out a row of bytes, put one by one, and no error. -/
def PutsR (w : World) (n : Nat) (f : Nat → Nat) (e : Ending) (w' : World) : Prop :=
  ∃ a cap, e = .returned (.tuple #[.slice a n cap, .int .i64 0]) ∧ Nw w' w.heap.size a n cap f ∧ Below w.heap.size w w'

set_option maxHeartbeats 1000000 in
theorem rapply_no (a va : Option Addr) (n cap m vc : Nat) (r : Nat → Option Addr) (l c : Nat → Nat) (f : Nat → Nat → Nat) (hn : n ≤ 1000000000000) (w : World) (hR : Rd w a n cap r l c f) (hM : ¬ (IsM n l ∧ wd n l = m)) :
    Calls Try.prog 16 #[.slice a n cap, .slice va m vc] w (Refuses w 2) := by
  have HR := Lib.hid hR; clear hR
  by_cases h : IsM n l
  · have i1 := ne_yes (fun hm : wd n l = m => hM ⟨h, hm⟩)
    have HM := Lib.hid h
    clear hM h
    go_enter Try.func16, Try.ntmps16
    go_wp2_with fail
    refine (rright_yes a n cap r l c f _ HR.out HM.out).mono ?_
    rintro e w1 ⟨rfl, q, rfl⟩
    go_wp2_with fail
    refine (rcolumns_any a n cap r l c f _ (HR.out.drewN _)).mono ?_
    rintro e w3 ⟨rfl, rfl⟩
    go_wp2
    go_ret2
    exact ⟨rfl, below_dr (Below.refl _ _) _⟩
  · have HM := Lib.hid h; clear hM h
    go_enter Try.func16, Try.ntmps16
    go_wp2_with fail
    refine (rright_no a n cap r l c f hn _ HR.out HM.out).mono ?_
    rintro e w1 ⟨rfl, q, rfl⟩
    go_wp2
    go_ret2
    exact ⟨rfl, below_dr (Below.refl _ _) _⟩

theorem dots_rowv (f : Nat → Nat → Nat) (g : Nat → Nat) (m n : Nat) : ∀ k, k ≤ n → rowv (dots f g m n) (k + 1) = rowv (dots f g m n) k ++ [.int .u8 (dots f g m n k : Nat)] := fun k _ => rowv_succ _ k

set_option maxHeartbeats 2000000 in
set_option maxRecDepth 100000 in
theorem rapply_yes (a va : Option Addr) (n cap m vc : Nat) (r : Nat → Option Addr) (l c : Nat → Nat) (f : Nat → Nat → Nat) (g : Nat → Nat) (w : World) (hR : Rd w a n cap r l c f) (hV : Sl w va m vc g) (hM : IsM n l) (hm : wd n l = m) :
    Calls Try.prog 16 #[.slice a n cap, .slice va m vc] w (PutsR w n (dots f g m n)) := by
  have HR := Lib.hid hR; have HM := Lib.hid hM; have HV := Lib.hid hV
  have hn := hM.2.1; have hml : m ≤ 255 := by rw [← hm]; exact hM.2.2
  have HL := Lib.hid (show ∀ i, i < n → l i = m from fun i hi => by rw [hM.1 i hi, ← hm]; unfold wd; rw [if_neg (by omega)])
  have HCA := Lib.hid (show ∀ w, Rd w a n cap r l c f → Calls Try.prog 34 #[.slice a n cap] w fun e w' => e = .returned (.int .i64 (m : Nat)) ∧ w' = w from fun w h => by
    have := rcolumns_any a n cap r l c f w h
    rw [hm] at this; exact this)
  clear hR hM hm hV
  have g1 : (((m : Nat) : Int) != (m : Int)) = false := by simp
  obtain ⟨i0, hi', hz0', hz1', hz2'⟩ := info_parts Try.infoU8
  have HI := Lib.hid hi'; have HZ0 := Lib.hid hz0'; have HZ1 := Lib.hid hz1'; have HZ2 := Lib.hid hz2'
  clear hi' hz0' hz1' hz2'
  have HBY := Lib.hid (dots_by HR.out.bm HV.out.bytes m n); have HUP := Lib.hid (dots_up f g m n)
  go_enter Try.func16, Try.ntmps16
  go_wp2_with fail
  refine (rright_yes a n cap r l c f _ HR.out HM.out).mono ?_
  rintro e w1 ⟨rfl, q, hq⟩
  have HB1 := Lib.hid (show Below w.heap.size w w1 by rw [hq]; exact below_dr (Below.refl _ _) q); clear hq
  go_wp2_with fail
  refine (HCA.out _ (HR.out.same HB1.out)).mono ?_
  rintro e w3 ⟨rfl, rfl⟩
  clear g1
  go_wp2_with fail
  have HO0 := Lib.hid (World.ownsRow_nil w3 w.heap.size 5 1)
  go_loopw [6, 7] (fun v i wr => ∃ (k : Nat) (pa : Option Addr) (pc : Nat), k ≤ n ∧ i = .int .i64 k ∧ v = .slice pa k pc ∧ wr.ownsRow w.heap.size 5 1 (.slice pa k pc) k (rowv (dots f g m n) k) ∧ Below w.heap.size w wr) (fun _ i _ => n - (intOf i).toNat)
  case atStart => exact ⟨0, none, 0, by omega, rfl, rfl, HO0.out, HB1.out⟩
  case round =>
    rename_i wr
    obtain ⟨k, pa, pc, hk, rfl, rfl, hO, hB⟩ := hrel
    have HO := Lib.hid hO; have HB := Lib.hid hB
    clear hO hB
    by_cases hkn : k < n
    · have i1 : (k : Int) < (n : Int) := by omega
      have ra := HR.out.same HB.out
      obtain ⟨ab, ao, ea, ca⟩ := ra.at_ hkn
      have rowa := ra.row k hkn
      rw [HL.out k hkn] at rowa ca
      subst ea
      have HROW := Lib.hid rowa
      clear ra rowa
      go_wp2_with fail
      refine (rdot_nat (r k) va m (c k) vc (f k) g (by omega) _ HROW.out (HV.out.same HB.out)).mono ?_
      rintro e w2 ⟨rfl, q, hq⟩
      have hb2 : Below wr.heap.size wr w2 := by rw [hq]; exact below_dr (Below.refl _ _) q
      have HO2 := Lib.hid (own_below HO.out hb2); have HB2 := Lib.hid (HB.out.trans (hb2.mono HB.out.size))
      have hd : dotN (f k) g m = dots f g m n k := by unfold dots; rw [if_pos hkn]
      rw [hd]
      have hdl := HBY.out k
      clear hb2 hq ca hd
      go_wp2_with ((refine wpList_append_bag _ rfl (.tmp 35) (.tmp 37) 23 rfl w.heap.size 5 i0 (.int .u8 0) 1 Try.underlying23 HI.out HZ0.out HZ1.out HZ2.out rfl pa k pc (rowv (dots f g m n) k) rfl (own_below HO2.out ((Below.refl _ _).alloc (Nat.le_refl _) _)) ⟨w2.heap.size, 0, none⟩ 1 1 [.int .u8 (dots f g m n k : Nat)] rfl rfl (cell_new1 _ _ _) (fun u hu => by rw [List.mem_singleton.1 hu]; rfl) (by omega) (by unfold maxLen; omega) (by omega) (by have := HB2.out.size; simp; omega) ?_); intro g' cap' w4 hown hc hlt; have HO4 := Lib.hid hown; have HB4 := Lib.hid (below_apn (HB2.out.alloc HB2.out.size _) (by have := HB2.out.size; simp; omega) hc (fun g e => by subst e; exact (HO2.out.lt g rfl).1)); clear hown hc hlt)
      go_wp2_with fail
      go_roundw
      case rel => exact ⟨k + 1, _, _, by omega, by go_num, rfl, by rw [rowv_succ]; exact HO4.out, HB4.out⟩
      case measure => simp [intOf]; omega
    · obtain rfl : k = n := by omega
      go_wp2
      go_ret2
      obtain ⟨a1, c1, e1, hN⟩ := owns_new HO.out HBY.out HUP.out
      simp only [Value.slice.injEq, true_and] at e1
      obtain ⟨rfl, rfl⟩ := e1
      exact ⟨pa, pc, rfl, hN, HB.out⟩
end Go.Proofs.Ytgflpfopiofjeaa
