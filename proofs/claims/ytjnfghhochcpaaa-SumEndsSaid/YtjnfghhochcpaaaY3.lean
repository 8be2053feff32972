import Derived.Test.YtjnfghhochcpaaaY2
import Derived.Test.YtjnfghhochcpaaaBz
namespace Go.Proofs.Ytjnfghhochcpaaa.Oz
open Go.RowKit Go.Shelf

/-- a bag that holds lists of bytes alone. -/
def Bx (w : World) (b : Nat) (v : Value) : Prop :=
  w.heap[b]? = some (.cells #[.slice none 0 0, .slice none 0 0, .slice none 0 0, .slice none 0 0, .slice none 0 0, v, .slice none 0 0, .slice none 0 0, .slice none 0 0, .slice none 0 0, .slice none 0 0, .slice none 0 0, .slice none 0 0] 60 (0, 0))
theorem Bx.cell {w : World} {b : Nat} {v : Value} (h : Bx w b v) : w.cell? ⟨b, 5, none⟩ = some v := by rw [cell_of_row w b 5 _ _ _ h]; rfl
theorem Bx.other {w : World} {b i : Nat} {v : Value} (h : Bx w b v) (hi : i < 13) (h5 : i ≠ 5) : w.cell? ⟨b, i, none⟩ = some (.slice none 0 0) := by
  rw [cell_of_row w b i _ _ _ h]
  rcases i with _ | _ | _ | _ | _ | _ | _ | _ | _ | _ | _ | _ | _ | _ <;> first | rfl | omega
theorem Bx.free {w : World} {b : Nat} {v : Value} (h : Bx w b v) (i : Nat) : w.frozen? ⟨b, i, none⟩ = false := frozen_of_row w b i _ _ h
theorem Bx.lt {w : World} {b : Nat} {v : Value} (h : Bx w b v) : b < w.heap.size := (Array.getElem?_eq_some_iff.1 h).1
theorem Bx.grown {w w' : World} {b : Nat} {v : Value} {row : Option Nat} (h : Bx w b v) (hg : w.grownBy w' row) (hr : some b ≠ row) : Bx w' b v := (hg.block b h.lt hr).trans h
theorem Bx.set {w : World} {b : Nat} {v : Value} (h : Bx w b v) (u : Value) : Bx (w.setCell ⟨b, 5, none⟩ u) b u := heap_setCell_same w b 5 _ _ u h

set_option maxHeartbeats 4000000 in
set_option maxRecDepth 100000 in
theorem put_any (B b n cap : Nat) (pa a : Option Addr) (l c : Nat) (xs : List Value) (w : World) (hx : Bx w b (.slice pa n cap)) (ho : OzRow w B 23 1 (.slice pa n cap) n xs) (hb : blk pa ≠ some b) (hn : n ≤ 3000) (hB : B ≤ b) :
    Calls Try.prog 30 #[.pointer (some ⟨b, 0, none⟩), .slice a l c] w fun e w' => e = .returned (.tuple #[]) ∧
      ∃ pa' cap', Bx w' b (.slice pa' (n + 1) cap') ∧ OzRow w' B 23 1 (.slice pa' (n + 1) cap') (n + 1) (xs ++ [.slice a l c]) ∧ blk pa' ≠ some b ∧ Below B w w' := by
  have HX := Lib.hid hx; have HO := Lib.hid ho; have HB := Lib.hid hb
  obtain ⟨i1, hi', hz0', hz1', hz2'⟩ := info_parts (P := Try.prog) (e := 23) (z := .slice none 0 0) (size := 1) (bytes := 24) (by kernel_rfl)
  have HI' := Lib.hid hi'; have HZ0' := Lib.hid hz0'; have HZ1' := Lib.hid hz1'; have HZ2' := Lib.hid hz2'
  have c5 := hx.cell
  have hlt := hx.lt
  clear hi' hz0' hz1' hz2' ho hb hx
  go_enter Try.func30, Try.ntmps30
  go_wp2_with (at_builtin; refine wpList_append_bag _ rfl _ _ 22 rfl B 23 i1 (.slice none 0 0) 24 Try.underlying22 HI'.out HZ0'.out HZ1'.out HZ2'.out rfl pa n cap xs rfl (HO.out.alloc _) _ 1 1 [.slice a l c] rfl rfl (cell_new1 _ _ _) (by intro u hu; rcases List.mem_singleton.1 hu with rfl; rfl) (by decide) (by unfold maxLen; omega) (by omega) (by simp; omega) ?_; intro g cap' w6 hown6 hc6 hlt6; have hbx : Bx w6 b (.slice pa n cap) ∧ b ≠ g ∧ Below B w w6 := (by
    have hx1 := HX.out.grown (grown_alloc w (.cells #[.slice a l c] 23)) (by simp)
    have hB1 := (Below.refl B w).alloc (by omega) (.cells #[.slice a l c] 23)
    have hgB := (hown6.lt g rfl).1
    rcases hc6 with ⟨e, _, hg⟩ | ⟨hge, hg⟩
    · have hne : b ≠ g := fun hh => HB.out (by rw [e, hh]; rfl)
      exact ⟨hx1.grown hg (fun hh => hne (by cases hh; rfl)), hne, hB1.grown hg (by simp; omega) (fun x hx => by cases hx; exact hgB)⟩
    · rw [World.size_alloc] at hge
      exact ⟨hx1.grown hg (by simp), by omega, hB1.grown hg (by simp; omega) (fun x hx => by cases hx)⟩); have HBX := Lib.hid hbx; have HOWN6 := Lib.hid hown6; have c6 := hbx.1.cell; have f6 := hbx.1.free 5; clear hbx hown6 hc6 hlt6)
  go_end0
  exact ⟨rfl, _, cap', HBX.out.1.set _, HOWN6.out.kept (grownSet _ _ _ _) (Or.inr (fun hh => HBX.out.2.1 (by cases hh; rfl))), fun hh => HBX.out.2.1 (by cases hh; rfl), HBX.out.2.2.setCell (p := ⟨b, 5, none⟩) hB _⟩

set_option maxHeartbeats 4000000 in
set_option maxRecDepth 100000 in
theorem apart_any (B b L n cap : Nat) (a : Nat → Option Addr) (l c : Nat → Nat) (h : Nat → Nat → Nat) (w : World) (hx : Bx w b (.slice (some ⟨L, 0, none⟩) n cap)) (hb : Bag w B L n a l l c h) (hs : Sep a n) (hno : Not a n L) (hnb : Not a n b) (hBL : B ≤ L) (hLw : L < w.heap.size) (hc : n ≤ cap) (hn : n ≤ 3000) (hl : ∀ k, l k ≤ 1000000) :
    Calls Try.prog 31 #[.pointer (some ⟨b, 0, none⟩)] w fun e w' => e = .returned (.bool true) ∧ Below B w w' := by
  have hBw : B ≤ w.heap.size := by omega
  have HX := Lib.hid hx; have HBG := Lib.hid hb; have HS := Lib.hid hs; have HNO := Lib.hid hno; have HNB := Lib.hid hnb; have HL := Lib.hid hl
  have HB := Lib.hid (Below.refl B w)
  have HSZ := Lib.hid hLw
  clear hb hs hno hnb hl hLw
  have c0 := hx.other (i := 0) (by omega) (by omega)
  clear hx
  go_enter Try.func31, Try.ntmps31
  go_wp2_with fail
  refine (flat0_limbs _).mono ?_
  rintro e w1 ⟨rfl, hB⟩
  have HX1 := Lib.hid (HX.out.grown (grownBelow hB none) (by simp))
  have HB1 := Lib.hid (HB.out.trans (hB.mono hBw))
  have HBG1 := Lib.hid (HBG.out.below hB); have HSZ1 := Lib.hid (Nat.lt_of_lt_of_le HSZ.out hB.size)
  clear hB
  have c1 := HX1.out.other (i := 1) (by omega) (by omega)
  go_wp2_with fail
  refine (flat0_words _).mono ?_
  rintro e w2 ⟨rfl, hB⟩
  have HX2 := Lib.hid (HX1.out.grown (grownBelow hB none) (by simp))
  have HB2 := Lib.hid (HB1.out.trans (hB.mono (Nat.le_trans hBw HB1.out.size)))
  have HBG2 := Lib.hid (HBG1.out.below hB); have HSZ2 := Lib.hid (Nat.lt_of_lt_of_le HSZ1.out hB.size)
  clear hB
  have c2 := HX2.out.other (i := 2) (by omega) (by omega)
  go_wp2_with fail
  refine (flat0_ints _).mono ?_
  rintro e w3 ⟨rfl, hB⟩
  have HX3 := Lib.hid (HX2.out.grown (grownBelow hB none) (by simp))
  have HB3 := Lib.hid (HB2.out.trans (hB.mono (Nat.le_trans hBw HB2.out.size)))
  have HBG3 := Lib.hid (HBG2.out.below hB); have HSZ3 := Lib.hid (Nat.lt_of_lt_of_le HSZ2.out hB.size)
  clear hB
  have c3 := HX3.out.other (i := 3) (by omega) (by omega)
  go_wp2_with fail
  refine (flat0_longs _).mono ?_
  rintro e w4 ⟨rfl, hB⟩
  have HX4 := Lib.hid (HX3.out.grown (grownBelow hB none) (by simp))
  have HB4 := Lib.hid (HB3.out.trans (hB.mono (Nat.le_trans hBw HB3.out.size)))
  have HBG4 := Lib.hid (HBG3.out.below hB); have HSZ4 := Lib.hid (Nat.lt_of_lt_of_le HSZ3.out hB.size)
  clear hB
  have c4 := HX4.out.other (i := 4) (by omega) (by omega)
  go_wp2_with fail
  refine (flat0_texts _).mono ?_
  rintro e w5 ⟨rfl, hB⟩
  have HX5 := Lib.hid (HX4.out.grown (grownBelow hB none) (by simp))
  have HB5 := Lib.hid (HB4.out.trans (hB.mono (Nat.le_trans hBw HB4.out.size)))
  have HBG5 := Lib.hid (HBG4.out.below hB); have HSZ5 := Lib.hid (Nat.lt_of_lt_of_le HSZ4.out hB.size)
  clear hB
  have c5 := HX5.out.cell
  go_wp2_with fail
  refine (flatBytes_any B L n cap a l c h _ HBG5.out HS.out HNO.out hBL HSZ5.out hc hn HL.out).mono ?_
  rintro e w6 ⟨rfl, hB⟩
  have HX6 := Lib.hid (show Bx w6 b (.slice (some ⟨L, 0, none⟩) n cap) from (hB.kp b HX5.out.lt HNB.out).trans HX5.out)
  have HB6 := Lib.hid (HB5.out.trans hB.be)
  clear hB
  have c6 := HX6.out.other (i := 6) (by omega) (by omega)
  go_wp2_with fail
  refine (flat0_truths _).mono ?_
  rintro e w7 ⟨rfl, hB⟩
  have HX7 := Lib.hid (HX6.out.grown (grownBelow hB none) (by simp))
  have HB7 := Lib.hid (HB6.out.trans (hB.mono (Nat.le_trans hBw HB6.out.size)))
  clear hB
  have c7 := HX7.out.other (i := 7) (by omega) (by omega)
  go_wp2_with fail
  refine (flat0_layers _).mono ?_
  rintro e w8 ⟨rfl, hB⟩
  have HX8 := Lib.hid (HX7.out.grown (grownBelow hB none) (by simp))
  have HB8 := Lib.hid (HB7.out.trans (hB.mono (Nat.le_trans hBw HB7.out.size)))
  clear hB
  have c8 := HX8.out.other (i := 8) (by omega) (by omega)
  go_wp2_with fail
  refine (flat0_table _).mono ?_
  rintro e w9 ⟨rfl, hB⟩
  have HX9 := Lib.hid (HX8.out.grown (grownBelow hB none) (by simp))
  have HB9 := Lib.hid (HB8.out.trans (hB.mono (Nat.le_trans hBw HB8.out.size)))
  clear hB
  have c9 := HX9.out.other (i := 9) (by omega) (by omega)
  go_wp2_with fail
  refine (flat0_heads _).mono ?_
  rintro e w10 ⟨rfl, hB⟩
  have HX10 := Lib.hid (HX9.out.grown (grownBelow hB none) (by simp))
  have HB10 := Lib.hid (HB9.out.trans (hB.mono (Nat.le_trans hBw HB9.out.size)))
  clear hB
  have c10 := HX10.out.other (i := 10) (by omega) (by omega)
  go_wp2_with fail
  refine (flat0_counts _).mono ?_
  rintro e w11 ⟨rfl, hB⟩
  have HX11 := Lib.hid (HX10.out.grown (grownBelow hB none) (by simp))
  have HB11 := Lib.hid (HB10.out.trans (hB.mono (Nat.le_trans hBw HB10.out.size)))
  clear hB
  have c11 := HX11.out.other (i := 11) (by omega) (by omega)
  go_wp2_with fail
  refine (flat0_notes _).mono ?_
  rintro e w12 ⟨rfl, hB⟩
  have HX12 := Lib.hid (HX11.out.grown (grownBelow hB none) (by simp))
  have HB12 := Lib.hid (HB11.out.trans (hB.mono (Nat.le_trans hBw HB11.out.size)))
  clear hB
  have c12 := HX12.out.other (i := 12) (by omega) (by omega)
  go_wp2_with fail
  refine (flat0_fates _).mono ?_
  rintro e w13 ⟨rfl, hB⟩
  have HX13 := Lib.hid (HX12.out.grown (grownBelow hB none) (by simp))
  have HB13 := Lib.hid (HB12.out.trans (hB.mono (Nat.le_trans hBw HB12.out.size)))
  clear hB
  go_wp2
  go_ret
  exact ⟨rfl, HB13.out⟩

set_option maxHeartbeats 4000000 in
set_option maxRecDepth 100000 in
/-- lists that lie apart. -/
theorem apartBytes_any (B A n cap : Nat) (a : Nat → Option Addr) (l c : Nat → Nat) (h : Nat → Nat → Nat) (w : World) (hb : Bag w B A n a l l c h) (hs : Sep a n) (_hA : A < w.heap.size) (hB' : B ≤ w.heap.size) (_hc : n ≤ cap) (hn : n ≤ 3000) (hn0 : 0 < n) (hl : ∀ k, l k ≤ 1000000) :
    Calls Try.prog 22 #[.slice (some ⟨A, 0, none⟩) n cap] w fun e w' => e = .returned (.bool true) ∧ Below B w w' := by
  have HBG := Lib.hid hb; have HS := Lib.hid hs; have HL := Lib.hid hl
  clear hb hs hl
  go_enter Try.func22, Try.ntmps22
  go_wp2_with fail
  obtain ⟨b, hbw⟩ : ∃ b, b = w.heap.size := ⟨_, rfl⟩
  have hx0 : Bx (w.alloc (.cells #[.slice none 0 0, .slice none 0 0, .slice none 0 0, .slice none 0 0, .slice none 0 0, .slice none 0 0, .slice none 0 0, .slice none 0 0, .slice none 0 0, .slice none 0 0, .slice none 0 0, .slice none 0 0, .slice none 0 0] 60)) w.heap.size (.slice none 0 0) := heap_alloc_new _ _
  rw [← hbw] at hx0 ⊢
  have HX0 := Lib.hid hx0; have HBW := Lib.hid hbw; clear hx0 hbw
  go_loopw [4] (fun kv wr => ∃ (k : Nat) (pa : Option Addr) (pc : Nat), k ≤ n ∧ kv = .int .i64 (k : Nat) ∧ Bx wr b (.slice pa k pc) ∧ OzRow wr b 23 1 (.slice pa k pc) k ((List.range k).map fun j => Value.slice (a j) (l j) (c j)) ∧ blk pa ≠ some b ∧ Below b w wr) (fun kv _ => n - (intOf kv).toNat)
  case atStart => exact ⟨0, none, 0, by omega, rfl, HX0.out, OzRow_nil _ _ _ _, by simp [blk], by rw [HBW.out]; exact (Below.refl _ _).alloc (Nat.le_refl _) _⟩
  case round =>
    obtain ⟨k, pa, pc, hk, rfl, hx, ho, hp, hB⟩ := hrel
    obtain ⟨wo, rfl⟩ : ∃ wo : World, wo = wr := ⟨_, rfl⟩
    have HX := Lib.hid hx; have HO := Lib.hid ho; have HP := Lib.hid hp; have HB1 := Lib.hid hB
    have hBg : Bag wo B A n a l l c h := HBG.out.below (by rw [← HBW.out]; exact hB)
    have HG := Lib.hid hBg
    have hsz := hB.size
    clear hx ho hp hB hBg
    by_cases hkn : k < n
    · have i1 : (k : Int) < (n : Int) := by omega
      have cl := HG.out.lst k hkn
      go_wp2_with fail
      refine (put_any b b k pc pa (a k) (l k) (c k) _ _ HX.out HO.out HP.out (by omega) (Nat.le_refl _)).mono ?_
      rintro e w1 ⟨rfl, pa', pc', hx, ho, hp, hB⟩
      have HX2 := Lib.hid hx; have HO2 := Lib.hid ho; have HP2 := Lib.hid hp; have HB2 := Lib.hid (HB1.out.trans hB)
      clear hx ho hp hB
      go_wp2
      go_roundw
      case rel => exact ⟨k + 1, pa', pc', by omega, by go_num, HX2.out, by rw [List.range_succ, List.map_append]; exact HO2.out, HP2.out, HB2.out⟩
      case measure => simp [intOf]; omega
    · obtain rfl : n = k := by omega
      have i1 : ¬ (n : Int) < (n : Int) := by omega
      obtain ⟨P, pc2, hpv, hPb, hPlt⟩ := HO.out.form hn0
      simp only [Value.slice.injEq, true_and] at hpv
      obtain ⟨rfl, rfl⟩ := hpv
      have hpc : n ≤ pc := by
        rcases HO.out.2 with ⟨h, _⟩ | ⟨g', cap', cur, h, _, hg, hnc, _, hs, _⟩
        · cases h
        · simp only [Value.slice.injEq, true_and] at h
          omega
      have hlt : ∀ j g, j < n → blk (a j) = some g → g < b := fun j g hj e => by rw [HBW.out]; exact (HBG.out.lt hj e).2
      have hbag : Bag wo B P n a l l c h := ⟨fun j hj => by
        rw [HO.out.cellAt j (by omega)]
        simp [hj], HG.out.own⟩
      go_wp2_with fail
      refine (apart_any B b P n pc a l c h _ HX.out hbag HS.out (fun j hj e => by have := hlt j P hj e; omega) (fun j hj e => by have := hlt j b hj e; omega) (by have := HBW.out; omega) hPlt hpc hn HL.out).mono ?_
      rintro e w2 ⟨rfl, hB⟩
      have HB3 := Lib.hid ((HB1.out.mono (show B ≤ b by rw [HBW.out]; exact hB')).trans hB)
      go_wp2
      go_ret
      exact ⟨rfl, HB3.out⟩
end Go.Proofs.Ytjnfghhochcpaaa.Oz
