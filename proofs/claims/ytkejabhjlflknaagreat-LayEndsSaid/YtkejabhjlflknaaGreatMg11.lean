import Derived.Deep.RegionWith
import Derived.Test.YtkejabhjlflknaaGreatMg10
namespace Go.Proofs.YtkejabhjlflknaaGreat
open Go.RowKit Go.Shelf

/-- the first k values elsewhere. -/
def vls (P : Nat → Nat) (n : Nat) (g f : Nat → Nat) (k i : Nat) : Nat := if i < k then dotN (Pf.lw P n (f i)) g n else 0
theorem vls_by {P g f : Nat → Nat} (hP : Pf.By P) (hg : Pf.By g) (hf : Pf.By f) (n k : Nat) : Pf.By (vls P n g f k) := fun i => by
  unfold vls; split
  · exact dotN_lt (Pf.lw_by hP n (hf i)) hg n
  · omega
theorem vls_up (P : Nat → Nat) (n : Nat) (g f : Nat → Nat) (k : Nat) : Pf.Up (vls P n g f k) k := fun i hi => by unfold vls; rw [if_neg (by omega)]
theorem vls_s (P : Nat → Nat) (n : Nat) (g f : Nat → Nat) (k i : Nat) : (if i = k then dotN (Pf.lw P n (f k)) g n else vls P n g f k i) = vls P n g f (k + 1) i := by
  unfold vls
  by_cases e : i = k
  · subst e; rw [if_pos rfl, if_pos (by omega)]
  · rw [if_neg e]
    by_cases h : i < k
    · rw [if_pos h, if_pos (by omega)]
    · rw [if_neg h, if_neg (by omega)]

/-- a worker without points. -/
theorem Stn.new (w : World) (fb : Nat) (P S : Nat → Nat) (hF : IsField fb w) : Stn (w.alloc (.cells #[.pointer (some ⟨fb, 0, none⟩), .slice none 0 0, .slice none 0 0] 154)) w.heap.size fb none 0 0 none 0 0 P S :=
  ⟨heap_alloc_new _ _, Or.inl ⟨rfl, rfl, rfl⟩, Or.inl ⟨rfl, rfl, rfl⟩, fun _ h => (by cases h), hF.same ((Below.refl _ w).alloc (Nat.le_refl _) _), hF.lt⟩
/-- what a call answers that hands out a slice, or an error. -/
def GivesV (w : World) (n : Nat) (f : Nat → Nat) (e : Ending) (w' : World) : Prop := ∃ a cap, e = .returned (.tuple #[.slice a n cap, .int .i64 0]) ∧ Nw w' w.heap.size a n cap f ∧ Below w.heap.size w w'

/-- what Values answers. -/
def ValSays (w : World) (n n' m : Nat) (P g f : Nat → Nat) (e : Ending) (w' : World) : Prop :=
  (n ≠ n' ∧ e = .returned (.tuple #[.slice none 0 0, .int .i64 2]) ∧ Below w.heap.size w w') ∨ (n = n' ∧ ¬ Pf.Dst P n ∧ e = .returned (.tuple #[.slice none 0 0, .int .i64 9]) ∧ Below w.heap.size w w') ∨ (n = n' ∧ Pf.Dst P n ∧ GivesV w m (vls P n g f m) e w')

/-- what Value answers. -/
def Val1Says (w : World) (n n' x : Nat) (P g : Nat → Nat) (e : Ending) (w' : World) : Prop :=
  ((n ≠ n' ∧ e = .returned (.tuple #[.int .u8 0, .int .i64 2])) ∨ (n = n' ∧ ¬ Pf.Dst P n ∧ e = .returned (.tuple #[.int .u8 0, .int .i64 9])) ∨ (n = n' ∧ Pf.Dst P n ∧ e = .returned (.tuple #[.int .u8 (dotN (Pf.lw P n x) g n : Nat), .int .i64 0]))) ∧ Below w.heap.size w w'

end Go.Proofs.YtkejabhjlflknaaGreat

namespace Go.Proofs.YtkejabhjlflknaaGreat.Pf
/-- the bytes in order. -/
def idn (i : Nat) : Nat := i % 256
theorem idn_by : By idn := fun i => Nat.mod_lt _ (by omega)
theorem idn_at {i : Nat} (h : i < 256) : idn i = i := Nat.mod_eq_of_lt h
theorem idn_dst {n : Nat} (h : n ≤ 256) : Dst idn n := fun i j hi hj => by rw [idn_at (by omega), idn_at (by omega)]; omega
/-- a table: of each byte its weights, by the first K ones. -/
def tbl (K i : Nat) : Nat → Nat := lw idn K (idn i)
theorem tbl_bm (K : Nat) : Mt.Bm (tbl K) := fun i j => lw_by idn_by K (idn_by i) j
theorem tbl_up (K i : Nat) : Up (tbl K i) K := lw_up K _
end Go.Proofs.YtkejabhjlflknaaGreat.Pf
namespace Go.Proofs.YtkejabhjlflknaaGreat
open Go.RowKit Go.Shelf

theorem Rq.nw {W : World} {B n cap : Nat} {a : Option Addr} {h : Nat → Nat} (r : Rq W B a n cap h) (hb : Pf.By h) (hu : Pf.Up h n) : Nw W B a n cap h := by
  rcases r with ⟨rfl, rfl, rfl⟩ | ⟨g, rfl, h1, h2, h3, h4⟩
  · exact Nw.nil _ _ fun i => hu i (Nat.zero_le _)
  · exact ⟨h2.sl h3 h4 hb hu, h2.ow h1⟩
theorem bag_below {W W' : World} {B g c cap : Nat} {a : Option Addr} (hc : a = some ⟨g, 0, none⟩ ∧ c = cap ∧ W.grownBy W' (some g) ∨ W.heap.size ≤ g ∧ W.grownBy W' none) (hg : B ≤ g) (hs : B ≤ W.heap.size) : Below B W W' := by
  rcases hc with ⟨_, _, h⟩ | ⟨_, h⟩
  · exact (Below.refl B W).grown h hs (fun k e => by cases e; exact hg)
  · exact (Below.refl B W).grown h hs (fun k e => by cases e)
/-- what a call answers that hands out a matrix in new memory, and OK. -/
def MakesT (w : World) (h wi : Nat) (f : Nat → Nat → Nat) (e : Ending) (w' : World) : Prop :=
  ∃ G b, e = .returned (.tuple #[.slice (some ⟨G, 0, none⟩) h h, .int .i64 0]) ∧ Gr w' w.heap.size G h h b (fun _ => wi) (fun _ => wi) f ∧ Below w.heap.size w w'
/-- the first k rows. -/
def tbk (K k i j : Nat) : Nat := if i < k then Pf.tbl K i j else 0
theorem tbk_bm (K k : Nat) : Mt.Bm (tbk K k) := fun i j => by
  unfold tbk; split
  · exact Pf.tbl_bm K i j
  · omega

set_option maxHeartbeats 4000000 in
set_option maxRecDepth 100000 in
theorem pTable_no (k n : Int) (h : k < 1 ∨ n < k ∨ 255 < n) (w : World) :
    Calls Tryz.prog 69 #[.int .i64 k, .int .i64 n] w fun e w' => e = .returned (.tuple #[.slice none 0 0, .int .i64 2]) ∧ Below w.heap.size w w' := by
  by_cases h1 : k < 1
  · clear h
    go_enter Tryz.func69, Tryz.ntmps69
    go_wp2
    go_ret2
    exact ⟨rfl, Below.refl _ _⟩
  · by_cases h2 : n < k
    · clear h
      go_enter Tryz.func69, Tryz.ntmps69
      go_wp2
      go_ret2
      exact ⟨rfl, Below.refl _ _⟩
    · have h3 : 255 < n := by omega
      clear h
      go_enter Tryz.func69, Tryz.ntmps69
      go_wp2
      go_ret2
      exact ⟨rfl, Below.refl _ _⟩

set_option maxHeartbeats 4000000 in
set_option maxRecDepth 100000 in
theorem pTable_yes (K N : Nat) (h1 : 1 ≤ K) (h2 : K ≤ N) (h3 : N ≤ 255) (w : World) :
    Calls Tryz.prog 69 #[.int .i64 (K : Nat), .int .i64 (N : Nat)] w (MakesT w N K (Pf.tbl K)) := by
  have g1 : ¬ (K : Int) < 1 := by omega
  have g2 : ¬ (N : Int) < (K : Int) := by omega
  have g3 : ¬ 255 < (N : Int) := by omega
  have hm1 := hmkRows N (by omega)
  go_enter Tryz.func69, Tryz.ntmps69
  go_wp2_with fail
  clear g1 g2 g3
  refine (new_any _).mono ?_
  rintro e w1 ⟨rfl, hF, hB1⟩
  have hA := Stn.new w1 w.heap.size Pf.idn (fun i => Pf.sg Pf.idn i 0) hF
  have hB2 : Below w1.heap.size w1 (w1.alloc (.cells #[.pointer (some ⟨w.heap.size, 0, none⟩), .slice none 0 0, .slice none 0 0] 154)) := (Below.refl _ _).alloc (Nat.le_refl _) _
  have hB := hB1.trans (hB2.mono hB1.size)
  have hs0 := hB1.size
  have HA := Lib.hid hA; have HB := Lib.hid hB
  clear hF hA hB1 hB2 hB
  go_wp2_with fail
  go_loopw [24] (fun i wr => ∃ (k : Nat) (ap : Option Addr) (cp : Nat) (aq : Option Addr) (cs : Nat), k ≤ K ∧ i = .int .i64 k ∧ Stn wr w1.heap.size w.heap.size ap k cp aq k cs Pf.idn (fun i => Pf.sg Pf.idn i k) ∧ Below w.heap.size w wr) (fun i _ => K - (intOf i).toNat)
  case atStart => exact ⟨0, none, 0, none, 0, by omega, rfl, HA.out, HB.out⟩
  case round =>
    clear HA HB
    obtain ⟨k, ap, cp, aq, cs, hk, rfl, hA, hB⟩ := hrel
    by_cases hlt : k < K
    · have i1 : (k : Int) < (K : Int) := by omega
      have hcv : IntKind.u8.wrap (k : Int) = (k : Int) := IntWalk.u8_in _ (by omega)
      have hal : Below wr.heap.size wr (wr.alloc (.cells #[.int .u8 (k : Nat)] 5)) := (Below.refl _ wr).alloc (Nat.le_refl _) _
      have HA1 := Lib.hid (hA.same hal); have HB1 := Lib.hid (hB.trans (hal.mono hB.size))
      have HS1 := Lib.hid (sl_single wr k (by omega))
      have hwl := hA.wl.lt
      have hF : Far w1.heap.size ap aq (some ⟨wr.heap.size, 0, none⟩) 1 := fun ad ha _ => by
        cases ha
        refine ⟨by show wr.heap.size ≠ w1.heap.size; omega, fun hh => ?_, fun hh => ?_⟩
        · have := (hA.pr.lt _ hh).2; simp at this
        · have := (hA.sr.lt _ hh).2; simp at this
      have HF := Lib.hid hF
      clear hA hB hal hF
      go_wp2_with fail
      refine (stand_any w1.heap.size w.heap.size k 1 1 _ ap aq cp cs (Pf.sc k) Pf.idn _ HA1.out HS1.out HF.out (fun i hi => by
        obtain rfl : i = 0 := by omega
        show k = Pf.idn (k + 0)
        rw [Nat.add_zero, Pf.idn_at (by omega)]) Pf.idn_by (Pf.idn_dst (by omega)) (by omega)).mono ?_
      rintro e w2 ⟨⟨hd, rfl, ap2, cp2, aq2, cs2, hS2⟩ | ⟨hd, rfl⟩, hB2⟩
      · have HS2 := Lib.hid hS2; have HB2 := Lib.hid (HB1.out.trans (hB2.mono hs0))
        clear hd hS2 hB2
        go_wp2
        go_roundw
        case rel => exact ⟨k + 1, ap2, cp2, aq2, cs2, by omega, by go_num, HS2.out, HB2.out⟩
        case measure => simp [intOf]; omega
      · exact absurd (Pf.idn_dst (by omega)) hd
    · obtain rfl : k = K := by omega
      have HA := Lib.hid hA; have HB := Lib.hid hB
      have hsz := hB.size
      have hG := gr_made wr w.heap.size N (fun _ => 0) (fun _ => k) (fun _ => k) (by omega) hsz
      have hal : Below wr.heap.size wr (wr.alloc (.cells (madeCells #[.slice none 0 0] N) 50)) := (Below.refl _ wr).alloc (Nat.le_refl _) _
      have HG := Lib.hid hG; have HA1 := Lib.hid (hA.same hal); have HB1 := Lib.hid (hB.trans (hal.mono hB.size))
      obtain ⟨wo, rfl⟩ : ∃ wo : World, wo = wr := ⟨_, rfl⟩
      have HL1 := Lib.hid hA.wl.lt; have HL2 := Lib.hid (fun g e => (hA.pr.lt g e).2); have HL3 := Lib.hid (fun g e => (hA.sr.lt g e).2)
      clear hA hB hG hal hlt
      go_wp2_with fail
      go_loopw [35] (fun i wr => ∃ (t : Nat) (b : Nat → Nat), t ≤ N ∧ i = .int .i64 t ∧ Gr wr w.heap.size wo.heap.size t N b (fun _ => k) (fun _ => k) (tbk k t) ∧ Stn wr w1.heap.size w.heap.size ap k cp aq k cs Pf.idn (fun i => Pf.sg Pf.idn i k) ∧ Below w.heap.size w wr) (fun i _ => N - (intOf i).toNat)
      case atStart => exact ⟨0, _, by omega, rfl, HG.out.congr (tbk_bm k 0) (fun i j h => by omega), HA1.out, HB1.out⟩
      case round =>
        clear HG HA1 HB1
        obtain ⟨t, b, ht, rfl, hGr, hA, hB⟩ := hrel
        by_cases htn : t < N
        · have i1 : (t : Int) < (N : Int) := by omega
          have hcv : IntKind.u8.wrap (t : Int) = (t : Int) := IntWalk.u8_in _ (by omega)
          have HG := Lib.hid hGr; have HA := Lib.hid hA; have HB := Lib.hid hB
          clear hGr hA hB
          have hw := weights_any w1.heap.size w.heap.size k t (by omega) ap aq cp cs Pf.idn Pf.idn_by (by omega) wr HA.out
          have HW := Lib.hid hw; clear hw
          go_wp2_with fail
          refine HW.out.mono ?_
          rintro e w2 ⟨rfl, hb, hB2⟩
          have hG2 := HG.out.same hB2
          obtain ⟨vs, k1, k2, k3⟩ := hG2.blk
          have hcell : ∃ v, w2.cell? ⟨wo.heap.size, t, none⟩ = some v := by
            refine ⟨vs[t]'(by omega), ?_⟩
            rw [cell_of_row w2 _ t vs _ _ k1]
            simp [show t < vs.size by omega]
          obtain ⟨v0, hcell⟩ := hcell
          have hfr := hG2.free t
          have HG2 := Lib.hid hG2; have HBL := Lib.hid hb; have HB2 := Lib.hid (HB.out.trans (hB2.mono HB.out.size)); have HA2 := Lib.hid (HA.out.same hB2)
          have hsz2 := HB.out.size
          have hltb := Lib.hid (fun i hi => HG.out.ltb (i := i) hi)
          clear hG2 hb hB2 k1 k2 k3
          go_wp2_with fail
          go_roundw
          case rel => exact ⟨t + 1, _, by omega, by go_num, HG2.out.pushU htn HBL.out (by unfold maxLen; omega) (by omega) (fun i hi e => by have := hltb.out i hi; omega) (Pf.lw_by Pf.idn_by k (by omega)) (Pf.lw_up k t) (tbk_bm k (t + 1)) (fun i j hi => by unfold tbk; rw [if_pos hi, if_pos (by omega)]) (fun j => by unfold tbk Pf.tbl; rw [if_pos (by omega), Pf.idn_at (by omega)]), HA2.out.lo ((Below.refl wo.heap.size w2).setCell (p := ⟨wo.heap.size, t, none⟩) (Nat.le_refl _) _) HL1.out HL2.out HL3.out, HB2.out.setCell (p := ⟨wo.heap.size, t, none⟩) hsz _⟩
          case measure => simp [intOf]; omega
        · obtain rfl : t = N := by omega
          have HG := Lib.hid hGr; have HB := Lib.hid hB
          clear hGr hA hB
          go_wp2
          go_ret2
          exact ⟨_, b, rfl, HG.out.congr (Pf.tbl_bm k) (fun i j h => by unfold tbk; rw [if_pos h]), HB.out⟩
end Go.Proofs.YtkejabhjlflknaaGreat
