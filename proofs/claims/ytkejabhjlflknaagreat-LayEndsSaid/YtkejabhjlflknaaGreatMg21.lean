import Derived.Deep.RegionWith
import Derived.Test.YtkejabhjlflknaaGreatMg14
import Derived.Test.YtkejabhjlflknaaGreatMg20
namespace Go.Proofs.YtkejabhjlflknaaGreat
open Go.RowKit Go.Shelf

theorem quiet_b {w w' : World} {q : Nat} (h : w' = w.drewN q) : Below w.heap.size w w' := by rw [h]; exact below_dr (Below.refl _ _) q
/-- the first points. -/
def PtsSays (w : World) (n : Nat) (e : Ending) (w' : World) : Prop := ∃ pa pc, e = .returned (.slice pa n pc) ∧ Nw w' w.heap.size pa n pc (idk n) ∧ Below w.heap.size w w'

set_option maxHeartbeats 2000000 in
set_option maxRecDepth 100000 in
theorem rpoints_any (n : Nat) (hn : n ≤ 255) (w : World) :
    Calls Tryz.prog 62 #[.int .i64 (n : Nat)] w (PtsSays w n) := by
  obtain ⟨i0, hi, hz0, hz1, hz2⟩ := info_parts Tryz.infoU8
  have HI := Lib.hid hi; have HZ0 := Lib.hid hz0; have HZ1 := Lib.hid hz1; have HZ2 := Lib.hid hz2
  clear hi hz0 hz1 hz2
  go_enter Tryz.func62, Tryz.ntmps62
  go_wp2_with fail
  go_loopw [3, 4] (fun o i wr => ∃ (k : Nat) (pa : Option Addr) (pc : Nat) (W : World), W = wr ∧ k ≤ n ∧ i = .int .i64 k ∧ o = .slice pa k pc ∧ Rq wr w.heap.size pa k pc (idk n) ∧ Below w.heap.size w wr) (fun _ i _ => n - (intOf i).toNat)
  case atStart => exact ⟨0, none, 0, _, rfl, by omega, rfl, rfl, Or.inl ⟨rfl, rfl, rfl⟩, Below.refl _ _⟩
  case round =>
    obtain ⟨k, pa, pc, wx, rfl, hk, rfl, rfl, hR, hB⟩ := hrel
    have HR := Lib.hid hR; have HB := Lib.hid hB
    have hsz := hB.size
    clear hR hB
    by_cases hlt : k < n
    · have i1 : (k : Int) < (n : Int) := by omega
      have hcv : IntKind.u8.wrap (k : Int) = (k : Int) := IntWalk.u8_in _ (by omega)
      have HRO := Lib.hid (HR.out.same ((Below.refl _ wx).alloc (Nat.le_refl _) (.cells #[.int .u8 (k : Nat)] 5))).owns
      have hbb : w.heap.size ≤ (wx.alloc (.cells #[.int .u8 (k : Nat)] 5)).heap.size := by rw [World.size_alloc]; omega
      go_wp2_with (at_builtin; refine wpList_append_bag _ rfl _ _ 50 rfl w.heap.size 5 i0 (.int .u8 0) 1 Tryz.underlying50 HI.out HZ0.out HZ1.out HZ2.out rfl pa k pc _ rfl HRO.out _ 1 1 [.int .u8 (k : Nat)] rfl rfl (cell_new1 _ _ _) (one_single _ _) (by decide) (by unfold maxLen; omega) (by omega) hbb ?_; intro g6 c6 w6 hown6 hc6 hlt6; have HOWN6 := Lib.hid hown6; have HC6 := Lib.hid hc6; clear hown6 hc6 hlt6)
      have ho := HOWN6.out
      rw [show [Value.int .u8 ((k : Nat) : Int)] = [Value.int .u8 ((idk n k : Nat) : Int)] by unfold idk; rw [if_pos hlt], ← rowv_succ] at ho
      have hr6 := Rq.of_owns ho
      have hb6 := ((Below.refl w.heap.size wx).alloc hsz (.cells #[.int .u8 (k : Nat)] 5)).trans (bag_below HC6.out (hr6.lt g6 rfl).1 hbb)
      have HR7 := Lib.hid hr6; have HB7 := Lib.hid (HB.out.trans hb6)
      clear ho hr6 hb6 HOWN6 HC6
      go_wp2
      go_roundw
      case rel => exact ⟨k + 1, _, c6, _, rfl, by omega, by go_num, rfl, HR7.out, HB7.out⟩
      case measure => simp [intOf]; omega
    · obtain rfl : k = n := by omega
      go_wp2
      go_ret
      exact ⟨pa, pc, rfl, HR.out.nw (idk_by (by omega)) (idk_up k), HB.out⟩

/-- rows of noughts. -/
def NulSays (w : World) (n wi : Nat) (e : Ending) (w' : World) : Prop := ∃ sa sc b, e = .returned (.slice sa n sc) ∧ Go_ w' w.heap.size sa n sc b (fun _ => wi) (fun _ => wi) (fun _ _ => 0) ∧ Below w.heap.size w w'

set_option maxHeartbeats 2000000 in
set_option maxRecDepth 100000 in
theorem rrows_any (n wi : Nat) (hn : n ≤ 1000000) (hw : wi ≤ 1000000) (w : World) :
    Calls Tryz.prog 78 #[.int .i64 (n : Nat), .int .i64 (wi : Nat)] w (NulSays w n wi) := by
  obtain ⟨i2, hi2, hz02, hz12, hz22⟩ := info_parts Tryz.infoRow
  have HI2 := Lib.hid hi2; have HZ02 := Lib.hid hz02; have HZ12 := Lib.hid hz12; have HZ22 := Lib.hid hz22
  have hmk := hmk8 wi (by omega)
  have HMK := Lib.hid hmk
  clear hi2 hz02 hz12 hz22 hmk
  have HZB := Lib.hid (show Mt.Bm (fun _ _ => 0) from fun _ _ => (by omega : 0 < 256))
  go_enter Tryz.func78, Tryz.ntmps78
  go_wp2_with fail
  go_loopw [5, 6] (fun vs vi wr => ∃ (k : Nat) (sa : Option Addr) (sc : Nat) (b : Nat → Nat) (W : World), W = wr ∧ k ≤ n ∧ vi = .int .i64 k ∧ vs = .slice sa k sc ∧ Pr wr w.heap.size sa k sc b (fun _ => wi) (fun _ => wi) (fun _ _ => 0) ∧ Below w.heap.size w wr) (fun _ i _ => n - (intOf i).toNat)
  case atStart => exact ⟨0, none, 0, fun _ => 0, _, rfl, by omega, rfl, rfl, pr_none w w.heap.size (fun _ => 0) (fun _ => wi) (fun _ => wi), Below.refl _ _⟩
  case round =>
    obtain ⟨k, sa, sc, b, wx, rfl, hk, rfl, rfl, hQ, hB⟩ := hrel
    have HQ := Lib.hid hQ; have HB := Lib.hid hB
    have hsz := hB.size
    clear hQ hB
    by_cases hkn : k < n
    · have j1 : (k : Int) < (n : Int) := by omega
      have hmk := HMK.out
      have hal : Below wx.heap.size wx (wx.alloc (.cells (madeCells #[.int .u8 0] wi) 5)) := (Below.refl _ wx).alloc (Nat.le_refl _) _
      have hal8 : Below (wx.alloc (.cells (madeCells #[.int .u8 0] wi) 5)).heap.size (wx.alloc (.cells (madeCells #[.int .u8 0] wi) 5)) ((wx.alloc (.cells (madeCells #[.int .u8 0] wi) 5)).alloc (.cells #[.slice (some ⟨wx.heap.size, 0, none⟩) wi wi] 50)) := (Below.refl _ _).alloc (Nat.le_refl _) _
      have hW := hal.trans (hal8.mono hal.size)
      have HBL := Lib.hid ((bl_made wx wi).below hal8 (bl_made wx wi).lt)
      have HW := Lib.hid hW
      have HOW := Lib.hid (own_below HQ.out.own hW)
      have hbb : w.heap.size ≤ ((wx.alloc (.cells (madeCells #[.int .u8 0] wi) 5)).alloc (.cells #[.slice (some ⟨wx.heap.size, 0, none⟩) wi wi] 50)).heap.size := Nat.le_trans hsz hW.size
      clear hal hal8 hW
      go_wp2_with (at_builtin; refine wpList_append_bag _ rfl _ _ 22 rfl w.heap.size 50 i2 (.slice none 0 0) 24 Tryz.underlying22 HI2.out HZ02.out HZ12.out HZ22.out rfl sa k sc _ rfl HOW.out _ 1 1 [.slice (some ⟨wx.heap.size, 0, none⟩) wi wi] rfl rfl (by have := cell_new1 (wx.alloc (.cells (madeCells #[.int .u8 0] wi) 5)) (.slice (some ⟨wx.heap.size, 0, none⟩) wi wi) 50; rw [World.size_alloc] at this; exact this) (by intro u hu; rcases List.mem_singleton.1 hu with rfl; rfl) (by decide) (by unfold maxLen; omega) (by omega) hbb ?_; intro g6 c6 w6 hown6 hc6 hlt6; have HOWN6 := Lib.hid hown6; have HC6 := Lib.hid hc6; clear hown6 hc6 hlt6)
      have hst := Pr.step HQ.out HW.out HBL.out (Nat.le_refl _) hsz ⟨Nat.le_refl _, by unfold maxLen; omega⟩ (fun _ => (by omega : 0 < 256)) (fun _ _ => rfl) HOWN6.out HC6.out
      have hst2 := hst.congr (l' := fun _ => wi) (c' := fun _ => wi) (f' := fun _ _ => 0) (fun i hi => by show (if i = k then wi else wi) = wi; split <;> rfl) (fun i hi => by show (if i = k then wi else wi) = wi; split <;> rfl) HZB.out (fun i t hi => by show (if i = k then 0 else 0) = 0; split <;> rfl)
      have hb6 := below_apn (B := w.heap.size) (w0 := w) (HB.out.trans (HW.out.mono hsz)) hbb HC6.out (fun g e => (HQ.out.own.lt g (by rw [e]; rfl)).1)
      have HST := Lib.hid hst2; have HB6 := Lib.hid hb6
      clear hst hst2 hb6 HOWN6 HC6 hmk
      go_wp2
      go_roundw
      case rel => exact ⟨k + 1, _, c6, _, _, rfl, by omega, by go_num, rfl, HST.out, HB6.out⟩
      case measure => simp [intOf]; omega
    · obtain rfl : k = n := by omega
      go_wp2
      go_ret
      exact ⟨sa, sc, b, rfl, HQ.out.go, HB.out⟩

/-- the document's coder. -/
def Rcd (w : World) (rb N K : Nat) : Prop := w.heap[rb]? = some (.cells #[.int .i64 (N : Nat), .int .i64 (K : Nat)] 95 (0, 0))
section
variable {w w' : World} {rb N K : Nat}
theorem Rcd.same (h : Rcd w rb N K) (hB : Below w.heap.size w w') : Rcd w' rb N K := (hB.block rb (Array.getElem?_eq_some_iff.1 h).1).trans h
theorem Rcd.c0 (h : Rcd w rb N K) : w.cell? ⟨rb, 0, none⟩ = some (.int .i64 (N : Nat)) := by rw [cell_of_row w rb 0 _ _ _ h]; rfl
theorem Rcd.c1 (h : Rcd w rb N K) : w.cell? ⟨rb, 1, none⟩ = some (.int .i64 (K : Nat)) := by rw [cell_of_row w rb 1 _ _ _ h]; rfl
end
theorem rnew_no (n k : Int) (h : k < 1 ∨ n < k ∨ 255 < n) (w : World) :
    Calls Tryz.prog 33 #[.int .i64 n, .int .i64 k] w fun e w' => e = .returned (.tuple #[.pointer none, .int .i64 2]) ∧ Below w.heap.size w w' := by
  by_cases h1 : k < 1
  · clear h
    go_enter Tryz.func33, Tryz.ntmps33
    go_wp2
    go_ret2
    exact ⟨rfl, Below.refl _ _⟩
  · by_cases h2 : n < k
    · clear h
      go_enter Tryz.func33, Tryz.ntmps33
      go_wp2
      go_ret2
      exact ⟨rfl, Below.refl _ _⟩
    · have h3 : 255 < n := by omega
      clear h
      go_enter Tryz.func33, Tryz.ntmps33
      go_wp2
      go_ret2
      exact ⟨rfl, Below.refl _ _⟩
theorem rnew_yes (N K : Nat) (h1 : 1 ≤ K) (h2 : K ≤ N) (h3 : N ≤ 255) (w : World) :
    Calls Tryz.prog 33 #[.int .i64 (N : Nat), .int .i64 (K : Nat)] w fun e w' => e = .returned (.tuple #[.pointer (some ⟨w.heap.size, 0, none⟩), .int .i64 0]) ∧ Rcd w' w.heap.size N K ∧ Below w.heap.size w w' := by
  have g1 : ¬ (K : Int) < 1 := by omega
  have g2 : ¬ (N : Int) < (K : Int) := by omega
  have g3 : ¬ 255 < (N : Int) := by omega
  go_enter Tryz.func33, Tryz.ntmps33
  go_wp2
  go_ret2
  exact ⟨rfl, heap_alloc_new _ _, (Below.refl _ w).alloc (Nat.le_refl _) _⟩

set_option maxHeartbeats 2000000 in
set_option maxRecDepth 100000 in
theorem rsource_any (rb N K : Nat) (a : Option Addr) (n cap : Nat) (r : Nat → Option Addr) (l c : Nat → Nat) (f : Nat → Nat → Nat) (hn : n ≤ 1000000000000) (w : World) (h : Rcd w rb N K) (hR : Rd w a n cap r l c f) :
    Calls Tryz.prog 60 #[.pointer (some ⟨rb, 0, none⟩), .slice a n cap] w fun e w' => TakeSays n K l e ∧ ∃ q, w' = w.drewN q := by
  have z1 := h.c1
  have HR := Lib.hid hR; clear hR h
  by_cases hne : n = K
  · have g1 : ((n : Int) != (K : Int)) = false := ne_no hne
    have HNE := Lib.hid hne; clear hne
    go_enter Tryz.func60, Tryz.ntmps60
    go_wp2_with fail
    clear z1 g1
    go_loopw [5] (fun i wr => ∃ (k : Nat) (W : World), W = wr ∧ k ≤ n ∧ i = .int .i64 k ∧ (∀ j, j < k → l j = l 0) ∧ ∃ q, wr = w.drewN q) (fun i _ => n - (intOf i).toNat)
    case atStart => exact ⟨0, _, rfl, by omega, rfl, fun j hj => absurd hj (Nat.not_lt_zero j), 0, rfl⟩
    case round =>
      obtain ⟨k, wx, rfl, hk, rfl, hev, q, hq⟩ := hrel
      have HE := Lib.hid hev; have HQ := Lib.hid hq; clear hev
      by_cases hlt : k < n
      · have i1 : (k : Int) < (n : Int) := by omega
        have i0 : (0 : Int) < (n : Int) := by omega
        have hr2 : Rd wx a n cap r l c f := by rw [hq]; exact HR.out.drewN q
        obtain ⟨b, off, ea, hc⟩ := hr2.at_ hlt
        obtain ⟨b', off', ea', hc'⟩ := hr2.at_ (k := 0) (by omega)
        have EA := Lib.hid (show a = some ⟨b, off, none⟩ from ea)
        rw [ea] at ea'
        cases ea'
        rw [Nat.add_zero] at hc'
        subst ea
        clear hq hr2
        by_cases he : l k = l 0
        · have g1 : (((l k : Nat) : Int) != ((l 0 : Nat) : Int)) = false := ne_no he
          have HEE := Lib.hid he; clear he
          go_wp2_with fail
          go_quiet (fail)
          go_wp2
          go_roundw
          case rel => exact ⟨k + 1, _, rfl, by omega, by go_num, fun j hj => by
            by_cases e : j = k
            · rw [e]; exact HEE.out
            · exact HE.out j (by omega), _, by rw [HQ.out, World.drewN_drewN]⟩
          case measure => simp [intOf]; omega
        · have g1 : (((l k : Nat) : Int) != ((l 0 : Nat) : Int)) = true := ne_yes he
          have HEE := Lib.hid (show ¬ ∀ i, i < n → l i = l 0 from fun h => he (h k hlt)); clear he
          go_wp2_with fail
          go_quiet (fail)
          go_wp2
          go_ret
          exact ⟨⟨false, rfl, ⟨fun h => (by cases h), fun h => absurd h.2 HEE.out⟩⟩, _, by rw [HQ.out, World.drewN_drewN]⟩
      · obtain rfl : k = n := by omega
        clear hq
        go_wp2
        go_ret
        exact ⟨⟨true, rfl, ⟨fun _ => ⟨HNE.out, HE.out⟩, fun _ => rfl⟩⟩, q, HQ.out⟩
  · have g1 : ((n : Int) != (K : Int)) = true := ne_yes hne
    have HNE := Lib.hid hne; clear hne
    go_enter Tryz.func60, Tryz.ntmps60
    go_wp2
    go_ret
    exact ⟨⟨false, rfl, ⟨fun h => (by cases h), fun h => absurd h.1 HNE.out⟩⟩, 0, rfl⟩
end Go.Proofs.YtkejabhjlflknaaGreat

namespace Go.Proofs.YtkejabhjlflknaaGreat
open Go.RowKit Go.Shelf

/-- what is moved so far: t places whole, of the next one i rows. -/
def mvk (P : Nat → Nat) (K : Nat) (g : Nat → Nat → Nat) (Q : Nat → Nat) (t i p j : Nat) : Nat := if j < t ∨ (j = t ∧ p < i) then Pf.mv P K g (Q p) j else 0
theorem mvk_bm {P Q : Nat → Nat} {K : Nat} {g : Nat → Nat → Nat} (hP : Pf.By P) (hg : Mt.Bm g) (hQ : Pf.By Q) (t i : Nat) : Mt.Bm (mvk P K g Q t i) := fun p j => by
  unfold mvk; split
  · exact Pf.mv_bm hP hg (hQ p) j
  · omega
theorem mvk_s (P : Nat → Nat) (K : Nat) (g : Nat → Nat → Nat) (Q : Nat → Nat) (t i p j : Nat) : (if p = i then (if j = t then Pf.mv P K g (Q i) t else mvk P K g Q t i i j) else mvk P K g Q t i p j) = mvk P K g Q t (i + 1) p j := by
  unfold mvk
  by_cases e : p = i
  · subst e
    rw [if_pos rfl]
    by_cases e2 : j = t
    · subst e2; rw [if_pos rfl, if_pos (Or.inr ⟨rfl, by omega⟩)]
    · rw [if_neg e2]
      by_cases e3 : j < t
      · rw [if_pos (Or.inl e3), if_pos (Or.inl e3)]
      · rw [if_neg (by omega), if_neg (by omega)]
  · rw [if_neg e]
    by_cases c : j < t ∨ (j = t ∧ p < i)
    · rw [if_pos c, if_pos (by omega)]
    · rw [if_neg c, if_neg (by omega)]
theorem mvk_e (P : Nat → Nat) (K : Nat) (g : Nat → Nat → Nat) (Q : Nat → Nat) (t m p j : Nat) (hp : p < m) : mvk P K g Q t m p j = mvk P K g Q (t + 1) 0 p j := by
  unfold mvk
  by_cases c : j < t + 1
  · rw [if_pos (by omega), if_pos (Or.inl c)]
  · rw [if_neg (by omega), if_neg (by omega)]
/-- a column. -/
def colf (g : Nat → Nat → Nat) (K t i : Nat) : Nat := if i < K then g i t else 0
theorem colf_by {g : Nat → Nat → Nat} (hg : Mt.Bm g) (K t : Nat) : Pf.By (colf g K t) := fun i => by
  unfold colf; split
  · exact hg i t
  · omega
theorem colf_up (g : Nat → Nat → Nat) (K t : Nat) : Pf.Up (colf g K t) K := fun i hi => by unfold colf; rw [if_neg (by omega)]
theorem colf_dot (P : Nat → Nat) (K : Nat) (g : Nat → Nat → Nat) (x t : Nat) : dotN (Pf.lw P K x) (colf g K t) K = Pf.mv P K g x t := Pf.xsum_congr K fun p hp => by unfold colf; rw [if_pos hp]
/-- rows, moved. -/
def MovSays (w : World) (m wi : Nat) (F : Nat → Nat → Nat) (e : Ending) (w' : World) : Prop := ∃ G sc b, e = .returned (.slice (some ⟨G, 0, none⟩) m sc) ∧ Gr w' w.heap.size G m sc b (fun _ => wi) (fun _ => wi) F ∧ Below w.heap.size w w'

set_option maxHeartbeats 8000000 in
set_option maxRecDepth 100000 in
theorem rmoved_any (fa ta la : Option Addr) (K fc n lc m tc wi : Nat) (r : Nat → Option Addr) (l c : Nat → Nat) (g : Nat → Nat → Nat) (P Q : Nat → Nat) (hK : K ≤ 255) (hd : Pf.Dst P K) (hKn : K ≤ n) (h0 : 0 < n) (hn : n ≤ 1000000) (hm : m ≤ 255) (h1 : 0 < m) (hw : wi ≤ 1000000) (hl : ∀ i, i < n → l i = wi) (w : World) (hF : Sl w fa K fc P) (hL : Rd w la n lc r l c g) (hT : Sl w ta m tc Q) :
    Calls Tryz.prog 61 #[.slice fa K fc, .slice la n lc, .slice ta m tc] w (MovSays w m wi (fun i => Pf.mv P K g (Q i))) := by
  obtain ⟨i0, hi, hz0, hz1, hz2⟩ := info_parts Tryz.infoU8
  have HI := Lib.hid hi; have HZ0 := Lib.hid hz0; have HZ1 := Lib.hid hz1; have HZ2 := Lib.hid hz2
  have HF := Lib.hid hF; have HL := Lib.hid hL; have HT := Lib.hid hT; have HE := Lib.hid hl; have HD := Lib.hid hd
  obtain ⟨lb, lo, el, c0⟩ := hL.at_ h0
  rw [hl 0 h0, Nat.add_zero] at c0
  have EL := Lib.hid (show la = some ⟨lb, lo, none⟩ from el)
  have i0' : (0 : Int) < (n : Int) := by omega
  subst el
  have HC0 := Lib.hid (fun W (hW : Below w.heap.size w W) => (hW.cell (World.block_lt_of_cell? _ _ c0)).trans c0)
  clear hi hz0 hz1 hz2 hF hL hT hl hd
  go_enter Tryz.func61, Tryz.ntmps61
  go_wp2_with fail
  clear c0
  refine (rrows_any m wi (by omega) hw _).mono ?_
  rintro e w1 ⟨sa, sc, b, rfl, hG, hB1⟩
  obtain ⟨G, rfl, hGr⟩ := hG.pos h1
  have HG1 := Lib.hid (hGr.congr (mvk_bm (K := K) HF.out.bytes HL.out.bm HT.out.bytes 0 0) (fun i j _ => by unfold mvk; rw [if_neg (by omega)])); have HB1 := Lib.hid hB1
  clear hG hGr hB1
  go_wp2_with fail
  go_loopw [8] (fun vi wr => ∃ (t : Nat) (W : World), W = wr ∧ t ≤ wi ∧ vi = .int .i64 t ∧ Gr wr w.heap.size G m sc b (fun _ => wi) (fun _ => wi) (mvk P K g Q t 0) ∧ Below w.heap.size w wr) (fun i _ => wi - (intOf i).toNat)
  case atStart => exact ⟨0, _, rfl, by omega, rfl, HG1.out, HB1.out⟩
  case round =>
    clear HG1 HB1
    obtain ⟨t, wo, rfl, ht, rfl, hG, hB⟩ := hrel
    have HG := Lib.hid hG; have HB := Lib.hid hB
    have hso := hB.size
    clear hG hB
    have c0 := HC0.out wo HB.out
    by_cases htw : t < wi
    · have i1 : (t : Int) < (wi : Int) := by omega
      go_wp2_with fail
      clear c0
      go_loopw [9, 10] (fun vs vi wr => ∃ (k : Nat) (va : Option Addr) (vc : Nat) (W : World), W = wr ∧ k ≤ K ∧ vi = .int .i64 k ∧ vs = .slice va k vc ∧ Rq wr wo.heap.size va k vc (colf g K t) ∧ Below wo.heap.size wo wr) (fun _ i _ => K - (intOf i).toNat)
      case atStart => exact ⟨0, none, 0, _, rfl, by omega, rfl, rfl, Or.inl ⟨rfl, rfl, rfl⟩, Below.refl _ _⟩
      case round =>
        obtain ⟨k, va, vc, wx, rfl, hk, rfl, rfl, hR, hBx⟩ := hrel
        have HR := Lib.hid hR; have HBx := Lib.hid hBx
        have hsx := hBx.size
        clear hR hBx
        by_cases hkK : k < K
        · have j1 : (k : Int) < (K : Int) := by omega
          have j2 : (k : Int) < (n : Int) := by omega
          have hBW := HB.out.trans (HBx.out.mono hso)
          have hLx := HL.out.same hBW
          have c1 := hLx.cell _ rfl k (by omega)
          have hrow := hLx.row k (by omega)
          rw [HE.out k (by omega)] at c1 hrow
          obtain ⟨b5, o5, e5, c5⟩ := hrow.at_ htw
          rw [e5] at c1
          have hcv : colf g K t k = g k t := by unfold colf; rw [if_pos hkK]
          generalize hv : g k t = v at *
          have HCV := Lib.hid hcv
          have hal : Below wx.heap.size wx (wx.alloc (.cells #[.int .u8 (v : Nat)] 5)) := (Below.refl _ wx).alloc (Nat.le_refl _) _
          have HRO := Lib.hid (HR.out.same hal).owns
          have hbb : wo.heap.size ≤ (wx.alloc (.cells #[.int .u8 (v : Nat)] 5)).heap.size := by rw [World.size_alloc]; omega
          clear hBW hLx hrow e5 hcv hal hv
          go_wp2_with (at_builtin; refine wpList_append_bag _ rfl _ _ 50 rfl wo.heap.size 5 i0 (.int .u8 0) 1 Tryz.underlying50 HI.out HZ0.out HZ1.out HZ2.out rfl va k vc _ rfl HRO.out _ 1 1 [.int .u8 (v : Nat)] rfl rfl (cell_new1 _ _ _) (one_single _ _) (by decide) (by unfold maxLen; omega) (by omega) hbb ?_; intro g6 c6 w6 hown6 hc6 hlt6; have HOWN6 := Lib.hid hown6; have HC6 := Lib.hid hc6; clear hown6 hc6 hlt6)
          have ho := HOWN6.out
          rw [show [Value.int .u8 ((v : Nat) : Int)] = [Value.int .u8 ((colf g K t k : Nat) : Int)] by rw [HCV.out], ← rowv_succ] at ho
          have hr6 := Rq.of_owns ho
          have hb6 := ((Below.refl wo.heap.size wx).alloc hsx (.cells #[.int .u8 (v : Nat)] 5)).trans (bag_below HC6.out (hr6.lt g6 rfl).1 hbb)
          have HR7 := Lib.hid hr6; have HB7 := Lib.hid (HBx.out.trans hb6)
          clear ho hr6 hb6 HOWN6 HC6 c1 c5
          go_wp2
          go_roundw
          case rel => exact ⟨k + 1, _, c6, _, rfl, by omega, by go_num, rfl, HR7.out, HB7.out⟩
          case measure => simp [intOf]; omega
        · obtain rfl : k = K := by omega
          have hBW := HB.out.trans (HBx.out.mono hso)
          have hV := (HR.out.nw (colf_by HL.out.bm k t) (colf_up g k t)).sl
          have HV := Lib.hid (rValues_any fa va ta k fc k vc m tc P (colf g k t) Q (by omega) (by omega) (by omega) wx (HF.out.same hBW) hV (HT.out.same hBW))
          have HBW := Lib.hid hBW
          have hsw := hBW.size
          clear hBW hV
          go_wp2_with fail
          refine HV.out.mono ?_
          rintro e w2 (⟨hne, _⟩ | ⟨_, hnd, _⟩ | ⟨_, _, va2, vc2, rfl, hN, hB2⟩)
          · exact absurd rfl hne
          · exact absurd HD.out hnd
          have HN := Lib.hid hN.sl; have HB2 := Lib.hid (HBW.out.trans (hB2.mono hsw)); have HG2 := Lib.hid (HG.out.same (HBx.out.trans (hB2.mono hsx)))
          have hs2 := HB2.out.size
          have HOF := Lib.hid (show ∀ p, va2 = some ⟨G, 0, none⟩ ∨ va2 = some ⟨b p, 0, none⟩ → p < m → False from fun p h hp => by
            have hlt : ∀ gg, va2 = some ⟨gg, 0, none⟩ → wx.heap.size ≤ gg := fun gg e => by
              rcases hN.cond with ⟨e2, _⟩ | ⟨g2, e2, h2, _⟩
              · rw [e2] at e; cases e
              · rw [e2] at e; cases e; exact h2
            rcases h with h | h
            · have := hlt _ h; have := HG.out.ltG; omega
            · have := hlt _ h; have := HG.out.ltb hp; omega)
          have HNB := Lib.hid hN
          clear hN hB2
          go_wp2_with fail
          go_loopw [13] (fun vi wr => ∃ (i : Nat) (W : World), W = wr ∧ i ≤ m ∧ vi = .int .i64 i ∧ Gr wr w.heap.size G m sc b (fun _ => wi) (fun _ => wi) (mvk P k g Q t i) ∧ Sl wr va2 m vc2 (vls P k (colf g k t) Q m) ∧ Below w.heap.size w wr) (fun i _ => m - (intOf i).toNat)
          case atStart => exact ⟨0, _, rfl, by omega, rfl, HG2.out, HN.out, HB2.out⟩
          case round =>
            clear HG2 HN HB2
            obtain ⟨i, wy, rfl, hi, rfl, hGy, hNy, hBy⟩ := hrel
            have HGy := Lib.hid hGy; have HBy := Lib.hid hBy; have HNy := Lib.hid hNy
            by_cases him : i < m
            · have j3 : (i : Int) < (m : Int) := by omega
              have c1 := hGy.cell him
              have hrb := hGy.row i him
              have c2 := hrb.cell htw
              have f2 := hrb.free t
              obtain ⟨b6, o6, e6, c6⟩ := hNy.at_ him
              have hv : vls P k (colf g k t) Q m i = Pf.mv P k g (Q i) t := by unfold vls; rw [if_pos him, colf_dot]
              have hvl : Pf.mv P k g (Q i) t < 256 := Pf.mv_bm HF.out.bytes HL.out.bm (HT.out.bytes i) t
              rw [hv] at c6
              have hne : b6 ≠ b i := fun e => by
                have := HNB.out.cond
                rcases this with ⟨e2, _⟩ | ⟨g2, e2, h2, _⟩
                · rw [e2] at e6; cases e6
                · rw [e2] at e6
                  simp only [Option.some.injEq, Addr.mk.injEq, and_true] at e6
                  exact HOF.out i (Or.inr (by rw [e2, e6.1, e])) him
              have HNE := Lib.hid hne
              have E6 := Lib.hid e6
              generalize hxv : Pf.mv P k g (Q i) t = xv at *
              have HXV := Lib.hid hxv; have HXL := Lib.hid hvl
              clear hGy hNy hBy hrb hv hvl hxv hne
              rw [e6]
              clear e6
              go_wp2_with fail
              go_region
              all_goals
                go_wp2
                go_roundw
                case rel => exact ⟨i + 1, _, rfl, by omega, by go_num, ((HGy.out.set him htw HXL.out).congr (mvk_bm HF.out.bytes HL.out.bm HT.out.bytes t (i + 1)) (fun p j hp => by rw [← HXV.out]; exact mvk_s P k g Q t i p j)).drewN 1, by
                  have := HNy.out.grown (grownSet wy (b i) t (.int .u8 (xv : Nat))) (fun ad ha _ => by
                    rw [E6.out] at ha; cases ha
                    simpa using HNE.out)
                  rw [← E6.out]
                  exact this.drewN 1, (HBy.out.setCell (p := ⟨b i, t, none⟩) (HGy.out.lo.2 i him) _).drew⟩
                case measure => simp [intOf]; omega
            · obtain rfl : i = m := by omega
              clear hGy hNy hBy
              go_wp2
              go_roundw
              case rel => exact ⟨t + 1, _, rfl, by omega, by go_num, HGy.out.congr (mvk_bm HF.out.bytes HL.out.bm HT.out.bytes (t + 1) 0) (fun p j hp => mvk_e P k g Q t i p j hp), HBy.out⟩
              case measure => simp [intOf]; omega
    · obtain rfl : t = wi := by omega
      have hfin : ∀ p j, p < m → mvk P K g Q t 0 p j = Pf.mv P K g (Q p) j := fun p j hp => by
        unfold mvk
        by_cases c : j < t
        · rw [if_pos (Or.inl c)]
        · rw [if_neg (by omega)]
          exact (Pf.mv_up (wi := t) (fun q hq => by have := (HL.out.row q (by omega)).up; rw [HE.out q (by omega)] at this; exact this) (Q p) j (by omega)).symm
      have HFIN := Lib.hid hfin; clear hfin
      go_wp2
      go_ret
      exact ⟨G, sc, b, rfl, HG.out.congr (fun p => Pf.mv_bm HF.out.bytes HL.out.bm (HT.out.bytes p)) (fun p j hp => HFIN.out p j hp), HB.out⟩
end Go.Proofs.YtkejabhjlflknaaGreat

namespace Go.Proofs.YtkejabhjlflknaaGreat
open Go.RowKit Go.Shelf

theorem enc_idk {K N i : Nat} {f : Nat → Nat → Nat} (hK : K ≤ 256) (hN : N ≤ 256) (hi : i < N) : Pf.mv (idk K) K f (idk N i) = enc K f i := by
  unfold enc
  rw [Pf.mv_points (R' := Pf.idn) (fun j hj => by unfold idk; rw [if_pos hj, Pf.idn_at (by omega)])]
  unfold idk
  rw [if_pos hi, Pf.idn_at (by omega)]
/-- a list of rows in new memory, and OK. -/
def LstR (w : World) (m wi : Nat) (F : Nat → Nat → Nat) (e : Ending) (w' : World) : Prop := ∃ G sc b c, e = .returned (.tuple #[.slice (some ⟨G, 0, none⟩) m sc, .int .i64 0]) ∧ Gr w' w.heap.size G m sc b (fun _ => wi) c F ∧ Below w.heap.size w w'
def EncR (n N K : Nat) (l : Nat → Nat) (f : Nat → Nat → Nat) (w : World) (e : Ending) (w' : World) : Prop := (¬ IsS n K l ∧ ErrL w 2 e w') ∨ (IsS n K l ∧ LstR w N (l 0) (enc K f) e w')

set_option maxHeartbeats 4000000 in
set_option maxRecDepth 100000 in
theorem rencode_any (rb N K : Nat) (a : Option Addr) (n cap : Nat) (r : Nat → Option Addr) (l c : Nat → Nat) (f : Nat → Nat → Nat) (hK : 1 ≤ K) (hKN : K ≤ N) (hN : N ≤ 255) (hn : n ≤ 1000000) (hl : ∀ i, i < n → l i ≤ 1000000) (w : World) (h : Rcd w rb N K) (hR : Rd w a n cap r l c f) :
    Calls Tryz.prog 35 #[.pointer (some ⟨rb, 0, none⟩), .slice a n cap] w (EncR n N K l f w) := by
  have H := Lib.hid h; have HR := Lib.hid hR; have HL := Lib.hid hl; clear h hR hl
  go_enter Tryz.func35, Tryz.ntmps35
  go_wp2_with fail
  refine (rsource_any rb N K a n cap r l c f (by omega) _ H.out HR.out).mono ?_
  rintro e w1 ⟨⟨v, rfl, hv⟩, q, hq⟩
  have hB1 := quiet_b hq
  have HV := Lib.hid hv; have HB1 := Lib.hid hB1
  cases v
  · clear hv hB1 hq
    go_wp2
    go_ret2
    exact Or.inl ⟨fun hh => Bool.false_ne_true (HV.out.2 hh), rfl, HB1.out⟩
  · obtain ⟨hnK, hev⟩ := hv.1 rfl
    have hbd : Below w1.heap.size w1 w1.drew := below_dr (Below.refl _ w1) 1
    have hcd := H.out.same hB1
    have z0 := hcd.c0; have z1 := hcd.c1
    have HC := Lib.hid (hcd.same hbd); have HRR := Lib.hid ((HR.out.same hB1).same hbd); have HBD := Lib.hid (HB1.out.trans (hbd.mono hB1.size))
    have hs1 := HBD.out.size
    have HEV := Lib.hid hev; have HNK := Lib.hid hnK
    have hK5 : K ≤ 255 := by omega
    have hfirst : True := trivial
    clear hv hB1 hbd hcd hev hnK hq
    go_wp2_with fail
    go_region_with (first | (go_at_call 62; clear hfirst; refine (rpoints_any _ hK5 _).mono ?_; rintro e w2 ⟨pa, pc, rfl, hp, hB2⟩; have hr2 := HC.out.same hB2; have z02 := hr2.c0; have z12 := hr2.c1; have HC2 := Lib.hid hr2; have HP2 := Lib.hid hp.sl; have HR2 := Lib.hid (HRR.out.same hB2); have HB2 := Lib.hid (HBD.out.trans (hB2.mono hs1)); clear hr2 hp hB2) | (go_at_call 62; refine (rpoints_any _ hN _).mono ?_; rintro e w3 ⟨qa, qc, rfl, hp, hB3⟩; have hr3 := HC2.out.same hB3; have z03 := hr3.c0; have z13 := hr3.c1; have HQ3 := Lib.hid hp.sl; have HP3 := Lib.hid (HP2.out.same hB3); have HR3 := Lib.hid (HR2.out.same hB3); have HB3 := Lib.hid (HB2.out.trans (hB3.mono HB2.out.size)); clear hr3 hp hB3) | (go_at_call 61; refine (rmoved_any _ _ _ K _ n _ N _ (l 0) r l c f (idk K) (idk N) (by omega) idk_dst (by rw [HNK.out]; exact Nat.le_refl _) (by rw [HNK.out]; exact hK) hn hN (by omega) (HL.out 0 (by rw [HNK.out]; exact hK)) HEV.out _ HP3.out HR3.out HQ3.out).mono ?_; rintro e w4 ⟨G4, sc4, b4, rfl, hG4, hB4⟩; have HG4 := Lib.hid hG4; have HB4 := Lib.hid (HB3.out.trans (hB4.mono HB3.out.size)); clear hG4 hB4))
    all_goals
      go_wp2
      go_ret2
      exact Or.inr ⟨⟨HNK.out, HEV.out⟩, G4, sc4, b4, _, rfl, (HG4.out.mono HB3.out.size).congr (enc_bm HR3.out.bm) (fun i j hi => by rw [enc_idk (by omega) (by omega) hi]), HB4.out⟩

/-- is one twice among the first k? -/
def twi (h : Nat → Int) : Nat → Bool
  | 0 => false
  | k + 1 => twi h k || hit h (h k) k
theorem twi_no {h : Nat → Int} : ∀ k, twi h k = false → DsI h k
  | 0, _, i, j, _, hj => by omega
  | k + 1, e, i, j, hij, hj => by
    unfold twi at e
    rw [Bool.or_eq_false_iff] at e
    by_cases c : j = k
    · subst c; exact hit_no _ e.2 i hij
    · exact twi_no k e.1 i j hij (by omega)
theorem twi_yes {h : Nat → Int} : ∀ k, twi h k = true → ¬ DsI h k
  | 0, e, _ => by cases e
  | k + 1, e, hd => by
    unfold twi at e
    rw [Bool.or_eq_true] at e
    rcases e with e | e
    · exact twi_yes k e (fun i j h1 h2 => hd i j h1 (by omega))
    · obtain ⟨i, h1, h2⟩ := hit_yes _ e
      exact hd i k h1 (by omega) h2

set_option maxHeartbeats 4000000 in
set_option maxRecDepth 100000 in
theorem rasked_any (rb N K : Nat) (a : Option Addr) (m cap : Nat) (h : Nat → Int) (hm : m ≤ 1000000000000) (w : World) (hC : Rcd w rb N K) (hS : Si w a m h) :
    Calls Tryz.prog 68 #[.pointer (some ⟨rb, 0, none⟩), .slice a m cap] w fun e w' => ChkSays h m N K e ∧ ∃ q, w' = w.drewN q := by
  have HC := Lib.hid hC; have HS := Lib.hid hS; clear hC hS
  go_enter Tryz.func68, Tryz.ntmps68
  go_wp2_with fail
  go_loopw [5, 6] (fun s i wr => ∃ (k : Nat) (W : World), W = wr ∧ k ≤ m ∧ i = .int .i64 k ∧ s = .bool (twi h k) ∧ InR h k N ∧ ∃ q, wr = w.drewN q) (fun _ i _ => m - (intOf i).toNat)
  case atStart => exact ⟨0, _, rfl, by omega, rfl, rfl, fun j hj => absurd hj (Nat.not_lt_zero j), 0, rfl⟩
  case round =>
    obtain ⟨k, wo, rfl, hk, rfl, rfl, hin, q, hq⟩ := hrel
    have HIN := Lib.hid hin; have HQ := Lib.hid hq
    have hBq := quiet_b hq
    clear hin
    by_cases hlt : k < m
    · have i1 : (k : Int) < (m : Int) := by omega
      obtain ⟨ab, ao, ea, hca⟩ := (HS.out.same hBq).cell k hlt
      have EA := Lib.hid (show a = some ⟨ab, ao, none⟩ from ea)
      have z0 := (HC.out.same hBq).c0
      subst ea
      clear hq hBq
      by_cases hx0 : h k < 0
      · have g1 : decide (h k < 0) = true := by simp [hx0]
        have HX := Lib.hid (show ¬ InR h m N from fun hh => by have := hh k hlt; omega); clear hx0
        go_wp2_with fail
        go_quiet (fail)
        go_wp2
        go_ret
        exact ⟨⟨2, rfl, Or.inl ⟨HX.out, rfl⟩⟩, _, by rw [HQ.out, World.drewN_drewN]⟩
      · have g1 : decide (h k < 0) = false := by simp; omega
        by_cases hxN : (N : Int) ≤ h k
        · have g2 : decide ((N : Int) ≤ h k) = true := by simp [hxN]
          have HX := Lib.hid (show ¬ InR h m N from fun hh => by have := hh k hlt; omega); clear hx0 hxN
          go_wp2_with fail
          go_quiet (fail)
          go_wp2
          go_ret
          exact ⟨⟨2, rfl, Or.inl ⟨HX.out, rfl⟩⟩, _, by rw [HQ.out, World.drewN_drewN]⟩
        · have g2 : decide ((N : Int) ≤ h k) = false := by simp; omega
          have HX := Lib.hid (show 0 ≤ h k ∧ h k < (N : Int) by omega); clear hx0 hxN
          have hq2 : ∀ n, wo.drewN n = w.drewN (q + n) := fun n => by rw [HQ.out, World.drewN_drewN]
          have HQ2 := Lib.hid hq2; clear hq2
          go_wp2_with fail
          go_quiet (fail)
          clear hca z0 g1 g2
          go_wp2_with fail
          go_loopw [5, 7] (fun s j wr => ∃ (t : Nat) (W : World), W = wr ∧ t ≤ k ∧ j = .int .i64 t ∧ s = .bool (twi h k || hit h (h k) t) ∧ ∃ q, wr = w.drewN q) (fun _ j _ => k - (intOf j).toNat)
          case atStart => exact ⟨0, _, rfl, by omega, rfl, by rw [show hit h (h k) 0 = false from rfl, Bool.or_false], _, HQ2.out _⟩
          case round =>
            obtain ⟨t, wx, rfl, ht, rfl, rfl, q3, hq3⟩ := hrel
            have HQ3 := Lib.hid hq3
            have hB3 := quiet_b hq3
            by_cases htk : t < k
            · have i2 : (t : Int) < (k : Int) := by omega
              have i3 : (t : Int) < (m : Int) := by omega
              obtain ⟨b1, o1, e1, d1⟩ := (HS.out.same hB3).cell t (by omega)
              obtain ⟨b2, o2, e2, d2⟩ := (HS.out.same hB3).cell k hlt
              cases e1
              cases e2
              clear hq3 hB3
              have hs : (twi h k || hit h (h k) (t + 1)) = (twi h k || hit h (h k) t || decide (h t = h k)) := by rw [Bool.or_assoc]; rfl
              have HS2 := Lib.hid hs; clear hs
              generalize hs1 : (twi h k || hit h (h k) t) = s1 at *
              cases s1
              · by_cases hht : h t = h k
                · have g5 : (h t == h k) = true := by simp [hht]
                  have g6 : (twi h k || hit h (h k) (t + 1)) = true := by rw [HS2.out]; simp [hht]
                  have G6 := Lib.hid g6; have HHT := Lib.hid hht
                  clear g6 hht hs1
                  go_wp2_with fail
                  go_quiet (fail)
                  go_wp2
                  go_roundw
                  case rel => exact ⟨t + 1, _, rfl, by omega, by go_num, by rw [G6.out], _, by rw [HQ3.out, World.drewN_drewN]⟩
                  case measure => simp [intOf]; omega
                · have g5 : (h t == h k) = false := by simp [hht]
                  have g6 : (twi h k || hit h (h k) (t + 1)) = false := by rw [HS2.out]; simp [hht]
                  have G6 := Lib.hid g6; have HHT := Lib.hid hht
                  clear g6 hht hs1
                  go_wp2_with fail
                  go_quiet (fail)
                  go_wp2
                  go_roundw
                  case rel => exact ⟨t + 1, _, rfl, by omega, by go_num, by rw [G6.out], _, by rw [HQ3.out, World.drewN_drewN]⟩
                  case measure => simp [intOf]; omega
              · have g6 : (twi h k || hit h (h k) (t + 1)) = true := by rw [HS2.out]; rfl
                have G6 := Lib.hid g6
                clear g6 hs1
                go_wp2_with fail
                go_quiet (fail)
                go_wp2
                go_roundw
                case rel => exact ⟨t + 1, _, rfl, by omega, by go_num, by rw [G6.out], _, by rw [HQ3.out, World.drewN_drewN]⟩
                case measure => simp [intOf]; omega
            · obtain rfl : t = k := by omega
              clear hB3 hq3
              go_wp2
              go_roundw
              case rel => exact ⟨t + 1, _, rfl, by omega, by go_num, rfl, fun j hj => by
                by_cases e : j = t
                · rw [e]; exact HX.out
                · exact HIN.out j (by omega), q3, HQ3.out⟩
              case measure => simp [intOf]; omega
    · obtain rfl : k = m := by omega
      have z1 := (HC.out.same hBq).c1
      clear hq hBq
      cases htw : twi h k
      · have HD := Lib.hid (twi_no k htw)
        clear htw
        by_cases hK : k < K
        · have i1 : (k : Int) < (K : Int) := by omega
          go_wp2
          go_ret
          exact ⟨⟨8, rfl, Or.inr (Or.inr (Or.inl ⟨HIN.out, HD.out, hK, rfl⟩))⟩, q, HQ.out⟩
        · have i1 : ¬ (k : Int) < (K : Int) := by omega
          go_wp2
          go_ret
          exact ⟨⟨0, rfl, Or.inr (Or.inr (Or.inr ⟨HIN.out, HD.out, by omega, rfl⟩))⟩, q, HQ.out⟩
      · have HD := Lib.hid (twi_yes k htw)
        clear htw
        go_wp2
        go_ret
        exact ⟨⟨9, rfl, Or.inr (Or.inl ⟨HIN.out, HD.out, rfl⟩)⟩, q, HQ.out⟩
end Go.Proofs.YtkejabhjlflknaaGreat
