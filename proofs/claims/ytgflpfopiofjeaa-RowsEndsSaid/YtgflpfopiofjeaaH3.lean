import Derived.Test.YtgflpfopiofjeaaH2
namespace Go.Proofs.Ytgflpfopiofjeaa
open Go.RowKit Go.Shelf

theorem rmul_nat (x y : Nat) (hx : x < 256) (hy : y < 256) (w : World) :
    Calls Try.prog 36 #[.int .u8 x, .int .u8 y] w fun e w' => e = .returned (.int .u8 (Gf.mul x y : Nat)) ∧ w' = w := rmul_any x y hx hy w

set_option maxHeartbeats 1000000 in
set_option maxRecDepth 100000 in
theorem rscale_any (g m x : Nat) (F : Nat → Nat) (w : World) (hb : Bl w g m m F) (hF : Pf.By F) (hx : x < 256) (hm : m ≤ 1000000) :
    Calls Try.prog 52 #[.slice (some ⟨g, 0, none⟩) m m, .int .u8 (x : Nat)] w fun e w' => e = .returned (.tuple #[]) ∧ w.grownBy w' (some g) ∧ Bl w' g m m (sclf F x 0 m) := by
  have HB := Lib.hid hb; have HBF := Lib.hid hF
  have HST := Lib.hid (hb.congr (h' := sclf F x 0 0) fun j _ => by unfold sclf; rw [if_neg (by omega)])
  clear hb hF
  have HGR0 := Lib.hid (show w.grownBy w (some g) from ⟨rfl, rfl, rfl, Nat.le_refl _, fun _ _ _ => rfl⟩)
  go_enter Try.func52, Try.ntmps52
  go_wp2_with fail
  go_loopw [4] (fun i wr => ∃ k : Nat, k ≤ m ∧ i = .int .i64 k ∧ Bl wr g m m (sclf F x 0 k) ∧ w.grownBy wr (some g)) (fun i _ => m - (intOf i).toNat)
  case atStart => exact ⟨0, by omega, rfl, HST.out, HGR0.out⟩
  case round =>
    rename_i wr
    obtain ⟨k, hk, rfl, hBl, hGr⟩ := hrel
    by_cases hkm : k < m
    · have i1 : (k : Int) < (m : Int) := by omega
      have c1 := hBl.cell hkm
      have f1 := hBl.free k
      have e0 := sclf_at F x 0 k
      rw [Nat.zero_add] at e0
      rw [e0] at c1
      have HBl := Lib.hid hBl; have HGr := Lib.hid hGr
      have d1 := HBF.out k
      have HS' := Lib.hid (fun j => sclf_s F x 0 k j)
      clear hBl hGr e0
      go_wp2_with fail
      refine (rmul_nat (F k) x d1 hx _).mono ?_
      rintro e w2 ⟨rfl, rfl⟩
      go_wp2_with fail
      go_roundw
      case rel => exact ⟨k + 1, by omega, by go_num, (HBl.out.set hkm _).congr (fun j _ => by have := HS'.out j; rw [Nat.zero_add] at this; exact this), by
        have h1 := HGr.out
        have h2 := grownSet w2 g k (.int .u8 ((Gf.mul (F k) x : Nat) : Int))
        exact ⟨h2.os.trans h1.os, h2.tape.trans h1.tape, h2.output.trans h1.output, Nat.le_trans h1.size h2.size, fun q hq hne => (h2.block q (Nat.lt_of_lt_of_le hq h1.size) hne).trans (h1.block q hq hne)⟩⟩
      case measure => simp [intOf]; omega
    · obtain rfl : k = m := by omega
      have HBl := Lib.hid hBl; have HGr := Lib.hid hGr
      clear hBl hGr
      go_wp2
      go_end0
      exact ⟨rfl, HGr.out, HBl.out⟩

set_option maxHeartbeats 1000000 in
set_option maxRecDepth 100000 in
theorem radd_any (g g2 m p : Nat) (F S : Nat → Nat) (w : World) (hb : Bl w g m m F) (hb2 : Bl w g2 m m S) (hF : Pf.By F) (hS : Pf.By S) (hne : g ≠ g2) (hp : p < 256) (hm : m ≤ 1000000) :
    Calls Try.prog 53 #[.slice (some ⟨g, 0, none⟩) m m, .slice (some ⟨g2, 0, none⟩) m m, .int .u8 (p : Nat)] w fun e w' => e = .returned (.tuple #[]) ∧ w.grownBy w' (some g) ∧ Bl w' g m m (addf F S p 0 m) := by
  have HB := Lib.hid hb; have HB2 := Lib.hid hb2; have HBF := Lib.hid hF; have HBS := Lib.hid hS
  have HST := Lib.hid (hb.congr (h' := addf F S p 0 0) fun j _ => by unfold addf; rw [if_neg (by omega)])
  clear hb hb2 hF hS
  have HGR0 := Lib.hid (show w.grownBy w (some g) from ⟨rfl, rfl, rfl, Nat.le_refl _, fun _ _ _ => rfl⟩)
  go_enter Try.func53, Try.ntmps53
  go_wp2_with fail
  go_loopw [6] (fun i wr => ∃ k : Nat, k ≤ m ∧ i = .int .i64 k ∧ Bl wr g m m (addf F S p 0 k) ∧ w.grownBy wr (some g)) (fun i _ => m - (intOf i).toNat)
  case atStart => exact ⟨0, by omega, rfl, HST.out, HGR0.out⟩
  case round =>
    rename_i wr
    obtain ⟨k, hk, rfl, hBl, hGr⟩ := hrel
    by_cases hkm : k < m
    · have i1 : (k : Int) < (m : Int) := by omega
      have c1 := hBl.cell hkm
      have f1 := hBl.free k
      have e0 := addf_at F S p 0 k
      rw [Nat.zero_add] at e0
      rw [e0] at c1
      have c2 := (HB2.out.kept (hGr.block g2 HB2.out.lt (by simpa using fun e => hne e.symm))).cell hkm
      have HBl := Lib.hid hBl; have HGr := Lib.hid hGr
      clear hBl hGr e0
      have d1 := HBF.out k
      have d2 := HBS.out k
      have d3 := Gf.mul_lt d2 hp
      have HS' := Lib.hid (fun j => addf_s F S p 0 k j)
      have HAT := Lib.hid (addf_at F S p 0 k)
      have hx : bits .xor .u8 ((F k : Nat) : Int) ((Gf.mul (S k) p : Nat) : Int) = ((F k ^^^ Gf.mul (S k) p : Nat) : Int) := u8_xor_nat _ _ d1 d3
      go_wp2_with fail
      refine Rb.wp_region_quiet_tail 14 (by kernel_rfl) (by kernel_rfl) ?_
      simp only [List.take_succ_cons, List.take_zero, List.drop_succ_cons, List.drop_zero]
      repeat (go_big_quiet_step ((go_at_call 36; exact Calls.quiet_of_same (rmul_nat (S k) p d2 hp _))))
      refine wpQuiet_nil ?_
      rintro _ ⟨k2, rfl⟩
      go_wp2_with fail
      go_roundw
      case rel => exact ⟨k + 1, by omega, by go_num, ((HBl.out.drewN k2).set hkm _).congr (fun j _ => by
        have h1 := HS'.out j
        have h2 := HAT.out
        simp only [Nat.zero_add] at h1 h2
        rw [← h1, h2]), by
        have h1 := HGr.out
        have h2 := grownSet (wr.drewN k2) g k (.int .u8 ((F k ^^^ Gf.mul (S k) p : Nat) : Int))
        exact ⟨h2.os.trans h1.os, h2.tape.trans h1.tape, h2.output.trans h1.output, Nat.le_trans h1.size h2.size, fun q hq hne => (h2.block q (Nat.lt_of_lt_of_le hq h1.size) hne).trans (h1.block q hq hne)⟩⟩
      case measure => simp [intOf]; omega
    · obtain rfl : k = m := by omega
      have HBl := Lib.hid hBl; have HGr := Lib.hid hGr
      clear hBl hGr
      go_wp2
      go_end0
      exact ⟨rfl, HGr.out, HBl.out⟩

/-- what a call answers that hands out a matrix made row by row, and no error. -/
def PutsE (w : World) (h wi : Nat) (f : Nat → Nat → Nat) (e : Ending) (w' : World) : Prop :=
  ∃ a cap b, e = .returned (.tuple #[.slice a h cap, .int .i64 0]) ∧ Go_ w' w.heap.size a h cap b (fun _ => wi) (fun _ => wi) f ∧ Below w.heap.size w w'
theorem Go_.congr {w : World} {B n cap : Nat} {a : Option Addr} {b l c : Nat → Nat} {f g : Nat → Nat → Nat} (h : Go_ w B a n cap b l c f) (hg : Mt.Bm g) (e : ∀ i j, i < n → f i j = g i j) : Go_ w B a n cap b l c g := ⟨hg, by
  rcases h.2 with h | ⟨G, e2, h⟩
  · exact Or.inl h
  · exact Or.inr ⟨G, e2, h.congr hg e⟩⟩

set_option maxHeartbeats 1000000 in
set_option maxRecDepth 100000 in
theorem runit_yes (n : Nat) (hn : n ≤ 255) (w : World) :
    Calls Try.prog 18 #[.int .i64 (n : Nat)] w (PutsE w n n (cl n n Mt.dl)) := by
  have i1 : decide ((n : Int) < 0) = false := by simp
  have i2 : decide ((255 : Int) < (n : Int)) = false := by simp; omega
  have hfb := cl_bm Mt.dl_lt n n
  have HFB := Lib.hid hfb; clear hfb
  have HS := Lib.hid (show ∀ k, k < n → ∀ i j, (if i = k then (if j = k then 1 else firstR k (cl n n Mt.dl) k j) else firstR k (cl n n Mt.dl) i j) = firstR (k + 1) (cl n n Mt.dl) i j from fun k hk i j => by
    rw [← firstR_s k]
    by_cases e : i = k
    · rw [if_pos e, if_pos e]
      by_cases c : j = k
      · subst c
        rw [if_pos rfl, cl_in hk hk, Mt.dl_same]
      · rw [if_neg c]
        unfold firstR cl
        rw [if_neg (by omega)]
        split
        · rw [Mt.dl_ne (fun h => c h.symm)]
        · rfl
    · rw [if_neg e, if_neg e])
  go_enter Try.func18, Try.ntmps18
  go_wp2_with fail
  refine (zeros_any n n (by omega) (by omega) _).mono ?_
  rintro e w1 ⟨a, cap, b, rfl, hG, hB⟩
  have HST := Lib.hid (show Go_ w1 w.heap.size a n cap b (fun _ => n) (fun _ => n) (firstR 0 (cl n n Mt.dl)) from hG.congr (firstR_bm HFB.out 0) fun _ _ _ => rfl); have HB := Lib.hid hB; clear hG hB
  go_wp2_with fail
  go_loopw [5] (fun i wr => ∃ k : Nat, k ≤ n ∧ i = .int .i64 k ∧ Go_ wr w.heap.size a n cap b (fun _ => n) (fun _ => n) (firstR k (cl n n Mt.dl)) ∧ Below w.heap.size w wr) (fun i _ => n - (intOf i).toNat)
  case atStart => exact ⟨0, by omega, rfl, HST.out, HB.out⟩
  case round =>
    rename_i wr
    obtain ⟨k, hk, rfl, hGr, hBe⟩ := hrel
    by_cases hkn : k < n
    · have j1 : (k : Int) < (n : Int) := by omega
      obtain ⟨G, ea, hG⟩ := hGr.pos (by omega)
      subst ea
      have HGr := Lib.hid hG; have HBe := Lib.hid hBe
      clear hG hGr hBe
      have hcap := HGr.out.nc.1
      have hcb := HGr.out.cell hkn
      have hcc := (HGr.out.row k hkn).cell hkn
      have hfr := (HGr.out.row k hkn).free k
      go_wp2_with fail
      go_roundw
      case rel => exact ⟨k + 1, by omega, by go_num, ((HGr.out.set (v := 1) hkn hkn (by omega)).congr (firstR_bm HFB.out (k + 1)) (fun i j _ => HS.out k hkn i j)).go, HBe.out.setCell (p := ⟨b k, k, none⟩) (HGr.out.lo.2 k hkn) _⟩
      case measure => simp [intOf]; omega
    · obtain rfl : k = n := by omega
      have HGr := Lib.hid hGr; have HBe := Lib.hid hBe
      clear hGr hBe
      go_wp2
      go_ret2
      exact ⟨a, cap, b, rfl, HGr.out.congr HFB.out (fun i j hi => if_pos hi), HBe.out⟩
set_option maxHeartbeats 1000000 in
theorem runit_no (n : Int) (hn : n < 0 ∨ 255 < n) (w : World) :
    Calls Try.prog 18 #[.int .i64 n] w fun e w' => e = .returned (.tuple #[.slice none 0 0, .int .i64 2]) ∧ w' = w := by
  by_cases h : n < 0
  · clear hn
    go_enter Try.func18, Try.ntmps18
    go_wp2
    go_ret2
    exact ⟨rfl, rfl⟩
  · have i2 : 255 < n := by omega
    clear hn
    go_enter Try.func18, Try.ntmps18
    go_wp2
    go_ret2
    exact ⟨rfl, rfl⟩
end Go.Proofs.Ytgflpfopiofjeaa
