import Derived.Test.YtgflpfopiofjeaaH8
namespace Go.Proofs.Ytgflpfopiofjeaa
open Go.RowKit Go.Shelf

theorem cl_cong2 {h w : Nat} {A A' : Nat → Nat → Nat} (e : ∀ i j, i < h → j < w → A i j = A' i j) : cl h w A = cl h w A' := funext fun i => funext fun j => by
  unfold cl
  by_cases c : i < h ∧ j < w
  · rw [if_pos c, if_pos c, e i j c.1 c.2]
  · rw [if_neg c, if_neg c]
theorem up_cl {f : Nat → Nat → Nat} {n m : Nat} (h : ∀ i, i < n → Pf.Up (f i) m) : ∀ i, i < n → f i = cl n m f i := fun i hi => funext fun j => by
  by_cases hj : j < m
  · rw [cl_in hi hj]
  · rw [cl_up n m f i j (by omega), h i hi j (by omega)]
theorem wu_cl {f : Nat → Nat → Nat} {n : Nat} (h : ∀ i, i < n → Pf.Up (f i) n) : ∀ i, i < n → f i = cl n n (Mt.wu f n) i := fun i hi => by
  rw [up_cl h i hi]
  have : cl n n f = cl n n (Mt.wu f n) := cl_cong2 fun i j _ hj => (Mt.wu_lo hj).symm
  rw [this]
theorem wu_shf (f : Nat → Nat → Nat) (n : Nat) : cl n n Mt.dl = shf n n n (Mt.wu f n) := cl_cong2 fun _ _ _ _ => Mt.wu_hi.symm

set_option maxHeartbeats 1000000 in
theorem rinverse_no (a : Option Addr) (n cap : Nat) (r : Nat → Option Addr) (l c : Nat → Nat) (f : Nat → Nat → Nat) (hn : n ≤ 1000000000000) (w : World) (hR : Rd w a n cap r l c f) (hM : ¬ (IsM n l ∧ wd n l = n)) :
    Calls Try.prog 14 #[.slice a n cap] w (Refuses w 2) := by
  have HR := Lib.hid hR; clear hR
  by_cases h : IsM n l
  · have i1 := ne_yes (fun hm : wd n l = n => hM ⟨h, hm⟩)
    have HM := Lib.hid h
    clear hM h
    go_enter Try.func14, Try.ntmps14
    go_wp2_with fail
    refine (rright_yes a n cap r l c f _ HR.out HM.out).mono ?_
    rintro e w1 ⟨rfl, q, rfl⟩
    go_wp2_with fail
    refine (rcolumns_any a n cap r l c f _ (HR.out.drewN _)).mono ?_
    rintro e w3 ⟨rfl, rfl⟩
    go_wp2
    go_ret2
    exact ⟨rfl, below_dr (Below.refl _ _) _⟩
  · have HM := Lib.hid h; clear hM h
    go_enter Try.func14, Try.ntmps14
    go_wp2_with fail
    refine (rright_no a n cap r l c f hn _ HR.out HM.out).mono ?_
    rintro e w1 ⟨rfl, q, rfl⟩
    go_wp2
    go_ret2
    exact ⟨rfl, below_dr (Below.refl _ _) _⟩

/-- what the document's Inverse answers to a matrix of as many rows as columns. -/
def RInverts (w : World) (n : Nat) (f : Nat → Nat → Nat) (e : Ending) (w' : World) : Prop :=
  (Mt.rk n n f < n ∧ Refuses w 7 e w') ∨ (Mt.rk n n f = n ∧ PutsE w n n (cl n n (Mt.inv f n)) e w')

/-- reduced, of a matrix and the unit. -/
theorem reduced_inv (a b : Option Addr) (n cap capb : Nat) (r : Nat → Option Addr) (l c bu lb cb : Nat → Nat) (f : Nat → Nat → Nat) (hn : n ≤ 255) (w : World) (hR : Rd w a n cap r l c f) (hl : ∀ i, i < n → l i = n) (hU : Rd w b n capb (fun i => some ⟨bu i, 0, none⟩) lb cb (cl n n Mt.dl)) (hlb : ∀ i, i < n → lb i = n) :
    Calls Try.prog 41 #[.slice a n cap, .slice b n capb] w fun e w' =>
      ∃ ax cx ay cy by', e = .returned (.tuple #[.slice ax n cx, .slice ay n cy, .int .i64 (Mt.rk n n f : Nat)]) ∧ Go_ w' w.heap.size ay n cy by' (fun _ => n) (fun _ => n) (cl n n (Mt.inv f n)) ∧ Below w.heap.size w w' := by
  by_cases h0 : n = 0
  · subst h0
    refine (reduced_empty a b cap capb r _ l c lb cb f _ w hR hU).mono ?_
    rintro e w' ⟨ax, cx, ay, cy, by', h1, h2, h3⟩
    have hz : Mt.rk 0 0 f = 0 := rfl
    rw [hz]
    exact ⟨ax, cx, ay, cy, by', h1, h2.congr (cl_bm (Mt.inv_bm hR.bm 0) 0 0) (fun i j hi => absurd hi (Nat.not_lt_zero i)), h3⟩
  · refine (reduced_both a b n cap capb n n r _ l c lb cb f _ (Mt.wu f n) (by omega) hn hn hn w hR hU hl hlb (Mt.wu_bm hR.bm n) (wu_cl fun i hi => by have := (hR.row i hi).up; rw [hl i hi] at this; exact this) (fun i _ => by rw [wu_shf f n])).mono ?_
    rintro e w' ⟨ax, cx, ay, cy, by', h1, h2, h3⟩
    have hz : (Mt.gj n (Mt.wu f n) n).1 = Mt.rk n n f := Mt.rk_wu hR.bm n
    rw [hz] at h1
    exact ⟨ax, cx, ay, cy, by', h1, h2, h3⟩
theorem reduced_rank (a : Option Addr) (n cap : Nat) (r : Nat → Option Addr) (l c : Nat → Nat) (f : Nat → Nat → Nat) (w : World) (hR : Rd w a n cap r l c f) (hM : IsM n l) :
    Calls Try.prog 41 #[.slice a n cap, .slice none 0 0] w (Steps w n (wd n l) f) := by
  by_cases h0 : n = 0
  · subst h0
    refine (reduced_empty a none cap 0 r _ l c _ _ f _ w hR (rd_none w)).mono ?_
    rintro e w' ⟨ax, cx, ay, cy, by', h1, h2, h3⟩
    exact ⟨_, _, h1, h3⟩
  · have hl : ∀ i, i < n → l i = wd n l := fun i hi => by rw [hM.1 i hi]; unfold wd; rw [if_neg h0]
    exact reduced_one a n cap (wd n l) r l c f f (by omega) hM.2.1 hM.2.2 w hR hl hR.bm (up_cl fun i hi => by have := (hR.row i hi).up; rw [hl i hi] at this; exact this)

set_option maxHeartbeats 1000000 in
set_option maxRecDepth 100000 in
theorem rinverse_yes (a : Option Addr) (n cap : Nat) (r : Nat → Option Addr) (l c : Nat → Nat) (f : Nat → Nat → Nat) (w : World) (hR : Rd w a n cap r l c f) (hM : IsM n l) (hm : wd n l = n) :
    Calls Try.prog 14 #[.slice a n cap] w (RInverts w n f) := by
  have HR := Lib.hid hR; have HM := Lib.hid hM
  have hn := hM.2.1
  have HL := Lib.hid (show ∀ i, i < n → l i = n from fun i hi => by rw [hM.1 i hi]; unfold wd at hm; rw [if_neg (by omega)] at hm; exact hm)
  have HCA := Lib.hid (show ∀ w, Rd w a n cap r l c f → Calls Try.prog 34 #[.slice a n cap] w fun e w' => e = .returned (.int .i64 (n : Nat)) ∧ w' = w from fun w h => by
    have := rcolumns_any a n cap r l c f w h
    rw [hm] at this; exact this)
  clear hR hM hm
  have HLE := Lib.hid (Mt.rk_le_rows HR.out.bm n n)
  have g1 : (((n : Nat) : Int) != (n : Int)) = false := by simp
  go_enter Try.func14, Try.ntmps14
  go_wp2_with fail
  refine (rright_yes a n cap r l c f _ HR.out HM.out).mono ?_
  rintro e w1 ⟨rfl, q, hq⟩
  have HB1 := Lib.hid (show Below w.heap.size w w1 by rw [hq]; exact below_dr (Below.refl _ _) q); clear hq
  go_wp2_with fail
  refine (HCA.out _ (HR.out.same HB1.out)).mono ?_
  rintro e w2 ⟨rfl, rfl⟩
  clear g1
  go_wp2_with fail
  refine (runit_yes n hn _).mono ?_
  rintro e w3 ⟨au, cu, bu, rfl, hU, hB⟩
  have HU := Lib.hid hU; have HB3 := Lib.hid (HB1.out.trans (hB.mono HB1.out.size)); clear hU hB
  go_wp2_with fail
  refine (reduced_inv a au n cap cu r l c bu _ _ f hn _ (HR.out.same HB3.out) HL.out HU.out.rd (fun _ _ => rfl)).mono ?_
  rintro e w4 ⟨ax, cx, ay, cy, by', rfl, hG, hB⟩
  have HG := Lib.hid (hG.mono HB3.out.size); have HB4 := Lib.hid (HB3.out.trans (hB.mono HB3.out.size)); have hle := HLE.out; clear hG hB
  by_cases hs : Mt.rk n n f < n
  · have i1 : decide (Mt.rk n n f < n) = true := by simp; omega
    have HS := Lib.hid hs; clear hs hle
    go_wp2
    go_ret2
    exact Or.inl ⟨HS.out, rfl, HB4.out⟩
  · have i1 : decide (Mt.rk n n f < n) = false := by simp; omega
    have HS := Lib.hid (show Mt.rk n n f = n by omega); clear hs hle
    go_wp2
    go_ret2
    exact Or.inr ⟨HS.out, ay, cy, by', rfl, HG.out, HB4.out⟩

set_option maxHeartbeats 1000000 in
theorem rrank_no (a : Option Addr) (n cap : Nat) (r : Nat → Option Addr) (l c : Nat → Nat) (f : Nat → Nat → Nat) (hn : n ≤ 1000000000000) (w : World) (hR : Rd w a n cap r l c f) (hM : ¬ IsM n l) :
    Calls Try.prog 26 #[.slice a n cap] w fun e w' => e = .returned (.int .i64 0) ∧ Below w.heap.size w w' := by
  have HR := Lib.hid hR; have HM := Lib.hid hM; clear hR hM
  go_enter Try.func26, Try.ntmps26
  go_wp2_with fail
  refine (rright_no a n cap r l c f hn _ HR.out HM.out).mono ?_
  rintro e w1 ⟨rfl, q, rfl⟩
  go_wp2
  go_ret
  exact ⟨rfl, below_dr (Below.refl _ _) _⟩
set_option maxHeartbeats 1000000 in
theorem rrank_yes (a : Option Addr) (n cap : Nat) (r : Nat → Option Addr) (l c : Nat → Nat) (f : Nat → Nat → Nat) (w : World) (hR : Rd w a n cap r l c f) (hM : IsM n l) :
    Calls Try.prog 26 #[.slice a n cap] w fun e w' => e = .returned (.int .i64 (Mt.rk n (wd n l) f : Nat)) ∧ Below w.heap.size w w' := by
  have HR := Lib.hid hR; have HM := Lib.hid hM; clear hR hM
  have hred := fun (w : World) hR => reduced_rank a n cap r l c f w hR HM.out
  have HRED := Lib.hid hred; clear hred
  go_enter Try.func26, Try.ntmps26
  go_wp2_with fail
  refine (rright_yes a n cap r l c f _ HR.out HM.out).mono ?_
  rintro e w1 ⟨rfl, q, hq⟩
  have HB1 := Lib.hid (show Below w.heap.size w w1 by rw [hq]; exact below_dr (Below.refl _ _) q); clear hq
  go_wp2_with fail
  refine (HRED.out _ (HR.out.same HB1.out)).mono ?_
  rintro e w2 ⟨x, y, rfl, hB⟩
  have HB2 := Lib.hid (HB1.out.trans (hB.mono HB1.out.size)); clear hB
  go_wp2
  go_ret
  exact ⟨rfl, HB2.out⟩
end Go.Proofs.Ytgflpfopiofjeaa
