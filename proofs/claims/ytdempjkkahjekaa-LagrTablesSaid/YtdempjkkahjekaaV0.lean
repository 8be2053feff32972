import Derived.Test.YtdempjkkahjekaaPx
namespace Go.Proofs.Ytdempjkkahjekaa.Pf
open Gf

/-- the gaps of x to so many points, one left out. -/
def gp (P : Nat → Nat) (i x : Nat) : Nat → Nat
  | 0 => 1
  | k + 1 => if k = i then gp P i x k else mul (gp P i x k) (x ^^^ P k)
/-- the inverses of the gaps of a point to so many others. -/
def sg (P : Nat → Nat) (i : Nat) : Nat → Nat
  | 0 => 1
  | k + 1 => if k = i then sg P i k else mul (sg P i k) (ivN (P k ^^^ P i))
/-- the weights of x. -/
def lw (P : Nat → Nat) (n x i : Nat) : Nat := if i < n then mul (sg P i n) (gp P i x n) else 0
/-- the gaps of x to c points from lo on. -/
def sgm (P : Nat → Nat) (x lo : Nat) : Nat → Nat
  | 0 => 1
  | c + 1 => mul (sgm P x lo c) (x ^^^ P (lo + c))
/-- all unlike. -/
def Dst (P : Nat → Nat) (n : Nat) : Prop := ∀ i j, i < j → j < n → P i ≠ P j

section
variable {P : Nat → Nat} (hP : By P)
include hP
theorem gp_lt (i : Nat) {x : Nat} (hx : x < 256) : ∀ k, gp P i x k < 256
  | 0 => by show 1 < 256; omega
  | k + 1 => by
    unfold gp; split
    · exact gp_lt i hx k
    · exact mul_lt (gp_lt i hx k) (xor_lt hx (hP k))
omit hP in
theorem sg_lt (i : Nat) : ∀ k, sg P i k < 256
  | 0 => by show 1 < 256; omega
  | k + 1 => by
    unfold sg; split
    · exact sg_lt i k
    · exact mul_lt (sg_lt i k) (ivN_lt _)
theorem sgm_lt {x : Nat} (hx : x < 256) (lo : Nat) : ∀ c, sgm P x lo c < 256
  | 0 => by show 1 < 256; omega
  | c + 1 => mul_lt (sgm_lt hx lo c) (xor_lt hx (hP _))
theorem lw_by (n : Nat) {x : Nat} (hx : x < 256) : By (lw P n x) := fun i => by
  unfold lw; split
  · exact mul_lt (sg_lt i n) (gp_lt hP i hx n)
  · omega
omit hP in
theorem lw_up (n x : Nat) : Up (lw P n x) n := fun i hi => by unfold lw; rw [if_neg (by omega)]
theorem sgm_first {x : Nat} (hx : x < 256) (lo : Nat) : ∀ c, sgm P x lo (c + 1) = mul (sgm P x (lo + 1) c) (x ^^^ P lo)
  | 0 => rfl
  | c + 1 => by
    have h1 := sgm_lt hP hx (lo + 1) c
    have h2 := xor_lt hx (hP lo)
    have h3 := xor_lt hx (hP (lo + (c + 1)))
    show mul (sgm P x lo (c + 1)) (x ^^^ P (lo + (c + 1))) = mul (mul (sgm P x (lo + 1) c) (x ^^^ P (lo + 1 + c))) (x ^^^ P lo)
    rw [sgm_first hx lo c, show lo + 1 + c = lo + (c + 1) by omega, ← mul_assoc h1 h2 h3, ← mul_assoc h1 h3 h2, mul_comm h2 h3]
omit hP in
theorem gp_ahead (x i : Nat) : ∀ k, k ≤ i → gp P i x k = sgm P x 0 k
  | 0, _ => rfl
  | k + 1, h => by
    show (if k = i then gp P i x k else mul (gp P i x k) (x ^^^ P k)) = mul (sgm P x 0 k) (x ^^^ P (0 + k))
    rw [if_neg (by omega), gp_ahead x i k (by omega), Nat.zero_add]
theorem gp_behind {x : Nat} (hx : x < 256) (i : Nat) : ∀ t, gp P i x (i + 1 + t) = mul (sgm P x 0 i) (sgm P x (i + 1) t)
  | 0 => by
    show (if i = i then gp P i x i else _) = mul _ 1
    rw [if_pos rfl, gp_ahead x i i (Nat.le_refl _), mul_one' (sgm_lt hP hx 0 i)]
  | t + 1 => by
    show (if i + 1 + t = i then _ else mul (gp P i x (i + 1 + t)) (x ^^^ P (i + 1 + t))) = mul _ (mul _ _)
    rw [if_neg (by omega), gp_behind hx i t, mul_assoc (sgm_lt hP hx _ _) (sgm_lt hP hx _ _) (xor_lt hx (hP _))]
/-- a weight, as it is made: the scale, by what is ahead, by what is behind. -/
theorem lw_made {x n i : Nat} (hx : x < 256) (hi : i < n) : lw P n x i = mul (mul (sg P i n) (sgm P x 0 i)) (sgm P x (i + 1) (n - 1 - i)) := by
  unfold lw
  rw [if_pos hi]
  have := gp_behind hP hx i (n - 1 - i)
  rw [show i + 1 + (n - 1 - i) = n by omega] at this
  rw [this, mul_assoc (sg_lt i n) (sgm_lt hP hx _ _) (sgm_lt hP hx _ _)]

/-- a polynomial of the gaps. -/
def lp (P : Nat → Nat) (i : Nat) : Nat → Nat → Nat
  | 0 => sc 1
  | k + 1 => if k = i then lp P i k else pm (lp P i k) (lin (P k))
theorem lp_by (i : Nat) : ∀ k, By (lp P i k)
  | 0 => sc_by (by omega)
  | k + 1 => by
    unfold lp; split
    · exact lp_by i k
    · exact pm_by (lp_by i k) (lin_by (hP k))
omit hP in
theorem lp_up (i : Nat) : ∀ k, Up (lp P i k) (if i < k then k else k + 1)
  | 0 => by rw [if_neg (by omega)]; exact sc_up 1
  | k + 1 => by
    have h := lp_up i k
    show Up (if k = i then lp P i k else pm (lp P i k) (lin (P k))) _
    by_cases e : k = i
    · rw [if_pos e, if_pos (by omega)]; rwa [if_neg (by omega)] at h
    · rw [if_neg e]
      refine (pm_up1 h (lin_up (P k)) (by omega)).mono ?_
      by_cases e2 : i < k
      · rw [if_pos e2, if_pos (by omega)]; omega
      · rw [if_neg e2, if_neg (by omega)]; omega
omit hP in
theorem lp_up1 (i k : Nat) : Up (lp P i k) (k + 1) := (lp_up i k).mono (by split <;> omega)
theorem lp_ev {x : Nat} (hx : x < 256) (i : Nat) : ∀ k, ev (lp P i k) x (k + 1) = gp P i x k
  | 0 => sc_ev (by omega)
  | k + 1 => by
    have ih := lp_ev hx i k
    show ev (if k = i then lp P i k else pm (lp P i k) (lin (P k))) x (k + 1 + 1) = (if k = i then gp P i x k else mul (gp P i x k) (x ^^^ P k))
    by_cases e : k = i
    · rw [if_pos e, if_pos e, ev_up x (lp_up1 i k) (by omega), ih]
    · rw [if_neg e, if_neg e, pm_ev (lp_by hP i k) (lin_by (hP k)) hx (lp_up1 i k) (lin_up _) ((pm_up1 (lp_up1 i k) (lin_up (P k)) (by omega)).mono (by omega)), ih, lin_ev (hP k) hx, Nat.xor_comm]
/-- the polynomial of a weight. -/
def lbp (P : Nat → Nat) (n i : Nat) : Nat → Nat := fun c => mul (lp P i n c) (sg P i n)
theorem lbp_by (n i : Nat) : By (lbp P n i) := fun c => mul_lt (lp_by hP i n c) (sg_lt i n)
omit hP in
theorem lbp_up {n i : Nat} (hi : i < n) : Up (lbp P n i) n := fun c hc => by
  have := lp_up (P := P) i n
  rw [if_pos hi] at this
  unfold lbp; rw [this c hc, zero_mul]
omit hP in
theorem ev_scale {p : Nat → Nat} {s x : Nat} (hp : By p) (hs : s < 256) (hx : x < 256) (n : Nat) : ev (fun c => mul (p c) s) x n = mul (ev p x n) s := by
  unfold ev
  rw [xsum_mul hs n (fun i _ => mul_lt (hp i) (pn_lt hx i))]
  refine xsum_congr n fun i _ => ?_
  rw [← mul_assoc (hp i) hs (pn_lt hx i), ← mul_assoc (hp i) (pn_lt hx i) hs, mul_comm hs (pn_lt hx i)]
theorem lbp_ev {x n i : Nat} (hx : x < 256) (hi : i < n) : ev (lbp P n i) x n = lw P n x i := by
  unfold lbp lw
  rw [if_pos hi, ev_scale (lp_by hP i n) (sg_lt i n) hx, mul_comm (sg_lt i n) (gp_lt hP i hx n), ← lp_ev hP hx i n]
  have := lp_up (P := P) i n
  rw [if_pos hi] at this
  rw [ev_up (n := n + 1) x this (by omega)]
omit hP in
theorem gp_zero {x i j : Nat} (hne : j ≠ i) (e : P j = x) : ∀ k, j < k → gp P i x k = 0
  | 0, h => by omega
  | k + 1, h => by
    unfold gp
    by_cases ek : k = i
    · rw [if_pos ek]; exact gp_zero hne e k (by omega)
    · rw [if_neg ek]
      by_cases ej : j = k
      · rw [← ej, e, Nat.xor_self, mul_zero]
      · rw [gp_zero hne e k (by omega), zero_mul]
theorem sg_gp {i n : Nat} (hd : Dst P n) (hi : i < n) : ∀ k, k ≤ n → mul (sg P i k) (gp P i (P i) k) = 1
  | 0, _ => by show mul 1 1 = 1; decide
  | k + 1, h => by
    have ih := sg_gp hd hi k (by omega)
    unfold gp sg
    by_cases ek : k = i
    · rw [if_pos ek, if_pos ek]; exact ih
    · rw [if_neg ek, if_neg ek]
      have hne : P k ≠ P i := by
        rcases Nat.lt_or_ge k i with h1 | h1
        · exact hd k i h1 hi
        · exact fun e => hd i k (by omega) (by omega) e.symm
      have hg : P k ^^^ P i ≠ 0 := fun e => hne (xor_cancel e)
      have l1 := xor_lt (hP k) (hP i)
      have l2 := ivN_lt (P k ^^^ P i)
      have l3 := sg_lt (P := P) i k
      have l4 := gp_lt hP i (hP i) k
      have e1 : mul (ivN (P k ^^^ P i)) (P k ^^^ P i) = 1 := by
        unfold ivN; rw [if_neg hg]; exact mul_inv l1 hg
      rw [Nat.xor_comm (P i) (P k)]
      generalize P k ^^^ P i = d at *
      generalize ivN d = v at *
      rw [← mul_assoc l3 l2 (mul_lt l4 l1), mul_comm l4 l1, mul_assoc l2 l1 l4, e1, mul_one _ l4, ih]
theorem lw_at {i j n : Nat} (hd : Dst P n) (hi : i < n) (hj : j < n) : lw P n (P j) i = if i = j then 1 else 0 := by
  unfold lw
  rw [if_pos hi]
  by_cases e : i = j
  · rw [if_pos e, ← e, sg_gp hP hd hi n (Nat.le_refl _)]
  · rw [if_neg e, gp_zero (Ne.symm e) rfl n hj, mul_zero]
omit hP in
/-- a sum of polynomials, each by a byte. -/
theorem ev_sum {L : Nat → Nat → Nat} {v : Nat → Nat} {x n : Nat} (hL : ∀ i, By (L i)) (hv : By v) (hx : x < 256) : ∀ m, By (fun c => xsum (fun i => mul (L i c) (v i)) m) ∧ ev (fun c => xsum (fun i => mul (L i c) (v i)) m) x n = xsum (fun i => mul (ev (L i) x n) (v i)) m
  | 0 => ⟨fun _ => by show 0 < 256; omega, xsum_zero n fun i _ => zero_mul _⟩
  | m + 1 => by
    obtain ⟨h1, h2⟩ := ev_sum (n := n) hL hv hx m
    have h3 : By (fun c => mul (L m c) (v m)) := fun c => mul_lt (hL m c) (hv m)
    refine ⟨fun c => xor_lt (h1 c) (h3 c), ?_⟩
    show ev (fun c => xsum (fun i => mul (L i c) (v i)) m ^^^ mul (L m c) (v m)) x n = xsum (fun i => mul (ev (L i) x n) (v i)) m ^^^ mul (ev (L m) x n) (v m)
    rw [ev_xor h1 h3 hx, h2, ev_scale (hL m) (hv m) hx]
/-- a value is the sum of the weights by the values at the points. -/
theorem lagrange {p v : Nat → Nat} {n x : Nat} (hd : Dst P n) (hp : By p) (hu : Up p n) (hv : By v) (he : ∀ i, i < n → ev p (P i) n = v i) (hx : x < 256) : ev p x n = xsum (fun i => mul (lw P n x i) (v i)) n := by
  have H : ∀ z, z < 256 → By (fun c => xsum (fun i => mul (lbp P n i c) (v i)) n) ∧ ev (fun c => xsum (fun i => mul (lbp P n i c) (v i)) n) z n = xsum (fun i => mul (ev (lbp P n i) z n) (v i)) n := fun z hz => ev_sum (fun i => lbp_by hP n i) hv hz n
  have hq : p = fun c => xsum (fun i => mul (lbp P n i c) (v i)) n := by
    refine same_through (xs := P) (l := n) hP hd hp (H x hx).1 hu (fun c hc => xsum_zero n fun i hi => ?_) fun j hj => ?_
    · rw [lbp_up hi c hc, zero_mul]
    · rw [he j hj, (H _ (hP j)).2, xsum_one n hj (fun i hi hne => ?_)]
      · rw [lbp_ev hP (hP j) hj, lw_at hP hd hj hj, if_pos rfl, mul_one _ (hv j)]
      · rw [lbp_ev hP (hP j) hi, lw_at hP hd hi hj, if_neg hne, zero_mul]
  rw [hq, (H x hx).2]
  exact xsum_congr n fun i hi => by rw [lbp_ev hP hx hi]
end
theorem lag_val {P v S : Nat → Nat} {n x : Nat} (hP : By P) (hv : By v) (hd : Dst P n) (h : Lag P v n n S) (hx : x < 256) : ev S x n = xsum (fun i => mul (lw P n x i) (v i)) n :=
  lagrange hP hd h.by_ h.up hv (fun i hi => by rw [h.at_ i hi, if_pos hi]) hx
/-- the weights of one point. -/
def dlt (i k : Nat) : Nat := if k = i then 1 else 0
theorem dlt_by (i : Nat) : By (dlt i) := fun k => by unfold dlt; split <;> omega
theorem dlt_up {i n : Nat} (h : i < n) : Up (dlt i) n := fun k hk => by unfold dlt; rw [if_neg (by omega)]
theorem lw_dlt {P : Nat → Nat} (hP : By P) {n x i : Nat} (hx : x < 256) (hi : i < n) : xsum (fun k => mul (lw P n x k) (dlt i k)) n = lw P n x i := by
  rw [xsum_one n hi (fun k _ hne => by unfold dlt; rw [if_neg hne, mul_zero])]
  unfold dlt; rw [if_pos rfl, mul_one' (lw_by hP n hx i)]
theorem gp_congr {P P' : Nat → Nat} {i x : Nat} : ∀ k, (∀ j, j < k → P j = P' j) → gp P i x k = gp P' i x k
  | 0, _ => rfl
  | k + 1, h => by
    unfold gp; rw [gp_congr k (fun j hj => h j (by omega)), h k (by omega)]
theorem sg_congr {P P' : Nat → Nat} {i : Nat} (hi : P i = P' i) : ∀ k, (∀ j, j < k → P j = P' j) → sg P i k = sg P' i k
  | 0, _ => rfl
  | k + 1, h => by
    unfold sg; rw [sg_congr hi k (fun j hj => h j (by omega)), h k (by omega), hi]
theorem lw_congr {P P' : Nat → Nat} {n : Nat} (h : ∀ j, j < n → P j = P' j) (x : Nat) : lw P n x = lw P' n x := funext fun i => by
  unfold lw
  by_cases hi : i < n
  · rw [if_pos hi, if_pos hi, gp_congr n h, sg_congr (h i hi) n h]
  · rw [if_neg hi, if_neg hi]
end Go.Proofs.Ytdempjkkahjekaa.Pf
