import Derived.Test.YtlkfconkhlkinaaMg20
import Derived.Test.YtlkfconkhlkinaaMg21
namespace Go.Proofs.Ytlkfconkhlkinaa
open Go.RowKit Go.Shelf

/-- rows of one byte each, one behind the other. -/
def al1 (w : World) : List Nat → World
  | [] => w
  | x :: xs => al1 (w.alloc (.cells #[.int .u8 (x : Nat)] 5)) xs
def one (xs : List Nat) (i j : Nat) : Nat := if j = 0 then xs.getD i 0 else 0
theorem al1_size : ∀ (xs : List Nat) (w : World), (al1 w xs).heap.size = w.heap.size + xs.length
  | [], w => rfl
  | x :: xs, w => by
    show (al1 (w.alloc _) xs).heap.size = _
    rw [al1_size xs, World.size_alloc, List.length_cons]; omega
theorem al1_below : ∀ (xs : List Nat) (w : World), Below w.heap.size w (al1 w xs)
  | [], w => Below.refl _ w
  | x :: xs, w => by
    have h1 : Below w.heap.size w (w.alloc (.cells #[.int .u8 (x : Nat)] 5)) := (Below.refl _ w).alloc (Nat.le_refl _) _
    exact h1.trans ((al1_below xs _).mono h1.size)
theorem al1_all (w : World) (xs : List Nat) (o : Obj) : Below w.heap.size w ((al1 w xs).alloc o) := (al1_below xs w).trans (((Below.refl _ _).alloc (Nat.le_refl _) o).mono (al1_below xs w).size)
theorem one_by {xs : List Nat} (hx : ∀ x ∈ xs, x < 256) (i : Nat) : Pf.By (one xs i) := fun j => by
  unfold one
  split
  · rw [List.getD_eq_getElem?_getD]
    cases h : xs[i]? with
    | none => show 0 < 256; omega
    | some v => exact hx v (List.mem_of_getElem? h)
  · omega
theorem one_up (xs : List Nat) (i : Nat) : Pf.Up (one xs i) 1 := fun j hj => if_neg (by omega)
theorem al1_bl : ∀ (xs : List Nat) (w : World) (i : Nat), i < xs.length → Bl (al1 w xs) (w.heap.size + i) 1 1 (one xs i)
  | [], w, i, h => absurd h (Nat.not_lt_zero i)
  | x :: xs, w, i, h => by
    have h1 := al1_below xs (w.alloc (.cells #[.int .u8 (x : Nat)] 5))
    cases i with
    | zero =>
      have h2 : Bl (w.alloc (.cells #[.int .u8 (x : Nat)] 5)) w.heap.size 1 1 (one (x :: xs) 0) := ⟨_, heap_alloc_new _ _, rfl, fun i hi => by
        obtain rfl : i = 0 := by omega
        rfl⟩
      exact h2.below h1 (by rw [World.size_alloc]; omega)
    | succ i =>
      have := al1_bl xs (w.alloc (.cells #[.int .u8 (x : Nat)] 5)) i (by simpa using h)
      rw [World.size_alloc] at this
      rw [show w.heap.size + (i + 1) = w.heap.size + 1 + i by omega]
      exact this
theorem al1_rd (w : World) (xs : List Nat) (vs : Array Value) (hx : ∀ x ∈ xs, x < 256) (hl : xs.length ≤ 1000) (hs : vs.size = xs.length) (hv : ∀ i, i < xs.length → vs[i]? = some (.slice (some ⟨w.heap.size + i, 0, none⟩) 1 1)) :
    Rd ((al1 w xs).alloc (.cells vs 35)) (some ⟨w.heap.size + xs.length, 0, none⟩) xs.length xs.length (fun i => some ⟨w.heap.size + i, 0, none⟩) (fun _ => 1) (fun _ => 1) (one xs) := by
  have hB : Below (al1 w xs).heap.size (al1 w xs) ((al1 w xs).alloc (.cells vs 35)) := (Below.refl _ _).alloc (Nat.le_refl _) _
  refine ⟨Nat.le_refl _, by unfold maxLen; omega, fun i => one_by hx i, fun e => (by cases e), fun ad e _ => (by cases e; rfl), fun ad e i hi => ?_, fun i hi => ?_⟩
  · cases e
    show World.cell? _ ⟨_, 0 + i, none⟩ = _
    rw [Nat.zero_add, cell_of_row _ _ i vs _ _ (by rw [← al1_size]; exact heap_alloc_new _ _)]
    exact hv i hi
  · exact ((al1_bl xs w i hi).below hB ((al1_bl xs w i hi).lt)).sl (Nat.le_refl _) (by unfold maxLen; omega) (one_by hx i) (one_up xs i)
theorem al1_hs (w : World) (xs : List Nat) (h : Nat → Int) (vs : Array Value) (hx : ∀ x ∈ xs, x < 256) (hv : ∀ i, i < xs.length → vs[i * 2]? = some (.int .i64 (h i)) ∧ vs[i * 2 + 1]? = some (.slice (some ⟨w.heap.size + i, 0, none⟩) 1 1)) :
    Hs ((al1 w xs).alloc (.cells vs 48)) (some ⟨w.heap.size + xs.length, 0, none⟩) xs.length h (fun i => some ⟨w.heap.size + i, 0, none⟩) (fun _ => 1) (fun _ => 1) (one xs) := by
  have hB : Below (al1 w xs).heap.size (al1 w xs) ((al1 w xs).alloc (.cells vs 48)) := (Below.refl _ _).alloc (Nat.le_refl _) _
  have hh : ((al1 w xs).alloc (.cells vs 48)).heap[w.heap.size + xs.length]? = some (.cells vs 48 (0, 0)) := by rw [← al1_size]; exact heap_alloc_new _ _
  refine ⟨fun i => one_by hx i, fun i hi => ⟨_, 0, rfl, ?_, ?_⟩, fun i hi => ?_⟩
  · rw [Nat.zero_add, cell_of_row _ _ _ vs _ _ hh]; exact (hv i hi).1
  · rw [Nat.zero_add, cell_of_row _ _ _ vs _ _ hh]; exact (hv i hi).2
  · exact ((al1_bl xs w i hi).below hB ((al1_bl xs w i hi).lt)).sl (Nat.le_refl _) (by unfold maxLen; omega) (one_by hx i) (one_up xs i)

/-- the chapter's example. -/
def aw5 (i : Nat) : Int := if i = 0 then 2 else 3
theorem awake5_e : ∀ i, i < 4 → enc 2 (one [5, 4]) i = one [5, 4, 7, 6] i := fun i hi => by
  have h0 : ∀ i, i < 4 → enc 2 (one [5, 4]) i 0 = one [5, 4, 7, 6] i 0 := by decide +kernel
  funext j
  by_cases e : j = 0
  · subst e; exact h0 i hi
  · rw [one_up [5, 4, 7, 6] i j (by omega)]
    exact Pf.mv_up (wi := 1) (fun p _ => one_up [5, 4] p) _ j (by omega)
theorem awake5_d : ∀ i, i < 2 → dcd aw5 2 (one [7, 6]) i = one [5, 4] i := fun i hi => by
  have h0 : ∀ i, i < 2 → dcd aw5 2 (one [7, 6]) i 0 = one [5, 4] i 0 := by decide +kernel
  funext j
  by_cases e : j = 0
  · subst e; exact h0 i hi
  · rw [one_up [5, 4] i j (by omega)]
    unfold dcd
    rw [if_pos hi]
    exact Pf.mv_up (wi := 1) (fun p _ => one_up [7, 6] p) _ j (by omega)
theorem quiet_below {w w' : World} {q : Nat} (h : w' = w.drewN q) : Below w.heap.size w w' := by rw [h]; exact below_dr (Below.refl _ _) q
theorem two_lt {i : Nat} (h : i < 2) : i = 0 ∨ i = 1 := by omega

set_option maxHeartbeats 2000000 in
set_option maxRecDepth 100000 in
theorem awake5_any (w : World) :
    Calls Try.prog 7 #[] w fun e w' => e = .returned (.bool true) ∧ Below w.heap.size w w' := by
  go_enter Try.func7, Try.ntmps7
  go_wp2_with fail
  refine (cnew_yes 4 2 (by omega) (by omega) (by omega) _).mono ?_
  rintro e w1 ⟨cb, fb, G, b, rfl, hC, hB1⟩
  have HC := Lib.hid hC; have HB1 := Lib.hid hB1
  have hr := al1_rd w1 [5, 4] #[.slice (some ⟨w1.heap.size, 0, none⟩) 1 1, .slice (some ⟨w1.heap.size + 1, 0, none⟩) 1 1] (by decide) (by decide) rfl (fun i hi => by rcases two_lt hi with rfl | rfl <;> rfl)
  have hB2 := al1_all w1 [5, 4] (.cells #[.slice (some ⟨w1.heap.size, 0, none⟩) 1 1, .slice (some ⟨w1.heap.size + 1, 0, none⟩) 1 1] 35)
  have HR := Lib.hid hr; have HC2 := Lib.hid (hC.same hB2); have HB2 := Lib.hid (hB1.trans (hB2.mono hB1.size))
  clear hC hB1 hr hB2
  go_wp2_with fail
  refine (cencode_any cb fb G 4 2 b _ 2 2 _ (fun _ => 1) (fun _ => 1) (one [5, 4]) (by omega) (fun _ _ => by omega) _ HC2.out HR.out).mono ?_
  rintro e w2 (⟨h, _⟩ | ⟨_, G2, b2, rfl, hG2, hB3⟩)
  · exact absurd ⟨rfl, fun _ _ => rfl⟩ h
  have hs2 := HB2.out.size
  have hb3 := HB2.out.trans (hB3.mono hs2)
  have hh := al1_hs w2 [7, 6] aw5 #[.int .i64 2, .slice (some ⟨w2.heap.size, 0, none⟩) 1 1, .int .i64 3, .slice (some ⟨w2.heap.size + 1, 0, none⟩) 1 1] (by decide) (fun i hi => by rcases two_lt hi with rfl | rfl <;> exact ⟨rfl, rfl⟩)
  have hB4 := al1_all w2 [7, 6] (.cells #[.int .i64 2, .slice (some ⟨w2.heap.size, 0, none⟩) 1 1, .int .i64 3, .slice (some ⟨w2.heap.size + 1, 0, none⟩) 1 1] 48)
  have HH := Lib.hid hh; have HC4 := Lib.hid ((HC2.out.same hB3).same hB4); have HB4 := Lib.hid (hb3.trans (hB4.mono hb3.size)); have HG4 := Lib.hid ((hG2.congr (g := one [5, 4, 7, 6]) (fun i => one_by (by decide) i) (fun i j hi => by rw [awake5_e i hi])).same hB4)
  clear hB3 hb3 hh hB4 hG2 hs2 HR HC2 HB2
  go_wp2_with fail
  refine (cdecode_any cb fb G 4 2 b _ 2 2 aw5 _ (fun _ => 1) (fun _ => 1) (one [7, 6]) (by omega) (fun _ _ => by omega) _ HC4.out HH.out).mono ?_
  rintro e w3 (⟨E, hE, hD, _⟩ | ⟨_, G3, b3, rfl, hG3, hB5⟩)
  · have hin : InR aw5 2 4 := fun i hi => by rcases two_lt hi with rfl | rfl <;> decide
    have hds : DsI aw5 2 := fun i j h1 h2 => by
      obtain rfl : i = 0 := by omega
      obtain rfl : j = 1 := by omega
      decide
    rcases hD with ⟨h, _⟩ | ⟨_, ⟨h, _⟩ | ⟨_, h, _⟩ | ⟨_, _, h, _⟩ | ⟨_, _, _, h⟩⟩
    · exact absurd (fun _ _ => rfl) h
    · exact absurd hin h
    · exact absurd hds h
    · omega
    · exact absurd h hE
  have hs4 := HB4.out.size
  have hb5 := HB4.out.trans (hB5.mono hs4)
  have hr := al1_rd w3 [5, 4, 7, 6] #[.slice (some ⟨w3.heap.size, 0, none⟩) 1 1, .slice (some ⟨w3.heap.size + 1, 0, none⟩) 1 1, .slice (some ⟨w3.heap.size + 2, 0, none⟩) 1 1, .slice (some ⟨w3.heap.size + 3, 0, none⟩) 1 1] (by decide) (by decide) rfl (fun i hi => by
    rcases (show i = 0 ∨ i = 1 ∨ i = 2 ∨ i = 3 by have : i < 4 := hi; omega) with rfl | rfl | rfl | rfl <;> rfl)
  have hB6 := al1_all w3 [5, 4, 7, 6] (.cells #[.slice (some ⟨w3.heap.size, 0, none⟩) 1 1, .slice (some ⟨w3.heap.size + 1, 0, none⟩) 1 1, .slice (some ⟨w3.heap.size + 2, 0, none⟩) 1 1, .slice (some ⟨w3.heap.size + 3, 0, none⟩) 1 1] 35)
  have HR := Lib.hid hr; have HB6 := Lib.hid (hb5.trans (hB6.mono hb5.size)); have HG6 := Lib.hid ((HG4.out.same hB5).same hB6); have HD6 := Lib.hid ((hG3.congr (g := one [5, 4]) (fun i => one_by (by decide) i) (fun i j hi => by rw [awake5_d i hi])).same hB6)
  clear hB5 hb5 hr hB6 hG3 hs4 HH HC4 HB4 HG4
  go_wp2_with fail
  refine (sameRows_any _ _ 4 4 4 _ _ _ _ _ _ _ (one [5, 4, 7, 6]) (by omega) (fun _ _ => by omega) _ HG6.out.rd HR.out (fun _ _ => ⟨rfl, rfl⟩)).mono ?_
  rintro e w4 ⟨rfl, q, hq⟩
  have hB7 := quiet_below hq
  have hs6 := HB6.out.size
  have hb7 := HB6.out.trans (hB7.mono hs6)
  have hr := al1_rd w4 [5, 4] #[.slice (some ⟨w4.heap.size, 0, none⟩) 1 1, .slice (some ⟨w4.heap.size + 1, 0, none⟩) 1 1] (by decide) (by decide) rfl (fun i hi => by rcases two_lt hi with rfl | rfl <;> rfl)
  have hB8 := al1_all w4 [5, 4] (.cells #[.slice (some ⟨w4.heap.size, 0, none⟩) 1 1, .slice (some ⟨w4.heap.size + 1, 0, none⟩) 1 1] 35)
  have HR8 := Lib.hid hr; have HB8 := Lib.hid (hb7.trans (hB8.mono hb7.size)); have HD8 := Lib.hid ((HD6.out.same hB7).same hB8)
  clear hq hB7 hb7 hr hB8 hs6 HR HB6 HG6 HD6
  go_wp2_with fail
  refine (sameRows_any _ _ 2 2 2 _ _ _ _ _ _ _ (one [5, 4]) (by omega) (fun _ _ => by omega) _ HD8.out.rd HR8.out (fun _ _ => ⟨rfl, rfl⟩)).mono ?_
  rintro e w5 ⟨rfl, q, rfl⟩
  go_wp2
  go_ret
  exact ⟨rfl, below_dr HB8.out q⟩
end Go.Proofs.Ytlkfconkhlkinaa

namespace Go.Proofs.Ytlkfconkhlkinaa
open Go.RowKit Go.Shelf

/-- what size answers: a number; if it is at most 160, no rows and no row are more than 160. -/
def Size5 (n : Nat) (l : Nat → Nat) (e : Ending) : Prop := ∃ s : Nat, e = .returned (.int .i64 (s : Nat)) ∧ s ≤ 281474976710656 ∧ (s ≤ 160 → n ≤ 160 ∧ ∀ i, i < n → l i ≤ 160)

set_option maxHeartbeats 1000000 in
set_option maxRecDepth 100000 in
theorem size5_any (a : Option Addr) (n cap : Nat) (r : Nat → Option Addr) (l c : Nat → Nat) (f : Nat → Nat → Nat) (hn : n ≤ 140737488355328) (hl : ∀ i, i < n → l i ≤ 140737488355328) (w : World) (hR : Rd w a n cap r l c f) :
    Calls Try.prog 6 #[.slice a n cap] w fun e w' => Size5 n l e ∧ w' = w := by
  have HR := Lib.hid hR; have HL := Lib.hid hl; clear hR hl
  go_enter Try.func6, Try.ntmps6
  go_wp2_with fail
  go_loop [3, 4] (fun t i => ∃ k s : Nat, k ≤ n ∧ i = .int .i64 k ∧ t = .int .i64 s ∧ n ≤ s ∧ s ≤ 281474976710656 ∧ ∀ i, i < k → l i ≤ s) (fun _ i => n - (intOf i).toNat)
  case atStart => exact ⟨0, n, by omega, rfl, rfl, by omega, by omega, fun i hi => absurd hi (Nat.not_lt_zero i)⟩
  case round =>
    obtain ⟨k, s, hk, rfl, rfl, hns, hs, hev⟩ := hrel
    have HV := Lib.hid hev; clear hev
    by_cases hlt : k < n
    · have i1 : (k : Int) < (n : Int) := by omega
      by_cases h9 : s ≤ 160
      · have i2 : decide ((s : Int) ≤ 160) = true := by simp; omega
        obtain ⟨b, off, ea, hc⟩ := HR.out.at_ hlt
        have hlk := HL.out k hlt
        subst ea
        go_wp2_with fail
        go_round
        case rel => exact ⟨k + 1, s + l k, by omega, by go_num, by go_num, by omega, by omega, fun i hi => by
          by_cases e : i = k
          · rw [e]; omega
          · have := HV.out i (by omega); omega⟩
        case measure => simp [intOf]; omega
      · have i2 : decide ((s : Int) ≤ 160) = false := by simp; omega
        have H9 := Lib.hid h9; clear h9
        go_wp2
        go_ret
        exact ⟨⟨s, rfl, hs, fun h => absurd h H9.out⟩, rfl⟩
    · obtain rfl : k = n := by omega
      go_wp2
      go_ret
      exact ⟨⟨s, rfl, hs, fun h => ⟨by omega, fun i hi => Nat.le_trans (HV.out i hi) h⟩⟩, rfl⟩

set_option maxHeartbeats 1000000 in
set_option maxRecDepth 100000 in
theorem unlike_yes (a : Option Addr) (n cap : Nat) (r : Nat → Option Addr) (l c : Nat → Nat) (f : Nat → Nat → Nat) (hn : n ≤ 1000000000000) (w : World) (hR : Rd w a n cap r l c f) (hu : ¬ ∀ i, i < n → l i = l 0) :
    Calls Try.prog 20 #[.slice a n cap] w fun e w' => e = .returned (.bool true) ∧ ∃ q, w' = w.drewN q := by
  have HR := Lib.hid hR; have HU := Lib.hid hu; clear hR hu
  go_enter Try.func20, Try.ntmps20
  go_wp2_with fail
  go_loopw [3] (fun i wr => ∃ k : Nat, k ≤ n ∧ i = .int .i64 k ∧ (∀ j, j < k → l j = l 0) ∧ ∃ q, wr = w.drewN q) (fun i _ => n - (intOf i).toNat)
  case atStart => exact ⟨0, by omega, rfl, fun j hj => absurd hj (Nat.not_lt_zero j), 0, rfl⟩
  case round =>
    rename_i wr
    obtain ⟨k, hk, rfl, hev, q, hq⟩ := hrel
    have HE := Lib.hid hev; have HQ := Lib.hid hq; clear hev
    by_cases hlt : k < n
    · have i1 : (k : Int) < (n : Int) := by omega
      have i0 : (0 : Int) < (n : Int) := by omega
      have hr2 : Rd wr a n cap r l c f := by rw [hq]; exact HR.out.drewN q
      obtain ⟨b, off, ea, hc⟩ := hr2.at_ hlt
      obtain ⟨b', off', ea', hc'⟩ := hr2.at_ (k := 0) (by omega)
      have EA := Lib.hid (show a = some ⟨b, off, none⟩ from ea)
      rw [ea] at ea'
      cases ea'
      rw [Nat.add_zero] at hc'
      subst ea
      clear hq hr2
      by_cases he : l k = l 0
      · have g1 : (((l k : Nat) : Int) != ((l 0 : Nat) : Int)) = false := ne_no he
        have HEE := Lib.hid he; clear he
        go_wp2_with fail
        go_quiet (fail)
        go_wp2
        go_roundw
        case rel => exact ⟨k + 1, by omega, by go_num, fun j hj => by
          by_cases e : j = k
          · rw [e]; exact HEE.out
          · exact HE.out j (by omega), _, by rw [HQ.out, World.drewN_drewN]⟩
        case measure => simp [intOf]; omega
      · have g1 : (((l k : Nat) : Int) != ((l 0 : Nat) : Int)) = true := ne_yes he
        clear he
        go_wp2_with fail
        go_quiet (fail)
        go_wp2
        go_ret
        exact ⟨rfl, _, by rw [HQ.out, World.drewN_drewN]⟩
    · obtain rfl : k = n := by omega
      exact absurd HE.out HU.out

/-- to have all of n values takes n places. -/
theorem pigeon : ∀ (t n : Nat) (R : Nat → Nat), (∀ r, r < n → ∃ j, j < t ∧ R j = r) → n ≤ t
  | 0, n, R, h => by
    rcases Nat.eq_zero_or_pos n with e | e
    · omega
    · obtain ⟨j, hj, _⟩ := h 0 e
      omega
  | t + 1, n, R, h => by
    rcases Nat.eq_zero_or_pos n with e | e
    · omega
    have ih := pigeon t (n - 1) (fun j => if R j = n - 1 then R t else R j) (fun r hr => by
      by_cases c : r = R t
      · obtain ⟨j, hj, e2⟩ := h (n - 1) (by omega)
        have hjt : j ≠ t := fun e3 => by subst e3; omega
        exact ⟨j, by omega, by show (if R j = n - 1 then R t else R j) = r; rw [if_pos e2, c]⟩
      · obtain ⟨j, hj, e2⟩ := h r (by omega)
        have hjt : j ≠ t := fun e3 => by subst e3; exact c e2.symm
        exact ⟨j, by omega, by show (if R j = n - 1 then R t else R j) = r; rw [if_neg (by omega)]; exact e2⟩)
    omega

/-- held symbols, put into a list: the rows R of a list. -/
def hdl (b : Nat → Nat) (wi : Nat) (R : Nat → Nat) : Nat → List Value
  | 0 => []
  | t + 1 => hdl b wi R t ++ [.int .i64 (R t : Nat), .slice (some ⟨b (R t), 0, none⟩) wi wi]
theorem hdl_s (b : Nat → Nat) (wi : Nat) (R : Nat → Nat) (t : Nat) : hdl b wi R (t + 1) = hdl b wi R t ++ [.int .i64 (R t : Nat), .slice (some ⟨b (R t), 0, none⟩) wi wi] := rfl
theorem hdl_len (b : Nat → Nat) (wi : Nat) (R : Nat → Nat) : ∀ t, (hdl b wi R t).length = t * 2
  | 0 => rfl
  | t + 1 => by
    unfold hdl; rw [List.length_append, hdl_len b wi R t]; simp; omega
theorem hdl_congr (b : Nat → Nat) (wi : Nat) {R R' : Nat → Nat} : ∀ t, (∀ i, i < t → R i = R' i) → hdl b wi R t = hdl b wi R' t
  | 0, _ => rfl
  | t + 1, h => by
    unfold hdl; rw [hdl_congr b wi t (fun i hi => h i (by omega)), h t (by omega)]
theorem hdl_at (b : Nat → Nat) (wi : Nat) (R : Nat → Nat) : ∀ t i, i < t → (hdl b wi R t)[i * 2]? = some (.int .i64 (R i : Nat)) ∧ (hdl b wi R t)[i * 2 + 1]? = some (.slice (some ⟨b (R i), 0, none⟩) wi wi)
  | 0, i, h => absurd h (Nat.not_lt_zero i)
  | t + 1, i, h => by
    unfold hdl
    have hl := hdl_len b wi R t
    by_cases e : i = t
    · subst e
      rw [List.getElem?_append_right (by omega), List.getElem?_append_right (by omega), hl, Nat.sub_self, Nat.add_sub_cancel_left]
      exact ⟨rfl, rfl⟩
    · rw [List.getElem?_append_left (by omega), List.getElem?_append_left (by omega)]
      exact hdl_at b wi R t i (by omega)
theorem hdl_hs {w : World} {B B' G N cap t hc wi : Nat} {b R : Nat → Nat} {F : Nat → Nat → Nat} {ha : Option Addr} (ho : w.ownsRow B 48 2 (.slice ha t hc) t (hdl b wi R t)) (hG : Gr w B' G N cap b (fun _ => wi) (fun _ => wi) F) (hR : ∀ i, i < t → R i < N) :
    Hs w ha t (fun i => ((R i : Nat) : Int)) (fun i => some ⟨b (R i), 0, none⟩) (fun _ => wi) (fun _ => wi) (fun i => F (R i)) := by
  refine ⟨fun i => hG.bm (R i), fun i hi => ?_, fun i hi => (hG.row (R i) (hR i hi)).sl (Nat.le_refl _) (hG.lc (R i) (hR i hi)).2 (hG.bm _) (hG.up (R i) (hR i hi))⟩
  obtain ⟨_, ⟨e, h0⟩ | ⟨g, cap', cur, e, hg, hh, hnc, hcm, hs, ht⟩⟩ := ho
  · omega
  · simp only [Value.slice.injEq, true_and] at e
    obtain ⟨rfl, rfl⟩ := e
    have hat : ∀ j, j < t * 2 → cur[j]? = (hdl b wi R t)[j]? := fun j hj => by
      rw [← ht, List.getElem?_take, if_pos hj, Array.getElem?_toList]
    obtain ⟨h1, h2⟩ := hdl_at b wi R t i hi
    refine ⟨g, 0, rfl, ?_, ?_⟩
    · rw [Nat.zero_add, cell_of_row w g _ cur _ _ hh, hat _ (by omega)]; exact h1
    · rw [Nat.zero_add, cell_of_row w g _ cur _ _ hh, hat _ (by omega)]; exact h2
/-- numbers, put into a list. -/
def inl (R : Nat → Nat) (t : Nat) : List Value := (List.range t).map fun i => .int .i64 (R i : Nat)
theorem inl_s (R : Nat → Nat) (t : Nat) : inl R (t + 1) = inl R t ++ [.int .i64 (R t : Nat)] := by
  unfold inl; rw [List.range_succ, List.map_append]; rfl
theorem inl_congr {R R' : Nat → Nat} {t : Nat} (h : ∀ i, i < t → R i = R' i) : inl R t = inl R' t := by
  unfold inl
  exact List.map_congr_left fun i hi => by rw [h i (List.mem_range.1 hi)]
theorem inl_si {w : World} {B t ic : Nat} {R : Nat → Nat} {ia : Option Addr} (ho : w.ownsRow B 3 1 (.slice ia t ic) t (inl R t)) : Si w ia t (fun i => ((R i : Nat) : Int)) := ⟨fun i hi => by
  obtain ⟨_, ⟨e, h0⟩ | ⟨g, cap', cur, e, hg, hh, hnc, hcm, hs, ht⟩⟩ := ho
  · omega
  · simp only [Value.slice.injEq, true_and] at e
    obtain ⟨rfl, rfl⟩ := e
    refine ⟨g, 0, rfl, ?_⟩
    rw [Nat.zero_add, cell_of_row w g i cur _ _ hh]
    have : (cur.toList.take (t * 1))[i]? = some (.int .i64 (R i : Nat)) := by rw [ht]; simp [inl, hi]
    rw [List.getElem?_take, if_pos (by omega), Array.getElem?_toList] at this
    exact this⟩
/-- rows of elements of unlike kinds lie in unlike blocks. -/
theorem own_ty {w : World} {B B' s s' n n' : Nat} {e e' : TypeId} {v v' : Value} {xs xs' : List Value} (h : w.ownsRow B e s v n xs) (h' : w.ownsRow B' e' s' v' n' xs') (he : e ≠ e') : v.ownBlock = none ∨ v.ownBlock ≠ v'.ownBlock := by
  rcases h.2 with ⟨q, _⟩ | ⟨g, c1, cur, q, _, hh, _⟩
  · left; rw [q]; rfl
  · rcases h'.2 with ⟨q', _⟩ | ⟨g', c1', cur', q', _, hh', _⟩
    · right; rw [q, q']; simp [Value.ownBlock]
    · right
      rw [q, q']
      simp only [Value.ownBlock, ne_eq, Option.some.injEq]
      rintro rfl
      rw [hh] at hh'
      injection hh' with hh'
      injection hh' with _ q3
      exact he q3
theorem own_slice {w : World} {B s n : Nat} {e : TypeId} {v : Value} {xs : List Value} (h : w.ownsRow B e s v n xs) : ∃ a c, v = .slice a n c := by
  rcases h.2 with ⟨q, h0⟩ | ⟨g, c1, cur, q, _⟩
  · exact ⟨none, 0, by rw [q, h0]⟩
  · exact ⟨_, c1, q⟩
theorem Rd.less {w : World} {a : Option Addr} {n k cap : Nat} {r : Nat → Option Addr} {l c : Nat → Nat} {f : Nat → Nat → Nat} (h : Rd w a n cap r l c f) (hk : k ≤ n) (h0 : a = none → k = 0 ∧ cap = 0) (hs : ∀ ad, a = some ad → ad.spot = none) : Rd w a k cap r l c f :=
  ⟨Nat.le_trans hk h.capOk, h.maxOk, h.bm, h0, fun ad e _ => hs ad e, fun ad e i hi => h.cell ad e i (by omega), fun i hi => h.row i (by omega)⟩
end Go.Proofs.Ytlkfconkhlkinaa

namespace Go.Proofs.Ytlkfconkhlkinaa
open Go.RowKit Go.Shelf

theorem Try.infoHeld : (Try.prog.info? 48).map (fun i => (i.zero, i.size, i.bytes)) = some (some (.agg #[.int .i64 0, .slice none 0 0]), 2, 32) := by kernel_rfl
theorem cell_new2 (w : World) (u v : Value) (t : TypeId) : ∀ j x, [u, v][j]? = some x → (w.alloc (.cells #[u, v] t)).cell? ((⟨w.heap.size, 0, none⟩ : Addr).add j) = some x := by
  intro j x hx
  have hj : j < 2 := by
    have := (List.getElem?_eq_some_iff.1 hx).1
    simpa using this
  rw [Addr.add_lit, World.cell?_alloc_new]
  rw [← hx]
  rcases two_lt hj with rfl | rfl <;> rfl
/-- symbols of a source decode to it. -/
theorem dec_enc {f : Nat → Nat → Nat} {R : Nat → Nat} {n t N : Nat} (hf : Mt.Bm f) (hR : ∀ j, j < t → R j < N) (hd : Pf.Dst R t) (hN : N ≤ 255) (hn : n ≤ N) (hnt : n ≤ t) {i : Nat} (hi : i < n) : Pf.mv (pts fun i => ((R i : Nat) : Int)) n (fun i => enc n f (R i)) i = f i := by
  have hin : InR (fun i => ((R i : Nat) : Int)) t N := fun j hj => by have := hR j hj; show 0 ≤ ((R j : Nat) : Int) ∧ ((R j : Nat) : Int) < N; omega
  have hds : DsI (fun i => ((R i : Nat) : Int)) t := fun j k h1 h2 => by have := hd j k h1 h2; show ((R j : Nat) : Int) ≠ ((R k : Nat) : Int); omega
  have hp := pts_dst hin hds hN hnt
  have h1 := Pf.mv_mv (R := Pf.idn) (Q := pts fun i => ((R i : Nat) : Int)) (K := n) Pf.idn_by (pts_by _) (Pf.idn_dst (by omega)) hp hf (t := i) (by omega)
  have h2 := Pf.mv_at (R := Pf.idn) (K := n) Pf.idn_by (Pf.idn_dst (by omega)) hf hi
  rw [Pf.idn_at (by omega)] at h2
  exact h1.trans h2
theorem enc_src {f : Nat → Nat → Nat} {n i : Nat} (hf : Mt.Bm f) (hn : n ≤ 255) (hi : i < n) : enc n f i = f i := Pf.mv_at (R := Pf.idn) (K := n) Pf.idn_by (Pf.idn_dst (by omega)) hf hi

set_option maxHeartbeats 8000000 in
set_option maxRecDepth 100000 in
theorem codeAny_any (a wa : Option Addr) (n cap wl wc : Nat) (x : Int) (r : Nat → Option Addr) (l c : Nat → Nat) (f : Nat → Nat → Nat) (h : Nat → Int) (hn : n ≤ 140737488355328) (hl : ∀ i, i < n → l i ≤ 140737488355328) (hwl : wl ≤ 140737488355328) (w : World) (hR : Rd w a n cap r l c f) (hT : Si w wa wl h) :
    Calls Try.prog 4 #[.int .i64 x, .slice a n cap, .slice wa wl wc] w fun e w' => e = .returned (.bool true) ∧ Below w.heap.size w w' := by
  have HR := Lib.hid hR; have HT := Lib.hid hT; have HL := Lib.hid hl; clear hR hT hl
  go_enter Try.func4, Try.ntmps4
  go_wp2_with fail
  refine (awake5_any _).mono ?_
  rintro e w1 ⟨rfl, hB1⟩
  have HB1 := Lib.hid hB1; clear hB1
  go_wp2_with fail
  refine (size5_any a n cap r l c f hn HL.out _ (HR.out.same HB1.out)).mono ?_
  rintro e w' ⟨⟨s, rfl, hs, hsz⟩, hw'⟩
  rw [hw']; clear hw'
  have HSZ := Lib.hid hsz; clear hsz
  by_cases c1 : 160 < s
  · have i1 : (160 : Int) < (s : Int) := by omega
    go_wp2
    go_ret
    exact ⟨rfl, HB1.out⟩
  have i1 : ¬ (160 : Int) < (s : Int) := by omega
  obtain ⟨hn9, hl9⟩ := HSZ.out (by omega)
  by_cases c2 : 600 < wl
  · have i2 : (600 : Int) < (wl : Int) := by omega
    go_wp2
    go_ret
    exact ⟨rfl, HB1.out⟩
  have i2 : ¬ (600 : Int) < (wl : Int) := by omega
  by_cases c3 : n = 0
  · have i3 : (((n : Nat) : Int) == 0) = true := by simp [c3]
    clear c3
    go_wp2
    go_ret
    exact ⟨rfl, HB1.out⟩
  have i3 : (((n : Nat) : Int) == 0) = false := by simp; omega
  have h0 : 1 ≤ n := by omega
  have HL9 := Lib.hid hl9
  have HPK := Lib.hid (show Calls Try.prog 19 #[.int .i64 x, .int .i64 (256 - (n : Int))] w1 fun e w' => (∃ r : Nat, r < 256 - n ∧ e = .returned (.int .i64 (r : Nat))) ∧ w' = w1 by
    have := pick_any x (256 - n) (by omega) (by omega) w1
    rwa [show ((256 - n : Nat) : Int) = 256 - (n : Int) by omega] at this)
  clear c1 c2 c3 hl9 hn hs HL
  go_wp2_with fail
  clear i1 i2 i3
  refine HPK.out.mono ?_
  rintro e w' ⟨⟨r0, hr0, rfl⟩, hw'⟩
  rw [hw']; clear hw' HPK
  go_upto_region 6 with fail
  obtain ⟨N, hN⟩ : ∃ N : Nat, (n : Int) + (r0 : Int) = (N : Int) := ⟨n + r0, by omega⟩
  rw [hN]
  have hN1 : n ≤ N := by omega
  have hN2 : N ≤ 255 := by omega
  clear hN hr0
  go_wp2_with fail
  refine (cnew_yes N n h0 hN1 hN2 _).mono ?_
  rintro e w5 ⟨cb, fb, G0, b0, rfl, hC, hB5⟩
  have HC5 := Lib.hid hC; have HB5 := Lib.hid (HB1.out.trans (hB5.mono HB1.out.size)); clear hC hB5 HB1
  go_wp2_with fail
  refine (cencode_any cb fb G0 N n b0 a n cap r l c f (by omega) (fun i hi => by have := HL9.out i hi; omega) _ HC5.out (HR.out.same HB5.out)).mono ?_
  rintro e w6 (⟨hu, rfl, hB6⟩ | ⟨his, G, b, rfl, hG, hB6⟩)
  · have HB6 := Lib.hid (HB5.out.trans (hB6.mono HB5.out.size))
    have hq := unlike_yes a n cap r l c f (by omega) w6 (HR.out.same HB6.out) (fun hh => hu ⟨rfl, hh⟩)
    have HQ := Lib.hid hq
    clear hu hB6 hq HB5
    go_wp2_with fail
    refine HQ.out.mono ?_
    rintro e w7 ⟨rfl, q, rfl⟩
    go_wp2
    go_ret
    exact ⟨rfl, below_dr HB6.out q⟩
  obtain ⟨wi, hwi⟩ : ∃ wi, l 0 = wi := ⟨_, rfl⟩
  have hev : ∀ i, i < n → l i = wi := fun i hi => (his.2 i hi).trans hwi
  have hwi9 : wi ≤ 160 := by rw [← hwi]; exact HL9.out 0 (by omega)
  rw [hwi] at hG
  have HEV := Lib.hid hev
  have HG6 := Lib.hid hG; have HC6 := Lib.hid (HC5.out.same hB6); have HB6 := Lib.hid (HB5.out.trans (hB6.mono HB5.out.size))
  have HR6 := Lib.hid (HR.out.same HB6.out); have HT6 := Lib.hid (HT.out.same HB6.out)
  have HGL := Lib.hid (And.intro hG.ltG (fun i (hi : i < N) => hG.ltb hi))
  clear his hwi hev hG hB6 HB5 HC5 HR HT HL9
  have hal : Below w6.heap.size w6 (w6.alloc (.cells (madeCells #[.int .i64 0] N) 3)) := (Below.refl _ w6).alloc (Nat.le_refl _) _
  have hmk := hmkI N (by omega)
  have HBI := Lib.hid (bi_made w6 N)
  go_wp2_with fail
  obtain ⟨w7, hw7⟩ : ∃ w7, w7 = w6.alloc (.cells (madeCells #[.int .i64 0] N) 3) := ⟨_, rfl⟩
  have hs7 : w7.heap.size = w6.heap.size + 1 := by rw [hw7, World.size_alloc]
  rw [← hw7] at hal HBI ⊢
  have HAL := Lib.hid hal
  have HW7 := Lib.hid hw7
  clear hw7 hal hmk
  obtain ⟨i0, hi, hz0, hz1, hz2⟩ := info_parts Try.infoHeld
  have HI := Lib.hid hi; have HZ0 := Lib.hid hz0; have HZ1 := Lib.hid hz1; have HZ2 := Lib.hid hz2
  obtain ⟨i1, hi', hz0', hz1', hz2'⟩ := info_parts Try.infoInt
  have HI' := Lib.hid hi'; have HZ0' := Lib.hid hz0'; have HZ1' := Lib.hid hz1'; have HZ2' := Lib.hid hz2'
  obtain ⟨i2, hi2, hz02, hz12, hz22⟩ := info_parts Try.infoRow
  have HI2 := Lib.hid hi2; have HZ02 := Lib.hid hz02; have HZ12 := Lib.hid hz12; have HZ22 := Lib.hid hz22
  clear hi hz0 hz1 hz2 hi' hz0' hz1' hz2' hi2 hz02 hz12 hz22
  go_loopw [13, 14, 16] (fun vh vi vx wr => ∃ (q t : Nat) (ha : Option Addr) (hc : Nat) (ia : Option Addr) (ic : Nat) (R : Nat → Nat), q ≤ wl + N ∧ t ≤ n + 3 ∧ vx = .int .i64 q ∧ vh = .slice ha t hc ∧ vi = .slice ia t ic ∧ wr.ownsRow w7.heap.size 48 2 (.slice ha t hc) t (hdl b wi R t) ∧ wr.ownsRow w7.heap.size 3 1 (.slice ia t ic) t (inl R t) ∧
    Bi wr w6.heap.size N (fun r => if Pf.isP R r t then 1 else 0) ∧ (∀ j, j < t → R j < N) ∧ Pf.Dst R t ∧ (∀ j, wl ≤ j → j < q → Pf.isP R (j % N) t = true) ∧ Below w6.heap.size w7 wr) (fun _ _ i _ => wl + N - (intOf i).toNat)
  case atStart => exact ⟨0, 0, none, 0, none, 0, fun _ => 0, by omega, by omega, rfl, rfl, rfl, World.ownsRow_nil _ _ _ _, World.ownsRow_nil _ _ _ _, HBI.out.congr (fun _ _ => rfl), fun j h => by omega, fun i j _ h => by omega, fun j _ h => by omega, Below.refl _ _⟩
  case round =>
    clear HBI
    obtain ⟨q, t, ha, hc, ia, ic, R, hq, ht, rfl, rfl, rfl, hO, hO', hBi, hRN, hRd, hCv, hB⟩ := hrel
    have HO := Lib.hid hO; have HO' := Lib.hid hO'; have HBi := Lib.hid hBi; have HRN := Lib.hid hRN; have HRd := Lib.hid hRd; have HCv := Lib.hid hCv; have HB := Lib.hid hB
    have hsz := hB.size
    clear hO hO' hBi hRN hRd hCv hB
    by_cases hgo : q < wl + N ∧ t < n + 3
    · obtain ⟨hq1, ht1⟩ := hgo
      have j1 : (q : Int) < (wl : Int) + (N : Int) := by omega
      have j2 : (t : Int) < (n : Int) + 3 := by omega
      have n1 : ¬ (N : Int) = 0 := by omega
      have n2 : ¬ N = 0 := by omega
      have HBX := Lib.hid (HAL.out.trans HB.out)
      have HGr := Lib.hid (HG6.out.same HBX.out)
      obtain ⟨rq, hrq⟩ : ∃ rq, rq = q % N := ⟨_, rfl⟩
      have hrqN : rq < N := by rw [hrq]; exact Nat.mod_lt _ (by omega)
      have n3 : ((q : Int)).tmod (N : Int) = (rq : Int) := by rw [hrq, Int.tmod_eq_emod_of_nonneg (by omega)]; rfl
      have n4 : ((q : Int)) % (N : Int) = (rq : Int) := by rw [hrq]; rfl
      have HRQ := Lib.hid hrq; clear hrq
      have hat : (∃ r : Nat, r < N ∧ q < wl) ∨ wl ≤ q := by
        rcases Nat.lt_or_ge q wl with e | e
        · exact Or.inl ⟨0, by omega, e⟩
        · exact Or.inr e
      rcases hat with ⟨_, _, hq2⟩ | hq2
      rotate_left
      · obtain ⟨r, hr2⟩ : ∃ r, r = rq := ⟨_, rfl⟩
        rw [← hr2] at n3 n4 hrqN
        have HRI := Lib.hid (show wl ≤ q → r = q % N from fun _ => hr2.trans HRQ.out)
        have hr := hrqN
        have j3 : ¬ (q : Int) < (wl : Int) := by omega
        clear hr2
        have j6 : (r : Int) < (N : Int) := by omega
        have hcc := HBi.out.cell hr
        have hff := HBi.out.free r
        cases hp : Pf.isP R r t
        · rw [hp] at hcc
          have hcc : wr.cell? ⟨w6.heap.size, r, none⟩ = some (.int .i64 0) := hcc
          have hcG := HGr.out.cell hr
          have HPN := Lib.hid (Pf.isP_no t hp)
          have hal8 : Below wr.heap.size wr (wr.alloc (.cells #[.int .i64 (r : Nat), .slice (some ⟨b r, 0, none⟩) wi wi] 48)) := (Below.refl _ wr).alloc (Nat.le_refl _) _
          have HAL8 := Lib.hid hal8
          have HOW := Lib.hid (own_below HO.out hal8)
          have HOW' := Lib.hid (own_below HO'.out hal8)
          have hbb : w7.heap.size ≤ (wr.alloc (.cells #[.int .i64 (r : Nat), .slice (some ⟨b r, 0, none⟩) wi wi] 48)).heap.size := by rw [World.size_alloc]; omega
          clear hp hal8
          go_wp2_with (first
            | (at_builtin; refine wpList_append_own _ rfl _ _ 46 rfl w7.heap.size 48 i0 (.agg #[.int .i64 0, .slice none 0 0]) 2 32 Try.underlying46 HI.out HZ0.out HZ1.out HZ2.out rfl (by decide) _ t (hdl b wi R t) rfl HOW.out ⟨wr.heap.size, 0, none⟩ 1 1 [.int .i64 (r : Nat), .slice (some ⟨b r, 0, none⟩) wi wi] rfl rfl (cell_new2 _ _ _ _) (by intro u hu; rcases List.mem_cons.1 hu with rfl | hu; rfl; rcases List.mem_singleton.1 hu with rfl; rfl) (by unfold maxLen; omega) (by omega) hbb ?_; intro v9 w9 hown9 hgrow9 _; obtain ⟨g9, c9, rfl⟩ := own_slice hown9; have hi9 := HOW'.out.kept hgrow9 (own_ty HOW'.out HOW.out (by decide)); have hb9 : Below w7.heap.size (wr.alloc (.cells #[.int .i64 (r : Nat), .slice (some ⟨b r, 0, none⟩) wi wi] 48)) w9 := (Below.refl _ _).grown hgrow9 hbb (fun k e => (HOW.out.lt k e).1); have hs9 := hb9.size; have HI9 := Lib.hid hi9; have HO9 := Lib.hid hown9; have HB9 := Lib.hid hb9; have HIA := Lib.hid (own_below hi9 ((Below.refl _ w9).alloc (Nat.le_refl _) (.cells #[.int .i64 (r : Nat)] 3))); have HOA := Lib.hid (own_below hown9 ((Below.refl _ w9).alloc (Nat.le_refl _) (.cells #[.int .i64 (r : Nat)] 3))); have hbc : w7.heap.size ≤ (w9.alloc (.cells #[.int .i64 (r : Nat)] 3)).heap.size := (by rw [World.size_alloc]; omega); clear hown9 hgrow9 hi9 hb9)
            | (at_builtin; refine wpList_append_own _ rfl _ _ 43 rfl w7.heap.size 3 i1 (.int .i64 0) 1 8 Try.underlying43 HI'.out HZ0'.out HZ1'.out HZ2'.out rfl (by decide) _ t (inl R t) rfl HIA.out ⟨w9.heap.size, 0, none⟩ 1 1 [.int .i64 (r : Nat)] rfl rfl (cell_new1 _ _ _) (one_single _ _) (by unfold maxLen; omega) (by omega) hbc ?_; intro v10 w10 hown10 hgrow10 _; obtain ⟨g10, c10, rfl⟩ := own_slice hown10; have ho10 := HOA.out.kept hgrow10 (own_ty HOA.out HIA.out (by decide)); have hb10 : Below w7.heap.size (w9.alloc (.cells #[.int .i64 (r : Nat)] 3)) w10 := (Below.refl _ _).grown hgrow10 hbc (fun k e => (HIA.out.lt k e).1); have hb11 : Below w7.heap.size wr w10 := ((Below.refl _ wr).alloc (by omega) _).trans (HB9.out.trans (((Below.refl _ w9).alloc (by omega) _).trans hb10)); have hbi10 : Bi w10 w6.heap.size N (fun r => if Pf.isP R r t then 1 else 0) := HBi.out.kept (hb11.block _ (by omega)); have c8 := hbi10.cell hr; have f8 := hbi10.free r; have HBI10 := Lib.hid hbi10; have HB11 := Lib.hid hb11; have HO10 := Lib.hid ho10; have HI10 := Lib.hid hown10; clear hown10 hgrow10 ho10 hb10 hb11 hbi10))
          have ho := HO10.out
          have hii := HI10.out
          rw [show hdl b wi R t ++ [.int .i64 (r : Nat), .slice (some ⟨b r, 0, none⟩) wi wi] = hdl b wi (onR R t r) (t + 1) by rw [hdl_s, onR_t, hdl_congr b wi t (fun i hi => onR_lo hi)]] at ho
          rw [show inl R t ++ [.int .i64 (r : Nat)] = inl (onR R t r) (t + 1) by rw [inl_s, onR_t, inl_congr (fun i hi => onR_lo hi)]] at hii
          have ho2 := own_set (B := w7.heap.size) (g := w6.heap.size) (i := r) (u := .int .i64 1) ho (by omega)
          have hii2 := own_set (B := w7.heap.size) (g := w6.heap.size) (i := r) (u := .int .i64 1) hii (by omega)
          have hbi2 := (HBI10.out.set hr 1).congr (h' := fun i => if Pf.isP (onR R t r) i (t + 1) then 1 else 0) (fun i _ => by
            rw [isP_on]
            by_cases e : i = r
            · subst e; simp
            · have : ¬ r = i := fun h => e h.symm
              simp [e, this])
          have HO2 := Lib.hid ho2; have HI2' := Lib.hid hii2; have HBI2 := Lib.hid hbi2; have HB2 := Lib.hid ((HB.out.trans (HB11.out.mono (by omega))).setCell (p := ⟨w6.heap.size, r, none⟩) (Nat.le_refl _) (.int .i64 1))
          clear ho hii ho2 hii2 hbi2 c8 f8
          go_wp2
          go_roundw
          case rel => exact ⟨q + 1, t + 1, _, c9, _, c10, onR R t r, by omega, by omega, by go_num, rfl, rfl, HO2.out, HI2'.out, HBI2.out, fun j hj => by
            unfold onR; split
            · exact hr
            · exact HRN.out j (by omega), fun i j hij hj => by
            by_cases e : j = t
            · subst e; rw [onR_t, onR_lo hij]; exact HPN.out i hij
            · rw [onR_lo (show i < t by omega), onR_lo (show j < t by omega)]; exact HRd.out i j hij (by omega), fun j hj1 hj2 => by
            rw [isP_on]
            by_cases e : j = q
            · subst e; rw [← HRI.out hj1]; simp
            · rw [HCv.out j hj1 (by omega)]; rfl, HB2.out⟩
          case measure => simp [intOf]; omega
        · rw [hp] at hcc
          have hcc : wr.cell? ⟨w6.heap.size, r, none⟩ = some (.int .i64 1) := hcc
          have HPY := Lib.hid hp
          have hbi2 := (HBi.out.set hr 1).congr (h' := fun i => if Pf.isP R i t then 1 else 0) (fun i _ => by
            by_cases e : i = r
            · subst e; simp [hp]
            · simp [e])
          have HO2 := Lib.hid (own_set (B := w7.heap.size) (g := w6.heap.size) (i := r) (u := .int .i64 1) HO.out (by omega)); have HI2' := Lib.hid (own_set (B := w7.heap.size) (g := w6.heap.size) (i := r) (u := .int .i64 1) HO'.out (by omega)); have HBI2 := Lib.hid hbi2; have HB2 := Lib.hid (HB.out.setCell (p := ⟨w6.heap.size, r, none⟩) (Nat.le_refl _) (.int .i64 1))
          clear hp hbi2
          go_wp2
          go_roundw
          case rel => exact ⟨q + 1, t, ha, hc, ia, ic, R, by omega, by omega, by go_num, rfl, rfl, HO2.out, HI2'.out, HBI2.out, HRN.out, HRd.out, fun j hj1 hj2 => by
            by_cases e : j = q
            · subst e; rw [← HRI.out hj1]; exact HPY.out
            · exact HCv.out j hj1 (by omega), HB2.out⟩
          case measure => simp [intOf]; omega
      · obtain ⟨b5, o5, e5, c5⟩ := ((HT6.out.same HBX.out).cell q hq2)
        have E5 := Lib.hid (show wa = some ⟨b5, o5, none⟩ from e5)
        subst e5
        have j3 : (q : Int) < (wl : Int) := by omega
        generalize h q = hq0 at c5
        go_wp2_with fail
        refine (pick_any hq0 N (by omega) (by omega) _).mono ?_
        rintro e w8 ⟨⟨r, hr, rfl⟩, hw8⟩
        rw [hw8]; clear hw8 c5
        have HRI := Lib.hid (show wl ≤ q → r = q % N from fun _ => by omega)
        have j6 : (r : Int) < (N : Int) := by omega
        have hcc := HBi.out.cell hr
        have hff := HBi.out.free r
        cases hp : Pf.isP R r t
        · rw [hp] at hcc
          have hcc : wr.cell? ⟨w6.heap.size, r, none⟩ = some (.int .i64 0) := hcc
          have hcG := HGr.out.cell hr
          have HPN := Lib.hid (Pf.isP_no t hp)
          have hal8 : Below wr.heap.size wr (wr.alloc (.cells #[.int .i64 (r : Nat), .slice (some ⟨b r, 0, none⟩) wi wi] 48)) := (Below.refl _ wr).alloc (Nat.le_refl _) _
          have HAL8 := Lib.hid hal8
          have HOW := Lib.hid (own_below HO.out hal8)
          have HOW' := Lib.hid (own_below HO'.out hal8)
          have hbb : w7.heap.size ≤ (wr.alloc (.cells #[.int .i64 (r : Nat), .slice (some ⟨b r, 0, none⟩) wi wi] 48)).heap.size := by rw [World.size_alloc]; omega
          clear hp hal8
          go_wp2_with (first
            | (at_builtin; refine wpList_append_own _ rfl _ _ 46 rfl w7.heap.size 48 i0 (.agg #[.int .i64 0, .slice none 0 0]) 2 32 Try.underlying46 HI.out HZ0.out HZ1.out HZ2.out rfl (by decide) _ t (hdl b wi R t) rfl HOW.out ⟨wr.heap.size, 0, none⟩ 1 1 [.int .i64 (r : Nat), .slice (some ⟨b r, 0, none⟩) wi wi] rfl rfl (cell_new2 _ _ _ _) (by intro u hu; rcases List.mem_cons.1 hu with rfl | hu; rfl; rcases List.mem_singleton.1 hu with rfl; rfl) (by unfold maxLen; omega) (by omega) hbb ?_; intro v9 w9 hown9 hgrow9 _; obtain ⟨g9, c9, rfl⟩ := own_slice hown9; have hi9 := HOW'.out.kept hgrow9 (own_ty HOW'.out HOW.out (by decide)); have hb9 : Below w7.heap.size (wr.alloc (.cells #[.int .i64 (r : Nat), .slice (some ⟨b r, 0, none⟩) wi wi] 48)) w9 := (Below.refl _ _).grown hgrow9 hbb (fun k e => (HOW.out.lt k e).1); have hs9 := hb9.size; have HI9 := Lib.hid hi9; have HO9 := Lib.hid hown9; have HB9 := Lib.hid hb9; have HIA := Lib.hid (own_below hi9 ((Below.refl _ w9).alloc (Nat.le_refl _) (.cells #[.int .i64 (r : Nat)] 3))); have HOA := Lib.hid (own_below hown9 ((Below.refl _ w9).alloc (Nat.le_refl _) (.cells #[.int .i64 (r : Nat)] 3))); have hbc : w7.heap.size ≤ (w9.alloc (.cells #[.int .i64 (r : Nat)] 3)).heap.size := (by rw [World.size_alloc]; omega); clear hown9 hgrow9 hi9 hb9)
            | (at_builtin; refine wpList_append_own _ rfl _ _ 43 rfl w7.heap.size 3 i1 (.int .i64 0) 1 8 Try.underlying43 HI'.out HZ0'.out HZ1'.out HZ2'.out rfl (by decide) _ t (inl R t) rfl HIA.out ⟨w9.heap.size, 0, none⟩ 1 1 [.int .i64 (r : Nat)] rfl rfl (cell_new1 _ _ _) (one_single _ _) (by unfold maxLen; omega) (by omega) hbc ?_; intro v10 w10 hown10 hgrow10 _; obtain ⟨g10, c10, rfl⟩ := own_slice hown10; have ho10 := HOA.out.kept hgrow10 (own_ty HOA.out HIA.out (by decide)); have hb10 : Below w7.heap.size (w9.alloc (.cells #[.int .i64 (r : Nat)] 3)) w10 := (Below.refl _ _).grown hgrow10 hbc (fun k e => (HIA.out.lt k e).1); have hb11 : Below w7.heap.size wr w10 := ((Below.refl _ wr).alloc (by omega) _).trans (HB9.out.trans (((Below.refl _ w9).alloc (by omega) _).trans hb10)); have hbi10 : Bi w10 w6.heap.size N (fun r => if Pf.isP R r t then 1 else 0) := HBi.out.kept (hb11.block _ (by omega)); have c8 := hbi10.cell hr; have f8 := hbi10.free r; have HBI10 := Lib.hid hbi10; have HB11 := Lib.hid hb11; have HO10 := Lib.hid ho10; have HI10 := Lib.hid hown10; clear hown10 hgrow10 ho10 hb10 hb11 hbi10))
          have ho := HO10.out
          have hii := HI10.out
          rw [show hdl b wi R t ++ [.int .i64 (r : Nat), .slice (some ⟨b r, 0, none⟩) wi wi] = hdl b wi (onR R t r) (t + 1) by rw [hdl_s, onR_t, hdl_congr b wi t (fun i hi => onR_lo hi)]] at ho
          rw [show inl R t ++ [.int .i64 (r : Nat)] = inl (onR R t r) (t + 1) by rw [inl_s, onR_t, inl_congr (fun i hi => onR_lo hi)]] at hii
          have ho2 := own_set (B := w7.heap.size) (g := w6.heap.size) (i := r) (u := .int .i64 1) ho (by omega)
          have hii2 := own_set (B := w7.heap.size) (g := w6.heap.size) (i := r) (u := .int .i64 1) hii (by omega)
          have hbi2 := (HBI10.out.set hr 1).congr (h' := fun i => if Pf.isP (onR R t r) i (t + 1) then 1 else 0) (fun i _ => by
            rw [isP_on]
            by_cases e : i = r
            · subst e; simp
            · have : ¬ r = i := fun h => e h.symm
              simp [e, this])
          have HO2 := Lib.hid ho2; have HI2' := Lib.hid hii2; have HBI2 := Lib.hid hbi2; have HB2 := Lib.hid ((HB.out.trans (HB11.out.mono (by omega))).setCell (p := ⟨w6.heap.size, r, none⟩) (Nat.le_refl _) (.int .i64 1))
          clear ho hii ho2 hii2 hbi2 c8 f8
          go_wp2
          go_roundw
          case rel => exact ⟨q + 1, t + 1, _, c9, _, c10, onR R t r, by omega, by omega, by go_num, rfl, rfl, HO2.out, HI2'.out, HBI2.out, fun j hj => by
            unfold onR; split
            · exact hr
            · exact HRN.out j (by omega), fun i j hij hj => by
            by_cases e : j = t
            · subst e; rw [onR_t, onR_lo hij]; exact HPN.out i hij
            · rw [onR_lo (show i < t by omega), onR_lo (show j < t by omega)]; exact HRd.out i j hij (by omega), fun j hj1 hj2 => by
            rw [isP_on]
            by_cases e : j = q
            · subst e; rw [← HRI.out hj1]; simp
            · rw [HCv.out j hj1 (by omega)]; rfl, HB2.out⟩
          case measure => simp [intOf]; omega
        · rw [hp] at hcc
          have hcc : wr.cell? ⟨w6.heap.size, r, none⟩ = some (.int .i64 1) := hcc
          have HPY := Lib.hid hp
          have hbi2 := (HBi.out.set hr 1).congr (h' := fun i => if Pf.isP R i t then 1 else 0) (fun i _ => by
            by_cases e : i = r
            · subst e; simp [hp]
            · simp [e])
          have HO2 := Lib.hid (own_set (B := w7.heap.size) (g := w6.heap.size) (i := r) (u := .int .i64 1) HO.out (by omega)); have HI2' := Lib.hid (own_set (B := w7.heap.size) (g := w6.heap.size) (i := r) (u := .int .i64 1) HO'.out (by omega)); have HBI2 := Lib.hid hbi2; have HB2 := Lib.hid (HB.out.setCell (p := ⟨w6.heap.size, r, none⟩) (Nat.le_refl _) (.int .i64 1))
          clear hp hbi2
          go_wp2
          go_roundw
          case rel => exact ⟨q + 1, t, ha, hc, ia, ic, R, by omega, by omega, by go_num, rfl, rfl, HO2.out, HI2'.out, HBI2.out, HRN.out, HRd.out, fun j hj1 hj2 => by
            by_cases e : j = q
            · subst e; rw [← HRI.out hj1]; exact HPY.out
            · exact HCv.out j hj1 (by omega), HB2.out⟩
          case measure => simp [intOf]; omega
    · have htn : n ≤ t := by
        by_cases e : t < n + 3
        · have hqe : q = wl + N := by omega
          have hall : ∀ r, r < N → ∃ j, j < t ∧ R j = r := fun r hr => by
            have hj : wl ≤ wl + (r + N - wl % N) % N ∧ wl + (r + N - wl % N) % N < q := by
              have := Nat.mod_lt (r + N - wl % N) (show 0 < N by omega)
              omega
            have h1 := HCv.out _ hj.1 hj.2
            have h2 : (wl + (r + N - wl % N) % N) % N = r := by
              have h3 := Nat.mod_lt wl (show 0 < N by omega)
              rw [Nat.add_mod, Nat.mod_mod, ← Nat.add_mod]
              have h4 : wl + (r + N - wl % N) = r + N * (wl / N + 1) := by
                have := Nat.div_add_mod wl N
                rw [Nat.mul_add]; omega
              rw [h4, Nat.add_mul_mod_self_left, Nat.mod_eq_of_lt hr]
            rw [h2] at h1
            exact Pf.isP_of t h1
          have := pigeon t N R hall
          omega
        · omega
      have HBX := Lib.hid (HAL.out.trans HB.out)
      have HGr := Lib.hid (HG6.out.same HBX.out)
      have HCr := Lib.hid (HC6.out.same HBX.out)
      obtain ⟨gh, rfl, hcc1, hcc2⟩ : ∃ gh, ha = some ⟨gh, 0, none⟩ ∧ t ≤ hc ∧ hc ≤ maxLen := by
        rcases HO.out.2 with ⟨e, h0⟩ | ⟨g, c1, cur, e, _, _, h4, h5, _⟩
        · omega
        · simp only [Value.slice.injEq, true_and] at e
          obtain ⟨e1, e2⟩ := e
          exact ⟨g, e1, by omega, by omega⟩
      have HHs := Lib.hid (hdl_hs HO.out HGr.out HRN.out)
      have HSi := Lib.hid (inl_si HO'.out)
      have hszx := HBX.out.size
      have hin : InR (fun i => ((R i : Nat) : Int)) t N := fun j hj => by have := HRN.out j hj; show 0 ≤ ((R j : Nat) : Int) ∧ ((R j : Nat) : Int) < N; omega
      have hds : DsI (fun i => ((R i : Nat) : Int)) t := fun j k h1 h2 => by have := HRd.out j k h1 h2; show ((R j : Nat) : Int) ≠ ((R k : Nat) : Int); omega
      have HCK := Lib.hid (show Chk (fun i => ((R i : Nat) : Int)) t N n 0 from Or.inr (Or.inr (Or.inr ⟨hin, hds, htn, rfl⟩)))
      have HCK2 := Lib.hid (show Chk (fun i => ((R i : Nat) : Int)) (n - 1) N n 8 from Or.inr (Or.inr (Or.inl ⟨fun j hj => hin j (by omega), fun j k h1 h2 => hds j k h1 (by omega), by omega, rfl⟩)))
      have HDE := Lib.hid (fun i (hi : i < n) => dec_enc (f := f) (R := R) (n := n) (t := t) (N := N) HR6.out.bm HRN.out HRd.out hN2 hN1 htn hi)
      have hex : ¬ (q : Int) < (wl : Int) + (N : Int) ∨ ((q : Int) < (wl : Int) + (N : Int) ∧ ¬ (t : Int) < (n : Int) + 3) := by omega
      clear hgo hin hds HBi HCv
      rcases hex with j1 | ⟨j1, j2⟩
      all_goals
        go_wp2_with fail
        refine (cdecode_any cb fb G0 N n b0 _ t hc (fun i => ((R i : Nat) : Int)) _ (fun _ => wi) (fun _ => wi) (fun i => enc n f (R i)) (by omega) (fun _ _ => by omega) _ HCr.out HHs.out).mono ?_
        rintro e w8d (⟨E, hE, hD, _⟩ | ⟨_, GD, bD, rfl, hGD, hBd⟩)
        · exact absurd (hD.uniq (Or.inr ⟨fun _ _ => rfl, HCK.out⟩)) hE
        have HGD := Lib.hid (hGD.congr (g := f) HR6.out.bm (fun i j hi => by unfold dcd; rw [if_pos hi, HDE.out i hi]))
        have HBD := Lib.hid (HBX.out.trans (hBd.mono hszx)); have HBD2 := Lib.hid hBd
        have HCd := Lib.hid (HCr.out.same hBd); have HSd := Lib.hid (HSi.out.same hBd); have HOd := Lib.hid (own_below HO.out hBd)
        have hsd := HBD.out.size
        clear hGD hBd
        go_wp2_with fail
        refine (cTurn_any cb fb G0 N n b0 ia t ic (fun i => ((R i : Nat) : Int)) (by omega) w8d HCd.out HSd.out).mono ?_
        rintro e wt (⟨E, hE, hD, _⟩ | ⟨_, GT, bT, rfl, hGT, hBt⟩)
        · exact absurd (hD.uniq HCK.out) hE
        have HGT := Lib.hid hGT
        have HBT := Lib.hid (HBD.out.trans (hBt.mono hsd))
        have HCt := Lib.hid (HCd.out.same hBt); have HHt := Lib.hid ((HHs.out.same (HBD2.out)).same hBt); have HGDt := Lib.hid (HGD.out.same hBt)
        have hst := HBT.out.size
        obtain ⟨wo, rfl⟩ : ∃ wo : World, wo = wr := ⟨_, rfl⟩
        have HOS := Lib.hid (World.ownsRow_nil wt wt.heap.size 35 1)
        clear hGT hBt
        go_wp2_with fail
        go_loopw [22, 23] (fun vs vi wr => ∃ (k : Nat) (sa : Option Addr) (sc : Nat), k ≤ n ∧ vi = .int .i64 k ∧ vs = .slice sa k sc ∧ wr.ownsRow wt.heap.size 35 1 (.slice sa k sc) k (rowl b wi R k) ∧ Below wt.heap.size wt wr) (fun _ i _ => n - (intOf i).toNat)
        case atStart => exact ⟨0, none, 0, by omega, rfl, rfl, HOS.out, Below.refl _ _⟩
        case round =>
          clear HOS
          obtain ⟨k, sa, sc, hk, rfl, rfl, hOS, hBs⟩ := hrel
          have HOS := Lib.hid hOS; have HBs := Lib.hid hBs
          have hszs := hBs.size
          clear hOS hBs
          by_cases hkn : k < n
          · have j7 : (k : Int) < (n : Int) := by omega
            have j8 : (k : Int) < (t : Int) := by omega
            obtain ⟨b2, o2, e2, _, c2⟩ := (HHt.out.same HBs.out).cell k (by omega)
            cases e2
            simp only [Nat.zero_add] at c2
            have hal8 : Below wr.heap.size wr (wr.alloc (.cells #[.slice (some ⟨b (R k), 0, none⟩) wi wi] 35)) := (Below.refl _ wr).alloc (Nat.le_refl _) _
            have HAL8 := Lib.hid hal8
            have HOW := Lib.hid (own_below HOS.out hal8)
            have hbb : wt.heap.size ≤ (wr.alloc (.cells #[.slice (some ⟨b (R k), 0, none⟩) wi wi] 35)).heap.size := by rw [World.size_alloc]; omega
            clear hal8
            go_wp2_with (at_builtin; refine wpList_append_bag _ rfl _ _ 22 rfl wt.heap.size 35 i2 (.slice none 0 0) 24 Try.underlying22 HI2.out HZ02.out HZ12.out HZ22.out rfl sa k sc _ rfl HOW.out _ 1 1 [.slice (some ⟨b (R k), 0, none⟩) wi wi] rfl rfl (cell_new1 _ _ _) (by intro u hu; rcases List.mem_singleton.1 hu with rfl; rfl) (by decide) (by unfold maxLen; omega) (by omega) hbb ?_; intro g9 c9 w9 hown9 hc9 hlt9; have hb9 := bag_below (B := wt.heap.size) hc9 ((hown9.lt g9 rfl).1) hbb; have HB9 := Lib.hid (HBs.out.trans (((Below.refl wt.heap.size wr).alloc hszs _).trans hb9)); have HOWN9 := Lib.hid hown9; clear hb9 hown9 hc9 hlt9)
            have ho := HOWN9.out
            rw [← rowl_succ] at ho
            have HO9 := Lib.hid ho
            clear ho c2
            go_wp2
            go_roundw
            case rel => exact ⟨k + 1, _, c9, by omega, by go_num, rfl, HO9.out, HB9.out⟩
            case measure => simp [intOf]; omega
          · obtain rfl : k = n := by omega
            have HBS := Lib.hid (HBT.out.trans (HBs.out.mono hst))
            have HGs := Lib.hid (HG6.out.same HBS.out)
            have hrdS := rowl_rd HOS.out HGs.out (fun i hi => HRN.out i (by omega))
            have HM := Lib.hid (mul_yes _ _ k k k sc _ _ (fun _ => k) _ (fun _ => wi) _ _ _ wr (HGT.out.same HBs.out).rd hrdS ⟨fun _ _ => rfl, by omega, by unfold wd; rw [if_neg (by omega)]; show k ≤ 255; omega⟩ (by unfold wd; rw [if_neg (by omega)]) ⟨fun _ _ => rfl, by omega, by unfold wd; rw [if_neg (by omega)]; show wi ≤ 255; omega⟩)
            have HCs := Lib.hid (HCt.out.same HBs.out); have HHS := Lib.hid (HHt.out.same HBs.out); have HGDs := Lib.hid (HGDt.out.same HBs.out)
            have hsS := HBS.out.size
            clear hrdS
            go_wp2_with fail
            refine HM.out.mono ?_
            rintro e wm ⟨GM, bM, rfl, hGM, hBm⟩
            have hwd : wd k (fun _ => wi) = wi := by unfold wd; rw [if_neg (by omega)]
            rw [hwd] at hGM
            have HGM := Lib.hid (hGM.congr (g := f) HR6.out.bm (fun i j hi => by
              unfold cl
              by_cases hj : j < wi
              · rw [if_pos ⟨hi, hj⟩, ← HDE.out i hi]
                show Pf.xsum (fun p => Gf.mul (trn _ k i p) _) k = Pf.xsum _ k
                refine Pf.xsum_congr k fun p _ => ?_
                unfold trn
                rw [if_pos hi]
              · rw [if_neg (by omega)]
                exact ((HR6.out.row i hi).up j (by rw [HEV.out i hi]; omega)).symm))
            have HBM := Lib.hid (HBS.out.trans (hBm.mono hsS))
            have HCm := Lib.hid (HCs.out.same hBm); have HHm := Lib.hid ((HHS.out.same hBm).less (k := k - 1) (by omega)); have HGDm := Lib.hid (HGDs.out.same hBm)
            have hsM := HBM.out.size
            have hcast : (k : Int) - 1 = ((k - 1 : Nat) : Int) := by omega
            clear hGM hBm hwd HM
            go_wp2_with fail
            refine (cdecode_any cb fb G0 N k b0 _ (k - 1) hc (fun i => ((R i : Nat) : Int)) _ (fun _ => wi) (fun _ => wi) (fun i => enc k f (R i)) (by omega) (fun _ _ => by omega) _ HCm.out HHm.out).mono ?_
            rintro e w9 (⟨E, hE, hD, rfl, hB9⟩ | ⟨hD, _⟩)
            rotate_left
            · have := hD.uniq (Or.inr ⟨fun _ _ => rfl, HCK2.out⟩)
              omega
            obtain rfl : E = 8 := hD.uniq (Or.inr ⟨fun _ _ => rfl, HCK2.out⟩)
            have HB9 := Lib.hid (HBM.out.trans (hB9.mono hsM))
            have HG9 := Lib.hid ((HG6.out.same HB9.out).rd.less hN1 (fun e => by cases e) (fun ad e => by cases e; rfl)); have HR9 := Lib.hid (HR6.out.same HB9.out)
            have HGD9 := Lib.hid (HGDm.out.same hB9); have HGM9 := Lib.hid (HGM.out.same hB9)
            have g7 : ((N : Int) == (N : Int)) = true := by simp
            clear hE hD hB9
            go_wp2_with fail
            refine (sameRows_any _ _ k N cap _ _ (fun _ => wi) _ _ _ _ _ (by omega) (fun _ _ => by omega) _ HG9.out HR9.out (fun i hi => ⟨HEV.out i hi, (enc_src HR6.out.bm (by omega) hi).symm⟩)).mono ?_
            rintro e w10 ⟨rfl, q1, hq⟩
            have hBq := quiet_below hq
            have HB10 := Lib.hid (HB9.out.trans (hBq.mono HB9.out.size)); have HR10 := Lib.hid (HR9.out.same hBq); have HGD10 := Lib.hid (HGD9.out.same hBq); have HGM10 := Lib.hid (HGM9.out.same hBq)
            clear hq hBq
            go_wp2_with fail
            refine (sameRows_any _ _ k k cap _ _ (fun _ => wi) _ _ _ _ _ (by omega) (fun _ _ => by omega) _ HGD10.out.rd HR10.out (fun i hi => ⟨HEV.out i hi, rfl⟩)).mono ?_
            rintro e w11 ⟨rfl, q2, hq⟩
            have hBq := quiet_below hq
            have HB11 := Lib.hid (HB10.out.trans (hBq.mono HB10.out.size)); have HR11 := Lib.hid (HR10.out.same hBq); have HGM11 := Lib.hid (HGM10.out.same hBq)
            clear hq hBq
            go_wp2_with fail
            refine (sameRows_any _ _ k k cap _ _ (fun _ => wi) _ _ _ _ _ (by omega) (fun _ _ => by omega) _ HGM11.out.rd HR11.out (fun i hi => ⟨HEV.out i hi, rfl⟩)).mono ?_
            rintro e w12 ⟨rfl, q3, hq⟩
            have hBq := quiet_below hq
            have HB12 := Lib.hid (HB6.out.trans ((HB11.out.trans (hBq.mono HB11.out.size)).mono HB6.out.size))
            clear hq hBq
            go_wp2
            go_ret
            exact ⟨rfl, HB12.out⟩
end Go.Proofs.Ytlkfconkhlkinaa

namespace Go.Proofs.Ytlkfconkhlkinaa
open Go.RowKit Go.Shelf

/-- slices, as values. -/
def rls (r : Nat → Option Addr) (l c : Nat → Nat) (m : Nat) : List Value := (List.range m).map fun i => Value.slice (r i) (l i) (c i)
theorem rls_s (r : Nat → Option Addr) (l c : Nat → Nat) (m : Nat) : rls r l c (m + 1) = rls r l c m ++ [.slice (r m) (l m) (c m)] := by
  unfold rls; rw [List.range_succ, List.map_append]; rfl
theorem rls_rd {w : World} {B m sc : Nat} {sa : Option Addr} {r : Nat → Option Addr} {l c : Nat → Nat} {f : Nat → Nat → Nat} (ho : w.ownsRow B 35 1 (.slice sa m sc) m (rls r l c m)) (hf : Mt.Bm f) (hr : ∀ i, i < m → Sl w (r i) (l i) (c i) (f i)) : Rd w sa m sc r l c f := by
  obtain ⟨_, ⟨e, h0⟩ | ⟨g, cap', cur, e, hg, hh, hnc, hcm, hs, ht⟩⟩ := ho
  · simp only [Value.slice.injEq] at e
    obtain ⟨rfl, rfl, rfl⟩ := e
    exact ⟨Nat.le_refl _, by unfold maxLen; omega, hf, fun _ => ⟨rfl, rfl⟩, fun _ e => (by cases e), fun _ e => (by cases e), fun i hi => absurd hi (Nat.not_lt_zero i)⟩
  · simp only [Value.slice.injEq, true_and] at e
    obtain ⟨rfl, rfl⟩ := e
    refine ⟨by omega, hcm, hf, fun e => (by cases e), fun ad e _ => (by cases e; rfl), fun ad e i hi => ?_, hr⟩
    cases e
    show w.cell? ⟨g, 0 + i, none⟩ = _
    rw [Nat.zero_add, cell_of_row w g i cur _ _ hh]
    have : (cur.toList.take (m * 1))[i]? = some (.slice (r i) (l i) (c i)) := by rw [ht]; simp [rls, hi]
    rw [List.getElem?_take, if_pos (by omega), Array.getElem?_toList] at this
    exact this
def BytSays (w : World) (m : Nat) (r : Nat → Option Addr) (l c : Nat → Nat) (e : Ending) (w' : World) : Prop := ∃ sa sc, e = .returned (.slice sa m sc) ∧ w'.ownsRow w.heap.size 35 1 (.slice sa m sc) m (rls r l c m) ∧ Below w.heap.size w w'

set_option maxHeartbeats 2000000 in
set_option maxRecDepth 100000 in
theorem bytesOf_any (a : Option Addr) (m cap : Nat) (h : Nat → Int) (r : Nat → Option Addr) (l c : Nat → Nat) (f : Nat → Nat → Nat) (hm : m ≤ 5864062014805) (w : World) (hH : Hs w a m h r l c f) :
    Calls Try.prog 24 #[.slice a m cap] w (BytSays w m r l c) := by
  obtain ⟨i2, hi2, hz02, hz12, hz22⟩ := info_parts Try.infoRow
  have HI2 := Lib.hid hi2; have HZ02 := Lib.hid hz02; have HZ12 := Lib.hid hz12; have HZ22 := Lib.hid hz22
  have HH := Lib.hid hH
  have HOS := Lib.hid (World.ownsRow_nil w w.heap.size 35 1)
  clear hi2 hz02 hz12 hz22 hH
  go_enter Try.func24, Try.ntmps24
  go_wp2_with fail
  go_loopw [3, 4] (fun vs vi wr => ∃ (k : Nat) (sa : Option Addr) (sc : Nat), k ≤ m ∧ vi = .int .i64 k ∧ vs = .slice sa k sc ∧ wr.ownsRow w.heap.size 35 1 (.slice sa k sc) k (rls r l c k) ∧ Below w.heap.size w wr) (fun _ i _ => m - (intOf i).toNat)
  case atStart => exact ⟨0, none, 0, by omega, rfl, rfl, HOS.out, Below.refl _ _⟩
  case round =>
    rename_i wr
    clear HOS
    obtain ⟨k, sa, sc, hk, rfl, rfl, hOS, hBs⟩ := hrel
    have HOS := Lib.hid hOS; have HBs := Lib.hid hBs
    have hszs := hBs.size
    clear hOS hBs
    by_cases hkm : k < m
    · have j7 : (k : Int) < (m : Int) := by omega
      obtain ⟨b2, o2, e2, _, c2⟩ := (HH.out.same HBs.out).cell k hkm
      have E2 := Lib.hid (show a = some ⟨b2, o2, none⟩ from e2)
      subst e2
      have hal8 : Below wr.heap.size wr (wr.alloc (.cells #[.slice (r k) (l k) (c k)] 35)) := (Below.refl _ wr).alloc (Nat.le_refl _) _
      have HOW := Lib.hid (own_below HOS.out hal8)
      have hbb : w.heap.size ≤ (wr.alloc (.cells #[.slice (r k) (l k) (c k)] 35)).heap.size := by rw [World.size_alloc]; omega
      clear hal8
      go_wp2_with (at_builtin; refine wpList_append_bag _ rfl _ _ 22 rfl w.heap.size 35 i2 (.slice none 0 0) 24 Try.underlying22 HI2.out HZ02.out HZ12.out HZ22.out rfl sa k sc _ rfl HOW.out _ 1 1 [.slice (r k) (l k) (c k)] rfl rfl (cell_new1 _ _ _) (by intro u hu; rcases List.mem_singleton.1 hu with rfl; rfl) (by decide) (by unfold maxLen; omega) (by omega) hbb ?_; intro g9 c9 w9 hown9 hc9 hlt9; have hb9 := bag_below (B := w.heap.size) hc9 ((hown9.lt g9 rfl).1) hbb; have HB9 := Lib.hid (HBs.out.trans (((Below.refl w.heap.size wr).alloc hszs _).trans hb9)); have HOWN9 := Lib.hid hown9; clear hb9 hown9 hc9 hlt9)
      have ho := HOWN9.out
      rw [← rls_s] at ho
      have HO9 := Lib.hid ho
      clear ho c2
      go_wp2
      go_roundw
      case rel => exact ⟨k + 1, _, c9, by omega, by go_num, rfl, HO9.out, HB9.out⟩
      case measure => simp [intOf]; omega
    · obtain rfl : k = m := by omega
      go_wp2
      go_ret
      exact ⟨sa, sc, rfl, HOS.out, HBs.out⟩

/-- the sum of rows. -/
def xrow (f g : Nat → Nat → Nat) (i j : Nat) : Nat := f i j ^^^ g i j
theorem xrow_bm {f g : Nat → Nat → Nat} (hf : Mt.Bm f) (hg : Mt.Bm g) : Mt.Bm (xrow f g) := fun i j => Gf.xor_lt (hf i j) (hg i j)
/-- amid a row. -/
def xmid (f g : Nat → Nat → Nat) (k j i : Nat) : Nat := if i < j then xrow f g k i else 0
theorem xmid_s (f g : Nat → Nat → Nat) (k j i : Nat) : (if i = j then f k j ^^^ g k j else xmid f g k j i) = xmid f g k (j + 1) i := by
  unfold xmid
  by_cases e : i = j
  · subst e; rw [if_pos rfl, if_pos (by omega)]; rfl
  · rw [if_neg e]
    by_cases h : i < j
    · rw [if_pos h, if_pos (by omega)]
    · rw [if_neg h, if_neg (by omega)]
def xtk (f g : Nat → Nat → Nat) (k i j : Nat) : Nat := if i < k then xrow f g i j else 0
theorem xtk_bm {f g : Nat → Nat → Nat} (hf : Mt.Bm f) (hg : Mt.Bm g) (k : Nat) : Mt.Bm (xtk f g k) := fun i j => by
  unfold xtk; split
  · exact xrow_bm hf hg i j
  · omega
def SumSays (w : World) (n wi : Nat) (F : Nat → Nat → Nat) (e : Ending) (w' : World) : Prop := ∃ sa sc b c, e = .returned (.slice sa n sc) ∧ Go_ w' w.heap.size sa n sc b (fun _ => wi) c F ∧ Below w.heap.size w w'

set_option maxHeartbeats 4000000 in
set_option maxRecDepth 100000 in
theorem sum_any (a a' : Option Addr) (n cap cap' wi : Nat) (r r' : Nat → Option Addr) (l c l' c' : Nat → Nat) (f g : Nat → Nat → Nat) (hn : n ≤ 1000000) (hw : wi ≤ 1000000) (hl : ∀ i, i < n → l i = wi) (hl' : ∀ i, i < n → l' i = wi) (w : World) (hR : Rd w a n cap r l c f) (hR' : Rd w a' n cap' r' l' c' g) :
    Calls Try.prog 25 #[.slice a n cap, .slice a' n cap'] w (SumSays w n wi (xrow f g)) := by
  obtain ⟨i2, hi2, hz02, hz12, hz22⟩ := info_parts Try.infoRow
  have HI2 := Lib.hid hi2; have HZ02 := Lib.hid hz02; have HZ12 := Lib.hid hz12; have HZ22 := Lib.hid hz22
  have HR := Lib.hid hR; have HR' := Lib.hid hR'; have HL := Lib.hid hl; have HL' := Lib.hid hl'
  clear hi2 hz02 hz12 hz22 hR hR' hl hl'
  go_enter Try.func25, Try.ntmps25
  go_wp2_with fail
  go_loopw [5, 6] (fun vs vi wr => ∃ (k : Nat) (sa : Option Addr) (sc : Nat) (b c : Nat → Nat), k ≤ n ∧ vi = .int .i64 k ∧ vs = .slice sa k sc ∧ Pr wr w.heap.size sa k sc b (fun _ => wi) c (xtk f g k) ∧ Below w.heap.size w wr) (fun _ i _ => n - (intOf i).toNat)
  case atStart => exact ⟨0, none, 0, _, _, by omega, rfl, rfl, (pr_none w w.heap.size (fun _ => 0) (fun _ => wi) (fun _ => 0)).congr (fun _ _ => rfl) (fun _ _ => rfl) (xtk_bm HR.out.bm HR'.out.bm 0) (fun i j h => by omega), Below.refl _ _⟩
  case round =>
    rename_i wr
    obtain ⟨k, sa, sc, b, cc, hk, rfl, rfl, hQ, hB⟩ := hrel
    have HQ := Lib.hid hQ; have HB := Lib.hid hB
    have hsz := hB.size
    obtain ⟨wo, rfl⟩ : ∃ wo : World, wo = wr := ⟨_, rfl⟩
    clear hQ hB
    by_cases hkn : k < n
    · have j1 : (k : Int) < (n : Int) := by omega
      have hRk := HR.out.same HB.out
      have hRk' := HR'.out.same HB.out
      obtain ⟨ab, ao, ea, hca⟩ := hRk.at_ hkn
      have EA := Lib.hid (show a = some ⟨ab, ao, none⟩ from ea)
      have h1 := hRk.row k hkn
      have h2 := hRk'.row k hkn
      rw [HL.out k hkn] at hca h1
      rw [HL'.out k hkn] at h2
      have H1 := Lib.hid h1; have H2 := Lib.hid h2; have HRK := Lib.hid hRk; have HRK' := Lib.hid hRk'
      subst ea
      have hmk := hmk8 wi (by omega)
      have hal : Below wo.heap.size wo (wo.alloc (.cells (madeCells #[.int .u8 0] wi) 5)) := (Below.refl _ wo).alloc (Nat.le_refl _) _
      have HAL := Lib.hid hal; have HBL := Lib.hid ((bl_made wo wi).congr (h' := xmid f g k 0) fun i _ => by unfold xmid; rw [if_neg (by omega)])
      clear h1 h2 hRk hRk' hal
      go_wp2_with fail
      clear hmk hca
      go_loopw [8] (fun vj wr => ∃ (j : Nat) (W : World), W = wr ∧ j ≤ wi ∧ vj = .int .i64 j ∧ Bl wr wo.heap.size wi wi (xmid f g k j) ∧ Below wo.heap.size wo wr) (fun i _ => wi - (intOf i).toNat)
      case atStart => exact ⟨0, _, rfl, by omega, rfl, HBL.out, HAL.out⟩
      case round =>
        clear HBL HAL
        obtain ⟨j, wx, rfl, hj, rfl, hBl, hBe⟩ := hrel
        have HBL := Lib.hid hBl; have HBE := Lib.hid hBe
        clear hBl hBe
        by_cases hjw : j < wi
        · have j2 : (j : Int) < (wi : Int) := by omega
          have hA := HRK.out.same HBE.out
          have hA' := HRK'.out.same HBE.out
          obtain ⟨ab1, ao1, ea1, ca⟩ := hA.at_ hkn
          obtain ⟨ab2, ao2, ea2, ca'⟩ := hA'.at_ hkn
          rw [HL.out k hkn] at ca
          rw [HL'.out k hkn] at ca'
          cases ea1
          have EA2 := Lib.hid (show a' = some ⟨ab2, ao2, none⟩ from ea2)
          obtain ⟨b3, o3, e3, c3⟩ := (H1.out.same HBE.out).at_ hjw
          obtain ⟨b4, o4, e4, c4⟩ := (H2.out.same HBE.out).at_ hjw
          have d1 := HR.out.bm k j
          have d2 := HR'.out.bm k j
          have c5 := HBL.out.cell hjw
          have f5 := HBL.out.free j
          have hx : bits .xor .u8 ((f k j : Nat) : Int) ((g k j : Nat) : Int) = ((f k j ^^^ g k j : Nat) : Int) := u8_xor_nat _ _ d1 d2
          rw [e3] at ca
          rw [e4] at ca'
          subst ea2
          generalize hxv : f k j ^^^ g k j = xv at *
          have HXV := Lib.hid hxv
          clear hA hA' hxv e3 e4
          go_wp2_with fail
          go_region
          all_goals
            go_wp2
            go_roundw
            case rel => exact ⟨j + 1, _, rfl, by omega, by go_num, ((HBL.out.set hjw xv).congr fun i _ => by rw [← HXV.out]; exact xmid_s f g k j i).drewN 1, (HBE.out.setCell (p := ⟨wo.heap.size, j, none⟩) (Nat.le_refl _) _).drew⟩
            case measure => simp [intOf]; omega
        · obtain rfl : j = wi := by omega
          have hal8 : Below wx.heap.size wx (wx.alloc (.cells #[.slice (some ⟨wo.heap.size, 0, none⟩) j j] 35)) := (Below.refl _ wx).alloc (Nat.le_refl _) _
          have HAL8 := Lib.hid hal8
          have hs3 := HBE.out.size
          have hbb : w.heap.size ≤ (wx.alloc (.cells #[.slice (some ⟨wo.heap.size, 0, none⟩) j j] 35)).heap.size := by rw [World.size_alloc]; omega
          have HOW := Lib.hid (own_below HQ.out.own (HBE.out.trans (hal8.mono hs3)))
          have HBX := Lib.hid ((HBL.out.below hal8 HBL.out.lt).congr (h' := xrow f g k) (fun i hi => by unfold xmid; rw [if_pos hi]))
          clear hal8
          go_wp2_with (at_builtin; refine wpList_append_bag _ rfl _ _ 22 rfl w.heap.size 35 i2 (.slice none 0 0) 24 Try.underlying22 HI2.out HZ02.out HZ12.out HZ22.out rfl sa k sc _ rfl HOW.out _ 1 1 [.slice (some ⟨wo.heap.size, 0, none⟩) j j] rfl rfl (cell_new1 _ _ _) (by intro u hu; rcases List.mem_singleton.1 hu with rfl; rfl) (by decide) (by unfold maxLen; omega) (by omega) hbb ?_; intro g6 c6 w6 hown6 hc6 hlt6; have HOWN6 := Lib.hid hown6; have HC6 := Lib.hid hc6; clear hown6 hc6 hlt6)
          have hst := Pr.step HQ.out (HBE.out.trans (HAL8.out.mono hs3)) HBX.out (Nat.le_refl _) hsz ⟨Nat.le_refl _, by unfold maxLen; omega⟩ (xrow_bm HR.out.bm HR'.out.bm k) (fun i hi => by show f k i ^^^ g k i = 0; rw [H1.out.up i hi, H2.out.up i hi]; rfl) HOWN6.out HC6.out
          have hst2 := hst.congr (l' := fun _ => j) (c' := fun i => if i = k then j else cc i) (f' := xtk f g (k + 1)) (fun i hi => by show (if i = k then j else j) = j; split <;> rfl) (fun i hi => rfl) (xtk_bm HR.out.bm HR'.out.bm (k + 1)) (fun i t hi => by
            show (if i = k then xrow f g k t else xtk f g k i t) = xtk f g (k + 1) i t
            unfold xtk
            by_cases e : i = k
            · subst e; rw [if_pos rfl, if_pos (by omega)]
            · rw [if_neg e, if_pos (by omega), if_pos (by omega)])
          have hb6 := below_apn (B := w.heap.size) (w0 := w) (HB.out.trans ((HBE.out.trans (HAL8.out.mono hs3)).mono hsz)) hbb HC6.out (fun g e => (HQ.out.own.lt g (by rw [e]; rfl)).1)
          have HST := Lib.hid hst2; have HB6 := Lib.hid hb6
          clear hst hst2 hb6 HOWN6 HC6
          go_wp2
          go_roundw
          case rel => exact ⟨k + 1, _, c6, _, _, by omega, by go_num, rfl, HST.out, HB6.out⟩
          case measure => simp [intOf]; omega
    · obtain rfl : k = n := by omega
      go_wp2
      go_ret
      exact ⟨sa, sc, b, cc, rfl, (HQ.out.congr (l' := fun _ => wi) (c' := cc) (f' := xrow f g) (fun _ _ => rfl) (fun _ _ => rfl) (xrow_bm HR.out.bm HR'.out.bm) (fun i j hi => by unfold xtk; rw [if_pos hi])).go, HB.out⟩
end Go.Proofs.Ytlkfconkhlkinaa

namespace Go.Proofs.Ytlkfconkhlkinaa
open Go.RowKit Go.Shelf

/-- of rows, held at unlike indexes, the source has just them. -/
theorem enc_dec {h : Nat → Int} {f : Nat → Nat → Nat} {m N K : Nat} (hf : Mt.Bm f) (hr : InR h m N) (hd : DsI h m) (hN : N ≤ 255) (hK : K ≤ m) (hKN : K ≤ N) {i : Nat} (hi : i < K) : enc K (dcd h K f) (h i).toNat = f i := by
  have hp := pts_dst hr hd hN hK
  have e1 : Pf.mv Pf.idn K (dcd h K f) (Pf.idn (h i).toNat) = Pf.mv Pf.idn K (fun p => Pf.mv (pts h) K f (Pf.idn p)) (Pf.idn (h i).toNat) := Pf.mv_congr (fun p j hp => by
    unfold dcd
    rw [if_pos hp, Pf.idn_at (by omega)]) _
  have e2 := Pf.mv_mv (R := pts h) (Q := Pf.idn) (K := K) (pts_by h) Pf.idn_by hp (Pf.idn_dst (by omega)) hf (Pf.idn_by (h i).toNat)
  have e3 : Pf.idn (h i).toNat = pts h i := rfl
  exact e1.trans (e2.trans (by rw [e3]; exact Pf.mv_at (pts_by h) hp hf hi))
theorem enc_xor {f g : Nat → Nat → Nat} (K i j : Nat) : enc K (xrow f g) i j = enc K f i j ^^^ enc K g i j := Pf.mv_xor _ j

set_option maxHeartbeats 8000000 in
set_option maxRecDepth 100000 in
theorem codeAlso_any (a a3 : Option Addr) (m cap n3 cap3 : Nat) (x y : Int) (h : Nat → Int) (r : Nat → Option Addr) (l c : Nat → Nat) (f : Nat → Nat → Nat) (r3 : Nat → Option Addr) (l3 c3 : Nat → Nat) (f3 : Nat → Nat → Nat) (hm : m ≤ 5864062014805) (hl : ∀ i, i < m → l i ≤ 140737488355328) (hn3 : n3 ≤ 140737488355328) (hl3 : ∀ i, i < n3 → l3 i ≤ 140737488355328) (w : World) (hH : Hs w a m h r l c f) (hR : Rd w a3 n3 cap3 r3 l3 c3 f3) :
    Calls Try.prog 5 #[.int .i64 x, .int .i64 y, .slice a m cap, .slice a3 n3 cap3] w fun e w' => e = .returned (.bool true) ∧ Below w.heap.size w w' := by
  have HH := Lib.hid hH; have HR := Lib.hid hR; have HL := Lib.hid hl; have HL3 := Lib.hid hl3; clear hH hR hl hl3
  go_enter Try.func5, Try.ntmps5
  go_wp2_with fail
  refine (awake5_any _).mono ?_
  rintro e w1 ⟨rfl, hB1⟩
  have HB1 := Lib.hid hB1; clear hB1
  by_cases c1 : 16 < x
  · go_wp2
    go_ret
    exact ⟨rfl, HB1.out⟩
  go_wp2_with fail
  refine (bytesOf_any a m cap h r l c f hm _ (HH.out.same HB1.out)).mono ?_
  rintro e w2 ⟨sa, sc, rfl, hO, hB2⟩
  have HB2 := Lib.hid (HB1.out.trans (hB2.mono HB1.out.size))
  have HRD := Lib.hid (rls_rd hO HH.out.bm (fun i hi => (HH.out.same HB2.out).row i hi))
  clear hO hB2
  go_wp2_with fail
  refine (size5_any sa m sc r l c f (by omega) HL.out _ HRD.out).mono ?_
  rintro e w' ⟨⟨s, rfl, hs, hsz⟩, hw'⟩
  rw [hw']; clear hw'
  have HSZ := Lib.hid hsz; clear hsz
  by_cases c2 : 160 < s
  · have i1 : (160 : Int) < (s : Int) := by omega
    go_wp2
    go_ret
    exact ⟨rfl, HB2.out⟩
  have i1 : ¬ (160 : Int) < (s : Int) := by omega
  obtain ⟨hm9, hl9⟩ := HSZ.out (by omega)
  have HL9 := Lib.hid hl9
  clear hl9
  go_wp2_with fail
  refine (size5_any a3 n3 cap3 r3 l3 c3 f3 hn3 HL3.out _ (HR.out.same HB2.out)).mono ?_
  rintro e w' ⟨⟨s3, rfl, hs3, hsz⟩, hw'⟩
  rw [hw']; clear hw'
  have HSZ3 := Lib.hid hsz; clear hsz
  by_cases c3' : 160 < s3
  · have i3 : (160 : Int) < (s3 : Int) := by omega
    go_wp2
    go_ret
    exact ⟨rfl, HB2.out⟩
  have i3 : ¬ (160 : Int) < (s3 : Int) := by omega
  obtain ⟨hn9, hl9⟩ := HSZ3.out (by omega)
  have HL39 := Lib.hid hl9
  clear hl9 hs hs3 c2 c3' HSZ HSZ3 HL HL3 HRD hm hn3
  by_cases hg : y < 1 ∨ x < y ∨ 255 < x
  · have HQ := Lib.hid (cnew_no x y hg w2)
    clear hg
    go_wp2_with fail
    refine HQ.out.mono ?_
    rintro e w3 ⟨rfl, hB3⟩
    have HB3 := Lib.hid (HB2.out.trans (hB3.mono HB2.out.size)); clear hB3
    go_wp2
    go_ret
    exact ⟨rfl, HB3.out⟩
  obtain ⟨N, rfl⟩ : ∃ N : Nat, x = (N : Nat) := ⟨x.toNat, by omega⟩
  obtain ⟨K, rfl⟩ : ∃ K : Nat, y = (K : Nat) := ⟨y.toNat, by omega⟩
  have hK1 : 1 ≤ K := by omega
  have hKN : K ≤ N := by omega
  have hN : N ≤ 16 := by omega
  clear hg
  go_wp2_with fail
  clear i1 i3 c1
  refine (cnew_yes N K hK1 hKN (by omega) _).mono ?_
  rintro e w3 ⟨cb, fb, G0, b0, rfl, hC, hB3⟩
  have HC3 := Lib.hid hC; have HB3 := Lib.hid (HB2.out.trans (hB3.mono HB2.out.size)); clear hC hB3 HB2 HB1
  go_wp2_with fail
  refine (cdecode_any cb fb G0 N K b0 a m cap h r l c f (by omega) (fun i hi => by have := HL9.out i hi; omega) _ HC3.out (HH.out.same HB3.out)).mono ?_
  rintro e w4 (⟨E, hE, _, rfl, hB4⟩ | ⟨hD, GD, bD, rfl, hGD, hB4⟩)
  · have g1 : (E != 0) = true := by simp [hE]
    have HB4 := Lib.hid (HB3.out.trans (hB4.mono HB3.out.size)); clear hB4 hE
    go_wp2
    go_ret
    exact ⟨rfl, HB4.out⟩
  obtain ⟨hev, hin, hds, hKm⟩ := dchk_ok hD
  obtain ⟨wi, hwi⟩ : ∃ wi, l 0 = wi := ⟨_, rfl⟩
  have hev2 : ∀ i, i < m → l i = wi := fun i hi => (hev i hi).trans hwi
  have hwi9 : wi ≤ 160 := by rw [← hwi]; exact HL9.out 0 (by omega)
  rw [hwi] at hGD
  have HEV := Lib.hid hev2; have HIN := Lib.hid hin
  have HED := Lib.hid (fun i (hi : i < K) => enc_dec HH.out.bm hin hds (show N ≤ 255 by omega) hKm hKN hi)
  have HB4 := Lib.hid (HB3.out.trans (hB4.mono HB3.out.size)); have HC4 := Lib.hid (HC3.out.same hB4); have HG4 := Lib.hid hGD
  obtain ⟨F, hF⟩ : ∃ F, dcd h K f = F := ⟨_, rfl⟩
  have HFB := Lib.hid (show Mt.Bm F from hF ▸ dcd_bm h (by omega) HH.out.bm)
  rw [hF] at HED HG4
  clear hD hev hev2 hin hds hwi hGD hB4 hF HB3 HC3
  go_wp2_with fail
  refine (cencode_any cb fb G0 N K b0 _ K K _ (fun _ => wi) _ F (by omega) (fun _ _ => by omega) _ HC4.out HG4.out.rd).mono ?_
  rintro e w5 (⟨hu, _⟩ | ⟨_, GL, bL, rfl, hGL, hB5⟩)
  · exact absurd ⟨rfl, fun _ _ => rfl⟩ hu
  have HB5 := Lib.hid (HB4.out.trans (hB5.mono HB4.out.size)); have HC5 := Lib.hid (HC4.out.same hB5); have HG5 := Lib.hid (HG4.out.same hB5); have HL5 := Lib.hid hGL
  have HH5 := Lib.hid (HH.out.same HB5.out)
  clear hGL hB5 HB4 HC4 HG4
  go_wp2_with fail
  go_loopw [15] (fun i wr => ∃ (k : Nat) (W : World), W = wr ∧ k ≤ K ∧ i = .int .i64 k ∧ Below w5.heap.size w5 wr) (fun i _ => K - (intOf i).toNat)
  case atStart => exact ⟨0, _, rfl, by omega, rfl, Below.refl _ _⟩
  case round =>
    obtain ⟨k, wx, rfl, hk, rfl, hB⟩ := hrel
    have HB := Lib.hid hB
    have hszx := hB.size
    clear hB
    by_cases hkK : k < K
    · have i2 : (k : Int) < (K : Int) := by omega
      have i3 : (k : Int) < (m : Int) := by omega
      have hHx := HH5.out.same HB.out
      obtain ⟨ab, ao, ea, ca, ca'⟩ := hHx.cell k (by omega)
      have hin := HIN.out k (by omega)
      obtain ⟨z, hz⟩ : ∃ z : Nat, h k = (z : Nat) := ⟨(h k).toNat, by omega⟩
      have hzN : z < N := by omega
      have hzi : (z : Int) < (N : Int) := by omega
      have hed := HED.out k hkK
      rw [hz] at ca hed
      rw [Int.toNat_natCast] at hed
      have HZ := Lib.hid hz; have HEK := Lib.hid hed
      have EA := Lib.hid (show a = some ⟨ab, ao, none⟩ from ea)
      have HHX := Lib.hid hHx
      subst ea
      clear hHx hin hz hed
      go_wp2_with fail
      refine (csymbol_any cb fb G0 N K b0 _ K K (z : Nat) _ (fun _ => wi) _ F (by omega) (fun _ _ => by omega) _ (HC5.out.same HB.out) (HG5.out.same HB.out).rd).mono ?_
      rintro e w6 (⟨hu, _⟩ | ⟨_, _, _, g, rfl, hg, hbl, hB6⟩)
      · exact absurd ⟨⟨rfl, fun _ _ => rfl⟩, by omega, hzi⟩ hu
      rw [Int.toNat_natCast, HEK.out] at hbl
      have hbl : Bl w6 g wi wi (f k) := hbl
      have HB6 := Lib.hid (HB.out.trans (hB6.mono hszx))
      have hH6 := HHX.out.same hB6
      have HS6 := Lib.hid (hbl.sl (Nat.le_refl _) (by unfold maxLen; omega) (HH.out.bm k) (fun j hj => (HH.out.row k (by omega)).up j (by rw [HEV.out k (by omega)]; exact hj)))
      have hrow := hH6.row k (by omega)
      rw [HEV.out k (by omega)] at hrow
      have HROW := Lib.hid hrow
      obtain ⟨ab', ao', ea', cb1, cb2⟩ := hH6.cell k (by omega)
      cases ea'
      rw [HEV.out k (by omega)] at cb2
      rw [HZ.out] at cb1
      have HL6 := Lib.hid ((HL5.out.same HB6.out))
      have cl1 := HL6.out.cell hzN
      have hlrow := (HL6.out.row z hzN).sl (Nat.le_refl _) (by unfold maxLen; omega) (HL6.out.bm z) (HL6.out.up z hzN)
      rw [HEK.out] at hlrow
      have HLR := Lib.hid hlrow
      clear hB6 hH6 hrow hlrow hbl ca ca'
      go_wp2_with fail
      refine (same_any _ _ wi _ _ (f k) (by omega) _ HS6.out HROW.out).mono ?_
      rintro e w7 ⟨rfl, q, hq⟩
      have hBq := quiet_below hq
      have HB7 := Lib.hid (HB6.out.trans (hBq.mono HB6.out.size)); have HS7 := Lib.hid (HS6.out.same hBq); have HLR7 := Lib.hid (HLR.out.same hBq)
      have cb1' := (hBq.cell (World.block_lt_of_cell? _ _ cb1)).trans cb1
      have cl1' := (hBq.cell (World.block_lt_of_cell? _ _ cl1)).trans cl1
      clear hq hBq cb1 cb2 cl1
      go_wp2_with fail
      refine (same_any _ _ wi _ _ (f k) (by omega) _ HLR7.out HS7.out).mono ?_
      rintro e w8 ⟨rfl, q2, hq⟩
      have hBq := quiet_below hq
      have HB8 := Lib.hid (HB7.out.trans (hBq.mono HB7.out.size))
      clear hq hBq cb1' cl1'
      go_wp2
      go_roundw
      case rel => exact ⟨k + 1, _, rfl, by omega, by go_num, HB8.out⟩
      case measure => simp [intOf]; omega
    · obtain rfl : K = k := by omega
      have HBX := Lib.hid (HB5.out.trans (HB.out.mono HB5.out.size))
      have HCx := Lib.hid (HC5.out.same HB.out); have HGx := Lib.hid (HG5.out.same HB.out); have HLx := Lib.hid (HL5.out.same HB.out)
      have hsx := HBX.out.size
      clear HB
      go_wp2_with fail
      refine (cencode_any cb fb G0 N K b0 a3 n3 cap3 r3 l3 c3 f3 (by omega) (fun i hi => by have := HL39.out i hi; omega) _ HCx.out (HR.out.same HBX.out)).mono ?_
      rintro e w6 (⟨_, rfl, hB6⟩ | ⟨his, GM, bM, rfl, hGM, hB6⟩)
      · have HB6 := Lib.hid (HBX.out.trans (hB6.mono hsx)); clear hB6
        go_wp2_with fail
        go_quiet (fail)
        go_wp2
        go_ret
        exact ⟨rfl, below_dr HB6.out _⟩
      obtain ⟨hn3K, hev3⟩ := his
      obtain ⟨w3', hw3⟩ : ∃ w3', l3 0 = w3' := ⟨_, rfl⟩
      have hev3' : ∀ i, i < n3 → l3 i = w3' := fun i hi => (hev3 i hi).trans hw3
      have hw39 : w3' ≤ 160 := by rw [← hw3]; exact HL39.out 0 (by omega)
      rw [hw3] at hGM
      have HEV3 := Lib.hid hev3'
      have HB6 := Lib.hid (HBX.out.trans (hB6.mono hsx)); have HC6 := Lib.hid (HCx.out.same hB6); have HG6 := Lib.hid (HGx.out.same hB6); have HL6 := Lib.hid (HLx.out.same hB6); have HM6 := Lib.hid hGM
      have HR6 := Lib.hid (HR.out.same HB6.out)
      obtain ⟨ab, ao, ea, ca⟩ := HR6.out.at_ (k := 0) (by omega)
      rw [hw3, Nat.add_zero] at ca
      have cd := HG6.out.cell (i := 0) (by omega)
      have EA := Lib.hid (show a3 = some ⟨ab, ao, none⟩ from ea)
      have i4 : (0 : Int) < (n3 : Int) := by omega
      have i5 : (0 : Int) < (K : Int) := by omega
      subst ea hn3K
      clear hev3 hev3' hw3 hGM hB6 HCx HGx HLx
      by_cases hww : w3' = wi
      · have g9 : (((w3' : Nat) : Int) != (wi : Int)) = false := ne_no hww
        subst hww
        go_wp2_with fail
        go_quiet (fail)
        clear ca cd g9
        obtain ⟨wx2, hwx2⟩ : ∃ wx2, wx2 = w6.drewN nq := ⟨_, rfl⟩
        have hBq := quiet_below hwx2
        rw [← hwx2]
        have HBq := Lib.hid (HB6.out.trans (hBq.mono HB6.out.size))
        have HC7 := Lib.hid (HC6.out.same hBq); have HG7 := Lib.hid (HG6.out.same hBq); have HL7 := Lib.hid (HL6.out.same hBq); have HM7 := Lib.hid (HM6.out.same hBq); have HR7 := Lib.hid (HR6.out.same hBq)
        clear hwx2 hBq
        go_wp2_with fail
        refine (sum_any _ _ n3 n3 cap3 w3' _ _ (fun _ => w3') _ _ _ F f3 (by omega) (by omega) (fun _ _ => rfl) HEV3.out _ HG7.out.rd HR7.out).mono ?_
        rintro e w8 ⟨sa8, sc8, b8, c8, rfl, hG8, hB8⟩
        have HB8 := Lib.hid (HBq.out.trans (hB8.mono HBq.out.size)); have HG8 := Lib.hid hG8; have HC8 := Lib.hid (HC7.out.same hB8); have HL8 := Lib.hid (HL7.out.same hB8); have HM8 := Lib.hid (HM7.out.same hB8)
        clear hG8 hB8
        go_wp2_with fail
        refine (cencode_any cb fb G0 N n3 b0 sa8 n3 sc8 _ (fun _ => w3') _ (xrow F f3) (by omega) (fun _ _ => by omega) _ HC8.out HG8.out.rd).mono ?_
        rintro e w9 (⟨hu, _⟩ | ⟨_, GP, bP, rfl, hGP, hB9⟩)
        · exact absurd ⟨rfl, fun _ _ => rfl⟩ hu
        have HB9 := Lib.hid (HB8.out.trans (hB9.mono HB8.out.size)); have HP9 := Lib.hid hGP; have HL9 := Lib.hid (HL8.out.same hB9); have HM9 := Lib.hid (HM8.out.same hB9)
        clear hGP hB9
        go_wp2_with fail
        refine (sum_any _ _ N N N w3' _ _ (fun _ => w3') _ (fun _ => w3') _ (enc n3 F) (enc n3 f3) (by omega) (by omega) (fun _ _ => rfl) (fun _ _ => rfl) _ HL9.out.rd HM9.out.rd).mono ?_
        rintro e w10 ⟨sa10, sc10, b10, c10, rfl, hG10, hB10⟩
        have HB10 := Lib.hid (HB9.out.trans (hB10.mono HB9.out.size)); have HG10 := Lib.hid hG10; have HP10 := Lib.hid (HP9.out.same hB10)
        clear hG10 hB10
        go_wp2_with fail
        refine (sameRows_any _ _ N N sc10 _ _ (fun _ => w3') _ _ _ _ _ (by omega) (fun _ _ => by omega) _ HP10.out.rd HG10.out.rd (fun i _ => ⟨rfl, funext fun j => (enc_xor n3 i j).symm⟩)).mono ?_
        rintro e w11 ⟨rfl, q, rfl⟩
        go_wp2
        go_ret
        exact ⟨rfl, below_dr HB10.out _⟩
      · have g9 : (((w3' : Nat) : Int) != (wi : Int)) = true := ne_yes hww
        clear hww
        go_wp2_with fail
        go_quiet (fail)
        go_wp2
        go_ret
        exact ⟨rfl, below_dr HB6.out _⟩
end Go.Proofs.Ytlkfconkhlkinaa
