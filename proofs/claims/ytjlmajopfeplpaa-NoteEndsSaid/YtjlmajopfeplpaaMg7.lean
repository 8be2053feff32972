import Derived.Laws.CopyOwn
import Derived.WalkKit
import Derived.WalkSpells
import Derived.WalkLawsBesides
import Derived.Lib.Hide
import Derived.OpenShut
import Derived.Test.YtjlmajopfeplpaaMg6
namespace Go.Proofs.Ytjlmajopfeplpaa
open Go.RowKit Go.Shelf

/-- a row over which so many bytes were copied, from the place off on. -/
def cpy (off m : Nat) (S F : Nat → Nat) (i : Nat) : Nat := if off ≤ i ∧ i < off + m then S (i - off) else F i
theorem cpy_zero (off : Nat) (S F : Nat → Nat) : cpy off 0 S F = F := funext fun i => if_neg (by omega)
theorem cpy_by {off m : Nat} {S F : Nat → Nat} (hS : Pf.By S) (hF : Pf.By F) : Pf.By (cpy off m S F) := fun i => by
  unfold cpy; split
  · exact hS _
  · exact hF i
theorem cpy_up {off m n : Nat} {S F : Nat → Nat} (h : off + m ≤ n) (hF : Pf.Up F n) : Pf.Up (cpy off m S F) n := fun i hi => by
  unfold cpy; rw [if_neg (by omega)]; exact hF i hi
section
variable {P : Program}
theorem run_copy_bl (w : World) (dT sT ty elem : TypeId) (hu : P.underlying dT = some (.slice elem)) (hsz : (P.info? elem).map (·.size) = some 1)
    (dp sp : Option Addr) (dLen dCap sLen sCap m : Nat) (hm : m = Nat.min sLen dLen) (g off n cap : Nat) (F S : Nat → Nat) (hb : Bl w g n cap F) (hS : 0 < m → Sl w sp sLen sCap S) (hpos : 0 < m → dp = some ⟨g, off, none⟩) (hfit : off + m ≤ n) (hnc : n ≤ cap) :
    ∃ w', (Builtin.copy_ #[dT, sT] ty #[.slice dp dLen dCap, .slice sp sLen sCap]).run P w = .ok (goInt m) w' ∧ Bl w' g n cap (cpy off m S F) ∧ w.grownBy w' (some g) := by
  by_cases h0 : m = 0
  · subst h0
    exact ⟨w, run_copy_none (P := P) w dT sT ty elem dp sp dLen dCap sLen sCap hu hsz hm.symm, by rw [cpy_zero]; exact hb, ⟨rfl, rfl, rfl, Nat.le_refl _, fun _ _ _ => rfl⟩⟩
  · obtain ⟨vs, h1, h2, h3⟩ := hb
    obtain rfl := hpos (by omega)
    have hml : m ≤ sLen := by rw [hm]; exact Nat.min_le_left _ _
    have hS := hS (by omega)
    obtain ⟨sb, so, rfl, _⟩ := hS.at_ (k := 0) (by omega)
    have hsrc : ∀ j v, ((List.range m).map fun i => Value.int .u8 (S i : Nat))[j]? = some v → w.cell? ((⟨sb, so, none⟩ : Addr).add j) = some v := fun j v hj => by
      have hjm : j < m := by
        have := (List.getElem?_eq_some_iff.1 hj).1
        rwa [List.length_map, List.length_range] at this
      rw [get_map S hjm] at hj
      rw [Addr.add_lit, ← hj]
      exact hS.cell _ rfl j (by omega)
    have hrun := run_copy_row (P := P) w dT sT ty elem g off dLen dCap ⟨sb, so, none⟩ sLen sCap vs _ _ hu hsz h1 (by rw [List.length_map, List.length_range]; exact hm) hsrc (by rw [List.length_map, List.length_range]; omega) (ones_map m S)
    rw [show ((List.range m).map fun i => Value.int .u8 (S i : Nat)).length = m by simp] at hrun
    refine ⟨_, hrun, ⟨_, setRow_heap w g _ _ _ _ h1, ?_, fun i hi => ?_⟩, ⟨rfl, rfl, rfl, by simp [World.setRow], fun k _ hne => setRow_other w g k _ (fun e => hne (by rw [e]))⟩⟩
    · simp
      omega
    · rw [List.getElem?_toArray]
      simp only [List.append_assoc]
      unfold cpy
      by_cases c : i < off
      · rw [if_neg (by omega), List.getElem?_append_left (by simp; omega), List.getElem?_take, if_pos c, Array.getElem?_toList]
        exact h3 i hi
      · rw [List.getElem?_append_right (by simp; omega)]
        have e1 : (List.take off vs.toList).length = off := by simp; omega
        rw [e1]
        by_cases c2 : i < off + m
        · rw [if_pos (by omega), List.getElem?_append_left (by simp; omega)]
          exact get_map S (by omega)
        · rw [if_neg (by omega), List.getElem?_append_right (by simp; omega)]
          rw [List.length_map, List.length_range, List.getElem?_drop, Array.getElem?_toList, show off + m + (i - off - m) = i by omega]
          exact h3 i hi
theorem wpList_copy_bl {w : World} {ops : Array Oper} {rest : List Oper} {o : Oper} {a : Act} {Q : Exit → Act → World → Prop} (hgd : o.guard = none) (d s : Operand) (dT sT : TypeId)
    (ho : o.op = .call { callee := .builtin .copy, args := #[d, s], argTypes := #[dT, sT] }) (elem : TypeId) (hu : P.underlying dT = some (.slice elem)) (hsz : (P.info? elem).map (·.size) = some 1)
    (dp sp : Option Addr) (dLen dCap sLen sCap m : Nat) (hd : a.eval d = .slice dp dLen dCap) (hs : a.eval s = .slice sp sLen sCap) (hm : m = Nat.min sLen dLen) (g off n cap : Nat) (F S : Nat → Nat) (hb : Bl w g n cap F) (hS : 0 < m → Sl w sp sLen sCap S) (hpos : 0 < m → dp = some ⟨g, off, none⟩) (hfit : off + m ≤ n) (hnc : n ≤ cap)
    (h : ∀ w', Hid (Bl w' g n cap (cpy off m S F)) → Hid (w.grownBy w' (some g)) → wpList P ops Q rest (a.put o.dst (goInt m)) w') : wpList P ops Q (o :: rest) a w := by
  refine wpList_plain hgd fun K hK => ?_
  obtain ⟨w', hrun, h1, h2⟩ := run_copy_bl (P := P) w dT sT o.type elem hu hsz dp sp dLen dCap sLen sCap m hm g off n cap F S hb hS hpos hfit hnc
  unfold Oper.wp
  simp [execOp, ho, resolve, invoke, builtin, hd, hs, hrun, Result.andThen]
  exact hK _ _ (h w' h1 h2)
end
theorem Try.sizeU8 : (Try.prog.info? 5).map (·.size) = some 1 := by kernel_rfl
/-- what a slice of a slice reads as. -/
def sub (f : Nat → Nat) (lo m i : Nat) : Nat := if i < m then f (lo + i) else 0
theorem sub_by {f : Nat → Nat} (h : Pf.By f) (lo m : Nat) : Pf.By (sub f lo m) := fun i => by unfold sub; split; exact h _; omega
theorem sub_up (f : Nat → Nat) (lo m : Nat) : Pf.Up (sub f lo m) m := fun i hi => by unfold sub; rw [if_neg (by omega)]
theorem Sl.sub {w : World} {b off l c : Nat} {f : Nat → Nat} (h : Sl w (some ⟨b, off, none⟩) l c f) {lo m : Nat} (hl : lo + m ≤ l) : Sl w (some ⟨b, off + lo, none⟩) m (c - lo) (sub f lo m) :=
  ⟨by have := h.capOk; omega, by have := h.maxOk; omega, sub_by h.bytes lo m, sub_up f lo m, fun e => (by cases e), fun ad e _ => (by cases e; rfl), fun ad e i hi => by
    cases e
    have := h.cell _ rfl (lo + i) (by omega)
    show w.cell? ⟨b, off + lo + i, none⟩ = some (.int .u8 ((if i < m then f (lo + i) else 0 : Nat) : Int))
    rw [if_pos hi, Nat.add_assoc]; exact this⟩
theorem Sl.none_ (w : World) (a : Option Addr) (c : Nat) (hc : c ≤ maxLen) (h0 : a = none → c = 0) : Sl w a 0 c (fun _ => 0) :=
  ⟨Nat.zero_le _, hc, fun _ => (by omega : 0 < 256), fun _ _ => rfl, fun e => ⟨rfl, h0 e⟩, fun _ _ h => absurd rfl h, fun _ _ i hi => absurd hi (Nat.not_lt_zero i)⟩
end Go.Proofs.Ytjlmajopfeplpaa

namespace Go.Proofs.Ytjlmajopfeplpaa
open Go.RowKit Go.Shelf

/-- the bytes of a number, the highest first. -/
def dg (n size i : Nat) : Nat := if i < size then n / 256 ^ (size - 1 - i) % 256 else 0
theorem dg_by (n size : Nat) : Pf.By (dg n size) := fun i => by unfold dg; split <;> omega
theorem dg_up (n size : Nat) : Pf.Up (dg n size) size := fun i hi => by unfold dg; rw [if_neg (by omega)]
/-- the number of so many bytes. -/
def vn (f : Nat → Nat) : Nat → Nat
  | 0 => 0
  | k + 1 => 256 * vn f k + f k
theorem vn_lt {f : Nat → Nat} (h : Pf.By f) : ∀ k, vn f k < 256 ^ k
  | 0 => by simp [vn]
  | k + 1 => by have := vn_lt h k; have := h k; simp only [vn, Nat.pow_succ]; omega
theorem vn_congr {f g : Nat → Nat} : ∀ k, (∀ i, i < k → f i = g i) → vn f k = vn g k
  | 0, _ => rfl
  | k + 1, h => by simp only [vn]; rw [vn_congr k fun i hi => h i (by omega), h k (by omega)]
theorem dg_part {n size : Nat} (h : n < 256 ^ size) : ∀ k, k ≤ size → vn (dg n size) k = n / 256 ^ (size - k)
  | 0, _ => by simp [vn, Nat.div_eq_of_lt h]
  | k + 1, hk => by
    simp only [vn]
    rw [dg_part h k (by omega)]
    have e1 : size - k = (size - (k + 1)) + 1 := by omega
    have e2 : size - 1 - k = size - (k + 1) := by omega
    unfold dg
    rw [if_pos (by omega), e2, e1, Nat.pow_succ, ← Nat.div_div_eq_div_mul]
    omega
theorem vn_dg {n size : Nat} (h : n < 256 ^ size) : vn (dg n size) size = n := by
  rw [dg_part h size (Nat.le_refl _), Nat.sub_self]; simp
theorem dg_inj {m n size : Nat} (hm : m < 256 ^ size) (hn : n < 256 ^ size) (h : ∀ i, i < size → dg m size i = dg n size i) : m = n := by
  rw [← vn_dg hm, ← vn_dg hn]; exact vn_congr size h
theorem dg_vn {f : Nat → Nat} (h : Pf.By f) : ∀ size i, i < size → dg (vn f size) size i = f i
  | 0, i, hi => by omega
  | size + 1, i, hi => by
    have hs := dg_vn h size i
    have hf := h size
    unfold dg at hs ⊢
    rw [if_pos hi]
    by_cases c : i = size
    · subst c
      have e0 : i + 1 - 1 - i = 0 := by omega
      rw [e0, Nat.pow_zero, Nat.div_one]; simp only [vn]; omega
    · have hs := hs (by omega)
      rw [if_pos (by omega)] at hs
      have e1 : size + 1 - 1 - i = 1 + (size - 1 - i) := by omega
      rw [e1, Nat.pow_add, Nat.pow_one, ← Nat.div_div_eq_div_mul]
      simp only [vn]
      rw [show (256 * vn f size + f size) / 256 = vn f size by omega]
      exact hs
theorem dg_succ (n k i : Nat) : dg n (k + 1) i = if i = 0 then n / 256 ^ k % 256 else dg n k (i - 1) := by
  unfold dg
  by_cases c : i = 0
  · subst c; simp
  · rw [if_neg c]
    by_cases d : i < k + 1
    · rw [if_pos d, if_pos (by omega), show k + 1 - 1 - i = k - 1 - (i - 1) by omega]
    · rw [if_neg d, if_neg (by omega)]
theorem pow256 {size : Nat} (h : size ≤ 4) : 256 ^ size ≤ 4294967296 := Nat.le_trans (Nat.pow_le_pow_right (by decide) h) (by decide)
end Go.Proofs.Ytjlmajopfeplpaa

namespace Go.Proofs.Ytjlmajopfeplpaa
open Go.RowKit Go.Shelf

section
variable {P : Program}
/-- copied onto what is known of a block's head. -/
theorem run_copy_on (w : World) (dT sT ty elem : TypeId) (hu : P.underlying dT = some (.slice elem)) (hsz : (P.info? elem).map (·.size) = some 1)
    (dp sp : Option Addr) (dLen dCap sLen sCap m : Nat) (hm : m = Nat.min sLen dLen) (g off cap : Nat) (F S : Nat → Nat) (hb : Bl w g off cap F) (hS : 0 < m → Sl w sp sLen sCap S) (hpos : 0 < m → dp = some ⟨g, off, none⟩) (hfit : off + m ≤ cap) :
    ∃ w', (Builtin.copy_ #[dT, sT] ty #[.slice dp dLen dCap, .slice sp sLen sCap]).run P w = .ok (goInt m) w' ∧ Bl w' g (off + m) cap (cpy off m S F) ∧ w.grownBy w' (some g) := by
  by_cases h0 : m = 0
  · subst h0
    exact ⟨w, run_copy_none (P := P) w dT sT ty elem dp sp dLen dCap sLen sCap hu hsz hm.symm, by rw [cpy_zero]; exact hb, ⟨rfl, rfl, rfl, Nat.le_refl _, fun _ _ _ => rfl⟩⟩
  · obtain ⟨vs, h1, h2, h3⟩ := hb
    obtain rfl := hpos (by omega)
    have hml : m ≤ sLen := by rw [hm]; exact Nat.min_le_left _ _
    have hS := hS (by omega)
    obtain ⟨sb, so, rfl, _⟩ := hS.at_ (k := 0) (by omega)
    have hsrc : ∀ j v, ((List.range m).map fun i => Value.int .u8 (S i : Nat))[j]? = some v → w.cell? ((⟨sb, so, none⟩ : Addr).add j) = some v := fun j v hj => by
      have hjm : j < m := by
        have := (List.getElem?_eq_some_iff.1 hj).1
        rwa [List.length_map, List.length_range] at this
      rw [get_map S hjm] at hj
      rw [Addr.add_lit, ← hj]
      exact hS.cell _ rfl j (by omega)
    have hrun := run_copy_row (P := P) w dT sT ty elem g off dLen dCap ⟨sb, so, none⟩ sLen sCap vs _ _ hu hsz h1 (by rw [List.length_map, List.length_range]; exact hm) hsrc (by rw [List.length_map, List.length_range]; omega) (ones_map m S)
    rw [show ((List.range m).map fun i => Value.int .u8 (S i : Nat)).length = m by simp] at hrun
    refine ⟨_, hrun, ⟨_, setRow_heap w g _ _ _ _ h1, ?_, fun i hi => ?_⟩, ⟨rfl, rfl, rfl, by simp [World.setRow], fun k _ hne => setRow_other w g k _ (fun e => hne (by rw [e]))⟩⟩
    · simp
      omega
    · rw [List.getElem?_toArray]
      simp only [List.append_assoc]
      unfold cpy
      by_cases c : i < off
      · rw [if_neg (by omega), List.getElem?_append_left (by simp; omega), List.getElem?_take, if_pos c, Array.getElem?_toList]
        exact h3 i c
      · rw [List.getElem?_append_right (by simp; omega)]
        have e1 : (List.take off vs.toList).length = off := by simp; omega
        rw [e1, if_pos (by omega), List.getElem?_append_left (by simp; omega)]
        exact get_map S (by omega)
theorem wpList_copy_on {w : World} {ops : Array Oper} {rest : List Oper} {o : Oper} {a : Act} {Q : Exit → Act → World → Prop} (hgd : o.guard = none) (d s : Operand) (dT sT : TypeId)
    (ho : o.op = .call { callee := .builtin .copy, args := #[d, s], argTypes := #[dT, sT] }) (elem : TypeId) (hu : P.underlying dT = some (.slice elem)) (hsz : (P.info? elem).map (·.size) = some 1)
    (dp sp : Option Addr) (dLen dCap sLen sCap m : Nat) (hd : a.eval d = .slice dp dLen dCap) (hs : a.eval s = .slice sp sLen sCap) (hm : m = Nat.min sLen dLen) (g off cap : Nat) (F S : Nat → Nat) (hb : Bl w g off cap F) (hS : 0 < m → Sl w sp sLen sCap S) (hpos : 0 < m → dp = some ⟨g, off, none⟩) (hfit : off + m ≤ cap)
    (h : ∀ w', Hid (Bl w' g (off + m) cap (cpy off m S F)) → Hid (w.grownBy w' (some g)) → wpList P ops Q rest (a.put o.dst (goInt m)) w') : wpList P ops Q (o :: rest) a w := by
  refine wpList_plain hgd fun K hK => ?_
  obtain ⟨w', hrun, h1, h2⟩ := run_copy_on (P := P) w dT sT o.type elem hu hsz dp sp dLen dCap sLen sCap m hm g off cap F S hb hS hpos hfit
  unfold Oper.wp
  simp [execOp, ho, resolve, invoke, builtin, hd, hs, hrun, Result.andThen]
  exact hK _ _ (h w' h1 h2)
end
end Go.Proofs.Ytjlmajopfeplpaa

namespace Go.Proofs.Ytjlmajopfeplpaa
open Go.RowKit Go.Shelf

theorem sized_any (z : Int) (w : World) :
    Calls Try.prog 68 #[.int .i64 z] w fun e w' => e = .returned (.bool (decide (1 ≤ z ∧ z ≤ 4))) ∧ w' = w := by
  by_cases h1 : 1 ≤ z
  · by_cases h2 : z ≤ 4
    · rw [decide_eq_true ⟨h1, h2⟩]
      go_enter Try.func68, Try.ntmps68
      go_wp2
      go_ret
      exact ⟨rfl, rfl⟩
    · rw [decide_eq_false fun h => h2 h.2]
      go_enter Try.func68, Try.ntmps68
      go_wp2
      go_ret
      exact ⟨rfl, rfl⟩
  · rw [decide_eq_false fun h => h1 h.1]
    go_enter Try.func68, Try.ntmps68
    go_wp2
    go_ret
    exact ⟨rfl, rfl⟩

/-- whether n is a number of the size. -/
def Fit (n z : Int) : Prop := 1 ≤ z ∧ z ≤ 4 ∧ 0 ≤ n ∧ n < 256 ^ z.toNat
theorem fit_iff (n : Int) (z : Nat) (h1 : 1 ≤ z) (h4 : z ≤ 4) : Fit n (z : Nat) ↔ n / 2 ^ (8 * z) = 0 := by
  unfold Fit
  match z, h1, h4 with
  | 1, _, _ => simp; omega
  | 2, _, _ => simp; omega
  | 3, _, _ => simp; omega
  | 4, _, _ => simp; omega
instance (n z : Int) : Decidable (Fit n z) := inferInstanceAs (Decidable (_ ∧ _))
set_option maxHeartbeats 1000000 in
theorem fits_any (n z : Int) (w : World) :
    Calls Try.prog 76 #[.int .i64 n, .int .i64 z] w fun e w' => e = .returned (.bool (decide (Fit n z))) ∧ w' = w := by
  by_cases h1 : 1 ≤ z ∧ z ≤ 4
  · obtain ⟨k, rfl⟩ : ∃ k : Nat, z = k := ⟨z.toNat, by omega⟩
    have hk := fit_iff n k (by omega) (by omega)
    obtain ⟨v, hv⟩ : ∃ v, v = decide (Fit n (k : Nat)) := ⟨_, rfl⟩
    rw [← hv]
    have HV := Lib.hid hv; have HK := Lib.hid hk
    clear hv hk
    go_enter Try.func76, Try.ntmps76
    go_wp2_with fail
    refine (sized_any k _).mono ?_
    rintro e w' ⟨rfl, rfl⟩
    rw [decide_eq_true h1]
    go_wp2
    go_ret
    exact ⟨by
      rw [HV.out]
      by_cases c : n / 2 ^ (8 * k) = 0
      · rw [decide_eq_true (HK.out.2 c), c]; rfl
      · rw [decide_eq_false (fun h => c (HK.out.1 h))]
        simp only [Array.getD, List.size_toArray]
        simp [c], rfl⟩
  · have hn : ¬ Fit n z := fun h => h1 ⟨h.1, h.2.1⟩
    rw [decide_eq_false hn]
    go_enter Try.func76, Try.ntmps76
    go_wp2_with fail
    refine (sized_any z _).mono ?_
    rintro e w' ⟨rfl, rfl⟩
    rw [decide_eq_false h1]
    go_wp2
    go_ret
    exact ⟨rfl, rfl⟩

/-- a row of a number, of which the last k bytes stand. -/
def rowN (n z k i : Nat) : Nat := if z - k ≤ i then dg n z i else 0
set_option maxHeartbeats 1000000 in
theorem row_any (n z : Nat) (h1 : 1 ≤ z) (h4 : z ≤ 4) (hn : n < 256 ^ z) (w : World) :
    Calls Try.prog 77 #[.int .i64 (n : Nat), .int .i64 (z : Nat)] w fun e w' =>
      e = .returned (.slice (some ⟨w.heap.size, 0, none⟩) z z) ∧ Bl w' w.heap.size z z (dg n z) ∧ Below w.heap.size w w' := by
  have hp := pow256 h4
  have hn2 : n < 4294967296 := by omega
  have HN := Lib.hid hn; clear hn hp
  have hmk := hmk8 z (by omega)
  go_enter Try.func77, Try.ntmps77
  go_wp2_with fail
  go_loopw [6, 10] (fun _ i wr => ∃ k : Nat, k ≤ z ∧ i = .int .i64 k ∧ Bl wr w.heap.size z z (rowN n z k) ∧ Below w.heap.size w wr) (fun _ i _ => z - (intOf i).toNat)
  case atStart => exact ⟨0, by omega, rfl, (bl_made w z).congr (fun i hi => by unfold rowN; rw [if_neg (by omega)]), (Below.refl _ _).alloc (Nat.le_refl _) _⟩
  case round =>
    rename_i wr
    obtain ⟨k, hk, rfl, hb, hB⟩ := hrel
    have HB := Lib.hid hb; have HBe := Lib.hid hB
    clear hB
    by_cases hlt : k < z
    · have i1 : (k : Int) < (z : Int) := by omega
      have hcell := hb.cell (i := z - 1 - k) (by omega)
      have hfr := hb.free (z - 1 - k)
      obtain ⟨j, hj⟩ : ∃ j, j = z - 1 - k := ⟨_, rfl⟩
      rw [← hj] at hcell hfr
      have hji : (z : Int) - 1 - (k : Int) = (j : Nat) := by omega
      have hjz : j < z := by omega
      have hq : ∃ q : Nat, (n : Int) / 2 ^ (8 * k) = (q : Nat) ∧ q = n / 256 ^ k := ⟨n / 256 ^ k, by rw [show (256 : Nat) = 2 ^ 8 from rfl, ← Nat.pow_mul]; push_cast; rfl, rfl⟩
      obtain ⟨q, hq1, hq2⟩ := hq
      have hw1 : wrap64 ((z : Int) - 1) = (z : Int) - 1 := by unfold wrap64; omega
      have HQ2 := Lib.hid hq2; have HJ := Lib.hid hj
      have hqu : IntKind.u8.wrap (q : Int) = ((q % 256 : Nat) : Int) := by rw [IntKind.wrap_u8]; omega
      clear hb hq2 hj
      go_wp2
      go_roundw
      case rel => exact ⟨k + 1, by omega, by go_num, by
        rw [show ((q : Int) % 256) = ((q % 256 : Nat) : Int) by omega]
        refine (HB.out.set hjz (q % 256)).congr (fun i hi => ?_)
        have hj := HJ.out
        by_cases c : i = j
        · rw [if_pos c]
          unfold rowN dg
          rw [if_pos (by omega), if_pos hi, HQ2.out, show z - 1 - i = k by omega]
        · rw [if_neg c]
          unfold rowN
          by_cases d : z - k ≤ i
          · rw [if_pos d, if_pos (by omega)]
          · rw [if_neg d, if_neg (by omega)], HBe.out.setCell (p := ⟨w.heap.size, j, none⟩) (Nat.le_refl _) _⟩
      case measure => simp [intOf]; omega
    · obtain rfl : k = z := by omega
      have i1 : ¬ (k : Int) < (k : Int) := by omega
      clear hb
      go_wp2
      go_ret
      exact ⟨rfl, HB.out.congr (fun i hi => by unfold rowN; rw [if_pos (by omega)]), HBe.out⟩

theorem or_num (x y : Nat) (hx : x < 4294967296) (hy : y < 256) : bits .or .i64 (wrap64 ((x : Int) * 256)) (wrap64 (y : Int)) = ((256 * x + y : Nat) : Int) := by
  have hw : wrap64 ((x : Int) * 256) = ((256 * x : Nat) : Int) := by unfold wrap64; omega
  have hw2 : wrap64 (y : Int) = (y : Nat) := by unfold wrap64; omega
  rw [hw, hw2]
  have he : 256 * x ||| y = 256 * x + y := (Nat.two_pow_add_eq_or_of_lt (i := 8) hy x).symm
  show IntKind.i64.wrap ((BitVec.ofInt 64 ((256 * x : Nat) : Int) ||| BitVec.ofInt 64 (y : Int)).toNat : Int) = _
  rw [BitVec.toNat_or, ofInt_u64 (256 * x) (by omega), ofInt_u64 y (by omega), IntKind.wrap_i64, he]
  omega
set_option maxHeartbeats 1000000 in
theorem number_any (a : Option Addr) (l c : Nat) (f : Nat → Nat) (hl : l ≤ 4) (w : World) (h : Sl w a l c f) :
    Calls Try.prog 70 #[.slice a l c] w fun e w' => e = .returned (.int .i64 (vn f l : Nat)) ∧ ∃ q, w' = w.drewN q := by
  have HV := Lib.hid (fun k (hk : k < 4) => Nat.lt_of_lt_of_le (vn_lt h.bytes k) (pow256 (show k ≤ 4 by omega)))
  have H := Lib.hid h; clear h
  go_enter Try.func70, Try.ntmps70
  go_wp2_with fail
  go_loopw [3, 5, 8] (fun vi vb i wr => ∃ k : Nat, k ≤ l ∧ i = .int .i64 k ∧ vi = .int .i64 (vn f k : Nat) ∧ wr = w) (fun _ _ i _ => l - (intOf i).toNat)
  case atStart => exact ⟨0, by omega, rfl, rfl, rfl⟩
  case round =>
    obtain ⟨k, hk, rfl, rfl, rfl⟩ := hrel
    by_cases hlt : k < l
    · obtain ⟨b1, o1, e1, c1⟩ := H.out.at_ hlt
      have E1 := Lib.hid (show a = some ⟨b1, o1, none⟩ from e1)
      subst e1
      have i1 : (k : Int) < (l : Int) := by omega
      go_wp2
      go_roundw
      case rel => exact ⟨k + 1, by omega, by go_num, by rw [or_num _ _ (HV.out k (by omega)) (H.out.bytes k)]; rfl, trivial⟩
      case measure => simp [intOf]; omega
    · obtain rfl : k = l := by omega
      have i1 : ¬ (k : Int) < (k : Int) := by omega
      go_wp2
      go_ret
      exact ⟨rfl, 0, rfl⟩
end Go.Proofs.Ytjlmajopfeplpaa
