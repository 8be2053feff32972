import Derived.Laws.CopyOwn
import Derived.Test.YthkcacnlinajgaaMg7
namespace Go.Proofs.Ythkcacnlinajgaa
open Go.RowKit Go.Shelf

/-- a row over which so many bytes were copied, from the place off on. -/
def cpy (off m : Nat) (S F : Nat → Nat) (i : Nat) : Nat := if off ≤ i ∧ i < off + m then S (i - off) else F i
theorem cpy_zero (off : Nat) (S F : Nat → Nat) : cpy off 0 S F = F := funext fun i => if_neg (by omega)
theorem cpy_by {off m : Nat} {S F : Nat → Nat} (hS : Pf.By S) (hF : Pf.By F) : Pf.By (cpy off m S F) := fun i => by
  unfold cpy; split
  · exact hS _
  · exact hF i
theorem cpy_up {off m n : Nat} {S F : Nat → Nat} (h : off + m ≤ n) (hF : Pf.Up F n) : Pf.Up (cpy off m S F) n := fun i hi => by
  unfold cpy; rw [if_neg (by omega)]; exact hF i hi
section
variable {P : Program}
theorem run_copy_bl (w : World) (dT sT ty elem : TypeId) (hu : P.underlying dT = some (.slice elem)) (hsz : (P.info? elem).map (·.size) = some 1)
    (dp sp : Option Addr) (dLen dCap sLen sCap m : Nat) (hm : m = Nat.min sLen dLen) (g off n cap : Nat) (F S : Nat → Nat) (hb : Bl w g n cap F) (hS : 0 < m → Sl w sp sLen sCap S) (hpos : 0 < m → dp = some ⟨g, off, none⟩) (hfit : off + m ≤ n) (hnc : n ≤ cap) :
    ∃ w', (Builtin.copy_ #[dT, sT] ty #[.slice dp dLen dCap, .slice sp sLen sCap]).run P w = .ok (goInt m) w' ∧ Bl w' g n cap (cpy off m S F) ∧ w.grownBy w' (some g) := by
  by_cases h0 : m = 0
  · subst h0
    exact ⟨w, run_copy_none (P := P) w dT sT ty elem dp sp dLen dCap sLen sCap hu hsz hm.symm, by rw [cpy_zero]; exact hb, ⟨rfl, rfl, rfl, Nat.le_refl _, fun _ _ _ => rfl⟩⟩
  · obtain ⟨vs, h1, h2, h3⟩ := hb
    obtain rfl := hpos (by omega)
    have hml : m ≤ sLen := by rw [hm]; exact Nat.min_le_left _ _
    have hS := hS (by omega)
    obtain ⟨sb, so, rfl, _⟩ := hS.at_ (k := 0) (by omega)
    have hsrc : ∀ j v, ((List.range m).map fun i => Value.int .u8 (S i : Nat))[j]? = some v → w.cell? ((⟨sb, so, none⟩ : Addr).add j) = some v := fun j v hj => by
      have hjm : j < m := by
        have := (List.getElem?_eq_some_iff.1 hj).1
        rwa [List.length_map, List.length_range] at this
      rw [get_map S hjm] at hj
      rw [Addr.add_lit, ← hj]
      exact hS.cell _ rfl j (by omega)
    have hrun := run_copy_row (P := P) w dT sT ty elem g off dLen dCap ⟨sb, so, none⟩ sLen sCap vs _ _ hu hsz h1 (by rw [List.length_map, List.length_range]; exact hm) hsrc (by rw [List.length_map, List.length_range]; omega) (ones_map m S)
    rw [show ((List.range m).map fun i => Value.int .u8 (S i : Nat)).length = m by simp] at hrun
    refine ⟨_, hrun, ⟨_, setRow_heap w g _ _ _ _ h1, ?_, fun i hi => ?_⟩, ⟨rfl, rfl, rfl, by simp [World.setRow], fun k _ hne => setRow_other w g k _ (fun e => hne (by rw [e]))⟩⟩
    · simp
      omega
    · rw [List.getElem?_toArray]
      simp only [List.append_assoc]
      unfold cpy
      by_cases c : i < off
      · rw [if_neg (by omega), List.getElem?_append_left (by simp; omega), List.getElem?_take, if_pos c, Array.getElem?_toList]
        exact h3 i hi
      · rw [List.getElem?_append_right (by simp; omega)]
        have e1 : (List.take off vs.toList).length = off := by simp; omega
        rw [e1]
        by_cases c2 : i < off + m
        · rw [if_pos (by omega), List.getElem?_append_left (by simp; omega)]
          exact get_map S (by omega)
        · rw [if_neg (by omega), List.getElem?_append_right (by simp; omega)]
          rw [List.length_map, List.length_range, List.getElem?_drop, Array.getElem?_toList, show off + m + (i - off - m) = i by omega]
          exact h3 i hi
theorem wpList_copy_bl {w : World} {ops : Array Oper} {rest : List Oper} {o : Oper} {a : Act} {Q : Exit → Act → World → Prop} (hgd : o.guard = none) (d s : Operand) (dT sT : TypeId)
    (ho : o.op = .call { callee := .builtin .copy, args := #[d, s], argTypes := #[dT, sT] }) (elem : TypeId) (hu : P.underlying dT = some (.slice elem)) (hsz : (P.info? elem).map (·.size) = some 1)
    (dp sp : Option Addr) (dLen dCap sLen sCap m : Nat) (hd : a.eval d = .slice dp dLen dCap) (hs : a.eval s = .slice sp sLen sCap) (hm : m = Nat.min sLen dLen) (g off n cap : Nat) (F S : Nat → Nat) (hb : Bl w g n cap F) (hS : 0 < m → Sl w sp sLen sCap S) (hpos : 0 < m → dp = some ⟨g, off, none⟩) (hfit : off + m ≤ n) (hnc : n ≤ cap)
    (h : ∀ w', Hid (Bl w' g n cap (cpy off m S F)) → Hid (w.grownBy w' (some g)) → wpList P ops Q rest (a.put o.dst (goInt m)) w') : wpList P ops Q (o :: rest) a w := by
  refine wpList_plain hgd fun K hK => ?_
  obtain ⟨w', hrun, h1, h2⟩ := run_copy_bl (P := P) w dT sT o.type elem hu hsz dp sp dLen dCap sLen sCap m hm g off n cap F S hb hS hpos hfit hnc
  unfold Oper.wp
  simp [execOp, ho, resolve, invoke, builtin, hd, hs, hrun, Result.andThen]
  exact hK _ _ (h w' h1 h2)
end
theorem Try.sizeU8 : (Try.prog.info? 5).map (·.size) = some 1 := by kernel_rfl
/-- what a slice of a slice reads as. -/
def sub (f : Nat → Nat) (lo m i : Nat) : Nat := if i < m then f (lo + i) else 0
theorem sub_by {f : Nat → Nat} (h : Pf.By f) (lo m : Nat) : Pf.By (sub f lo m) := fun i => by unfold sub; split; exact h _; omega
theorem sub_up (f : Nat → Nat) (lo m : Nat) : Pf.Up (sub f lo m) m := fun i hi => by unfold sub; rw [if_neg (by omega)]
theorem Sl.sub {w : World} {b off l c : Nat} {f : Nat → Nat} (h : Sl w (some ⟨b, off, none⟩) l c f) {lo m : Nat} (hl : lo + m ≤ l) : Sl w (some ⟨b, off + lo, none⟩) m (c - lo) (sub f lo m) :=
  ⟨by have := h.capOk; omega, by have := h.maxOk; omega, sub_by h.bytes lo m, sub_up f lo m, fun e => (by cases e), fun ad e _ => (by cases e; rfl), fun ad e i hi => by
    cases e
    have := h.cell _ rfl (lo + i) (by omega)
    show w.cell? ⟨b, off + lo + i, none⟩ = some (.int .u8 ((if i < m then f (lo + i) else 0 : Nat) : Int))
    rw [if_pos hi, Nat.add_assoc]; exact this⟩
theorem Sl.none_ (w : World) (a : Option Addr) (c : Nat) (hc : c ≤ maxLen) (h0 : a = none → c = 0) : Sl w a 0 c (fun _ => 0) :=
  ⟨Nat.zero_le _, hc, fun _ => (by omega : 0 < 256), fun _ _ => rfl, fun e => ⟨rfl, h0 e⟩, fun _ _ h => absurd rfl h, fun _ _ i hi => absurd hi (Nat.not_lt_zero i)⟩
end Go.Proofs.Ythkcacnlinajgaa

namespace Go.Proofs.Ythkcacnlinajgaa
open Go.RowKit Go.Shelf

section
variable {P : Program}
/-- copied onto what is known of a block's head. -/
theorem run_copy_on (w : World) (dT sT ty elem : TypeId) (hu : P.underlying dT = some (.slice elem)) (hsz : (P.info? elem).map (·.size) = some 1)
    (dp sp : Option Addr) (dLen dCap sLen sCap m : Nat) (hm : m = Nat.min sLen dLen) (g off cap : Nat) (F S : Nat → Nat) (hb : Bl w g off cap F) (hS : 0 < m → Sl w sp sLen sCap S) (hpos : 0 < m → dp = some ⟨g, off, none⟩) (hfit : off + m ≤ cap) :
    ∃ w', (Builtin.copy_ #[dT, sT] ty #[.slice dp dLen dCap, .slice sp sLen sCap]).run P w = .ok (goInt m) w' ∧ Bl w' g (off + m) cap (cpy off m S F) ∧ w.grownBy w' (some g) := by
  by_cases h0 : m = 0
  · subst h0
    exact ⟨w, run_copy_none (P := P) w dT sT ty elem dp sp dLen dCap sLen sCap hu hsz hm.symm, by rw [cpy_zero]; exact hb, ⟨rfl, rfl, rfl, Nat.le_refl _, fun _ _ _ => rfl⟩⟩
  · obtain ⟨vs, h1, h2, h3⟩ := hb
    obtain rfl := hpos (by omega)
    have hml : m ≤ sLen := by rw [hm]; exact Nat.min_le_left _ _
    have hS := hS (by omega)
    obtain ⟨sb, so, rfl, _⟩ := hS.at_ (k := 0) (by omega)
    have hsrc : ∀ j v, ((List.range m).map fun i => Value.int .u8 (S i : Nat))[j]? = some v → w.cell? ((⟨sb, so, none⟩ : Addr).add j) = some v := fun j v hj => by
      have hjm : j < m := by
        have := (List.getElem?_eq_some_iff.1 hj).1
        rwa [List.length_map, List.length_range] at this
      rw [get_map S hjm] at hj
      rw [Addr.add_lit, ← hj]
      exact hS.cell _ rfl j (by omega)
    have hrun := run_copy_row (P := P) w dT sT ty elem g off dLen dCap ⟨sb, so, none⟩ sLen sCap vs _ _ hu hsz h1 (by rw [List.length_map, List.length_range]; exact hm) hsrc (by rw [List.length_map, List.length_range]; omega) (ones_map m S)
    rw [show ((List.range m).map fun i => Value.int .u8 (S i : Nat)).length = m by simp] at hrun
    refine ⟨_, hrun, ⟨_, setRow_heap w g _ _ _ _ h1, ?_, fun i hi => ?_⟩, ⟨rfl, rfl, rfl, by simp [World.setRow], fun k _ hne => setRow_other w g k _ (fun e => hne (by rw [e]))⟩⟩
    · simp
      omega
    · rw [List.getElem?_toArray]
      simp only [List.append_assoc]
      unfold cpy
      by_cases c : i < off
      · rw [if_neg (by omega), List.getElem?_append_left (by simp; omega), List.getElem?_take, if_pos c, Array.getElem?_toList]
        exact h3 i c
      · rw [List.getElem?_append_right (by simp; omega)]
        have e1 : (List.take off vs.toList).length = off := by simp; omega
        rw [e1, if_pos (by omega), List.getElem?_append_left (by simp; omega)]
        exact get_map S (by omega)
theorem wpList_copy_on {w : World} {ops : Array Oper} {rest : List Oper} {o : Oper} {a : Act} {Q : Exit → Act → World → Prop} (hgd : o.guard = none) (d s : Operand) (dT sT : TypeId)
    (ho : o.op = .call { callee := .builtin .copy, args := #[d, s], argTypes := #[dT, sT] }) (elem : TypeId) (hu : P.underlying dT = some (.slice elem)) (hsz : (P.info? elem).map (·.size) = some 1)
    (dp sp : Option Addr) (dLen dCap sLen sCap m : Nat) (hd : a.eval d = .slice dp dLen dCap) (hs : a.eval s = .slice sp sLen sCap) (hm : m = Nat.min sLen dLen) (g off cap : Nat) (F S : Nat → Nat) (hb : Bl w g off cap F) (hS : 0 < m → Sl w sp sLen sCap S) (hpos : 0 < m → dp = some ⟨g, off, none⟩) (hfit : off + m ≤ cap)
    (h : ∀ w', Hid (Bl w' g (off + m) cap (cpy off m S F)) → Hid (w.grownBy w' (some g)) → wpList P ops Q rest (a.put o.dst (goInt m)) w') : wpList P ops Q (o :: rest) a w := by
  refine wpList_plain hgd fun K hK => ?_
  obtain ⟨w', hrun, h1, h2⟩ := run_copy_on (P := P) w dT sT o.type elem hu hsz dp sp dLen dCap sLen sCap m hm g off cap F S hb hS hpos hfit
  unfold Oper.wp
  simp [execOp, ho, resolve, invoke, builtin, hd, hs, hrun, Result.andThen]
  exact hK _ _ (h w' h1 h2)
end
end Go.Proofs.Ythkcacnlinajgaa
