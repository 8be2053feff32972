import Derived.Test.YtjnfghhochcpaaaS4
namespace Go.Proofs.Ytjnfghhochcpaaa
open Go.RowKit Go.Shelf

/-- are the last four the sum of the first k? -/
def okB (f : Nat → Nat) (k : Nat) : Bool := eqB (Crc.byt (Crc.go 0 f k)) (fun i => f (k + i)) 4
theorem sl_lo {w : World} {b off n c : Nat} {f : Nat → Nat} (h : Sl w (some ⟨b, off, none⟩) n c f) {m : Nat} (hm : m ≤ n) : Sl w (some ⟨b, off, none⟩) m c (sub f 0 m) := by
  have := h.sub (lo := 0) (m := m) (by omega)
  simpa using this
theorem sub_go (f : Nat → Nat) (k : Nat) : Crc.go 0 (sub f 0 k) k = Crc.go 0 f k := Crc.go_congr fun i hi => by unfold sub; rw [if_pos hi, Nat.zero_add]
theorem ok_of (f : Nat → Nat) (k : Nat) : eqB (Crc.bytN (Crc.go 0 (sub f 0 k) k) 4) (sub f k 4) 4 = okB f k := by
  rw [sub_go]
  exact eqB_congr (fun i hi => if_pos hi) (fun i hi => if_pos hi)
/-- what Open answers. -/
def OpenSays (w : World) (n : Nat) (f : Nat → Nat) (e : Ending) (w' : World) : Prop :=
  (n < 4 ∧ e = .returned (.tuple #[.slice none 0 0, .int .i64 4]) ∧ Below w.heap.size w w') ∨
  (4 ≤ n ∧ okB f (n - 4) = false ∧ e = .returned (.tuple #[.slice none 0 0, .int .i64 10]) ∧ Below w.heap.size w w') ∨
  (4 ≤ n ∧ okB f (n - 4) = true ∧ ∃ a cap, e = .returned (.tuple #[.slice a (n - 4) cap, .int .i64 0]) ∧ Nw w' w.heap.size a (n - 4) cap (sub f 0 (n - 4)) ∧ Below w.heap.size w w')
set_option maxHeartbeats 1000000 in
set_option maxRecDepth 100000 in
theorem popen_any (a : Option Addr) (n cap : Nat) (f : Nat → Nat) (hn : n ≤ 10000000000) (w : World) (hS : Sl w a n cap f) :
    Calls Try.prog 12 #[.slice a n cap] w (OpenSays w n f) := by
  by_cases h4 : n < 4
  · have h4' : (n : Int) - 4 < 0 := by omega
    have H4 := Lib.hid h4; clear h4 hS
    go_enter Try.func12, Try.ntmps12
    go_wp2
    go_ret2
    exact Or.inl ⟨H4.out, rfl, Below.refl _ _⟩
  · obtain ⟨k, rfl⟩ : ∃ k, n = k + 4 := ⟨n - 4, by omega⟩
    clear h4
    obtain ⟨b, off, rfl, _⟩ := hS.at_ (k := 0) (by omega)
    have hc := hS.capOk
    have hm := hS.maxOk
    have HS1 := Lib.hid (sl_lo hS (m := k) (by omega))
    have HS2 := Lib.hid (hS.sub (lo := k) (m := 4) (by omega))
    have HO := Lib.hid (ok_of f k)
    have e1 : ((k + 4 : Nat) : Int) - 4 = (k : Int) := by omega
    have e2 : ¬ (k : Int) < 0 := by omega
    have e3 : ¬ cap = k := by omega
    have e4 : (k : Int) ≤ ((k + 4 : Nat) : Int) := by omega
    have e5 : (k : Int) ≤ (cap : Int) := by omega
    have e6 : k + 4 - k = 4 := by omega
    unfold maxLen at hm
    clear hS
    obtain ⟨N, hN⟩ : ∃ N, N = k + 4 := ⟨_, rfl⟩
    rw [← hN] at e1 e4 e6 hc hn ⊢
    have HN := Lib.hid hN; clear hN
    go_enter Try.func12, Try.ntmps12
    go_wp2_with fail
    go_region_with ((first
      | (go_at_call 26; refine (seal_small (some ⟨b, off, none⟩) k cap (sub f 0 k) (by omega) w.drew (HS1.out.drewN 1)).mono ?_; rintro e w1 ⟨g, rfl, hg, hb, hB⟩; have HB := Lib.hid (show Below w.heap.size w.drew w1 from hB); have HBL := Lib.hid hb; clear hB hb)
      | (go_at_call 27; refine (bequal_any _ _ 4 _ _ _ _ (by omega) _ (HBL.out.sl (by omega) (by unfold maxLen; omega) (Crc.bytN_by _ 4) (Crc.bytN_up _ 4)) ((HS2.out.drewN 1).same HB.out)).mono ?_; rintro e w2 ⟨rfl, rfl⟩)))
    have HBW := Lib.hid (show Below w.heap.size w w2 from ((Below.refl _ w).drew).trans HB.out)
    have hx := HO.out
    cases hv : okB f k with
    | false =>
      have HV := Lib.hid hv
      rw [hv] at hx
      rw [hx]
      clear hx hv
      go_wp2
      go_ret2
      exact Or.inr (Or.inl ⟨by have := HN.out; omega, by rw [HN.out, Nat.add_sub_cancel]; exact HV.out, rfl, HBW.out⟩)
    | true =>
      have HV := Lib.hid hv
      rw [hv] at hx
      rw [hx]
      clear hx hv
      go_wp2_with fail
      refine (bclone_any ⟨b, off, none⟩ k cap (sub f 0 k) (by omega) _ (HS1.out.same HBW.out)).mono ?_
      rintro e w3 ⟨a3, c3, rfl, hn3, hB3⟩
      have HB3 := Lib.hid hB3; have HN3 := Lib.hid hn3; clear hB3 hn3
      go_wp2
      go_ret2
      have hz := HBW.out.size
      exact Or.inr (Or.inr ⟨by have := HN.out; omega, by rw [HN.out, Nat.add_sub_cancel]; exact HV.out, a3, c3, by rw [HN.out, Nat.add_sub_cancel]; rfl, by rw [HN.out, Nat.add_sub_cancel]; exact HN3.out.mono hz, HBW.out.trans (HB3.out.mono hz)⟩)
end Go.Proofs.Ytjnfghhochcpaaa
