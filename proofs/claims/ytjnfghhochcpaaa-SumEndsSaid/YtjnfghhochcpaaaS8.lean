import Derived.Test.YtjnfghhochcpaaaS7
namespace Go.Proofs.Ytjnfghhochcpaaa
open Go.RowKit Go.Shelf

theorem nw_str {w : World} {B : Nat} {a : Option Addr} {n cap : Nat} {f : Nat → Nat} (h : Nw w B a n cap f) (h0 : 0 < n) : ∃ g, a = some ⟨g, 0, none⟩ := by
  rcases h.ow with ⟨e, _⟩ | ⟨g, vs, e, _⟩
  · have := h.sl.nil e; omega
  · exact ⟨g, e⟩
theorem ok_str (f : Nat → Nat) (hf : Pf.By f) (k : Nat) (g : Nat → Nat) (hg : ∀ i, i < k → g i = f i) (hgb : Pf.By g) : ((strOfNums (ints (Crc.sealed g k) (k + 4))).toList != (strOfNums (ints f (k + 4))).toList) = !okB f k := by
  have hgo : Crc.go 0 g k = Crc.go 0 f k := Crc.go_congr hg
  show (!((strOfNums (ints (Crc.sealed g k) (k + 4))).toList == (strOfNums (ints f (k + 4))).toList)) = _
  rw [str_eq _ _ (sealed_bytes hgb k) hf]
  congr 1
  unfold okB
  rw [Bool.eq_iff_iff, eqB_iff, eqB_iff]
  constructor
  · intro h i hi
    have := h (k + i) (by omega)
    rw [Crc.sealed_hi hi, hgo] at this
    exact this
  · intro h i hi
    by_cases c : i < k
    · rw [Crc.sealed_lo c]; exact hg i c
    · obtain ⟨j, rfl⟩ : ∃ j, i = k + j := ⟨i - k, by omega⟩
      rw [Crc.sealed_hi (by omega), hgo]; exact h j (by omega)
set_option maxHeartbeats 1000000 in
set_option maxRecDepth 100000 in
theorem ropen_any (a : Option Addr) (n cap : Nat) (f : Nat → Nat) (hn : n ≤ 1000000000) (w : World) (hS : Sl w a n cap f) :
    Calls Try.prog 13 #[.slice a n cap] w (OpenSays w n f) := by
  by_cases h4 : n < 4
  · have h4' : (n : Int) - 4 < 0 := by omega
    have H4 := Lib.hid h4; clear h4 hS
    go_enter Try.func13, Try.ntmps13
    go_wp2
    go_ret2
    exact Or.inl ⟨H4.out, rfl, Below.refl _ _⟩
  · obtain ⟨k, rfl⟩ : ∃ k, n = k + 4 := ⟨n - 4, by omega⟩
    clear h4
    obtain ⟨i0, hi, hz0, hz1, hz2⟩ := info_parts Try.infoU8
    have HI := Lib.hid hi; have HZ0 := Lib.hid hz0; have HZ1 := Lib.hid hz1; have HZ2 := Lib.hid hz2
    clear hi hz0 hz1 hz2
    obtain ⟨b, off, rfl, _⟩ := hS.at_ (k := 0) (by omega)
    have hc := hS.capOk
    have hm := hS.maxOk
    have HS := Lib.hid hS
    have HS1 := Lib.hid (sl_lo hS (m := k) (by omega))
    have HO := Lib.hid (ok_str f hS.bytes k (sub f 0 k) (fun i hi => by unfold sub; rw [if_pos hi, Nat.zero_add]) (sub_by hS.bytes 0 k))
    have e1 : ((k + 4 : Nat) : Int) - 4 = (k : Int) := by omega
    have e2 : ¬ (k : Int) < 0 := by omega
    have e4 : (k : Int) ≤ ((k + 4 : Nat) : Int) := by omega
    have e5 : (k : Int) ≤ (cap : Int) := by omega
    have HBS := Lib.hid (sub_by hS.bytes 0 k); have HUS := Lib.hid (sub_up f 0 k)
    unfold maxLen at hm
    clear hS
    obtain ⟨N, hN⟩ : ∃ N, N = k + 4 := ⟨_, rfl⟩
    rw [← hN] at e1 e4 hc hn HS HO ⊢
    have HN := Lib.hid hN; clear hN
    obtain ⟨S2, hS2⟩ : ∃ S2, S2 = strOfNums (ints f N) := ⟨_, rfl⟩
    have HF := Lib.hid (fun (W : World) (h : Below w.heap.size w W) => conv_sl W (some ⟨b, off, none⟩) N cap f (by have := HN.out; omega) (HS.out.same h))
    rw [← hS2] at HF HO
    obtain ⟨S1, hS1⟩ : ∃ S1, S1 = strOfNums (ints (Crc.sealed (sub f 0 k) k) N) := ⟨_, rfl⟩
    rw [← hS1] at HO
    have HS1' := Lib.hid (show S1 = strOfNums (ints (Crc.sealed (sub f 0 k) k) (k + 4)) by rw [hS1, HN.out])
    clear hS2 hS1
    have HFD := Lib.hid (HF.out w.drew ((Below.refl _ w).drew))
    have hfd := HFD.out
    go_enter Try.func13, Try.ntmps13
    go_wp2_with fail
    go_region_with ((first
      | (go_at_call 19; refine (rseal_any (some ⟨b, off, none⟩) k cap (sub f 0 k) (by omega) w.drew (HS1.out.drewN 1)).mono ?_; rintro e w1 ⟨a1, c1, rfl, hn1, hB⟩; have HB := Lib.hid (show Below w.heap.size w.drew w1 from hB); have hf1 := HF.out w1 (((Below.refl _ w).drew).trans HB.out); have hs1 := conv_sl w1 a1 (k + 4) c1 _ (by omega) hn1.sl; rw [← HS1'.out] at hs1; clear hn1 hB)))
    all_goals
      have HBW := Lib.hid (show Below w.heap.size w w1 from ((Below.refl _ w).drew).trans HB.out)
      have hx : (!(S1.toList == S2.toList)) = !okB f k := HO.out
      rw [hx]
      clear hx hf1 hs1 hfd
      cases hv : okB f k with
      | false =>
        have HV := Lib.hid hv
        clear hv
        go_wp2
        go_ret2
        exact Or.inr (Or.inl ⟨by have := HN.out; omega, by rw [HN.out, Nat.add_sub_cancel]; exact HV.out, rfl, HBW.out⟩)
      | true =>
        have HV := Lib.hid hv
        clear hv
        have hz := HBW.out.size
        go_wp2_with (at_builtin; refine wpList_append_own _ rfl _ _ 23 rfl w1.heap.size 5 i0 (.int .u8 0) 1 1 Try.underlying23 HI.out HZ0.out HZ1.out HZ2.out rfl (by decide) _ 0 [] rfl (World.ownsRow_made w1 #[] 0 (Nat.le_refl _) (by unfold maxLen; omega) rfl) ⟨b, off, none⟩ k cap ((List.range k).map fun i => Value.int .u8 (sub f 0 k i : Nat)) rfl (by simp) (Sl.reads ((HS1.out.same HBW.out).same ((Below.refl _ _).alloc (Nat.le_refl _) _)) _ rfl) (ones_map _ _) (by unfold maxLen; omega) (by omega) (by simp) ?_; intro v' w2 hown hgrow _; rw [Nat.zero_add, List.nil_append] at hown; have HO2 := Lib.hid (owns_new hown HBS.out HUS.out); have HB2 := Lib.hid (((Below.refl w1.heap.size w1).alloc (Nat.le_refl _) (.cells #[] 5)).grown hgrow (by simp) (by intro k hk; cases hk; exact Nat.le_refl _)); clear hown hgrow)
        obtain ⟨a3, c3, e, hn3⟩ := HO2.out
        subst e
        go_ret2
        exact Or.inr (Or.inr ⟨by have := HN.out; omega, by rw [HN.out, Nat.add_sub_cancel]; exact HV.out, a3, c3, by rw [HN.out, Nat.add_sub_cancel]; rfl, by rw [HN.out, Nat.add_sub_cancel]; exact hn3.mono hz, HBW.out.trans (HB2.out.mono hz)⟩)
end Go.Proofs.Ytjnfghhochcpaaa
