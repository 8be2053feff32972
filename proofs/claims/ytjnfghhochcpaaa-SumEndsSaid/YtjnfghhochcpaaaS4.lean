import Derived.Test.YtjnfghhochcpaaaS3
import Derived.Laws.BytesArg
import Derived.Lib.Bytes
import Derived.RegionTactic
import Derived.BigRegion
import Derived.Lib.QuietBelow
namespace Go.Proofs.Ytjnfghhochcpaaa
open Go.RowKit Go.Shelf

/-- the same bytes? -/
def eqB (f g : Nat → Nat) (m : Nat) : Bool := decide (∀ i, i < m → f i = g i)
theorem eqB_iff {f g : Nat → Nat} {m : Nat} : eqB f g m = true ↔ ∀ i, i < m → f i = g i := by unfold eqB; rw [decide_eq_true_iff]
theorem eqB_congr {f f' g g' : Nat → Nat} {m : Nat} (h : ∀ i, i < m → f i = f' i) (h' : ∀ i, i < m → g i = g' i) : eqB f g m = eqB f' g' m := by
  rw [Bool.eq_iff_iff, eqB_iff, eqB_iff]
  exact ⟨fun hh i hi => by rw [← h i hi, ← h' i hi]; exact hh i hi, fun hh i hi => by rw [h i hi, h' i hi]; exact hh i hi⟩
theorem str_eq (f g : Nat → Nat) (hf : Pf.By f) (hg : Pf.By g) (m : Nat) : ((strOfNums (ints f m)).toList == (strOfNums (ints g m)).toList) = eqB f g m := by
  rw [Lib.strOfNums_toList, Lib.strOfNums_toList, Bool.eq_iff_iff, beq_iff_eq, eqB_iff]
  constructor
  · intro h i hi
    have h2 := congrArg (fun l : List UInt8 => l[i]?) h
    simp only [Lib.bytesOf, List.getElem?_map] at h2
    have e : ∀ x : Nat → Nat, (ints x m)[i]? = some ((x i : Nat) : Int) := fun x => by simp [ints, hi]
    rw [e f, e g] at h2
    simp only [Option.map_some, Option.some.injEq, Int.toNat_natCast] at h2
    have h3 := congrArg UInt8.toNat h2
    have a := hf i; have b := hg i
    simpa [UInt8.toNat_ofNat', Nat.mod_eq_of_lt a, Nat.mod_eq_of_lt b] using h3
  · intro h
    have : ints f m = ints g m := by unfold ints; exact List.map_congr_left fun i hi => by rw [h i (by simpa using hi)]
    rw [this]
/-- '[]byte' as a string. -/
theorem conv_sl (w : World) (a : Option Addr) (n cap : Nat) (f : Nat → Nat) (h0 : 0 < n) (h : Sl w a n cap f) :
    (convert 23 9 (.slice a n cap)).run Try.prog w = .ok (.string (strOfNums (ints f n))) w := by
  obtain ⟨b, o, rfl, _⟩ := h.at_ (k := 0) h0
  exact run_convert_bytes_arg (P := Try.prog) w 23 5 Try.underlying23 Try.underlying5 b o n cap _ (ints_len f n) (fun i hi => by
    rw [ints_get hi]; exact h.cell _ rfl i hi) 9 Try.underlying9

set_option maxHeartbeats 400000 in
theorem bequal_any (a a' : Option Addr) (n c c' : Nat) (f g : Nat → Nat) (h0 : 0 < n) (w : World) (hS : Sl w a n c f) (hS' : Sl w a' n c' g) :
    Calls Try.prog 27 #[.slice a n c, .slice a' n c'] w fun e w' => e = .returned (.bool (eqB f g n)) ∧ w' = w := by
  have h1 := conv_sl w a n c f h0 hS
  have h2 := conv_sl w a' n c' g h0 hS'
  have HE := Lib.hid (str_eq f g hS.bytes hS'.bytes n)
  clear hS hS'
  generalize strOfNums (ints f n) = s1 at h1 HE
  generalize strOfNums (ints g n) = s2 at h2 HE
  generalize eqB f g n = v at HE ⊢
  have he := HE.out
  clear HE
  go_enter Try.func27, Try.ntmps27
  go_wp2
  go_ret
  exact ⟨rfl, rfl⟩

/-- what Seal answers. -/
def SealSays (w : World) (n : Nat) (f : Nat → Nat) (e : Ending) (w' : World) : Prop := ∃ g C, e = .returned (.slice (some ⟨g, 0, none⟩) (n + 4) (n + 4)) ∧ w.heap.size ≤ g ∧ n + 4 ≤ C ∧ Bl w' g (n + 4) C (Crc.sealed f n) ∧ Below w.heap.size w w'
theorem sealed_cpy (f : Nat → Nat) (n i : Nat) (hi : i < n + 4) : cpy n 4 (Crc.bytN (Crc.go 0 f n) 4) (cpy 0 n f (fun _ => 0)) i = Crc.sealed f n i := by
  unfold cpy Crc.sealed Crc.bytN
  by_cases h : i < n
  · rw [if_neg (by omega), if_pos (by omega), if_pos h, Nat.sub_zero]
  · rw [if_pos (by omega), if_pos (by omega), if_neg h, if_pos hi]
set_option maxHeartbeats 1000000 in
set_option maxRecDepth 100000 in
theorem pseal_any (a : Option Addr) (n cap : Nat) (f : Nat → Nat) (hn : n ≤ 10000000000) (w : World) (hS : Sl w a n cap f) :
    Calls Try.prog 11 #[.slice a n cap] w (SealSays w n f) := by
  have HO := Lib.hid (seal_small a n cap f (by omega) w hS)
  have HS := Lib.hid hS; clear hS
  go_enter Try.func11, Try.ntmps11
  go_wp2_with fail
  refine HO.out.mono ?_
  rintro e w1 ⟨g, rfl, hg, hb, hB⟩
  have HB := Lib.hid hB; have HBL := Lib.hid hb; clear hB hb
  have HJ := Lib.hid (fun (L : Nat) (w2 : World) (h0 : w2.cell? ⟨L, 0, none⟩ = some (.slice a n cap)) (h1 : w2.cell? ⟨L, 1, none⟩ = some (.slice (some ⟨g, 0, none⟩) 4 4)) (hB2 : Below w1.heap.size w1 w2) =>
    join_two L a n cap f (some ⟨g, 0, none⟩) 4 4 (Crc.bytN (Crc.go 0 f n) 4) (by omega) (by omega) (by omega) w2 h0 h1 (HS.out.below (HB.out.trans (hB2.mono HB.out.size)) HS.out.lt) ((HBL.out.sl (by omega) (by unfold maxLen; omega) (Crc.bytN_by _ 4) (Crc.bytN_up _ 4)).same hB2))
  go_wp2_with fail
  refine (HJ.out w1.heap.size _ (by rw [World.cell?_alloc_new]; rfl) (by rw [World.cell?_alloc_new]; rfl) ((Below.refl _ _).alloc (Nat.le_refl _) _)).mono ?_
  rintro e w2 ⟨G, C, rfl, hG, hC, hb, hB2⟩
  have HBL2 := Lib.hid hb; have HB2 := Lib.hid hB2; have HGG := Lib.hid hG; have HCC := Lib.hid hC
  clear hb hB2 hG hC
  go_wp2
  go_ret
  have h1 := HB.out.size
  have hs : (w1.alloc (.cells #[.slice a n cap, .slice (some ⟨g, 0, none⟩) 4 4] 23)).heap.size = w1.heap.size + 1 := by simp
  exact ⟨G, C, rfl, by have := HGG.out; rw [hs] at this; omega, HCC.out, HBL2.out.congr (fun i hi => sealed_cpy f n i hi), HB.out.trans ((((Below.refl _ _).alloc (Nat.le_refl _) _).trans (HB2.out.mono (by rw [hs]; omega))).mono h1)⟩
end Go.Proofs.Ytjnfghhochcpaaa
