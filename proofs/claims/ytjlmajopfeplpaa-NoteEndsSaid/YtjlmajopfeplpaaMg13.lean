import Derived.Laws.BytesArg
import Derived.Lib.Bytes
import Derived.RegionTactic
import Derived.BigRegion
import Derived.Lib.QuietBelow
import Derived.Laws.AppendOwnNone
import Derived.WalkKit
import Derived.WalkSpells
import Derived.Laws.AppendOwn
import Derived.Deep.RegionWith
import Derived.BigQuiet
import Derived.Test.YtjlmajopfeplpaaMg12
namespace Go.Proofs.Ytjlmajopfeplpaa
open Go.RowKit Go.Shelf

/-- the same bytes? -/
def eqB (f g : Nat → Nat) (m : Nat) : Bool := decide (∀ i, i < m → f i = g i)
theorem eqB_iff {f g : Nat → Nat} {m : Nat} : eqB f g m = true ↔ ∀ i, i < m → f i = g i := by unfold eqB; rw [decide_eq_true_iff]
theorem eqB_congr {f f' g g' : Nat → Nat} {m : Nat} (h : ∀ i, i < m → f i = f' i) (h' : ∀ i, i < m → g i = g' i) : eqB f g m = eqB f' g' m := by
  rw [Bool.eq_iff_iff, eqB_iff, eqB_iff]
  exact ⟨fun hh i hi => by rw [← h i hi, ← h' i hi]; exact hh i hi, fun hh i hi => by rw [h i hi, h' i hi]; exact hh i hi⟩
theorem str_eq (f g : Nat → Nat) (hf : Pf.By f) (hg : Pf.By g) (m : Nat) : ((strOfNums (ints f m)).toList == (strOfNums (ints g m)).toList) = eqB f g m := by
  rw [Lib.strOfNums_toList, Lib.strOfNums_toList, Bool.eq_iff_iff, beq_iff_eq, eqB_iff]
  constructor
  · intro h i hi
    have h2 := congrArg (fun l : List UInt8 => l[i]?) h
    simp only [Lib.bytesOf, List.getElem?_map] at h2
    have e : ∀ x : Nat → Nat, (ints x m)[i]? = some ((x i : Nat) : Int) := fun x => by simp [ints, hi]
    rw [e f, e g] at h2
    simp only [Option.map_some, Option.some.injEq, Int.toNat_natCast] at h2
    have h3 := congrArg UInt8.toNat h2
    have a := hf i; have b := hg i
    simpa [UInt8.toNat_ofNat', Nat.mod_eq_of_lt a, Nat.mod_eq_of_lt b] using h3
  · intro h
    have : ints f m = ints g m := by unfold ints; exact List.map_congr_left fun i hi => by rw [h i (by simpa using hi)]
    rw [this]
/-- '[]byte' as a string. -/
theorem conv_sl (w : World) (a : Option Addr) (n cap : Nat) (f : Nat → Nat) (h0 : 0 < n) (h : Sl w a n cap f) :
    (convert 27 9 (.slice a n cap)).run Try.prog w = .ok (.string (strOfNums (ints f n))) w := by
  obtain ⟨b, o, rfl, _⟩ := h.at_ (k := 0) h0
  exact run_convert_bytes_arg (P := Try.prog) w 27 5 Try.underlying27 Try.underlying5 b o n cap _ (ints_len f n) (fun i hi => by
    rw [ints_get hi]; exact h.cell _ rfl i hi) 9 Try.underlying9

set_option maxHeartbeats 400000 in
theorem bequal_any (a a' : Option Addr) (n c c' : Nat) (f g : Nat → Nat) (h0 : 0 < n) (w : World) (hS : Sl w a n c f) (hS' : Sl w a' n c' g) :
    Calls Try.prog 65 #[.slice a n c, .slice a' n c'] w fun e w' => e = .returned (.bool (eqB f g n)) ∧ w' = w := by
  have h1 := conv_sl w a n c f h0 hS
  have h2 := conv_sl w a' n c' g h0 hS'
  have HE := Lib.hid (str_eq f g hS.bytes hS'.bytes n)
  clear hS hS'
  generalize strOfNums (ints f n) = s1 at h1 HE
  generalize strOfNums (ints g n) = s2 at h2 HE
  generalize eqB f g n = v at HE ⊢
  have he := HE.out
  clear HE
  go_enter Try.func65, Try.ntmps65
  go_wp2
  go_ret
  exact ⟨rfl, rfl⟩

/-- what Seal answers. -/
def SealSays (w : World) (n : Nat) (f : Nat → Nat) (e : Ending) (w' : World) : Prop := ∃ g C, e = .returned (.slice (some ⟨g, 0, none⟩) (n + 4) (n + 4)) ∧ w.heap.size ≤ g ∧ n + 4 ≤ C ∧ Bl w' g (n + 4) C (Crc.sealed f n) ∧ Below w.heap.size w w'
theorem sealed_cpy (f : Nat → Nat) (n i : Nat) (hi : i < n + 4) : cpy n 4 (Crc.bytN (Crc.go 0 f n) 4) (cpy 0 n f (fun _ => 0)) i = Crc.sealed f n i := by
  unfold cpy Crc.sealed Crc.bytN
  by_cases h : i < n
  · rw [if_neg (by omega), if_pos (by omega), if_pos h, Nat.sub_zero]
  · rw [if_pos (by omega), if_pos (by omega), if_neg h, if_pos hi]
set_option maxHeartbeats 1000000 in
set_option maxRecDepth 100000 in
theorem pseal_any (a : Option Addr) (n cap : Nat) (f : Nat → Nat) (hn : n ≤ 10000000000) (w : World) (hS : Sl w a n cap f) :
    Calls Try.prog 24 #[.slice a n cap] w (SealSays w n f) := by
  have HO := Lib.hid (seal_small a n cap f (by omega) w hS)
  have HS := Lib.hid hS; clear hS
  go_enter Try.func24, Try.ntmps24
  go_wp2_with fail
  refine HO.out.mono ?_
  rintro e w1 ⟨g, rfl, hg, hb, hB⟩
  have HB := Lib.hid hB; have HBL := Lib.hid hb; clear hB hb
  have HJ := Lib.hid (fun (L : Nat) (w2 : World) (h0 : w2.cell? ⟨L, 0, none⟩ = some (.slice a n cap)) (h1 : w2.cell? ⟨L, 1, none⟩ = some (.slice (some ⟨g, 0, none⟩) 4 4)) (hB2 : Below w1.heap.size w1 w2) =>
    join_two L a n cap f (some ⟨g, 0, none⟩) 4 4 (Crc.bytN (Crc.go 0 f n) 4) (by omega) (by omega) (by omega) w2 h0 h1 (HS.out.below (HB.out.trans (hB2.mono HB.out.size)) HS.out.lt) ((HBL.out.sl (by omega) (by unfold maxLen; omega) (Crc.bytN_by _ 4) (Crc.bytN_up _ 4)).same hB2))
  go_wp2_with fail
  refine (HJ.out w1.heap.size _ (by rw [World.cell?_alloc_new]; rfl) (by rw [World.cell?_alloc_new]; rfl) ((Below.refl _ _).alloc (Nat.le_refl _) _)).mono ?_
  rintro e w2 ⟨G, C, rfl, hG, hC, hb, hB2⟩
  have HBL2 := Lib.hid hb; have HB2 := Lib.hid hB2; have HGG := Lib.hid hG; have HCC := Lib.hid hC
  clear hb hB2 hG hC
  go_wp2
  go_ret
  have h1 := HB.out.size
  have hs : (w1.alloc (.cells #[.slice a n cap, .slice (some ⟨g, 0, none⟩) 4 4] 27)).heap.size = w1.heap.size + 1 := by simp
  exact ⟨G, C, rfl, by have := HGG.out; rw [hs] at this; omega, HCC.out, HBL2.out.congr (fun i hi => sealed_cpy f n i hi), HB.out.trans ((((Below.refl _ _).alloc (Nat.le_refl _) _).trans (HB2.out.mono (by rw [hs]; omega))).mono h1)⟩
end Go.Proofs.Ytjlmajopfeplpaa

namespace Go.Proofs.Ytjlmajopfeplpaa
open Go.RowKit Go.Shelf

/-- are the last four the sum of the first k? -/
def okB (f : Nat → Nat) (k : Nat) : Bool := eqB (Crc.byt (Crc.go 0 f k)) (fun i => f (k + i)) 4
theorem sl_lo {w : World} {b off n c : Nat} {f : Nat → Nat} (h : Sl w (some ⟨b, off, none⟩) n c f) {m : Nat} (hm : m ≤ n) : Sl w (some ⟨b, off, none⟩) m c (sub f 0 m) := by
  have := h.sub (lo := 0) (m := m) (by omega)
  simpa using this
theorem sub_go (f : Nat → Nat) (k : Nat) : Crc.go 0 (sub f 0 k) k = Crc.go 0 f k := Crc.go_congr fun i hi => by unfold sub; rw [if_pos hi, Nat.zero_add]
theorem ok_of (f : Nat → Nat) (k : Nat) : eqB (Crc.bytN (Crc.go 0 (sub f 0 k) k) 4) (sub f k 4) 4 = okB f k := by
  rw [sub_go]
  exact eqB_congr (fun i hi => if_pos hi) (fun i hi => if_pos hi)
/-- what Open answers. -/
def OpenSays (w : World) (n : Nat) (f : Nat → Nat) (e : Ending) (w' : World) : Prop :=
  (n < 4 ∧ e = .returned (.tuple #[.slice none 0 0, .int .i64 4]) ∧ Below w.heap.size w w') ∨
  (4 ≤ n ∧ okB f (n - 4) = false ∧ e = .returned (.tuple #[.slice none 0 0, .int .i64 10]) ∧ Below w.heap.size w w') ∨
  (4 ≤ n ∧ okB f (n - 4) = true ∧ ∃ a cap, e = .returned (.tuple #[.slice a (n - 4) cap, .int .i64 0]) ∧ Nw w' w.heap.size a (n - 4) cap (sub f 0 (n - 4)) ∧ Below w.heap.size w w')
set_option maxHeartbeats 1000000 in
set_option maxRecDepth 100000 in
theorem popen_any (a : Option Addr) (n cap : Nat) (f : Nat → Nat) (hn : n ≤ 10000000000) (w : World) (hS : Sl w a n cap f) :
    Calls Try.prog 50 #[.slice a n cap] w (OpenSays w n f) := by
  by_cases h4 : n < 4
  · have h4' : (n : Int) - 4 < 0 := by omega
    have H4 := Lib.hid h4; clear h4 hS
    go_enter Try.func50, Try.ntmps50
    go_wp2
    go_ret2
    exact Or.inl ⟨H4.out, rfl, Below.refl _ _⟩
  · obtain ⟨k, rfl⟩ : ∃ k, n = k + 4 := ⟨n - 4, by omega⟩
    clear h4
    obtain ⟨b, off, rfl, _⟩ := hS.at_ (k := 0) (by omega)
    have hc := hS.capOk
    have hm := hS.maxOk
    have HS1 := Lib.hid (sl_lo hS (m := k) (by omega))
    have HS2 := Lib.hid (hS.sub (lo := k) (m := 4) (by omega))
    have HO := Lib.hid (ok_of f k)
    have e1 : ((k + 4 : Nat) : Int) - 4 = (k : Int) := by omega
    have e2 : ¬ (k : Int) < 0 := by omega
    have e3 : ¬ cap = k := by omega
    have e4 : (k : Int) ≤ ((k + 4 : Nat) : Int) := by omega
    have e5 : (k : Int) ≤ (cap : Int) := by omega
    have e6 : k + 4 - k = 4 := by omega
    unfold maxLen at hm
    clear hS
    obtain ⟨N, hN⟩ : ∃ N, N = k + 4 := ⟨_, rfl⟩
    rw [← hN] at e1 e4 e6 hc hn ⊢
    have HN := Lib.hid hN; clear hN
    go_enter Try.func50, Try.ntmps50
    go_wp2_with fail
    go_region_with ((first
      | (go_at_call 41; refine (seal_small (some ⟨b, off, none⟩) k cap (sub f 0 k) (by omega) w.drew (HS1.out.drewN 1)).mono ?_; rintro e w1 ⟨g, rfl, hg, hb, hB⟩; have HB := Lib.hid (show Below w.heap.size w.drew w1 from hB); have HBL := Lib.hid hb; clear hB hb)
      | (go_at_call 65; refine (bequal_any _ _ 4 _ _ _ _ (by omega) _ (HBL.out.sl (by omega) (by unfold maxLen; omega) (Crc.bytN_by _ 4) (Crc.bytN_up _ 4)) ((HS2.out.drewN 1).same HB.out)).mono ?_; rintro e w2 ⟨rfl, rfl⟩)))
    have HBW := Lib.hid (show Below w.heap.size w w2 from ((Below.refl _ w).drew).trans HB.out)
    have hx := HO.out
    cases hv : okB f k with
    | false =>
      have HV := Lib.hid hv
      rw [hv] at hx
      rw [hx]
      clear hx hv
      go_wp2
      go_ret2
      exact Or.inr (Or.inl ⟨by have := HN.out; omega, by rw [HN.out, Nat.add_sub_cancel]; exact HV.out, rfl, HBW.out⟩)
    | true =>
      have HV := Lib.hid hv
      rw [hv] at hx
      rw [hx]
      clear hx hv
      go_wp2_with fail
      refine (bclone_any ⟨b, off, none⟩ k cap (sub f 0 k) (by omega) _ (HS1.out.same HBW.out)).mono ?_
      rintro e w3 ⟨a3, c3, rfl, hn3, hB3⟩
      have HB3 := Lib.hid hB3; have HN3 := Lib.hid hn3; clear hB3 hn3
      go_wp2
      go_ret2
      have hz := HBW.out.size
      exact Or.inr (Or.inr ⟨by have := HN.out; omega, by rw [HN.out, Nat.add_sub_cancel]; exact HV.out, a3, c3, by rw [HN.out, Nat.add_sub_cancel]; rfl, by rw [HN.out, Nat.add_sub_cancel]; exact HN3.out.mono hz, HBW.out.trans (HB3.out.mono hz)⟩)
end Go.Proofs.Ytjlmajopfeplpaa

namespace Go.Proofs.Ytjlmajopfeplpaa
open Go.RowKit Go.Shelf

theorem Crc.m1_xs (r v : Nat) (hr : r < 4294967296) (hv : v < 256) : bits .xor .u32 (r : Int) (v : Int) = ((r ^^^ v : Nat) : Int) := u32_xor_nat _ _ hr (by omega)
set_option maxHeartbeats 1000000 in
set_option maxRecDepth 100000 in
theorem rgo_any (a : Option Addr) (n cap : Nat) (f : Nat → Nat) (s : Nat) (hs : s < 4294967296) (hn : n ≤ 1000000000000) (w : World) (hS : Sl w a n cap f) :
    Calls Try.prog 35 #[.int .u32 s, .slice a n cap] w fun e w' => e = .returned (.int .u32 (Crc.go s f n : Nat)) ∧ w' = w := by
  have HS := Lib.hid hS; clear hS
  have HL := Lib.hid (fun k => Crc.run_lt (s := Crc.inv s) (Crc.inv_lt hs) HS.out.bytes k)
  have hi0 := Crc.notw s hs
  have hsg := Crc.sgn
  go_enter Try.func35, Try.ntmps35
  go_wp2_with fail
  go_loop [5, 6] (fun v i => ∃ k : Nat, k ≤ n ∧ i = .int .i64 k ∧ v = .int .u32 (Crc.run (Crc.inv s) f k : Nat)) (fun _ i => n - (intOf i).toNat)
  case atStart => exact ⟨0, by omega, rfl, rfl⟩
  case round =>
    obtain ⟨k, hk, rfl, rfl⟩ := hrel
    clear hi0
    by_cases hlt : k < n
    · have i1 : (k : Int) < (n : Int) := by omega
      obtain ⟨ab, ao, ea, hc⟩ := HS.out.at_ hlt
      subst ea
      have hl := HL.out k
      have hb := HS.out.bytes k
      have HE := Lib.hid (show Crc.run (Crc.inv s) f (k + 1) = Crc.mn (Crc.run (Crc.inv s) f k ^^^ f k) 8 from rfl)
      generalize Crc.run (Crc.inv s) f k = q at hl HE ⊢
      generalize f k = v at hb hc HE
      have hx := Crc.m1_xs q v hl hb
      have HM := Lib.hid (fun j => Crc.mn_lt (Crc.xor_lt hl hb) j)
      generalize q ^^^ v = x at hx HE HM
      go_wp2_with fail
      clear hx
      go_loop [5, 7] (fun r i => ∃ j : Nat, j ≤ 8 ∧ i = .int .i64 j ∧ r = .int .u32 (Crc.mn x j : Nat)) (fun _ i => 8 - (intOf i).toNat)
      case atStart => exact ⟨0, by omega, rfl, rfl⟩
      case round =>
        obtain ⟨j, hj, rfl, rfl⟩ := hrel
        by_cases hlj : j < 8
        · have hl2 := HM.out j
          have HE2 := Lib.hid (show Crc.mn x (j + 1) = Crc.m1 (Crc.mn x j) from rfl)
          generalize Crc.mn x j = r at hl2 HE2 ⊢
          cases ht : r.testBit 0 with
          | true =>
            have ha := Crc.and1 r hl2
            rw [ht, if_pos rfl] at ha
            have hx := Crc.m1_yes r hl2 ht
            clear ht
            go_wp2_with fail
            go_round
            case rel => exact ⟨j + 1, by omega, by go_num, by rw [HE2.out]⟩
            case measure => simp [intOf]; omega
          | false =>
            have ha := Crc.and1 r hl2
            rw [ht, if_neg (by simp)] at ha
            have hx := Crc.m1_no r ht
            clear ht
            go_wp2_with fail
            go_round
            case rel => exact ⟨j + 1, by omega, by go_num, by rw [HE2.out]⟩
            case measure => simp [intOf]; omega
        · obtain rfl : j = 8 := by omega
          go_wp2_with fail
          go_round
          case rel => exact ⟨k + 1, by omega, by go_num, by rw [HE.out]⟩
          case measure => simp [intOf]; omega
    · obtain rfl : k = n := by omega
      have hq := Crc.notw _ (HL.out k)
      go_wp2
      go_ret
      exact ⟨rfl, rfl⟩

end Go.Proofs.Ytjlmajopfeplpaa

namespace Go.Proofs.Ytjlmajopfeplpaa
open Go.RowKit Go.Shelf

theorem Crc.b0 (s : Nat) : (s : Int) % 256 = ((Crc.byt s 0 : Nat) : Int) := by unfold Crc.byt; simp
theorem Crc.b1 (s : Nat) : (s : Int) / 256 % 256 = ((Crc.byt s 1 : Nat) : Int) := by unfold Crc.byt; simp
theorem Crc.b2 (s : Nat) : (s : Int) / 65536 % 256 = ((Crc.byt s 2 : Nat) : Int) := by unfold Crc.byt; simp
theorem Crc.b3 (s : Nat) : (s : Int) / 16777216 % 256 = ((Crc.byt s 3 : Nat) : Int) := by unfold Crc.byt; simp

/-- the four bytes of a sum, as they are laid. -/
def sumV (s : Nat) : List Value := [.int .u8 (Crc.byt s 0 : Nat), .int .u8 (Crc.byt s 1 : Nat), .int .u8 (Crc.byt s 2 : Nat), .int .u8 (Crc.byt s 3 : Nat)]
theorem sealV (f : Nat → Nat) (n : Nat) : ((List.range n).map fun i => Value.int .u8 (f i : Nat)) ++ sumV (Crc.go 0 f n) = (List.range (n + 4)).map fun i => Value.int .u8 (Crc.sealed f n i : Nat) := by
  rw [List.range_add, List.map_append]
  congr 1
  · exact List.map_congr_left fun i hi => by rw [Crc.sealed_lo (by simpa using hi)]
  · rw [show List.range 4 = [0, 1, 2, 3] from rfl]
    simp only [List.map_cons, List.map_nil]
    rw [Crc.sealed_hi (i := 0) (by omega), Crc.sealed_hi (i := 1) (by omega), Crc.sealed_hi (i := 2) (by omega), Crc.sealed_hi (i := 3) (by omega)]
    rfl
theorem cell_four (w : World) (a b c d : Value) (t : TypeId) (N : Nat) (hN : N = w.heap.size) : ∀ j u, [a, b, c, d][j]? = some u → (w.alloc (.cells #[a, b, c, d] t)).cell? ((⟨N, 0, none⟩ : Addr).add j) = some u := by
  intro j u hj
  subst hN
  rw [Addr.add_lit, Nat.zero_add, World.cell?_alloc_new]
  simpa using hj
theorem ones_four (a b c d : Nat) : ∀ u ∈ [Value.int .u8 (a : Nat), .int .u8 (b : Nat), .int .u8 (c : Nat), .int .u8 (d : Nat)], u.oneCell' = true := by
  intro u hu
  simp only [List.mem_cons, List.not_mem_nil, or_false] at hu
  rcases hu with rfl | rfl | rfl | rfl <;> rfl
theorem sealed_bytes {f : Nat → Nat} (hf : Pf.By f) (n : Nat) : Pf.By (Crc.sealed f n) := fun i => Crc.sealed_lt hf n i
theorem sealed_upto (f : Nat → Nat) (n : Nat) : Pf.Up (Crc.sealed f n) (n + 4) := fun _ hi => Crc.sealed_up hi

set_option maxHeartbeats 1000000 in
set_option maxRecDepth 100000 in
theorem rseal_any (a : Option Addr) (n cap : Nat) (f : Nat → Nat) (hn : n ≤ 10000000000) (w : World) (hS : Sl w a n cap f) :
    Calls Try.prog 21 #[.slice a n cap] w (Gives w (n + 4) (Crc.sealed f n)) := by
  obtain ⟨i0, hi, hz0, hz1, hz2⟩ := info_parts Try.infoU8
  have HS := Lib.hid hS; clear hS
  have HI := Lib.hid hi; have HZ0 := Lib.hid hz0; have HZ1 := Lib.hid hz1; have HZ2 := Lib.hid hz2
  clear hi hz0 hz1 hz2
  have HSV := Lib.hid (sealV f n)
  have hby := sealed_bytes HS.out.bytes n
  have HBY := Lib.hid hby; clear hby
  go_enter Try.func21, Try.ntmps21
  go_wp2_with fail
  refine (rgo_any a n cap f 0 (by omega) (by omega) _ HS.out).mono ?_
  rintro e w1 ⟨rfl, rfl⟩
  have b0 := Crc.b0 (Crc.go 0 f n); have b1 := Crc.b1 (Crc.go 0 f n); have b2 := Crc.b2 (Crc.go 0 f n); have b3 := Crc.b3 (Crc.go 0 f n)
  have HSU := Lib.hid (show sumV (Crc.go 0 f n) = [.int .u8 (Crc.byt (Crc.go 0 f n) 0 : Nat), .int .u8 (Crc.byt (Crc.go 0 f n) 1 : Nat), .int .u8 (Crc.byt (Crc.go 0 f n) 2 : Nat), .int .u8 (Crc.byt (Crc.go 0 f n) 3 : Nat)] from rfl)
  generalize Crc.go 0 f n = s at b0 b1 b2 b3 HSV HSU ⊢
  generalize Crc.byt s 0 = s0 at b0 HSU
  generalize Crc.byt s 1 = s1 at b1 HSU
  generalize Crc.byt s 2 = s2 at b2 HSU
  generalize Crc.byt s 3 = s3 at b3 HSU
  have hx0 := World.ownsRow_made (e := 5) (size := 1) w1 #[] 0 (Nat.le_refl _) (by unfold maxLen; omega) rfl
  have HX0 := Lib.hid hx0; clear hx0
  cases a with
  | none =>
    obtain ⟨rfl, rfl⟩ := HS.out.nil rfl
    have HB0 := Lib.hid ((Below.refl w1.heap.size w1).alloc (Nat.le_refl _) (.cells #[] 5))
    go_wp2_with (first
      | (refine wpList_append_own_none (o := ⟨some 8, _, _, _, _, _⟩) rfl (.tmp 6) (.tmp 7) 27 rfl w1.heap.size 5 i0 1 Try.underlying27 HI.out _ 0 [] rfl HX0.out rfl ?_)
      | (refine wpList_append_own (o := ⟨some 21, _, _, _, _, _⟩) _ rfl (.tmp 8) (.tmp 20) 27 rfl w1.heap.size 5 i0 (.int .u8 0) 1 1 Try.underlying27 HI.out HZ0.out HZ1.out HZ2.out rfl (by decide) _ 0 _ rfl (own_below HX0.out ((Below.refl _ _).alloc (Nat.le_refl _) _)) ⟨w1.heap.size + 1, 0, none⟩ 4 4 [.int .u8 (s0 : Nat), .int .u8 (s1 : Nat), .int .u8 (s2 : Nat), .int .u8 (s3 : Nat)] rfl rfl (cell_four (w1.alloc (.cells #[] 5)) _ _ _ _ 5 _ (by simp)) (ones_four _ _ _ _) (by unfold maxLen; omega) (by omega) (by have := HB0.out.size; simp at this ⊢; omega) ?_; intro v2 w3 hown2 hgrow2 _; have HO2 := Lib.hid hown2; have HB2 := Lib.hid ((HB0.out.alloc HB0.out.size (.cells #[.int .u8 (s0 : Nat), .int .u8 (s1 : Nat), .int .u8 (s2 : Nat), .int .u8 (s3 : Nat)] 5)).grown hgrow2 (by have := HB0.out.size; simp at this ⊢; omega) (fun q e => (HX0.out.lt q e).1)); clear hown2 hgrow2))
    go_ret
    have hf : w3.ownsRow w1.heap.size 5 1 v2 (0 + 4) (((List.range 0).map fun i => Value.int .u8 (f i : Nat)) ++ [.int .u8 (s0 : Nat), .int .u8 (s1 : Nat), .int .u8 (s2 : Nat), .int .u8 (s3 : Nat)]) := HO2.out
    rw [← HSU.out, HSV.out] at hf
    obtain ⟨a3, c3, rfl, hN⟩ := owns_new hf HBY.out (sealed_upto f _)
    exact ⟨a3, c3, rfl, hN, HB2.out⟩
  | some ad =>
    go_wp2_with (first
      | (refine wpList_append_own (o := ⟨some 8, _, _, _, _, _⟩) _ rfl (.tmp 6) (.tmp 7) 27 rfl w1.heap.size 5 i0 (.int .u8 0) 1 1 Try.underlying27 HI.out HZ0.out HZ1.out HZ2.out rfl (by decide) _ 0 [] rfl HX0.out ad n cap ((List.range n).map fun i => Value.int .u8 (f i : Nat)) rfl (by simp) (Sl.reads (HS.out.same ((Below.refl _ _).alloc (Nat.le_refl _) _)) _ rfl) (ones_map _ _) (by unfold maxLen; omega) (by omega) (by simp) ?_; intro v1 w2 hown hgrow _; rw [Nat.zero_add, List.nil_append] at hown; have HO := Lib.hid hown; have HB := Lib.hid (((Below.refl w1.heap.size w1).alloc (Nat.le_refl _) (.cells #[] 5)).grown hgrow (by simp) (by intro k hk; cases hk; exact Nat.le_refl _)); clear hown hgrow)
      | (refine wpList_append_own (o := ⟨some 21, _, _, _, _, _⟩) _ rfl (.tmp 8) (.tmp 20) 27 rfl w1.heap.size 5 i0 (.int .u8 0) 1 1 Try.underlying27 HI.out HZ0.out HZ1.out HZ2.out rfl (by decide) _ n _ rfl (own_below HO.out ((Below.refl _ _).alloc (Nat.le_refl _) _)) ⟨w2.heap.size, 0, none⟩ 4 4 [.int .u8 (s0 : Nat), .int .u8 (s1 : Nat), .int .u8 (s2 : Nat), .int .u8 (s3 : Nat)] rfl rfl (cell_four (w2) _ _ _ _ 5 _ (by simp)) (ones_four _ _ _ _) (by unfold maxLen; omega) (by omega) (by have := HB.out.size; simp at this ⊢; omega) ?_; intro v2 w3 hown2 hgrow2 _; have HO2 := Lib.hid hown2; have HB2 := Lib.hid ((HB.out.alloc HB.out.size (.cells #[.int .u8 (s0 : Nat), .int .u8 (s1 : Nat), .int .u8 (s2 : Nat), .int .u8 (s3 : Nat)] 5)).grown hgrow2 (by have := HB.out.size; simp at this ⊢; omega) (fun q e => (HO.out.lt q e).1)); clear hown2 hgrow2))
    go_ret
    have hf := HO2.out
    rw [← HSU.out, HSV.out] at hf
    obtain ⟨a3, c3, rfl, hN⟩ := owns_new hf HBY.out (sealed_upto f _)
    exact ⟨a3, c3, rfl, hN, HB2.out⟩

end Go.Proofs.Ytjlmajopfeplpaa

namespace Go.Proofs.Ytjlmajopfeplpaa.Nt
open Go.RowKit Go.Shelf
attribute [local go_sem] Oper.semAt_some

/-- a Boolean that tells of something. -/
def BoSays (P : Prop) (e : Ending) : Prop := ∃ v : Bool, e = .returned (.bool v) ∧ (v = true ↔ P)
theorem BoSays.no {P : Prop} (h : ¬ P) : BoSays P (.returned (.bool false)) := ⟨false, rfl, fun e => (by cases e), fun e => absurd e h⟩
theorem BoSays.yes {P : Prop} (h : P) : BoSays P (.returned (.bool true)) := ⟨true, rfl, fun _ => h, fun _ => rfl⟩
/-- rows of a table, as they read. -/
structure Tb (w : World) (a : Option Addr) (n : Nat) (K L : Nat → Int) : Prop where
  cell : ∀ i, i < n → ∃ b o, a = some ⟨b, o, none⟩ ∧ w.cell? ⟨b, o + i * 2, none⟩ = some (.int .i64 (K i)) ∧ w.cell? ⟨b, o + i * 2 + 1, none⟩ = some (.int .i64 (L i))
section
variable {w w' : World} {a : Option Addr} {n : Nat} {K L : Nat → Int}
theorem Tb.same (s : Tb w a n K L) (hB : Below w.heap.size w w') : Tb w' a n K L := ⟨fun i hi => by
  obtain ⟨b, o, e, h1, h2⟩ := s.cell i hi
  exact ⟨b, o, e, by rw [hB.cell (World.block_lt_of_cell? _ _ h1)]; exact h1, by rw [hB.cell (World.block_lt_of_cell? _ _ h2)]; exact h2⟩⟩
theorem Tb.less (s : Tb w a n K L) {k : Nat} (hk : k ≤ n) : Tb w a k K L := ⟨fun i hi => s.cell i (by omega)⟩
theorem Tb.own {row : Option Nat} (s : Tb w a n K L) (hg : w.grownBy w' row) (hr : ∀ k, row = some k → ∃ o : Obj, w.heap[k]? = some o ∧ o.isCells = false) : Tb w' a n K L := ⟨fun i hi => by
  obtain ⟨b, o, e, h1, h2⟩ := s.cell i hi
  exact ⟨b, o, e, cell_kept h1 hg hr, cell_kept h2 hg hr⟩⟩
end
section
variable {Pg : Program}
/-- an append, as one step of a region. -/
theorem step_apd {ops : Array Oper} {o : Oper} {act : Act} {w : World} {K : Act → World → Prop} {Q : Exit → Act → World → Prop} {E : Prop} (hgd : o.guard = none) (s x : Operand) (t : TypeId)
    (ho : o.op = .call { callee := .builtin .append, args := #[s, x], argTypes := #[t, t] })
    (base : Nat) (e : TypeId) (i : TypeInfo) (z : Value) (size bytes : Nat) (ht : Pg.underlying t = some (.slice e)) (hi : Pg.info? e = some i) (hz : i.zero = some z)
    (hsize : i.size = size) (hby : i.bytes = bytes) (hzs : z.cells.size = size) (hsz : 0 < size)
    (v : Value) (n : Nat) (xs : List Value) (hs : act.eval s = v) (hown : w.ownsRow base e size v n xs)
    (ad : Addr) (m c : Nat) (news : List Value) (hx : act.eval x = .slice (some ad) m c) (hl : news.length = m * size) (hnews : ∀ j u, news[j]? = some u → w.cell? (ad.add j) = some u) (h1 : ∀ u ∈ news, u.oneCell' = true)
    (h63 : n + m ≤ maxLen) (hbytes : (n + m) * bytes ≤ 140737488355328) (hbase : base ≤ w.heap.size)
    (h : ∀ v' w', w'.ownsRow base e size v' (n + m) (xs ++ news) → w.grownBy w' v.ownBlock → K (act.put o.dst v') w') :
    if Region.wanted o (yielded ops act.tmps) = true then Oper.wp Pg o act w K Q else E := by
  have hw : Region.wanted o (yielded ops act.tmps) = true := by simp [Region.wanted, hgd]
  rw [if_pos hw]
  exact wp_append_own w s x t ho base e i z size bytes ht hi hz hsize hby hzs hsz v n xs hs hown ad m c news hx hl hnews h1 h63 hbytes hbase fun v' w' h2 h3 _ => h v' w' h2 h3
end
theorem cell_new2 (w : World) (u v : Value) (t : TypeId) : ∀ j x, [u, v][j]? = some x → (w.alloc (.cells #[u, v] t)).cell? ((⟨w.heap.size, 0, none⟩ : Addr).add j) = some x := by
  intro j x hx
  have hj : j < 2 := by
    have := (List.getElem?_eq_some_iff.1 hx).1
    simpa using this
  rw [Addr.add_lit, World.cell?_alloc_new]
  rw [← hx]
  rcases (show j = 0 ∨ j = 1 by omega) with rfl | rfl <;> rfl
/-- rows of a table, put into a list. -/
def tdl (K L : Nat → Int) : Nat → List Value
  | 0 => []
  | t + 1 => tdl K L t ++ [.int .i64 (K t), .int .i64 (L t)]
theorem tdl_len (K L : Nat → Int) : ∀ t, (tdl K L t).length = t * 2
  | 0 => rfl
  | t + 1 => by unfold tdl; rw [List.length_append, tdl_len K L t]; simp; omega
theorem tdl_at (K L : Nat → Int) : ∀ t i, i < t → (tdl K L t)[i * 2]? = some (.int .i64 (K i)) ∧ (tdl K L t)[i * 2 + 1]? = some (.int .i64 (L i))
  | 0, i, h => absurd h (Nat.not_lt_zero i)
  | t + 1, i, h => by
    unfold tdl
    have hl := tdl_len K L t
    by_cases e : i = t
    · subst e
      rw [List.getElem?_append_right (by omega), List.getElem?_append_right (by omega), hl, Nat.sub_self, Nat.add_sub_cancel_left]
      exact ⟨rfl, rfl⟩
    · rw [List.getElem?_append_left (by omega), List.getElem?_append_left (by omega)]
      exact tdl_at K L t i (by omega)
theorem tdl_tb {w : World} {B t c : Nat} {a : Option Addr} {K L : Nat → Int} (ho : w.ownsRow B 41 2 (.slice a t c) t (tdl K L t)) : Tb w a t K L ∧ t ≤ c := by
  obtain ⟨_, ⟨e, h0⟩ | ⟨g, cap', cur, e, hg, hh, hnc, hcm, hs, ht⟩⟩ := ho
  · cases e
    exact ⟨⟨fun i hi => absurd hi (Nat.not_lt_zero i)⟩, Nat.le_refl _⟩
  · simp only [Value.slice.injEq, true_and] at e
    obtain ⟨rfl, rfl⟩ := e
    have hat : ∀ j, j < t * 2 → cur[j]? = (tdl K L t)[j]? := fun j hj => by
      rw [← ht, List.getElem?_take, if_pos hj, Array.getElem?_toList]
    refine ⟨⟨fun i hi => ?_⟩, hnc⟩
    obtain ⟨h1, h2⟩ := tdl_at K L t i hi
    refine ⟨g, 0, rfl, ?_, ?_⟩
    · rw [Nat.zero_add, cell_of_row w g _ cur _ _ hh, hat _ (by omega)]; exact h1
    · rw [Nat.zero_add, cell_of_row w g _ cur _ _ hh, hat _ (by omega)]; exact h2
theorem Try.infoCt : (Try.prog.info? 41).map (fun i => (i.zero, i.size, i.bytes)) = some (some (.agg #[.int .i64 0, .int .i64 0]), 2, 16) := by kernel_rfl
theorem int_ones (x y : Int) : ∀ u ∈ [Value.int .i64 x, Value.int .i64 y], u.oneCell' = true := by
  intro u hu
  rcases List.mem_cons.1 hu with rfl | hu
  · rfl
  · rcases List.mem_singleton.1 hu with rfl; rfl
theorem hdl_cap {w : World} {B t c n : Nat} {e : TypeId} {z : Nat} {a : Option Addr} {xs : List Value} (ho : w.ownsRow B e z (.slice a t c) n xs) : t ≤ c ∧ c ≤ maxLen := by
  obtain ⟨_, ⟨e, h0⟩ | ⟨g, cap', cur, e, hg, hh, hnc, hcm, hs, ht⟩⟩ := ho
  · cases e; exact ⟨Nat.le_refl _, Nat.zero_le _⟩
  · simp only [Value.slice.injEq] at e
    obtain ⟨e1, e2, e3⟩ := e
    subst e3
    exact ⟨by omega, hcm⟩
/-- a row that marks. -/
def mkT (i : Nat) : Int := 8000024 + (i : Int)
def tK (K : Nat → Int) (n i : Nat) : Int := if i < n then K i else mkT (i - n)
def tL (L : Nat → Int) (n i : Nat) : Int := if i < n then L i else 0
theorem tdl_congr {K K' L L' : Nat → Int} : ∀ t, (∀ i, i < t → K i = K' i ∧ L i = L' i) → tdl K L t = tdl K' L' t
  | 0, _ => rfl
  | t + 1, h => by
    unfold tdl
    rw [tdl_congr t (fun i hi => h i (by omega)), (h t (by omega)).1, (h t (by omega)).2]
theorem tdl_ones (K L : Nat → Int) : ∀ t, ∀ u ∈ tdl K L t, u.oneCell' = true
  | 0, u, h => by cases h
  | t + 1, u, h => by
    unfold tdl at h
    rcases List.mem_append.1 h with h | h
    · exact tdl_ones K L t u h
    · exact int_ones _ _ u h
theorem tb_news {w : World} {a : Option Addr} {n : Nat} {K L : Nat → Int} (hT : Tb w a n K L) : ∀ ad, a = some ad → ∀ j u, (tdl K L n)[j]? = some u → w.cell? (ad.add j) = some u := fun ad e j u hj => by
  have hjn : j < n * 2 := by have := (List.getElem?_eq_some_iff.1 hj).1; rwa [tdl_len] at this
  obtain ⟨b, o, ea, h1, h2⟩ := hT.cell (j / 2) (by omega)
  obtain ⟨t1, t2⟩ := tdl_at K L n (j / 2) (by omega)
  rw [e] at ea
  cases ea
  rw [Addr.add_lit]
  rcases Nat.mod_two_eq_zero_or_one j with hm | hm
  · have ej : j / 2 * 2 = j := by omega
    rw [ej] at t1 h1
    rw [hj] at t1
    cases t1; exact h1
  · have ej : j / 2 * 2 + 1 = j := by omega
    rw [Nat.add_assoc, ej] at h2
    rw [ej, hj] at t2
    cases t2; exact h2
/-- bytes, as cells. -/
def bl (f : Nat → Nat) (n : Nat) : List Value := (List.range n).map fun i => Value.int .u8 (f i : Nat)
theorem bl_len (f : Nat → Nat) (n : Nat) : (bl f n).length = n := by simp [bl]
theorem bl_app {f g : Nat → Nat} {n m : Nat} (h : ∀ j, j < m → g j = f (n + j)) : bl f n ++ bl g m = bl f (n + m) := by
  unfold bl
  apply List.ext_getElem?
  intro i
  by_cases hi : i < n
  · rw [List.getElem?_append_left (by simp; omega)]
    simp [hi, show i < n + m by omega]
  · rw [List.getElem?_append_right (by simp; omega)]
    by_cases hj : i < n + m
    · have e := h (i - n) (by omega)
      rw [show n + (i - n) = i by omega] at e
      simp [hj, show i - n < m by omega, e]
    · rw [List.getElem?_eq_none (by simp; omega), List.getElem?_eq_none (by simp; omega)]
theorem bl_one (x : Nat) : bl (fun _ => x) 1 = [.int .u8 (x : Nat)] := rfl
theorem bl_congr {f g : Nat → Nat} {n : Nat} (h : ∀ i, i < n → f i = g i) : bl f n = bl g n := by
  unfold bl
  apply List.map_congr_left
  intro i hi
  rw [h i (List.mem_range.1 hi)]
theorem bl_ones (f : Nat → Nat) (n : Nat) : ∀ u ∈ bl f n, u.oneCell' = true := ones_map _ _
theorem own_sl {w : World} {B s n : Nat} {e : TypeId} {v : Value} {xs : List Value} (h : w.ownsRow B e s v n xs) : ∃ a c, v = .slice a n c := by
  rcases h.2 with ⟨rfl, rfl⟩ | ⟨g, cap, cur, rfl, _⟩
  · exact ⟨none, 0, rfl⟩
  · exact ⟨_, _, rfl⟩
theorem own_be {w w' : World} {B s n : Nat} {e : TypeId} {v : Value} {xs : List Value} (h : w.ownsRow B e s v n xs) (hB : Below w.heap.size w w') : w'.ownsRow B e s v n xs := by
  obtain ⟨h1, h2⟩ := h
  refine ⟨h1, ?_⟩
  rcases h2 with h2 | ⟨g, cap, cur, h3, h4, h5, h6⟩
  · exact Or.inl h2
  · exact Or.inr ⟨g, cap, cur, h3, h4, (hB.block g (Array.getElem?_eq_some_iff.1 h5).1).trans h5, h6⟩
theorem bl_s (f : Nat → Nat) (k : Nat) : bl f k ++ [.int .u8 (f k : Nat)] = bl f (k + 1) := by
  unfold bl; rw [List.range_succ, List.map_append]; rfl
/-- bytes are appended to a row of one's own. -/
theorem wpList_app {w : World} {ops : Array Oper} {rest : List Oper} {o : Oper} {act : Act} {Q : Exit → Act → World → Prop} (hgd : o.guard = none) (s x : Operand)
    (ho : o.op = .call { callee := .builtin .append, args := #[s, x], argTypes := #[27, 27] })
    (B n m c : Nat) (F g : Nat → Nat) (v : Value) (hs : act.eval s = v) (hown : w.ownsRow B 5 1 v n (bl F n)) (a : Option Addr) (hx : act.eval x = .slice a m c) (hS : Sl w a m c g) (hF : ∀ j, j < m → g j = F (n + j)) (hm : n + m ≤ 100000000) (hbase : B ≤ w.heap.size)
    (h : ∀ a' c' w', w'.ownsRow B 5 1 (.slice a' (n + m) c') (n + m) (bl F (n + m)) → w.grownBy w' v.ownBlock → wpList Try.prog ops Q rest (act.put o.dst (.slice a' (n + m) c')) w') : wpList Try.prog ops Q (o :: rest) act w := by
  obtain ⟨i0, hi, hz0, hz1, hz2⟩ := info_parts Try.infoU8
  cases a with
  | none =>
    obtain ⟨rfl, rfl⟩ := hS.nil rfl
    refine wpList_append_own_none hgd s x 27 ho B 5 i0 1 Try.underlying27 hi v n _ hs hown hx ?_
    obtain ⟨a', c', rfl⟩ := own_sl hown
    exact h a' c' w hown ⟨rfl, rfl, rfl, Nat.le_refl _, fun _ _ _ => rfl⟩
  | some ad =>
    refine wpList_append_own _ hgd s x 27 ho B 5 i0 (.int .u8 0) 1 1 Try.underlying27 hi hz0 hz1 hz2 rfl (by decide) v n _ hs hown ad m c (bl g m) hx (by rw [bl_len, Nat.mul_one]) (hS.reads _ rfl) (bl_ones g m) (by unfold maxLen; omega) (by omega) hbase ?_
    intro v' w' hown' hg' _
    rw [bl_app hF] at hown'
    obtain ⟨a', c', rfl⟩ := own_sl hown'
    exact h a' c' w' hown' hg'
/-- a row of bytes that lie in a block, as it reads. -/
theorem sl_lit (w : World) (xs : List Nat) (hx : ∀ x ∈ xs, x < 256) (hl : xs.length ≤ 1000) : Sl (w.alloc (.cells (xs.map fun x => Value.int .u8 (x : Nat)).toArray 5)) (some ⟨w.heap.size, 0, none⟩) xs.length xs.length (fun i => xs.getD i 0) := by
  refine ⟨Nat.le_refl _, by unfold maxLen; omega, fun i => ?_, fun i hi => ?_, fun e => (by cases e), fun ad e _ => (by cases e; rfl), fun ad e i hi => ?_⟩
  · by_cases hi : i < xs.length
    · rw [List.getD_eq_getElem?_getD, List.getElem?_eq_getElem hi]
      exact hx _ (List.getElem_mem hi)
    · rw [List.getD_eq_getElem?_getD, List.getElem?_eq_none (by omega)]; show 0 < 256; omega
  · rw [List.getD_eq_getElem?_getD, List.getElem?_eq_none (by omega)]; rfl
  · cases e
    show World.cell? _ ⟨_, 0 + i, none⟩ = _
    rw [Nat.zero_add, cell_of_row _ _ i _ _ _ (heap_alloc_new w _), List.getElem?_toArray, List.getElem?_map, List.getD_eq_getElem?_getD, List.getElem?_eq_getElem hi]
    rfl
/-- rows are the same. -/
def SR (n m : Nat) (K L K' L' : Nat → Int) : Prop := n = m ∧ ∀ i, i < n → K i = K' i ∧ L i = L' i
theorem Tb.blk {w w' : World} {g n : Nat} {K L : Nat → Int} (s : Tb w (some ⟨g, 0, none⟩) n K L) (hk : w'.heap[g]? = w.heap[g]?) : Tb w' (some ⟨g, 0, none⟩) n K L := ⟨fun i hi => by
  obtain ⟨b, o, e, h1, h2⟩ := s.cell i hi
  cases e
  exact ⟨g, 0, rfl, by rw [World.cell?_of_block (a := ⟨g, 0 + i * 2, none⟩) hk]; exact h1, by rw [World.cell?_of_block (a := ⟨g, 0 + i * 2 + 1, none⟩) hk]; exact h2⟩⟩
theorem Tb.orig {w : World} {a : Option Addr} {n : Nat} {K L : Nat → Int} (h : Tb w a (n + 12) (tK K n) (tL L n)) : Tb w a n K L := ⟨fun i hi => by
  obtain ⟨b, o, e, h1, h2⟩ := h.cell i (by omega)
  rw [show tK K n i = K i from if_pos hi] at h1
  rw [show tL L n i = L i from if_pos hi] at h2
  exact ⟨b, o, e, h1, h2⟩⟩
end Go.Proofs.Ytjlmajopfeplpaa.Nt

namespace Go.Proofs.Ytjlmajopfeplpaa.Nt
open Go.RowKit Go.Shelf

/-- a report's numbers. -/
structure Mn where
  S : Int
  Q : Int
  N : Int
  m : Nat
  C : Nat → Int
  T : Nat → Int
/-- a count that may be, behind those ahead of it. -/
def CtOk (N : Int) (C T : Nat → Int) (i : Nat) : Prop := 1 ≤ C i ∧ C i ≤ N ∧ 1 ≤ T i ∧ T i ≤ 65535 ∧ (0 < i → C (i - 1) < C i)
/-- counts of a right report. -/
def CtsOk (N : Int) (m : Nat) (C T : Nat → Int) : Prop := ∀ i, i < m → CtOk N C T i
/-- a report is right. -/
def RN (h : Mn) : Prop := (0 ≤ h.S ∧ h.S ≤ 65535) ∧ (1 ≤ h.Q ∧ h.Q ≤ 2147483647) ∧ (1 ≤ h.N ∧ h.N ≤ 255) ∧ CtsOk h.N h.m h.C h.T
/-- two are the same. -/
def EN (h g : Mn) : Prop := h.S = g.S ∧ h.Q = g.Q ∧ h.N = g.N ∧ h.m = g.m ∧ ∀ i, i < h.m → h.C i = g.C i ∧ h.T i = g.T i
theorem EN.refl (h : Mn) : EN h h := ⟨rfl, rfl, rfl, rfl, fun _ _ => ⟨rfl, rfl⟩⟩
theorem EN.symm {h g : Mn} (e : EN h g) : EN g h := ⟨e.1.symm, e.2.1.symm, e.2.2.1.symm, e.2.2.2.1.symm, fun i hi => by
  have h := e.2.2.2.2 i (by rw [e.2.2.2.1]; exact hi)
  exact ⟨h.1.symm, h.2.symm⟩⟩
theorem EN.trans {h g k : Mn} (e : EN h g) (f : EN g k) : EN h k := ⟨e.1.trans f.1, e.2.1.trans f.2.1, e.2.2.1.trans f.2.2.1, e.2.2.2.1.trans f.2.2.2.1, fun i hi => by
  have h1 := e.2.2.2.2 i hi
  have h2 := f.2.2.2.2 i (by rw [← e.2.2.2.1]; exact hi)
  exact ⟨h1.1.trans h2.1, h1.2.trans h2.2⟩⟩
theorem rn_congr {h g : Mn} (e : EN h g) (hr : RN h) : RN g := by
  obtain ⟨e1, e2, e3, e4, e5⟩ := e
  obtain ⟨h1, h2, h3, h4⟩ := hr
  refine ⟨by rw [← e1]; exact h1, by rw [← e2]; exact h2, by rw [← e3]; exact h3, ?_⟩
  intro i hi
  rw [← e4] at hi
  have h6 := h4 i hi
  unfold CtOk at h6 ⊢
  rw [← e3, ← (e5 i hi).1, ← (e5 i hi).2]
  refine ⟨h6.1, h6.2.1, h6.2.2.1, h6.2.2.2.1, fun h0 => ?_⟩
  rw [← (e5 (i - 1) (by omega)).1]
  exact h6.2.2.2.2 h0
/-- they rise, so they are few. -/
theorem cts_low {N : Int} {m : Nat} {C T : Nat → Int} (h : CtsOk N m C T) : ∀ i, i < m → (i : Int) + 1 ≤ C i
  | 0, hi => by have := (h 0 hi).1; simpa using this
  | i + 1, hi => by
    have h1 := cts_low h i (by omega)
    have h2 := (h (i + 1) hi).2.2.2.2 (by omega)
    rw [Nat.add_sub_cancel] at h2
    omega
theorem cts_few {N : Int} {m : Nat} {C T : Nat → Int} (h : CtsOk N m C T) (h0 : 0 ≤ N) : (m : Int) ≤ N := by
  cases m with
  | zero => exact h0
  | succ k =>
    have h1 := cts_low h k (by omega)
    have h2 := (h k (by omega)).2.1
    omega
theorem cts_up {N : Int} {m : Nat} {C T : Nat → Int} (h : CtsOk N m C T) {i : Nat} : ∀ j, i < j → j < m → C i < C j
  | 0, h1, _ => absurd h1 (Nat.not_lt_zero i)
  | j + 1, h1, h2 => by
    have h4 := (h (j + 1) h2).2.2.2.2 (by omega)
    rw [Nat.add_sub_cancel] at h4
    by_cases e : i = j
    · rw [e]; exact h4
    · have h3 := cts_up h (i := i) j (by omega) (by omega)
      omega
theorem cts_inj {N : Int} {m : Nat} {C T : Nat → Int} (h : CtsOk N m C T) {i j : Nat} (hi : i < m) (hj : j < m) (e : C i = C j) : i = j := by
  rcases Nat.lt_trichotomy i j with c | c | c
  · have := cts_up h j c hj; omega
  · exact c
  · have := cts_up h i c hi; omega
theorem rn_few {h : Mn} (hr : RN h) : h.m ≤ 255 := by
  have := cts_few hr.2.2.2 (by have := hr.2.2.1.1; omega)
  have := hr.2.2.1.2
  omega
/-- times, added. -/
def sumT (T : Nat → Int) : Nat → Int
  | 0 => 0
  | k + 1 => sumT T k + T k
theorem sumT_congr {T T' : Nat → Int} : ∀ k, (∀ i, i < k → T i = T' i) → sumT T k = sumT T' k
  | 0, _ => rfl
  | k + 1, h => by unfold sumT; rw [sumT_congr k fun i hi => h i (by omega), h k (by omega)]
theorem sumT_le {N : Int} {m : Nat} {C T : Nat → Int} (h : CtsOk N m C T) : ∀ k, k ≤ m → 0 ≤ sumT T k ∧ sumT T k ≤ 65535 * (k : Int)
  | 0, _ => by simp [sumT]
  | k + 1, hk => by
    have h1 := sumT_le h k (by omega)
    have h2 := h k (by omega)
    unfold CtOk at h2
    unfold sumT
    omega
open Classical in
/-- the sum of a report. -/
noncomputable def sumN (h : Mn) : Int := if RN h then sumT h.T h.m else 0
/-- the times of the first place at which so many came. -/
def cntT (C T : Nat → Int) (x : Int) : Nat → Int
  | 0 => 0
  | k + 1 => if cntT C T x k = 0 then (if C k = x then T k else 0) else cntT C T x k
open Classical in
/-- a count of a report. -/
noncomputable def cntN (h : Mn) (x : Int) : Int := if RN h then cntT h.C h.T x h.m else 0
theorem cntT_none {C T : Nat → Int} {x : Int} : ∀ k, (∀ i, i < k → C i ≠ x) → cntT C T x k = 0
  | 0, _ => rfl
  | k + 1, h => by unfold cntT; rw [cntT_none k fun i hi => h i (by omega), if_pos rfl, if_neg (h k (by omega))]
theorem cntT_at {N : Int} {m : Nat} {C T : Nat → Int} (h : CtsOk N m C T) {i : Nat} : ∀ k, i < k → k ≤ m → cntT C T (C i) k = T i
  | 0, h1, _ => absurd h1 (Nat.not_lt_zero i)
  | k + 1, h1, h2 => by
    unfold cntT
    by_cases e : i = k
    · subst e
      rw [cntT_none i (fun j hj e => by have := cts_up h i hj (by omega); omega), if_pos rfl, if_pos rfl]
    · rw [cntT_at h k (by omega) (by omega)]
      have := (h i (by omega)).2.2.1
      rw [if_neg (by omega)]
theorem sumN_congr {h g : Mn} (e : EN h g) : sumN h = sumN g := by
  unfold sumN
  by_cases hr : RN h
  · rw [if_pos hr, if_pos (rn_congr e hr), ← e.2.2.2.1]
    exact sumT_congr _ fun i hi => (e.2.2.2.2 i hi).2
  · rw [if_neg hr, if_neg (fun q => hr (rn_congr e.symm q))]
/-- how long a datagram is, but for its sum. -/
def pln (h : Mn) : Nat := 9 + 3 * h.m
/-- a datagram, but for its sum. -/
def pl (h : Mn) (i : Nat) : Nat :=
  if i = 0 then 2 else if i < 3 then dg h.S.toNat 2 (i - 1) else if i < 7 then dg h.Q.toNat 4 (i - 3) else if i = 7 then h.N.toNat % 256 else if i = 8 then h.m % 256
  else if i < 9 + 3 * h.m then (if (i - 9) % 3 = 0 then (h.C ((i - 9) / 3)).toNat % 256 else dg (h.T ((i - 9) / 3)).toNat 2 ((i - 9) % 3 - 1)) else 0
theorem pl_by (h : Mn) : Pf.By (pl h) := fun i => by
  unfold pl
  have d := fun n s j => dg_by n s j
  split
  · omega
  · split
    · exact d _ _ _
    · split
      · exact d _ _ _
      · split
        · omega
        · split
          · omega
          · split
            · split
              · omega
              · exact d _ _ _
            · omega
theorem pl_up (h : Mn) : Pf.Up (pl h) (9 + 3 * h.m) := fun i hi => by
  unfold pl
  rw [if_neg (by omega), if_neg (by omega), if_neg (by omega), if_neg (by omega), if_neg (by omega), if_neg (by omega)]
theorem pl_S (h : Mn) : ∀ j, j < 2 → dg h.S.toNat 2 j = pl h (1 + j) := fun j hj => by
  unfold pl; rw [if_neg (by omega), if_pos (by omega), show 1 + j - 1 = j by omega]
theorem pl_Q (h : Mn) : ∀ j, j < 4 → dg h.Q.toNat 4 j = pl h (3 + j) := fun j hj => by
  unfold pl; rw [if_neg (by omega), if_neg (by omega), if_pos (by omega), show 3 + j - 3 = j by omega]
theorem pl_C (h : Mn) {k : Nat} (hk : k < h.m) : pl h (9 + 3 * k) = (h.C k).toNat % 256 := by
  unfold pl
  rw [if_neg (by omega), if_neg (by omega), if_neg (by omega), if_neg (by omega), if_neg (by omega), if_pos (by omega), if_pos (by omega), show (9 + 3 * k - 9) / 3 = k by omega]
theorem pl_T (h : Mn) {k : Nat} (hk : k < h.m) : ∀ j, j < 2 → dg (h.T k).toNat 2 j = pl h (9 + 3 * k + 1 + j) := fun j hj => by
  unfold pl
  rw [if_neg (by omega), if_neg (by omega), if_neg (by omega), if_neg (by omega), if_neg (by omega), if_pos (by omega), if_neg (by omega), show (9 + 3 * k + 1 + j - 9) / 3 = k by omega, show (9 + 3 * k + 1 + j - 9) % 3 - 1 = j by omega]
/-- what a datagram's bytes tell of its report. -/
def nt (p : Nat → Nat) : Mn := ⟨(vn (fun j => p (1 + j)) 2 : Nat), (vn (fun j => p (3 + j)) 4 : Nat), (p 7 : Nat), p 8, fun i => (p (9 + 3 * i) : Nat), fun i => (vn (fun j => p (10 + 3 * i + j)) 2 : Nat)⟩
/-- what is put tells its report. -/
theorem nt_pl {h : Mn} (hr : RN h) : EN (nt (pl h)) h := by
  have hm := rn_few hr
  obtain ⟨h1, h2, h3, h5⟩ := hr
  have eS : vn (fun j => pl h (1 + j)) 2 = h.S.toNat := by
    rw [vn_congr (g := dg h.S.toNat 2) 2 (fun j hj => (pl_S h j hj).symm), vn_dg (by omega)]
  have eQ : vn (fun j => pl h (3 + j)) 4 = h.Q.toNat := by
    rw [vn_congr (g := dg h.Q.toNat 4) 4 (fun j hj => (pl_Q h j hj).symm), vn_dg (by omega)]
  have eN : pl h 7 = h.N.toNat := by
    show h.N.toNat % 256 = _; omega
  have em : pl h 8 = h.m := by
    show h.m % 256 = _; omega
  refine ⟨?_, ?_, ?_, em, fun i hi => ?_⟩
  · show ((vn (fun j => pl h (1 + j)) 2 : Nat) : Int) = h.S; rw [eS]; omega
  · show ((vn (fun j => pl h (3 + j)) 4 : Nat) : Int) = h.Q; rw [eQ]; omega
  · show ((pl h 7 : Nat) : Int) = h.N; rw [eN]; omega
  · have hi : i < h.m := by
      have : (nt (pl h)).m = h.m := em
      omega
    have hrow := h5 i hi
    unfold CtOk at hrow
    constructor
    · show ((pl h (9 + 3 * i) : Nat) : Int) = h.C i
      rw [pl_C h hi]; omega
    · show ((vn (fun j => pl h (10 + 3 * i + j)) 2 : Nat) : Int) = h.T i
      have e : vn (fun j => pl h (10 + 3 * i + j)) 2 = (h.T i).toNat := by
        rw [vn_congr (g := dg (h.T i).toNat 2) 2 (fun j hj => by rw [pl_T h hi j hj]; congr 1; omega), vn_dg (by omega)]
      rw [e]; omega
/-- bytes are put of what they tell. -/
theorem pl_nt {p : Nat → Nat} (hp : Pf.By p) (h0 : p 0 = 2) (i : Nat) (hi : i < 9 + 3 * p 8) : pl (nt p) i = p i := by
  have em : (nt p).m = p 8 := rfl
  unfold pl
  rw [em]
  by_cases c0 : i = 0
  · rw [if_pos c0, c0, h0]
  rw [if_neg c0]
  by_cases c1 : i < 3
  · rw [if_pos c1]
    show dg ((vn (fun j => p (1 + j)) 2 : Nat) : Int).toNat 2 (i - 1) = _
    rw [Int.toNat_natCast, dg_vn (fun j => hp _) 2 (i - 1) (by omega), show 1 + (i - 1) = i by omega]
  rw [if_neg c1]
  by_cases c2 : i < 7
  · rw [if_pos c2]
    show dg ((vn (fun j => p (3 + j)) 4 : Nat) : Int).toNat 4 (i - 3) = _
    rw [Int.toNat_natCast, dg_vn (fun j => hp _) 4 (i - 3) (by omega), show 3 + (i - 3) = i by omega]
  rw [if_neg c2]
  by_cases c3 : i = 7
  · rw [if_pos c3, c3]
    show ((p 7 : Nat) : Int).toNat % 256 = _
    have := hp 7; omega
  rw [if_neg c3]
  by_cases c5 : i = 8
  · rw [if_pos c5, c5]; have := hp 8; omega
  rw [if_neg c5, if_pos hi]
  by_cases c8 : (i - 9) % 3 = 0
  · rw [if_pos c8]
    show ((p (9 + 3 * ((i - 9) / 3)) : Nat) : Int).toNat % 256 = _
    rw [show 9 + 3 * ((i - 9) / 3) = i by omega]
    have := hp i; omega
  · rw [if_neg c8]
    show dg ((vn (fun j => p (10 + 3 * ((i - 9) / 3) + j)) 2 : Nat) : Int).toNat 2 ((i - 9) % 3 - 1) = _
    rw [Int.toNat_natCast, dg_vn (fun j => hp _) 2 _ (by omega), show 10 + 3 * ((i - 9) / 3) + ((i - 9) % 3 - 1) = i by omega]
/-- bytes are a datagram of a right report. -/
def GoodP (N : Nat) (f : Nat → Nat) : Prop := N = 9 + 3 * f 8 ∧ RN (nt f)
open Classical in
/-- the error that Parse tells of so many bytes. -/
noncomputable def perr (n : Nat) (f : Nat → Nat) : Int := if n < 4 then 4 else if okB f (n - 4) = false then 10 else if n = 4 then 4 else if f 0 ≠ 2 then 11 else if GoodP (n - 4) f then 0 else 4
end Go.Proofs.Ytjlmajopfeplpaa.Nt

namespace Go.Proofs.Ytjlmajopfeplpaa.Nt
open Go.RowKit Go.Shelf
attribute [local go_sem] Oper.semAt_some

/-- a report, as a value: its counts lie at a. -/
def nV (h : Mn) (a : Option Addr) (c : Nat) : Value := .agg #[.int .i64 h.S, .int .i64 h.Q, .int .i64 h.N, .slice a h.m c]
/-- its cells. -/
def nC (h : Mn) (a : Option Addr) (c : Nat) : Array Value := #[.int .i64 h.S, .int .i64 h.Q, .int .i64 h.N, .slice a h.m c]
/-- a report in its box. -/
def NAt (W : World) (g : Nat) (h : Mn) (a : Option Addr) (c : Nat) : Prop := W.heap[g]? = some (.cells #[.int .i64 h.S, .int .i64 h.Q, .int .i64 h.N, .slice a h.m c] 24 (0, 0))
section
variable {W W' : World} {g cc : Nat} {h : Mn} {a : Option Addr}
theorem NAt.lt (s : NAt W g h a cc) : g < W.heap.size := (Array.getElem?_eq_some_iff.1 s).1
theorem NAt.same (s : NAt W g h a cc) (hB : Below W.heap.size W W') : NAt W' g h a cc := (hB.block _ s.lt).trans s
theorem NAt.c (s : NAt W g h a cc) : W.cell? ⟨g, 0, none⟩ = some (.int .i64 h.S) ∧ W.cell? ⟨g, 1, none⟩ = some (.int .i64 h.Q) ∧ W.cell? ⟨g, 2, none⟩ = some (.int .i64 h.N) ∧ W.cell? ⟨g, 3, none⟩ = some (.slice a h.m cc) :=
  ⟨by rw [cell_of_row W g 0 _ _ _ s]; rfl, by rw [cell_of_row W g 1 _ _ _ s]; rfl, by rw [cell_of_row W g 2 _ _ _ s]; rfl, by rw [cell_of_row W g 3 _ _ _ s]; rfl⟩
theorem NAt.free (s : NAt W g h a cc) (i : Nat) : W.frozen? ⟨g, i, none⟩ = false := frozen_of_row W g i _ _ s
end
/-- a count in its box. -/
def ZAt (W : World) (g : Nat) (x y : Int) : Prop := W.heap[g]? = some (.cells #[.int .i64 x, .int .i64 y] 41 (0, 0))
theorem ZAt.c {W : World} {g : Nat} {x y : Int} (s : ZAt W g x y) : W.cell? ⟨g, 0, none⟩ = some (.int .i64 x) ∧ W.cell? ⟨g, 1, none⟩ = some (.int .i64 y) := ⟨by rw [cell_of_row W g 0 _ _ _ s]; rfl, by rw [cell_of_row W g 1 _ _ _ s]; rfl⟩
theorem ZAt.lt {W : World} {g : Nat} {x y : Int} (s : ZAt W g x y) : g < W.heap.size := (Array.getElem?_eq_some_iff.1 s).1
/-- what the next count must be above. -/
def lstC (C : Nat → Int) : Nat → Int
  | 0 => 0
  | i + 1 => C i
theorem ct_lst {N : Int} {C T : Nat → Int} {i : Nat} (hp : ∀ j, j < i → CtOk N C T j) : CtOk N C T i ↔ lstC C i < C i ∧ C i ≤ N ∧ 1 ≤ T i ∧ T i ≤ 65535 := by
  unfold CtOk
  cases i with
  | zero => show _ ↔ 0 < C 0 ∧ _; constructor <;> (intro h; omega)
  | succ j =>
    have := (hp j (by omega)).1
    show _ ↔ C j < C (j + 1) ∧ _
    rw [Nat.add_sub_cancel]
    constructor <;> (intro h; omega)
theorem all_next {P : Nat → Prop} {k : Nat} (h : ∀ j, j < k → P j) (hk : P k) : ∀ j, j < k + 1 → P j := fun j hj => by
  by_cases e : j = k
  · rw [e]; exact hk
  · exact h j (by omega)

set_option maxHeartbeats 4000000 in
set_option maxRecDepth 100000 in
theorem counted_any (N : Int) (a : Option Addr) (m c : Nat) (C T : Nat → Int) (hm : m ≤ 140737488355328) (w : World) (hT : Tb w a m C T) :
    Calls Try.prog 29 #[.int .i64 N, .slice a m c] w fun e w' => BoSays (CtsOk N m C T) e ∧ Below w.heap.size w w' := by
  have HT := Lib.hid hT; clear hT
  go_enter Try.func29, Try.ntmps29
  go_wp2_with fail
  go_loopw [5, 7, 10] (fun l _ i wr => ∃ (k : Nat) (W : World), W = wr ∧ k ≤ m ∧ i = .int .i64 (k : Nat) ∧ l = .int .i64 (lstC C k) ∧ (∀ j, j < k → CtOk N C T j) ∧ Below w.heap.size w wr) (fun _ _ i _ => m - (intOf i).toNat)
  case atStart => exact ⟨0, _, rfl, by omega, rfl, rfl, fun j hj => absurd hj (Nat.not_lt_zero j), Below.refl _ _⟩
  case round =>
    obtain ⟨k, wx, rfl, hk, rfl, rfl, hall, hB⟩ := hrel
    have HB := Lib.hid hB; have HALL := Lib.hid hall; clear hB hall
    by_cases hlt : k < m
    · have i1 : (k : Int) < (m : Int) := by omega
      obtain ⟨b, o, ea, d0, d1⟩ := (HT.out.same HB.out).cell k hlt
      subst ea
      have HIF := Lib.hid (ct_lst HALL.out)
      have HNO := Lib.hid (show ¬ CtOk N C T k → ¬ CtsOk N m C T from fun h q => h (q k hlt))
      have HNX := Lib.hid (show lstC C (k + 1) = C k from rfl)
      have HLT := Lib.hid hlt
      generalize C k = x at *
      generalize T k = y at *
      generalize lstC C k = l at *
      clear hlt
      go_upto_region 5 with fail
      obtain ⟨wy, hwy⟩ : ∃ wy, wy = wx.alloc (.cells #[.int .i64 x, .int .i64 y] 41) := ⟨_, rfl⟩
      rw [← hwy]
      have hby : Below wx.heap.size wx wy := by rw [hwy]; exact (Below.refl _ _).alloc (Nat.le_refl _) _
      have HZ := Lib.hid (show ZAt wy wx.heap.size x y by rw [hwy]; exact heap_alloc_new _ _)
      have HBY := Lib.hid (HB.out.trans (hby.mono HB.out.size))
      generalize wx.heap.size = wh at *
      clear hwy hby d0 d1
      obtain ⟨z0, z1⟩ := HZ.out.c
      by_cases e1 : x ≤ l
      · have HN := Lib.hid (HNO.out (fun q => by have := HIF.out.1 q; omega))
        go_wp2
        go_ret
        exact ⟨BoSays.no HN.out, HBY.out⟩
      by_cases e2 : N < x
      · have HN := Lib.hid (HNO.out (fun q => by have := HIF.out.1 q; omega))
        go_wp2
        go_ret
        exact ⟨BoSays.no HN.out, HBY.out⟩
      by_cases e3 : y < 1
      · have HN := Lib.hid (HNO.out (fun q => by have := HIF.out.1 q; omega))
        go_wp2
        go_ret
        exact ⟨BoSays.no HN.out, HBY.out⟩
      by_cases e4 : 65535 < y
      · have HN := Lib.hid (HNO.out (fun q => by have := HIF.out.1 q; omega))
        go_wp2
        go_ret
        exact ⟨BoSays.no HN.out, HBY.out⟩
      have HA := Lib.hid (all_next HALL.out (HIF.out.2 ⟨by omega, by omega, by omega, by omega⟩))
      have hlt := HLT.out
      go_wp2
      go_roundw
      case rel => exact ⟨k + 1, _, rfl, by omega, by go_num, by rw [HNX.out], HA.out, HBY.out⟩
      case measure => simp [intOf]; omega
    · obtain rfl : k = m := by omega
      have i1 : ¬ (k : Int) < (k : Int) := by omega
      go_wp2
      go_ret
      exact ⟨BoSays.yes HALL.out, HB.out⟩

set_option maxHeartbeats 4000000 in
set_option maxRecDepth 100000 in
theorem pright_any (h : Mn) (a : Option Addr) (c : Nat) (hm : h.m ≤ 140737488355328) (w : World) (hT : Tb w a h.m h.C h.T) :
    Calls Try.prog 13 #[nV h a c] w fun e w' => BoSays (RN h) e ∧ Below w.heap.size w w' := by
  have HX := Lib.hid (show NAt (w.alloc (.cells #[.int .i64 h.S, .int .i64 h.Q, .int .i64 h.N, .slice a h.m c] 24)) w.heap.size h a c from heap_alloc_new _ _)
  have HB := Lib.hid ((Below.refl w.heap.size w).alloc (Nat.le_refl _) (.cells #[.int .i64 h.S, .int .i64 h.Q, .int .i64 h.N, .slice a h.m c] 24))
  have HT := Lib.hid hT
  have HRT := Lib.hid (fun W hT => counted_any h.N a h.m c h.C h.T hm W hT)
  have HRH := Lib.hid (show RN h ↔ (0 ≤ h.S ∧ h.S ≤ 65535) ∧ (1 ≤ h.Q ∧ h.Q ≤ 2147483647) ∧ (1 ≤ h.N ∧ h.N ≤ 255) ∧ CtsOk h.N h.m h.C h.T from Iff.rfl)
  obtain ⟨c0, c1, c2, c3⟩ := HX.out.c
  unfold nV
  generalize RN h = R at *
  generalize h.S = S at *
  generalize h.Q = Q at *
  generalize h.N = N at *
  have no : (¬ ((0 ≤ S ∧ S ≤ 65535) ∧ (1 ≤ Q ∧ Q ≤ 2147483647) ∧ (1 ≤ N ∧ N ≤ 255))) → ¬ R := fun q r => by
    obtain ⟨r1, r2, r3, _⟩ := HRH.out.1 r
    exact q ⟨r1, r2, r3⟩
  have NO := Lib.hid no
  clear hT no hm
  go_enter Try.func13, Try.ntmps13
  by_cases e1 : 0 ≤ S
  rotate_left
  · have HN := Lib.hid (NO.out (by omega))
    go_wp2
    go_ret
    exact ⟨BoSays.no HN.out, HB.out⟩
  by_cases e2 : S ≤ 65535
  rotate_left
  · have HN := Lib.hid (NO.out (by omega))
    go_wp2
    go_ret
    exact ⟨BoSays.no HN.out, HB.out⟩
  by_cases e3 : 1 ≤ Q
  rotate_left
  · have HN := Lib.hid (NO.out (by omega))
    go_wp2
    go_ret
    exact ⟨BoSays.no HN.out, HB.out⟩
  by_cases e4 : Q ≤ 2147483647
  rotate_left
  · have HN := Lib.hid (NO.out (by omega))
    go_wp2
    go_ret
    exact ⟨BoSays.no HN.out, HB.out⟩
  by_cases e5 : 1 ≤ N
  rotate_left
  · have HN := Lib.hid (NO.out (by omega))
    go_wp2
    go_ret
    exact ⟨BoSays.no HN.out, HB.out⟩
  by_cases e6 : N ≤ 255
  rotate_left
  · have HN := Lib.hid (NO.out (by omega))
    go_wp2
    go_ret
    exact ⟨BoSays.no HN.out, HB.out⟩
  go_wp2_with fail
  refine (HRT.out _ (HT.out.same HB.out)).mono ?_
  rintro e w' ⟨⟨v, rfl, hv⟩, hB⟩
  have HVV := Lib.hid (show v = true ↔ R from hv.trans ⟨fun t => HRH.out.2 ⟨⟨e1, e2⟩, ⟨e3, e4⟩, ⟨e5, e6⟩, t⟩, fun r => (HRH.out.1 r).2.2.2⟩)
  have HB2 := Lib.hid (show Below w.heap.size w w' from HB.out.trans (hB.mono HB.out.size))
  clear hv hB c0 c1 c2 c3
  go_wp2
  go_ret
  exact ⟨⟨v, rfl, HVV.out⟩, HB2.out⟩
end Go.Proofs.Ytjlmajopfeplpaa.Nt

namespace Go.Proofs.Ytjlmajopfeplpaa.Nt
open Go.RowKit Go.Shelf
attribute [local go_sem] Oper.semAt_some

set_option maxHeartbeats 8000000 in
set_option maxRecDepth 100000 in
theorem rright_any (h : Mn) (a : Option Addr) (c : Nat) (hm : h.m ≤ 140737488355328) (w : World) (hT : Tb w a h.m h.C h.T) :
    Calls Try.prog 14 #[nV h a c] w fun e w' => BoSays (RN h) e ∧ Below w.heap.size w w' := by
  obtain ⟨w0, hw0⟩ : ∃ w0, w0 = w.alloc (.cells #[.int .i64 h.S, .int .i64 h.Q, .int .i64 h.N, .slice a h.m c] 24) := ⟨_, rfl⟩
  have HX := Lib.hid (show NAt w0 w.heap.size h a c by rw [hw0]; exact heap_alloc_new _ _)
  have HB := Lib.hid (show Below w.heap.size w w0 by rw [hw0]; exact (Below.refl w.heap.size w).alloc (Nat.le_refl _) _)
  have HT := Lib.hid (hT.same HB.out)
  have HW := Lib.hid hw0
  have HRH := Lib.hid (show RN h ↔ (0 ≤ h.S ∧ h.S ≤ 65535) ∧ (1 ≤ h.Q ∧ h.Q ≤ 2147483647) ∧ (1 ≤ h.N ∧ h.N ≤ 255) ∧ CtsOk h.N h.m h.C h.T from Iff.rfl)
  unfold nV
  generalize RN h = R at *
  clear hT hw0
  go_enter Try.func14, Try.ntmps14
  go_upto_region 1 with fail
  rw [← HW.out]
  clear HW
  obtain ⟨c0, c1, c2, c3⟩ := HX.out.c
  obtain ⟨S, hS⟩ : ∃ S, S = h.S := ⟨_, rfl⟩
  obtain ⟨Q, hQ⟩ : ∃ Q, Q = h.Q := ⟨_, rfl⟩
  obtain ⟨N, hN⟩ : ∃ N, N = h.N := ⟨_, rfl⟩
  obtain ⟨m, hmm⟩ : ∃ m, m = h.m := ⟨_, rfl⟩
  rw [← hS] at c0
  rw [← hQ] at c1
  rw [← hN] at c2
  rw [← hmm] at c3 hm
  have HX := Lib.hid (show w0.heap[w.heap.size]? = some (.cells #[.int .i64 S, .int .i64 Q, .int .i64 N, .slice a m c] 24 (0, 0)) by rw [hS, hQ, hN, hmm]; exact HX.out)
  have HRH := Lib.hid (show R ↔ (0 ≤ S ∧ S ≤ 65535) ∧ (1 ≤ Q ∧ Q ≤ 2147483647) ∧ (1 ≤ N ∧ N ≤ 255) ∧ CtsOk N m h.C h.T by rw [hS, hQ, hN, hmm]; exact HRH.out)
  have HT := Lib.hid (show Tb w0 a m h.C h.T by rw [hmm]; exact HT.out)
  generalize h.C = C at *
  generalize h.T = T at *
  clear hS hQ hN hmm
  have no : (¬ ((0 ≤ S ∧ S ≤ 65535) ∧ (1 ≤ Q ∧ Q ≤ 2147483647) ∧ (1 ≤ N ∧ N ≤ 255))) → ¬ R := fun q r => by
    obtain ⟨r1, r2, r3, _⟩ := HRH.out.1 r
    exact q ⟨r1, r2, r3⟩
  have NO := Lib.hid no
  clear no
  by_cases e1 : S < 0
  · have HN := Lib.hid (NO.out (by omega))
    go_wp2
    go_ret
    exact ⟨BoSays.no HN.out, HB.out⟩
  by_cases e2 : 65535 < S
  · have HN := Lib.hid (NO.out (by omega))
    go_wp2
    go_ret
    exact ⟨BoSays.no HN.out, HB.out⟩
  by_cases e3 : Q < 1
  · have HN := Lib.hid (NO.out (by omega))
    go_wp2
    go_ret
    exact ⟨BoSays.no HN.out, HB.out⟩
  by_cases e4 : 2147483647 < Q
  · have HN := Lib.hid (NO.out (by omega))
    go_wp2
    go_ret
    exact ⟨BoSays.no HN.out, HB.out⟩
  by_cases e5 : N < 1
  · have HN := Lib.hid (NO.out (by omega))
    go_wp2
    go_ret
    exact ⟨BoSays.no HN.out, HB.out⟩
  by_cases e6 : 255 < N
  · have HN := Lib.hid (NO.out (by omega))
    go_wp2
    go_ret
    exact ⟨BoSays.no HN.out, HB.out⟩
  have HIF := Lib.hid (show R ↔ CtsOk N m C T from HRH.out.trans ⟨fun q => q.2.2.2, fun q => ⟨by omega, by omega, by omega, q⟩⟩)
  clear HRH NO
  go_wp2_with fail
  clear c0 c1 c2 c3 e1 e2 e3 e4 e5 e6
  have HWG := Lib.hid (show w.heap.size < w0.heap.size from (Array.getElem?_eq_some_iff.1 HX.out).1)
  go_loopw [3, 4] (fun i _ wr => ∃ (k : Nat) (W : World), W = wr ∧ k ≤ m ∧ i = .int .i64 (k : Nat) ∧ (∀ j, j < k → CtOk N C T j) ∧ Below w0.heap.size w0 wr) (fun i _ _ => m - (intOf i).toNat)
  case atStart => exact ⟨0, _, rfl, by omega, rfl, fun j hj => absurd hj (Nat.not_lt_zero j), Below.refl _ _⟩
  case round =>
    obtain ⟨k, wx, rfl, hk, rfl, hall, hB⟩ := hrel
    have HBX := Lib.hid hB; have HALL := Lib.hid hall; clear hB hall
    have HNX := Lib.hid ((HBX.out.block _ HWG.out).trans HX.out)
    have c2 : wx.cell? ⟨w.heap.size, 2, none⟩ = some (.int .i64 N) := by rw [cell_of_row wx _ 2 _ _ _ HNX.out]; rfl
    have c3 : wx.cell? ⟨w.heap.size, 3, none⟩ = some (.slice a m c) := by rw [cell_of_row wx _ 3 _ _ _ HNX.out]; rfl
    by_cases hlt : k < m
    · have i1 : (k : Int) < (m : Int) := by omega
      obtain ⟨b, o, ea, d0, d1⟩ := (HT.out.same HBX.out).cell k hlt
      subst ea
      have HIC := Lib.hid (ct_lst HALL.out)
      have HNO := Lib.hid (show ¬ CtOk N C T k → ¬ R from fun h q => h (HIF.out.1 q k hlt))
      have HLT := Lib.hid hlt
      obtain ⟨x, hx⟩ : ∃ x, x = C k := ⟨_, rfl⟩
      obtain ⟨y, hy⟩ : ∃ y, y = T k := ⟨_, rfl⟩
      have HEX := Lib.hid hx
      rw [← hx] at d0 HIC
      rw [← hy] at d1 HIC
      clear hx hy
      go_upto_region 7 with fail
      obtain ⟨wy, hwy⟩ : ∃ wy, wy = wx.alloc (.cells #[.int .i64 x, .int .i64 y] 41) := ⟨_, rfl⟩
      rw [← hwy]
      have hby : Below wx.heap.size wx wy := by rw [hwy]; exact (Below.refl _ _).alloc (Nat.le_refl _) _
      have HZ := Lib.hid (show ZAt wy wx.heap.size x y by rw [hwy]; exact heap_alloc_new _ _)
      have HBY := Lib.hid (HBX.out.trans (hby.mono HBX.out.size))
      have HNY := Lib.hid ((HBY.out.block _ HWG.out).trans HX.out)
      generalize wx.heap.size = wh at *
      clear hwy hby d0 d1 c2 c3
      obtain ⟨z0, z1⟩ := HZ.out.c
      have c2 : wy.cell? ⟨w.heap.size, 2, none⟩ = some (.int .i64 N) := by rw [cell_of_row wy _ 2 _ _ _ HNY.out]; rfl
      have c3 : wy.cell? ⟨w.heap.size, 3, none⟩ = some (.slice (some ⟨b, o, none⟩) m c) := by rw [cell_of_row wy _ 3 _ _ _ HNY.out]; rfl
      have HBW := Lib.hid (HB.out.trans (HBY.out.mono HB.out.size))
      clear HBX HNX
      by_cases e1 : x < 1
      · have g1 : decide (x < 1) = true := by simp; omega
        have HN := Lib.hid (HNO.out (fun q => by have := q.1; have := HEX.out; omega))
        go_quiet (fail)
        go_wp2
        go_ret
        exact ⟨BoSays.no HN.out, below_dr HBW.out _⟩
      have g1 : decide (x < 1) = false := by simp; omega
      by_cases e2 : N < x
      · have g2 : decide (N < x) = true := by simp; omega
        have HN := Lib.hid (HNO.out (fun q => by have := HIC.out.1 q; omega))
        go_quiet (fail)
        go_wp2
        go_ret
        exact ⟨BoSays.no HN.out, below_dr HBW.out _⟩
      have g2 : decide (N < x) = false := by simp; omega
      by_cases e3 : y < 1
      · have g3 : decide (y < 1) = true := by simp; omega
        have HN := Lib.hid (HNO.out (fun q => by have := HIC.out.1 q; omega))
        go_quiet (fail)
        go_wp2
        go_ret
        exact ⟨BoSays.no HN.out, below_dr HBW.out _⟩
      have g3 : decide (y < 1) = false := by simp; omega
      by_cases e4 : 65535 < y
      · have g4 : decide ((65535 : Int) < y) = true := by simp; omega
        have HN := Lib.hid (HNO.out (fun q => by have := HIC.out.1 q; omega))
        go_quiet (fail)
        go_wp2
        go_ret
        exact ⟨BoSays.no HN.out, below_dr HBW.out _⟩
      have g4 : decide ((65535 : Int) < y) = false := by simp; omega
      by_cases hk0 : 0 < k
      · obtain ⟨j, hj⟩ : ∃ j, k = j + 1 := ⟨k - 1, by omega⟩
        obtain ⟨b2, o2, ea2, d3, _⟩ := (HT.out.same HBY.out).cell j (by omega)
        cases ea2
        have HLS := Lib.hid (show lstC C k = C j by rw [hj]; rfl)
        generalize C j = u at *
        have g5 : decide ((0 : Int) < (k : Int)) = true := by simp; omega
        have g6 : (k : Int) - 1 = (j : Int) := by omega
        have g8 : (j : Int) < (m : Int) := by omega
        by_cases e7 : x ≤ u
        · have g7 : decide (x ≤ u) = true := by simp; omega
          have HN := Lib.hid (HNO.out (fun q => by have := HIC.out.1 q; have := HLS.out; omega))
          clear hj
          go_quiet (fail)
          go_wp2
          go_ret
          exact ⟨BoSays.no HN.out, below_dr HBW.out _⟩
        · have g7 : decide (x ≤ u) = false := by simp; omega
          have HA := Lib.hid (all_next HALL.out (HIC.out.2 ⟨by have := HLS.out; omega, by omega, by omega, by omega⟩))
          clear hj
          go_quiet (fail)
          go_wp2
          go_roundw
          case rel => exact ⟨k + 1, _, rfl, by omega, by go_num, HA.out, below_dr HBY.out _⟩
          case measure => simp [intOf]; omega
      · have g5 : decide ((0 : Int) < (k : Int)) = false := by simp; omega
        have HA := Lib.hid (all_next HALL.out (HIC.out.2 ⟨by rw [show k = 0 by omega]; show 0 < x; omega, by omega, by omega, by omega⟩))
        go_quiet (fail)
        go_wp2
        go_roundw
        case rel => exact ⟨k + 1, _, rfl, by omega, by go_num, HA.out, below_dr HBY.out _⟩
        case measure => simp [intOf]; omega
    · obtain rfl : k = m := by omega
      have i1 : ¬ (k : Int) < (k : Int) := by omega
      have HA := Lib.hid (HIF.out.2 HALL.out)
      go_wp2
      go_ret
      exact ⟨BoSays.yes HA.out, HB.out.trans (HBX.out.mono HB.out.size)⟩
end Go.Proofs.Ytjlmajopfeplpaa.Nt

namespace Go.Proofs.Ytjlmajopfeplpaa.Nt
open Go.RowKit Go.Shelf
attribute [local go_sem] Oper.semAt_some

theorem cntT_next {C T : Nat → Int} {x : Int} {k : Nat} (h : cntT C T x k = 0) (hc : C k ≠ x) : cntT C T x (k + 1) = 0 := by
  unfold cntT; rw [if_pos h, if_neg hc]
theorem cntT_stay {C T : Nat → Int} {x : Int} {k : Nat} (h : cntT C T x k ≠ 0) : ∀ d, cntT C T x (k + d) = cntT C T x k
  | 0 => rfl
  | d + 1 => by
    have e := cntT_stay h d
    show (if cntT C T x (k + d) = 0 then (if C (k + d) = x then T (k + d) else 0) else cntT C T x (k + d)) = _
    rw [e, if_neg h]
theorem cntT_here {C T : Nat → Int} {k m : Nat} (hkm : k < m) (h : cntT C T (C k) k = 0) (ht : T k ≠ 0) : cntT C T (C k) m = T k := by
  have e1 : cntT C T (C k) (k + 1) = T k := by unfold cntT; rw [if_pos h, if_pos rfl]
  obtain ⟨d, rfl⟩ : ∃ d, m = (k + 1) + d := ⟨m - (k + 1), by omega⟩
  rw [cntT_stay (by rw [e1]; exact ht) d, e1]
theorem sumN_no {h : Mn} (hr : ¬ RN h) : sumN h = 0 := by unfold sumN; rw [if_neg hr]
theorem sumN_yes {h : Mn} (hr : RN h) : sumN h = sumT h.T h.m := by unfold sumN; rw [if_pos hr]
theorem cntN_no {h : Mn} {x : Int} (hr : ¬ RN h) : cntN h x = 0 := by unfold cntN; rw [if_neg hr]
theorem cntN_yes {h : Mn} {x : Int} (hr : RN h) : cntN h x = cntT h.C h.T x h.m := by unfold cntN; rw [if_pos hr]

set_option maxHeartbeats 4000000 in
set_option maxRecDepth 100000 in
theorem rsum_any (h : Mn) (a : Option Addr) (c : Nat) (hm : h.m ≤ 140737488355328) (w : World) (hT : Tb w a h.m h.C h.T) :
    Calls Try.prog 16 #[nV h a c] w fun e w' => e = .returned (.int .i64 (sumN h)) ∧ Below w.heap.size w w' := by
  obtain ⟨w0, hw0⟩ : ∃ w0, w0 = w.alloc (.cells #[.int .i64 h.S, .int .i64 h.Q, .int .i64 h.N, .slice a h.m c] 24) := ⟨_, rfl⟩
  have HX := Lib.hid (show NAt w0 w.heap.size h a c by rw [hw0]; exact heap_alloc_new _ _)
  have HB := Lib.hid (show Below w.heap.size w w0 by rw [hw0]; exact (Below.refl w.heap.size w).alloc (Nat.le_refl _) _)
  have HT := Lib.hid (hT.same HB.out)
  have HW := Lib.hid hw0
  have HRI := Lib.hid (fun W hT => rright_any h a c hm W hT)
  have HSL := Lib.hid (fun (hr : RN h) k (hk : k ≤ h.m) => And.intro (sumT_le hr.2.2.2 k hk) (rn_few hr))
  have HY := Lib.hid (fun hr => sumN_yes (h := h) hr); have HN := Lib.hid (fun hr => sumN_no (h := h) hr)
  have HRT := Lib.hid (fun (hr : RN h) k (hk : k < h.m) => And.intro (hr.2.2.2 k hk).2.2.1 (hr.2.2.2 k hk).2.2.2.1)
  unfold nV at HRI ⊢
  generalize sumN h = E at *
  clear hT hw0
  go_enter Try.func16, Try.ntmps16
  go_upto_region 1 with fail
  rw [← HW.out]
  clear HW
  have HWG := Lib.hid HX.out.lt
  go_wp2_with fail
  go_loopw [3, 4] (fun s i wr => ∃ (k : Nat) (W : World), W = wr ∧ k ≤ h.m ∧ (k = 0 ∨ RN h) ∧ i = .int .i64 (k : Nat) ∧ s = .int .i64 (sumT h.T k) ∧ Below w0.heap.size w0 wr) (fun _ i _ => h.m - (intOf i).toNat)
  case atStart => exact ⟨0, _, rfl, by omega, Or.inl rfl, rfl, rfl, Below.refl _ _⟩
  case round =>
    obtain ⟨k, wx, rfl, hk, hr0, rfl, rfl, hB⟩ := hrel
    have HBX := Lib.hid hB; have HR0 := Lib.hid hr0; clear hB hr0
    obtain ⟨c0, c1, c2, c3⟩ := (HX.out.same HBX.out).c
    go_wp2_with fail
    clear c0 c1 c2 c3
    refine (HRI.out wx (HT.out.same HBX.out)).mono ?_
    rintro e w1 ⟨⟨v, rfl, hv⟩, hB1⟩
    have HB1 := Lib.hid (HBX.out.trans (hB1.mono HBX.out.size)); have HVV := Lib.hid hv
    clear hv hB1
    have HZ := Lib.hid (show sumT h.T 0 = 0 from rfl)
    cases v
    · have HNR := Lib.hid (show ¬ RN h from fun q => absurd (HVV.out.2 q) (by simp))
      obtain rfl : k = 0 := by
        rcases HR0.out with e | q
        · exact e
        · exact absurd q HNR.out
      have HE := Lib.hid (HN.out HNR.out)
      rw [HZ.out]
      go_wp2
      go_ret
      exact ⟨by rw [HE.out]; rfl, HB.out.trans (HB1.out.mono HB.out.size)⟩
    · have HR := Lib.hid (show RN h by first | exact HVV.out.1 rfl | exact HVV.out.1 trivial)
      obtain ⟨c0, c1, c2, c3⟩ := (HX.out.same HB1.out).c
      by_cases hlt : k < h.m
      · have i1 : (k : Int) < (h.m : Int) := by omega
        obtain ⟨b, o, ea, d0, d1⟩ := (HT.out.same HB1.out).cell k hlt
        subst ea
        have HNX := Lib.hid (show sumT h.T k + h.T k = sumT h.T (k + 1) from rfl)
        have hs := HSL.out HR.out k hk
        have ht := HRT.out HR.out k hlt
        obtain ⟨y, hy⟩ : ∃ y, y = h.T k := ⟨_, rfl⟩
        rw [← hy] at d1 ht HNX
        obtain ⟨s, hs9⟩ : ∃ s, s = sumT h.T k := ⟨_, rfl⟩
        rw [← hs9] at hs HNX ⊢
        have HK := Lib.hid hk; have HLT := Lib.hid hlt
        obtain ⟨⟨hs1, hs2⟩, hm5⟩ := hs
        obtain ⟨ht1, ht2⟩ := ht
        have hs3 : s ≤ 65535 * 255 := by omega
        clear hy hs9 hs2 hm5 hk
        go_wp2
        go_roundw
        case rel => exact ⟨k + 1, _, rfl, by have := HLT.out; omega, Or.inr HR.out, by go_num, by rw [← HNX.out], HB1.out⟩
        case measure => simp [intOf]; omega
      · obtain hkm : k = h.m := by omega
        have HE := Lib.hid (show sumT h.T k = E by rw [hkm]; exact (HY.out HR.out).symm)
        have i1 : ¬ (k : Int) < (h.m : Int) := by omega
        clear hkm
        go_wp2
        go_ret
        exact ⟨by rw [HE.out]; rfl, HB.out.trans (HB1.out.mono HB.out.size)⟩

set_option maxHeartbeats 4000000 in
set_option maxRecDepth 100000 in
theorem rcount_any (h : Mn) (a : Option Addr) (c : Nat) (x : Int) (hm : h.m ≤ 140737488355328) (w : World) (hT : Tb w a h.m h.C h.T) :
    Calls Try.prog 18 #[nV h a c, .int .i64 x] w fun e w' => e = .returned (.int .i64 (cntN h x)) ∧ Below w.heap.size w w' := by
  obtain ⟨w0, hw0⟩ : ∃ w0, w0 = w.alloc (.cells #[.int .i64 h.S, .int .i64 h.Q, .int .i64 h.N, .slice a h.m c] 24) := ⟨_, rfl⟩
  have HX := Lib.hid (show NAt w0 w.heap.size h a c by rw [hw0]; exact heap_alloc_new _ _)
  have HB := Lib.hid (show Below w.heap.size w w0 by rw [hw0]; exact (Below.refl w.heap.size w).alloc (Nat.le_refl _) _)
  have HT := Lib.hid (hT.same HB.out)
  have HW := Lib.hid hw0
  have HRI := Lib.hid (fun W hT => rright_any h a c hm W hT)
  have HY := Lib.hid (fun hr => cntN_yes (h := h) (x := x) hr); have HN := Lib.hid (fun hr => cntN_no (h := h) (x := x) hr)
  have HRT := Lib.hid (fun (hr : RN h) k (hk : k < h.m) => And.intro (hr.2.2.2 k hk).2.2.1 (hr.2.2.2 k hk).2.2.2.1)
  unfold nV at HRI ⊢
  generalize cntN h x = E at *
  clear hT hw0
  go_enter Try.func18, Try.ntmps18
  go_upto_region 1 with fail
  rw [← HW.out]
  clear HW
  have HWG := Lib.hid HX.out.lt
  go_wp2_with fail
  go_loopw [5] (fun i wr => ∃ (k : Nat) (W : World), W = wr ∧ k ≤ h.m ∧ i = .int .i64 (k : Nat) ∧ cntT h.C h.T x k = 0 ∧ Below w0.heap.size w0 wr) (fun i _ => h.m - (intOf i).toNat)
  case atStart => exact ⟨0, _, rfl, by omega, rfl, rfl, Below.refl _ _⟩
  case round =>
    obtain ⟨k, wx, rfl, hk, rfl, hz, hB⟩ := hrel
    have HBX := Lib.hid hB; have HZ := Lib.hid hz; clear hB hz
    obtain ⟨c0, c1, c2, c3⟩ := (HX.out.same HBX.out).c
    go_wp2_with fail
    clear c0 c1 c2 c3
    refine (HRI.out wx (HT.out.same HBX.out)).mono ?_
    rintro e w1 ⟨⟨v, rfl, hv⟩, hB1⟩
    have HB1 := Lib.hid (HBX.out.trans (hB1.mono HBX.out.size)); have HVV := Lib.hid hv
    clear hv hB1
    cases v
    · have HNR := Lib.hid (show ¬ RN h from fun q => absurd (HVV.out.2 q) (by simp))
      have HE := Lib.hid (HN.out HNR.out)
      go_wp2
      go_ret
      exact ⟨by rw [HE.out]; rfl, HB.out.trans (HB1.out.mono HB.out.size)⟩
    · have HR := Lib.hid (show RN h by first | exact HVV.out.1 rfl | exact HVV.out.1 trivial)
      obtain ⟨c0, c1, c2, c3⟩ := (HX.out.same HB1.out).c
      by_cases hlt : k < h.m
      · have i1 : (k : Int) < (h.m : Int) := by omega
        obtain ⟨b, o, ea, d0, d1⟩ := (HT.out.same HB1.out).cell k hlt
        subst ea
        have ht := HRT.out HR.out k hlt
        have HNX := Lib.hid (fun hc => cntT_next (C := h.C) (T := h.T) HZ.out hc)
        have HHE := Lib.hid (show h.C k = x → h.T k = E from fun e => by
          rw [HY.out HR.out, ← e, cntT_here hlt (by rw [e]; exact HZ.out) (by omega)])
        obtain ⟨y, hy⟩ : ∃ y, y = h.T k := ⟨_, rfl⟩
        rw [← hy] at d1 HHE
        obtain ⟨u, hu⟩ : ∃ u, u = h.C k := ⟨_, rfl⟩
        rw [← hu] at d0 HHE HNX
        clear hy hu ht
        by_cases hux : u = x
        · have g1 : (u == x) = true := by simp [hux]
          have HE := Lib.hid (HHE.out hux)
          clear hux
          go_wp2
          go_ret
          exact ⟨by rw [HE.out]; rfl, HB.out.trans (HB1.out.mono HB.out.size)⟩
        · have g1 : (u == x) = false := by simp [hux]
          have HE := Lib.hid (HNX.out hux)
          clear hux
          go_wp2
          go_roundw
          case rel => exact ⟨k + 1, _, rfl, by omega, by go_num, HE.out, HB1.out⟩
          case measure => simp [intOf]; omega
      · obtain hkm : k = h.m := by omega
        have HE := Lib.hid (show E = 0 by rw [HY.out HR.out, ← hkm]; exact HZ.out)
        have i1 : ¬ (k : Int) < (h.m : Int) := by omega
        clear hkm
        go_wp2
        go_ret
        exact ⟨by rw [HE.out]; rfl, HB.out.trans (HB1.out.mono HB.out.size)⟩
end Go.Proofs.Ytjlmajopfeplpaa.Nt

namespace Go.Proofs.Ytjlmajopfeplpaa
open Go.RowKit Go.Shelf

theorem nw_str {w : World} {B : Nat} {a : Option Addr} {n cap : Nat} {f : Nat → Nat} (h : Nw w B a n cap f) (h0 : 0 < n) : ∃ g, a = some ⟨g, 0, none⟩ := by
  rcases h.ow with ⟨e, _⟩ | ⟨g, vs, e, _⟩
  · have := h.sl.nil e; omega
  · exact ⟨g, e⟩
theorem ok_str (f : Nat → Nat) (hf : Pf.By f) (k : Nat) (g : Nat → Nat) (hg : ∀ i, i < k → g i = f i) (hgb : Pf.By g) : ((strOfNums (ints (Crc.sealed g k) (k + 4))).toList != (strOfNums (ints f (k + 4))).toList) = !okB f k := by
  have hgo : Crc.go 0 g k = Crc.go 0 f k := Crc.go_congr hg
  show (!((strOfNums (ints (Crc.sealed g k) (k + 4))).toList == (strOfNums (ints f (k + 4))).toList)) = _
  rw [str_eq _ _ (sealed_bytes hgb k) hf]
  congr 1
  unfold okB
  rw [Bool.eq_iff_iff, eqB_iff, eqB_iff]
  constructor
  · intro h i hi
    have := h (k + i) (by omega)
    rw [Crc.sealed_hi hi, hgo] at this
    exact this
  · intro h i hi
    by_cases c : i < k
    · rw [Crc.sealed_lo c]; exact hg i c
    · obtain ⟨j, rfl⟩ : ∃ j, i = k + j := ⟨i - k, by omega⟩
      rw [Crc.sealed_hi (by omega), hgo]; exact h j (by omega)
set_option maxHeartbeats 1000000 in
set_option maxRecDepth 100000 in
theorem ropen_any (a : Option Addr) (n cap : Nat) (f : Nat → Nat) (hn : n ≤ 1000000000) (w : World) (hS : Sl w a n cap f) :
    Calls Try.prog 49 #[.slice a n cap] w (OpenSays w n f) := by
  by_cases h4 : n < 4
  · have h4' : (n : Int) - 4 < 0 := by omega
    have H4 := Lib.hid h4; clear h4 hS
    go_enter Try.func49, Try.ntmps49
    go_wp2
    go_ret2
    exact Or.inl ⟨H4.out, rfl, Below.refl _ _⟩
  · obtain ⟨k, rfl⟩ : ∃ k, n = k + 4 := ⟨n - 4, by omega⟩
    clear h4
    obtain ⟨i0, hi, hz0, hz1, hz2⟩ := info_parts Try.infoU8
    have HI := Lib.hid hi; have HZ0 := Lib.hid hz0; have HZ1 := Lib.hid hz1; have HZ2 := Lib.hid hz2
    clear hi hz0 hz1 hz2
    obtain ⟨b, off, rfl, _⟩ := hS.at_ (k := 0) (by omega)
    have hc := hS.capOk
    have hm := hS.maxOk
    have HS := Lib.hid hS
    have HS1 := Lib.hid (sl_lo hS (m := k) (by omega))
    have HO := Lib.hid (ok_str f hS.bytes k (sub f 0 k) (fun i hi => by unfold sub; rw [if_pos hi, Nat.zero_add]) (sub_by hS.bytes 0 k))
    have e1 : ((k + 4 : Nat) : Int) - 4 = (k : Int) := by omega
    have e2 : ¬ (k : Int) < 0 := by omega
    have e4 : (k : Int) ≤ ((k + 4 : Nat) : Int) := by omega
    have e5 : (k : Int) ≤ (cap : Int) := by omega
    have HBS := Lib.hid (sub_by hS.bytes 0 k); have HUS := Lib.hid (sub_up f 0 k)
    unfold maxLen at hm
    clear hS
    obtain ⟨N, hN⟩ : ∃ N, N = k + 4 := ⟨_, rfl⟩
    rw [← hN] at e1 e4 hc hn HS HO ⊢
    have HN := Lib.hid hN; clear hN
    obtain ⟨S2, hS2⟩ : ∃ S2, S2 = strOfNums (ints f N) := ⟨_, rfl⟩
    have HF := Lib.hid (fun (W : World) (h : Below w.heap.size w W) => conv_sl W (some ⟨b, off, none⟩) N cap f (by have := HN.out; omega) (HS.out.same h))
    rw [← hS2] at HF HO
    obtain ⟨S1, hS1⟩ : ∃ S1, S1 = strOfNums (ints (Crc.sealed (sub f 0 k) k) N) := ⟨_, rfl⟩
    rw [← hS1] at HO
    have HS1' := Lib.hid (show S1 = strOfNums (ints (Crc.sealed (sub f 0 k) k) (k + 4)) by rw [hS1, HN.out])
    clear hS2 hS1
    have HFD := Lib.hid (HF.out w.drew ((Below.refl _ w).drew))
    have hfd := HFD.out
    go_enter Try.func49, Try.ntmps49
    go_wp2_with fail
    go_region_with ((first
      | (go_at_call 21; refine (rseal_any (some ⟨b, off, none⟩) k cap (sub f 0 k) (by omega) w.drew (HS1.out.drewN 1)).mono ?_; rintro e w1 ⟨a1, c1, rfl, hn1, hB⟩; have HB := Lib.hid (show Below w.heap.size w.drew w1 from hB); have hf1 := HF.out w1 (((Below.refl _ w).drew).trans HB.out); have hs1 := conv_sl w1 a1 (k + 4) c1 _ (by omega) hn1.sl; rw [← HS1'.out] at hs1; clear hn1 hB)))
    all_goals
      have HBW := Lib.hid (show Below w.heap.size w w1 from ((Below.refl _ w).drew).trans HB.out)
      have hx : (!(S1.toList == S2.toList)) = !okB f k := HO.out
      rw [hx]
      clear hx hf1 hs1 hfd
      cases hv : okB f k with
      | false =>
        have HV := Lib.hid hv
        clear hv
        go_wp2
        go_ret2
        exact Or.inr (Or.inl ⟨by have := HN.out; omega, by rw [HN.out, Nat.add_sub_cancel]; exact HV.out, rfl, HBW.out⟩)
      | true =>
        have HV := Lib.hid hv
        clear hv
        have hz := HBW.out.size
        go_wp2_with (at_builtin; refine wpList_append_own _ rfl _ _ 27 rfl w1.heap.size 5 i0 (.int .u8 0) 1 1 Try.underlying27 HI.out HZ0.out HZ1.out HZ2.out rfl (by decide) _ 0 [] rfl (World.ownsRow_made w1 #[] 0 (Nat.le_refl _) (by unfold maxLen; omega) rfl) ⟨b, off, none⟩ k cap ((List.range k).map fun i => Value.int .u8 (sub f 0 k i : Nat)) rfl (by simp) (Sl.reads ((HS1.out.same HBW.out).same ((Below.refl _ _).alloc (Nat.le_refl _) _)) _ rfl) (ones_map _ _) (by unfold maxLen; omega) (by omega) (by simp) ?_; intro v' w2 hown hgrow _; rw [Nat.zero_add, List.nil_append] at hown; have HO2 := Lib.hid (owns_new hown HBS.out HUS.out); have HB2 := Lib.hid (((Below.refl w1.heap.size w1).alloc (Nat.le_refl _) (.cells #[] 5)).grown hgrow (by simp) (by intro k hk; cases hk; exact Nat.le_refl _)); clear hown hgrow)
        obtain ⟨a3, c3, e, hn3⟩ := HO2.out
        subst e
        go_ret2
        exact Or.inr (Or.inr ⟨by have := HN.out; omega, by rw [HN.out, Nat.add_sub_cancel]; exact HV.out, a3, c3, by rw [HN.out, Nat.add_sub_cancel]; rfl, by rw [HN.out, Nat.add_sub_cancel]; exact hn3.mono hz, HBW.out.trans (HB2.out.mono hz)⟩)
end Go.Proofs.Ytjlmajopfeplpaa

namespace Go.Proofs.Ytjlmajopfeplpaa.Nt
open Go.RowKit Go.Shelf
attribute [local go_sem] Oper.semAt_some

theorem markC_any (i : Int) (hi0 : 0 ≤ i) (hi : i ≤ 1000000000000) (w : World) :
    Calls Try.prog 43 #[.int .i64 1, .int .i64 i] w fun e w' => e = .returned (.agg #[.int .i64 (8000024 + i), .int .i64 0]) ∧ Below w.heap.size w w' := by
  have hB := (Below.refl w.heap.size w).alloc (Nat.le_refl _) (.cells #[.int .i64 (8000024 + i), .int .i64 0] 41)
  have HB := Lib.hid hB; clear hB
  go_enter Try.func43, Try.ntmps43
  go_wp2_with fail
  refine (mark_any 1 i (by omega) (by omega) hi0 hi _).mono ?_
  rintro e w' ⟨rfl, hw'⟩
  rw [hw']; clear hw'
  have e8 : (1000003 * (1 + 7) + i : Int) = 8000024 + i := by omega
  rw [e8]
  go_wp2
  exact bodyPost_ret (results_cell_row rfl _ _ w.heap.size _ _ (0, 0) _ rfl (heap_alloc_new w _) Try.underlying41 rfl (by kernel_rfl)) rfl ⟨rfl, HB.out⟩
set_option maxHeartbeats 2000000 in
set_option maxRecDepth 100000 in
theorem lentCounts_any (a : Option Addr) (n cap : Nat) (K L : Nat → Int) (w : World) (hT : Tb w a n K L) (hnil : a = none → n = 0 ∧ cap = 0) (hl : n ≤ 1000000) :
    Calls Try.prog 27 #[.slice a n cap] w fun e w' =>
      e = .returned (.slice (some ⟨w.heap.size, 0, none⟩) n (n + 12)) ∧ Tb w' (some ⟨w.heap.size, 0, none⟩) (n + 12) (tK K n) (tL L n) ∧ Below w.heap.size w w' := by
  obtain ⟨i0, hi, hz0, hz1, hz2⟩ := info_parts Try.infoCt
  have HT := Lib.hid hT; have HN := Lib.hid hnil; clear hT hnil
  have HI := Lib.hid hi; have HZ0 := Lib.hid hz0; have HZ1 := Lib.hid hz1; have HZ2 := Lib.hid hz2
  clear hi hz0 hz1 hz2
  go_enter Try.func27, Try.ntmps27
  go_wp2_with (first
    | (at_make; refine wpList_make_own _ rfl _ _ _ rfl w.heap.size 41 i0 (.agg #[.int .i64 0, .int .i64 0]) 2 Try.underlying22 HI.out HZ0.out HZ1.out .i64 .i64 _ (n + 12) rfl rfl (by omega) (by rw [HZ2.out]; omega) (by unfold maxLen; omega) (Nat.le_refl _) ?_; intro w1 hown1 hgrow1; have HO1 := Lib.hid hown1; have HB1 := Lib.hid ((Below.refl w.heap.size w).grown hgrow1 (Nat.le_refl _) (by simp)); clear hown1 hgrow1)
    | (at_builtin; refine wpList_append_fits_any _ rfl _ _ _ rfl w.heap.size 41 i0 2 Try.underlying22 HI.out HZ1.out w.heap.size 0 (n + 12) [] rfl HO1.out a n cap (tdl K L n) rfl (tdl_len K L n) HN.out (tb_news (HT.out.same HB1.out)) (tdl_ones K L n) (by omega) ?_; intro w2 hown2 hgrow2; rw [Nat.zero_add, List.nil_append] at hown2; have HO2 := Lib.hid hown2; have HB2 := Lib.hid (HB1.out.grown hgrow2 HB1.out.size (by intro k hk; cases hk; exact Nat.le_refl _)); clear hown2 hgrow2))
  clear HO1 HB1
  go_loopw [3, 4] (fun o i wr => ∃ (k : Nat) (W : World), W = wr ∧ k ≤ 12 ∧ i = .int .i64 k ∧ o = .slice (some ⟨w.heap.size, 0, none⟩) (n + k) (n + 12) ∧ wr.ownsRow w.heap.size 41 2 (.slice (some ⟨w.heap.size, 0, none⟩) (n + k) (n + 12)) (n + k) (tdl (tK K n) (tL L n) (n + k)) ∧ Below w.heap.size w wr) (fun _ i _ => 12 - (intOf i).toNat)
  case atStart => exact ⟨0, _, rfl, by omega, rfl, by simp, by rw [Nat.add_zero, tdl_congr (K := tK K n) (K' := K) (L := tL L n) (L' := L) n (fun i hi => ⟨if_pos hi, if_pos hi⟩)]; exact HO2.out, HB2.out⟩
  case round =>
    obtain ⟨k, wx, rfl, hk, rfl, rfl, hO, hB⟩ := hrel
    have HO := Lib.hid hO; have HB := Lib.hid hB; clear hO hB
    by_cases hlt : k < 12
    · have hge := HB.out.size
      go_wp2_with (first
        | (go_at_call 43; refine (markC_any (k : Int) (by omega) (by omega) _).mono ?_; rintro e w3 ⟨rfl, hB3⟩; have HB3 := Lib.hid hB3; clear hB3)
        | (at_builtin; refine wpList_append_fits _ rfl _ _ _ rfl w.heap.size 41 i0 2 Try.underlying22 HI.out HZ1.out w.heap.size (n + k) (n + 12) _ rfl ((own_below HO.out HB3.out).alloc _) _ 1 1 [.int .i64 (8000024 + (k : Int)), .int .i64 0] rfl rfl (cell_new2 _ _ _ _) (int_ones _ _) (by omega) ?_; intro w4 hown4 hgrow4; have hown4 : w4.ownsRow w.heap.size 41 2 _ _ (tdl (tK K n) (tL L n) (n + k + 1)) := (by
              have e1 : tK K n (n + k) = 8000024 + (k : Int) := by unfold tK mkT; rw [if_neg (by omega)]; omega
              have e2 : tL L n (n + k) = 0 := if_neg (by omega)
              unfold tdl; rw [e1, e2]; exact hown4); have HO4 := Lib.hid hown4; have HB4 := Lib.hid ((HB.out.trans (HB3.out.mono hge)).alloc (Nat.le_trans hge HB3.out.size) _ |>.grown hgrow4 (by have := HB3.out.size; simp; omega) (by intro k hk; cases hk; exact Nat.le_refl _)); clear hown4 hgrow4))
      go_roundw
      case rel => exact ⟨k + 1, _, rfl, by omega, by go_num, rfl, HO4.out, HB4.out⟩
      case measure => simp [intOf]; omega
    · obtain rfl : k = 12 := by omega
      go_wp2
      go_ret
      exact ⟨rfl, (tdl_tb HO.out).1, HB.out⟩
set_option maxHeartbeats 2000000 in
set_option maxRecDepth 100000 in
theorem keptCounts_any (g : Nat) (a : Option Addr) (n cap : Nat) (K L : Nat → Int) (w : World) (hT : Tb w a n K L) (_hcap : n ≤ cap) (hG : Tb w (some ⟨g, 0, none⟩) (n + 12) (tK K n) (tL L n)) (hl : n ≤ 1000000) :
    Calls Try.prog 31 #[.slice (some ⟨g, 0, none⟩) n (n + 12), .slice a n cap] w fun e w' => e = .returned (.bool true) ∧ Below w.heap.size w w' := by
  have HT := Lib.hid hT; have HG := Lib.hid hG; clear hT hG
  have hne : ((n : Int) != (n : Int)) = false := by simp
  go_enter Try.func31, Try.ntmps31
  go_wp2_with fail
  go_loopw [6] (fun i wr => ∃ (k : Nat) (W : World), W = wr ∧ k ≤ n + 12 ∧ i = .int .i64 k ∧ Below w.heap.size w wr) (fun i _ => n + 12 - (intOf i).toNat)
  case atStart => exact ⟨0, _, rfl, by omega, rfl, Below.refl _ _⟩
  case round =>
    obtain ⟨k, wx, rfl, hk, rfl, hB⟩ := hrel
    have HB := Lib.hid hB; clear hB
    by_cases hlt : k < n
    · obtain ⟨b, off, e1, c1, c2⟩ := (HT.out.same HB.out).cell k hlt
      obtain ⟨b', off', e2, d1, d2⟩ := (HG.out.same HB.out).cell k (by omega)
      cases e2
      rw [show tK K n k = K k from if_pos hlt] at d1
      rw [show tL L n k = L k from if_pos hlt] at d2
      rw [Nat.zero_add] at d1 d2
      subst e1
      generalize K k = u at c1 d1
      generalize L k = v at c2 d2
      have i1 : (k : Int) < (n : Int) := by omega
      have i2 : (k : Int) < (n : Int) + 12 := by omega
      have i5 : decide (n ≤ k) = false := by simp; omega
      have g5 : (v == v) = true := by simp
      have g6 : (u == u) = true := by simp
      go_wp2_with fail
      go_quiet (fail)
      go_wp2
      go_roundw
      case rel => exact ⟨k + 1, _, rfl, by omega, by go_num, HB.out.trans ((below_drewN (Below.refl _ _) _).mono HB.out.size)⟩
      case measure => simp [intOf]; omega
    · by_cases hlt2 : k < n + 12
      · obtain ⟨b', off', e2, d1, d2⟩ := (HG.out.same HB.out).cell k hlt2
        cases e2
        have hmk : tK K n k = 8000024 + ((k : Int) - (n : Int)) := by unfold tK mkT; rw [if_neg hlt]; omega
        rw [hmk] at d1
        rw [show tL L n k = 0 from if_neg hlt] at d2
        rw [Nat.zero_add] at d1 d2
        clear hmk
        have i1 : ¬ (k : Int) < (n : Int) := by omega
        have i2 : (k : Int) < (n : Int) + 12 := by omega
        have i4 : decide (k < n) = false := by simp; omega
        have i5 : decide (n ≤ k) = true := by simp; omega
        have i6 : IntKind.i64.wrap ((k : Int) - (n : Int)) = (k : Int) - (n : Int) := IntWalk.i64_in _ (by omega)
        obtain ⟨d, hd⟩ : ∃ d : Nat, (k : Int) - (n : Int) = (d : Int) := ⟨k - n, by omega⟩
        rw [hd] at d1 i6
        have hd9 : d < 12 := by omega
        have y1 := fun d os => cell_regrown d1 d os
        have y2 := fun d os => cell_regrown d2 d os
        go_wp2_with fail
        refine wp_region_quiet_below (by kernel_rfl) (by kernel_rfl) ?_
        repeat (go_big_quiet_step ((go_at_call 43; exact Calls.regrown_of (markC_any (d : Int) (by omega) (by omega) _))))
        refine wpQuiet_nil ?_
        rintro W1 ⟨pq, hW1⟩
        have hB1 : Below wx.heap.size wx W1 := by rw [hW1]; exact below_regrown _ _ _
        clear hW1 y1 y2
        go_wp2
        go_roundw
        case rel => exact ⟨k + 1, _, rfl, by omega, by go_num, HB.out.trans (hB1.mono HB.out.size)⟩
        case measure => simp [intOf]; omega
      · obtain rfl : k = n + 12 := by omega
        go_wp2
        go_ret
        exact ⟨rfl, HB.out⟩
set_option maxHeartbeats 4000000 in
set_option maxRecDepth 100000 in
theorem sameCounts_any (a b : Option Addr) (n m c d : Nat) (K L K' L' : Nat → Int) (hn : n ≤ 140737488355328) (hm : m ≤ 140737488355328) (w : World) (hT : Tb w a n K L) (hU : Tb w b m K' L') :
    Calls Try.prog 42 #[.slice a n c, .slice b m d] w fun e w' => BoSays (SR n m K L K' L') e ∧ Below w.heap.size w w' := by
  have HT := Lib.hid hT; have HU := Lib.hid hU; clear hT hU
  go_enter Try.func42, Try.ntmps42
  by_cases hnm : n = m
  rotate_left
  · have g1 : ((n : Int) != (m : Int)) = true := by simp; omega
    have HN := Lib.hid (show ¬ SR n m K L K' L' from fun h => hnm h.1)
    clear hnm
    go_wp2
    go_ret
    exact ⟨BoSays.no HN.out, Below.refl _ _⟩
  subst hnm
  have g1 : ((n : Int) != (n : Int)) = false := by simp
  go_wp2_with fail
  clear g1
  go_loopw [5] (fun i wr => ∃ (k : Nat) (W : World), W = wr ∧ k ≤ n ∧ i = .int .i64 k ∧ (∀ j, j < k → K j = K' j ∧ L j = L' j) ∧ Below w.heap.size w wr) (fun i _ => n - (intOf i).toNat)
  case atStart => exact ⟨0, _, rfl, by omega, rfl, fun j hj => absurd hj (Nat.not_lt_zero j), Below.refl _ _⟩
  case round =>
    obtain ⟨k, wx, rfl, hk, rfl, hall, hB⟩ := hrel
    have HB := Lib.hid hB; have HALL := Lib.hid hall; clear hB hall
    by_cases hlt : k < n
    · obtain ⟨b1, o1, e1, c1, c2⟩ := (HT.out.same HB.out).cell k hlt
      obtain ⟨b2, o2, e2, d1, d2⟩ := (HU.out.same HB.out).cell k hlt
      subst e1 e2
      have HE := Lib.hid (show (K k = K' k ∧ L k = L' k) → ∀ j, j < k + 1 → K j = K' j ∧ L j = L' j from fun h j hj => by
        by_cases e : j = k
        · rw [e]; exact h
        · exact HALL.out j (by omega))
      have HF := Lib.hid (show ¬ (K k = K' k ∧ L k = L' k) → ¬ SR n n K L K' L' from fun h q => h (q.2 k hlt))
      generalize K k = x at *
      generalize L k = y at *
      generalize K' k = x' at *
      generalize L' k = y' at *
      have i1 : (k : Int) < (n : Int) := by omega
      by_cases hx : x = x'
      · subst hx
        have g6 : (x == x) = true := by simp
        by_cases hy : y = y'
        · subst hy
          have g5 : (y == y) = true := by simp
          have HZ := Lib.hid (HE.out ⟨rfl, rfl⟩)
          go_wp2_with fail
          go_quiet (fail)
          go_wp2
          go_roundw
          case rel => exact ⟨k + 1, _, rfl, by omega, by go_num, HZ.out, HB.out.trans ((below_drewN (Below.refl _ _) _).mono HB.out.size)⟩
          case measure => simp [intOf]; omega
        · have g5 : (y == y') = false := by simp [hy]
          have HN := Lib.hid (HF.out (fun h => hy h.2))
          clear hy
          go_wp2_with fail
          go_quiet (fail)
          go_wp2
          go_ret
          exact ⟨BoSays.no HN.out, HB.out.trans ((below_drewN (Below.refl _ _) _).mono HB.out.size)⟩
      · have g6 : (x == x') = false := by simp [hx]
        have HN := Lib.hid (HF.out (fun h => hx h.1))
        clear hx
        go_wp2_with fail
        go_quiet (fail)
        go_wp2
        go_ret
        exact ⟨BoSays.no HN.out, HB.out.trans ((below_drewN (Below.refl _ _) _).mono HB.out.size)⟩
    · obtain rfl : k = n := by omega
      have i1 : ¬ (k : Int) < (k : Int) := by omega
      have HS := Lib.hid (show SR k k K L K' L' from ⟨rfl, HALL.out⟩)
      go_wp2
      go_ret
      exact ⟨BoSays.yes HS.out, HB.out⟩
set_option maxHeartbeats 1000000 in
theorem copyCounts_any (a : Option Addr) (n cap : Nat) (K L : Nat → Int) (hn : n ≤ 1000000) (w : World) (hT : Tb w a n K L) (hnil : a = none → n = 0 ∧ cap = 0) :
    Calls Try.prog 36 #[.slice a n cap] w fun e w' => ∃ a' c', e = .returned (.slice a' n c') ∧ w'.ownsRow w.heap.size 41 2 (.slice a' n c') n (tdl K L n) ∧ Below w.heap.size w w' := by
  obtain ⟨i0, hi, hz0, hz1, hz2⟩ := info_parts Try.infoCt
  have HI := Lib.hid hi; have HZ0 := Lib.hid hz0; have HZ1 := Lib.hid hz1; have HZ2 := Lib.hid hz2; have HT := Lib.hid hT
  clear hi hz0 hz1 hz2 hT
  go_enter Try.func36, Try.ntmps36
  cases a with
  | none =>
    obtain ⟨rfl, rfl⟩ := hnil rfl
    clear hnil
    go_wp2_with (at_builtin; refine wpList_append_own_none rfl _ _ 22 rfl w.heap.size 41 i0 2 Try.underlying22 HI.out HZ1.out _ 0 [] rfl (World.ownsRow_nil w w.heap.size 41 2) rfl ?_)
    go_ret
    exact ⟨none, 0, rfl, World.ownsRow_nil w w.heap.size 41 2, Below.refl _ _⟩
  | some ad =>
    clear hnil
    go_wp2_with (at_builtin; refine wpList_append_own _ rfl _ _ 22 rfl w.heap.size 41 i0 (.agg #[.int .i64 0, .int .i64 0]) 2 16 Try.underlying22 HI.out HZ0.out HZ1.out HZ2.out rfl (by decide) _ 0 [] rfl (World.ownsRow_nil w w.heap.size 41 2) ad n cap (tdl K L n) rfl (tdl_len K L n) (tb_news HT.out ad rfl) (tdl_ones K L n) (by unfold maxLen; omega) (by omega) (Nat.le_refl _) ?_; intro v' w2 hown hg _; have HO := Lib.hid hown; have HG := Lib.hid hg; clear hown hg)
    have ho := HO.out
    obtain ⟨a', c', he⟩ := own_sl ho
    rw [Nat.zero_add, List.nil_append] at ho
    rw [Nat.zero_add] at he
    subst he
    go_ret
    exact ⟨a', c', rfl, ho, (Below.refl _ w).grown HG.out (Nat.le_refl _) (fun r e => by cases e)⟩
end Go.Proofs.Ytjlmajopfeplpaa.Nt
