import Derived.Laws.BytesArg
import Derived.Lib.Bytes
import Derived.RegionTactic
import Derived.BigRegion
import Derived.Lib.QuietBelow
import Derived.Laws.AppendOwnNone
import Derived.Test.YtjlmajopfeplpaaGreatMg40
namespace Go.Proofs.YtjlmajopfeplpaaGreat
open Go.RowKit Go.Shelf

/-- the same bytes? -/
def eqB (f g : Nat → Nat) (m : Nat) : Bool := decide (∀ i, i < m → f i = g i)
theorem eqB_iff {f g : Nat → Nat} {m : Nat} : eqB f g m = true ↔ ∀ i, i < m → f i = g i := by unfold eqB; rw [decide_eq_true_iff]
theorem eqB_congr {f f' g g' : Nat → Nat} {m : Nat} (h : ∀ i, i < m → f i = f' i) (h' : ∀ i, i < m → g i = g' i) : eqB f g m = eqB f' g' m := by
  rw [Bool.eq_iff_iff, eqB_iff, eqB_iff]
  exact ⟨fun hh i hi => by rw [← h i hi, ← h' i hi]; exact hh i hi, fun hh i hi => by rw [h i hi, h' i hi]; exact hh i hi⟩
theorem str_eq (f g : Nat → Nat) (hf : Pf.By f) (hg : Pf.By g) (m : Nat) : ((strOfNums (ints f m)).toList == (strOfNums (ints g m)).toList) = eqB f g m := by
  rw [Lib.strOfNums_toList, Lib.strOfNums_toList, Bool.eq_iff_iff, beq_iff_eq, eqB_iff]
  constructor
  · intro h i hi
    have h2 := congrArg (fun l : List UInt8 => l[i]?) h
    simp only [Lib.bytesOf, List.getElem?_map] at h2
    have e : ∀ x : Nat → Nat, (ints x m)[i]? = some ((x i : Nat) : Int) := fun x => by simp [ints, hi]
    rw [e f, e g] at h2
    simp only [Option.map_some, Option.some.injEq, Int.toNat_natCast] at h2
    have h3 := congrArg UInt8.toNat h2
    have a := hf i; have b := hg i
    simpa [UInt8.toNat_ofNat', Nat.mod_eq_of_lt a, Nat.mod_eq_of_lt b] using h3
  · intro h
    have : ints f m = ints g m := by unfold ints; exact List.map_congr_left fun i hi => by rw [h i (by simpa using hi)]
    rw [this]
/-- '[]byte' as a string. -/
theorem conv_sl (w : World) (a : Option Addr) (n cap : Nat) (f : Nat → Nat) (h0 : 0 < n) (h : Sl w a n cap f) :
    (convert 28 9 (.slice a n cap)).run Tryz.prog w = .ok (.string (strOfNums (ints f n))) w := by
  obtain ⟨b, o, rfl, _⟩ := h.at_ (k := 0) h0
  exact run_convert_bytes_arg (P := Tryz.prog) w 28 5 Tryz.underlying28 Tryz.underlying5 b o n cap _ (ints_len f n) (fun i hi => by
    rw [ints_get hi]; exact h.cell _ rfl i hi) 9 Tryz.underlying9

set_option maxHeartbeats 400000 in
theorem bequal_any (a a' : Option Addr) (n c c' : Nat) (f g : Nat → Nat) (h0 : 0 < n) (w : World) (hS : Sl w a n c f) (hS' : Sl w a' n c' g) :
    Calls Tryz.prog 102 #[.slice a n c, .slice a' n c'] w fun e w' => e = .returned (.bool (eqB f g n)) ∧ w' = w := by
  have h1 := conv_sl w a n c f h0 hS
  have h2 := conv_sl w a' n c' g h0 hS'
  have HE := Lib.hid (str_eq f g hS.bytes hS'.bytes n)
  clear hS hS'
  generalize strOfNums (ints f n) = s1 at h1 HE
  generalize strOfNums (ints g n) = s2 at h2 HE
  generalize eqB f g n = v at HE ⊢
  have he := HE.out
  clear HE
  go_enter Tryz.func102, Tryz.ntmps102
  go_wp2
  go_ret
  exact ⟨rfl, rfl⟩

/-- what Seal answers. -/
def SealSays (w : World) (n : Nat) (f : Nat → Nat) (e : Ending) (w' : World) : Prop := ∃ g C, e = .returned (.slice (some ⟨g, 0, none⟩) (n + 4) (n + 4)) ∧ w.heap.size ≤ g ∧ n + 4 ≤ C ∧ Bl w' g (n + 4) C (Crc.sealed f n) ∧ Below w.heap.size w w'
theorem sealed_cpy (f : Nat → Nat) (n i : Nat) (hi : i < n + 4) : cpy n 4 (Crc.bytN (Crc.go 0 f n) 4) (cpy 0 n f (fun _ => 0)) i = Crc.sealed f n i := by
  unfold cpy Crc.sealed Crc.bytN
  by_cases h : i < n
  · rw [if_neg (by omega), if_pos (by omega), if_pos h, Nat.sub_zero]
  · rw [if_pos (by omega), if_pos (by omega), if_neg h, if_pos hi]
set_option maxHeartbeats 1000000 in
set_option maxRecDepth 100000 in
theorem pseal_any (a : Option Addr) (n cap : Nat) (f : Nat → Nat) (hn : n ≤ 10000000000) (w : World) (hS : Sl w a n cap f) :
    Calls Tryz.prog 35 #[.slice a n cap] w (SealSays w n f) := by
  have HO := Lib.hid (seal_small a n cap f (by omega) w hS)
  have HS := Lib.hid hS; clear hS
  go_enter Tryz.func35, Tryz.ntmps35
  go_wp2_with fail
  refine HO.out.mono ?_
  rintro e w1 ⟨g, rfl, hg, hb, hB⟩
  have HB := Lib.hid hB; have HBL := Lib.hid hb; clear hB hb
  have HJ := Lib.hid (fun (L : Nat) (w2 : World) (h0 : w2.cell? ⟨L, 0, none⟩ = some (.slice a n cap)) (h1 : w2.cell? ⟨L, 1, none⟩ = some (.slice (some ⟨g, 0, none⟩) 4 4)) (hB2 : Below w1.heap.size w1 w2) =>
    join_two L a n cap f (some ⟨g, 0, none⟩) 4 4 (Crc.bytN (Crc.go 0 f n) 4) (by omega) (by omega) (by omega) w2 h0 h1 (HS.out.below (HB.out.trans (hB2.mono HB.out.size)) HS.out.lt) ((HBL.out.sl (by omega) (by unfold maxLen; omega) (Crc.bytN_by _ 4) (Crc.bytN_up _ 4)).same hB2))
  go_wp2_with fail
  refine (HJ.out w1.heap.size _ (by rw [World.cell?_alloc_new]; rfl) (by rw [World.cell?_alloc_new]; rfl) ((Below.refl _ _).alloc (Nat.le_refl _) _)).mono ?_
  rintro e w2 ⟨G, C, rfl, hG, hC, hb, hB2⟩
  have HBL2 := Lib.hid hb; have HB2 := Lib.hid hB2; have HGG := Lib.hid hG; have HCC := Lib.hid hC
  clear hb hB2 hG hC
  go_wp2
  go_ret
  have h1 := HB.out.size
  have hs : (w1.alloc (.cells #[.slice a n cap, .slice (some ⟨g, 0, none⟩) 4 4] 28)).heap.size = w1.heap.size + 1 := by simp
  exact ⟨G, C, rfl, by have := HGG.out; rw [hs] at this; omega, HCC.out, HBL2.out.congr (fun i hi => sealed_cpy f n i hi), HB.out.trans ((((Below.refl _ _).alloc (Nat.le_refl _) _).trans (HB2.out.mono (by rw [hs]; omega))).mono h1)⟩
end Go.Proofs.YtjlmajopfeplpaaGreat

namespace Go.Proofs.YtjlmajopfeplpaaGreat
open Go.RowKit Go.Shelf

/-- are the last four the sum of the first k? -/
def okB (f : Nat → Nat) (k : Nat) : Bool := eqB (Crc.byt (Crc.go 0 f k)) (fun i => f (k + i)) 4
theorem sl_lo {w : World} {b off n c : Nat} {f : Nat → Nat} (h : Sl w (some ⟨b, off, none⟩) n c f) {m : Nat} (hm : m ≤ n) : Sl w (some ⟨b, off, none⟩) m c (sub f 0 m) := by
  have := h.sub (lo := 0) (m := m) (by omega)
  simpa using this
theorem sub_go (f : Nat → Nat) (k : Nat) : Crc.go 0 (sub f 0 k) k = Crc.go 0 f k := Crc.go_congr fun i hi => by unfold sub; rw [if_pos hi, Nat.zero_add]
theorem ok_of (f : Nat → Nat) (k : Nat) : eqB (Crc.bytN (Crc.go 0 (sub f 0 k) k) 4) (sub f k 4) 4 = okB f k := by
  rw [sub_go]
  exact eqB_congr (fun i hi => if_pos hi) (fun i hi => if_pos hi)
/-- what Open answers. -/
def OpenSays (w : World) (n : Nat) (f : Nat → Nat) (e : Ending) (w' : World) : Prop :=
  (n < 4 ∧ e = .returned (.tuple #[.slice none 0 0, .int .i64 4]) ∧ Below w.heap.size w w') ∨
  (4 ≤ n ∧ okB f (n - 4) = false ∧ e = .returned (.tuple #[.slice none 0 0, .int .i64 10]) ∧ Below w.heap.size w w') ∨
  (4 ≤ n ∧ okB f (n - 4) = true ∧ ∃ a cap, e = .returned (.tuple #[.slice a (n - 4) cap, .int .i64 0]) ∧ Nw w' w.heap.size a (n - 4) cap (sub f 0 (n - 4)) ∧ Below w.heap.size w w')
set_option maxHeartbeats 1000000 in
set_option maxRecDepth 100000 in
theorem popen_any (a : Option Addr) (n cap : Nat) (f : Nat → Nat) (hn : n ≤ 10000000000) (w : World) (hS : Sl w a n cap f) :
    Calls Tryz.prog 80 #[.slice a n cap] w (OpenSays w n f) := by
  by_cases h4 : n < 4
  · have h4' : (n : Int) - 4 < 0 := by omega
    have H4 := Lib.hid h4; clear h4 hS
    go_enter Tryz.func80, Tryz.ntmps80
    go_wp2
    go_ret2
    exact Or.inl ⟨H4.out, rfl, Below.refl _ _⟩
  · obtain ⟨k, rfl⟩ : ∃ k, n = k + 4 := ⟨n - 4, by omega⟩
    clear h4
    obtain ⟨b, off, rfl, _⟩ := hS.at_ (k := 0) (by omega)
    have hc := hS.capOk
    have hm := hS.maxOk
    have HS1 := Lib.hid (sl_lo hS (m := k) (by omega))
    have HS2 := Lib.hid (hS.sub (lo := k) (m := 4) (by omega))
    have HO := Lib.hid (ok_of f k)
    have e1 : ((k + 4 : Nat) : Int) - 4 = (k : Int) := by omega
    have e2 : ¬ (k : Int) < 0 := by omega
    have e3 : ¬ cap = k := by omega
    have e4 : (k : Int) ≤ ((k + 4 : Nat) : Int) := by omega
    have e5 : (k : Int) ≤ (cap : Int) := by omega
    have e6 : k + 4 - k = 4 := by omega
    unfold maxLen at hm
    clear hS
    obtain ⟨N, hN⟩ : ∃ N, N = k + 4 := ⟨_, rfl⟩
    rw [← hN] at e1 e4 e6 hc hn ⊢
    have HN := Lib.hid hN; clear hN
    go_enter Tryz.func80, Tryz.ntmps80
    go_wp2_with fail
    go_region_with ((first
      | (go_at_call 63; refine (seal_small (some ⟨b, off, none⟩) k cap (sub f 0 k) (by omega) w.drew (HS1.out.drewN 1)).mono ?_; rintro e w1 ⟨g, rfl, hg, hb, hB⟩; have HB := Lib.hid (show Below w.heap.size w.drew w1 from hB); have HBL := Lib.hid hb; clear hB hb)
      | (go_at_call 102; refine (bequal_any _ _ 4 _ _ _ _ (by omega) _ (HBL.out.sl (by omega) (by unfold maxLen; omega) (Crc.bytN_by _ 4) (Crc.bytN_up _ 4)) ((HS2.out.drewN 1).same HB.out)).mono ?_; rintro e w2 ⟨rfl, rfl⟩)))
    have HBW := Lib.hid (show Below w.heap.size w w2 from ((Below.refl _ w).drew).trans HB.out)
    have hx := HO.out
    cases hv : okB f k with
    | false =>
      have HV := Lib.hid hv
      rw [hv] at hx
      rw [hx]
      clear hx hv
      go_wp2
      go_ret2
      exact Or.inr (Or.inl ⟨by have := HN.out; omega, by rw [HN.out, Nat.add_sub_cancel]; exact HV.out, rfl, HBW.out⟩)
    | true =>
      have HV := Lib.hid hv
      rw [hv] at hx
      rw [hx]
      clear hx hv
      go_wp2_with fail
      refine (bclone_any ⟨b, off, none⟩ k cap (sub f 0 k) (by omega) _ (HS1.out.same HBW.out)).mono ?_
      rintro e w3 ⟨a3, c3, rfl, hn3, hB3⟩
      have HB3 := Lib.hid hB3; have HN3 := Lib.hid hn3; clear hB3 hn3
      go_wp2
      go_ret2
      have hz := HBW.out.size
      exact Or.inr (Or.inr ⟨by have := HN.out; omega, by rw [HN.out, Nat.add_sub_cancel]; exact HV.out, a3, c3, by rw [HN.out, Nat.add_sub_cancel]; rfl, by rw [HN.out, Nat.add_sub_cancel]; exact HN3.out.mono hz, HBW.out.trans (HB3.out.mono hz)⟩)
end Go.Proofs.YtjlmajopfeplpaaGreat

namespace Go.Proofs.YtjlmajopfeplpaaGreat
open Go.RowKit Go.Shelf

theorem Crc.m1_xs (r v : Nat) (hr : r < 4294967296) (hv : v < 256) : bits .xor .u32 (r : Int) (v : Int) = ((r ^^^ v : Nat) : Int) := u32_xor_nat _ _ hr (by omega)
set_option maxHeartbeats 1000000 in
set_option maxRecDepth 100000 in
theorem rgo_any (a : Option Addr) (n cap : Nat) (f : Nat → Nat) (s : Nat) (hs : s < 4294967296) (hn : n ≤ 1000000000000) (w : World) (hS : Sl w a n cap f) :
    Calls Tryz.prog 43 #[.int .u32 s, .slice a n cap] w fun e w' => e = .returned (.int .u32 (Crc.go s f n : Nat)) ∧ w' = w := by
  have HS := Lib.hid hS; clear hS
  have HL := Lib.hid (fun k => Crc.run_lt (s := Crc.inv s) (Crc.inv_lt hs) HS.out.bytes k)
  have hi0 := Crc.notw s hs
  have hsg := Crc.sgn
  go_enter Tryz.func43, Tryz.ntmps43
  go_wp2_with fail
  go_loop [5, 6] (fun v i => ∃ k : Nat, k ≤ n ∧ i = .int .i64 k ∧ v = .int .u32 (Crc.run (Crc.inv s) f k : Nat)) (fun _ i => n - (intOf i).toNat)
  case atStart => exact ⟨0, by omega, rfl, rfl⟩
  case round =>
    obtain ⟨k, hk, rfl, rfl⟩ := hrel
    clear hi0
    by_cases hlt : k < n
    · have i1 : (k : Int) < (n : Int) := by omega
      obtain ⟨ab, ao, ea, hc⟩ := HS.out.at_ hlt
      subst ea
      have hl := HL.out k
      have hb := HS.out.bytes k
      have HE := Lib.hid (show Crc.run (Crc.inv s) f (k + 1) = Crc.mn (Crc.run (Crc.inv s) f k ^^^ f k) 8 from rfl)
      generalize Crc.run (Crc.inv s) f k = q at hl HE ⊢
      generalize f k = v at hb hc HE
      have hx := Crc.m1_xs q v hl hb
      have HM := Lib.hid (fun j => Crc.mn_lt (Crc.xor_lt hl hb) j)
      generalize q ^^^ v = x at hx HE HM
      go_wp2_with fail
      clear hx
      go_loop [5, 7] (fun r i => ∃ j : Nat, j ≤ 8 ∧ i = .int .i64 j ∧ r = .int .u32 (Crc.mn x j : Nat)) (fun _ i => 8 - (intOf i).toNat)
      case atStart => exact ⟨0, by omega, rfl, rfl⟩
      case round =>
        obtain ⟨j, hj, rfl, rfl⟩ := hrel
        by_cases hlj : j < 8
        · have hl2 := HM.out j
          have HE2 := Lib.hid (show Crc.mn x (j + 1) = Crc.m1 (Crc.mn x j) from rfl)
          generalize Crc.mn x j = r at hl2 HE2 ⊢
          cases ht : r.testBit 0 with
          | true =>
            have ha := Crc.and1 r hl2
            rw [ht, if_pos rfl] at ha
            have hx := Crc.m1_yes r hl2 ht
            clear ht
            go_wp2_with fail
            go_round
            case rel => exact ⟨j + 1, by omega, by go_num, by rw [HE2.out]⟩
            case measure => simp [intOf]; omega
          | false =>
            have ha := Crc.and1 r hl2
            rw [ht, if_neg (by simp)] at ha
            have hx := Crc.m1_no r ht
            clear ht
            go_wp2_with fail
            go_round
            case rel => exact ⟨j + 1, by omega, by go_num, by rw [HE2.out]⟩
            case measure => simp [intOf]; omega
        · obtain rfl : j = 8 := by omega
          go_wp2_with fail
          go_round
          case rel => exact ⟨k + 1, by omega, by go_num, by rw [HE.out]⟩
          case measure => simp [intOf]; omega
    · obtain rfl : k = n := by omega
      have hq := Crc.notw _ (HL.out k)
      go_wp2
      go_ret
      exact ⟨rfl, rfl⟩

end Go.Proofs.YtjlmajopfeplpaaGreat

namespace Go.Proofs.YtjlmajopfeplpaaGreat
open Go.RowKit Go.Shelf

theorem Crc.b0 (s : Nat) : (s : Int) % 256 = ((Crc.byt s 0 : Nat) : Int) := by unfold Crc.byt; simp
theorem Crc.b1 (s : Nat) : (s : Int) / 256 % 256 = ((Crc.byt s 1 : Nat) : Int) := by unfold Crc.byt; simp
theorem Crc.b2 (s : Nat) : (s : Int) / 65536 % 256 = ((Crc.byt s 2 : Nat) : Int) := by unfold Crc.byt; simp
theorem Crc.b3 (s : Nat) : (s : Int) / 16777216 % 256 = ((Crc.byt s 3 : Nat) : Int) := by unfold Crc.byt; simp

/-- the four bytes of a sum, as they are laid. -/
def sumV (s : Nat) : List Value := [.int .u8 (Crc.byt s 0 : Nat), .int .u8 (Crc.byt s 1 : Nat), .int .u8 (Crc.byt s 2 : Nat), .int .u8 (Crc.byt s 3 : Nat)]
theorem sealV (f : Nat → Nat) (n : Nat) : ((List.range n).map fun i => Value.int .u8 (f i : Nat)) ++ sumV (Crc.go 0 f n) = (List.range (n + 4)).map fun i => Value.int .u8 (Crc.sealed f n i : Nat) := by
  rw [List.range_add, List.map_append]
  congr 1
  · exact List.map_congr_left fun i hi => by rw [Crc.sealed_lo (by simpa using hi)]
  · rw [show List.range 4 = [0, 1, 2, 3] from rfl]
    simp only [List.map_cons, List.map_nil]
    rw [Crc.sealed_hi (i := 0) (by omega), Crc.sealed_hi (i := 1) (by omega), Crc.sealed_hi (i := 2) (by omega), Crc.sealed_hi (i := 3) (by omega)]
    rfl
theorem cell_four (w : World) (a b c d : Value) (t : TypeId) (N : Nat) (hN : N = w.heap.size) : ∀ j u, [a, b, c, d][j]? = some u → (w.alloc (.cells #[a, b, c, d] t)).cell? ((⟨N, 0, none⟩ : Addr).add j) = some u := by
  intro j u hj
  subst hN
  rw [Addr.add_lit, Nat.zero_add, World.cell?_alloc_new]
  simpa using hj
theorem ones_four (a b c d : Nat) : ∀ u ∈ [Value.int .u8 (a : Nat), .int .u8 (b : Nat), .int .u8 (c : Nat), .int .u8 (d : Nat)], u.oneCell' = true := by
  intro u hu
  simp only [List.mem_cons, List.not_mem_nil, or_false] at hu
  rcases hu with rfl | rfl | rfl | rfl <;> rfl
theorem sealed_bytes {f : Nat → Nat} (hf : Pf.By f) (n : Nat) : Pf.By (Crc.sealed f n) := fun i => Crc.sealed_lt hf n i
theorem sealed_upto (f : Nat → Nat) (n : Nat) : Pf.Up (Crc.sealed f n) (n + 4) := fun _ hi => Crc.sealed_up hi

set_option maxHeartbeats 1000000 in
set_option maxRecDepth 100000 in
theorem rseal_any (a : Option Addr) (n cap : Nat) (f : Nat → Nat) (hn : n ≤ 10000000000) (w : World) (hS : Sl w a n cap f) :
    Calls Tryz.prog 23 #[.slice a n cap] w (Gives w (n + 4) (Crc.sealed f n)) := by
  obtain ⟨i0, hi, hz0, hz1, hz2⟩ := info_parts Tryz.infoU8
  have HS := Lib.hid hS; clear hS
  have HI := Lib.hid hi; have HZ0 := Lib.hid hz0; have HZ1 := Lib.hid hz1; have HZ2 := Lib.hid hz2
  clear hi hz0 hz1 hz2
  have HSV := Lib.hid (sealV f n)
  have hby := sealed_bytes HS.out.bytes n
  have HBY := Lib.hid hby; clear hby
  go_enter Tryz.func23, Tryz.ntmps23
  go_wp2_with fail
  refine (rgo_any a n cap f 0 (by omega) (by omega) _ HS.out).mono ?_
  rintro e w1 ⟨rfl, rfl⟩
  have b0 := Crc.b0 (Crc.go 0 f n); have b1 := Crc.b1 (Crc.go 0 f n); have b2 := Crc.b2 (Crc.go 0 f n); have b3 := Crc.b3 (Crc.go 0 f n)
  have HSU := Lib.hid (show sumV (Crc.go 0 f n) = [.int .u8 (Crc.byt (Crc.go 0 f n) 0 : Nat), .int .u8 (Crc.byt (Crc.go 0 f n) 1 : Nat), .int .u8 (Crc.byt (Crc.go 0 f n) 2 : Nat), .int .u8 (Crc.byt (Crc.go 0 f n) 3 : Nat)] from rfl)
  generalize Crc.go 0 f n = s at b0 b1 b2 b3 HSV HSU ⊢
  generalize Crc.byt s 0 = s0 at b0 HSU
  generalize Crc.byt s 1 = s1 at b1 HSU
  generalize Crc.byt s 2 = s2 at b2 HSU
  generalize Crc.byt s 3 = s3 at b3 HSU
  have hx0 := World.ownsRow_made (e := 5) (size := 1) w1 #[] 0 (Nat.le_refl _) (by unfold maxLen; omega) rfl
  have HX0 := Lib.hid hx0; clear hx0
  cases a with
  | none =>
    obtain ⟨rfl, rfl⟩ := HS.out.nil rfl
    have HB0 := Lib.hid ((Below.refl w1.heap.size w1).alloc (Nat.le_refl _) (.cells #[] 5))
    go_wp2_with (first
      | (refine wpList_append_own_none (o := ⟨some 8, _, _, _, _, _⟩) rfl (.tmp 6) (.tmp 7) 28 rfl w1.heap.size 5 i0 1 Tryz.underlying28 HI.out _ 0 [] rfl HX0.out rfl ?_)
      | (refine wpList_append_own (o := ⟨some 21, _, _, _, _, _⟩) _ rfl (.tmp 8) (.tmp 20) 28 rfl w1.heap.size 5 i0 (.int .u8 0) 1 1 Tryz.underlying28 HI.out HZ0.out HZ1.out HZ2.out rfl (by decide) _ 0 _ rfl (own_below HX0.out ((Below.refl _ _).alloc (Nat.le_refl _) _)) ⟨w1.heap.size + 1, 0, none⟩ 4 4 [.int .u8 (s0 : Nat), .int .u8 (s1 : Nat), .int .u8 (s2 : Nat), .int .u8 (s3 : Nat)] rfl rfl (cell_four (w1.alloc (.cells #[] 5)) _ _ _ _ 5 _ (by simp)) (ones_four _ _ _ _) (by unfold maxLen; omega) (by omega) (by have := HB0.out.size; simp at this ⊢; omega) ?_; intro v2 w3 hown2 hgrow2 _; have HO2 := Lib.hid hown2; have HB2 := Lib.hid ((HB0.out.alloc HB0.out.size (.cells #[.int .u8 (s0 : Nat), .int .u8 (s1 : Nat), .int .u8 (s2 : Nat), .int .u8 (s3 : Nat)] 5)).grown hgrow2 (by have := HB0.out.size; simp at this ⊢; omega) (fun q e => (HX0.out.lt q e).1)); clear hown2 hgrow2))
    go_ret
    have hf : w3.ownsRow w1.heap.size 5 1 v2 (0 + 4) (((List.range 0).map fun i => Value.int .u8 (f i : Nat)) ++ [.int .u8 (s0 : Nat), .int .u8 (s1 : Nat), .int .u8 (s2 : Nat), .int .u8 (s3 : Nat)]) := HO2.out
    rw [← HSU.out, HSV.out] at hf
    obtain ⟨a3, c3, rfl, hN⟩ := owns_new hf HBY.out (sealed_upto f _)
    exact ⟨a3, c3, rfl, hN, HB2.out⟩
  | some ad =>
    go_wp2_with (first
      | (refine wpList_append_own (o := ⟨some 8, _, _, _, _, _⟩) _ rfl (.tmp 6) (.tmp 7) 28 rfl w1.heap.size 5 i0 (.int .u8 0) 1 1 Tryz.underlying28 HI.out HZ0.out HZ1.out HZ2.out rfl (by decide) _ 0 [] rfl HX0.out ad n cap ((List.range n).map fun i => Value.int .u8 (f i : Nat)) rfl (by simp) (Sl.reads (HS.out.same ((Below.refl _ _).alloc (Nat.le_refl _) _)) _ rfl) (ones_map _ _) (by unfold maxLen; omega) (by omega) (by simp) ?_; intro v1 w2 hown hgrow _; rw [Nat.zero_add, List.nil_append] at hown; have HO := Lib.hid hown; have HB := Lib.hid (((Below.refl w1.heap.size w1).alloc (Nat.le_refl _) (.cells #[] 5)).grown hgrow (by simp) (by intro k hk; cases hk; exact Nat.le_refl _)); clear hown hgrow)
      | (refine wpList_append_own (o := ⟨some 21, _, _, _, _, _⟩) _ rfl (.tmp 8) (.tmp 20) 28 rfl w1.heap.size 5 i0 (.int .u8 0) 1 1 Tryz.underlying28 HI.out HZ0.out HZ1.out HZ2.out rfl (by decide) _ n _ rfl (own_below HO.out ((Below.refl _ _).alloc (Nat.le_refl _) _)) ⟨w2.heap.size, 0, none⟩ 4 4 [.int .u8 (s0 : Nat), .int .u8 (s1 : Nat), .int .u8 (s2 : Nat), .int .u8 (s3 : Nat)] rfl rfl (cell_four (w2) _ _ _ _ 5 _ (by simp)) (ones_four _ _ _ _) (by unfold maxLen; omega) (by omega) (by have := HB.out.size; simp at this ⊢; omega) ?_; intro v2 w3 hown2 hgrow2 _; have HO2 := Lib.hid hown2; have HB2 := Lib.hid ((HB.out.alloc HB.out.size (.cells #[.int .u8 (s0 : Nat), .int .u8 (s1 : Nat), .int .u8 (s2 : Nat), .int .u8 (s3 : Nat)] 5)).grown hgrow2 (by have := HB.out.size; simp at this ⊢; omega) (fun q e => (HO.out.lt q e).1)); clear hown2 hgrow2))
    go_ret
    have hf := HO2.out
    rw [← HSU.out, HSV.out] at hf
    obtain ⟨a3, c3, rfl, hN⟩ := owns_new hf HBY.out (sealed_upto f _)
    exact ⟨a3, c3, rfl, hN, HB2.out⟩

end Go.Proofs.YtjlmajopfeplpaaGreat

namespace Go.Proofs.YtjlmajopfeplpaaGreat
open Go.RowKit Go.Shelf

theorem nw_str {w : World} {B : Nat} {a : Option Addr} {n cap : Nat} {f : Nat → Nat} (h : Nw w B a n cap f) (h0 : 0 < n) : ∃ g, a = some ⟨g, 0, none⟩ := by
  rcases h.ow with ⟨e, _⟩ | ⟨g, vs, e, _⟩
  · have := h.sl.nil e; omega
  · exact ⟨g, e⟩
theorem ok_str (f : Nat → Nat) (hf : Pf.By f) (k : Nat) (g : Nat → Nat) (hg : ∀ i, i < k → g i = f i) (hgb : Pf.By g) : ((strOfNums (ints (Crc.sealed g k) (k + 4))).toList != (strOfNums (ints f (k + 4))).toList) = !okB f k := by
  have hgo : Crc.go 0 g k = Crc.go 0 f k := Crc.go_congr hg
  show (!((strOfNums (ints (Crc.sealed g k) (k + 4))).toList == (strOfNums (ints f (k + 4))).toList)) = _
  rw [str_eq _ _ (sealed_bytes hgb k) hf]
  congr 1
  unfold okB
  rw [Bool.eq_iff_iff, eqB_iff, eqB_iff]
  constructor
  · intro h i hi
    have := h (k + i) (by omega)
    rw [Crc.sealed_hi hi, hgo] at this
    exact this
  · intro h i hi
    by_cases c : i < k
    · rw [Crc.sealed_lo c]; exact hg i c
    · obtain ⟨j, rfl⟩ : ∃ j, i = k + j := ⟨i - k, by omega⟩
      rw [Crc.sealed_hi (by omega), hgo]; exact h j (by omega)
set_option maxHeartbeats 1000000 in
set_option maxRecDepth 100000 in
theorem ropen_any (a : Option Addr) (n cap : Nat) (f : Nat → Nat) (hn : n ≤ 1000000000) (w : World) (hS : Sl w a n cap f) :
    Calls Tryz.prog 50 #[.slice a n cap] w (OpenSays w n f) := by
  by_cases h4 : n < 4
  · have h4' : (n : Int) - 4 < 0 := by omega
    have H4 := Lib.hid h4; clear h4 hS
    go_enter Tryz.func50, Tryz.ntmps50
    go_wp2
    go_ret2
    exact Or.inl ⟨H4.out, rfl, Below.refl _ _⟩
  · obtain ⟨k, rfl⟩ : ∃ k, n = k + 4 := ⟨n - 4, by omega⟩
    clear h4
    obtain ⟨i0, hi, hz0, hz1, hz2⟩ := info_parts Tryz.infoU8
    have HI := Lib.hid hi; have HZ0 := Lib.hid hz0; have HZ1 := Lib.hid hz1; have HZ2 := Lib.hid hz2
    clear hi hz0 hz1 hz2
    obtain ⟨b, off, rfl, _⟩ := hS.at_ (k := 0) (by omega)
    have hc := hS.capOk
    have hm := hS.maxOk
    have HS := Lib.hid hS
    have HS1 := Lib.hid (sl_lo hS (m := k) (by omega))
    have HO := Lib.hid (ok_str f hS.bytes k (sub f 0 k) (fun i hi => by unfold sub; rw [if_pos hi, Nat.zero_add]) (sub_by hS.bytes 0 k))
    have e1 : ((k + 4 : Nat) : Int) - 4 = (k : Int) := by omega
    have e2 : ¬ (k : Int) < 0 := by omega
    have e4 : (k : Int) ≤ ((k + 4 : Nat) : Int) := by omega
    have e5 : (k : Int) ≤ (cap : Int) := by omega
    have HBS := Lib.hid (sub_by hS.bytes 0 k); have HUS := Lib.hid (sub_up f 0 k)
    unfold maxLen at hm
    clear hS
    obtain ⟨N, hN⟩ : ∃ N, N = k + 4 := ⟨_, rfl⟩
    rw [← hN] at e1 e4 hc hn HS HO ⊢
    have HN := Lib.hid hN; clear hN
    obtain ⟨S2, hS2⟩ : ∃ S2, S2 = strOfNums (ints f N) := ⟨_, rfl⟩
    have HF := Lib.hid (fun (W : World) (h : Below w.heap.size w W) => conv_sl W (some ⟨b, off, none⟩) N cap f (by have := HN.out; omega) (HS.out.same h))
    rw [← hS2] at HF HO
    obtain ⟨S1, hS1⟩ : ∃ S1, S1 = strOfNums (ints (Crc.sealed (sub f 0 k) k) N) := ⟨_, rfl⟩
    rw [← hS1] at HO
    have HS1' := Lib.hid (show S1 = strOfNums (ints (Crc.sealed (sub f 0 k) k) (k + 4)) by rw [hS1, HN.out])
    clear hS2 hS1
    have HFD := Lib.hid (HF.out w.drew ((Below.refl _ w).drew))
    have hfd := HFD.out
    go_enter Tryz.func50, Tryz.ntmps50
    go_wp2_with fail
    go_region_with ((first
      | (go_at_call 23; refine (rseal_any (some ⟨b, off, none⟩) k cap (sub f 0 k) (by omega) w.drew (HS1.out.drewN 1)).mono ?_; rintro e w1 ⟨a1, c1, rfl, hn1, hB⟩; have HB := Lib.hid (show Below w.heap.size w.drew w1 from hB); have hf1 := HF.out w1 (((Below.refl _ w).drew).trans HB.out); have hs1 := conv_sl w1 a1 (k + 4) c1 _ (by omega) hn1.sl; rw [← HS1'.out] at hs1; clear hn1 hB)))
    all_goals
      have HBW := Lib.hid (show Below w.heap.size w w1 from ((Below.refl _ w).drew).trans HB.out)
      have hx : (!(S1.toList == S2.toList)) = !okB f k := HO.out
      rw [hx]
      clear hx hf1 hs1 hfd
      cases hv : okB f k with
      | false =>
        have HV := Lib.hid hv
        clear hv
        go_wp2
        go_ret2
        exact Or.inr (Or.inl ⟨by have := HN.out; omega, by rw [HN.out, Nat.add_sub_cancel]; exact HV.out, rfl, HBW.out⟩)
      | true =>
        have HV := Lib.hid hv
        clear hv
        have hz := HBW.out.size
        go_wp2_with (at_builtin; refine wpList_append_own _ rfl _ _ 28 rfl w1.heap.size 5 i0 (.int .u8 0) 1 1 Tryz.underlying28 HI.out HZ0.out HZ1.out HZ2.out rfl (by decide) _ 0 [] rfl (World.ownsRow_made w1 #[] 0 (Nat.le_refl _) (by unfold maxLen; omega) rfl) ⟨b, off, none⟩ k cap ((List.range k).map fun i => Value.int .u8 (sub f 0 k i : Nat)) rfl (by simp) (Sl.reads ((HS1.out.same HBW.out).same ((Below.refl _ _).alloc (Nat.le_refl _) _)) _ rfl) (ones_map _ _) (by unfold maxLen; omega) (by omega) (by simp) ?_; intro v' w2 hown hgrow _; rw [Nat.zero_add, List.nil_append] at hown; have HO2 := Lib.hid (owns_new hown HBS.out HUS.out); have HB2 := Lib.hid (((Below.refl w1.heap.size w1).alloc (Nat.le_refl _) (.cells #[] 5)).grown hgrow (by simp) (by intro k hk; cases hk; exact Nat.le_refl _)); clear hown hgrow)
        obtain ⟨a3, c3, e, hn3⟩ := HO2.out
        subst e
        go_ret2
        exact Or.inr (Or.inr ⟨by have := HN.out; omega, by rw [HN.out, Nat.add_sub_cancel]; exact HV.out, a3, c3, by rw [HN.out, Nat.add_sub_cancel]; rfl, by rw [HN.out, Nat.add_sub_cancel]; exact hn3.mono hz, HBW.out.trans (HB2.out.mono hz)⟩)
end Go.Proofs.YtjlmajopfeplpaaGreat
