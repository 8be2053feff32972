import Derived.Test.YtmjjhbeegjbocaaMg9
import Derived.Test.YtmjjhbeegjbocaaMg27
import Derived.Test.YtmjjhbeegjbocaaMg33
import Derived.Test.YtmjjhbeegjbocaaMg35
namespace Go.Proofs.Ytmjjhbeegjbocaa.Sp
open Go.RowKit Go.Shelf

/-- what is cut, row by row. -/
def crow (f : Nat → Nat) (wi i j : Nat) : Nat := if j < wi then f (i * wi + j) else 0
theorem crow_by {f : Nat → Nat} (h : Pf.By f) (wi i : Nat) : Pf.By (crow f wi i) := fun j => by unfold crow; split; exact h _; omega
theorem crow_up (f : Nat → Nat) (wi i : Nat) : Pf.Up (crow f wi i) wi := fun j hj => if_neg (by omega)
theorem cpy_all {f : Nat → Nat} {n : Nat} (h : Pf.Up f n) : (cpy 0 n f fun _ => 0) = f := funext fun i => by
  unfold cpy
  by_cases c : i < n
  · rw [if_pos ⟨Nat.zero_le _, by omega⟩, Nat.sub_zero]
  · rw [if_neg (by omega), h i (by omega)]
/-- .. and joined again. -/
theorem jn_crow (f : Nat → Nat) {wi : Nat} (hw : 0 < wi) : jn (crow f wi) wi = f := funext fun j => by
  unfold jn crow
  rw [if_pos (Nat.mod_lt _ hw), Nat.mul_comm, Nat.div_add_mod]
theorem place_le {i k wi : Nat} (hi : i < k) : i * wi + wi ≤ k * wi := by
  have := Nat.mul_le_mul_right wi (show i + 1 ≤ k from hi)
  rwa [Nat.add_mul, Nat.one_mul] at this
theorem range_part {k : Nat} (g wi : Nat) {i : Nat} (hi : i < k) : ((List.range k).map (part g wi))[i]? = some (.slice (some ⟨g, i * wi, none⟩) wi wi) := by
  rw [List.getElem?_map, List.getElem?_range hi]; rfl
section
variable {w w' : World} {f : Nat → Nat} {n k wi G : Nat}
theorem CutFin.rd (h : CutFin w f n k wi G w') (hb : Pf.By f) (hu : Pf.Up f n) (hs : k * wi ≤ 1000000) (hk : k ≤ 1000000) :
    ∃ g, w.heap.size ≤ G ∧ w.heap.size ≤ g ∧ G ≠ g ∧ Below w.heap.size w w' ∧ Bl w' g (k * wi) (k * wi) f ∧ w'.ownsRow w.heap.size 22 1 (.slice (some ⟨G, 0, none⟩) k k) k ((List.range k).map (part g wi)) ∧
      Rd w' (some ⟨G, 0, none⟩) k k (fun i => some ⟨g, i * wi, none⟩) (fun _ => wi) (fun _ => wi) (crow f wi) := by
  obtain ⟨g, h1, h2, h3, h4, h5, h6⟩ := h
  rw [cpy_all hu] at h5
  refine ⟨g, h1, h2, h3, h4, h5, h6, Nat.le_refl _, by unfold maxLen; omega, fun i => crow_by hb wi i, fun e => (by cases e), fun ad e _ => (by cases e; rfl), fun ad e i hi => ?_, fun i hi => ?_⟩
  · cases e
    have := h6.cells (g := G) rfl i _ (range_part g wi hi)
    rw [Addr.add_lit] at this
    exact this
  · have hp := place_le (wi := wi) hi
    refine ⟨Nat.le_refl _, by unfold maxLen; omega, crow_by hb wi i, crow_up f wi i, fun e => (by cases e), fun ad e _ => (by cases e; rfl), fun ad e j hj => ?_⟩
    cases e
    show w'.cell? ⟨g, i * wi + j, none⟩ = _
    rw [h5.cell (by omega)]
    unfold crow
    rw [if_pos hj]
end
/-- bytes that are written out. -/
def lt (vs : List Nat) (i : Nat) : Nat := vs.getD i 0
theorem lt_by {vs : List Nat} (h : ∀ v ∈ vs, v < 256) : Pf.By (lt vs) := fun i => by
  unfold lt
  rw [List.getD_eq_getElem?_getD]
  cases e : vs[i]? with
  | none => show 0 < 256; omega
  | some v => exact h v (List.mem_of_getElem? e)
theorem lt_up (vs : List Nat) : Pf.Up (lt vs) vs.length := fun i hi => by unfold lt; simp [hi]
theorem lt_bl (w : World) (vs : List Nat) : Bl (w.alloc (.cells (vs.map fun v => Value.int .u8 (v : Nat)).toArray 5)) w.heap.size vs.length vs.length (lt vs) := by
  have := Bl.alloc w (vs.map fun v => Value.int .u8 (v : Nat)) (lt vs) (fun i hi => by
    rw [List.length_map] at hi
    rw [List.getElem?_map, List.getElem?_eq_getElem hi]
    unfold lt
    rw [List.getD_eq_getElem?_getD, List.getElem?_eq_getElem hi]; rfl)
  rwa [List.length_map] at this
theorem lt_sl (w : World) (vs : List Nat) (hv : ∀ v ∈ vs, v < 256) (hl : vs.length ≤ 1000) : Sl (w.alloc (.cells (vs.map fun v => Value.int .u8 (v : Nat)).toArray 5)) (some ⟨w.heap.size, 0, none⟩) vs.length vs.length (lt vs) :=
  (lt_bl w vs).sl (Nat.le_refl _) (by unfold maxLen; omega) (lt_by hv) (lt_up vs)
/-- two rows of three bytes that are written out. -/
def two3 (a b : List Nat) (i : Nat) : Nat → Nat := if i = 0 then lt a else lt b
theorem two_rd (w : World) (a b : List Nat) (ha : ∀ v ∈ a, v < 256) (hb : ∀ v ∈ b, v < 256) (la : a.length = 3) (lb : b.length = 3) :
    Rd (((w.alloc (.cells (a.map fun v => Value.int .u8 (v : Nat)).toArray 5)).alloc (.cells (b.map fun v => Value.int .u8 (v : Nat)).toArray 5)).alloc (.cells #[.slice (some ⟨w.heap.size, 0, none⟩) 3 3, .slice (some ⟨w.heap.size + 1, 0, none⟩) 3 3] 22)) (some ⟨w.heap.size + 1 + 1, 0, none⟩) 2 2 (fun i => some ⟨w.heap.size + i, 0, none⟩) (fun _ => 3) (fun _ => 3) (two3 a b) := by
  have h1 := (lt_bl w a).kept (Below.heap_alloc _ (.cells (b.map fun v => Value.int .u8 (v : Nat)).toArray 5) _ (by rw [World.size_alloc]; omega))
  have h2 := h1.kept (Below.heap_alloc _ (.cells #[.slice (some ⟨w.heap.size, 0, none⟩) 3 3, .slice (some ⟨w.heap.size + 1, 0, none⟩) 3 3] 22) _ (by simp only [World.size_alloc]; omega))
  have h3 := (lt_bl (w.alloc (.cells (a.map fun v => Value.int .u8 (v : Nat)).toArray 5)) b).kept (Below.heap_alloc _ (.cells #[.slice (some ⟨w.heap.size, 0, none⟩) 3 3, .slice (some ⟨w.heap.size + 1, 0, none⟩) 3 3] 22) _ (by simp only [World.size_alloc]; omega))
  have h4 := heap_alloc_new ((w.alloc (.cells (a.map fun v => Value.int .u8 (v : Nat)).toArray 5)).alloc (.cells (b.map fun v => Value.int .u8 (v : Nat)).toArray 5)) (.cells #[.slice (some ⟨w.heap.size, 0, none⟩) 3 3, .slice (some ⟨w.heap.size + 1, 0, none⟩) 3 3] 22)
  simp only [World.size_alloc] at h3 h4
  rw [la] at h2
  rw [lb] at h3
  have hby : ∀ i, Pf.By (two3 a b i) := fun i => by unfold two3; split; exact lt_by ha; exact lt_by hb
  refine ⟨by omega, by unfold maxLen; omega, hby, fun e => (by cases e), fun ad e _ => (by cases e; rfl), fun ad e i hi => ?_, fun i hi => ?_⟩
  · cases e
    show World.cell? _ ⟨_, 0 + i, none⟩ = _
    rw [Nat.zero_add, cell_of_row _ _ i _ _ _ h4]
    rcases (show i = 0 ∨ i = 1 by omega) with rfl | rfl <;> rfl
  · rcases (show i = 0 ∨ i = 1 by omega) with rfl | rfl
    · exact h2.sl (by omega) (by unfold maxLen; omega) (lt_by ha) (by have := lt_up a; rwa [la] at this)
    · exact h3.sl (by omega) (by unfold maxLen; omega) (lt_by hb) (by have := lt_up b; rwa [lb] at this)
theorem awake9_e : ∀ i, i < 2 → (3 = 3 ∧ two3 [1, 2, 3] [4, 5, 0] i = crow (lt [1, 2, 3, 4, 5]) 3 i) := fun i hi => ⟨rfl, by
  have h0 : ∀ i, i < 2 → ∀ j, j < 3 → two3 [1, 2, 3] [4, 5, 0] i j = crow (lt [1, 2, 3, 4, 5]) 3 i j := by decide +kernel
  funext j
  by_cases hj : j < 3
  · exact h0 i hi j hj
  · rw [crow_up _ _ _ j (by omega)]
    unfold two3
    split
    · exact lt_up [1, 2, 3] j (by simpa using hj)
    · exact lt_up [4, 5, 0] j (by simpa using hj)⟩
end Go.Proofs.Ytmjjhbeegjbocaa.Sp

namespace Go.Proofs.Ytmjjhbeegjbocaa.Sp
open Go.RowKit Go.Shelf

set_option maxHeartbeats 1000000 in
theorem rcut_bad (a : Option Addr) (n cap : Nat) (k : Int) (h : Bad n k) (w : World) :
    Calls Try.prog 12 #[.slice a n cap, .int .i64 k] w fun e w' => e = .returned (.tuple #[.slice none 0 0, .int .i64 2]) ∧ w' = w := by
  have H := Lib.hid h; clear h
  go_enter Try.func12, Try.ntmps12
  go_wp2_with fail
  refine (rwidth_bad n k H.out _).mono ?_
  rintro e w1 ⟨rfl, rfl⟩
  go_wp2
  go_ret2
  exact ⟨rfl, rfl⟩
/-- a row as it is filled. -/
def fil (f : Nat → Nat) (wi k c j : Nat) : Nat := if j < c then crow f wi k j else 0
theorem fil_s (f : Nat → Nat) (wi k c : Nat) (j : Nat) : (if j = c then crow f wi k c else fil f wi k c j) = fil f wi k (c + 1) j := by
  unfold fil
  by_cases e : j = c
  · subst e; rw [if_pos rfl, if_pos (by omega)]
  · rw [if_neg e]
    by_cases h : j < c
    · rw [if_pos h, if_pos (by omega)]
    · rw [if_neg h, if_neg (by omega)]
theorem fil_all (f : Nat → Nat) (wi k : Nat) : fil f wi k wi = crow f wi k := funext fun j => by
  unfold fil
  by_cases h : j < wi
  · rw [if_pos h]
  · rw [if_neg h, crow_up f wi k j (by omega)]

set_option maxHeartbeats 4000000 in
set_option maxRecDepth 100000 in
theorem rcut_ok (a : Option Addr) (n cap K : Nat) (f : Nat → Nat) (hn : n ≤ 65535) (h1 : 1 ≤ K) (h2 : K ≤ 255) (w : World) (hS : Sl w a n cap f) :
    Calls Try.prog 12 #[.slice a n cap, .int .i64 (K : Nat)] w fun e w' => ∃ pa pc b, e = .returned (.tuple #[.slice pa K pc, .int .i64 0]) ∧ Go_ w' w.heap.size pa K pc b (fun _ => wid n K) (fun _ => wid n K) (crow f (wid n K)) ∧ Below w.heap.size w w' := by
  have hlo := wid_lo (L := n) h1
  have hle := wid_le (L := n) h1
  have hby := fun k => crow_by hS.bytes (wid n K) k
  have hup := hS.up
  have HW := Lib.hid (rwidth_ok n K hn h1 h2 w)
  generalize wid n K = wi at *
  have hmk := hmk8 wi (by omega)
  have hT : K * wi ≤ 66000 := by omega
  obtain ⟨i0, hi', hz0', hz1', hz2'⟩ := info_parts Try.infoRow
  have HI := Lib.hid hi'; have HZ0 := Lib.hid hz0'; have HZ1 := Lib.hid hz1'; have HZ2 := Lib.hid hz2'
  have HS := Lib.hid hS; have HBY := Lib.hid hby; have HUP := Lib.hid hup
  clear hi' hz0' hz1' hz2' hS hby hup hlo
  have HP0 := Lib.hid (pr_none w w.heap.size (fun _ => 0) (fun _ => wi) (fun _ => wi))
  have HB0 := Lib.hid (Below.refl w.heap.size w)
  go_enter Try.func12, Try.ntmps12
  go_wp2_with fail
  refine HW.out.mono ?_
  rintro e w1 ⟨rfl, rfl⟩
  go_wp2_with fail
  go_loopw [8, 9] (fun v i wr => ∃ (k : Nat) (pa : Option Addr) (pc : Nat) (b : Nat → Nat), k ≤ K ∧ i = .int .i64 k ∧ v = .slice pa k pc ∧ Pr wr w1.heap.size pa k pc b (fun _ => wi) (fun _ => wi) (crow f wi) ∧ Below w1.heap.size w1 wr) (fun _ i _ => K - (intOf i).toNat)
  case atStart => exact ⟨0, none, 0, fun _ => 0, by omega, rfl, rfl, HP0.out.congr (fun _ _ => rfl) (fun _ _ => rfl) (fun k => HBY.out k) (fun i j hi => absurd hi (Nat.not_lt_zero i)), HB0.out⟩
  case round =>
    obtain ⟨k, pa, pc, b, hk, rfl, rfl, hP, hB⟩ := hrel
    obtain ⟨wo, rfl⟩ : ∃ wo : World, wo = wr := ⟨_, rfl⟩
    have HP := Lib.hid hP; have HB := Lib.hid hB
    clear hP hB HP0 HB0
    by_cases hkh : k < K
    · have i1 : (k : Int) < (K : Int) := by omega
      have HBL := Lib.hid ((bl_made wo wi).congr (h' := fil f wi k 0) fun j _ => by unfold fil; rw [if_neg (by omega)])
      have HB1 := Lib.hid ((Below.refl wo.heap.size wo).alloc (Nat.le_refl _) (.cells (madeCells #[.int .u8 0] wi) 5))
      have hpl := place_le (wi := wi) hkh
      have hmul : (k : Int) * (wi : Int) = ((k * wi : Nat) : Int) := by rw [Int.natCast_mul]
      have HCR := Lib.hid (show ∀ c, c < wi → crow f wi k c = f (k * wi + c) from fun c hc => by unfold crow; rw [if_pos hc])
      generalize k * wi = T0 at *
      have hw := HB.out.size
      go_wp2_with fail
      go_loopw [11] (fun ci wx => ∃ c : Nat, c ≤ wi ∧ ci = .int .i64 (c : Nat) ∧ Bl wx wo.heap.size wi wi (fil f wi k c) ∧ Below wo.heap.size wo wx) (fun ci _ => wi - (intOf ci).toNat)
      case atStart => exact ⟨0, by omega, rfl, HBL.out, HB1.out⟩
      case round =>
        obtain ⟨c, hc, rfl, hbl, hBx⟩ := hrel
        by_cases hcw : c < wi
        · have i2 : (c : Int) < (wi : Int) := by omega
          have cr := hbl.cell hcw
          have fr := hbl.free c
          have hset := fun v => hbl.set hcw v
          have HBL3 := Lib.hid hbl; have HST := Lib.hid hset; have HBX := Lib.hid hBx
          have hcr := HCR.out c hcw
          have HCC := Lib.hid hcr
          have hFS := fun j => fil_s f wi k c j
          have HFS := Lib.hid hFS
          clear hset hFS hcr
          by_cases hin : T0 + c < n
          · obtain ⟨b', o', ea, c2⟩ := ((HS.out.same HB.out).same hBx).at_ hin
            have g1 : (T0 : Int) + (c : Int) < (n : Int) := by omega
            have EA := Lib.hid ea
            clear hbl hBx
            generalize fil f wi k c c = v0 at cr
            subst ea
            go_wp2_with fail
            refine ⟨⟨c + 1, by omega, by go_num, (HST.out (f (T0 + c))).congr fun j _ => ?_, HBX.out.setCell (p := ⟨wo.heap.size, c, none⟩) (Nat.le_refl _) _⟩, by simp [intOf]; omega⟩
            have := HFS.out j
            rw [HCC.out] at this; exact this
          · have g1 : ¬ (T0 : Int) + (c : Int) < (n : Int) := by omega
            have hz := HUP.out (T0 + c) (by omega)
            have HZ := Lib.hid hz
            clear hbl hBx hz
            generalize fil f wi k c c = v0 at cr
            go_wp2_with fail
            refine ⟨⟨c + 1, by omega, by go_num, HBL3.out.congr fun j _ => ?_, HBX.out⟩, by simp [intOf]; omega⟩
            have h3 := HFS.out j
            rw [HCC.out, HZ.out] at h3
            rw [← h3]
            by_cases e : j = c
            · rw [if_pos e, e]; unfold fil; rw [if_neg (by omega)]
            · rw [if_neg e]
        · have hcw' : c = wi := by omega
          have i2 : ¬ (c : Int) < (wi : Int) := by omega
          rw [hcw', fil_all] at hbl
          have HBL2 := Lib.hid hbl; have HBX := Lib.hid hBx; have HCW := Lib.hid hcw'
          have hs2 := hBx.size
          clear hbl hBx hcw'
          go_wp2_with ((refine wpList_append_bag _ rfl (.tmp 53) (.tmp 55) 23 rfl w1.heap.size 22 i0 (.slice none 0 0) 24 Try.underlying23 HI.out HZ0.out HZ1.out HZ2.out rfl pa k pc ((List.range k).map fun i => Value.slice (some ⟨b i, 0, none⟩) wi wi) rfl (own_below (own_below HP.out.own HBX.out) ((Below.refl _ _).alloc (Nat.le_refl _) _)) ⟨wr.heap.size, 0, none⟩ 1 1 [.slice (some ⟨wo.heap.size, 0, none⟩) wi wi] rfl rfl (cell_new1 _ _ _) (fun u hu => by rw [List.mem_singleton.1 hu]; rfl) (by omega) (by unfold maxLen; omega) (by omega) (by simp; omega) ?_); intro g' cap' w2 hown hc hlt; have HO := Lib.hid hown; have HC := Lib.hid hc; clear hown hc hlt)
          have hb2 : Below wo.heap.size wo (wr.alloc (.cells #[.slice (some ⟨wo.heap.size, 0, none⟩) wi wi] 22)) := HBX.out.alloc hs2 _
          have hst := HP.out.step hb2 (HBL2.out.kept (Below.heap_alloc _ _ _ HBL2.out.lt)) (Nat.le_refl _) hw ⟨Nat.le_refl _, by unfold maxLen; omega⟩ (HBY.out k) (crow_up f wi k) HO.out HC.out
          have HST := Lib.hid (hst.congr (l' := fun _ => wi) (c' := fun _ => wi) (f' := crow f wi) (fun i _ => by split <;> rfl) (fun i _ => by split <;> rfl) (fun k => HBY.out k) (fun i j _ => by split <;> simp_all))
          have HB2 := Lib.hid (below_apn (HB.out.trans (hb2.mono hw)) (by have := hb2.size; omega) HC.out (fun g e => by subst e; exact (HP.out.own.lt g rfl).1))
          clear hb2 hst
          go_wp2_with fail
          go_roundw
          case rel => exact ⟨k + 1, _, _, _, by omega, by go_num, rfl, HST.out, HB2.out⟩
          case measure => simp [intOf]; omega
    · obtain rfl : k = K := by omega
      have i1 : ¬ (k : Int) < (k : Int) := by omega
      go_wp2
      go_ret2
      exact ⟨pa, pc, rfl, ⟨b, HP.out.go⟩, HB.out⟩
end Go.Proofs.Ytmjjhbeegjbocaa.Sp

namespace Go.Proofs.Ytmjjhbeegjbocaa.Sp
open Go.RowKit Go.Shelf

theorem quiet_bel {w w' : World} {q : Nat} (h : w' = w.drewN q) : Below w.heap.size w w' := by rw [h]; exact below_dr (Below.refl _ _) q
set_option maxHeartbeats 2000000 in
set_option maxRecDepth 100000 in
theorem awake9_any (w : World) :
    Calls Try.prog 8 #[] w fun e w' => e = .returned (.bool true) ∧ Below w.heap.size w w' := by
  have hl1 := lt_sl w [1, 2, 3, 4, 5] (by decide) (by decide)
  have hB1 : Below w.heap.size w (w.alloc (.cells ([1, 2, 3, 4, 5].map fun v => Value.int .u8 ((v : Nat) : Int)).toArray 5)) := (Below.refl _ w).alloc (Nat.le_refl _) _
  have HL1 := Lib.hid hl1; have HB1 := Lib.hid hB1; clear hl1 hB1
  go_enter Try.func8, Try.ntmps8
  go_wp2_with fail
  refine (cut_ok _ 5 5 2 (lt [1, 2, 3, 4, 5]) (by omega) (by omega) (by omega) _ HL1.out).mono ?_
  rintro e w2 ⟨G, rfl, hf⟩
  obtain ⟨g, _, _, _, hB2, _, _, hR⟩ := CutFin.rd (show CutFin _ _ 5 2 3 G w2 from hf) (lt_by (by decide)) (lt_up [1, 2, 3, 4, 5]) (by omega) (by omega)
  have HR := Lib.hid hR; have HB2 := Lib.hid (HB1.out.trans (hB2.mono HB1.out.size))
  clear hR hB2 hf HL1 HB1
  go_wp2_with fail
  refine (join_ok _ 2 2 5 _ _ _ _ (by omega) (by omega) (by omega) _ HR.out).mono ?_
  rintro e w3 ⟨hB3, ⟨_, i, _, hi⟩ | ⟨_, g3, rfl, _, hbl⟩⟩
  · exact absurd rfl hi
  have hbl' : Bl w3 g3 5 5 (lt [1, 2, 3, 4, 5]) := by
    have e : jn (crow (lt [1, 2, 3, 4, 5]) 3) (wid 5 2) = lt [1, 2, 3, 4, 5] := jn_crow _ (by omega)
    rwa [e] at hbl
  have hr4 := two_rd w3 [1, 2, 3] [4, 5, 0] (by decide) (by decide) rfl rfl
  have hB4 : Below w3.heap.size w3 (((w3.alloc (.cells ([1, 2, 3].map fun v => Value.int .u8 ((v : Nat) : Int)).toArray 5)).alloc (.cells ([4, 5, 0].map fun v => Value.int .u8 ((v : Nat) : Int)).toArray 5)).alloc (.cells #[.slice (some ⟨w3.heap.size, 0, none⟩) 3 3, .slice (some ⟨w3.heap.size + 1, 0, none⟩) 3 3] 22)) :=
    (((Below.refl _ w3).alloc (Nat.le_refl _) _).alloc (by simp only [World.size_alloc]; omega) _).alloc (by simp only [World.size_alloc]; omega) _
  have hb3 := HB2.out.trans (hB3.mono HB2.out.size)
  have HR4 := Lib.hid hr4; have HRc := Lib.hid ((HR.out.same hB3).same hB4); have HB4 := Lib.hid (hb3.trans (hB4.mono hb3.size)); have HJ := Lib.hid (hbl'.below hB4 hbl'.lt)
  clear hB3 hbl hbl' hr4 hB4 hb3 HR HB2
  go_wp2_with fail
  refine (sameRows_any _ _ 2 2 2 _ _ _ _ _ _ _ _ (by omega) (fun _ _ => by omega) _ HRc.out HR4.out awake9_e).mono ?_
  rintro e w5 ⟨rfl, q, hq⟩
  have hB5 := quiet_bel hq
  have hb5 := HB4.out.trans (hB5.mono HB4.out.size)
  have hl6 := lt_sl w5 [1, 2, 3, 4, 5] (by decide) (by decide)
  have hB6 : Below w5.heap.size w5 (w5.alloc (.cells ([1, 2, 3, 4, 5].map fun v => Value.int .u8 ((v : Nat) : Int)).toArray 5)) := (Below.refl _ w5).alloc (Nat.le_refl _) _
  have HJ6 := Lib.hid ((HJ.out.below hB5 HJ.out.lt).below hB6 (HJ.out.below hB5 HJ.out.lt).lt); have HL6 := Lib.hid hl6; have HB6 := Lib.hid (hb5.trans (hB6.mono hb5.size))
  clear hq hB5 hb5 hl6 hB6 HR4 HRc HB4 HJ
  go_wp2_with fail
  refine (same_any _ _ 5 5 5 (lt [1, 2, 3, 4, 5]) (by omega) _ (HJ6.out.sl (Nat.le_refl _) (by unfold maxLen; omega) (lt_by (by decide)) (lt_up [1, 2, 3, 4, 5])) HL6.out).mono ?_
  rintro e w7 ⟨rfl, q, hq⟩
  have hB7 := quiet_bel hq
  have HB7 := Lib.hid (HB6.out.trans (hB7.mono HB6.out.size))
  clear hq hB7 HJ6 HL6 HB6
  go_wp2
  go_ret
  exact ⟨rfl, HB7.out⟩
end Go.Proofs.Ytmjjhbeegjbocaa.Sp

namespace Go.Proofs.Ytmjjhbeegjbocaa.Sp
open Go.RowKit Go.Shelf

/-- the width, the error of whatever length and threshold. -/
def wv (x k : Int) : Int := if Bad x k then 0 else (wid x.toNat k.toNat : Nat)
def we (x k : Int) : Int := if Bad x k then 2 else 0
theorem width_any (x k : Int) (w : World) :
    Calls Try.prog 15 #[.int .i64 x, .int .i64 k] w fun e w' => e = .returned (.tuple #[.int .i64 (wv x k), .int .i64 (we x k)]) ∧ w' = w := by
  unfold wv we
  by_cases h : Bad x k
  · rw [if_pos h, if_pos h]; exact width_bad x k h w
  · rw [if_neg h, if_neg h]
    have h' := h
    unfold Bad at h
    obtain ⟨X, rfl⟩ : ∃ X : Nat, x = X := ⟨x.toNat, by omega⟩
    obtain ⟨K, rfl⟩ : ∃ K : Nat, k = K := ⟨k.toNat, by omega⟩
    exact width_ok X K (by omega) (by omega) (by omega) w
theorem wv_ok {x k : Nat} (h : ¬ Bad x k) : wv x k = (wid x k : Nat) := by unfold wv; rw [if_neg h]; rfl
theorem we_ok {x k : Int} (h : ¬ Bad x k) : we x k = 0 := if_neg h
theorem we_bad {x k : Int} (h : Bad x k) : we x k = 2 := if_pos h
theorem wid_one (L : Nat) : wid L 1 = L := by unfold wid; rw [Nat.add_sub_cancel, Nat.div_one]
theorem wid_more {L N k : Nat} (hk : 1 ≤ k) (h : L ≤ N) : wid L k ≤ wid N k := wid_least hk (Nat.le_trans h (wid_hi hk))
theorem wid_less {L k M : Nat} (hk : 1 ≤ k) (h : k ≤ M) : wid L M ≤ wid L k := wid_least (by omega) (Nat.le_trans (wid_hi hk) (Nat.mul_le_mul_right _ h))

set_option maxHeartbeats 2000000 in
set_option maxRecDepth 100000 in
theorem stripLess_any (x mo k al : Int) (w : World) :
    Calls Try.prog 6 #[.int .i64 x, .int .i64 mo, .int .i64 k, .int .i64 al] w fun e w' => e = .returned (.bool true) ∧ Below w.heap.size w w' := by
  have p1 := pkv_bd mo (n := 100) (by omega)
  have p2 := pkv_bd al (n := 100) (by omega)
  go_enter Try.func6, Try.ntmps6
  go_wp2_with fail
  refine (awake9_any _).mono ?_
  rintro e w1 ⟨rfl, hB⟩
  have HB := Lib.hid hB; clear hB
  go_wp2_with fail
  refine (width_any x k _).mono ?_
  rintro e w2 ⟨rfl, rfl⟩
  go_wp2_with fail
  refine (pickv_any mo 100 (by omega) (by omega) _).mono ?_
  rintro e w2 ⟨rfl, rfl⟩
  go_wp2_with fail
  refine (width_any _ _ _).mono ?_
  rintro e w2 ⟨rfl, rfl⟩
  go_wp2_with fail
  refine (pickv_any al 100 (by omega) (by omega) _).mono ?_
  rintro e w2 ⟨rfl, rfl⟩
  go_wp2_with fail
  refine (width_any _ _ _).mono ?_
  rintro e w2 ⟨rfl, rfl⟩
  by_cases h : Bad x k
  · rw [we_bad h]
    have HN := Lib.hid h
    clear h p1 p2
    generalize wv x k = v1
    generalize wrap64 (x + pkv mo 100) = n1
    generalize wrap64 (k + pkv al 100) = m1
    generalize wv n1 k = v2
    generalize we n1 k = e2
    generalize wv x m1 = v3
    generalize we x m1 = e3
    go_wp2
    go_ret
    exact ⟨rfl, HB.out⟩
  · have h' := h
    unfold Bad at h'
    obtain ⟨L, rfl⟩ : ∃ L : Nat, x = L := ⟨x.toNat, by omega⟩
    obtain ⟨K, rfl⟩ : ∃ K : Nat, k = K := ⟨k.toNat, by omega⟩
    have hK : 1 ≤ K := by omega
    rw [we_ok h, wv_ok h]
    obtain ⟨N, hN⟩ : ∃ N : Nat, (N : Int) = (L : Int) + pkv mo 100 := ⟨((L : Int) + pkv mo 100).toNat, by omega⟩
    obtain ⟨M, hM⟩ : ∃ M : Nat, (M : Int) = (K : Int) + pkv al 100 := ⟨((K : Int) + pkv al 100).toNat, by omega⟩
    have w1 : wrap64 ((L : Int) + pkv mo 100) = (N : Int) := by unfold wrap64; omega
    have w2' : wrap64 ((K : Int) + pkv al 100) = (M : Int) := by unfold wrap64; omega
    rw [w1, w2']
    have hLN : L ≤ N := by omega
    have hKM : K ≤ M := by omega
    have hNb : N ≤ 70000 := by omega
    have hMb : M ≤ 70000 := by omega
    have f1 := wid_more hK hLN
    have f2 := wid_less (L := L) hK hKM
    have hone : wv (L : Int) 1 = (L : Int) := by
      have := wv_ok (x := L) (k := 1) (by unfold Bad; omega)
      rw [wid_one] at this; exact this
    have hzero : we (L : Int) 1 = 0 := we_ok (by unfold Bad; omega)
    have hb1 := wid_le (L := L) hK
    have hb2 := wid_le (L := N) hK
    have hb3 := wid_le (L := L) (Nat.le_trans hK hKM)
    have HO := Lib.hid hone; have HZ := Lib.hid hzero
    clear w1 w2' hN hM p1 p2 hone hzero h
    obtain ⟨vb, eb, hvb, heb, hbs⟩ : ∃ vb eb : Int, wv (N : Int) (K : Int) = vb ∧ we (N : Int) (K : Int) = eb ∧ (N ≤ 65535 ∧ eb = 0 ∧ vb = (wid N K : Nat) ∨ 65535 < N ∧ eb = 2 ∧ vb = 0) := by
      refine ⟨_, _, rfl, rfl, ?_⟩
      by_cases c : N ≤ 65535
      · exact Or.inl ⟨c, we_ok (by unfold Bad; omega), wv_ok (by unfold Bad; omega)⟩
      · exact Or.inr ⟨by omega, we_bad (by unfold Bad; omega), by unfold wv; rw [if_pos (by unfold Bad; omega)]⟩
    obtain ⟨vc, ec, hvc, hec, hcs⟩ : ∃ vc ec : Int, wv (L : Int) (M : Int) = vc ∧ we (L : Int) (M : Int) = ec ∧ (M ≤ 255 ∧ ec = 0 ∧ vc = (wid L M : Nat) ∨ 255 < M ∧ ec = 2 ∧ vc = 0) := by
      refine ⟨_, _, rfl, rfl, ?_⟩
      by_cases c : M ≤ 255
      · exact Or.inl ⟨c, we_ok (by unfold Bad; omega), wv_ok (by unfold Bad; omega)⟩
      · exact Or.inr ⟨by omega, we_bad (by unfold Bad; omega), by unfold wv; rw [if_pos (by unfold Bad; omega)]⟩
    rw [hvb, heb, hvc, hec]
    clear hvb heb hvc hec
    generalize wid L K = wa at *
    generalize wid N K = wb at *
    generalize wid L M = wc at *
    rcases hbs with ⟨c1, rfl, rfl⟩ | ⟨c1, rfl, rfl⟩ <;> rcases hcs with ⟨c2, rfl, rfl⟩ | ⟨c2, rfl, rfl⟩
    all_goals
      go_wp2_with fail
      refine (width_any _ _ _).mono ?_
      rintro e w2 ⟨rfl, rfl⟩
      rw [HO.out, HZ.out]
    · have g1 : decide ((wa : Int) ≤ (wb : Int)) = true := by simp; omega
      have g2 : decide ((wc : Int) ≤ (wa : Int)) = true := by simp; omega
      have g3 : decide ((N : Int) ≤ 65535) = true := by simp; omega
      have g4 : decide ((M : Int) ≤ 255) = true := by simp; omega
      go_wp2
      go_ret
      exact ⟨by simp, HB.out⟩
    · have g1 : decide ((wa : Int) ≤ (wb : Int)) = true := by simp; omega
      have g3 : decide ((N : Int) ≤ 65535) = true := by simp; omega
      have g4 : decide ((M : Int) ≤ 255) = false := by simp; omega
      go_wp2
      go_ret
      exact ⟨by simp, HB.out⟩
    · have g2 : decide ((wc : Int) ≤ (wa : Int)) = true := by simp; omega
      have g3 : decide ((N : Int) ≤ 65535) = false := by simp; omega
      have g4 : decide ((M : Int) ≤ 255) = true := by simp; omega
      go_wp2
      go_ret
      exact ⟨by simp, HB.out⟩
    · have g3 : decide ((N : Int) ≤ 65535) = false := by simp; omega
      have g4 : decide ((M : Int) ≤ 255) = false := by simp; omega
      go_wp2
      go_ret
      exact ⟨by simp, HB.out⟩
end Go.Proofs.Ytmjjhbeegjbocaa.Sp

namespace Go.Proofs.Ytmjjhbeegjbocaa.Sp
open Go.RowKit Go.Shelf

/-- what size answers: a number; if it is at most 70000, no rows and no row are more than that. -/
def Size9 (n : Nat) (l : Nat → Nat) (e : Ending) : Prop := ∃ s : Nat, e = .returned (.int .i64 (s : Nat)) ∧ s ≤ 281474976710656 ∧ (s ≤ 70000 → n ≤ 70000 ∧ ∀ i, i < n → l i ≤ 70000)
set_option maxHeartbeats 1000000 in
set_option maxRecDepth 100000 in
theorem size9_any (a : Option Addr) (n cap : Nat) (r : Nat → Option Addr) (l c : Nat → Nat) (f : Nat → Nat → Nat) (hn : n ≤ 140737488355328) (hl : ∀ i, i < n → l i ≤ 140737488355328) (w : World) (hR : Rd w a n cap r l c f) :
    Calls Try.prog 7 #[.slice a n cap] w fun e w' => Size9 n l e ∧ w' = w := by
  have HR := Lib.hid hR; have HL := Lib.hid hl; clear hR hl
  go_enter Try.func7, Try.ntmps7
  go_wp2_with fail
  go_loop [3, 4] (fun t i => ∃ k s : Nat, k ≤ n ∧ i = .int .i64 k ∧ t = .int .i64 s ∧ n ≤ s ∧ s ≤ 281474976710656 ∧ ∀ i, i < k → l i ≤ s) (fun _ i => n - (intOf i).toNat)
  case atStart => exact ⟨0, n, by omega, rfl, rfl, by omega, by omega, fun i hi => absurd hi (Nat.not_lt_zero i)⟩
  case round =>
    obtain ⟨k, s, hk, rfl, rfl, hns, hs, hev⟩ := hrel
    have HV := Lib.hid hev; clear hev
    by_cases hlt : k < n
    · have i1 : (k : Int) < (n : Int) := by omega
      by_cases h9 : s ≤ 70000
      · have i2 : decide ((s : Int) ≤ 70000) = true := by simp; omega
        obtain ⟨b, off, ea, hc⟩ := HR.out.at_ hlt
        have hlk := HL.out k hlt
        subst ea
        go_wp2_with fail
        go_round
        case rel => exact ⟨k + 1, s + l k, by omega, by go_num, by go_num, by omega, by omega, fun i hi => by
          by_cases e : i = k
          · rw [e]; omega
          · have := HV.out i (by omega); omega⟩
        case measure => simp [intOf]; omega
      · have i2 : decide ((s : Int) ≤ 70000) = false := by simp; omega
        have H9 := Lib.hid h9; clear h9
        go_wp2
        go_ret
        exact ⟨⟨s, rfl, hs, fun h => absurd h H9.out⟩, rfl⟩
    · obtain rfl : k = n := by omega
      go_wp2
      go_ret
      exact ⟨⟨s, rfl, hs, fun h => ⟨by omega, fun i hi => Nat.le_trans (HV.out i hi) h⟩⟩, rfl⟩

/-- what Cut answers, of whatever threshold. -/
def CutP (w : World) (f : Nat → Nat) (n : Nat) (k : Int) (v : Value) (x : Int) (w' : World) : Prop :=
  (Bad n k ∧ v = .slice none 0 0 ∧ x = 2) ∨ (¬ Bad n k ∧ x = 0 ∧ ∃ G K, k = (K : Nat) ∧ v = .slice (some ⟨G, 0, none⟩) K K ∧ CutFin w f n K (wid n K) G w')
def CutAny (w : World) (f : Nat → Nat) (n : Nat) (k : Int) (e : Ending) (w' : World) : Prop := ∃ v x, e = .returned (.tuple #[v, .int .i64 x]) ∧ Below w.heap.size w w' ∧ CutP w f n k v x w'
theorem cut_any (a : Option Addr) (n cap : Nat) (k : Int) (f : Nat → Nat) (w : World) (hS : Sl w a n cap f) :
    Calls Try.prog 11 #[.slice a n cap, .int .i64 k] w (CutAny w f n k) := by
  by_cases h : Bad n k
  · refine (cut_bad a n cap k h w).mono ?_
    rintro e w' ⟨rfl, rfl⟩
    exact ⟨_, _, rfl, Below.refl _ _, Or.inl ⟨h, rfl, rfl⟩⟩
  · have h' := h
    unfold Bad at h'
    obtain ⟨K, rfl⟩ : ∃ K : Nat, k = K := ⟨k.toNat, by omega⟩
    refine (cut_ok a n cap K f (by omega) (by omega) (by omega) w hS).mono ?_
    rintro e w' ⟨G, rfl, hf⟩
    have hB : Below w.heap.size w w' := by obtain ⟨_, _, _, _, hB, _⟩ := hf; exact hB
    exact ⟨_, _, rfl, hB, Or.inr ⟨h, rfl, G, K, rfl, rfl, hf⟩⟩
/-- what Join answers, of whatever length. -/
def JoinP (w : World) (n : Nat) (l : Nat → Nat) (f : Nat → Nat → Nat) (x : Int) (v : Value) (y : Int) (w' : World) : Prop :=
  (v = .slice none 0 0 ∧ (Bad x n ∧ y = 2 ∨ ¬ Bad x n ∧ y = 4 ∧ ∃ i, i < n ∧ l i ≠ wid x.toNat n)) ∨
  (¬ Bad x n ∧ y = 0 ∧ ∃ g L, x = (L : Nat) ∧ v = .slice (some ⟨g, 0, none⟩) L L ∧ (∀ i, i < n → l i = wid L n) ∧ w.heap.size ≤ g ∧ Bl w' g L L (jn f (wid L n)))
def JoinAny (w : World) (n : Nat) (l : Nat → Nat) (f : Nat → Nat → Nat) (x : Int) (e : Ending) (w' : World) : Prop := ∃ v y, e = .returned (.tuple #[v, .int .i64 y]) ∧ Below w.heap.size w w' ∧ JoinP w n l f x v y w'
theorem join_any (a : Option Addr) (n cap : Nat) (r : Nat → Option Addr) (l c : Nat → Nat) (f : Nat → Nat → Nat) (x : Int) (w : World) (hR : Rd w a n cap r l c f) :
    Calls Try.prog 13 #[.slice a n cap, .int .i64 x] w (JoinAny w n l f x) := by
  by_cases h : Bad x n
  · refine (join_bad a n cap x h w).mono ?_
    rintro e w' ⟨rfl, hB⟩
    exact ⟨_, _, rfl, hB, Or.inl ⟨rfl, Or.inl ⟨h, rfl⟩⟩⟩
  · have h' := h
    unfold Bad at h'
    obtain ⟨L, rfl⟩ : ∃ L : Nat, x = L := ⟨x.toNat, by omega⟩
    refine (join_ok a n cap L r l c f (by omega) (by omega) (by omega) w hR).mono ?_
    rintro e w' ⟨hB, ⟨rfl, hi⟩ | ⟨ha, g, rfl, hg, hb⟩⟩
    · exact ⟨_, _, rfl, hB, Or.inl ⟨rfl, Or.inr ⟨h, rfl, hi⟩⟩⟩
    · exact ⟨_, _, rfl, hB, Or.inr ⟨h, rfl, g, L, rfl, rfl, ha, hg, hb⟩⟩
/-- as far as it goes. -/
def cut0 (h : Nat → Nat) (L i : Nat) : Nat := if i < L then h i else 0
theorem cut0_by {h : Nat → Nat} (hb : Pf.By h) (L : Nat) : Pf.By (cut0 h L) := fun i => by unfold cut0; split; exact hb i; omega
theorem cut0_up (h : Nat → Nat) (L : Nat) : Pf.Up (cut0 h L) L := fun i hi => if_neg (by omega)
theorem jn_by {f : Nat → Nat → Nat} (hb : Mt.Bm f) (wi : Nat) : Pf.By (jn f wi) := fun _ => hb _ _
end Go.Proofs.Ytmjjhbeegjbocaa.Sp

namespace Go.Proofs.Ytmjjhbeegjbocaa.Sp
open Go.RowKit Go.Shelf

set_option maxHeartbeats 1000000 in
theorem rjoin_bad (a : Option Addr) (n cap : Nat) (x : Int) (h : Bad x n) (w : World) :
    Calls Try.prog 14 #[.slice a n cap, .int .i64 x] w fun e w' => e = .returned (.tuple #[.slice none 0 0, .int .i64 2]) ∧ w' = w := by
  have H := Lib.hid h; clear h
  go_enter Try.func14, Try.ntmps14
  go_wp2_with fail
  refine (rwidth_bad x n H.out _).mono ?_
  rintro e w1 ⟨rfl, rfl⟩
  go_wp2
  go_ret2
  exact ⟨rfl, rfl⟩
theorem jn_rows (f : Nat → Nat → Nat) (wi k : Nat) : rowv (jn f wi) (k * wi + wi) = rowv (jn f wi) (k * wi) ++ rowv (f k) wi := by
  unfold rowv
  rw [List.range_add, List.map_append, List.map_map]
  congr 1
  apply List.map_congr_left
  intro j hj
  have hj : j < wi := List.mem_range.1 hj
  show Value.int .u8 ((f ((k * wi + j) / wi) ((k * wi + j) % wi) : Nat) : Int) = _
  have e1 : (k * wi + j) / wi = k := by rw [Nat.mul_comm, Nat.mul_add_div (by omega), Nat.div_eq_of_lt hj, Nat.add_zero]
  have e2 : (k * wi + j) % wi = j := by rw [Nat.mul_comm, Nat.mul_add_mod, Nat.mod_eq_of_lt hj]
  rw [e1, e2]
theorem rowv_cut (h : Nat → Nat) (L : Nat) : rowv h L = rowv (cut0 h L) L := by
  unfold rowv
  apply List.map_congr_left
  intro j hj
  unfold cut0
  rw [if_pos (List.mem_range.1 hj)]
/-- what the document's Join answers. -/
def RJoin (w : World) (n : Nat) (l : Nat → Nat) (f : Nat → Nat → Nat) (L : Nat) (e : Ending) (w' : World) : Prop :=
  Below w.heap.size w w' ∧ ((e = .returned (.tuple #[.slice none 0 0, .int .i64 4]) ∧ ∃ i, i < n ∧ l i ≠ wid L n) ∨
    ((∀ i, i < n → l i = wid L n) ∧ ∃ a c, e = .returned (.tuple #[.slice a L c, .int .i64 0]) ∧ Nw w' w.heap.size a L c (cut0 (jn f (wid L n)) L)))

set_option maxHeartbeats 4000000 in
set_option maxRecDepth 100000 in
theorem rjoin_ok (a : Option Addr) (n cap L : Nat) (r : Nat → Option Addr) (l c : Nat → Nat) (f : Nat → Nat → Nat) (hL : L ≤ 65535) (h1 : 1 ≤ n) (h2 : n ≤ 255) (w : World) (hR : Rd w a n cap r l c f) :
    Calls Try.prog 14 #[.slice a n cap, .int .i64 (L : Nat)] w (RJoin w n l f L) := by
  have hlo := wid_lo (L := L) h1
  have hhi := wid_hi (L := L) h1
  have hle := wid_le (L := L) h1
  have HW := Lib.hid (rwidth_ok L n hL h1 h2 w)
  unfold RJoin
  generalize wid L n = wi at *
  have hT : n * wi ≤ 66000 := by omega
  have HR := Lib.hid hR; have HHI := Lib.hid hhi
  obtain ⟨i0, hi', hz0', hz1', hz2'⟩ := info_parts Try.infoU8
  have HI := Lib.hid hi'; have HZ0 := Lib.hid hz0'; have HZ1 := Lib.hid hz1'; have HZ2 := Lib.hid hz2'
  clear hi' hz0' hz1' hz2' hR hhi hlo
  go_enter Try.func14, Try.ntmps14
  go_wp2_with fail
  refine HW.out.mono ?_
  rintro e w1 ⟨rfl, rfl⟩
  go_wp2_with fail
  have HB0 := Lib.hid (Below.refl w1.heap.size w1)
  have HO0 := Lib.hid (show w1.ownsRow w1.heap.size 5 1 (.slice none 0 0) (0 * wi) (rowv (jn f wi) (0 * wi)) from by rw [Nat.zero_mul]; exact World.ownsRow_nil _ _ _ _)
  go_loopw [8, 9] (fun v i wr => ∃ k : Nat, k ≤ n ∧ i = .int .i64 (k : Nat) ∧ (∀ j, j < k → l j = wi) ∧ wr.ownsRow w1.heap.size 5 1 v (k * wi) (rowv (jn f wi) (k * wi)) ∧ Below w1.heap.size w1 wr) (fun _ i _ => n - (intOf i).toNat)
  case atStart => exact ⟨0, by omega, rfl, fun j hj => absurd hj (Nat.not_lt_zero j), HO0.out, HB0.out⟩
  case round =>
    obtain ⟨k, hk, rfl, hall, hO, hB⟩ := hrel
    have HALL := Lib.hid hall; have HO := Lib.hid hO; have HB := Lib.hid hB
    clear hall hO hB HO0 HB0
    by_cases hkn : k < n
    · have i1 : (k : Int) < (n : Int) := by omega
      have hR1 := HR.out.same HB.out
      obtain ⟨b, o, ea, hc⟩ := hR1.at_ hkn
      have hrow := hR1.row k hkn
      have HRow := Lib.hid hrow
      have hpl := place_le (wi := wi) hkn
      have hw := HB.out.size
      subst ea
      clear hR1 hrow
      by_cases hlk : l k = wi
      · have HLK := Lib.hid hlk
        rw [hlk] at hc
        have hS : Sl wr (r k) wi (c k) (f k) := by have := HRow.out; rwa [hlk] at this
        have HS := Lib.hid hS
        have HRO := Lib.hid (jn_rows f wi k)
        have HNX := Lib.hid (show (k + 1) * wi = k * wi + wi by rw [Nat.add_mul, Nat.one_mul])
        clear hS HRow hlk
        generalize k * wi = T0 at *
        have g1 : ((wi : Int) != (wi : Int)) = false := by simp
        generalize hrk : r k = rk at *
        clear hrk
        cases rk with
        | none =>
          obtain ⟨hw0, hc0⟩ := HS.out.nil rfl
          rw [hw0, hc0] at hc
          have g2 : ((0 : Int) != (wi : Int)) = false := by rw [hw0]; rfl
          have g3 : (!decide ((wi : Int) = 0)) = false := by rw [hw0]; rfl
          have HW0 := Lib.hid hw0
          clear hw0 hc0
          go_wp2_with ((show wpList _ _ _ (⟨some 38, _, _, _, _, _⟩ :: _) _ _; (refine wpList_append_own_none (o := ⟨some 38, _, _, _, _, _⟩) rfl (.tmp 33) (.tmp 37) 22 rfl w1.heap.size 5 i0 1 Try.underlying22 HI.out _ T0 _ rfl HO.out rfl ?_)))
          go_roundw
          case rel => exact ⟨k + 1, by omega, by go_num, fun j hj => by
            by_cases e : j = k
            · rw [e]; exact HLK.out
            · exact HALL.out j (by omega), by
              have h1 : (k + 1) * wi = T0 := by have h2 := HNX.out; have h3 := HW0.out; omega
              rw [h1]; exact HO.out, HB.out⟩
          case measure => simp [intOf]; omega
        | some ad =>
          go_wp2_with ((show wpList _ _ _ (⟨some 38, _, _, _, _, _⟩ :: _) _ _; refine wpList_append_own (o := ⟨some 38, _, _, _, _, _⟩) _ rfl (.tmp 33) (.tmp 37) 22 rfl w1.heap.size 5 i0 (.int .u8 0) 1 1 Try.underlying22 HI.out HZ0.out HZ1.out HZ2.out rfl (by decide) _ T0 _ rfl HO.out ad wi (c k) (rowv (f k) wi) rfl (by rw [rowv_len]; omega) (Sl.reads HS.out _ rfl) (ones_map _ _) (by unfold maxLen; omega) (by omega) (by omega) ?_; intro v2 w2 hown hgrow _; rw [← HRO.out] at hown; have HO2 := Lib.hid hown; have HB2 := Lib.hid (HB.out.grown hgrow HB.out.size (fun q e => (HO.out.lt q e).1)); clear hown hgrow))
          go_roundw
          case rel => exact ⟨k + 1, by omega, by go_num, fun j hj => by
            by_cases e : j = k
            · rw [e]; exact HLK.out
            · exact HALL.out j (by omega), by rw [HNX.out]; exact HO2.out, HB2.out⟩
          case measure => simp [intOf]; omega
      · have g1 : (((l k : Nat) : Int) != (wi : Int)) = true := by simp; omega
        have HLK := Lib.hid hlk
        clear hlk
        go_wp2
        go_ret2
        exact ⟨HB.out, Or.inl ⟨rfl, k, hkn, HLK.out⟩⟩
    · obtain rfl : k = n := by omega
      have i1 : ¬ (k : Int) < (k : Int) := by omega
      have hLT := HHI.out
      have hw := HB.out.size
      have HX := Lib.hid (World.ownsRow_made (e := 5) (size := 1) wr #[] 0 hw (by unfold maxLen; omega) rfl)
      have HB1 := Lib.hid (HB.out.alloc hw (.cells #[] 5))
      have hby := jn_by HR.out.bm wi
      have HBY := Lib.hid (cut0_by hby L)
      have HCT := Lib.hid (rowv_cut (jn f wi) L)
      clear hby
      rcases HO.out.2 with ⟨rfl, hz⟩ | ⟨g, cp, cur, rfl, hgb, hg, hnc, hcm, _, ht⟩
      · have hL0 : L = 0 := by omega
        have HL0 := Lib.hid hL0
        have hsl : ∀ W, (Instr.slice 22 (.slice none 0 0) none (some (.int .i64 ((L : Nat) : Int))) none).run Try.prog W = .ok (.slice none 0 0) W := fun W => by
          have := slice_h none 0 0 L (by omega) W
          rw [hL0] at this ⊢; exact this
        clear hL0 hz hLT hw
        go_wp2_with ((show wpList _ _ _ (⟨some 43, _, _, _, _, _⟩ :: _) _ _; refine wpList_append_own_none (o := ⟨some 43, _, _, _, _, _⟩) rfl (.tmp 39) (.tmp 42) 22 rfl w1.heap.size 5 i0 1 Try.underlying22 HI.out _ 0 [] rfl HX.out rfl ?_))
        go_ret2
        obtain ⟨a3, c3, e3, hN⟩ := owns_new (n := 0) (f := cut0 (jn f wi) L) HX.out HBY.out (by have := cut0_up (jn f wi) L; rwa [HL0.out] at this ⊢)
        cases e3
        exact ⟨HB1.out, Or.inr ⟨HALL.out, _, _, by rw [HL0.out]; rfl, by rw [HL0.out] at hN ⊢; exact hN⟩⟩
      · have hsl := fun W => slice_h (some ⟨g, 0, none⟩) (k * wi) cp L (by omega) W
        have hrd : ∀ j u, (rowv (jn f wi) L)[j]? = some u → wr.cell? ((⟨g, 0, none⟩ : Addr).add j) = some u := fun j u hu => by
          have hj : j < L := by have := (List.getElem?_eq_some_iff.1 hu).1; rwa [rowv_len] at this
          refine HO.out.cells (g := g) rfl j u ?_
          rw [rowv_get (by omega)]
          rw [rowv_get hj] at hu; exact hu
        have HRD := Lib.hid (fun j u hu => (Below.cell ((Below.refl wr.heap.size wr).alloc (Nat.le_refl _) (.cells #[] 5)) (World.block_lt_of_cell? _ _ (hrd j u hu))).trans (hrd j u hu))
        clear hrd ht hg hw hLT
        go_wp2_with ((show wpList _ _ _ (⟨some 43, _, _, _, _, _⟩ :: _) _ _; refine wpList_append_own (o := ⟨some 43, _, _, _, _, _⟩) _ rfl (.tmp 39) (.tmp 42) 22 rfl w1.heap.size 5 i0 (.int .u8 0) 1 1 Try.underlying22 HI.out HZ0.out HZ1.out HZ2.out rfl (by decide) _ 0 [] rfl HX.out ⟨g, 0, none⟩ L cp (rowv (jn f wi) L) rfl (by rw [rowv_len]; omega) HRD.out (ones_map _ _) (by unfold maxLen; omega) (by omega) (by have := HB1.out.size; simp at this ⊢; omega) ?_; intro v2 w2 hown hgrow _; rw [List.nil_append, Nat.zero_add, HCT.out] at hown; have HO2 := Lib.hid hown; have HB2 := Lib.hid (HB1.out.grown hgrow HB1.out.size (fun q e => (HX.out.lt q e).1)); clear hown hgrow))
        go_ret2
        obtain ⟨a3, c3, rfl, hN⟩ := owns_new HO2.out HBY.out (cut0_up _ _)
        exact ⟨HB2.out, Or.inr ⟨HALL.out, a3, c3, rfl, hN⟩⟩
end Go.Proofs.Ytmjjhbeegjbocaa.Sp
