import Derived.Deep.QuietTactic
import Derived.BigQuiet
import Derived.Test.YtjnfghhochcpaaaGreatMg11
import Derived.Test.YtjnfghhochcpaaaGreatMg25
namespace Go.Proofs.YtjnfghhochcpaaaGreat
open Go.RowKit Go.Shelf Go.Maps

/-- indexes that a coder of n symbols takes. -/
def SoundSays (m N : Nat) (h : Nat → Int) (w : World) (e : Ending) (w' : World) : Prop := ∃ v : Bool, e = .returned (.bool v) ∧ (v = true ↔ InR h m N ∧ DsI h m) ∧ Below w.heap.size w w'
set_option maxHeartbeats 2000000 in
set_option maxRecDepth 100000 in
theorem sound_any (N : Nat) (a : Option Addr) (m cap : Nat) (h : Nat → Int) (hN : N ≤ 255) (hm : m ≤ 1000000000000) (w : World) (hS : Si w a m h) :
    Calls Tryz.prog 82 #[.int .i64 (N : Nat), .slice a m cap] w (SoundSays m N h w) := by
  have hzs := zero_seen
  have HS := Lib.hid hS; clear hS
  have HSN0 := Lib.hid (Sn.new w h)
  have HAL := Lib.hid (show Below w.heap.size w (w.alloc (.cells zerosB 180)) from (Below.refl _ w).alloc (Nat.le_refl _) _)
  go_enter Tryz.func82, Tryz.ntmps82
  go_wp2_with fail
  go_loopw [10] (fun i wr => ∃ t : Nat, t ≤ m ∧ i = .int .i64 t ∧ Sn wr w.heap.size h t ∧ (∀ j, j < t → 0 ≤ h j ∧ h j < N) ∧ (∀ i j, i < j → j < t → h i ≠ h j) ∧ Below w.heap.size w wr) (fun i _ => m - (intOf i).toNat)
  case atStart => exact ⟨0, by omega, rfl, HSN0.out, fun j hj => absurd hj (Nat.not_lt_zero j), fun i j _ hj => absurd hj (Nat.not_lt_zero j), HAL.out⟩
  case round =>
    clear HSN0 HAL
    obtain ⟨t, ht, rfl, hsn, hin, hds, hB⟩ := hrel
    have HSN := Lib.hid hsn; have HIN := Lib.hid hin; have HDS := Lib.hid hds; have HB := Lib.hid hB
    clear hsn hin hds hB
    by_cases htk : t < m
    · have i1 : (t : Int) < (m : Int) := by omega
      obtain ⟨ab, ao, ea, hca⟩ := (HS.out.same HB.out).cell t htk
      have EA := Lib.hid (show a = some ⟨ab, ao, none⟩ from ea)
      subst ea
      by_cases hlo : h t < 0
      · have HNO := Lib.hid (show ¬ (InR h m N ∧ DsI h m) from fun g => by have := g.1 t htk; omega)
        go_wp2
        go_ret
        exact ⟨false, rfl, ⟨fun hh => absurd hh Bool.false_ne_true, fun hh => absurd hh HNO.out⟩, HB.out⟩
      · by_cases hhi : (N : Int) ≤ h t
        · have HNO := Lib.hid (show ¬ (InR h m N ∧ DsI h m) from fun g => by have := g.1 t htk; omega)
          go_wp2
          go_ret
          exact ⟨false, rfl, ⟨fun hh => absurd hh Bool.false_ne_true, fun hh => absurd hh HNO.out⟩, HB.out⟩
        · obtain ⟨x, hx2⟩ : ∃ x : Nat, h t = (x : Nat) := ⟨(h t).toNat, by omega⟩
          have hx5 : x < 255 := by omega
          have HX2 := Lib.hid hx2
          have hxN : x < N := by omega
          rw [hx2] at hca
          obtain ⟨cs, fs⟩ := HSN.out x hx5
          have j1 : (x : Int) < 255 := by omega
          have j2 : ¬ (x : Int) < 0 := by omega
          have j3 : ¬ (N : Int) ≤ (x : Int) := by omega
          have j4 : decide (N ≤ x) = false := by simp; omega
          clear hlo hhi hx2
          cases hh : hit h (x : Nat) t
          · rw [hh] at cs
            have HH := Lib.hid hh; clear hh
            go_wp2
            go_roundw
            case rel => exact ⟨t + 1, by omega, by go_num, HSN.out.set hx5 HX2.out, fun j hj => by
              by_cases e : j = t
              · rw [e, HX2.out]; omega
              · exact HIN.out j (by omega), fun i j hij hj => by
              by_cases e : j = t
              · rw [e, HX2.out]; exact hit_no t HH.out i (by omega)
              · exact HDS.out i j hij (by omega), HB.out.setCell (p := ⟨w.heap.size, x, none⟩) (Nat.le_refl _) _⟩
            case measure => simp [intOf]; omega
          · rw [hh] at cs
            have HNO := Lib.hid (show ¬ (InR h m N ∧ DsI h m) from fun g => by
              obtain ⟨i, h1, h2⟩ := hit_yes t hh
              exact g.2 i t h1 htk (h2.trans HX2.out.symm))
            clear hh
            go_wp2
            go_ret
            exact ⟨false, rfl, ⟨fun hh => absurd hh Bool.false_ne_true, fun hh => absurd hh HNO.out⟩, HB.out⟩
    · obtain rfl : t = m := by omega
      go_wp2
      go_ret
      exact ⟨true, rfl, ⟨fun _ => ⟨HIN.out, HDS.out⟩, fun _ => rfl⟩, HB.out⟩

/-- the rows up to k. -/
def upTo (f : Nat → Nat → Nat) (k i j : Nat) : Nat := if i < k then f i j else 0
theorem upTo_bm {f : Nat → Nat → Nat} (h : Mt.Bm f) (k : Nat) : Mt.Bm (upTo f k) := fun i j => by
  unfold upTo; split
  · exact h i j
  · omega
theorem gr_wide {w : World} {B G n cap k K : Nat} {b c : Nat → Nat} {f : Nat → Nat → Nat} (h : Gr w B G n cap b (fun i => if i = k then K else K) c f) : Gr w B G n cap b (fun _ => K) c f := by
  rw [show (fun i => if i = k then K else K) = fun _ => K from funext fun i => by split <;> rfl] at h
  exact h
/-- a copy. -/
def CopySays (w : World) (m K : Nat) (f : Nat → Nat → Nat) (e : Ending) (w' : World) : Prop := ∃ G b c, e = .returned (.slice (some ⟨G, 0, none⟩) m m) ∧ Gr w' w.heap.size G m m b (fun _ => K) c f ∧ Below w.heap.size w w'
set_option maxHeartbeats 2000000 in
set_option maxRecDepth 100000 in
theorem copied_any (B G m K : Nat) (b : Nat → Nat) (f : Nat → Nat → Nat) (hm : m ≤ 1000000) (hK : K ≤ 1000000) (hK1 : 0 < K) (w : World) (h : Gr w B G m m b (fun _ => K) (fun _ => K) f) :
    Calls Tryz.prog 53 #[.slice (some ⟨G, 0, none⟩) m m] w (CopySays w m K f) := by
  have hmk := hmkRows m (by omega)
  have H := Lib.hid h
  have hG := gr_made w w.heap.size m (fun _ => 0) (fun _ => K) (fun _ => K) (by omega) (Nat.le_refl _)
  have HG0 := Lib.hid (hG.congr (upTo_bm h.bm 0) (fun i j h => absurd h (Nat.not_lt_zero i)))
  have HB0 := Lib.hid (show Below w.heap.size w (w.alloc (.cells (madeCells #[.slice none 0 0] m) 24)) from (Below.refl _ w).alloc (Nat.le_refl _) _)
  clear hG h
  go_enter Tryz.func53, Tryz.ntmps53
  go_wp2_with fail
  go_loopw [11] (fun i wr => ∃ (k : Nat) (b c : Nat → Nat), k ≤ m ∧ i = .int .i64 k ∧ Gr wr w.heap.size w.heap.size k m b (fun _ => K) c (upTo f k) ∧ Below w.heap.size w wr) (fun i _ => m - (intOf i).toNat)
  case atStart => exact ⟨0, _, _, by omega, rfl, HG0.out, HB0.out⟩
  case round =>
    rename_i wr
    clear hmk HG0 HB0
    obtain ⟨k, bb, cc, hk, rfl, hG, hBe⟩ := hrel
    have HG := Lib.hid hG; have HBe := Lib.hid hBe
    clear hG hBe
    by_cases hkm : k < m
    · have i1 : (k : Int) < (m : Int) := by omega
      have hRk := H.out.same HBe.out
      have hca := hRk.cell hkm
      have HRW := Lib.hid ((hRk.row k hkm).sl (Nat.le_refl _) (by unfold maxLen; omega) (hRk.bm k) (hRk.up k hkm))
      clear hRk
      go_wp2_with fail
      refine (bclone_any _ K K (f k) (by omega) _ HRW.out).mono ?_
      rintro e w2 ⟨a2, c2, rfl, hN, hB2⟩
      have hG2 := HG.out.same hB2
      obtain ⟨vs, k1, k2, k3⟩ := hG2.blk
      obtain ⟨v0, hcell⟩ : ∃ v, w2.cell? ⟨w.heap.size, k, none⟩ = some v := by
        refine ⟨vs[k]'(by omega), ?_⟩
        rw [cell_of_row w2 _ k vs _ _ k1]
        simp [show k < vs.size by omega]
      have hfr := hG2.free k
      have hsz2 := HBe.out.size
      obtain ⟨g2, ea2, hg2, hb2, hcc, hmx⟩ : ∃ g, a2 = some ⟨g, 0, none⟩ ∧ wr.heap.size ≤ g ∧ Bl w2 g K c2 (f k) ∧ K ≤ c2 ∧ c2 ≤ maxLen := by
        rcases hN.cond with ⟨_, h0, _⟩ | ⟨g, e, hg, hb⟩
        · omega
        · exact ⟨g, e, hg, hb, hN.sl.capOk, hN.sl.maxOk⟩
      subst ea2
      have HG2 := Lib.hid hG2; have HBL := Lib.hid hb2; have HB2 := Lib.hid (HBe.out.trans (hB2.mono HBe.out.size))
      have hltb := Lib.hid (fun i hi => HG.out.ltb (i := i) hi)
      clear hG2 hb2 hB2 k1 k2 k3 hN
      go_wp2_with fail
      go_roundw
      case rel => exact ⟨k + 1, _, _, by omega, by go_num, gr_wide ((HG2.out.push hkm HBL.out ⟨hcc, hmx⟩ (Nat.le_trans hsz2 hg2) (fun i hi e => by have := hltb.out i hi; omega) (H.out.bm k) (H.out.up k hkm)).congr (upTo_bm H.out.bm (k + 1)) (fun i j hi => by
          unfold upTo
          by_cases c : i = k
          · subst c; rw [if_pos rfl, if_pos (by omega)]
          · rw [if_neg c, if_pos (by omega), if_pos (by omega)])), HB2.out.setCell (p := ⟨w.heap.size, k, none⟩) (Nat.le_refl _) _⟩
      case measure => simp [intOf]; omega
    · obtain rfl : k = m := by omega
      go_wp2
      go_ret
      exact ⟨_, bb, cc, rfl, HG.out.congr H.out.bm (fun i j hi => by unfold upTo; rw [if_pos hi]), HBe.out⟩
end Go.Proofs.YtjnfghhochcpaaaGreat

namespace Go.Proofs.YtjnfghhochcpaaaGreat
open Go.RowKit Go.Shelf Go.Maps

section
variable {w w' : World} {s b room : Nat} {hi mi tp : Int} {L : List Lit} {T : Lit → Tv}
theorem But.at_ (h : But s b w w') (S : Sh w s b room hi mi tp L T) {i : Nat} {vs : Array Value} {t : TypeId} {z : Nat × Nat} (hc : w.heap[i]? = some (.cells vs t z)) (ht : t ≠ 139) : w'.heap[i]? = w.heap[i]? := by
  refine h.block i (Array.getElem?_eq_some_iff.1 hc).1 (fun e => ?_) (fun e => ?_)
  · rw [e, S.blk] at hc
    injection hc with hc
    injection hc with _ h2
    exact ht h2.symm
  · obtain ⟨es, clock, hb⟩ := S.map.blk
    rw [e, hb] at hc
    cases hc
theorem But.cell (h : But s b w w') (S : Sh w s b room hi mi tp L T) {i j : Nat} {v : Value} (hc : w.cell? ⟨i, j, none⟩ = some v) (hs : i ≠ s) : w'.heap[i]? = w.heap[i]? := by
  refine h.block i (World.block_lt_of_cell? _ _ hc) hs (fun e => ?_)
  obtain ⟨es, clock, hb⟩ := S.map.blk
  rw [e] at hc
  simp [World.cell?, hb] at hc
theorem IsField.but {fb : Nat} (h : IsField fb w) (hB : But s b w w') (S : Sh w s b room hi mi tp L T) : IsField fb w' := by
  have h0 := (h 0 (by omega)).1
  have hne : fb ≠ s := fun e => by
    rw [e, S.c0] at h0
    cases h0
  have hh := hB.cell S h0 hne
  intro j hj
  have hj' := h j hj
  refine ⟨?_, ?_⟩
  · simp only [World.cell?, hh]; exact hj'.1
  · simp only [World.frozen?, hh]; exact hj'.2
theorem Bl.but {g n cap : Nat} {h : Nat → Nat} (x : Bl w g n cap h) (hB : But s b w w') (S : Sh w s b room hi mi tp L T) : Bl w' g n cap h := by
  obtain ⟨vs, h1, h2⟩ := x
  exact ⟨vs, (hB.at_ S h1 (by decide)).trans h1, h2⟩
theorem Gr.but {B G n cap : Nat} {bI l c : Nat → Nat} {f : Nat → Nat → Nat} (x : Gr w B G n cap bI l c f) (hB : But s b w w') (S : Sh w s b room hi mi tp L T) : Gr w' B G n cap bI l c f := by
  obtain ⟨vs, h1, h2, h3⟩ := x.blk
  exact ⟨⟨vs, (hB.at_ S h1 (by decide)).trans h1, h2, h3⟩, fun i hi => (x.row i hi).but hB S, x.lc, x.nc, x.lo, x.inj, x.bm, x.up⟩
theorem Cd.but {cb fb G N K : Nat} {b2 : Nat → Nat} (x : Cd w cb fb G N K b2) (hB : But s b w w') (S : Sh w s b room hi mi tp L T) : Cd w' cb fb G N K b2 :=
  ⟨(hB.at_ S x.blk (by decide)).trans x.blk, x.fi.but hB S, x.tb.but hB S, x.k1, x.kn, x.nm⟩
end

/-- what is kept: keys, and the matrices of them. -/
def Ent (w : World) (N : Nat) (L : List Lit) (T : Lit → Tv) : Prop := ∀ kl, kl ∈ L → ∃ (K : Nat) (h : Nat → Int) (g : Nat) (bI : Nat → Nat) (u : Int), kl = klOf (K : Nat) (ky K h) ∧ 1 ≤ K ∧ K ≤ N ∧ (∀ i, i < K → 0 ≤ h i ∧ h i < N) ∧ T kl = (some ⟨g, 0, none⟩, K, K, u) ∧ Gr w 0 g K K bI (fun _ => K) (fun _ => K) (trn h K)
/-- a cache. -/
structure Ca (w : World) (N room c0 cb s b : Nat) (hi mi : Int) (L : List Lit) (T : Lit → Tv) : Prop where
  blk : w.heap[c0]? = some (.cells #[.int .i64 (N : Nat), .pointer (some ⟨cb, 0, none⟩), .pointer (some ⟨s, 0, none⟩)] 101 (0, 0))
  co : ∃ fb G b2, Cd w cb fb G 255 2 b2
  sh : Sh w s b room hi mi (hi + mi) L T
  ent : Ent w N L T
  nm : 1 ≤ N ∧ N ≤ 255
  cnt : 0 ≤ hi ∧ (L.length : Int) ≤ mi
section
variable {w w' : World} {N room c0 cb s b : Nat} {hi mi : Int} {L : List Lit} {T : Lit → Tv}
theorem ky_ok {K : Nat} {h : Nat → Int} (hK : K ≤ 255) (hh : ∀ i, i < K → 0 ≤ h i ∧ h i < 255) : KeyOk (K : Nat) (ky K h) := ⟨⟨by omega, by omega⟩, fun i _ => by
  unfold ky; split
  · have := hh i (by omega); omega
  · omega⟩
theorem Ca.kok (h : Ca w N room c0 cb s b hi mi L T) : Kok L := fun kl hk => by
  obtain ⟨K, f, g, bI, u, e, h1, h2, h3, _⟩ := h.ent kl hk
  have := h.nm
  exact ⟨_, _, ky_ok (by omega) (fun i hi => by have := h3 i hi; omega), e⟩
theorem Ent.same (h : Ent w N L T) (hB : Below w.heap.size w w') : Ent w' N L T := fun kl hk => by
  obtain ⟨K, f, g, bI, u, e, h1, h2, h3, h4, h5⟩ := h kl hk
  exact ⟨K, f, g, bI, u, e, h1, h2, h3, h4, h5.same hB⟩
theorem Ent.but {s b room : Nat} {hi mi tp : Int} {L' : List Lit} {T' : Lit → Tv} (h : Ent w N L T) (hB : But s b w w') (S : Sh w s b room hi mi tp L' T') : Ent w' N L T := fun kl hk => by
  obtain ⟨K, f, g, bI, u, e, h1, h2, h3, h4, h5⟩ := h kl hk
  exact ⟨K, f, g, bI, u, e, h1, h2, h3, h4, h5.but hB S⟩
theorem Ca.lt0 (h : Ca w N room c0 cb s b hi mi L T) : c0 < w.heap.size := (Array.getElem?_eq_some_iff.1 h.blk).1
theorem Ca.same (h : Ca w N room c0 cb s b hi mi L T) (hB : Below w.heap.size w w') : Ca w' N room c0 cb s b hi mi L T :=
  ⟨(hB.block c0 h.lt0).trans h.blk, let ⟨fb, G, b2, hc⟩ := h.co; ⟨fb, G, b2, hc.same hB⟩, h.sh.same hB, h.ent.same hB, h.nm, h.cnt⟩
theorem Ca.d0 (h : Ca w N room c0 cb s b hi mi L T) : w.cell? ⟨c0, 0, none⟩ = some (.int .i64 (N : Nat)) := by rw [cell_of_row w c0 0 _ _ _ h.blk]; rfl
theorem Ca.d1 (h : Ca w N room c0 cb s b hi mi L T) : w.cell? ⟨c0, 1, none⟩ = some (.pointer (some ⟨cb, 0, none⟩)) := by rw [cell_of_row w c0 1 _ _ _ h.blk]; rfl
theorem Ca.d2 (h : Ca w N room c0 cb s b hi mi L T) : w.cell? ⟨c0, 2, none⟩ = some (.pointer (some ⟨s, 0, none⟩)) := by rw [cell_of_row w c0 2 _ _ _ h.blk]; rfl
/-- what another cache's deeds leave. -/
theorem Ca.but {s' b' room' : Nat} {hi' mi' tp' : Int} {L' : List Lit} {T' : Lit → Tv} (h : Ca w N room c0 cb s b hi mi L T) (hB : But s' b' w w') (S : Sh w s' b' room' hi' mi' tp' L' T') (h1 : s ≠ s') (h2 : b ≠ b') : Ca w' N room c0 cb s b hi mi L T := by
  refine ⟨(hB.at_ S h.blk (by decide)).trans h.blk, let ⟨fb, G, b2, hc⟩ := h.co; ⟨fb, G, b2, hc.but hB S⟩, ⟨?_, h.sh.map.kept ?_, h.sh.inc, h.sh.top, h.sh.room⟩, h.ent.but hB S, h.nm, h.cnt⟩
  · rw [hB.block s h.sh.lt h1 (fun e => ?_)]
    · exact h.sh.blk
    · obtain ⟨es, clock, hb⟩ := S.map.blk
      have := h.sh.blk
      rw [e, hb] at this
      cases this
  · refine hB.block b h.sh.map.lt (fun e => ?_) h2
    obtain ⟨es, clock, hb⟩ := h.sh.map.blk
    rw [e, S.blk] at hb
    cases hb
end

set_option maxHeartbeats 400000 in
theorem canone_any (N room c0 cb s b : Nat) (hi mi : Int) (L : List Lit) (T : Lit → Tv) (w : World) (h : Ca w N room c0 cb s b hi mi L T) :
    Calls Tryz.prog 51 #[.pointer (some ⟨c0, 0, none⟩)] w fun e w' => e = .returned (.bool false) ∧ w' = w := by
  have c2 := h.d2
  clear h
  go_enter Tryz.func51, Tryz.ntmps51
  go_wp2
  go_ret
  exact ⟨rfl, rfl⟩

/-- a coder, where a line is written on. -/
theorem Cd.line {w w' : World} {cb fb G N K g : Nat} {b2 : Nat → Nat} (x : Cd w cb fb G N K b2) (hg : w.heap[g]? = some (.cells #[.pointer none] 91 (0, 0))) (hk : ∀ k, k ≠ g → w'.heap[k]? = w.heap[k]?) : Cd w' cb fb G N K b2 := by
  have ne : ∀ {i : Nat} {vs : Array Value} {t : TypeId} {z : Nat × Nat}, w.heap[i]? = some (.cells vs t z) → t ≠ 91 → i ≠ g := fun hc ht e => by
    rw [e, hg] at hc
    injection hc with hc
    injection hc with _ h2
    exact ht h2.symm
  refine ⟨(hk _ (ne x.blk (by decide))).trans x.blk, ?_, x.tb.kept (hk _ ?_) (fun i hi => hk _ ?_), x.k1, x.kn, x.nm⟩
  · have h0 := (x.fi 0 (by omega)).1
    have hne : fb ≠ g := fun e => by
      rw [e, cell_of_row w g 0 _ _ _ hg] at h0
      cases h0
    intro j hj
    have hj' := x.fi j hj
    refine ⟨?_, ?_⟩
    · simp only [World.cell?, hk _ hne]; exact hj'.1
    · simp only [World.frozen?, hk _ hne]; exact hj'.2
  · obtain ⟨vs, h1, _⟩ := x.tb.blk
    exact ne h1 (by decide)
  · obtain ⟨vs, h1, _⟩ := x.tb.row i hi
    exact ne h1 (by decide)
def LineSays (w : World) (e : Ending) (w' : World) : Prop := ∃ cb fb G b, e = .returned (.tuple #[.agg #[.pointer (some ⟨cb, 0, none⟩)], .int .i64 0]) ∧ Cd w' cb fb G 255 2 b ∧ Below w.heap.size w w'
set_option maxHeartbeats 1000000 in
theorem newLine_any (w : World) : Calls Tryz.prog 48 #[] w (LineSays w) := by
  have hal : Below w.heap.size w (w.alloc (.cells #[.pointer none] 91)) := (Below.refl _ w).alloc (Nat.le_refl _) _
  have HAL := Lib.hid hal; clear hal
  go_enter Tryz.func48, Tryz.ntmps48
  go_wp2_with fail
  refine (cnew_yes 255 2 (by omega) (by omega) (by omega) _).mono ?_
  rintro e w1 ⟨cb, fb, G, b, rfl, hC, hB⟩
  have hg := (hB.block w.heap.size (by simp)).trans (heap_alloc_new w (.cells #[.pointer none] 91))
  have c0 := cell_of_row w1 w.heap.size 0 _ _ _ hg
  have f0 := frozen_of_row w1 w.heap.size 0 _ _ hg
  have HC := Lib.hid (hC.line hg (w' := w1.setCell ⟨w.heap.size, 0, none⟩ (.pointer (some ⟨cb, 0, none⟩))) (fun k hk => heap_setCell_other _ _ _ _ hk)); have HB := Lib.hid ((HAL.out.trans (hB.mono HAL.out.size)).setCell (p := ⟨w.heap.size, 0, none⟩) (Nat.le_refl _) (.pointer (some ⟨cb, 0, none⟩)))
  have hc2 : (w1.setCell ⟨w.heap.size, 0, none⟩ (.pointer (some ⟨cb, 0, none⟩))).cell? ⟨w.heap.size, 0, none⟩ = some (.pointer (some ⟨cb, 0, none⟩)) := World.cell?_setCell_same _ _ _ c0
  have HC2 := Lib.hid hc2
  clear hC hB hg hc2
  go_wp2
  have hc2 := HC2.out
  exact bodyPost_ret (v := .tuple #[.agg #[.pointer (some ⟨cb, 0, none⟩)], .int .i64 0]) (by simp [results, Tryz.results48, go_sem, hc2]) rfl ⟨cb, fb, G, b, rfl, HC.out, HB.out⟩

def ShelfSays (room : Nat) (w : World) (e : Ending) (w' : World) : Prop := ∃ s b, e = .returned (.pointer (some ⟨s, 0, none⟩)) ∧ Sh w' s b room 0 0 0 [] (fun _ => (none, 0, 0, 0)) ∧ w.heap.size ≤ s ∧ w.heap.size ≤ b ∧ Below w.heap.size w w'
set_option maxHeartbeats 1000000 in
theorem newShelf_any (room : Nat) (h1 : 1 ≤ room) (h2 : room ≤ 64) (w : World) : Calls Tryz.prog 49 #[.int .i64 (room : Nat)] w (ShelfSays room w) := by
  have hmm := @run_makeMap Tryz.prog
  go_enter Tryz.func49, Tryz.ntmps49
  go_wp2
  go_ret
  refine ⟨_, _, rfl, ⟨?_, ?_, List.Pairwise.nil, fun x hx => absurd hx List.not_mem_nil, ⟨Nat.zero_le _, h1, h2⟩⟩, Nat.le_succ _, Nat.le_refl _, ((Below.refl _ w).alloc (Nat.le_refl _) _).alloc (by simp) _⟩
  · exact heap_alloc2_new w _ _
  · exact (Mp.made w).kept (by first | exact heap_alloc_old _ _ _ (by simp) | exact heap_alloc_old _ _ (by simp))

/-- what New answers. -/
def CNewSays (N room : Nat) (w : World) (e : Ending) (w' : World) : Prop := ∃ c0 cb s b, e = .returned (.tuple #[.pointer (some ⟨c0, 0, none⟩), .int .i64 0]) ∧ Ca w' N room c0 cb s b 0 0 [] (fun _ => (none, 0, 0, 0)) ∧ w.heap.size ≤ c0 ∧ (w.heap.size ≤ s ∧ s < w'.heap.size) ∧ (w.heap.size ≤ b ∧ b < w'.heap.size) ∧ Below w.heap.size w w'
set_option maxHeartbeats 1000000 in
set_option maxRecDepth 100000 in
theorem canew_no (n room : Int) (h : ¬ (1 ≤ n ∧ n ≤ 255 ∧ 1 ≤ room ∧ room ≤ 64)) (w : World) :
    Calls Tryz.prog 12 #[.int .i64 n, .int .i64 room] w fun e w' => e = .returned (.tuple #[.pointer none, .int .i64 2]) ∧ w' = w := by
  by_cases q1 : n < 1
  · clear h
    go_enter Tryz.func12, Tryz.ntmps12
    go_wp2
    go_ret2
    exact ⟨rfl, rfl⟩
  · by_cases q2 : 255 < n
    · clear h
      go_enter Tryz.func12, Tryz.ntmps12
      go_wp2
      go_ret2
      exact ⟨rfl, rfl⟩
    · by_cases q3 : room < 1
      · clear h
        go_enter Tryz.func12, Tryz.ntmps12
        go_wp2
        go_ret2
        exact ⟨rfl, rfl⟩
      · have q4 : 64 < room := by omega
        clear h
        go_enter Tryz.func12, Tryz.ntmps12
        go_wp2
        go_ret2
        exact ⟨rfl, rfl⟩
set_option maxHeartbeats 2000000 in
set_option maxRecDepth 100000 in
theorem canew_yes (N room : Nat) (h1 : 1 ≤ N) (h2 : N ≤ 255) (h3 : 1 ≤ room) (h4 : room ≤ 64) (w : World) :
    Calls Tryz.prog 12 #[.int .i64 (N : Nat), .int .i64 (room : Nat)] w (CNewSays N room w) := by
  have i1 : ¬ (N : Int) < 1 := by omega
  have i2 : ¬ (255 : Int) < (N : Int) := by omega
  have i3 : ¬ (room : Int) < 1 := by omega
  have i4 : ¬ (64 : Int) < (room : Int) := by omega
  go_enter Tryz.func12, Tryz.ntmps12
  go_wp2_with fail
  refine (newLine_any _).mono ?_
  rintro e w1 ⟨cb, fb, G, b2, rfl, hC, hB⟩
  have HC := Lib.hid hC; have HB := Lib.hid hB
  clear hC hB i1 i2 i3 i4
  go_wp2_with fail
  obtain ⟨w2, hw2⟩ : ∃ w2, w2 = w1.alloc (.cells #[.pointer (some ⟨cb, 0, none⟩)] 91) := ⟨_, rfl⟩
  rw [← hw2]
  have hb2 : Below w1.heap.size w1 w2 := by rw [hw2]; exact (Below.refl _ w1).alloc (Nat.le_refl _) _
  have hg2 : w2.heap[w1.heap.size]? = some (.cells #[.pointer (some ⟨cb, 0, none⟩)] 91 (0, 0)) := by rw [hw2]; exact heap_alloc_new _ _
  have HC2 := Lib.hid (HC.out.same hb2); have HB2 := Lib.hid (HB.out.trans (hb2.mono HB.out.size))
  have hlt2 : w1.heap.size < w2.heap.size := (Array.getElem?_eq_some_iff.1 hg2).1
  have HL := Lib.hid (fun (W : World) (hW : Below w2.heap.size w2 W) => (show W.cell? ⟨w1.heap.size, 0, none⟩ = some (.pointer (some ⟨cb, 0, none⟩)) from by rw [cell_of_row W w1.heap.size 0 _ _ _ ((hW.block _ hlt2).trans hg2)]; rfl))
  have hsz := HB.out.size
  clear hw2 hb2 hg2
  refine wp_region_held_drew (S := fun W => Below w2.heap.size w2 W) (by kernel_rfl) (below_dr (Below.refl _ w2) 1) (fun hHeld => ?_)
  refine wpAnyH_take (i := 0) (oi := ⟨some 29, .move (.tmp 0), _, _, _, none⟩) (v := (.int .i64 (N : Nat))) rfl (by kernel_rfl) (by kernel_rfl) (by kernel_rfl) (fun _ _ _ h => h) (Or.inl ⟨by rfl, fun W hW => ?_⟩) (by assumption) ?_
  · go_simp
  simp only [Act.put, List.setIfInBounds_toArray, List.set_cons_zero, List.set_cons_succ]
  refine wpAnyH_take (i := 1) (oi := ⟨some 30, .load 91 (.tmp 6), _, _, _, none⟩) (v := (.agg #[.pointer (some ⟨cb, 0, none⟩)])) rfl (by kernel_rfl) (by kernel_rfl) (by kernel_rfl) (fun _ _ _ h => h) (Or.inl ⟨by rfl, fun W hW => ?_⟩) (by assumption) ?_
  · have := HL.out W hW; go_simp
  simp only [Act.put, List.setIfInBounds_toArray, List.set_cons_zero, List.set_cons_succ]
  refine wpAnyH_take (i := 2) (oi := ⟨some 31, .move (.tmp 1), _, _, _, none⟩) (v := (.int .i64 (room : Nat))) rfl (by kernel_rfl) (by kernel_rfl) (by kernel_rfl) (fun _ _ _ h => h) (Or.inl ⟨by rfl, fun W hW => ?_⟩) (by assumption) ?_
  · go_simp
  simp only [Act.put, List.setIfInBounds_toArray, List.set_cons_zero, List.set_cons_succ]
  refine wpAnyH_ready (rs := [3]) (by kernel_rfl) (by simp) (AllReadyH.cons rfl (fun KK hKK => ?_) AllReadyH.nil)
  go_simp
  refine (newShelf_any room h3 h4 _).mono ?_
  rintro e w3 ⟨s, b, rfl, hS, hs, hb, hB3⟩
  dsimp only
  have hB3' : Below w2.heap.size w2 w3 := (below_dr (Below.refl _ w2) 1).trans hB3
  refine hKK.out _ _ hB3' (fun hHeld => ?_)
  clear hKK KK
  have HS := Lib.hid hS; have HB3 := Lib.hid hB3'
  have hs' : w2.heap.size ≤ s := hs
  have hb' : w2.heap.size ≤ b := hb
  have hsl := hS.lt; have hbl := hS.map.lt
  clear hS hB3 hB3' hs hb
  refine wpAnyH_take (i := 4) (oi := ⟨some 33, .build 101 #[(0, .tmp 29), (1, .tmp 30), (2, .tmp 32)], _, _, _, none⟩) (v := (.agg #[.int .i64 (N : Nat), .pointer (some ⟨cb, 0, none⟩), .pointer (some ⟨s, 0, none⟩)])) rfl (by kernel_rfl) (by kernel_rfl) (by kernel_rfl) (fun _ _ _ h => h) (Or.inl ⟨by rfl, fun W hW => ?_⟩) (by assumption) ?_
  · go_simp
  simp only [Act.put, List.setIfInBounds_toArray, List.set_cons_zero, List.set_cons_succ]
  refine wpAnyH_ready (rs := [5]) (by kernel_rfl) (by simp) (AllReadyH.cons rfl (fun KK hKK => ?_) AllReadyH.nil)
  go_simp
  refine hKK.out _ _ (HB3.out.alloc (by have := HB3.out.size; omega) _) (fun hHeld => ?_)
  clear hKK KK
  try simp only [Act.put, List.setIfInBounds_toArray, List.set_cons_zero, List.set_cons_succ]
  refine wpAnyH_take (i := 6) (oi := ⟨some 4, .assign (.tmp 34), _, _, _, none⟩) (v := (.pointer (some ⟨w3.heap.size, 0, none⟩))) rfl (by kernel_rfl) (by kernel_rfl) (by kernel_rfl) (fun _ _ _ h => h) (Or.inl ⟨by rfl, fun W hW => ?_⟩) (by assumption) ?_
  · go_simp
  simp only [Act.put, List.setIfInBounds_toArray, List.set_cons_zero, List.set_cons_succ]
  refine wpAnyH_take (i := 7) (oi := ⟨some 5, .assign (.const (.int .i64 0)), _, _, _, none⟩) (v := (.int .i64 0)) rfl (by kernel_rfl) (by kernel_rfl) (by kernel_rfl) (fun _ _ _ h => h) (Or.inl ⟨by rfl, fun W hW => ?_⟩) (by assumption) ?_
  · go_simp
  simp only [Act.put, List.setIfInBounds_toArray, List.set_cons_zero, List.set_cons_succ]
  refine wpAnyH_done (by kernel_rfl) ?_ _
  clear hHeld
  go_wp2
  go_ret2
  have hsz3 := HB3.out.size
  have hal : Below w3.heap.size w3 (w3.alloc (.cells #[.int .i64 (N : Nat), .pointer (some ⟨cb, 0, none⟩), .pointer (some ⟨s, 0, none⟩)] 101)) := (Below.refl _ w3).alloc (Nat.le_refl _) _
  refine ⟨w3.heap.size, cb, s, b, rfl, ⟨heap_alloc_new _ _, ⟨fb, G, b2, (HC2.out.same HB3.out).same hal⟩, HS.out.same hal, fun kl hk => absurd hk List.not_mem_nil, ⟨h1, h2⟩, ⟨Int.le_refl _, Int.le_refl _⟩⟩, by omega, ⟨by omega, by simp; omega⟩, ⟨by omega, by simp; omega⟩, (HB2.out.trans (HB3.out.mono HB2.out.size)).trans (hal.mono (by omega))⟩
end Go.Proofs.YtjnfghhochcpaaaGreat

namespace Go.Proofs.YtjnfghhochcpaaaGreat
open Go.RowKit Go.Shelf Go.Maps

theorem trn_congr {h h' : Nat → Int} {K : Nat} (e : ∀ i, i < K → h i = h' i) : trn h K = trn h' K := by
  funext i j
  unfold trn
  rw [Pf.lw_congr (P' := pts h') (fun j hj => by unfold pts; rw [e j hj])]
open Classical in
/-- what is kept behind an ask. -/
noncomputable def askL (room : Nat) (L : List Lit) (k : Lit) : List Lit := if k ∈ L then out L k ++ [k] else dropL room L ++ [k]
open Classical in
noncomputable def askH (L : List Lit) (k : Lit) (hi : Int) : Int := if k ∈ L then hi + 1 else hi
open Classical in
noncomputable def askM (L : List Lit) (k : Lit) (mi : Int) : Int := if k ∈ L then mi else mi + 1
/-- the key of an ask. -/
noncomputable def kk (K : Nat) (h : Nat → Int) : Lit := klOf (K : Nat) (ky K h)
/-- what an ask answers. -/
def AskSays (N room c0 cb s b : Nat) (hi mi : Int) (L : List Lit) (K : Int) (m : Nat) (h : Nat → Int) (w : World) (e : Ending) (w' : World) : Prop :=
  (∃ E : Int, E ≠ 0 ∧ e = .returned (.tuple #[.slice none 0 0, .int .i64 E]) ∧ ((¬ (1 ≤ K ∧ K ≤ N) ∧ E = 2) ∨ (1 ≤ K ∧ K ≤ N ∧ Chk h m N K.toNat E)) ∧ Below w.heap.size w w') ∨
  (1 ≤ K ∧ K ≤ N ∧ Chk h m N K.toNat 0 ∧ ∃ G bI T', e = .returned (.tuple #[.slice (some ⟨G, 0, none⟩) K.toNat K.toNat, .int .i64 0]) ∧ Gr w' 0 G K.toNat K.toNat bI (fun _ => K.toNat) (fun _ => K.toNat) (trn h K.toNat) ∧
    Ca w' N room c0 cb s b (askH L (kk K.toNat h) hi) (askM L (kk K.toNat h) mi) (askL room L (kk K.toNat h)) T' ∧ But s b w w')
theorem good_of {K : Nat} {m N : Nat} {h : Nat → Int} (h1 : 1 ≤ K) (h2 : K ≤ N) (h3 : N ≤ 255) (c : Chk h m N K 0) : GoodK (K : Nat) m h ∧ InR h m N ∧ DsI h m := by
  obtain ⟨a, b, d⟩ := chk_ok c
  exact ⟨⟨by omega, by omega, by omega, fun i hi => by have := a i (by omega); omega⟩, a, b⟩
theorem Ca.hit {w w' : World} {N room c0 cb s b : Nat} {hi mi : Int} {L : List Lit} {T : Lit → Tv} (x : Ca w N room c0 cb s b hi mi L T) {k : Lit} (hk : k ∈ L) {a : Option Addr} {l c : Nat} {u : Int} (hT : T k = (a, l, c, u)) {v : Int} (hS : Sh w' s b room (hi + 1) mi (hi + 1 + mi) (out L k ++ [k]) (onT T k (a, l, c, v))) (hB : But s b w w') :
    Ca w' N room c0 cb s b (askH L k hi) (askM L k mi) (askL room L k) (onT T k (a, l, c, v)) := by
  unfold askH askM askL
  rw [if_pos hk, if_pos hk, if_pos hk]
  refine ⟨(hB.at_ x.sh x.blk (by decide)).trans x.blk, let ⟨fb, G, b2, hc⟩ := x.co; ⟨fb, G, b2, hc.but hB x.sh⟩, hS, fun kl hkl => ?_, x.nm, ⟨by have := x.cnt.1; omega, ?_⟩⟩
  · rw [List.mem_append, List.mem_singleton] at hkl
    have hkl' : kl ∈ L := by
      rcases hkl with hkl | hkl
      · exact (mem_out.1 hkl).1
      · rw [hkl]; exact hk
    obtain ⟨K', h', g, bI, u', e, h1, h2, h3, h4, h5⟩ := x.ent.but hB x.sh kl hkl'
    by_cases c1 : kl = k
    · have h6 := h4
      rw [c1, hT] at h6
      simp only [Prod.mk.injEq] at h6
      obtain ⟨e1, e2, e3, e4⟩ := h6
      exact ⟨K', h', g, bI, v, e, h1, h2, h3, by rw [c1, onT_same, e1, e2, e3], h5⟩
    · exact ⟨K', h', g, bI, u', e, h1, h2, h3, by rw [onT_other c1]; exact h4, h5⟩
  · have h4 := out_len x.sh.map.nodup hk; have h5 := x.cnt.2
    rw [List.length_append, List.length_singleton]; omega
theorem dropL_mem {room : Nat} {L : List Lit} {k : Lit} (h : k ∈ dropL room L) : k ∈ L := by
  unfold dropL at h
  split at h
  · exact List.mem_of_mem_tail h
  · exact h
theorem dropL_len (room : Nat) (L : List Lit) : (dropL room L).length ≤ L.length := by
  unfold dropL
  split
  · rw [List.length_tail]; omega
  · exact Nat.le_refl _
theorem Ca.miss {w w' : World} {N room c0 cb s b : Nat} {hi mi : Int} {L : List Lit} {T : Lit → Tv} (x : Ca w N room c0 cb s b hi mi L T) {k : Lit} {K : Nat} {h : Nat → Int} (hkk : k = klOf (K : Nat) (ky K h)) (hk : k ∉ L) (h1 : 1 ≤ K) (h2 : K ≤ N) (h3 : ∀ i, i < K → 0 ≤ h i ∧ h i < N) {g : Nat} {bI : Nat → Nat} (hG : Gr w' 0 g K K bI (fun _ => K) (fun _ => K) (trn h K)) {v : Int} (hS : Sh w' s b room hi (mi + 1) (hi + (mi + 1)) (dropL room L ++ [k]) (onT T k (some ⟨g, 0, none⟩, K, K, v))) (hB : But s b w w') :
    Ca w' N room c0 cb s b (askH L k hi) (askM L k mi) (askL room L k) (onT T k (some ⟨g, 0, none⟩, K, K, v)) := by
  unfold askH askM askL
  rw [if_neg hk, if_neg hk, if_neg hk]
  refine ⟨(hB.at_ x.sh x.blk (by decide)).trans x.blk, let ⟨fb, G, b2, hc⟩ := x.co; ⟨fb, G, b2, hc.but hB x.sh⟩, hS, fun kl hkl => ?_, x.nm, ⟨x.cnt.1, ?_⟩⟩
  · by_cases c1 : kl = k
    · exact ⟨K, h, g, bI, v, c1.trans hkk, h1, h2, h3, by rw [c1, onT_same], hG⟩
    · rw [List.mem_append, List.mem_singleton] at hkl
      obtain ⟨K', h', g', bI', u', e, q1, q2, q3, q4, q5⟩ := x.ent.but hB x.sh kl (dropL_mem (hkl.resolve_right c1))
      exact ⟨K', h', g', bI', u', e, q1, q2, q3, by rw [onT_other c1]; exact q4, q5⟩
  · have h4 := dropL_len room L; have h5 := x.cnt.2
    rw [List.length_append, List.length_singleton]; omega

set_option maxHeartbeats 4000000 in
set_option maxRecDepth 100000 in
theorem ask_any (N room c0 cb s b : Nat) (hi mi : Int) (L : List Lit) (T : Lit → Tv) (K : Int) (a : Option Addr) (m cap : Nat) (h : Nat → Int) (hm : m ≤ 1000000000000) (hmc : m ≤ cap) (hcm : cap ≤ maxLen) (hbig : hi + mi ≤ 10000000000) (w : World) (hC : Ca w N room c0 cb s b hi mi L T) (hS : Si w a m h) :
    Calls Tryz.prog 52 #[.pointer (some ⟨c0, 0, none⟩), .int .i64 K, .slice a m cap] w (AskSays N room c0 cb s b hi mi L K m h w) := by
  have hzk : ∀ w, (zeroValue 98).run Tryz.prog w = .ok (.agg kzero) w := zero_key
  rw [kzero_eq] at hzk
  have HC := Lib.hid hC; have HS := Lib.hid hS
  have hN1 := hC.nm.1; have hN2 := hC.nm.2
  have h0h := hC.cnt.1
  have h0m : 0 ≤ mi := by have := hC.cnt.2; omega
  clear hC hS
  go_enter Tryz.func52, Tryz.ntmps52
  go_wp2_with fail
  refine (keyOf_any K a m cap h hm hmc hcm _ HS.out).mono ?_
  rintro e w1 ⟨hk, hB1⟩
  have HB1 := Lib.hid hB1; clear hB1
  rcases hk with ⟨hng, rfl⟩ | ⟨hg, rfl⟩
  · have HNG := Lib.hid hng; clear hng
    go_wp2_with (refine wpList_store_key rfl _ _ rfl w1.heap.size rfl 0 (fun _ => 0) rfl 0 (fun _ => 0) (heap_alloc_new w1 _) ?_; intro w2 hO hk'; have hb2 : Below w1.heap.size w1 w2 := ((Below.refl _ w1).alloc (Nat.le_refl _) _).trans (hO.below (Nat.le_refl _)); have HB2 := Lib.hid (HB1.out.trans (hb2.mono HB1.out.size)); have hca := (HC.out.same HB1.out).same hb2; have d0 := hca.d0; have HCA := Lib.hid hca; have HK2 := Lib.hid hk'; clear hO hk' hb2 hca)
    clear d0
    by_cases hKN : 1 ≤ K ∧ K ≤ (N : Int)
    · obtain ⟨k, rfl⟩ : ∃ k : Nat, K = (k : Nat) := ⟨K.toNat, by omega⟩
      have j1 : 1 ≤ k := by omega
      have j2 : k ≤ N := by omega
      clear hKN
      refine (cnew_yes N k j1 j2 hN2 _).mono ?_
      rintro e w5 ⟨cb5, fb5, G5, b5, rfl, hC5, hB5⟩
      have HC5 := Lib.hid hC5; have HB5 := Lib.hid (HB2.out.trans (hB5.mono HB2.out.size))
      clear hC5 hB5
      go_wp2_with fail
      refine (cTurn_any cb5 fb5 G5 N k b5 a m cap h hm _ HC5.out (HS.out.same HB5.out)).mono ?_
      rintro e w6 (⟨E, hE, hc, rfl, hB6⟩ | ⟨hc, G6, b6, rfl, hG6, hB6⟩)
      · have g1 : (E != 0) = true := by simp [hE]
        have HE := Lib.hid hE; have HCK := Lib.hid hc; have HB6 := Lib.hid (HB5.out.trans (hB6.mono HB5.out.size))
        clear hE hc hB6
        go_wp2
        go_ret2
        exact Or.inl ⟨E, HE.out, rfl, Or.inr ⟨by omega, by omega, by rw [Int.toNat_natCast]; exact HCK.out⟩, HB6.out⟩
      · have hgd := good_of j1 j2 hN2 hc
        exact absurd hgd.1 HNG.out
    · have HQ := Lib.hid (cnew_no (N : Nat) K (by omega) w2)
      have HKN := Lib.hid hKN; clear hKN
      refine HQ.out.mono ?_
      rintro e w5 ⟨rfl, hB5⟩
      have HB5 := Lib.hid (HB2.out.trans (hB5.mono HB2.out.size))
      clear hB5
      go_wp2
      go_ret2
      exact Or.inl ⟨2, by omega, rfl, Or.inl ⟨HKN.out, rfl⟩, HB5.out⟩
  · have HG := Lib.hid hg
    obtain ⟨k, rfl⟩ : ∃ k : Nat, K = (k : Nat) := ⟨K.toNat, by have := hg.1; omega⟩
    rw [Int.toNat_natCast]
    clear hg
    go_wp2_with (refine wpList_store_key rfl _ _ rfl w1.heap.size rfl (k : Nat) (ky k h) rfl 0 (fun _ => 0) (heap_alloc_new w1 _) ?_; intro w2 hO hk'; have hb2 : Below w1.heap.size w1 w2 := ((Below.refl _ w1).alloc (Nat.le_refl _) _).trans (hO.below (Nat.le_refl _)); have HB2 := Lib.hid (HB1.out.trans (hb2.mono HB1.out.size)); have hca := (HC.out.same HB1.out).same hb2; have d0 := hca.d0; have HCA := Lib.hid hca; have HK2 := Lib.hid hk'; clear hO hk' hb2 hca)
    refine (sound_any N a m cap h hN2 hm _ (HS.out.same HB2.out)).mono ?_
    rintro e w3 ⟨v, rfl, hv, hB3⟩
    have hca3 := HCA.out.same hB3
    have hlt1 : w1.heap.size < w2.heap.size := (Array.getElem?_eq_some_iff.1 HK2.out).1
    have HK3 := Lib.hid ((hB3.block _ hlt1).trans HK2.out)
    have HB3 := Lib.hid (HB2.out.trans (hB3.mono HB2.out.size)); have HV := Lib.hid hv; have HCA3 := Lib.hid hca3
    have d3 := hca3.d0
    clear hca3 hB3 hv d0 HCA HK2
    cases v
    · go_wp2_with fail
      by_cases hKN : 1 ≤ (k : Int) ∧ (k : Int) ≤ (N : Int)
      · have hdum := 0; clear hdum
        have j1 : 1 ≤ k := by omega
        have j2 : k ≤ N := by omega
        clear hKN
        refine (cnew_yes N k j1 j2 hN2 _).mono ?_
        rintro e w5 ⟨cb5, fb5, G5, b5, rfl, hC5, hB5⟩
        have HC5 := Lib.hid hC5; have HB5 := Lib.hid (HB3.out.trans (hB5.mono HB3.out.size))
        clear hC5 hB5
        go_wp2_with fail
        refine (cTurn_any cb5 fb5 G5 N k b5 a m cap h hm _ HC5.out (HS.out.same HB5.out)).mono ?_
        rintro e w6 (⟨E, hE, hc, rfl, hB6⟩ | ⟨hc, G6, b6, rfl, hG6, hB6⟩)
        · have g1 : (E != 0) = true := by simp [hE]
          have HE := Lib.hid hE; have HCK := Lib.hid hc; have HB6 := Lib.hid (HB5.out.trans (hB6.mono HB5.out.size))
          clear hE hc hB6
          go_wp2
          go_ret2
          exact Or.inl ⟨E, HE.out, rfl, Or.inr ⟨by omega, by omega, by rw [Int.toNat_natCast]; exact HCK.out⟩, HB6.out⟩
        · have hgd := good_of j1 j2 hN2 hc
          exact absurd hgd.2 (fun hh => absurd (HV.out.2 hh) Bool.false_ne_true)
      · have HQ := Lib.hid (cnew_no (N : Nat) (k : Int) (by omega) w3)
        have HKN := Lib.hid hKN; clear hKN
        refine HQ.out.mono ?_
        rintro e w5 ⟨rfl, hB5⟩
        have HB5 := Lib.hid (HB3.out.trans (hB5.mono HB3.out.size))
        clear hB5
        go_wp2
        go_ret2
        exact Or.inl ⟨2, by omega, rfl, Or.inl ⟨HKN.out, rfl⟩, HB5.out⟩
    · clear d3
      have hsd := HV.out.1 rfl
      have HSD := Lib.hid hsd; clear hsd
      go_wp2_with fail
      have hS3 := HCA3.out.sh
      have hKs : KeyOk (k : Nat) (ky k h) := ky_ok (by have := HG.out.2.1; omega) (fun i hi => by have := HG.out.2.2.2 i (by omega); omega)
      have HKS := Lib.hid hKs
      have HD2 := Lib.hid (fun (W : World) (hW : W.heap[c0]? = w3.heap[c0]? ∧ W.heap[w1.heap.size]? = w3.heap[w1.heap.size]?) => (show W.cell? ⟨c0, 2, none⟩ = some (.pointer (some ⟨s, 0, none⟩)) from by rw [cell_of_row W c0 2 _ _ _ (hW.1.trans HCA3.out.blk)]; rfl))
      have HDK := Lib.hid (fun (W : World) (hW : W.heap[c0]? = w3.heap[c0]? ∧ W.heap[w1.heap.size]? = w3.heap[w1.heap.size]?) => hW.2.trans HK3.out)
      have HTK := Lib.hid (stake_any s b room hi mi L T (k : Nat) (ky k h) hKs h0h h0m (by omega) w3.drew (hS3.same (below_dr (Below.refl _ w3) 1)))
      clear hS3 hKs
      refine wp_region_held_drew (S := fun W => W.heap[c0]? = w3.heap[c0]? ∧ W.heap[w1.heap.size]? = w3.heap[w1.heap.size]?) (by kernel_rfl) ⟨rfl, rfl⟩ (fun hHeld => ?_)
      refine wpAnyH_take (i := 0) (oi := ⟨some 31, .move (.tmp 0), _, _, _, none⟩) (v := (.pointer (some ⟨c0, 0, none⟩))) rfl (by kernel_rfl) (by kernel_rfl) (by kernel_rfl) (fun _ _ _ h => h) (Or.inl ⟨by rfl, fun W hW => ?_⟩) (by assumption) ?_
      · go_simp
      simp only [Act.put, List.setIfInBounds_toArray, List.set_cons_zero, List.set_cons_succ]
      refine wpAnyH_take (i := 1) (oi := ⟨some 32, .nilCheck (.tmp 31), _, _, _, none⟩) (v := (.pointer (some ⟨c0, 0, none⟩))) rfl (by kernel_rfl) (by kernel_rfl) (by kernel_rfl) (fun _ _ _ h => h) (Or.inl ⟨by rfl, fun W hW => ?_⟩) (by assumption) ?_
      · go_simp
      simp only [Act.put, List.setIfInBounds_toArray, List.set_cons_zero, List.set_cons_succ]
      refine wpAnyH_take (i := 2) (oi := ⟨some 33, .fieldAddr 101 (.tmp 32) 2, _, _, _, none⟩) (v := (.pointer (some ⟨c0, 2, none⟩))) rfl (by kernel_rfl) (by kernel_rfl) (by kernel_rfl) (fun _ _ _ h => h) (Or.inl ⟨by rfl, fun W hW => ?_⟩) (by assumption) ?_
      · go_simp
      simp only [Act.put, List.setIfInBounds_toArray, List.set_cons_zero, List.set_cons_succ]
      refine wpAnyH_take (i := 3) (oi := ⟨some 34, .load 94 (.tmp 33), _, _, _, none⟩) (v := (.pointer (some ⟨s, 0, none⟩))) rfl (by kernel_rfl) (by kernel_rfl) (by kernel_rfl) (fun _ _ _ h => h) (Or.inl ⟨by rfl, fun W hW => ?_⟩) (by assumption) ?_
      · have := HD2.out W hW; go_simp
      simp only [Act.put, List.setIfInBounds_toArray, List.set_cons_zero, List.set_cons_succ]
      refine wpAnyH_take (i := 4) (oi := ⟨some 35, .load 98 (.tmp 8), _, _, _, none⟩) (v := (.agg (kc (k : Nat) (ky k h)))) rfl (by kernel_rfl) (by kernel_rfl) (by kernel_rfl) (fun _ _ _ h => h) (yields_key (g := w1.heap.size) (by rfl) (fun W hW => HDK.out W hW)) (by assumption) ?_
      simp only [Act.put, List.setIfInBounds_toArray, List.set_cons_zero, List.set_cons_succ]
      refine wpAnyH_ready (rs := [5]) (by kernel_rfl) (by simp) (AllReadyH.cons rfl (fun KK hKK => ?_) AllReadyH.nil)
      go_simp
      refine HTK.out.mono ?_
      rintro e w4 (⟨hnm, rfl, hB4⟩ | ⟨hmm, rfl, hS4, hB4⟩)
      · dsimp only
        have hb4 : Below w3.heap.size w3 w4 := (below_dr (Below.refl _ w3) 1).trans hB4
        have hlt3 : w1.heap.size < w3.heap.size := (Array.getElem?_eq_some_iff.1 HK3.out).1
        refine hKK.out _ _ ⟨hb4.block _ HCA3.out.lt0, hb4.block _ hlt3⟩ (fun hHeld => ?_)
        clear hKK KK HTK
        have hca4 := HCA3.out.same hb4
        have d4 := hca4.d0
        have HCA4 := Lib.hid hca4; have HK4 := Lib.hid ((hb4.block _ hlt3).trans HK3.out); have HB4 := Lib.hid (HB3.out.trans (hb4.mono HB3.out.size)); have HNM := Lib.hid hnm
        clear hca4 hb4 hB4 hnm HD2 HDK
        refine wpAnyH_take (i := 6) (oi := ⟨some 30, .move (.tmp 36), _, _, _, none⟩) (v := (.tuple #[(.slice none 0 0), .bool false])) rfl (by kernel_rfl) (by kernel_rfl) (by kernel_rfl) (fun _ _ _ h => h) (Or.inl ⟨by rfl, fun W hW => ?_⟩) (by assumption) ?_
        · go_simp
        simp only [Act.put, List.setIfInBounds_toArray, List.set_cons_zero, List.set_cons_succ]
        refine wpAnyH_take (i := 7) (oi := ⟨some 37, .extract (.tmp 30) 0, _, _, _, none⟩) (v := (.slice none 0 0)) rfl (by kernel_rfl) (by kernel_rfl) (by kernel_rfl) (fun _ _ _ h => h) (Or.inl ⟨by rfl, fun W hW => ?_⟩) (by assumption) ?_
        · go_simp
        simp only [Act.put, List.setIfInBounds_toArray, List.set_cons_zero, List.set_cons_succ]
        refine wpAnyH_take (i := 8) (oi := ⟨some 38, .extract (.tmp 30) 1, _, _, _, none⟩) (v := (.bool false)) rfl (by kernel_rfl) (by kernel_rfl) (by kernel_rfl) (fun _ _ _ h => h) (Or.inl ⟨by rfl, fun W hW => ?_⟩) (by assumption) ?_
        · go_simp
        simp only [Act.put, List.setIfInBounds_toArray, List.set_cons_zero, List.set_cons_succ]
        refine wpAnyH_take (i := 9) (oi := ⟨some 10, .assign (.tmp 37), _, _, _, none⟩) (v := (.slice none 0 0)) rfl (by kernel_rfl) (by kernel_rfl) (by kernel_rfl) (fun _ _ _ h => h) (Or.inl ⟨by rfl, fun W hW => ?_⟩) (by assumption) ?_
        · go_simp
        simp only [Act.put, List.setIfInBounds_toArray, List.set_cons_zero, List.set_cons_succ]
        refine wpAnyH_take (i := 10) (oi := ⟨some 11, .assign (.tmp 38), _, _, _, none⟩) (v := (.bool false)) rfl (by kernel_rfl) (by kernel_rfl) (by kernel_rfl) (fun _ _ _ h => h) (Or.inl ⟨by rfl, fun W hW => ?_⟩) (by assumption) ?_
        · go_simp
        simp only [Act.put, List.setIfInBounds_toArray, List.set_cons_zero, List.set_cons_succ]
        refine wpAnyH_done (by kernel_rfl) ?_ _
        clear hHeld
        go_wp2_with fail
        have hKN1 : 1 ≤ k := by have := HG.out.1; omega
        by_cases j2 : k ≤ N
        · refine (cnew_yes N k hKN1 j2 hN2 _).mono ?_
          rintro e w5 ⟨cb5, fb5, G5, b5, rfl, hC5, hB5⟩
          have HC5 := Lib.hid hC5; have HB5 := Lib.hid (HB4.out.trans (hB5.mono HB4.out.size))
          have HCA5 := Lib.hid (HCA4.out.same hB5)
          have hlt4 : w1.heap.size < w4.heap.size := (Array.getElem?_eq_some_iff.1 HK4.out).1
          have HK5 := Lib.hid ((hB5.block _ hlt4).trans HK4.out)
          clear hC5 hB5 d4
          go_wp2_with fail
          refine (cTurn_any cb5 fb5 G5 N k b5 a m cap h hm _ HC5.out (HS.out.same HB5.out)).mono ?_
          rintro e w6 (⟨E, hE, hc, rfl, hB6⟩ | ⟨hc, G6, b6, rfl, hG6, hB6⟩)
          · exact absurd (hc.uniq (Or.inr (Or.inr (Or.inr ⟨HSD.out.1, HSD.out.2, by have := HG.out.2.2.1; omega, rfl⟩)))) hE
          · have hlt5 : w1.heap.size < w5.heap.size := (Array.getElem?_eq_some_iff.1 HK5.out).1
            have HCK := Lib.hid hc; have HG6 := Lib.hid (hG6.mono (Nat.zero_le _)); have HB6 := Lib.hid (HB5.out.trans (hB6.mono HB5.out.size)); have HCA6 := Lib.hid (HCA5.out.same hB6); have HK6 := Lib.hid ((hB6.block _ hlt5).trans HK5.out)
            clear hc hG6 hB6
            go_wp2_with fail
            have HD2 := Lib.hid (fun (W : World) (hW : W.heap[c0]? = w6.heap[c0]? ∧ W.heap[w1.heap.size]? = w6.heap[w1.heap.size]?) => (show W.cell? ⟨c0, 2, none⟩ = some (.pointer (some ⟨s, 0, none⟩)) from by rw [cell_of_row W c0 2 _ _ _ (hW.1.trans HCA6.out.blk)]; rfl))
            have HDK := Lib.hid (fun (W : World) (hW : W.heap[c0]? = w6.heap[c0]? ∧ W.heap[w1.heap.size]? = w6.heap[w1.heap.size]?) => hW.2.trans HK6.out)
            have HPT := Lib.hid (sput_any s b room hi mi L T (k : Nat) (ky k h) HKS.out (some ⟨G6, 0, none⟩) k k HCA6.out.kok HNM.out h0h h0m (by omega) w6.drew (HCA6.out.sh.same (below_dr (Below.refl _ w6) 1)))
            refine wp_region_held_drew (S := fun W => W.heap[c0]? = w6.heap[c0]? ∧ W.heap[w1.heap.size]? = w6.heap[w1.heap.size]?) (by kernel_rfl) ⟨rfl, rfl⟩ (fun hHeld => ?_)
            refine wpAnyH_take (i := 0) (oi := ⟨some 62, .move (.tmp 0), _, _, _, none⟩) (v := (.pointer (some ⟨c0, 0, none⟩))) rfl (by kernel_rfl) (by kernel_rfl) (by kernel_rfl) (fun _ _ _ h => h) (Or.inl ⟨by rfl, fun W hW => ?_⟩) (by assumption) ?_
            · go_simp
            simp only [Act.put, List.setIfInBounds_toArray, List.set_cons_zero, List.set_cons_succ]
            refine wpAnyH_take (i := 1) (oi := ⟨some 63, .nilCheck (.tmp 62), _, _, _, none⟩) (v := (.pointer (some ⟨c0, 0, none⟩))) rfl (by kernel_rfl) (by kernel_rfl) (by kernel_rfl) (fun _ _ _ h => h) (Or.inl ⟨by rfl, fun W hW => ?_⟩) (by assumption) ?_
            · go_simp
            simp only [Act.put, List.setIfInBounds_toArray, List.set_cons_zero, List.set_cons_succ]
            refine wpAnyH_take (i := 2) (oi := ⟨some 64, .fieldAddr 101 (.tmp 63) 2, _, _, _, none⟩) (v := (.pointer (some ⟨c0, 2, none⟩))) rfl (by kernel_rfl) (by kernel_rfl) (by kernel_rfl) (fun _ _ _ h => h) (Or.inl ⟨by rfl, fun W hW => ?_⟩) (by assumption) ?_
            · go_simp
            simp only [Act.put, List.setIfInBounds_toArray, List.set_cons_zero, List.set_cons_succ]
            refine wpAnyH_take (i := 3) (oi := ⟨some 65, .load 94 (.tmp 64), _, _, _, none⟩) (v := (.pointer (some ⟨s, 0, none⟩))) rfl (by kernel_rfl) (by kernel_rfl) (by kernel_rfl) (fun _ _ _ h => h) (Or.inl ⟨by rfl, fun W hW => ?_⟩) (by assumption) ?_
            · have := HD2.out W hW; go_simp
            simp only [Act.put, List.setIfInBounds_toArray, List.set_cons_zero, List.set_cons_succ]
            refine wpAnyH_take (i := 4) (oi := ⟨some 66, .load 98 (.tmp 8), _, _, _, none⟩) (v := (.agg (kc (k : Nat) (ky k h)))) rfl (by kernel_rfl) (by kernel_rfl) (by kernel_rfl) (fun _ _ _ h => h) (yields_key (g := w1.heap.size) (by rfl) (fun W hW => HDK.out W hW)) (by assumption) ?_
            simp only [Act.put, List.setIfInBounds_toArray, List.set_cons_zero, List.set_cons_succ]
            refine wpAnyH_take (i := 5) (oi := ⟨some 67, .move (.tmp 14), _, _, _, none⟩) (v := (.slice (some ⟨G6, 0, none⟩) k k)) rfl (by kernel_rfl) (by kernel_rfl) (by kernel_rfl) (fun _ _ _ h => h) (Or.inl ⟨by rfl, fun W hW => ?_⟩) (by assumption) ?_
            · go_simp
            simp only [Act.put, List.setIfInBounds_toArray, List.set_cons_zero, List.set_cons_succ]
            refine wpAnyH_ready (rs := [6]) (by kernel_rfl) (by simp) (AllReadyH.cons rfl (fun KK hKK => ?_) AllReadyH.nil)
            go_simp
            refine HPT.out.mono ?_
            rintro e w7 ⟨rfl, hS7, hB7⟩
            dsimp only
            have hb7 : But s b w6 w7 := (But.of (below_dr (Below.refl _ w6) 1)).trans hB7
            refine hKK.out _ _ ⟨hb7.at_ HCA6.out.sh HCA6.out.blk (by decide), hb7.at_ HCA6.out.sh HK6.out (by decide)⟩ (fun hHeld => ?_)
            clear hKK KK HPT
            have HIN : ∀ i, i < k → 0 ≤ h i ∧ h i < N := fun i hi => HSD.out.1 i (by have := HG.out.2.2.1; omega)
            have HCA7 := Lib.hid (HCA6.out.miss rfl HNM.out hKN1 j2 HIN (HG6.out.but hb7 HCA6.out.sh) hS7 hb7)
            have HB7 := Lib.hid ((But.of HB6.out : But s b w w6).trans hb7); have HG7 := Lib.hid (HG6.out.but hb7 HCA6.out.sh)
            clear hS7 hB7 hb7 HD2 HDK HIN
            refine wpAnyH_done (by kernel_rfl) ?_ _
            clear hHeld
            go_wp2
            go_ret2
            refine Or.inr ⟨by omega, by omega, by rw [Int.toNat_natCast]; exact HCK.out, G6, b6, onT T (kk k h) (some ⟨G6, 0, none⟩, k, k, hi + (mi + 1)), by rw [Int.toNat_natCast]; rfl, ?_, ?_, HB7.out⟩
            · rw [Int.toNat_natCast]; exact HG7.out
            · rw [Int.toNat_natCast]; exact HCA7.out
        · have HQ := Lib.hid (cnew_no (N : Nat) (k : Int) (by omega) w4)
          have HKN := Lib.hid (show ¬ (1 ≤ (k : Int) ∧ (k : Int) ≤ N) from by omega)
          refine HQ.out.mono ?_
          rintro e w5 ⟨rfl, hB5⟩
          have HB5 := Lib.hid (HB4.out.trans (hB5.mono HB4.out.size))
          clear hB5
          go_wp2
          go_ret2
          exact Or.inl ⟨2, by omega, rfl, Or.inl ⟨HKN.out, rfl⟩, HB5.out⟩
      · dsimp only
        have hb4 : But s b w3 w4 := (But.of (below_dr (Below.refl _ w3) 1)).trans hB4
        refine hKK.out _ _ ⟨hb4.at_ HCA3.out.sh HCA3.out.blk (by decide), hb4.at_ HCA3.out.sh HK3.out (by decide)⟩ (fun hHeld => ?_)
        clear hKK KK HTK
        obtain ⟨K', h', g', bI, u, eT, q1, q2, q3, q4, q5⟩ := HCA3.out.ent _ hmm
        have hN3 := HCA3.out.nm.2
        have hinj := klOf_inj HKS.out (ky_ok (show K' ≤ 255 by omega) (fun i hi => by have := q3 i hi; omega)) eT
        obtain rfl : k = K' := by have := hinj.1; omega
        have htr : trn h' k = trn h k := trn_congr (fun i hi => by
          have h5 := hinj.2 i (by have := HG.out.2.1; omega)
          unfold ky at h5
          rw [if_pos hi, if_pos hi] at h5
          exact h5.symm)
        rw [q4] at hS4 ⊢
        rw [htr] at q5
        have HCA7 := Lib.hid (HCA3.out.hit hmm q4 hS4 hb4)
        have HB7 := Lib.hid ((But.of HB3.out : But s b w w3).trans hb4); have HG7 := Lib.hid (q5.but hb4 HCA3.out.sh)
        have HQ2 := Lib.hid q2
        have HCK := Lib.hid (show Chk h m N k 0 from Or.inr (Or.inr (Or.inr ⟨HSD.out.1, HSD.out.2, by have := HG.out.2.2.1; omega, rfl⟩)))
        clear hS4 hB4 hb4 HD2 HDK hmm eT q3 q4 q5 hinj htr
        refine wpAnyH_take (i := 6) (oi := ⟨some 30, .move (.tmp 36), _, _, _, none⟩) (v := (.tuple #[(.slice (some ⟨g', 0, none⟩) k k), .bool true])) rfl (by kernel_rfl) (by kernel_rfl) (by kernel_rfl) (fun _ _ _ h => h) (Or.inl ⟨by rfl, fun W hW => ?_⟩) (by assumption) ?_
        · go_simp
        simp only [Act.put, List.setIfInBounds_toArray, List.set_cons_zero, List.set_cons_succ]
        refine wpAnyH_take (i := 7) (oi := ⟨some 37, .extract (.tmp 30) 0, _, _, _, none⟩) (v := (.slice (some ⟨g', 0, none⟩) k k)) rfl (by kernel_rfl) (by kernel_rfl) (by kernel_rfl) (fun _ _ _ h => h) (Or.inl ⟨by rfl, fun W hW => ?_⟩) (by assumption) ?_
        · go_simp
        simp only [Act.put, List.setIfInBounds_toArray, List.set_cons_zero, List.set_cons_succ]
        refine wpAnyH_take (i := 8) (oi := ⟨some 38, .extract (.tmp 30) 1, _, _, _, none⟩) (v := (.bool true)) rfl (by kernel_rfl) (by kernel_rfl) (by kernel_rfl) (fun _ _ _ h => h) (Or.inl ⟨by rfl, fun W hW => ?_⟩) (by assumption) ?_
        · go_simp
        simp only [Act.put, List.setIfInBounds_toArray, List.set_cons_zero, List.set_cons_succ]
        refine wpAnyH_take (i := 9) (oi := ⟨some 10, .assign (.tmp 37), _, _, _, none⟩) (v := (.slice (some ⟨g', 0, none⟩) k k)) rfl (by kernel_rfl) (by kernel_rfl) (by kernel_rfl) (fun _ _ _ h => h) (Or.inl ⟨by rfl, fun W hW => ?_⟩) (by assumption) ?_
        · go_simp
        simp only [Act.put, List.setIfInBounds_toArray, List.set_cons_zero, List.set_cons_succ]
        refine wpAnyH_take (i := 10) (oi := ⟨some 11, .assign (.tmp 38), _, _, _, none⟩) (v := (.bool true)) rfl (by kernel_rfl) (by kernel_rfl) (by kernel_rfl) (fun _ _ _ h => h) (Or.inl ⟨by rfl, fun W hW => ?_⟩) (by assumption) ?_
        · go_simp
        simp only [Act.put, List.setIfInBounds_toArray, List.set_cons_zero, List.set_cons_succ]
        refine wpAnyH_done (by kernel_rfl) ?_ _
        clear hHeld
        go_wp2
        go_ret2
        refine Or.inr ⟨by omega, by have := HQ2.out; omega, by rw [Int.toNat_natCast]; exact HCK.out, g', bI, onT T (kk k h) (some ⟨g', 0, none⟩, k, k, hi + 1 + mi), by rw [Int.toNat_natCast]; rfl, ?_, ?_, HB7.out⟩
        · rw [Int.toNat_natCast]; exact HG7.out
        · rw [Int.toNat_natCast]; exact HCA7.out
end Go.Proofs.YtjnfghhochcpaaaGreat

namespace Go.Proofs.YtjnfghhochcpaaaGreat
open Go.RowKit Go.Shelf Go.Maps

/-- what Turn answers. -/
def CTurnSays (N room c0 cb s b : Nat) (hi mi : Int) (L : List Lit) (K : Int) (m : Nat) (h : Nat → Int) (w : World) (e : Ending) (w' : World) : Prop :=
  (∃ E : Int, E ≠ 0 ∧ e = .returned (.tuple #[.slice none 0 0, .int .i64 E]) ∧ ((¬ (1 ≤ K ∧ K ≤ N) ∧ E = 2) ∨ (1 ≤ K ∧ K ≤ N ∧ Chk h m N K.toNat E)) ∧ Below w.heap.size w w') ∨
  (1 ≤ K ∧ K ≤ N ∧ Chk h m N K.toNat 0 ∧ ∃ G bI c T', e = .returned (.tuple #[.slice (some ⟨G, 0, none⟩) K.toNat K.toNat, .int .i64 0]) ∧ Gr w' w.heap.size G K.toNat K.toNat bI (fun _ => K.toNat) c (trn h K.toNat) ∧
    Ca w' N room c0 cb s b (askH L (kk K.toNat h) hi) (askM L (kk K.toNat h) mi) (askL room L (kk K.toNat h)) T' ∧ But s b w w')
set_option maxHeartbeats 1000000 in
set_option maxRecDepth 100000 in
theorem caturn_any (N room c0 cb s b : Nat) (hi mi : Int) (L : List Lit) (T : Lit → Tv) (K : Int) (a : Option Addr) (m cap : Nat) (h : Nat → Int) (hm : m ≤ 1000000000000) (hmc : m ≤ cap) (hcm : cap ≤ maxLen) (hbig : hi + mi ≤ 10000000000) (w : World) (hC : Ca w N room c0 cb s b hi mi L T) (hS : Si w a m h) :
    Calls Tryz.prog 16 #[.pointer (some ⟨c0, 0, none⟩), .int .i64 K, .slice a m cap] w (CTurnSays N room c0 cb s b hi mi L K m h w) := by
  have HC := Lib.hid hC; have HS := Lib.hid hS
  have hN2 := hC.nm.2
  clear hC hS
  go_enter Tryz.func16, Tryz.ntmps16
  go_wp2_with fail
  refine (canone_any N room c0 cb s b hi mi L T _ HC.out).mono ?_
  rintro e w' ⟨rfl, hw'⟩
  rw [hw']; clear hw'
  go_wp2_with fail
  refine (ask_any N room c0 cb s b hi mi L T K a m cap h hm hmc hcm hbig _ HC.out HS.out).mono ?_
  rintro e w1 (⟨E, hE, rfl, hc, hB⟩ | ⟨hK1, hK2, hc, G, bI, T', rfl, hG, hCa, hB⟩)
  · have g1 : (E != 0) = true := by simp [hE]
    have HE := Lib.hid hE; have HCK := Lib.hid hc; have HB := Lib.hid hB
    clear hE hc hB
    go_wp2
    go_ret2
    exact Or.inl ⟨E, HE.out, rfl, HCK.out, HB.out⟩
  · obtain ⟨k, rfl⟩ : ∃ k : Nat, K = (k : Nat) := ⟨K.toNat, by omega⟩
    rw [Int.toNat_natCast] at hc hG hCa ⊢
    have HCK := Lib.hid hc; have HG := Lib.hid hG; have HCA := Lib.hid hCa; have HB := Lib.hid hB
    clear hc hG hCa hB
    go_wp2_with fail
    refine (copied_any 0 G k k bI (trn h k) (by omega) (by omega) (by omega) _ HG.out).mono ?_
    rintro e w2 ⟨G2, b2, c2, rfl, hG2, hB2⟩
    have HG2 := Lib.hid (hG2.mono HB.out.size); have HCA2 := Lib.hid (HCA.out.same hB2); have HB2 := Lib.hid (HB.out.trans (But.of hB2))
    clear hG2 hB2
    go_wp2
    go_ret2
    refine Or.inr ⟨by omega, by omega, by rw [Int.toNat_natCast]; exact HCK.out, G2, b2, c2, T', by rw [Int.toNat_natCast]; rfl, ?_, ?_, HB2.out⟩
    · rw [Int.toNat_natCast]; exact HG2.out
    · rw [Int.toNat_natCast]; exact HCA2.out

/-- what Stat answers. -/
def StatSays (k hi mi : Int) (w : World) (e : Ending) (w' : World) : Prop := e = .returned (.agg #[.int .i64 k, .int .i64 hi, .int .i64 mi, .int .i64 (mi - k)]) ∧ Below w.heap.size w w'
set_option maxHeartbeats 2000000 in
set_option maxRecDepth 100000 in
theorem castat_any (N room c0 cb s b : Nat) (hi mi : Int) (L : List Lit) (T : Lit → Tv) (hbig : hi + mi ≤ 10000000000) (w : World) (hC : Ca w N room c0 cb s b hi mi L T) :
    Calls Tryz.prog 47 #[.pointer (some ⟨c0, 0, none⟩)] w (StatSays (L.length : Nat) hi mi w) := by
  obtain ⟨w1, hw1⟩ : ∃ w1, w1 = w.alloc (.cells #[.int .i64 0, .int .i64 0, .int .i64 0, .int .i64 0] 88) := ⟨_, rfl⟩
  have hal : Below w.heap.size w w1 := by rw [hw1]; exact (Below.refl _ w).alloc (Nat.le_refl _) _
  have hg1 : w1.heap[w.heap.size]? = some (.cells #[.int .i64 0, .int .i64 0, .int .i64 0, .int .i64 0] 88 (0, 0)) := by rw [hw1]; exact heap_alloc_new _ _
  have hca := hC.same hal
  have d2 := hca.d2; have c2 := hca.sh.c2; have c3 := hca.sh.c3
  have hlen := hC.cnt.2
  have hhi := hC.cnt.1
  have hsub : IntKind.i64.wrap (mi - (L.length : Nat)) = mi - (L.length : Nat) := IntWalk.i64_in _ (by omega)
  have HW1 := Lib.hid hw1; have HCA := Lib.hid hca; have HAL := Lib.hid hal; have HG1 := Lib.hid hg1
  clear hw1 hal hg1 hca hC
  go_enter Tryz.func47, Tryz.ntmps47
  go_wp2_with fail
  rw [← HW1.out]
  refine (canone_any N room c0 cb s b hi mi L T _ HCA.out).mono ?_
  rintro e w' ⟨rfl, hw'⟩
  rw [hw']; clear hw'
  go_wp2_with fail
  refine Rb.wp_region_quiet_tail 33 (by kernel_rfl) (by kernel_rfl) ?_
  simp only [List.take_succ_cons, List.take_zero, List.drop_succ_cons, List.drop_zero]
  repeat (go_big_quiet_step ((go_at_call 81; exact Calls.quiet_of_same (kept_any' s b room hi mi (hi + mi) L T _ (HCA.out.sh.same (below_dr (Below.refl _ _) _))))))
  refine wpQuiet_nil ?_
  rintro _ ⟨k2, rfl⟩
  have HG2 := Lib.hid (show (w1.drewN k2).heap[w.heap.size]? = some (.cells #[.int .i64 0, .int .i64 0, .int .i64 0, .int .i64 0] 88 (0, 0)) from HG1.out)
  have HB2 := Lib.hid (show Below w.heap.size w (w1.drewN k2) from below_dr HAL.out k2)
  refine wpList_store_row rfl 88 _ _ rfl w.heap.size #[.int .i64 (L.length : Nat), .int .i64 hi, .int .i64 mi, .int .i64 (mi - (L.length : Nat))] rfl rfl 88 _ HG2.out (by kernel_rfl) rfl (by simp [Value.oneCell']) ?_
  obtain ⟨w3, hw3⟩ : ∃ w3, w3 = (w1.drewN k2).setRow w.heap.size #[.int .i64 (L.length : Nat), .int .i64 hi, .int .i64 mi, .int .i64 (mi - (L.length : Nat))] := ⟨_, rfl⟩
  rw [← hw3]
  have HG3 := Lib.hid (show w3.heap[w.heap.size]? = some (.cells #[.int .i64 (L.length : Nat), .int .i64 hi, .int .i64 mi, .int .i64 (mi - (L.length : Nat))] 88 (0, 0)) from by rw [hw3]; exact setRow_heap _ _ _ _ _ _ HG2.out)
  have HB3 := Lib.hid (show Below w.heap.size w w3 from by rw [hw3]; exact HB2.out.trans ((only_row _ _ _).below (Nat.le_refl _)))
  clear hw3
  go_wp2
  (try simp only [Exit.inBlock, Exit.then])
  exact bodyPost_ret (results_cell_row rfl _ _ w.heap.size _ _ (0, 0) _ rfl HG3.out Tryz.underlying88 rfl (by kernel_rfl)) rfl ⟨rfl, HB3.out⟩

/-- the load of a key, under a guard. -/
theorem yields_keyG {ops : Array Oper} {S : World → Prop} {a : Act} {dst : Option Tmp} {typ : TypeId} {pos : String} {aft : Array Edge} {gd : Option (Nat × Bool)} {x : Operand} {g : Nat} {K : Int} {f : Nat → Int} (hw : Region.wanted ⟨dst, .load 98 x, typ, pos, aft, gd⟩ (yielded ops a.tmps) = true) (hx : a.eval x = .pointer (some ⟨g, 0, none⟩)) (hS : ∀ W, S W → W.heap[g]? = some (.cells (kc K f) 98 (0, 0))) :
    YieldsIf Tryz.prog ops S ⟨dst, .load 98 x, typ, pos, aft, gd⟩ (.agg (kc K f)) a := Or.inl ⟨hw, fun W hW => by
  unfold execOp
  simp only [hx]
  rw [Sem.run_bind, load_key (hS W hW)]
  rfl⟩
/-- what Has answers. -/
def CHasSays (L : List Lit) (K : Int) (m : Nat) (h : Nat → Int) (w : World) (e : Ending) (w' : World) : Prop := ∃ v : Bool, e = .returned (.bool v) ∧ (v = true ↔ GoodK K m h ∧ kk K.toNat h ∈ L) ∧ Below w.heap.size w w'
set_option maxHeartbeats 2000000 in
set_option maxRecDepth 100000 in
theorem cahas_any (N room c0 cb s b : Nat) (hi mi : Int) (L : List Lit) (T : Lit → Tv) (K : Int) (a : Option Addr) (m cap : Nat) (h : Nat → Int) (hm : m ≤ 1000000000000) (hmc : m ≤ cap) (hcm : cap ≤ maxLen) (w : World) (hC : Ca w N room c0 cb s b hi mi L T) (hS : Si w a m h) :
    Calls Tryz.prog 24 #[.pointer (some ⟨c0, 0, none⟩), .int .i64 K, .slice a m cap] w (CHasSays L K m h w) := by
  have hzk : ∀ w, (zeroValue 98).run Tryz.prog w = .ok (.agg kzero) w := zero_key
  rw [kzero_eq] at hzk
  have HC := Lib.hid hC; have HS := Lib.hid hS
  clear hC hS
  go_enter Tryz.func24, Tryz.ntmps24
  go_wp2_with fail
  refine (canone_any N room c0 cb s b hi mi L T _ HC.out).mono ?_
  rintro e w' ⟨rfl, hw'⟩
  rw [hw']; clear hw'
  go_wp2_with fail
  refine (keyOf_any K a m cap h hm hmc hcm _ HS.out).mono ?_
  rintro e w1 ⟨hk, hB1⟩
  have HB1 := Lib.hid hB1; clear hB1
  rcases hk with ⟨hng, rfl⟩ | ⟨hg, rfl⟩
  · have HNG := Lib.hid hng; clear hng
    go_wp2_with (refine wpList_store_key rfl _ _ rfl w1.heap.size rfl 0 (fun _ => 0) rfl 0 (fun _ => 0) (heap_alloc_new w1 _) ?_; intro w2 hO hk'; have hb2 : Below w1.heap.size w1 w2 := ((Below.refl _ w1).alloc (Nat.le_refl _) _).trans (hO.below (Nat.le_refl _)); have HB2 := Lib.hid (HB1.out.trans (hb2.mono HB1.out.size)); have HCA := Lib.hid ((HC.out.same HB1.out).same hb2); have HK2 := Lib.hid hk'; clear hO hk' hb2)
    refine wp_region_held_drew (S := fun W => Below w2.heap.size w2 W) (by kernel_rfl) (below_dr (Below.refl _ w2) 1) (fun hHeld => ?_)
    refine wpAnyH_take (i := 0) (oi := ⟨some 17, .move (.tmp 8), _, _, _, none⟩) (v := (.bool false)) rfl (by kernel_rfl) (by kernel_rfl) (by kernel_rfl) (fun _ _ _ h => h) (Or.inl ⟨by rfl, fun W hW => ?_⟩) (by assumption) ?_
    · go_simp
    simp only [Act.put, List.setIfInBounds_toArray, List.set_cons_zero, List.set_cons_succ]
    refine wpAnyH_take (i := 1) (oi := ⟨some 18, .move (.tmp 17), _, _, _, none⟩) (v := (.bool false)) rfl (by kernel_rfl) (by kernel_rfl) (by kernel_rfl) (fun _ _ _ h => h) (Or.inl ⟨by rfl, fun W hW => ?_⟩) (by assumption) ?_
    · go_simp
    simp only [Act.put, List.setIfInBounds_toArray, List.set_cons_zero, List.set_cons_succ]
    refine wpAnyH_take (i := 2) (oi := ⟨some 19, _, _, _, _, some (1, true)⟩) (v := undef) rfl (by kernel_rfl) (by kernel_rfl) (by kernel_rfl) (fun _ _ _ h => h) (Or.inr ⟨by rfl, rfl⟩) (by assumption) ?_
    simp only [Act.put, List.setIfInBounds_toArray, List.set_cons_zero, List.set_cons_succ]
    refine wpAnyH_take (i := 3) (oi := ⟨some 20, _, _, _, _, some (1, true)⟩) (v := undef) rfl (by kernel_rfl) (by kernel_rfl) (by kernel_rfl) (fun _ _ _ h => h) (Or.inr ⟨by rfl, rfl⟩) (by assumption) ?_
    simp only [Act.put, List.setIfInBounds_toArray, List.set_cons_zero, List.set_cons_succ]
    refine wpAnyH_take (i := 4) (oi := ⟨some 21, _, _, _, _, some (1, true)⟩) (v := undef) rfl (by kernel_rfl) (by kernel_rfl) (by kernel_rfl) (fun _ _ _ h => h) (Or.inr ⟨by rfl, rfl⟩) (by assumption) ?_
    simp only [Act.put, List.setIfInBounds_toArray, List.set_cons_zero, List.set_cons_succ]
    refine wpAnyH_take (i := 5) (oi := ⟨some 22, _, _, _, _, some (1, true)⟩) (v := undef) rfl (by kernel_rfl) (by kernel_rfl) (by kernel_rfl) (fun _ _ _ h => h) (Or.inr ⟨by rfl, rfl⟩) (by assumption) ?_
    simp only [Act.put, List.setIfInBounds_toArray, List.set_cons_zero, List.set_cons_succ]
    refine wpAnyH_take (i := 6) (oi := ⟨some 23, _, _, _, _, some (1, true)⟩) (v := undef) rfl (by kernel_rfl) (by kernel_rfl) (by kernel_rfl) (fun _ _ _ h => h) (Or.inr ⟨by rfl, rfl⟩) (by assumption) ?_
    simp only [Act.put, List.setIfInBounds_toArray, List.set_cons_zero, List.set_cons_succ]
    refine wpAnyH_take (i := 7) (oi := ⟨some 24, _, _, _, _, some (1, true)⟩) (v := undef) rfl (by kernel_rfl) (by kernel_rfl) (by kernel_rfl) (fun _ _ _ h => h) (Or.inr ⟨by rfl, rfl⟩) (by assumption) ?_
    simp only [Act.put, List.setIfInBounds_toArray, List.set_cons_zero, List.set_cons_succ]
    refine wpAnyH_take (i := 8) (oi := ⟨some 25, .pick (.tmp 18) (.tmp 24) (.const (.bool false)), _, _, _, none⟩) (v := (.bool false)) rfl (by kernel_rfl) (by kernel_rfl) (by kernel_rfl) (fun _ _ _ h => h) (Or.inl ⟨by rfl, fun W hW => ?_⟩) (by assumption) ?_
    · go_simp
    simp only [Act.put, List.setIfInBounds_toArray, List.set_cons_zero, List.set_cons_succ]
    refine wpAnyH_take (i := 9) (oi := ⟨some 6, .assign (.tmp 25), _, _, _, none⟩) (v := (.bool false)) rfl (by kernel_rfl) (by kernel_rfl) (by kernel_rfl) (fun _ _ _ h => h) (Or.inl ⟨by rfl, fun W hW => ?_⟩) (by assumption) ?_
    · go_simp
    simp only [Act.put, List.setIfInBounds_toArray, List.set_cons_zero, List.set_cons_succ]
    refine wpAnyH_done (by kernel_rfl) ?_ _
    have HB3 := Lib.hid (HB2.out.trans (hHeld.mono HB2.out.size))
    clear hHeld
    go_wp2
    go_ret
    exact ⟨false, rfl, ⟨fun hh => absurd hh Bool.false_ne_true, fun hh => absurd hh.1 HNG.out⟩, HB3.out⟩
  · obtain ⟨k, rfl⟩ : ∃ k : Nat, K = (k : Nat) := ⟨K.toNat, by have := hg.1; omega⟩
    rw [Int.toNat_natCast]
    have HG := Lib.hid hg; clear hg
    go_wp2_with (refine wpList_store_key rfl _ _ rfl w1.heap.size rfl (k : Nat) (ky k h) rfl 0 (fun _ => 0) (heap_alloc_new w1 _) ?_; intro w2 hO hk'; have hb2 : Below w1.heap.size w1 w2 := ((Below.refl _ w1).alloc (Nat.le_refl _) _).trans (hO.below (Nat.le_refl _)); have HB2 := Lib.hid (HB1.out.trans (hb2.mono HB1.out.size)); have HCA := Lib.hid ((HC.out.same HB1.out).same hb2); have HK2 := Lib.hid hk'; clear hO hk' hb2)
    have HD2 := Lib.hid (fun (W : World) (hW : Below w2.heap.size w2 W) => (HCA.out.same hW).d2)
    have hlt1 : w1.heap.size < w2.heap.size := (Array.getElem?_eq_some_iff.1 HK2.out).1
    have HDK := Lib.hid (fun (W : World) (hW : Below w2.heap.size w2 W) => (hW.block _ hlt1).trans HK2.out)
    have hKs : KeyOk (k : Nat) (ky k h) := ky_ok (by have := HG.out.2.1; omega) (fun i hi => by have := HG.out.2.2.2 i (by omega); omega)
    have HHS := Lib.hid (shas_any s b room hi mi (hi + mi) L T (k : Nat) (ky k h) hKs w2.drew (HCA.out.sh.same (below_dr (Below.refl _ w2) 1)))
    clear hKs
    refine wp_region_held_drew (S := fun W => Below w2.heap.size w2 W) (by kernel_rfl) (below_dr (Below.refl _ w2) 1) (fun hHeld => ?_)
    refine wpAnyH_take (i := 0) (oi := ⟨some 17, .move (.tmp 8), _, _, _, none⟩) (v := (.bool true)) rfl (by kernel_rfl) (by kernel_rfl) (by kernel_rfl) (fun _ _ _ h => h) (Or.inl ⟨by rfl, fun W hW => ?_⟩) (by assumption) ?_
    · go_simp
    simp only [Act.put, List.setIfInBounds_toArray, List.set_cons_zero, List.set_cons_succ]
    refine wpAnyH_take (i := 1) (oi := ⟨some 18, .move (.tmp 17), _, _, _, none⟩) (v := (.bool true)) rfl (by kernel_rfl) (by kernel_rfl) (by kernel_rfl) (fun _ _ _ h => h) (Or.inl ⟨by rfl, fun W hW => ?_⟩) (by assumption) ?_
    · go_simp
    simp only [Act.put, List.setIfInBounds_toArray, List.set_cons_zero, List.set_cons_succ]
    refine wpAnyH_take (i := 2) (oi := ⟨some 19, .move (.tmp 0), _, _, _, some (1, true)⟩) (v := (.pointer (some ⟨c0, 0, none⟩))) rfl (by kernel_rfl) (by kernel_rfl) (by kernel_rfl) (fun _ _ _ h => h) (Or.inl ⟨by rfl, fun W hW => ?_⟩) (by assumption) ?_
    · go_simp
    simp only [Act.put, List.setIfInBounds_toArray, List.set_cons_zero, List.set_cons_succ]
    refine wpAnyH_take (i := 3) (oi := ⟨some 20, .nilCheck (.tmp 19), _, _, _, some (1, true)⟩) (v := (.pointer (some ⟨c0, 0, none⟩))) rfl (by kernel_rfl) (by kernel_rfl) (by kernel_rfl) (fun _ _ _ h => h) (Or.inl ⟨by rfl, fun W hW => ?_⟩) (by assumption) ?_
    · go_simp
    simp only [Act.put, List.setIfInBounds_toArray, List.set_cons_zero, List.set_cons_succ]
    refine wpAnyH_take (i := 4) (oi := ⟨some 21, .fieldAddr 101 (.tmp 20) 2, _, _, _, some (1, true)⟩) (v := (.pointer (some ⟨c0, 2, none⟩))) rfl (by kernel_rfl) (by kernel_rfl) (by kernel_rfl) (fun _ _ _ h => h) (Or.inl ⟨by rfl, fun W hW => ?_⟩) (by assumption) ?_
    · go_simp
    simp only [Act.put, List.setIfInBounds_toArray, List.set_cons_zero, List.set_cons_succ]
    refine wpAnyH_take (i := 5) (oi := ⟨some 22, .load 94 (.tmp 21), _, _, _, some (1, true)⟩) (v := (.pointer (some ⟨s, 0, none⟩))) rfl (by kernel_rfl) (by kernel_rfl) (by kernel_rfl) (fun _ _ _ h => h) (Or.inl ⟨by rfl, fun W hW => ?_⟩) (by assumption) ?_
    · have := HD2.out W hW; go_simp
    simp only [Act.put, List.setIfInBounds_toArray, List.set_cons_zero, List.set_cons_succ]
    refine wpAnyH_take (i := 6) (oi := ⟨some 23, .load 98 (.tmp 7), _, _, _, some (1, true)⟩) (v := (.agg (kc (k : Nat) (ky k h)))) rfl (by kernel_rfl) (by kernel_rfl) (by kernel_rfl) (fun _ _ _ h => h) (yields_keyG (g := w1.heap.size) (by rfl) (by rfl) (fun W hW => HDK.out W hW)) (by assumption) ?_
    simp only [Act.put, List.setIfInBounds_toArray, List.set_cons_zero, List.set_cons_succ]
    refine wpAnyH_ready (rs := [7]) (by kernel_rfl) (by simp) (AllReadyH.cons rfl (fun KK hKK => ?_) AllReadyH.nil)
    go_simp
    refine HHS.out.mono ?_
    rintro e w4 ⟨v, rfl, hv, hB4⟩
    dsimp only
    have hb4 : Below w2.heap.size w2 w4 := (below_dr (Below.refl _ w2) 1).trans hB4
    refine hKK.out _ _ hb4 (fun hHeld => ?_)
    clear hKK KK HHS
    have HV := Lib.hid hv; have HB4 := Lib.hid (HB2.out.trans (hb4.mono HB2.out.size))
    clear hv hB4 hb4
    refine wpAnyH_take (i := 8) (oi := ⟨some 25, .pick (.tmp 18) (.tmp 24) (.const (.bool false)), _, _, _, none⟩) (v := (.bool v)) rfl (by kernel_rfl) (by kernel_rfl) (by kernel_rfl) (fun _ _ _ h => h) (Or.inl ⟨by rfl, fun W hW => ?_⟩) (by assumption) ?_
    · go_simp
    simp only [Act.put, List.setIfInBounds_toArray, List.set_cons_zero, List.set_cons_succ]
    refine wpAnyH_take (i := 9) (oi := ⟨some 6, .assign (.tmp 25), _, _, _, none⟩) (v := (.bool v)) rfl (by kernel_rfl) (by kernel_rfl) (by kernel_rfl) (fun _ _ _ h => h) (Or.inl ⟨by rfl, fun W hW => ?_⟩) (by assumption) ?_
    · go_simp
    simp only [Act.put, List.setIfInBounds_toArray, List.set_cons_zero, List.set_cons_succ]
    refine wpAnyH_done (by kernel_rfl) ?_ _
    clear hHeld
    go_wp2
    go_ret
    exact ⟨v, rfl, ⟨fun hh => ⟨HG.out, by rw [Int.toNat_natCast]; exact HV.out.1 hh⟩, fun hh => HV.out.2 (by have := hh.2; rw [Int.toNat_natCast] at this; exact this)⟩, HB4.out⟩
end Go.Proofs.YtjnfghhochcpaaaGreat

namespace Go.Proofs.YtjnfghhochcpaaaGreat
open Go.RowKit Go.Shelf Go.Maps

theorem and_one : ∀ a : Nat, a < 256 → bits .and .u8 (a : Int) 1 = ((a % 2 : Nat) : Int) := by decide +kernel
theorem notand_one : ∀ a : Nat, a < 256 → bits .andNot .u8 (a : Int) 1 = ((a - a % 2 : Nat) : Int) := by decide +kernel
theorem split_one : ∀ a : Nat, a < 256 → a = (a % 2) ^^^ (a - a % 2) := by decide +kernel
theorem line_lw : ∀ x : Nat, x < 256 → Pf.lw Pf.idn 2 x 1 = x := by decide +kernel
/-- a row by an index, as a symbol of two rows. -/
theorem line_mul {f : Nat → Nat → Nat} (h0 : ∀ j, f 0 j = 0) {x : Nat} (hx : x < 255) (j : Nat) : enc 2 f x j = Gf.mul x (f 1 j) := by
  unfold enc Pf.mv
  rw [Pf.idn_at (by omega)]
  show Pf.xsum (fun p => Gf.mul (Pf.lw Pf.idn 2 x p) (f p j)) 2 = _
  simp only [Pf.xsum]
  rw [line_lw x (by omega), h0, Gf.mul_zero]
  simp
theorem split_mul {a b : Nat} (ha : a < 256) (hb : b < 256) : Gf.mul a b = Gf.mul (a % 2) b ^^^ Gf.mul (a - a % 2) b := by
  rw [← Gf.xor_mul (by omega) (by omega) hb, ← split_one a ha]

/-- the first k bytes summed. -/
def adf (F R : Nat → Nat) (k i : Nat) : Nat := if i < k then F i ^^^ R i else F i
theorem adf_s (F R : Nat → Nat) (k i : Nat) : (if i = k then F k ^^^ R k else adf F R k i) = adf F R (k + 1) i := by
  unfold adf
  by_cases e : i = k
  · subst e; rw [if_pos rfl, if_pos (by omega)]
  · rw [if_neg e]
    by_cases c : i < k
    · rw [if_pos c, if_pos (by omega)]
    · rw [if_neg c, if_neg (by omega)]
theorem adf_at (F R : Nat → Nat) (k : Nat) : adf F R k k = F k := by unfold adf; rw [if_neg (by omega)]
set_option maxHeartbeats 1000000 in
set_option maxRecDepth 100000 in
theorem cadd_any (g n : Nat) (ra : Option Addr) (c : Nat) (F R : Nat → Nat) (hn : n ≤ 1000000) (hF : Pf.By F) (hR : Pf.By R) (w : World) (hb : Bl w g n n F) (hr : Sl w ra n c R) (hne : ∀ ad, ra = some ad → n ≠ 0 → ad.block ≠ g) :
    Calls Tryz.prog 103 #[.slice (some ⟨g, 0, none⟩) n n, .slice ra n c] w fun e w' => e = .returned (.tuple #[]) ∧ w.grownBy w' (some g) ∧ Bl w' g n n (fun i => F i ^^^ R i) := by
  have HB := Lib.hid hb; have HR := Lib.hid hr; have HF := Lib.hid hF; have HRR := Lib.hid hR; have HNE := Lib.hid hne
  have HST := Lib.hid (hb.congr (h' := adf F R 0) fun j _ => by unfold adf; rw [if_neg (by omega)])
  have hgr0 : w.grownBy w (some g) := ⟨rfl, rfl, rfl, Nat.le_refl _, fun _ _ _ => rfl⟩
  have HGR0 := Lib.hid hgr0
  clear hb hr hF hR hne hgr0
  go_enter Tryz.func103, Tryz.ntmps103
  go_wp2_with fail
  go_loopw [8] (fun i wr => ∃ k : Nat, k ≤ n ∧ i = .int .i64 k ∧ Bl wr g n n (adf F R k) ∧ w.grownBy wr (some g)) (fun i _ => n - (intOf i).toNat)
  case atStart => exact ⟨0, by omega, rfl, HST.out, HGR0.out⟩
  case round =>
    rename_i wr
    obtain ⟨k, hk, rfl, hBl, hGr⟩ := hrel
    by_cases hkm : k < n
    · have i1 : (k : Int) < (n : Int) := by omega
      have c1 := hBl.cell (i := k) hkm
      have f1 := hBl.free k
      rw [adf_at] at c1
      obtain ⟨b2, o2, e2, c2⟩ := (HR.out.grown hGr (fun ad e hl => by have := HNE.out ad e hl; simp; exact this)).at_ hkm
      have E2 := Lib.hid (show ra = some ⟨b2, o2, none⟩ from e2)
      subst e2
      have d1 := HF.out k
      have d2 := HRR.out k
      have HBl := Lib.hid hBl; have HGr := Lib.hid hGr
      have hx : bits .xor .u8 ((F k : Nat) : Int) ((R k : Nat) : Int) = ((F k ^^^ R k : Nat) : Int) := u8_xor_nat _ _ d1 d2
      clear hBl hGr
      go_wp2
      go_roundw
      case rel => exact ⟨k + 1, by omega, by go_num, (HBl.out.set hkm _).congr (fun i _ => by rw [← adf_s]), HGr.out.trans (grownSet _ _ _ _)⟩
      case measure => simp [intOf]; omega
    · obtain rfl : k = n := by omega
      have HBl := Lib.hid (hBl.congr (h' := fun i => F i ^^^ R i) (fun i hi => by unfold adf; rw [if_pos hi])); have HGr := Lib.hid hGr
      clear hBl hGr
      go_wp2
      go_end0
      exact ⟨rfl, HGr.out, HBl.out⟩
end Go.Proofs.YtjnfghhochcpaaaGreat

namespace Go.Proofs.YtjnfghhochcpaaaGreat
open Go.RowKit Go.Shelf Go.Maps

/-- two rows, the first of noughts. -/
def two (R : Nat → Nat) (i j : Nat) : Nat := if i = 1 then R j else 0
theorem two_bm {R : Nat → Nat} (h : Pf.By R) : Mt.Bm (two R) := fun i j => by unfold two; split; exact h j; omega
theorem two_rd {w : World} {g z n c : Nat} {ra : Option Addr} {R : Nat → Nat} (hn : n ≤ 1000000) (hg : w.heap[g]? = some (.cells #[.slice (some ⟨z, 0, none⟩) n n, .slice ra n c] 24 (0, 0))) (hz : Bl w z n n (fun _ => 0)) (hr : Sl w ra n c R) :
    Rd w (some ⟨g, 0, none⟩) 2 2 (fun i => if i = 1 then ra else some ⟨z, 0, none⟩) (fun _ => n) (fun i => if i = 1 then c else n) (two R) where
  capOk := Nat.le_refl _
  maxOk := by unfold maxLen; omega
  bm := two_bm hr.bytes
  nil e := by cases e
  spot ad e _ := by cases e; rfl
  cell ad e i hi := by
    cases e
    show w.cell? ⟨g, 0 + i, none⟩ = _
    rw [Nat.zero_add, cell_of_row w g i _ _ _ hg]
    rcases i with _ | _ | i
    · rfl
    · rfl
    · omega
  row i hi := by
    rcases i with _ | _ | i
    · exact (hz.congr (fun j _ => rfl)).sl (Nat.le_refl _) (by unfold maxLen; omega) (fun j => by show 0 < 256; omega) (fun j _ => rfl)
    · exact hr
    · omega

set_option maxHeartbeats 2000000 in
set_option maxRecDepth 100000 in
theorem times_any (cb fb G : Nat) (b : Nat → Nat) (ra : Option Addr) (n c x : Nat) (R : Nat → Nat) (hn : n ≤ 1000000) (hx : x < 255) (w : World) (hC : Cd w cb fb G 255 2 b) (hr : Sl w ra n c R) :
    Calls Tryz.prog 104 #[.agg #[.pointer (some ⟨cb, 0, none⟩)], .slice ra n c, .int .i64 (x : Nat)] w fun e w' => ∃ g, e = .returned (.slice (some ⟨g, 0, none⟩) n n) ∧ w.heap.size ≤ g ∧ Bl w' g n n (fun j => Gf.mul x (R j)) ∧ Below w.heap.size w w' := by
  have hmk := hmk8 n (by omega)
  obtain ⟨w1, hw1⟩ : ∃ w1, w1 = w.alloc (.cells #[.pointer (some ⟨cb, 0, none⟩)] 91) := ⟨_, rfl⟩
  have hal : Below w.heap.size w w1 := by rw [hw1]; exact (Below.refl _ w).alloc (Nat.le_refl _) _
  have hg1 : w1.heap[w.heap.size]? = some (.cells #[.pointer (some ⟨cb, 0, none⟩)] 91 (0, 0)) := by rw [hw1]; exact heap_alloc_new _ _
  have hlt1 : w.heap.size < w1.heap.size := (Array.getElem?_eq_some_iff.1 hg1).1
  have HW1 := Lib.hid hw1; have HAL := Lib.hid hal; have HC1 := Lib.hid (hC.same hal); have HR1 := Lib.hid (hr.same hal)
  have HL := Lib.hid (fun (W : World) (hW : Below w1.heap.size w1 W) => (show W.cell? ⟨w.heap.size, 0, none⟩ = some (.pointer (some ⟨cb, 0, none⟩)) from by rw [cell_of_row W w.heap.size 0 _ _ _ ((hW.block _ hlt1).trans hg1)]; rfl))
  obtain ⟨w2, hw2⟩ : ∃ w2, w2 = (w1.alloc (.cells (madeCells #[.int .u8 0] n) 5)).drew := ⟨_, rfl⟩
  have hb2 : Below w1.heap.size w1 w2 := by rw [hw2]; exact below_dr ((Below.refl _ w1).alloc (Nat.le_refl _) _) 1
  have hz2 : Bl w2 w1.heap.size n n (fun _ => 0) := by rw [hw2]; exact bl_made w1 n
  obtain ⟨w3, hw3⟩ : ∃ w3, w3 = w2.alloc (.cells #[.slice (some ⟨w1.heap.size, 0, none⟩) n n, .slice ra n c] 24) := ⟨_, rfl⟩
  have hb3 : Below w2.heap.size w2 w3 := by rw [hw3]; exact (Below.refl _ w2).alloc (Nat.le_refl _) _
  have hg3 : w3.heap[w2.heap.size]? = some (.cells #[.slice (some ⟨w1.heap.size, 0, none⟩) n n, .slice ra n c] 24 (0, 0)) := by rw [hw3]; exact heap_alloc_new _ _
  have hz3 := hz2.kept (hb3.block _ hz2.lt)
  have hrd := two_rd hn hg3 hz3 ((HR1.out.same hb2).same hb3)
  have HRD := Lib.hid hrd; have HC3 := Lib.hid ((HC1.out.same hb2).same hb3)
  have hs12 := hb2.size
  have HB3 := Lib.hid (hb2.trans (hb3.mono hs12))
  have HB2 := Lib.hid hb2
  have HW2 := Lib.hid hw2; have HW3 := Lib.hid hw3
  have HBY := Lib.hid hr.bytes
  clear hw1 hal hg1 hC hr hw2 hb2 hz2 hw3 hb3 hg3 hz3 hrd
  go_enter Tryz.func104, Tryz.ntmps104
  go_wp2_with fail
  rw [← HW1.out]
  refine wp_region_held_drew (S := fun W => Below w1.heap.size w1 W) (by kernel_rfl) (below_dr (Below.refl _ w1) 1) (fun hHeld => ?_)
  refine wpAnyH_take (i := 0) (oi := ⟨some 10, .fieldAddr 91 (.tmp 3) 0, _, _, _, none⟩) (v := (.pointer (some ⟨w.heap.size, 0, none⟩))) rfl (by kernel_rfl) (by kernel_rfl) (by kernel_rfl) (fun _ _ _ h => h) (Or.inl ⟨by rfl, fun W hW => ?_⟩) (by assumption) ?_
  · go_simp
  simp only [Act.put, List.setIfInBounds_toArray, List.set_cons_zero, List.set_cons_succ]
  refine wpAnyH_take (i := 1) (oi := ⟨some 11, .load 62 (.tmp 10), _, _, _, none⟩) (v := (.pointer (some ⟨cb, 0, none⟩))) rfl (by kernel_rfl) (by kernel_rfl) (by kernel_rfl) (fun _ _ _ h => h) (Or.inl ⟨by rfl, fun W hW => ?_⟩) (by assumption) ?_
  · have := HL.out W hW; go_simp
  simp only [Act.put, List.setIfInBounds_toArray, List.set_cons_zero, List.set_cons_succ]
  refine wpAnyH_take (i := 2) (oi := ⟨some 12, .move (.tmp 1), _, _, _, none⟩) (v := (.slice ra n c)) rfl (by kernel_rfl) (by kernel_rfl) (by kernel_rfl) (fun _ _ _ h => h) (Or.inl ⟨by rfl, fun W hW => ?_⟩) (by assumption) ?_
  · go_simp
  simp only [Act.put, List.setIfInBounds_toArray, List.set_cons_zero, List.set_cons_succ]
  refine wpAnyH_take (i := 3) (oi := ⟨some 13, .call { callee := Callee.builtin Builtin.len, args := #[.tmp 12], argTypes := #[24] }, _, _, _, none⟩) (v := (.int .i64 (n : Nat))) rfl (by kernel_rfl) (by kernel_rfl) (by kernel_rfl) (fun _ _ _ h => h) (Or.inl ⟨by rfl, fun W hW => ?_⟩) (by assumption) ?_
  · go_simp
  simp only [Act.put, List.setIfInBounds_toArray, List.set_cons_zero, List.set_cons_succ]
  refine wpAnyH_take (i := 5) (oi := ⟨some 15, .move (.tmp 1), _, _, _, none⟩) (v := (.slice ra n c)) rfl (by kernel_rfl) (by kernel_rfl) (by kernel_rfl) (fun _ _ _ h => h) (Or.inl ⟨by rfl, fun W hW => ?_⟩) (by assumption) ?_
  · go_simp
  simp only [Act.put, List.setIfInBounds_toArray, List.set_cons_zero, List.set_cons_succ]
  refine wpAnyH_take (i := 7) (oi := ⟨some 17, .move (.tmp 2), _, _, _, none⟩) (v := (.int .i64 (x : Nat))) rfl (by kernel_rfl) (by kernel_rfl) (by kernel_rfl) (fun _ _ _ h => h) (Or.inl ⟨by rfl, fun W hW => ?_⟩) (by assumption) ?_
  · go_simp
  simp only [Act.put, List.setIfInBounds_toArray, List.set_cons_zero, List.set_cons_succ]
  refine wpAnyH_ready (rs := [4]) (by kernel_rfl) (by simp) (AllReadyH.cons rfl (fun KK hKK => ?_) AllReadyH.nil)
  go_simp
  rw [← HW2.out]
  refine hKK.out _ _ HB2.out (fun hHeld => ?_)
  clear hKK KK hmk
  try simp only [Act.put, List.setIfInBounds_toArray, List.set_cons_zero, List.set_cons_succ]
  refine wpAnyH_ready (rs := [6]) (by kernel_rfl) (by simp) (AllReadyH.cons rfl (fun KK hKK => ?_) AllReadyH.nil)
  go_simp
  rw [← HW3.out]
  refine hKK.out _ _ HB3.out (fun hHeld => ?_)
  clear hKK KK
  have HSY := Lib.hid (csymbol_any cb fb G 255 2 b (some ⟨w2.heap.size, 0, none⟩) 2 2 (x : Nat) _ _ _ (two R) (by omega) (fun i _ => hn) w3 HC3.out HRD.out)
  refine wpAnyH_ready (rs := [8]) (by kernel_rfl) (by simp) (AllReadyH.cons rfl (fun KK hKK => ?_) AllReadyH.nil)
  go_simp
  refine HSY.out.mono ?_
  rintro e w4 (⟨hno, _⟩ | ⟨_, _, _, g, rfl, hg, hb, hB4⟩)
  · exact absurd ⟨⟨rfl, fun i _ => rfl⟩, by omega, by omega⟩ hno
  dsimp only
  refine hKK.out _ _ (HB3.out.trans (hB4.mono HB3.out.size)) (fun hHeld => ?_)
  clear hKK KK HSY
  have HB4 := Lib.hid (HAL.out.trans ((HB3.out.trans (hB4.mono HB3.out.size)).mono HAL.out.size))
  have hs3 := HB3.out.size
  have HBL := Lib.hid (hb.congr (h' := fun j => Gf.mul x (R j)) (fun j _ => by rw [Int.toNat_natCast, line_mul (fun j => rfl) hx]; rfl))
  clear hb hB4
  refine wpAnyH_take (i := 9) (oi := ⟨some 9, .move (.tmp 18), _, _, _, none⟩) (v := (.tuple #[.slice (some ⟨g, 0, none⟩) n n, .int .i64 0])) rfl (by kernel_rfl) (by kernel_rfl) (by kernel_rfl) (fun _ _ _ h => h) (Or.inl ⟨by rfl, fun W hW => ?_⟩) (by assumption) ?_
  · go_simp
  simp only [Act.put, List.setIfInBounds_toArray, List.set_cons_zero, List.set_cons_succ]
  refine wpAnyH_take (i := 10) (oi := ⟨some 19, .extract (.tmp 9) 0, _, _, _, none⟩) (v := (.slice (some ⟨g, 0, none⟩) n n)) rfl (by kernel_rfl) (by kernel_rfl) (by kernel_rfl) (fun _ _ _ h => h) (Or.inl ⟨by rfl, fun W hW => ?_⟩) (by assumption) ?_
  · go_simp
  simp only [Act.put, List.setIfInBounds_toArray, List.set_cons_zero, List.set_cons_succ]
  refine wpAnyH_take (i := 11) (oi := ⟨some 20, .extract (.tmp 9) 1, _, _, _, none⟩) (v := (.int .i64 0)) rfl (by kernel_rfl) (by kernel_rfl) (by kernel_rfl) (fun _ _ _ h => h) (Or.inl ⟨by rfl, fun W hW => ?_⟩) (by assumption) ?_
  · go_simp
  simp only [Act.put, List.setIfInBounds_toArray, List.set_cons_zero, List.set_cons_succ]
  refine wpAnyH_take (i := 12) (oi := ⟨some 7, .assign (.tmp 19), _, _, _, none⟩) (v := (.slice (some ⟨g, 0, none⟩) n n)) rfl (by kernel_rfl) (by kernel_rfl) (by kernel_rfl) (fun _ _ _ h => h) (Or.inl ⟨by rfl, fun W hW => ?_⟩) (by assumption) ?_
  · go_simp
  simp only [Act.put, List.setIfInBounds_toArray, List.set_cons_zero, List.set_cons_succ]
  refine wpAnyH_take (i := 13) (oi := ⟨some 8, .assign (.tmp 20), _, _, _, none⟩) (v := (.int .i64 0)) rfl (by kernel_rfl) (by kernel_rfl) (by kernel_rfl) (fun _ _ _ h => h) (Or.inl ⟨by rfl, fun W hW => ?_⟩) (by assumption) ?_
  · go_simp
  simp only [Act.put, List.setIfInBounds_toArray, List.set_cons_zero, List.set_cons_succ]
  refine wpAnyH_done (by kernel_rfl) ?_ _
  clear hHeld
  go_wp2
  go_ret
  exact ⟨g, rfl, by omega, HBL.out, HB4.out⟩

/-- what is summed so far. -/
theorem smv_s (wt : Nat → Nat) (f : Nat → Nat → Nat) (k j : Nat) : smv wt f (k + 1) j = smv wt f k j ^^^ Gf.mul (wt k) (f k j) := rfl
set_option maxHeartbeats 2000000 in
set_option maxRecDepth 100000 in
theorem lsum_any (cb fb G : Nat) (b : Nat → Nat) (wa : Option Addr) (m wc : Nat) (wt : Nat → Nat) (ha : Option Addr) (hn hc : Nat) (h : Nat → Int) (r : Nat → Option Addr) (l c : Nat → Nat) (f : Nat → Nat → Nat) (hm : m ≤ hn) (h0 : 0 < hn) (he : ∀ i, i < hn → l i = l 0) (hl : l 0 ≤ 1000000) (hhn : hn ≤ 1000000) (w : World) (hC : Cd w cb fb G 255 2 b) (hW : Sl w wa m wc wt) (hH : Hs w ha hn h r l c f) :
    Calls Tryz.prog 86 #[.agg #[.pointer (some ⟨cb, 0, none⟩)], .slice wa m wc, .slice ha hn hc] w fun e w' => ∃ g, e = .returned (.slice (some ⟨g, 0, none⟩) (l 0) (l 0)) ∧ w.heap.size ≤ g ∧ Bl w' g (l 0) (l 0) (smv wt f m) ∧ Below w.heap.size w w' := by
  obtain ⟨wi, hwi⟩ : ∃ wi, l 0 = wi := ⟨_, rfl⟩
  have HE := Lib.hid (fun i (hi : i < hn) => (he i hi).trans hwi)
  have HWI := Lib.hid hwi
  rw [hwi] at hl ⊢
  have hmk := hmk8 wi (by omega)
  have hal : Below w.heap.size w (w.alloc (.cells #[.pointer (some ⟨cb, 0, none⟩)] 91)) := (Below.refl _ w).alloc (Nat.le_refl _) _
  obtain ⟨b0, o0, ea0, _, hc0⟩ := (hH.same hal).cell 0 h0
  have EA0 := Lib.hid (show ha = some ⟨b0, o0, none⟩ from ea0)
  subst ea0
  rw [hwi] at hc0
  simp only [Nat.zero_mul, Nat.add_zero] at hc0
  have hbm := hH.bm
  obtain ⟨w1, hw1⟩ : ∃ w1, w1 = (w.alloc (.cells #[.pointer (some ⟨cb, 0, none⟩)] 91)).alloc (.cells (madeCells #[.int .u8 0] wi) 5) := ⟨_, rfl⟩
  have hB1 : Below w.heap.size w w1 := by rw [hw1]; exact ((Below.refl _ w).alloc (Nat.le_refl _) _).alloc (by simp) _
  have hb1 : Bl w1 (w.heap.size + 1) wi wi (fun _ => 0) := by
    rw [hw1]
    have := bl_made (w.alloc (.cells #[.pointer (some ⟨cb, 0, none⟩)] 91)) wi
    simpa using this
  have hg1 : w1.heap[w.heap.size]? = some (.cells #[.pointer (some ⟨cb, 0, none⟩)] 91 (0, 0)) := by rw [hw1]; exact heap_alloc2_old w _ _
  have HW1 := Lib.hid hw1; have HB1 := Lib.hid hB1; have HBL1 := Lib.hid hb1; have HG1 := Lib.hid hg1
  have HC := Lib.hid hC; have HWT := Lib.hid hW; have HH := Lib.hid hH
  have hlt1 : w.heap.size < w1.heap.size := (Array.getElem?_eq_some_iff.1 hg1).1
  have HBM := Lib.hid hbm
  clear hw1 hB1 hb1 hg1 hC hW hH hal hwi he hbm
  go_enter Tryz.func86, Tryz.ntmps86
  go_wp2_with fail
  rw [← HW1.out]
  clear hc0
  go_loopw [20] (fun i wr => ∃ k : Nat, k ≤ m ∧ i = .int .i64 k ∧ Bl wr (w.heap.size + 1) wi wi (smv wt f k) ∧ wr.heap[w.heap.size]? = some (.cells #[.pointer (some ⟨cb, 0, none⟩)] 91 (0, 0)) ∧ Below w.heap.size w wr) (fun i _ => m - (intOf i).toNat)
  case atStart => exact ⟨0, by omega, rfl, HBL1.out.congr (fun i _ => rfl), HG1.out, HB1.out⟩
  case round =>
    clear hmk HBL1 HG1 HB1 HW1
    rename_i wr
    obtain ⟨k, hk, rfl, hBl, hg, hB⟩ := hrel
    by_cases hkm : k < m
    · have i1 : (k : Int) < (m : Int) := by omega
      have i2 : (k : Int) < (hn : Int) := by omega
      obtain ⟨ab, ao, ea, hcw⟩ := (HWT.out.same hB).at_ hkm
      have EAW := Lib.hid (show wa = some ⟨ab, ao, none⟩ from ea)
      subst ea
      have d1 := HWT.out.bytes k
      obtain ⟨hb, ho, eh, _, hch⟩ := (HH.out.same hB).cell k (by omega)
      have EAH := Lib.hid eh
      have e1 : b0 = hb := by injection eh with e; injection e
      have e2 : o0 = ho := by injection eh with e; injection e
      subst e1 e2
      have hrow := HH.out.row k (by omega)
      rw [HE.out k (by omega)] at hrow hch
      have hlt := hrow.lt
      have HROW := Lib.hid hrow
      have HRN := Lib.hid (show ∀ ad, r k = some ad → wi ≠ 0 → ad.block ≠ w.heap.size + 1 from fun ad e hl => by have := hlt ad e hl; omega)
      have hsz := hB.size
      have hlb := hBl.lt
      have HBl := Lib.hid hBl; have HG := Lib.hid hg; have HB := Lib.hid hB
      have HSB := Lib.hid (smv_by HWT.out.bytes HBM.out k)
      have HFB := Lib.hid (HBM.out k)
      clear hBl hg hB hrow hlt eh
      generalize hv : wt k = v at hcw d1
      have HV := Lib.hid hv; clear hv
      have a1 := and_one v d1
      have a2 := notand_one v d1
      by_cases hodd : v % 2 = 1
      · by_cases hrest : v - v % 2 = 0
        · have hd1 := 0
          clear hd1
          have g1 : (((v % 2 : Nat) : Int) == 1) = true := by simp; omega
          have g2 : ((((v - v % 2 : Nat) : Int)) != 0) = false := by simp; omega
          have g3 : IntKind.i64.wrap ((v - v % 2 : Nat) : Int) = ((v - v % 2 : Nat) : Int) := IntWalk.i64_in _ (by omega)
          generalize hq : v % 2 = q at a1 a2 g1 g2 g3
          generalize hrr : v - q = rs at a2 g2 g3
          have HQ := Lib.hid hq; have HRR := Lib.hid hrr
          have HQ1 := Lib.hid (show q = 1 from by omega)
          have HR1 := Lib.hid (show rs = 0 from by omega)
          clear hq hrr
          have hgl := cell_of_row wr w.heap.size 0 _ _ _ HG.out
          go_wp2_with fail
          have hgr0 : wr.grownBy wr (some (w.heap.size + 1)) := ⟨rfl, rfl, rfl, Nat.le_refl _, fun _ _ _ => rfl⟩
          have HR0 := Lib.hid hgr0; clear hgr0
          refine (cadd_any (w.heap.size + 1) wi (r k) (c k) (smv wt f k) (f k) hl HSB.out HFB.out _ HBl.out (HROW.out.same HB.out) HRN.out).mono ?_
          rintro e w2 ⟨rfl, hgr, hbl2⟩
          have HR2 := Lib.hid hgr; have HBl2 := Lib.hid hbl2
          have HB2 := Lib.hid (HB.out.grown hgr hsz (by intro j hj; cases hj; omega))
          have hsz2 := HB2.out.size
          have hsz2' := hgr.size
          have HG2 := Lib.hid ((hgr.block w.heap.size (by omega) (by simp)).trans HG.out)
          clear hgl
          have hgl := cell_of_row w2 w.heap.size 0 _ _ _ HG2.out
          have HSB2 := Lib.hid (show Pf.By (fun j => smv wt f k j ^^^ f k j) from fun j => Gf.xor_lt (HSB.out j) (HFB.out j))
          clear hgr hbl2
          go_wp2_with fail
          go_wp2
          go_roundw
          case rel => exact ⟨k + 1, by omega, by go_num, HBl2.out.congr (fun j _ => by
              have key : smv wt f (k + 1) j = smv wt f k j ^^^ (Gf.mul q (f k j) ^^^ Gf.mul rs (f k j)) := by rw [smv_s, HV.out, split_mul d1 (HFB.out j), HQ.out, HRR.out]
              rw [key, HQ1.out, HR1.out]
              simp [Gf.mul_one _ (HFB.out j), Gf.zero_mul, Nat.xor_assoc]), HG2.out, HB2.out⟩
          case measure => simp [intOf]; omega
        · have hd1 := 0
          clear hd1
          have g1 : (((v % 2 : Nat) : Int) == 1) = true := by simp; omega
          have g2 : ((((v - v % 2 : Nat) : Int)) != 0) = true := by simp; omega
          have g3 : IntKind.i64.wrap ((v - v % 2 : Nat) : Int) = ((v - v % 2 : Nat) : Int) := IntWalk.i64_in _ (by omega)
          generalize hq : v % 2 = q at a1 a2 g1 g2 g3
          generalize hrr : v - q = rs at a2 g2 g3
          have HQ := Lib.hid hq; have HRR := Lib.hid hrr
          have HQ1 := Lib.hid (show q = 1 from by omega)
          have hrs1 : rs < 255 := by omega
          clear hq hrr
          have hgl := cell_of_row wr w.heap.size 0 _ _ _ HG.out
          go_wp2_with fail
          have hgr0 : wr.grownBy wr (some (w.heap.size + 1)) := ⟨rfl, rfl, rfl, Nat.le_refl _, fun _ _ _ => rfl⟩
          have HR0 := Lib.hid hgr0; clear hgr0
          refine (cadd_any (w.heap.size + 1) wi (r k) (c k) (smv wt f k) (f k) hl HSB.out HFB.out _ HBl.out (HROW.out.same HB.out) HRN.out).mono ?_
          rintro e w2 ⟨rfl, hgr, hbl2⟩
          have HR2 := Lib.hid hgr; have HBl2 := Lib.hid hbl2
          have HB2 := Lib.hid (HB.out.grown hgr hsz (by intro j hj; cases hj; omega))
          have hsz2 := HB2.out.size
          have hsz2' := hgr.size
          have HG2 := Lib.hid ((hgr.block w.heap.size (by omega) (by simp)).trans HG.out)
          clear hgl
          have hgl := cell_of_row w2 w.heap.size 0 _ _ _ HG2.out
          have HSB2 := Lib.hid (show Pf.By (fun j => smv wt f k j ^^^ f k j) from fun j => Gf.xor_lt (HSB.out j) (HFB.out j))
          clear hgr hbl2
          go_wp2_with fail
          refine (times_any cb fb G b (r k) wi (c k) rs (f k) hl hrs1 _ (HC.out.same HB2.out) (HROW.out.same HB2.out)).mono ?_
          rintro e w3 ⟨g3', rfl, hg3', hbl3, hB3⟩
          have hsz3 := hB3.size
          have hs3w := HB2.out.size
          have HB3 := Lib.hid (HB2.out.trans (hB3.mono HB2.out.size)); have HBl3 := Lib.hid (HBl2.out.below hB3 HBl2.out.lt); have HT3 := Lib.hid hbl3
          have hlb3 := HBl2.out.lt
          have HG3 := Lib.hid ((hB3.block w.heap.size (by omega)).trans HG2.out)
          have HMB := Lib.hid (show Pf.By (fun j => Gf.mul rs (f k j)) from fun j => Gf.mul_lt (by omega) (HFB.out j))
          have HMU := Lib.hid (show Pf.Up (fun j => Gf.mul rs (f k j)) wi from fun j hj => by show Gf.mul rs (f k j) = 0; rw [show f k j = 0 from HROW.out.up j hj, Gf.mul_zero])
          have hgne : g3' ≠ w.heap.size + 1 := by omega
          clear hg3' hbl3 hB3 hgl
          go_wp2_with fail
          refine (cadd_any (w.heap.size + 1) wi (some ⟨g3', 0, none⟩) wi (fun j => smv wt f k j ^^^ f k j) (fun j => Gf.mul rs (f k j)) hl HSB2.out HMB.out _ HBl3.out (HT3.out.sl (Nat.le_refl _) (by unfold maxLen; omega) HMB.out HMU.out) (fun ad e _ => by cases e; exact hgne)).mono ?_
          rintro e w4 ⟨rfl, hgr4, hbl4⟩
          have HB4 := Lib.hid (HB3.out.grown hgr4 HB3.out.size (by intro j hj; cases hj; omega))
          have HG4 := Lib.hid ((hgr4.block w.heap.size (by omega) (by simp)).trans HG3.out); have HBl4 := Lib.hid hbl4
          clear hgr4 hbl4
          go_wp2
          go_roundw
          case rel => exact ⟨k + 1, by omega, by go_num, HBl4.out.congr (fun j _ => by
              have key : smv wt f (k + 1) j = smv wt f k j ^^^ (Gf.mul q (f k j) ^^^ Gf.mul rs (f k j)) := by rw [smv_s, HV.out, split_mul d1 (HFB.out j), HQ.out, HRR.out]
              rw [key, HQ1.out]
              simp [Gf.mul_one _ (HFB.out j), Gf.zero_mul, Nat.xor_assoc]), HG4.out, HB4.out⟩
          case measure => simp [intOf]; omega
      · by_cases hrest : v - v % 2 = 0
        · have hd1 := 0
          clear hd1
          have g1 : (((v % 2 : Nat) : Int) == 1) = false := by simp; omega
          have g2 : ((((v - v % 2 : Nat) : Int)) != 0) = false := by simp; omega
          have g3 : IntKind.i64.wrap ((v - v % 2 : Nat) : Int) = ((v - v % 2 : Nat) : Int) := IntWalk.i64_in _ (by omega)
          generalize hq : v % 2 = q at a1 a2 g1 g2 g3
          generalize hrr : v - q = rs at a2 g2 g3
          have HQ := Lib.hid hq; have HRR := Lib.hid hrr
          have HQ1 := Lib.hid (show q = 0 from by omega)
          have HR1 := Lib.hid (show rs = 0 from by omega)
          clear hq hrr
          have hgl := cell_of_row wr w.heap.size 0 _ _ _ HG.out
          go_wp2_with fail
          have hgr0 : wr.grownBy wr (some (w.heap.size + 1)) := ⟨rfl, rfl, rfl, Nat.le_refl _, fun _ _ _ => rfl⟩
          have HR0 := Lib.hid hgr0; clear hgr0
          have hsz2 := hsz
          go_wp2
          go_roundw
          case rel => exact ⟨k + 1, by omega, by go_num, HBl.out.congr (fun j _ => by
              have key : smv wt f (k + 1) j = smv wt f k j ^^^ (Gf.mul q (f k j) ^^^ Gf.mul rs (f k j)) := by rw [smv_s, HV.out, split_mul d1 (HFB.out j), HQ.out, HRR.out]
              rw [key, HQ1.out, HR1.out]
              simp [Gf.mul_one _ (HFB.out j), Gf.zero_mul, Nat.xor_assoc]), HG.out, HB.out⟩
          case measure => simp [intOf]; omega
        · have hd1 := 0
          clear hd1
          have g1 : (((v % 2 : Nat) : Int) == 1) = false := by simp; omega
          have g2 : ((((v - v % 2 : Nat) : Int)) != 0) = true := by simp; omega
          have g3 : IntKind.i64.wrap ((v - v % 2 : Nat) : Int) = ((v - v % 2 : Nat) : Int) := IntWalk.i64_in _ (by omega)
          generalize hq : v % 2 = q at a1 a2 g1 g2 g3
          generalize hrr : v - q = rs at a2 g2 g3
          have HQ := Lib.hid hq; have HRR := Lib.hid hrr
          have HQ1 := Lib.hid (show q = 0 from by omega)
          have hrs1 : rs < 255 := by omega
          clear hq hrr
          have hgl := cell_of_row wr w.heap.size 0 _ _ _ HG.out
          go_wp2_with fail
          have hgr0 : wr.grownBy wr (some (w.heap.size + 1)) := ⟨rfl, rfl, rfl, Nat.le_refl _, fun _ _ _ => rfl⟩
          have HR0 := Lib.hid hgr0; clear hgr0
          have hsz2 := hsz
          refine (times_any cb fb G b (r k) wi (c k) rs (f k) hl hrs1 _ (HC.out.same HB.out) (HROW.out.same HB.out)).mono ?_
          rintro e w3 ⟨g3', rfl, hg3', hbl3, hB3⟩
          have hsz3 := hB3.size
          have hs3w := HB.out.size
          have HB3 := Lib.hid (HB.out.trans (hB3.mono HB.out.size)); have HBl3 := Lib.hid (HBl.out.below hB3 HBl.out.lt); have HT3 := Lib.hid hbl3
          have hlb3 := HBl.out.lt
          have HG3 := Lib.hid ((hB3.block w.heap.size (by omega)).trans HG.out)
          have HMB := Lib.hid (show Pf.By (fun j => Gf.mul rs (f k j)) from fun j => Gf.mul_lt (by omega) (HFB.out j))
          have HMU := Lib.hid (show Pf.Up (fun j => Gf.mul rs (f k j)) wi from fun j hj => by show Gf.mul rs (f k j) = 0; rw [show f k j = 0 from HROW.out.up j hj, Gf.mul_zero])
          have hgne : g3' ≠ w.heap.size + 1 := by omega
          clear hg3' hbl3 hB3 hgl
          go_wp2_with fail
          refine (cadd_any (w.heap.size + 1) wi (some ⟨g3', 0, none⟩) wi (smv wt f k) (fun j => Gf.mul rs (f k j)) hl HSB.out HMB.out _ HBl3.out (HT3.out.sl (Nat.le_refl _) (by unfold maxLen; omega) HMB.out HMU.out) (fun ad e _ => by cases e; exact hgne)).mono ?_
          rintro e w4 ⟨rfl, hgr4, hbl4⟩
          have HB4 := Lib.hid (HB3.out.grown hgr4 HB3.out.size (by intro j hj; cases hj; omega))
          have HG4 := Lib.hid ((hgr4.block w.heap.size (by omega) (by simp)).trans HG3.out); have HBl4 := Lib.hid hbl4
          clear hgr4 hbl4
          go_wp2
          go_roundw
          case rel => exact ⟨k + 1, by omega, by go_num, HBl4.out.congr (fun j _ => by
              have key : smv wt f (k + 1) j = smv wt f k j ^^^ (Gf.mul q (f k j) ^^^ Gf.mul rs (f k j)) := by rw [smv_s, HV.out, split_mul d1 (HFB.out j), HQ.out, HRR.out]
              rw [key, HQ1.out]
              simp [Gf.mul_one _ (HFB.out j), Gf.zero_mul, Nat.xor_assoc]), HG4.out, HB4.out⟩
          case measure => simp [intOf]; omega
    · obtain rfl : k = m := by omega
      have hsz := hB.size
      have HBl := Lib.hid hBl; have HB := Lib.hid hB
      clear hBl hg hB
      go_wp2
      go_ret
      exact ⟨w.heap.size + 1, rfl, Nat.le_succ _, HBl.out, HB.out⟩
end Go.Proofs.YtjnfghhochcpaaaGreat

namespace Go.Proofs.YtjnfghhochcpaaaGreat
open Go.RowKit Go.Shelf Go.Maps

set_option maxHeartbeats 2000000 in
set_option maxRecDepth 100000 in
theorem lsums_any (cb fb G0 : Nat) (b0 : Nat → Nat) (B G k : Nat) (bI : Nat → Nat) (M : Nat → Nat → Nat) (ha : Option Addr) (hn hc : Nat) (h : Nat → Int) (r : Nat → Option Addr) (l c : Nat → Nat) (f : Nat → Nat → Nat) (hk : k ≤ hn) (h0 : 0 < hn) (he : ∀ i, i < hn → l i = l 0) (hl : l 0 ≤ 1000000) (hhn : hn ≤ 1000000) (w : World) (hC : Cd w cb fb G0 255 2 b0) (hG : Gr w B G k k bI (fun _ => k) (fun _ => k) M) (hH : Hs w ha hn h r l c f) :
    Calls Tryz.prog 58 #[.agg #[.pointer (some ⟨cb, 0, none⟩)], .slice (some ⟨G, 0, none⟩) k k, .slice ha hn hc] w (SumsSays w k (l 0) (fun i => smv (M i) f k)) := by
  obtain ⟨wi, hwi⟩ : ∃ wi, l 0 = wi := ⟨_, rfl⟩
  have HWI := Lib.hid hwi; have HE0 := Lib.hid he; have HL0 := Lib.hid hl
  rw [hwi] at hl ⊢
  have hmk := hmkRows k (by omega)
  have hal : Below w.heap.size w (w.alloc (.cells #[.pointer (some ⟨cb, 0, none⟩)] 91)) := (Below.refl _ w).alloc (Nat.le_refl _) _
  obtain ⟨w1, hw1⟩ : ∃ w1, w1 = (w.alloc (.cells #[.pointer (some ⟨cb, 0, none⟩)] 91)).alloc (.cells (madeCells #[.slice none 0 0] k) 24) := ⟨_, rfl⟩
  have hB1 : Below w.heap.size w w1 := by rw [hw1]; exact ((Below.refl _ w).alloc (Nat.le_refl _) _).alloc (by simp) _
  have hg1 : w1.heap[w.heap.size]? = some (.cells #[.pointer (some ⟨cb, 0, none⟩)] 91 (0, 0)) := by rw [hw1]; exact heap_alloc2_old w _ _
  have hGr := gr_made (w.alloc (.cells #[.pointer (some ⟨cb, 0, none⟩)] 91)) w.heap.size k (fun _ => 0) (fun _ => wi) (fun _ => wi) (by omega) (by simp)
  rw [← hw1] at hGr
  have hGr1 : Gr w1 w.heap.size (w.heap.size + 1) 0 k (fun _ => 0) (fun _ => wi) (fun _ => wi) (fun _ _ => 0) := by simpa using hGr
  have HG0 := Lib.hid (hGr1.congr (smk_bm hG.bm hH.bm (fun _ => k) 0) (fun i j h => absurd h (Nat.not_lt_zero i)))
  have HB1 := Lib.hid hB1; have HG1 := Lib.hid hg1; have HW1 := Lib.hid hw1
  have HC := Lib.hid hC; have HG := Lib.hid hG; have HH := Lib.hid hH
  clear hw1 hB1 hg1 hGr hGr1 hC hG hH hal hwi he
  go_enter Tryz.func58, Tryz.ntmps58
  go_wp2_with fail
  rw [← HW1.out]
  go_loopw [15] (fun i wr => ∃ (t : Nat) (b : Nat → Nat), t ≤ k ∧ i = .int .i64 t ∧ Gr wr w.heap.size (w.heap.size + 1) t k b (fun _ => wi) (fun _ => wi) (smk M f (fun _ => k) t) ∧ wr.heap[w.heap.size]? = some (.cells #[.pointer (some ⟨cb, 0, none⟩)] 91 (0, 0)) ∧ Below w.heap.size w wr) (fun i _ => k - (intOf i).toNat)
  case atStart => exact ⟨0, _, by omega, rfl, HG0.out, HG1.out, HB1.out⟩
  case round =>
    rename_i wr
    clear hmk HG0 HB1 HG1 HW1
    obtain ⟨t, bb, ht, rfl, hGt, hg, hBe⟩ := hrel
    have HGT := Lib.hid hGt; have HBe := Lib.hid hBe; have HLG := Lib.hid hg
    clear hGt hBe hg
    by_cases htk : t < k
    · have i1 : (t : Int) < (k : Int) := by omega
      have hRk := HG.out.same HBe.out
      have hca := hRk.cell htk
      have hgl := cell_of_row wr w.heap.size 0 _ _ _ HLG.out
      have hc' := lsum_any cb fb G0 b0 (some ⟨bI t, 0, none⟩) k k (M t) ha hn hc h r l c f hk h0 HE0.out HL0.out hhn wr (HC.out.same HBe.out) (hRk.rd.row t htk) (HH.out.same HBe.out)
      rw [HWI.out] at hc'
      have HCC := Lib.hid hc'
      clear hc' hRk
      go_wp2_with fail
      refine HCC.out.mono ?_
      rintro e w2 ⟨g2, rfl, hg2, hb, hB2⟩
      have hG2 := HGT.out.same hB2
      obtain ⟨vs, k1, k2, k3⟩ := hG2.blk
      obtain ⟨v0, hcell⟩ : ∃ v, w2.cell? ⟨w.heap.size + 1, t, none⟩ = some v := by
        refine ⟨vs[t]'(by omega), ?_⟩
        rw [cell_of_row w2 _ t vs _ _ k1]
        simp [show t < vs.size by omega]
      have hfr := hG2.free t
      have hsz2 := HBe.out.size
      have hltb := Lib.hid (fun i hi => HGT.out.ltb (i := i) hi)
      have hlg := (Array.getElem?_eq_some_iff.1 HLG.out).1
      have HG2 := Lib.hid hG2; have HBL := Lib.hid hb; have HB2 := Lib.hid (HBe.out.trans (hB2.mono HBe.out.size)); have HLG2 := Lib.hid ((hB2.block _ hlg).trans HLG.out)
      clear hG2 hb hB2 k1 k2 k3 hgl
      go_wp2_with fail
      go_roundw
      case rel => exact ⟨t + 1, _, by omega, by go_num, HG2.out.pushU htk HBL.out (by unfold maxLen; omega) (by omega) (fun i hi e => by have := hltb.out i hi; omega) (smv_by (HG.out.bm t) HH.out.bm _) (smv_up fun p hp => by have := (HH.out.row p (by omega)).up; rw [HE0.out p (by omega), HWI.out] at this; exact this) (smk_bm HG.out.bm HH.out.bm (fun _ => k) (t + 1)) (fun i j hi => by
          unfold smk; rw [if_pos hi, if_pos (by omega)]) (fun j => by unfold smk; rw [if_pos (by omega)]), by rw [heap_setCell_other _ _ _ _ (by show w.heap.size ≠ w.heap.size + 1; omega)]; exact HLG2.out, HB2.out.setCell (p := ⟨w.heap.size + 1, t, none⟩) (Nat.le_succ _) _⟩
      case measure => simp [intOf]; omega
    · obtain rfl : t = k := by omega
      go_wp2
      go_ret
      exact ⟨w.heap.size + 1, bb, rfl, HGT.out.congr (fun i j => smv_by (HG.out.bm i) HH.out.bm _ j) (fun i j hi => by unfold smk; rw [if_pos hi]), HBe.out⟩

def CEvenSays (n : Nat) (l : Nat → Nat) (w : World) (e : Ending) (w' : World) : Prop := ∃ v : Bool, e = .returned (.bool v) ∧ (v = true ↔ ∀ i, i < n → l i = l 0) ∧ Below w.heap.size w w'
set_option maxHeartbeats 2000000 in
set_option maxRecDepth 100000 in
theorem ceven_any (ha : Option Addr) (n hc : Nat) (h : Nat → Int) (r : Nat → Option Addr) (l c : Nat → Nat) (f : Nat → Nat → Nat) (hn : n ≤ 1000000000000) (w : World) (hH : Hs w ha n h r l c f) :
    Calls Tryz.prog 57 #[.slice ha n hc] w (CEvenSays n l w) := by
  have HH := Lib.hid hH; clear hH
  go_enter Tryz.func57, Tryz.ntmps57
  go_wp2_with fail
  go_loopw [7] (fun i wr => ∃ k : Nat, k ≤ n ∧ i = .int .i64 k ∧ (∀ j, j < k → l j = l 0) ∧ Below w.heap.size w wr) (fun i _ => n - (intOf i).toNat)
  case atStart => exact ⟨0, by omega, rfl, fun j hj => absurd hj (Nat.not_lt_zero j), Below.refl _ _⟩
  case round =>
    rename_i wr
    obtain ⟨k, hk, rfl, hev, hB⟩ := hrel
    have HE := Lib.hid hev; have HB := Lib.hid hB
    clear hev hB
    by_cases hlt : k < n
    · have i1 : (k : Int) < (n : Int) := by omega
      obtain ⟨b, o, ea, q1, q2⟩ := (HH.out.same HB.out).cell k hlt
      obtain ⟨b', o', ea', q3, q4⟩ := (HH.out.same HB.out).cell 0 (by omega)
      have EA := Lib.hid (show ha = some ⟨b, o, none⟩ from ea)
      subst ea
      have e1 : b = b' := by injection ea' with e; injection e
      have e2 : o = o' := by injection ea' with e; injection e
      subst e1 e2
      have i3 : (0 : Int) < (n : Int) := by omega
      simp only [Nat.zero_mul, Nat.add_zero] at q3 q4
      have hsz := HB.out.size
      have hbl := World.block_lt_of_cell? _ _ q1
      have hbl : b < wr.heap.size := hbl
      have hal : Below wr.heap.size wr (wr.alloc (.cells #[.int .i64 (h k), .slice (r k) (l k) (c k)] 26)) := (Below.refl _ wr).alloc (Nat.le_refl _) _
      have HAL := Lib.hid (HB.out.trans (hal.mono hsz))
      clear ea' hal
      by_cases hel : l k = l 0
      · have g1 : (((l k : Nat) : Int) != ((l 0 : Nat) : Int)) = false := ne_no hel
        have HEE := Lib.hid hel; clear hel
        go_wp2_with fail
        go_quiet (fail)
        go_wp2
        go_roundw
        case rel => exact ⟨k + 1, by omega, by go_num, fun j hj => by
          by_cases e : j = k
          · rw [e]; exact HEE.out
          · exact HE.out j (by omega), below_dr HAL.out _⟩
        case measure => simp [intOf]; omega
      · have g1 : (((l k : Nat) : Int) != ((l 0 : Nat) : Int)) = true := ne_yes hel
        have HEE := Lib.hid (show ¬ ∀ i, i < n → l i = l 0 from fun h => hel (h k hlt)); clear hel
        go_wp2_with fail
        go_quiet (fail)
        go_wp2
        go_ret
        exact ⟨false, rfl, ⟨fun hh => absurd hh Bool.false_ne_true, fun hh => absurd hh HEE.out⟩, below_dr HAL.out _⟩
    · obtain rfl : k = n := by omega
      go_wp2
      go_ret
      exact ⟨true, rfl, ⟨fun _ => HE.out, fun _ => rfl⟩, HB.out⟩
end Go.Proofs.YtjnfghhochcpaaaGreat

namespace Go.Proofs.YtjnfghhochcpaaaGreat
open Go.RowKit Go.Shelf Go.Maps

section
variable {w w' : World} {s b room : Nat} {hi mi tp : Int} {L : List Lit} {T : Lit → Tv}
theorem Sh.notin (S : Sh w s b room hi mi tp L T) {i j : Nat} {v : Value} (h : w.cell? ⟨i, j, none⟩ = some v) (h1 : ∀ n, v ≠ .int .i64 n) (h2 : ∀ x, v ≠ .map x) : i ≠ s := fun e => by
  rw [e, cell_of_row w s j _ _ _ S.blk] at h
  rcases j with _ | _ | _ | _ | j
  · exact h1 _ (Option.some.inj h).symm
  · exact h2 _ (Option.some.inj h).symm
  · exact h1 _ (Option.some.inj h).symm
  · exact h1 _ (Option.some.inj h).symm
  · cases h
theorem But.cellv (h : But s b w w') (S : Sh w s b room hi mi tp L T) {i j : Nat} {v : Value} (hc : w.cell? ⟨i, j, none⟩ = some v) (h1 : ∀ n, v ≠ .int .i64 n) (h2 : ∀ x, v ≠ .map x) : w'.heap[i]? = w.heap[i]? := h.cell S hc (S.notin hc h1 h2)
theorem Sl.but {a : Option Addr} {l c : Nat} {f : Nat → Nat} (x : Sl w a l c f) (hB : But s b w w') (S : Sh w s b room hi mi tp L T) : Sl w' a l c f :=
  ⟨x.capOk, x.maxOk, x.bytes, x.up, x.nil, x.spot, fun ad e i hi => by
    have h := x.cell ad e i hi
    have hh := hB.cellv S h (fun n e => by cases e) (fun n e => by cases e)
    rw [← h]
    simp only [World.cell?, hh]⟩
theorem Hs.but {a : Option Addr} {m : Nat} {h : Nat → Int} {r : Nat → Option Addr} {l c : Nat → Nat} {f : Nat → Nat → Nat} (x : Hs w a m h r l c f) (hB : But s b w w') (S : Sh w s b room hi mi tp L T) : Hs w' a m h r l c f :=
  ⟨x.bm, fun i hi => by
    obtain ⟨g, o, e, h1, h2⟩ := x.cell i hi
    have hh := hB.cellv S h2 (fun n e => by cases e) (fun n e => by cases e)
    exact ⟨g, o, e, by rw [← h1]; simp only [World.cell?, hh], by rw [← h2]; simp only [World.cell?, hh]⟩, fun i hi => (x.row i hi).but hB S⟩
end
/-- what a cache's Decode answers. -/
def CDecSays (N room c0 cb s b : Nat) (hi mi : Int) (L : List Lit) (K : Int) (m : Nat) (h : Nat → Int) (l : Nat → Nat) (f : Nat → Nat → Nat) (w : World) (e : Ending) (w' : World) : Prop :=
  (∃ E : Int, E ≠ 0 ∧ e = .returned (.tuple #[.slice none 0 0, .int .i64 E]) ∧ ((¬ (∀ i, i < m → l i = l 0) ∧ E = 2) ∨ ((∀ i, i < m → l i = l 0) ∧ ((¬ (1 ≤ K ∧ K ≤ N) ∧ E = 2) ∨ (1 ≤ K ∧ K ≤ N ∧ Chk h m N K.toNat E)))) ∧ Below w.heap.size w w') ∨
  ((∀ i, i < m → l i = l 0) ∧ 1 ≤ K ∧ K ≤ N ∧ Chk h m N K.toNat 0 ∧ ∃ G bI T', e = .returned (.tuple #[.slice (some ⟨G, 0, none⟩) K.toNat K.toNat, .int .i64 0]) ∧ Gr w' w.heap.size G K.toNat K.toNat bI (fun _ => l 0) (fun _ => l 0) (dcd h K.toNat f) ∧
    Ca w' N room c0 cb s b (askH L (kk K.toNat h) hi) (askM L (kk K.toNat h) mi) (askL room L (kk K.toNat h)) T' ∧ But s b w w')

set_option maxHeartbeats 4000000 in
set_option maxRecDepth 100000 in
theorem cadecode_any (N room c0 cb s b : Nat) (hi mi : Int) (L : List Lit) (T : Lit → Tv) (K : Int) (a : Option Addr) (m cap : Nat) (h : Nat → Int) (r : Nat → Option Addr) (l c : Nat → Nat) (f : Nat → Nat → Nat) (hm : m ≤ 1000000) (hl : ∀ i, i < m → l i ≤ 1000000) (hbig : hi + mi ≤ 10000000000) (w : World) (hC : Ca w N room c0 cb s b hi mi L T) (hH : Hs w a m h r l c f) :
    Calls Tryz.prog 20 #[.pointer (some ⟨c0, 0, none⟩), .int .i64 K, .slice a m cap] w (CDecSays N room c0 cb s b hi mi L K m h l f w) := by
  have hmk := hmkI m (by omega)
  have HMK := Lib.hid hmk
  have HC := Lib.hid hC; have HH := Lib.hid hH; have HL := Lib.hid hl
  have hN2 := hC.nm.2
  clear hC hH hl hmk
  go_enter Tryz.func20, Tryz.ntmps20
  go_wp2_with fail
  refine (canone_any N room c0 cb s b hi mi L T _ HC.out).mono ?_
  rintro e w' ⟨rfl, hw'⟩
  rw [hw']; clear hw'
  go_wp2_with fail
  refine (ceven_any a m cap h r l c f (by omega) _ HH.out).mono ?_
  rintro e w0 ⟨v, rfl, hv, hB0⟩
  have HV := Lib.hid hv; have HB0 := Lib.hid hB0
  clear hv hB0
  cases v
  · go_wp2
    go_ret2
    exact Or.inl ⟨2, by omega, rfl, Or.inl ⟨fun hh => Bool.false_ne_true (HV.out.2 hh), rfl⟩, HB0.out⟩
  · have HEV := Lib.hid (HV.out.1 rfl)
    have hmk := HMK.out
    have hal : Below w0.heap.size w0 (w0.alloc (.cells (madeCells #[.int .i64 0] m) 3)) := (Below.refl _ w0).alloc (Nat.le_refl _) _
    have HBI := Lib.hid ((bi_made w0 m).congr (h' := fun i => if i < 0 then h i else 0) (fun i _ => rfl)); have HAL := Lib.hid hal
    clear hal
    go_wp2_with fail
    clear hmk
    go_loopw [23] (fun i wr => ∃ k : Nat, k ≤ m ∧ i = .int .i64 k ∧ Bi wr w0.heap.size m (fun i => if i < k then h i else 0) ∧ Below w0.heap.size w0 wr) (fun i _ => m - (intOf i).toNat)
    case atStart => exact ⟨0, by omega, rfl, HBI.out, HAL.out⟩
    case round =>
      clear HBI HAL
      obtain ⟨k, hk, rfl, hbi, hB⟩ := hrel
      have HBI := Lib.hid hbi; have HB := Lib.hid hB
      by_cases hlt : k < m
      · have i1 : (k : Int) < (m : Int) := by omega
        obtain ⟨ab, ao, ea, c1, c2⟩ := ((HH.out.same HB0.out).same hB).cell k hlt
        have hal : Below wr.heap.size wr (wr.alloc (.cells #[.int .i64 (h k), .slice (r k) (l k) (c k)] 26)) := (Below.refl _ wr).alloc (Nat.le_refl _) _
        have hbi2 : Bi (wr.alloc (.cells #[.int .i64 (h k), .slice (r k) (l k) (c k)] 26)) w0.heap.size m (fun i => if i < k then h i else 0) := hbi.kept (hal.block _ hbi.lt)
        have c3 := hbi2.cell hlt
        have f3 := hbi2.free k
        have HBI2 := Lib.hid hbi2
        have hsz := hB.size
        have HB2 := Lib.hid (hB.trans (hal.mono hsz))
        have EA := Lib.hid (show a = some ⟨ab, ao, none⟩ from ea)
        subst ea
        clear hbi hB hal hbi2
        go_wp2
        go_roundw
        case rel => exact ⟨k + 1, by omega, by go_num, (HBI2.out.set hlt (h k)).congr (fun i _ => by
          by_cases e : i = k
          · subst e; rw [if_pos rfl, if_pos (by omega)]
          · rw [if_neg e]
            by_cases e2 : i < k
            · rw [if_pos e2, if_pos (by omega)]
            · rw [if_neg e2, if_neg (by omega)]), HB2.out.setCell (p := ⟨w0.heap.size, k, none⟩) (Nat.le_refl _) _⟩
        case measure => simp [intOf]; omega
      · obtain rfl : k = m := by omega
        have HSI := Lib.hid ((hbi.congr (h' := h) (fun i hi => by rw [if_pos hi])).si)
        have hsz := HB0.out.size
        have hszr := hB.size
        have HBW := Lib.hid (HB0.out.trans (hB.mono hsz))
        have HCW := Lib.hid ((HC.out.same HB0.out).same hB)
        have HHW := Lib.hid ((HH.out.same HB0.out).same hB)
        clear hbi hB
        go_wp2_with fail
        refine (ask_any N room c0 cb s b hi mi L T K _ k k h (by omega) (Nat.le_refl _) (by unfold maxLen; omega) hbig wr HCW.out HSI.out).mono ?_
        rintro e w1 (⟨E, hE, rfl, hc, hB1⟩ | ⟨hK1, hK2, hc, G, bI, T', rfl, hG, hCa, hB1⟩)
        · have g1 : (E != 0) = true := by simp [hE]
          have HE := Lib.hid hE; have HCK := Lib.hid hc; have HB1 := Lib.hid (HBW.out.trans (hB1.mono (Nat.le_trans hsz hszr)))
          clear hE hc hB1
          go_wp2
          go_ret2
          exact Or.inl ⟨E, HE.out, rfl, Or.inr ⟨HEV.out, HCK.out⟩, HB1.out⟩
        · obtain ⟨kn, rfl⟩ : ∃ kn : Nat, K = (kn : Nat) := ⟨K.toNat, by omega⟩
          rw [Int.toNat_natCast] at hc hG hCa ⊢
          have hok := chk_ok hc
          have hKm := hok.2.2
          have hd1 := hCa.d1
          obtain ⟨fb2, G2, b2, hco⟩ := hCa.co
          have hH1 : Hs w1 a k h r l c f := HHW.out.but hB1 HCW.out.sh
          have HCK := Lib.hid hc; have HOK := Lib.hid hok; have HG := Lib.hid hG; have HCA := Lib.hid hCa; have HB1 := Lib.hid ((But.of HBW.out : But s b w wr).trans hB1); have HCO := Lib.hid hco; have HH1 := Lib.hid hH1
          have hkn1 : 1 ≤ kn := by omega
          have hsw := Nat.le_trans hsz hszr
          have hs1 := hB1.size
          clear hc hok hG hCa hB1 hco hH1
          go_wp2_with fail
          refine (lsums_any cb fb2 G2 b2 0 G kn bI (trn h kn) a k cap h r l c f hKm (by omega) HEV.out (HL.out 0 (by omega)) hm _ HCO.out HG.out HH1.out).mono ?_
          rintro e w2 ⟨G3, b3, rfl, hG3, hB2⟩
          have HG3 := Lib.hid (hG3.mono (show w.heap.size ≤ w1.heap.size by omega)); have HCA2 := Lib.hid (HCA.out.same hB2); have HB2 := Lib.hid (HB1.out.trans (But.of hB2))
          clear hG3 hB2 hd1
          go_wp2
          go_ret2
          refine Or.inr ⟨HEV.out, by omega, by omega, by rw [Int.toNat_natCast]; exact HCK.out, G3, b3, T', by rw [Int.toNat_natCast]; rfl, ?_, ?_, HB2.out⟩
          · rw [Int.toNat_natCast]
            exact HG3.out.congr (dcd_bm h (by omega) HH.out.bm) (fun i j hi => by
              unfold dcd
              rw [if_pos hi]
              show Pf.xsum (fun p => Gf.mul (trn h kn i p) (f p j)) kn = Pf.xsum (fun p => Gf.mul (Pf.lw (pts h) kn i p) (f p j)) kn
              refine Pf.xsum_congr kn fun p _ => ?_
              unfold trn
              rw [if_pos hi])
          · rw [Int.toNat_natCast]; exact HCA2.out
end Go.Proofs.YtjnfghhochcpaaaGreat

namespace Go.Proofs.YtjnfghhochcpaaaGreat
open Go.RowKit Go.Shelf Go.Maps

theorem kk_inj {K K' : Nat} {h h' : Nat → Int} (hK : K ≤ 255) (hK' : K' ≤ 255) (hh : ∀ i, i < K → 0 ≤ h i ∧ h i < 255) (hh' : ∀ i, i < K' → 0 ≤ h' i ∧ h' i < 255) (e : kk K h = kk K' h') : K = K' ∧ ∀ i, i < K → h i = h' i := by
  unfold kk at e
  obtain ⟨h1, h2⟩ := klOf_inj (ky_ok hK hh) (ky_ok hK' hh') e
  have h3 : K = K' := by omega
  refine ⟨h3, fun i hi => ?_⟩
  have := h2 i (by omega)
  unfold ky at this
  rw [if_pos hi, if_pos (by omega)] at this
  exact this
theorem kk_congr {K : Nat} {h h' : Nat → Int} (e : ∀ i, i < K → h i = h' i) : kk K h = kk K h' := by
  unfold kk klOf
  have : kc (K : Nat) (ky K h) = kc (K : Nat) (ky K h') := kc_congr fun i _ => by
    unfold ky
    by_cases c : i < K
    · rw [if_pos c, if_pos c, e i c]
    · rw [if_neg c, if_neg c]
  rw [this]
/-- a turn without an error. -/
def TurnOk (N room c0 cb s b : Nat) (hi mi : Int) (L : List Lit) (K : Nat) (h : Nat → Int) (w : World) (e : Ending) (w' : World) : Prop :=
  ∃ G bI c T', e = .returned (.tuple #[.slice (some ⟨G, 0, none⟩) K K, .int .i64 0]) ∧ Gr w' w.heap.size G K K bI (fun _ => K) c (trn h K) ∧ Ca w' N room c0 cb s b (askH L (kk K h) hi) (askM L (kk K h) mi) (askL room L (kk K h)) T' ∧ But s b w w'
theorem caturn_ok (N room c0 cb s b : Nat) (hi mi : Int) (L : List Lit) (T : Lit → Tv) (K : Nat) (a : Option Addr) (m cap : Nat) (h : Nat → Int) (hm : m ≤ 1000000000000) (hmc : m ≤ cap) (hcm : cap ≤ maxLen) (hbig : hi + mi ≤ 10000000000) (h1 : 1 ≤ K) (h2 : K ≤ N) (hc : Chk h m N K 0) (w : World) (hC : Ca w N room c0 cb s b hi mi L T) (hS : Si w a m h) :
    Calls Tryz.prog 16 #[.pointer (some ⟨c0, 0, none⟩), .int .i64 (K : Nat), .slice a m cap] w (TurnOk N room c0 cb s b hi mi L K h w) := by
  refine (caturn_any N room c0 cb s b hi mi L T (K : Nat) a m cap h hm hmc hcm hbig w hC hS).mono ?_
  rintro e w' (⟨E, hE, _, hc', _⟩ | ⟨_, _, _, G, bI, c, T', he, hG, hCa, hB⟩)
  · rcases hc' with ⟨h3, _⟩ | ⟨_, _, h3⟩
    · exact absurd ⟨by omega, by omega⟩ h3
    · rw [Int.toNat_natCast] at h3
      exact absurd (h3.uniq hc) hE
  · rw [Int.toNat_natCast] at he hG hCa
    exact ⟨G, bI, c, T', he, hG, hCa, hB⟩
theorem si_two (w : World) (x y : Int) : Si (w.alloc (.cells #[.int .i64 x, .int .i64 y] 3)) (some ⟨w.heap.size, 0, none⟩) 2 (fun i => if i = 0 then x else y) := ⟨fun i hi => ⟨w.heap.size, 0, rfl, by
  rw [Nat.zero_add, cell_of_row _ w.heap.size i _ _ _ (heap_alloc_new w _)]
  rcases i with _ | _ | i
  · rfl
  · rfl
  · omega⟩⟩
theorem chk_two {x y : Int} (hx : 0 ≤ x ∧ x < 4) (hy : 0 ≤ y ∧ y < 4) (hne : x ≠ y) : Chk (fun i => if i = 0 then x else y) 2 4 2 0 := Or.inr (Or.inr (Or.inr ⟨fun i hi => by
  show 0 ≤ (if i = 0 then x else y) ∧ (if i = 0 then x else y) < (4 : Nat)
  split <;> omega, fun i j hij hj => by
  show (if i = 0 then x else y) ≠ (if j = 0 then x else y)
  rw [if_pos (by omega), if_neg (by omega)]; exact hne, Nat.le_refl _, rfl⟩))
/-- the awake's keys. -/
noncomputable def ak (y : Int) : Lit := kk 2 (fun i => if i = 0 then 0 else y)
theorem ak_ne : ak 1 ≠ ak 2 := fun e => by
  have := (kk_inj (by omega) (by omega) (fun i _ => by split <;> omega) (fun i _ => by split <;> omega) e).2 1 (by omega)
  simp at this
theorem askL_no {room : Nat} {L : List Lit} {k : Lit} (h : k ∉ L) : askL room L k = dropL room L ++ [k] := by unfold askL; rw [if_neg h]
theorem askL_yes {room : Nat} {L : List Lit} {k : Lit} (h : k ∈ L) : askL room L k = out L k ++ [k] := by unfold askL; rw [if_pos h]
theorem askH_no {L : List Lit} {k : Lit} (h : k ∉ L) (hi : Int) : askH L k hi = hi := by unfold askH; rw [if_neg h]
theorem askH_yes {L : List Lit} {k : Lit} (h : k ∈ L) (hi : Int) : askH L k hi = hi + 1 := by unfold askH; rw [if_pos h]
theorem askM_no {L : List Lit} {k : Lit} (h : k ∉ L) (mi : Int) : askM L k mi = mi + 1 := by unfold askM; rw [if_neg h]
theorem askM_yes {L : List Lit} {k : Lit} (h : k ∈ L) (mi : Int) : askM L k mi = mi := by unfold askM; rw [if_pos h]

set_option maxHeartbeats 2000000 in
set_option maxRecDepth 100000 in
theorem awake6_any (w : World) : Calls Tryz.prog 11 #[] w fun e w' => e = .returned (.bool true) ∧ Below w.heap.size w w' := by
  go_enter Tryz.func11, Tryz.ntmps11
  go_wp2_with fail
  refine (canew_yes 4 1 (by omega) (by omega) (by omega) (by omega) _).mono ?_
  rintro e w1 ⟨c0, cb, s, b, rfl, hC1, hc0, hs, hb, hB1⟩
  have HC1 := Lib.hid hC1; have HB1 := Lib.hid hB1
  have hs1 := hs.1; have hb1 := hb.1
  clear hC1 hB1 hs hb hc0
  go_wp2_with fail
  have hal1 : Below w1.heap.size w1 (w1.alloc (.cells #[.int .i64 0, .int .i64 1] 3)) := (Below.refl _ w1).alloc (Nat.le_refl _) _
  refine (caturn_ok 4 1 c0 cb s b 0 0 [] _ 2 _ 2 2 _ (by omega) (Nat.le_refl _) (by unfold maxLen; omega) (by omega) (by omega) (by omega) (chk_two (x := 0) (y := 1) (by omega) (by omega) (by omega)) _ (HC1.out.same hal1) (si_two w1 0 1)).mono ?_
  rintro e w2 ⟨G2, bI2, cc2, T2, rfl, _, hC2, hB2⟩
  have hk1 : ak 1 ∉ ([] : List Lit) := List.not_mem_nil
  change Ca w2 4 1 c0 cb s b (askH [] (ak 1) 0) (askM [] (ak 1) 0) (askL 1 [] (ak 1)) T2 at hC2
  rw [askH_no hk1, askM_no hk1, askL_no hk1] at hC2
  have hd1 : dropL 1 [] ++ [ak 1] = [ak 1] := rfl
  rw [hd1] at hC2
  have HB2 := Lib.hid (HB1.out.trans ((hal1.mono HB1.out.size).trans (hB2.below (by simp; have := HB1.out.size; omega) hs1 hb1)))
  have HC2 := Lib.hid hC2
  clear hal1 hB2 hC2 hd1 hk1
  go_wp2_with fail
  have hal2 : Below w2.heap.size w2 (w2.alloc (.cells #[.int .i64 0, .int .i64 2] 3)) := (Below.refl _ w2).alloc (Nat.le_refl _) _
  refine (caturn_ok 4 1 c0 cb s b 0 (0 + 1) [ak 1] T2 2 _ 2 2 _ (by omega) (Nat.le_refl _) (by unfold maxLen; omega) (by omega) (by omega) (by omega) (chk_two (x := 0) (y := 2) (by omega) (by omega) (by omega)) _ (HC2.out.same hal2) (si_two w2 0 2)).mono ?_
  rintro e w3 ⟨G3, bI3, cc3, T3, rfl, _, hC3, hB3⟩
  have hk2 : ak 2 ∉ [ak 1] := fun hh => ak_ne (List.mem_singleton.1 hh).symm
  change Ca w3 4 1 c0 cb s b (askH [ak 1] (ak 2) 0) (askM [ak 1] (ak 2) (0 + 1)) (askL 1 [ak 1] (ak 2)) T3 at hC3
  rw [askH_no hk2, askM_no hk2, askL_no hk2] at hC3
  have hd2 : dropL 1 [ak 1] ++ [ak 2] = [ak 2] := rfl
  rw [hd2] at hC3
  have HB3 := Lib.hid (HB2.out.trans ((hal2.mono HB2.out.size).trans (hB3.below (by simp; have := HB2.out.size; omega) hs1 hb1)))
  have HC3 := Lib.hid hC3
  clear hal2 hB3 hC3 hd2 hk2
  go_wp2_with fail
  have hal3 : Below w3.heap.size w3 (w3.alloc (.cells #[.int .i64 0, .int .i64 1] 3)) := (Below.refl _ w3).alloc (Nat.le_refl _) _
  refine (caturn_ok 4 1 c0 cb s b 0 (0 + 1 + 1) [ak 2] T3 2 _ 2 2 _ (by omega) (Nat.le_refl _) (by unfold maxLen; omega) (by omega) (by omega) (by omega) (chk_two (x := 0) (y := 1) (by omega) (by omega) (by omega)) _ (HC3.out.same hal3) (si_two w3 0 1)).mono ?_
  rintro e w4 ⟨G4, bI4, cc4, T4, rfl, _, hC4, hB4⟩
  have hk3 : ak 1 ∉ [ak 2] := fun hh => ak_ne (List.mem_singleton.1 hh)
  change Ca w4 4 1 c0 cb s b (askH [ak 2] (ak 1) 0) (askM [ak 2] (ak 1) (0 + 1 + 1)) (askL 1 [ak 2] (ak 1)) T4 at hC4
  rw [askH_no hk3, askM_no hk3, askL_no hk3] at hC4
  have hd3 : dropL 1 [ak 2] ++ [ak 1] = [ak 1] := rfl
  rw [hd3] at hC4
  have HB4 := Lib.hid (HB3.out.trans ((hal3.mono HB3.out.size).trans (hB4.below (by simp; have := HB3.out.size; omega) hs1 hb1)))
  have HC4 := Lib.hid hC4
  clear hal3 hB4 hC4 hd3 hk3
  go_wp2_with fail
  have hal4 : Below w4.heap.size w4 (w4.alloc (.cells #[.int .i64 0, .int .i64 1] 3)) := (Below.refl _ w4).alloc (Nat.le_refl _) _
  refine (caturn_ok 4 1 c0 cb s b 0 (0 + 1 + 1 + 1) [ak 1] T4 2 _ 2 2 _ (by omega) (Nat.le_refl _) (by unfold maxLen; omega) (by omega) (by omega) (by omega) (chk_two (x := 0) (y := 1) (by omega) (by omega) (by omega)) _ (HC4.out.same hal4) (si_two w4 0 1)).mono ?_
  rintro e w5 ⟨G5, bI5, cc5, T5, rfl, _, hC5, hB5⟩
  have hk4 : ak 1 ∈ [ak 1] := List.mem_singleton.2 rfl
  change Ca w5 4 1 c0 cb s b (askH [ak 1] (ak 1) 0) (askM [ak 1] (ak 1) (0 + 1 + 1 + 1)) (askL 1 [ak 1] (ak 1)) T5 at hC5
  rw [askH_yes hk4, askM_yes hk4, askL_yes hk4] at hC5
  have hd4 : out [ak 1] (ak 1) ++ [ak 1] = [ak 1] := by simp [out]
  rw [hd4] at hC5
  have HB5 := Lib.hid (HB4.out.trans ((hal4.mono HB4.out.size).trans (hB5.below (by simp; have := HB4.out.size; omega) hs1 hb1)))
  have HC5 := Lib.hid hC5
  clear hal4 hB5 hC5 hd4 hk4
  go_wp2_with fail
  refine (castat_any 4 1 c0 cb s b (0 + 1) (0 + 1 + 1 + 1) [ak 1] T5 (by omega) _ HC5.out).mono ?_
  rintro e w6 ⟨rfl, hB6⟩
  have HB6 := Lib.hid (HB5.out.trans (hB6.mono HB5.out.size))
  clear hB6
  go_wp2
  go_ret
  exact ⟨rfl, HB6.out⟩
end Go.Proofs.YtjnfghhochcpaaaGreat

namespace Go.Proofs.YtjnfghhochcpaaaGreat
open Go.RowKit Go.Shelf Go.Maps

/-- what Pick picks. -/
def pkv (x n : Int) : Int := if x.tmod n < 0 then x.tmod n + n else x.tmod n
theorem pkv_bd (x : Int) {n : Int} (h : 1 ≤ n) : 0 ≤ pkv x n ∧ pkv x n < n := by
  have a1 := Int.tmod_lt_of_pos x (show (0 : Int) < n by omega)
  have a2 := Int.lt_tmod_of_pos x (show (0 : Int) < n by omega)
  unfold pkv; split <;> omega
set_option maxHeartbeats 1000000 in
theorem pickv_any (x n : Int) (h1 : 1 ≤ n) (h2 : n ≤ 1000) (w : World) :
    Calls Tryz.prog 15 #[.int .i64 x, .int .i64 n] w fun e w' => e = .returned (.int .i64 (pkv x n)) ∧ w' = w := by
  have a1 := Int.tmod_lt_of_pos x (show (0 : Int) < n by omega)
  have a2 := Int.lt_tmod_of_pos x (show (0 : Int) < n by omega)
  have g1 : ¬ n < 1 := by omega
  have g2 : ¬ n = 0 := by omega
  unfold pkv
  generalize hr : x.tmod n = r at *
  by_cases h : r < 0
  · rw [if_pos h]
    have HR := Lib.hid hr
    go_enter Tryz.func15, Tryz.ntmps15
    go_wp2
    go_ret
    exact ⟨rfl, rfl⟩
  · rw [if_neg h]
    have HR := Lib.hid hr
    go_enter Tryz.func15, Tryz.ntmps15
    go_wp2
    go_ret
    exact ⟨rfl, rfl⟩

/-- asks, as they read. -/
structure As (w : World) (a : Option Addr) (m : Nat) (wh kq lg : Nat → Int) (fs : Nat → Nat) (ia : Nat → Option Addr) (il ic : Nat → Nat) (hI : Nat → Nat → Int) : Prop where
  cell : ∀ i, i < m → ∃ b o, a = some ⟨b, o, none⟩ ∧ w.cell? ⟨b, o + i * 5, none⟩ = some (.int .i64 (wh i)) ∧ w.cell? ⟨b, o + i * 5 + 1, none⟩ = some (.int .i64 (kq i)) ∧ w.cell? ⟨b, o + i * 5 + 2, none⟩ = some (.int .i64 (lg i)) ∧ w.cell? ⟨b, o + i * 5 + 3, none⟩ = some (.int .u8 (fs i : Nat)) ∧ w.cell? ⟨b, o + i * 5 + 4, none⟩ = some (.slice (ia i) (il i) (ic i))
  ind : ∀ i, i < m → Si w (ia i) (il i) (hI i)
  ok : ∀ i, i < m → il i ≤ ic i ∧ ic i ≤ maxLen ∧ il i ≤ 140737488355328 ∧ fs i < 256
  nil : ∀ i, i < m → ia i = none → ic i = 0
section
variable {w w' : World} {a : Option Addr} {m : Nat} {wh kq lg : Nat → Int} {fs : Nat → Nat} {ia : Nat → Option Addr} {il ic : Nat → Nat} {hI : Nat → Nat → Int}
theorem As.same (s : As w a m wh kq lg fs ia il ic hI) (hB : Below w.heap.size w w') : As w' a m wh kq lg fs ia il ic hI :=
  ⟨fun i hi => by
    obtain ⟨b, o, e, h1, h2, h3, h4, h5⟩ := s.cell i hi
    exact ⟨b, o, e, by rw [hB.cell (World.block_lt_of_cell? _ _ h1)]; exact h1, by rw [hB.cell (World.block_lt_of_cell? _ _ h2)]; exact h2, by rw [hB.cell (World.block_lt_of_cell? _ _ h3)]; exact h3, by rw [hB.cell (World.block_lt_of_cell? _ _ h4)]; exact h4, by rw [hB.cell (World.block_lt_of_cell? _ _ h5)]; exact h5⟩, fun i hi => (s.ind i hi).same hB, s.ok, s.nil⟩
end

/-- whether more is asked than is gone through. -/
def GreatSays (n : Int) (m : Nat) (il : Nat → Nat) (w : World) (e : Ending) (w' : World) : Prop := ∃ v : Bool, e = .returned (.bool v) ∧ (v = false → n ≤ 12 ∧ m ≤ 300 ∧ ∀ i, i < m → il i ≤ 300) ∧ Below w.heap.size w w'
set_option maxHeartbeats 4000000 in
set_option maxRecDepth 100000 in
theorem great6_any (n : Int) (a : Option Addr) (m cap : Nat) (wh kq lg : Nat → Int) (fs : Nat → Nat) (ia : Nat → Option Addr) (il ic : Nat → Nat) (hI : Nat → Nat → Int) (hm : m ≤ 1000000000000000) (w : World) (hA : As w a m wh kq lg fs ia il ic hI) :
    Calls Tryz.prog 10 #[.int .i64 n, .slice a m cap] w (GreatSays n m il w) := by
  have HA := Lib.hid hA; clear hA
  go_enter Tryz.func10, Tryz.ntmps10
  go_wp2_with fail
  go_loopw [5, 6] (fun vm i wr => ∃ k M : Nat, k ≤ m ∧ i = .int .i64 k ∧ vm = .int .i64 M ∧ m ≤ M ∧ M ≤ 2000000000000000 ∧ (∀ j, j < k → il j ≤ M) ∧ Below w.heap.size w wr) (fun _ i _ => m - (intOf i).toNat)
  case atStart => exact ⟨0, m, by omega, rfl, rfl, Nat.le_refl _, by omega, fun j hj => absurd hj (Nat.not_lt_zero j), Below.refl _ _⟩
  case round =>
    rename_i wr
    obtain ⟨k, M, hk, rfl, rfl, hmM, hM, hil, hB⟩ := hrel
    have HIL := Lib.hid hil; have HB := Lib.hid hB
    clear hil hB
    by_cases hgo : k < m ∧ M ≤ 300
    · obtain ⟨hkm, hM3⟩ := hgo
      have i1 : (k : Int) < (m : Int) := by omega
      have i2 : (M : Int) ≤ 300 := by omega
      obtain ⟨b, o, ea, c0, c1, c2, c3, c4⟩ := (HA.out.same HB.out).cell k hkm
      have EA := Lib.hid (show a = some ⟨b, o, none⟩ from ea)
      have hok := (HA.out.ok k hkm).2.2.1
      have hpb := pkv_bd (lg k) (n := 6) (by omega)
      subst ea
      generalize hp : pkv (lg k) 6 = p at hpb
      obtain ⟨pn, rfl⟩ : ∃ pn : Nat, p = (pn : Nat) := ⟨p.toNat, by omega⟩
      have HP := Lib.hid hp
      generalize hl : il k = li at c4 hok
      have HLI := Lib.hid hl
      clear hp hl
      have hmul : ∃ q : Nat, (li : Int) * (1 + (pn : Int)) = (q : Nat) ∧ li ≤ q ∧ q ≤ 844424930131968 := ⟨li * (1 + pn), by push_cast; rfl, Nat.le_mul_of_pos_right _ (by omega), Nat.le_trans (Nat.mul_le_mul hok (show 1 + pn ≤ 6 by omega)) (by omega)⟩
      obtain ⟨q, hq, hq1, hq2⟩ := hmul
      have hw1 : IntKind.i64.wrap (1 + (pn : Int)) = 1 + (pn : Int) := IntWalk.i64_in _ (by omega)
      have hw2 : IntKind.i64.wrap ((li : Int) * (1 + (pn : Int))) = (q : Int) := by rw [hq]; exact IntWalk.i64_in _ (by omega)
      have hw3 : IntKind.i64.wrap ((M : Int) + (q : Int)) = (M : Int) + (q : Int) := IntWalk.i64_in _ (by omega)
      have HPK := Lib.hid (pickv_any (lg k) 6 (by omega) (by omega))
      rw [HP.out] at HPK
      clear hpb hq
      go_wp2_with fail
      go_quiet ((go_at_call 15; exact Calls.quiet_of_same (HPK.out _)))
      go_wp2
      go_roundw
      case rel => exact ⟨k + 1, M + q, by omega, by go_num, by go_num, by omega, by omega, fun j hj => by
        by_cases e : j = k
        · rw [e, HLI.out]; omega
        · have := HIL.out j (by omega); omega, below_dr HB.out _⟩
      case measure => simp [intOf]; omega
    · by_cases hbig : 300 < M
      · have i2 : ¬ (M : Int) ≤ 300 := by omega
        have i3 : (300 : Int) < (M : Int) := by omega
        clear hgo
        by_cases hkm : k < m
        · have i1 : (k : Int) < (m : Int) := by omega
          by_cases h12 : 12 < n
          · go_wp2
            go_ret
            exact ⟨true, rfl, fun hh => absurd hh.symm Bool.false_ne_true, HB.out⟩
          · go_wp2
            go_ret
            exact ⟨true, rfl, fun hh => absurd hh.symm Bool.false_ne_true, HB.out⟩
        · have i1 : ¬ (k : Int) < (m : Int) := by omega
          by_cases h12 : 12 < n
          · go_wp2
            go_ret
            exact ⟨true, rfl, fun hh => absurd hh.symm Bool.false_ne_true, HB.out⟩
          · go_wp2
            go_ret
            exact ⟨true, rfl, fun hh => absurd hh.symm Bool.false_ne_true, HB.out⟩
      · obtain rfl : k = m := by omega
        have i3 : ¬ (300 : Int) < (M : Int) := by omega
        clear hgo
        by_cases h12 : 12 < n
        · go_wp2
          go_ret
          exact ⟨true, rfl, fun hh => absurd hh.symm Bool.false_ne_true, HB.out⟩
        · go_wp2
          go_ret
          exact ⟨false, rfl, fun _ => ⟨by omega, by omega, fun i hi => by have := HIL.out i (by omega); omega⟩, HB.out⟩

/-- what held makes. -/
def hbf (fs : Nat) (p i j : Nat) : Nat := if j < p then (fs + (i * 7 + j) % 256) % 256 else 0
theorem hbf_bm (fs p : Nat) : Mt.Bm (hbf fs p) := fun i j => by unfold hbf; split <;> omega
theorem hbf_up (fs p i : Nat) : Pf.Up (hbf fs p i) p := fun j hj => by unfold hbf; rw [if_neg (by omega)]
theorem Tryz.infoHeldC : (Tryz.prog.info? 26).map (fun i => (i.zero, i.size, i.bytes)) = some (some (.agg #[.int .i64 0, .slice none 0 0]), 2, 32) := by kernel_rfl
theorem cell_pair (w : World) (u v : Value) (t : TypeId) : ∀ j x, [u, v][j]? = some x → (w.alloc (.cells #[u, v] t)).cell? ((⟨w.heap.size, 0, none⟩ : Addr).add j) = some x := by
  intro j x hx
  rw [Addr.add_lit, Nat.zero_add, cell_of_row _ w.heap.size j _ _ _ (heap_alloc_new w _)]
  simpa using hx
theorem bl_own {w w' : World} {B s n x l c : Nat} {e : TypeId} {v : Value} {xs : List Value} {f : Nat → Nat} (hb : Bl w x l c f) (ho : w.ownsRow B e s v n xs) (hg : w.grownBy w' v.ownBlock) (he : 5 ≠ e) : Bl w' x l c f := by
  obtain ⟨us, h1, _⟩ := id hb
  refine hb.kept (hg.block x hb.lt ?_)
  rcases ho.2 with ⟨q, _⟩ | ⟨g, c1, cur, q, _, hh, _⟩
  · rw [q]; simp [Value.ownBlock]
  · rw [q]
    simp only [Value.ownBlock, ne_eq, Option.some.injEq]
    rintro rfl
    rw [hh] at h1
    injection h1 with h1
    injection h1 with _ q3
    exact he q3.symm
theorem slice_own {w : World} {B s n : Nat} {e : TypeId} {v : Value} {xs : List Value} (h : w.ownsRow B e s v n xs) : ∃ a c, v = .slice a n c := by
  rcases h.2 with ⟨q, h0⟩ | ⟨g, c1, cur, q, _⟩
  · exact ⟨none, 0, by rw [q, h0]⟩
  · exact ⟨_, c1, q⟩
/-- symbols of an ask. -/
def HeldSays (w : World) (m p : Nat) (h : Nat → Int) (fs : Nat) (e : Ending) (w' : World) : Prop := ∃ a c r cc, e = .returned (.slice a m c) ∧ Hs w' a m h r (fun _ => p) cc (hbf fs p) ∧ Below w.heap.size w w'
def HeldRel (w : World) (ia : Option Addr) (il ic : Nat) (wh kq lg : Int) (fs p : Nat) (h : Nat → Int) (t : Nat) (o : Value) (wr : World) : Prop :=
  ∃ (a : Option Addr) (c : Nat) (b : Nat → Nat), o = .slice a t c ∧ wr.ownsRow (w.heap.size + 1) 26 2 (.slice a t c) t (hdv h (fun i => some ⟨b i, 0, none⟩) (fun _ => p) (fun _ => p) t) ∧ (∀ i, i < t → Bl wr (b i) p p (hbf fs p i)) ∧
    wr.heap[w.heap.size]? = some (.cells #[.int .i64 wh, .int .i64 kq, .int .i64 lg, .int .u8 (fs : Nat), .slice ia il ic] 41 (0, 0)) ∧ Below w.heap.size w wr
set_option maxHeartbeats 4000000 in
set_option maxRecDepth 100000 in
theorem held6_any (wh kq lg : Int) (fs : Nat) (ia : Option Addr) (il ic : Nat) (h : Nat → Int) (p : Nat) (hp : pkv lg 6 = (p : Nat)) (hp6 : p < 6) (hf : fs < 256) (hil : il ≤ 300) (w : World) (hS : Si w ia il h) :
    Calls Tryz.prog 21 #[.agg #[.int .i64 wh, .int .i64 kq, .int .i64 lg, .int .u8 (fs : Nat), .slice ia il ic]] w (HeldSays w il p h fs) := by
  obtain ⟨i0, hi, hz0, hz1, hz2⟩ := info_parts Tryz.infoHeldC
  have HI := Lib.hid hi; have HZ0 := Lib.hid hz0; have HZ1 := Lib.hid hz1; have HZ2 := Lib.hid hz2
  have HPK := Lib.hid (pickv_any lg 6 (by omega) (by omega))
  rw [hp] at HPK
  have hal : Below w.heap.size w (w.alloc (.cells #[.int .i64 wh, .int .i64 kq, .int .i64 lg, .int .u8 (fs : Nat), .slice ia il ic] 41)) := (Below.refl _ w).alloc (Nat.le_refl _) _
  have HAL := Lib.hid hal; have HS := Lib.hid hS
  have HMK := Lib.hid (hmk8 p (by omega))
  clear hi hz0 hz1 hz2 hp hal hS
  go_enter Tryz.func21, Tryz.ntmps21
  go_wp2_with fail
  go_loopw [3, 4] (fun o i wr => ∃ t : Nat, t ≤ il ∧ i = .int .i64 t ∧ HeldRel w ia il ic wh kq lg fs p h t o wr) (fun _ i _ => il - (intOf i).toNat)
  case atStart => exact ⟨0, by omega, rfl, none, 0, fun _ => 0, rfl, World.ownsRow_nil _ _ _ _, fun i hi => absurd hi (Nat.not_lt_zero i), heap_alloc_new _ _, HAL.out⟩
  case round =>
    rename_i wr
    clear HAL
    obtain ⟨t, ht, rfl, a, c, b, rfl, hO, hR, hK, hB⟩ := hrel
    have HO := Lib.hid hO; have HR := Lib.hid hR; have HK := Lib.hid hK; have HB := Lib.hid hB
    have k0 := cell_of_row wr w.heap.size 4 _ _ _ hK
    have k2 := cell_of_row wr w.heap.size 2 _ _ _ hK
    have hszr := hB.size
    have hltk := (Array.getElem?_eq_some_iff.1 hK).1
    clear hO hR hK hB
    by_cases hgo : t < il
    · have i1 : (t : Int) < (il : Int) := by omega
      have hmk := HMK.out
      go_wp2_with fail
      refine (HPK.out _).mono ?_
      rintro e w' ⟨rfl, hw'⟩
      rw [hw']; clear hw'
      have hbm := bl_made wr p
      have hal : Below wr.heap.size wr (wr.alloc (.cells (madeCells #[.int .u8 0] p) 5)) := (Below.refl _ wr).alloc (Nat.le_refl _) _
      have HBM := Lib.hid (hbm.congr (h' := fun j => if j < 0 then hbf fs p t j else 0) (fun j _ => rfl)); have HAL := Lib.hid hal
      clear hbm hal
      go_wp2_with fail
      clear hmk k0 k2
      obtain ⟨wo, rfl⟩ : ∃ wo, wo = wr := ⟨_, rfl⟩
      go_loopw [6] (fun i wi => ∃ k : Nat, k ≤ p ∧ i = .int .i64 k ∧ Bl wi wo.heap.size p p (fun j => if j < k then hbf fs p t j else 0) ∧ Below wo.heap.size wo wi) (fun i _ => p - (intOf i).toNat)
      case atStart => exact ⟨0, by omega, rfl, HBM.out, HAL.out⟩
      case round =>
        obtain ⟨wi, rfl⟩ : ∃ wi, wi = wr := ⟨_, rfl⟩
        clear HBM HAL
        obtain ⟨k, hk, rfl, hbl, hB2⟩ := hrel
        have HBL := Lib.hid hbl; have HB2 := Lib.hid hB2
        have HK2 := Lib.hid ((hB2.block _ hltk).trans HK.out)
        have k3 := cell_of_row wi w.heap.size 3 _ _ _ HK2.out
        have k4 := cell_of_row wi w.heap.size 4 _ _ _ HK2.out
        by_cases hkp : k < p
        · have j1 : (k : Int) < (p : Int) := by omega
          have c1 := hbl.cell hkp
          have f1 := hbl.free k
          have hm1 : IntKind.i64.wrap ((t : Int) * 7) = (t : Int) * 7 := IntWalk.i64_in _ (by omega)
          have hm2 : IntKind.i64.wrap ((t : Int) * 7 + (k : Int)) = (t : Int) * 7 + (k : Int) := IntWalk.i64_in _ (by omega)
          obtain ⟨q1, hq1⟩ : ∃ q1 : Nat, q1 = (t * 7 + k) % 256 := ⟨_, rfl⟩
          obtain ⟨q2, hq2⟩ : ∃ q2 : Nat, q2 = (fs + q1) % 256 := ⟨_, rfl⟩
          have hv1 : IntKind.u8.wrap ((t : Int) * 7 + (k : Int)) = (q1 : Int) := by rw [IntKind.wrap_u8, hq1]; omega
          have hv2 : IntKind.u8.wrap ((fs : Int) + (q1 : Int)) = (q2 : Int) := by rw [IntKind.wrap_u8, hq2]; omega
          have HQ := Lib.hid (show q2 = hbf fs p t k from by rw [hq2, hq1]; unfold hbf; rw [if_pos hkp])
          clear hbl hB2 hq1 hq2
          go_wp2_with fail
          go_roundw
          case rel => exact ⟨k + 1, by omega, by go_num, (HBL.out.set hkp q2).congr (fun j _ => by
            by_cases e : j = k
            · subst e; rw [if_pos rfl, if_pos (by omega)]; exact HQ.out
            · rw [if_neg e]
              by_cases e2 : j < k
              · rw [if_pos e2, if_pos (by omega)]
              · rw [if_neg e2, if_neg (by omega)]), HB2.out.setCell (p := ⟨wo.heap.size, k, none⟩) (Nat.le_refl _) _⟩
          case measure => simp [intOf]; omega
        · obtain rfl : k = p := by omega
          have hr2 : Bl wi wo.heap.size k k (hbf fs k t) := hbl.congr (fun j hj => by rw [if_pos hj])
          obtain ⟨ab, ao, ea, c5⟩ := ((HS.out.same HB.out).same hB2).cell t hgo
          have EA := Lib.hid (show ia = some ⟨ab, ao, none⟩ from ea)
          subst ea
          have hO2 := own_below HO.out hB2
          have hszi := hB2.size
          have halx : Below wi.heap.size wi (wi.alloc (.cells #[.int .i64 (h t), .slice (some ⟨wo.heap.size, 0, none⟩) k k] 26)) := (Below.refl _ wi).alloc (Nat.le_refl _) _
          have HOX := Lib.hid (own_below hO2 halx)
          have HRX := Lib.hid (fun i (hi : i < t) => (((HR.out i hi).below hB2 (HR.out i hi).lt).below halx ((HR.out i hi).below hB2 (HR.out i hi).lt).lt))
          have HR2 := Lib.hid (hr2.below halx hr2.lt)
          have HBX := Lib.hid ((HB.out.trans (hB2.mono hszr)).trans (halx.mono (Nat.le_trans hszr hszi)))
          have HKX := Lib.hid ((halx.block _ (Nat.lt_of_lt_of_le hltk hszi)).trans HK2.out)
          have hbase : w.heap.size + 1 ≤ (wi.alloc (.cells #[.int .i64 (h t), .slice (some ⟨wo.heap.size, 0, none⟩) k k] 26)).heap.size := by rw [World.size_alloc]; omega
          clear hbl hB2 hr2 hO2 halx k3
          go_wp2_with (at_builtin; refine wpList_append_own _ rfl _ _ 23 rfl (w.heap.size + 1) 26 i0 (.agg #[.int .i64 0, .slice none 0 0]) 2 32 Tryz.underlying23 HI.out HZ0.out HZ1.out HZ2.out rfl (by decide) _ t (hdv h (fun i => some ⟨b i, 0, none⟩) (fun _ => k) (fun _ => k) t) rfl HOX.out ⟨wi.heap.size, 0, none⟩ 1 1 [.int .i64 (h t), .slice (some ⟨wo.heap.size, 0, none⟩) k k] rfl rfl (cell_pair _ _ _ _) (pair_ones _ _ _ _) (by unfold maxLen; omega) (by omega) hbase ?_; intro v9 w9 hown9 hgrow9 _; have HG9 := Lib.hid hgrow9; have HO9 := Lib.hid hown9; clear hown9 hgrow9)
          obtain ⟨a9, c9, e9⟩ := slice_own HO9.out
          subst e9
          have hB9 : Below (w.heap.size + 1) _ w9 := (Below.refl (w.heap.size + 1) _).grown HG9.out hbase (fun j hj => (HOX.out.lt j hj).1)
          have HB9 := Lib.hid hB9
          clear hB9
          go_wp2
          go_roundw
          case rel =>
            refine ⟨t + 1, by omega, by go_num, a9, c9, fun i => if i = t then wo.heap.size else b i, rfl, ?_, fun i hi => ?_, ?_, HBX.out.trans (HB9.out.mono (Nat.le_succ _))⟩
            · rw [hdv_s, hdv_congr t (r' := fun i => some ⟨b i, 0, none⟩) (fun i hi => by simp only [if_neg (show ¬ i = t by omega)])]
              simp only [if_true]
              exact HO9.out
            · by_cases e : i = t
              · subst e
                simp only [if_true]
                exact bl_own HR2.out HOX.out HG9.out (by decide)
              · simp only [if_neg e]
                exact bl_own (HRX.out i (by omega)) HOX.out HG9.out (by decide)
            · exact (HB9.out.block _ (Nat.lt_succ_self _)).trans HKX.out
          case measure => simp [intOf]; omega
    · obtain rfl : t = il := by omega
      clear hgo
      go_wp2
      go_ret
      exact ⟨a, c, _, _, rfl, hdv_hs HO.out (hbf_bm fs p) (fun i hi => (HR.out i hi).sl (Nat.le_refl _) (by unfold maxLen; omega) (hbf_bm fs p i) (hbf_up fs p i)), HB.out⟩
end Go.Proofs.YtjnfghhochcpaaaGreat

namespace Go.Proofs.YtjnfghhochcpaaaGreat
open Go.RowKit Go.Shelf

/-- the document's cache: its cells. -/
def rcells (N room : Int) (a : Option Addr) (n c : Nat) (hi mi dr : Int) : Array Value := #[.int .i64 N, .int .i64 room, .slice a n c, .int .i64 hi, .int .i64 mi, .int .i64 dr]
def Rb6 (w : World) (x : Nat) (N room : Int) (a : Option Addr) (n c : Nat) (hi mi dr : Int) : Prop := w.heap[x]? = some (.cells (rcells N room a n c hi mi dr) 104 (0, 0))
section
variable {w w' : World} {x : Nat} {N room hi mi dr : Int} {a : Option Addr} {n c : Nat}
theorem Rb6.c0 (h : Rb6 w x N room a n c hi mi dr) : w.cell? ⟨x, 0, none⟩ = some (.int .i64 N) := by rw [cell_of_row w x 0 _ _ _ h]; rfl
theorem Rb6.c1 (h : Rb6 w x N room a n c hi mi dr) : w.cell? ⟨x, 1, none⟩ = some (.int .i64 room) := by rw [cell_of_row w x 1 _ _ _ h]; rfl
theorem Rb6.c2 (h : Rb6 w x N room a n c hi mi dr) : w.cell? ⟨x, 2, none⟩ = some (.slice a n c) := by rw [cell_of_row w x 2 _ _ _ h]; rfl
theorem Rb6.c3 (h : Rb6 w x N room a n c hi mi dr) : w.cell? ⟨x, 3, none⟩ = some (.int .i64 hi) := by rw [cell_of_row w x 3 _ _ _ h]; rfl
theorem Rb6.c4 (h : Rb6 w x N room a n c hi mi dr) : w.cell? ⟨x, 4, none⟩ = some (.int .i64 mi) := by rw [cell_of_row w x 4 _ _ _ h]; rfl
theorem Rb6.c5 (h : Rb6 w x N room a n c hi mi dr) : w.cell? ⟨x, 5, none⟩ = some (.int .i64 dr) := by rw [cell_of_row w x 5 _ _ _ h]; rfl
theorem Rb6.lt (h : Rb6 w x N room a n c hi mi dr) : x < w.heap.size := (Array.getElem?_eq_some_iff.1 h).1
theorem Rb6.same (h : Rb6 w x N room a n c hi mi dr) (hB : Below w.heap.size w w') : Rb6 w' x N room a n c hi mi dr := (hB.block x h.lt).trans h
end
/-- lists of numbers, as they read. -/
structure Ki (w : World) (a : Option Addr) (n : Nat) (r : Nat → Option Addr) (l c : Nat → Nat) (f : Nat → Nat → Int) : Prop where
  cell : ∀ i, i < n → ∃ b o, a = some ⟨b, o, none⟩ ∧ w.cell? ⟨b, o + i, none⟩ = some (.slice (r i) (l i) (c i))
  row : ∀ i, i < n → Si w (r i) (l i) (f i)
theorem Ki.same {w w' : World} {a : Option Addr} {n : Nat} {r : Nat → Option Addr} {l c : Nat → Nat} {f : Nat → Nat → Int} (h : Ki w a n r l c f) (hB : Below w.heap.size w w') : Ki w' a n r l c f :=
  ⟨fun i hi => by
    obtain ⟨b, o, e, hc⟩ := h.cell i hi
    exact ⟨b, o, e, by rw [hB.cell (World.block_lt_of_cell? _ _ hc)]; exact hc⟩, fun i hi => (h.row i hi).same hB⟩
/-- the same key. -/
def Eqk (m : Nat) (g : Nat → Int) (l : Nat) (f : Nat → Int) : Prop := l = m ∧ ∀ j, j < m → f j = g j
/-- where a key is kept. -/
def AtSays (n : Nat) (l : Nat → Nat) (f : Nat → Nat → Int) (m : Nat) (g : Nat → Int) (w : World) (e : Ending) (w' : World) : Prop :=
  ∃ v : Int, e = .returned (.int .i64 v) ∧ ((∃ t : Nat, t < n ∧ v = t ∧ Eqk m g (l t) (f t) ∧ ∀ j, j < t → ¬ Eqk m g (l j) (f j)) ∨ (v = -1 ∧ ∀ j, j < n → ¬ Eqk m g (l j) (f j))) ∧ ∃ q, w' = w.drewN q
set_option maxHeartbeats 4000000 in
set_option maxRecDepth 100000 in
theorem rat_any (x : Nat) (N room hi mi dr : Int) (a : Option Addr) (n c : Nat) (r : Nat → Option Addr) (l cc : Nat → Nat) (f : Nat → Nat → Int) (ka : Option Addr) (m kc : Nat) (g : Nat → Int) (hn : n ≤ 1000000) (hm : m ≤ 1000000) (hl : ∀ i, i < n → l i ≤ 1000000) (w : World) (hR : Rb6 w x N room a n c hi mi dr) (hK : Ki w a n r l cc f) (hS : Si w ka m g) :
    Calls Tryz.prog 61 #[.pointer (some ⟨x, 0, none⟩), .slice ka m kc] w (AtSays n l f m g w) := by
  have HK := Lib.hid hK; have HS := Lib.hid hS; have HL := Lib.hid hl
  have x2 := hR.c2
  clear hR hK hS hl
  go_enter Tryz.func61, Tryz.ntmps61
  go_wp2_with fail
  go_loopw [5] (fun vi wr => ∃ k q : Nat, k ≤ n ∧ vi = .int .i64 (k : Nat) ∧ (∀ j, j < k → ¬ Eqk m g (l j) (f j)) ∧ wr = w.drewN q) (fun i _ => n - (intOf i).toNat)
  case atStart => exact ⟨0, 0, by omega, rfl, fun j hj => absurd hj (Nat.not_lt_zero j), rfl⟩
  case round =>
    rename_i wr
    obtain ⟨k, q, hk, rfl, hno, hwr⟩ := hrel
    have HNO := Lib.hid hno
    have HWR := Lib.hid hwr
    have x2' : wr.cell? ⟨x, 2, none⟩ = some (.slice a n c) := by rw [hwr]; exact x2
    clear hno x2
    have x2 := x2'
    clear x2'
    by_cases hkn : k < n
    rotate_left
    · obtain rfl : k = n := by omega
      clear hwr
      go_wp2
      go_ret
      exact ⟨-1, rfl, Or.inr ⟨rfl, HNO.out⟩, q, HWR.out⟩
    have i1 : (k : Int) < (n : Int) := by omega
    obtain ⟨b, o, ea, hc⟩ := HK.out.cell k hkn
    have EA := Lib.hid (show a = some ⟨b, o, none⟩ from ea)
    have c0 : wr.cell? ⟨b, o + k, none⟩ = some (.slice (r k) (l k) (cc k)) := by rw [hwr]; exact hc
    have hrow := HK.out.row k hkn
    have hlk := HL.out k hkn
    clear hc
    subst ea
    generalize hrk : r k = rk at c0 hrow
    generalize hlk2 : l k = lk at c0 hrow hlk
    generalize cc k = ck at c0
    generalize hfk : f k = fk at hrow
    have HROW := Lib.hid hrow
    have HLK := Lib.hid hlk2; have HFK := Lib.hid hfk
    clear hrk hlk2 hfk hrow hwr
    go_wp2_with fail
    obtain ⟨wo, rfl⟩ : ∃ wo, wo = wr := ⟨_, rfl⟩
    go_loopw [6, 7] (fun vs vt wi => ∃ (t q2 : Nat) (bb : Bool), t ≤ m ∧ vs = .bool bb ∧ vt = .int .i64 (t : Nat) ∧ (bb = true ↔ lk = m ∧ ∀ j, j < t → fk j = g j) ∧ wi = wo.drewN q2) (fun _ i _ => m - (intOf i).toNat)
    case atStart => exact ⟨0, 0, _, by omega, rfl, rfl, by simp; omega, rfl⟩
    case round =>
      obtain ⟨wi, rfl⟩ : ∃ wi, wi = wr := ⟨_, rfl⟩
      obtain ⟨t, q2, bb, ht, rfl, rfl, hbb, hwi⟩ := hrel
      have HBB := Lib.hid hbb; have HWI := Lib.hid hwi
      have x2' : wi.cell? ⟨x, 2, none⟩ = some (.slice (some ⟨b, o, none⟩) n c) := by rw [hwi]; exact x2
      have c0' : wi.cell? ⟨b, o + k, none⟩ = some (.slice rk lk ck) := by rw [hwi]; exact c0
      clear x2 c0 hbb hwi
      by_cases htm : t < m ∧ bb = true
      · obtain ⟨htm, rfl⟩ := htm
        have j1 : (t : Int) < (m : Int) := by omega
        obtain ⟨hlm, hpre⟩ := HBB.out.1 rfl
        have j2 : (t : Int) < (lk : Int) := by omega
        obtain ⟨b2, o2, e2, hc2⟩ := HROW.out.cell t (by omega)
        obtain ⟨b3, o3, e3, hc3⟩ := HS.out.cell t htm
        have E2 := Lib.hid (show rk = some ⟨b2, o2, none⟩ from e2)
        have E3 := Lib.hid (show ka = some ⟨b3, o3, none⟩ from e3)
        have d2 : wi.cell? ⟨b2, o2 + t, none⟩ = some (.int .i64 (fk t)) := by rw [HWI.out, HWR.out]; exact hc2
        have d3 : wi.cell? ⟨b3, o3 + t, none⟩ = some (.int .i64 (g t)) := by rw [HWI.out, HWR.out]; exact hc3
        subst e2 e3
        have HPR := Lib.hid hpre; have HLM := Lib.hid hlm
        clear hc2 hc3 hpre hlm
        generalize hu : fk t = u at d2
        generalize hv : g t = v at d3
        have HU := Lib.hid hu; have HV := Lib.hid hv
        clear hu hv
        go_wp2_with fail
        go_region
        go_wp2
        go_roundw
        case rel => exact ⟨t + 1, q2 + 1, _, by omega, rfl, by go_num, by
          constructor
          · intro h9
            have h8 : u = v := by simpa using h9
            exact ⟨HLM.out, fun j hj => by
              by_cases e : j = t
              · rw [e, HU.out, HV.out]; exact h8
              · exact HPR.out j (by omega)⟩
          · rintro ⟨_, h8⟩
            have := h8 t (Nat.lt_succ_self t)
            rw [HU.out, HV.out] at this
            simpa using this, by rw [HWI.out]; rfl⟩
        case measure => simp [intOf]; omega
      · cases bb
        · by_cases htm2 : t < m
          · have j1 : (t : Int) < (m : Int) := by omega
            go_wp2
            go_roundw
            case rel => exact ⟨k + 1, q + q2, by omega, by go_num, fun j hj => by
              by_cases e : j = k
              · rw [e, HLK.out, HFK.out]; exact fun hh => Bool.false_ne_true (HBB.out.2 ⟨hh.1, fun i hi => hh.2 i (by omega)⟩)
              · exact HNO.out j (by omega), by rw [HWI.out, HWR.out, World.drewN_drewN]⟩
            case measure => simp [intOf]; omega
          · have j1 : ¬ (t : Int) < (m : Int) := by omega
            go_wp2
            go_roundw
            case rel => exact ⟨k + 1, q + q2, by omega, by go_num, fun j hj => by
              by_cases e : j = k
              · rw [e, HLK.out, HFK.out]; exact fun hh => Bool.false_ne_true (HBB.out.2 ⟨hh.1, fun i hi => hh.2 i (by omega)⟩)
              · exact HNO.out j (by omega), by rw [HWI.out, HWR.out, World.drewN_drewN]⟩
            case measure => simp [intOf]; omega
        · have htm2 : ¬ t < m := fun h9 => htm ⟨h9, rfl⟩
          have j1 : ¬ (t : Int) < (m : Int) := by omega
          obtain rfl : t = m := by omega
          go_wp2
          go_ret
          exact ⟨k, rfl, Or.inl ⟨k, hkn, rfl, by rw [HLK.out, HFK.out]; exact HBB.out.1 (by first | rfl | trivial), HNO.out⟩, q + q2, by rw [HWI.out, HWR.out, World.drewN_drewN]⟩
end Go.Proofs.YtjnfghhochcpaaaGreat

namespace Go.Proofs.YtjnfghhochcpaaaGreat
open Go.RowKit Go.Shelf

theorem Tryz.infoInt3 : (Tryz.prog.info? 3).map (fun i => (i.zero, i.size, i.bytes)) = some (some (.int .i64 0), 1, 8) := by kernel_rfl
/-- numbers, as cells. -/
def nums (g : Nat → Int) (n : Nat) : List Value := (List.range n).map fun i => .int .i64 (g i)
theorem nums_len (g : Nat → Int) (n : Nat) : (nums g n).length = n := by simp [nums]
theorem nums_get {g : Nat → Int} {n i : Nat} (h : i < n) : (nums g n)[i]? = some (.int .i64 (g i)) := by simp [nums, h]
theorem nums_one (g : Nat → Int) (n : Nat) : ∀ u ∈ nums g n, u.oneCell' = true := by
  intro u hu
  obtain ⟨i, _, rfl⟩ := List.mem_map.1 hu
  rfl
/-- a key's numbers. -/
def kf (K : Int) (h : Nat → Int) : Nat → Int
  | 0 => K
  | i + 1 => h i
theorem kf_nums (K : Int) (h : Nat → Int) (n : Nat) : [Value.int .i64 K] ++ nums h n = nums (kf K h) (n + 1) := by
  unfold nums
  rw [List.range_succ_eq_map]
  simp only [List.map_cons, List.map_map, List.singleton_append, kf]
  rfl
theorem si_own {w : World} {B n c : Nat} {a : Option Addr} {g : Nat → Int} (h : w.ownsRow B 3 1 (.slice a n c) n (nums g n)) : Si w a n g := ⟨fun i hi => by
  rcases h.2 with ⟨_, h0⟩ | ⟨b, c1, cur, hv, _⟩
  · omega
  · injection hv with e1 e2 e3
    subst e1
    exact ⟨b, 0, rfl, by rw [Nat.zero_add, h.cellAt i (by omega), nums_get hi]⟩⟩
/-- what key answers. -/
def RKeySays (K : Int) (m : Nat) (h : Nat → Int) (w : World) (e : Ending) (w' : World) : Prop :=
  (¬ (0 ≤ K ∧ K ≤ m) ∧ e = .returned (.slice none 0 0) ∧ Below w.heap.size w w') ∨
  (0 ≤ K ∧ K ≤ m ∧ ∃ a c, e = .returned (.slice a (K.toNat + 1) c) ∧ w'.ownsRow w.heap.size 3 1 (.slice a (K.toNat + 1) c) (K.toNat + 1) (nums (kf K h) (K.toNat + 1)) ∧ Below w.heap.size w w')
set_option maxHeartbeats 4000000 in
set_option maxRecDepth 100000 in
theorem rkey_any (K : Int) (a : Option Addr) (m cap : Nat) (h : Nat → Int) (hm : m ≤ 1000000000000) (hmc : m ≤ cap) (hcm : cap ≤ maxLen) (w : World) (hS : Si w a m h) :
    Calls Tryz.prog 55 #[.int .i64 K, .slice a m cap] w (RKeySays K m h w) := by
  obtain ⟨i0, hi, hz0, hz1, hz2⟩ := info_parts Tryz.infoInt3
  have HI := Lib.hid hi; have HZ0 := Lib.hid hz0; have HZ1 := Lib.hid hz1; have HZ2 := Lib.hid hz2
  have HS := Lib.hid hS
  clear hi hz0 hz1 hz2 hS
  by_cases h1 : K < 0
  · go_enter Tryz.func55, Tryz.ntmps55
    go_wp2
    go_ret
    exact Or.inl ⟨by omega, rfl, Below.refl _ _⟩
  by_cases h2 : (m : Int) < K
  · go_enter Tryz.func55, Tryz.ntmps55
    go_wp2
    go_ret
    exact Or.inl ⟨by omega, rfl, Below.refl _ _⟩
  obtain ⟨k, rfl⟩ : ∃ k : Nat, K = (k : Nat) := ⟨K.toNat, by omega⟩
  have hk : k ≤ m := by omega
  have g1 : (k : Int) ≤ (cap : Int) := by omega
  obtain ⟨wl, hwl⟩ : ∃ wl, wl = w.alloc (.cells #[.int .i64 (k : Nat)] 3) := ⟨_, rfl⟩
  have hal : Below w.heap.size w wl := by rw [hwl]; exact (Below.refl _ w).alloc (Nat.le_refl _) _
  have hO : wl.ownsRow w.heap.size 3 1 (.slice (some ⟨w.heap.size, 0, none⟩) 1 1) 1 [.int .i64 (k : Nat)] := by rw [hwl]; exact World.ownsRow_lit w #[.int .i64 (k : Nat)] 1 (Nat.le_refl _) (by unfold maxLen; omega) rfl
  have HO := Lib.hid hO; have HAL := Lib.hid hal; have HWL := Lib.hid hwl
  have hsz := hal.size
  clear hO hal hwl
  have done : ∀ (v : Value) (w9 : World), w9.ownsRow w.heap.size 3 1 v (1 + k) ([.int .i64 (k : Nat)] ++ nums h k) → wl.grownBy w9 (some w.heap.size) → RKeySays (k : Nat) m h w (.returned v) w9 := by
    intro v w9 ho hg
    obtain ⟨a9, c9, rfl⟩ := slice_own ho
    rw [kf_nums, Nat.add_comm] at ho
    refine Or.inr ⟨by omega, by omega, a9, c9, ?_, ?_, HAL.out.grown hg hsz (fun j hj => ?_)⟩
    · rw [Nat.add_comm, Int.toNat_natCast]
    · rw [Int.toNat_natCast]; exact ho
    · injection hj with hj; omega
  have HDN := Lib.hid done
  clear done
  cases a with
  | none =>
    obtain rfl : k = 0 := by
      rcases Nat.eq_zero_or_pos k with e | e
      · exact e
      · obtain ⟨b, o, e2, _⟩ := HS.out.cell 0 (by omega)
        cases e2
    go_enter Tryz.func55, Tryz.ntmps55
    go_wp2
    go_ret
    have ho := HO.out; have hb := HAL.out
    rw [HWL.out] at ho hb
    exact Or.inr ⟨by omega, by omega, _, _, rfl, ho, hb⟩
  | some ad =>
    have hcl : ∀ j u, (nums h k)[j]? = some u → wl.cell? (ad.add j) = some u := by
      intro j u hu
      have hj : j < k := by
        rcases Nat.lt_or_ge j k with hj | hj
        · exact hj
        · rw [List.getElem?_eq_none (by rw [nums_len]; exact hj)] at hu; cases hu
      rw [nums_get hj] at hu
      obtain ⟨b, o, e2, hc⟩ := (HS.out.same HAL.out).cell j (by omega)
      injection e2 with e2
      rw [e2, Addr.add_lit, hc]; exact hu
    have HCL := Lib.hid hcl
    clear hcl
    go_enter Tryz.func55, Tryz.ntmps55
    go_wp2_with (at_builtin; rw [← HWL.out]; refine wpList_append_own _ rfl _ _ 29 rfl w.heap.size 3 i0 (.int .i64 0) 1 8 Tryz.underlying29 HI.out HZ0.out HZ1.out HZ2.out rfl (by decide) _ 1 [.int .i64 (k : Nat)] rfl HO.out ad k cap (nums h k) rfl (by rw [nums_len, Nat.mul_one]) HCL.out (nums_one h k) (by unfold maxLen; omega) (by omega) (by omega) ?_; intro v9 w9 hown9 hgrow9 _; have HG9 := Lib.hid hgrow9; have HO9 := Lib.hid hown9; clear hown9 hgrow9)
    go_ret
    exact HDN.out _ _ HO9.out HG9.out
end Go.Proofs.YtjnfghhochcpaaaGreat

namespace Go.Proofs.YtjnfghhochcpaaaGreat
open Go.RowKit Go.Shelf


theorem drewb6 {w w' : World} (h : ∃ q, w' = w.drewN q) : Below w.heap.size w w' := by
  obtain ⟨q, rfl⟩ := h
  exact below_dr (Below.refl _ _) q
/-- a key that the document keeps: where it lies, what it says. -/
structure En where
  a : Option Addr
  c : Nat
  K : Nat
  h : Nat → Int
def En.z : En := ⟨none, 0, 0, fun _ => 0⟩
def En.v (e : En) : Value := .slice e.a (e.K + 1) e.c
noncomputable def En.lit (e : En) : Lit := kk e.K e.h
/-- the document's cache, as it lies. -/
structure Rf (w : World) (B x N room : Nat) (hi mi dr : Int) (a : Option Addr) (c : Nat) (E : List En) : Prop where
  blk : Rb6 w x (N : Nat) (room : Nat) a E.length c hi mi dr
  bx : B ≤ x
  own : w.ownsRow B 29 1 (.slice a E.length c) E.length (E.map En.v)
  key : ∀ e, e ∈ E → w.ownsRow B 3 1 e.v (e.K + 1) (nums (kf e.K e.h) (e.K + 1))
  ok : ∀ e, e ∈ E → 1 ≤ e.K ∧ e.K ≤ N ∧ ∀ i, i < e.K → 0 ≤ e.h i ∧ e.h i < N
  nm : 1 ≤ N ∧ N ≤ 255
  room : E.length ≤ room ∧ 1 ≤ room ∧ room ≤ 64
section
variable {w w' : World} {B x N room : Nat} {hi mi dr : Int} {a : Option Addr} {c : Nat} {E : List En}
theorem getD_mem {E : List En} {i : Nat} (h : i < E.length) : E.getD i En.z ∈ E := by
  rw [List.getD_eq_getElem?_getD, List.getElem?_eq_getElem h]
  exact List.getElem_mem h
theorem Rf.ki (x' : Rf w B x N room hi mi dr a c E) : Ki w a E.length (fun i => (E.getD i En.z).a) (fun i => (E.getD i En.z).K + 1) (fun i => (E.getD i En.z).c) (fun i => kf (E.getD i En.z).K (E.getD i En.z).h) := by
  refine ⟨fun i hi => ?_, fun i hi => si_own (x'.key _ (getD_mem hi))⟩
  have ho := x'.own
  rcases ho.2 with ⟨_, h0⟩ | ⟨b, c1, cur, hv, _⟩
  · omega
  · injection hv with e1 e2 e3
    subst e1
    refine ⟨b, 0, rfl, ?_⟩
    rw [Nat.zero_add, ho.cellAt i (by omega), List.getElem?_map, List.getElem?_eq_getElem hi, List.getD_eq_getElem?_getD, List.getElem?_eq_getElem hi]
    rfl
theorem Rf.same (x' : Rf w B x N room hi mi dr a c E) (hB : Below w.heap.size w w') : Rf w' B x N room hi mi dr a c E :=
  ⟨x'.blk.same hB, x'.bx, own_below x'.own hB, fun e he => own_below (x'.key e he) hB, x'.ok, x'.nm, x'.room⟩
end
theorem eqk_lit {e : En} {N K : Nat} {h : Nat → Int} (ho : 1 ≤ e.K ∧ e.K ≤ N ∧ ∀ i, i < e.K → 0 ≤ e.h i ∧ e.h i < N) (hN : N ≤ 255) : Eqk (K + 1) (kf (K : Nat) h) (e.K + 1) (kf e.K e.h) ↔ (∀ i, i < K → 0 ≤ h i ∧ h i < 255) ∧ K ≤ 255 ∧ e.lit = kk K h := by
  constructor
  · rintro ⟨h1, h2⟩
    have h3 : e.K = K := by omega
    have h4 : ∀ i, i < K → e.h i = h i := fun i hi => h2 (i + 1) (by omega)
    refine ⟨fun i hi => ?_, by omega, ?_⟩
    · rw [← h4 i hi]; have := ho.2.2 i (by omega); omega
    · unfold En.lit; rw [h3]; exact kk_congr h4
  · rintro ⟨h1, h2, h3⟩
    obtain ⟨h4, h5⟩ := kk_inj (by omega) h2 (fun i hi => by have := ho.2.2 i hi; omega) h1 h3
    refine ⟨by omega, fun j hj => ?_⟩
    cases j with
    | zero => show ((e.K : Nat) : Int) = (K : Nat); rw [h4]
    | succ j => exact h5 j (by omega)
/-- what the document's Has answers. -/
def RHasSays (E : List En) (K : Int) (m : Nat) (h : Nat → Int) (w : World) (e : Ending) (w' : World) : Prop := ∃ v : Bool, e = .returned (.bool v) ∧ (v = true ↔ GoodK K m h ∧ kk K.toNat h ∈ E.map En.lit) ∧ Below w.heap.size w w'
set_option maxHeartbeats 4000000 in
set_option maxRecDepth 100000 in
theorem rhas_any (B x N room : Nat) (hi mi dr : Int) (ra : Option Addr) (rc : Nat) (E : List En) (K : Int) (a : Option Addr) (m cap : Nat) (h : Nat → Int) (hm : m ≤ 900000) (hmc : m ≤ cap) (hcm : cap ≤ maxLen) (w : World) (hR : Rf w B x N room hi mi dr ra rc E) (hS : Si w a m h) :
    Calls Tryz.prog 25 #[.pointer (some ⟨x, 0, none⟩), .int .i64 K, .slice a m cap] w (RHasSays E K m h w) := by
  have HR := Lib.hid hR; have HS := Lib.hid hS
  clear hR hS
  go_enter Tryz.func25, Tryz.ntmps25
  go_wp2_with fail
  refine (rkey_any K a m cap h (by omega) hmc hcm _ HS.out).mono ?_
  rintro e w1 (⟨hno, rfl, hB1⟩ | ⟨h1, h2, ka, kc, rfl, hO, hB1⟩)
  · have HB1 := Lib.hid hB1; have HNO := Lib.hid hno
    clear hB1 hno
    go_wp2
    go_ret
    exact ⟨false, rfl, ⟨fun hh => absurd hh Bool.false_ne_true, fun hh => absurd hh.1 (fun hg => HNO.out ⟨by have := hg.1; omega, by have := hg.2.2.1; omega⟩)⟩, HB1.out⟩
  · obtain ⟨k, rfl⟩ : ∃ k : Nat, K = (k : Nat) := ⟨K.toNat, by omega⟩
    rw [Int.toNat_natCast] at hO ⊢
    have HB1 := Lib.hid hB1; have HO := Lib.hid hO
    clear hB1 hO
    go_wp2_with fail
    refine (rat_any x (N : Nat) (room : Nat) hi mi dr ra E.length rc _ _ _ _ ka (k + 1) kc (kf (k : Nat) h) (by have := HR.out.room; omega) (by omega) (fun i hi => by have := (HR.out.ok _ (getD_mem hi)).2.1; have := HR.out.nm; omega) _ (HR.out.same HB1.out).blk (HR.out.same HB1.out).ki (si_own HO.out)).mono ?_
    rintro e w2 ⟨v, rfl, hv, hq⟩
    have HB2 := Lib.hid (HB1.out.trans ((drewb6 hq).mono HB1.out.size))
    clear hq
    rcases hv with ⟨t, ht, rfl, he, _⟩ | ⟨rfl, hv⟩
    · have g1 : (0 : Int) ≤ (t : Int) := by omega
      have h9 := (eqk_lit (HR.out.ok _ (getD_mem ht)) HR.out.nm.2).1 he
      have H9 := Lib.hid h9
      have HM := Lib.hid (getD_mem ht)
      have hK1 := (HR.out.ok _ (getD_mem ht)).1
      have hK2 := he.1
      clear he h9
      go_wp2
      go_ret
      exact ⟨true, rfl, ⟨fun _ => ⟨⟨by omega, by have := H9.out.2.1; omega, by omega, fun i hi => by have := H9.out.1 i (by omega); omega⟩, by rw [Int.toNat_natCast]; exact List.mem_map.2 ⟨_, HM.out, H9.out.2.2⟩⟩, fun _ => rfl⟩, HB2.out⟩
    · have HV := Lib.hid hv
      clear hv
      go_wp2
      go_ret
      refine ⟨false, rfl, ⟨fun hh => absurd hh Bool.false_ne_true, fun hh => ?_⟩, HB2.out⟩
      obtain ⟨hg, hk⟩ := hh
      rw [Int.toNat_natCast] at hk
      obtain ⟨e, he, hl⟩ := List.mem_map.1 hk
      obtain ⟨i, hi', hei⟩ := List.mem_iff_getElem.1 he
      refine absurd ((eqk_lit (HR.out.ok _ (getD_mem hi')) HR.out.nm.2).2 ⟨fun i hi => ?_, ?_, ?_⟩) (HV.out i hi')
      · have := hg.2.2.2 i (by omega); omega
      · have := hg.2.1; omega
      · rw [List.getD_eq_getElem?_getD, List.getElem?_eq_getElem hi', Option.getD_some, hei]; exact hl
end Go.Proofs.YtjnfghhochcpaaaGreat
