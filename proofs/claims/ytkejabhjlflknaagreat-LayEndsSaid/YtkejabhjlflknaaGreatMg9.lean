import Derived.Test.YtkejabhjlflknaaGreatMg6
import Derived.Test.YtkejabhjlflknaaGreatMg8
namespace Go.Proofs.YtkejabhjlflknaaGreat
open Go.RowKit Go.Shelf

/-- a worker: its field, its points, their scales. -/
def Wl (W : World) (wb fb : Nat) (ap : Option Addr) (n cp : Nat) (aq : Option Addr) (m cs : Nat) : Prop := W.heap[wb]? = some (.cells #[.pointer (some ⟨fb, 0, none⟩), .slice ap n cp, .slice aq m cs] 154 (0, 0))
section
variable {W W' : World} {wb fb n cp m cs : Nat} {ap aq : Option Addr}
theorem Wl.lt (h : Wl W wb fb ap n cp aq m cs) : wb < W.heap.size := (Array.getElem?_eq_some_iff.1 h).1
theorem Wl.c0 (h : Wl W wb fb ap n cp aq m cs) : W.cell? ⟨wb, 0, none⟩ = some (.pointer (some ⟨fb, 0, none⟩)) := by rw [cell_of_row W wb 0 _ _ _ h]; rfl
theorem Wl.c1 (h : Wl W wb fb ap n cp aq m cs) : W.cell? ⟨wb, 1, none⟩ = some (.slice ap n cp) := by rw [cell_of_row W wb 1 _ _ _ h]; rfl
theorem Wl.c2 (h : Wl W wb fb ap n cp aq m cs) : W.cell? ⟨wb, 2, none⟩ = some (.slice aq m cs) := by rw [cell_of_row W wb 2 _ _ _ h]; rfl
theorem Wl.free (h : Wl W wb fb ap n cp aq m cs) (i : Nat) : W.frozen? ⟨wb, i, none⟩ = false := frozen_of_row W wb i _ _ h
theorem Wl.kept (h : Wl W wb fb ap n cp aq m cs) (hk : W'.heap[wb]? = W.heap[wb]?) : Wl W' wb fb ap n cp aq m cs := hk.trans h
theorem Wl.set1 (h : Wl W wb fb ap n cp aq m cs) (p : Option Addr) (k d : Nat) : Wl (W.setCell ⟨wb, 1, none⟩ (.slice p k d)) wb fb p k d aq m cs := heap_setCell_same W wb 1 _ _ (.slice p k d) h
theorem Wl.set2 (h : Wl W wb fb ap n cp aq m cs) (p : Option Addr) (k d : Nat) : Wl (W.setCell ⟨wb, 2, none⟩ (.slice p k d)) wb fb ap n cp p k d := heap_setCell_same W wb 2 _ _ (.slice p k d) h
end
/-- the worker: n points P, m scales S. -/
structure Stn (W : World) (wb fb : Nat) (ap : Option Addr) (n cp : Nat) (aq : Option Addr) (m cs : Nat) (P S : Nat → Nat) : Prop where
  wl : Wl W wb fb ap n cp aq m cs
  pr : Rq W (wb + 1) ap n cp P
  sr : Rq W (wb + 1) aq m cs S
  ne : ∀ g, ap = some ⟨g, 0, none⟩ → aq ≠ some ⟨g, 0, none⟩
  fi : IsField fb W
  fl : fb < wb
/-- points that come lie elsewhere. -/
def Far (wb : Nat) (ap aq a : Option Addr) (m : Nat) : Prop := ∀ ad, a = some ad → m ≠ 0 → ad.block ≠ wb ∧ ap ≠ some ⟨ad.block, 0, none⟩ ∧ aq ≠ some ⟨ad.block, 0, none⟩
section
variable {W W' : World} {wb fb n cp m cs : Nat} {ap aq : Option Addr} {P S : Nat → Nat}
theorem Stn.same (h : Stn W wb fb ap n cp aq m cs P S) (hB : Below W.heap.size W W') : Stn W' wb fb ap n cp aq m cs P S :=
  ⟨h.wl.kept (hB.block wb h.wl.lt), h.pr.same hB, h.sr.same hB, h.ne, h.fi.same hB, h.fl⟩
theorem Stn.drewN (h : Stn W wb fb ap n cp aq m cs P S) (q : Nat) : Stn (W.drewN q) wb fb ap n cp aq m cs P S := h.same (below_dr (Below.refl _ _) q)
theorem Stn.congr {P' S' : Nat → Nat} (h : Stn W wb fb ap n cp aq m cs P S) (hp : ∀ i, i < n → P i = P' i) (hs : ∀ i, i < m → S i = S' i) : Stn W wb fb ap n cp aq m cs P' S' :=
  ⟨h.wl, h.pr.congr hp, h.sr.congr hs, h.ne, h.fi, h.fl⟩
/-- a scale is written anew. -/
theorem Stn.set {g i : Nat} (h : Stn W wb fb ap n cp aq m cs P S) (e : aq = some ⟨g, 0, none⟩) (hi : i < m) (v : Nat) : Stn (W.setCell ⟨g, i, none⟩ (.int .u8 (v : Nat))) wb fb ap n cp aq m cs P (fun k => if k = i then v else S k) := by
  obtain ⟨g', e', hg, hb⟩ := h.sr.at_ hi
  rw [e] at e'
  obtain rfl : g = g' := by cases e'; rfl
  have hs := grownSet W g i (.int .u8 (v : Nat))
  refine ⟨h.wl.kept (hs.block wb h.wl.lt (by simp; omega)), h.pr.grown hs (fun k ek => by
    have := h.ne k ek
    intro hh
    cases hh
    exact this e), ?_, h.ne, h.fi.grown hs (by have := h.fl; simp; omega), h.fl⟩
  rcases h.sr with ⟨r, _⟩ | ⟨g2, e2, h1, h2, h3, h4⟩
  · rw [r] at e; cases e
  · rw [e] at e2
    obtain rfl : g = g2 := by cases e2; rfl
    exact Or.inr ⟨g, e, h1, h2.set hi v, h3, h4⟩
/-- a point more. -/
theorem Stn.app1 {g c v : Nat} (h : Stn W wb fb ap n cp aq m cs P S) (hv : v = P n) (ho : W'.ownsRow (wb + 1) 5 1 (.slice (some ⟨g, 0, none⟩) (n + 1) c) (n + 1) (rowv P n ++ [.int .u8 (v : Nat)])) (hc : ap = some ⟨g, 0, none⟩ ∧ c = cp ∧ W.grownBy W' (some g) ∨ W.heap.size ≤ g ∧ W.grownBy W' none) :
    Wl W' wb fb ap n cp aq m cs ∧ Stn (W'.setCell ⟨wb, 1, none⟩ (.slice (some ⟨g, 0, none⟩) (n + 1) c)) wb fb (some ⟨g, 0, none⟩) (n + 1) c aq m cs P S ∧ (∀ B, B ≤ wb → Below B W (W'.setCell ⟨wb, 1, none⟩ (.slice (some ⟨g, 0, none⟩) (n + 1) c))) := by
  rw [hv, ← rowv_succ] at ho
  have hwl := h.wl.lt
  have hfl := h.fl
  have hg : W.grownBy W' (some g) := by
    rcases hc with ⟨_, _, hg⟩ | ⟨_, hg⟩
    · exact hg
    · exact ⟨hg.os, hg.tape, hg.output, hg.size, fun k hk _ => hg.block k hk (by simp)⟩
  have hgb : wb + 1 ≤ g := (Rq.of_owns ho).lt g rfl |>.1
  have hne : aq ≠ some ⟨g, 0, none⟩ := by
    rcases hc with ⟨e, _⟩ | ⟨e, _⟩
    · exact h.ne g e
    · exact fun hh => by have := (h.sr.lt g hh).2; omega
  have hs := grownSet W' wb 1 (.slice (some ⟨g, 0, none⟩) (n + 1) c)
  have hw1 : Wl W' wb fb ap n cp aq m cs := h.wl.kept (hg.block wb hwl (by simp; omega))
  refine ⟨hw1, ⟨hw1.set1 _ _ _, (Rq.of_owns ho).grown hs (fun k e => by cases e; simp; omega), (h.sr.grown hg (fun k e hh => hne (by cases hh; exact e))).grown hs (fun k e => by have := (h.sr.lt k e).1; simp; omega), fun k e => by cases e; exact hne,
    (h.fi.grown hg (by simp; omega)).grown hs (by simp; omega), hfl⟩, fun B hB => ?_⟩
  exact ((Below.refl B W).grown hg (by omega) (fun k e => by cases e; omega)).setCell (p := ⟨wb, 1, none⟩) hB _
/-- a scale more. -/
theorem Stn.app2 {g c v : Nat} (h : Stn W wb fb ap n cp aq m cs P S) (hv : v = S m) (ho : W'.ownsRow (wb + 1) 5 1 (.slice (some ⟨g, 0, none⟩) (m + 1) c) (m + 1) (rowv S m ++ [.int .u8 (v : Nat)])) (hc : aq = some ⟨g, 0, none⟩ ∧ c = cs ∧ W.grownBy W' (some g) ∨ W.heap.size ≤ g ∧ W.grownBy W' none) :
    Wl W' wb fb ap n cp aq m cs ∧ Stn (W'.setCell ⟨wb, 2, none⟩ (.slice (some ⟨g, 0, none⟩) (m + 1) c)) wb fb ap n cp (some ⟨g, 0, none⟩) (m + 1) c P S ∧ (∀ B, B ≤ wb → Below B W (W'.setCell ⟨wb, 2, none⟩ (.slice (some ⟨g, 0, none⟩) (m + 1) c))) := by
  rw [hv, ← rowv_succ] at ho
  have hwl := h.wl.lt
  have hfl := h.fl
  have hg : W.grownBy W' (some g) := by
    rcases hc with ⟨_, _, hg⟩ | ⟨_, hg⟩
    · exact hg
    · exact ⟨hg.os, hg.tape, hg.output, hg.size, fun k hk _ => hg.block k hk (by simp)⟩
  have hgb : wb + 1 ≤ g := (Rq.of_owns ho).lt g rfl |>.1
  have hne : ap ≠ some ⟨g, 0, none⟩ := by
    rcases hc with ⟨e, _⟩ | ⟨e, _⟩
    · exact fun hh => h.ne g hh e
    · exact fun hh => by have := (h.pr.lt g hh).2; omega
  have hs := grownSet W' wb 2 (.slice (some ⟨g, 0, none⟩) (m + 1) c)
  have hw1 : Wl W' wb fb ap n cp aq m cs := h.wl.kept (hg.block wb hwl (by simp; omega))
  refine ⟨hw1, ⟨hw1.set2 _ _ _, (h.pr.grown hg (fun k e hh => hne (by cases hh; exact e))).grown hs (fun k e => by have := (h.pr.lt k e).1; simp; omega), (Rq.of_owns ho).grown hs (fun k e => by cases e; simp; omega), fun k e hh => by cases hh; exact hne e,
    (h.fi.grown hg (by simp; omega)).grown hs (by simp; omega), hfl⟩, fun B hB => ?_⟩
  exact ((Below.refl B W).grown hg (by omega) (fun k e => by cases e; omega)).setCell (p := ⟨wb, 2, none⟩) hB _
end
/-- what came is still there behind an append to a row of the worker's. -/
theorem Sl.app {W W' : World} {a : Option Addr} {k d cp : Nat} {f : Nat → Nat} (hS : Sl W a k d f) {ap : Option Addr} {g c wb o : Nat} {u : Value} (hc : ap = some ⟨g, 0, none⟩ ∧ c = cp ∧ W.grownBy W' (some g) ∨ W.heap.size ≤ g ∧ W.grownBy W' none)
    (hf : ∀ ad, a = some ad → k ≠ 0 → ad.block ≠ wb ∧ ap ≠ some ⟨ad.block, 0, none⟩) : Sl (W'.setCell ⟨wb, o, none⟩ u) a k d f ∧ ∀ ad, a = some ad → k ≠ 0 → ad.block ≠ g := by
  have hne : ∀ ad, a = some ad → k ≠ 0 → ad.block ≠ g := fun ad ha hk => by
    rcases hc with ⟨e, _⟩ | ⟨e, _⟩
    · intro hh; exact (hf ad ha hk).2 (by rw [e, hh])
    · have := hS.lt ad ha hk; omega
  have h1 : Sl W' a k d f := by
    rcases hc with ⟨_, _, hg⟩ | ⟨_, hg⟩
    · exact hS.grown hg (fun ad ha hk => by have := hne ad ha hk; simpa using this)
    · exact hS.grown hg (fun ad ha hk => by simp)
  exact ⟨h1.grown (grownSet W' wb o u) (fun ad ha hk => by have := (hf ad ha hk).1; simpa using this), hne⟩
end Go.Proofs.YtkejabhjlflknaaGreat

namespace Go.Proofs.YtkejabhjlflknaaGreat
open Go.RowKit Go.Shelf

/-- the scales as the k-th point is being made: j are done. -/
def sgk (P : Nat → Nat) (k j i : Nat) : Nat := if i < j then Pf.sg P i (k + 1) else Pf.sg P i k
theorem sgk_s (P : Nat → Nat) {k j : Nat} (hj : j < k) (i : Nat) : (if i = j then Gf.mul (sgk P k j j) (ivN (P k ^^^ P j)) else sgk P k j i) = sgk P k (j + 1) i := by
  unfold sgk
  by_cases e : i = j
  · subst e
    rw [if_pos rfl, if_neg (by omega), if_pos (by omega)]
    show _ = (if k = i then _ else Gf.mul (Pf.sg P i k) (ivN (P k ^^^ P i)))
    rw [if_neg (by omega)]
  · rw [if_neg e]
    by_cases h : i < j
    · rw [if_pos h, if_pos (by omega)]
    · rw [if_neg h, if_neg (by omega)]
theorem sgk_e (P : Nat → Nat) (k i : Nat) (hi : i < k + 1) : sgk P k k i = Pf.sg P i (k + 1) := by
  unfold sgk
  by_cases e : i < k
  · rw [if_pos e]
  · obtain rfl : i = k := by omega
    rw [if_neg e]
    show _ = (if i = i then Pf.sg P i i else _)
    rw [if_pos rfl]
theorem sg_k (P : Nat → Nat) {k j : Nat} (hj : j < k) : Gf.mul (Pf.sg P k j) (ivN (P k ^^^ P j)) = Pf.sg P k (j + 1) := by
  show _ = (if j = k then _ else Gf.mul (Pf.sg P k j) (ivN (P j ^^^ P k)))
  rw [if_neg (by omega), Nat.xor_comm]

/-- what stand answers. -/
def Stands (wb fb n : Nat) (P : Nat → Nat) (w : World) (e : Ending) (w' : World) : Prop :=
  ((Pf.Dst P n ∧ e = .returned (.int .i64 0) ∧ ∃ ap cp aq cs, Stn w' wb fb ap n cp aq n cs P (fun i => Pf.sg P i n)) ∨ ¬ Pf.Dst P n ∧ e = .returned (.int .i64 9)) ∧ Below wb w w'

set_option maxHeartbeats 4000000 in
set_option maxRecDepth 100000 in
theorem stand_any (wb fb n m cap : Nat) (a ap aq : Option Addr) (cp cs : Nat) (f P : Nat → Nat) (w : World) (hA : Stn w wb fb ap n cp aq n cs P (fun i => Pf.sg P i n)) (hS : Sl w a m cap f) (hf : Far wb ap aq a m) (he : ∀ i, i < m → f i = P (n + i)) (hP : Pf.By P) (hd : Pf.Dst P n) (hm : n + m ≤ 1000000) :
    Calls Tryz.prog 97 #[.pointer (some ⟨wb, 0, none⟩), .slice a m cap] w (Stands wb fb (n + m) P w) := by
  obtain ⟨i0, hi, hz0, hz1, hz2⟩ := info_parts Tryz.infoU8
  have HI := Lib.hid hi; have HZ0 := Lib.hid hz0; have HZ1 := Lib.hid hz1; have HZ2 := Lib.hid hz2
  have HA := Lib.hid hA; have HS := Lib.hid hS; have HFA := Lib.hid hf; have HE := Lib.hid he; have HD := Lib.hid hd; have HP := Lib.hid hP
  have hbw : wb ≤ w.heap.size := Nat.le_of_lt hA.wl.lt
  clear hi hz0 hz1 hz2 hA hS hf he hd hP
  go_enter Tryz.func97, Tryz.ntmps97
  go_wp2_with fail
  go_loopw [14] (fun i wr => ∃ (k : Nat) (ap : Option Addr) (cp : Nat) (aq : Option Addr) (cs : Nat), k ≤ m ∧ i = .int .i64 k ∧ Stn wr wb fb ap (n + k) cp aq (n + k) cs P (fun i => Pf.sg P i (n + k)) ∧ Far wb ap aq a m ∧ Pf.Dst P (n + k) ∧ Sl wr a m cap f ∧ Below wb w wr) (fun i _ => m - (intOf i).toNat)
  case atStart => exact ⟨0, ap, cp, aq, cs, by omega, rfl, HA.out, HFA.out, HD.out, HS.out, Below.refl _ _⟩
  case round =>
    clear HA HFA HD HS
    obtain ⟨k, ap, cp, aq, cs, hk, rfl, hA, hf, hd, hS, hB⟩ := hrel
    obtain ⟨wo, rfl⟩ : ∃ wo : World, wo = wr := ⟨_, rfl⟩
    by_cases hlt : k < m
    · obtain ⟨ab, ao, ea, hca⟩ := hS.at_ hlt
      have hff := HE.out k hlt
      have HA := Lib.hid hA; have HFA := Lib.hid hf; have HD := Lib.hid hd; have HS := Lib.hid hS; have HB := Lib.hid hB
      have EA := Lib.hid (show a = some ⟨ab, ao, none⟩ from ea)
      have c1 := hA.wl.c1
      have i1 : (k : Int) < (m : Int) := by omega
      rw [hff] at hca
      have d0 := HP.out (n + k)
      have hsz : wb ≤ wo.heap.size := Nat.le_of_lt hA.wl.lt
      subst ea
      clear hA hf hd hS hB hff
      go_wp2_with fail
      clear hca c1
      go_loopw [7, 23] (fun sc i wr => ∃ j : Nat, j ≤ n + k ∧ i = .int .i64 j ∧ sc = .int .u8 (Pf.sg P (n + k) j : Nat) ∧ (∀ i, i < j → P i ≠ P (n + k)) ∧ Stn wr wb fb ap (n + k) cp aq (n + k) cs P (sgk P (n + k) j) ∧ Sl wr (some ⟨ab, ao, none⟩) m cap f ∧ Below wb w wr) (fun _ i _ => n + k - (intOf i).toNat)
      case atStart => exact ⟨0, by omega, rfl, rfl, fun i h => by omega, HA.out.congr (fun _ _ => rfl) (fun i _ => by unfold sgk; rw [if_neg (by omega)]), HS.out, HB.out⟩
      case round =>
        obtain ⟨j, hj, rfl, rfl, hne, hA, hS, hB⟩ := hrel
        by_cases hjk : j < n + k
        · obtain ⟨gp, ep, hgp, hbp⟩ := hA.pr.at_ hjk
          obtain ⟨gq, eq, hgq, hbq⟩ := hA.sr.at_ hjk
          have cp1 := hbp.cell hjk
          have cq1 := hbq.cell hjk
          have fq1 := hbq.free j
          have z0 := hA.wl.c0; have z2 := hA.wl.c2
          have FI := Lib.hid hA.fi
          have HA1 := Lib.hid hA; have HS1 := Lib.hid hS; have HB1 := Lib.hid hB; have HNE := Lib.hid hne
          have EP := Lib.hid (show ap = some ⟨gp, 0, none⟩ from ep)
          have EQ := Lib.hid (show aq = some ⟨gq, 0, none⟩ from eq)
          have hgw : wb ≤ gq := by omega
          subst ep
          rw [eq] at z2
          clear hA hS hB hne hbp hbq eq
          have d1 := HP.out j
          have d2 := Gf.xor_lt d0 d1
          have d3 : sgk P (n + k) j j < 256 := by unfold sgk; split <;> exact Pf.sg_lt _ _
          have d4 := Pf.sg_lt (P := P) (n + k) j
          have d5 := ivN_lt (P (n + k) ^^^ P j)
          have i2 : (j : Int) < (n : Int) + (k : Int) := by omega
          have HSK := Lib.hid (fun i => sgk_s P hjk i)
          have HSG := Lib.hid (sg_k P hjk)
          by_cases hz : P (n + k) ^^^ P j = 0
          · have g1 : ((zeroErr ((P (n + k) ^^^ P j : Nat) : Int)) != 0) = true := by unfold zeroErr; rw [if_pos (by omega)]; rfl
            have HZ := Lib.hid hz; clear hz
            go_wp2_with fail
            go_quiet ((first | (go_at_call 120; exact Calls.quiet_of_same (add_nat (P (n + k)) (P j) d0 d1 _)) | (go_at_call 119; exact Calls.quiet_of (inv_nat fb (P (n + k) ^^^ P j) d2 _ (FI.out.drewN _)))))
            go_wp2
            go_ret
            exact ⟨Or.inr ⟨fun hh => hh j (n + k) hjk (by omega) (Pf.xor_cancel (by rw [Nat.xor_comm]; exact HZ.out)), rfl⟩, below_drewN HB1.out _⟩
          · have g1 : ((zeroErr ((P (n + k) ^^^ P j : Nat) : Int)) != 0) = false := by unfold zeroErr; rw [if_neg (by omega)]; rfl
            have HZ := Lib.hid hz; clear hz
            go_wp2_with fail
            go_quiet ((first | (go_at_call 120; exact Calls.quiet_of_same (add_nat (P (n + k)) (P j) d0 d1 _)) | (go_at_call 119; exact Calls.quiet_of (inv_nat fb (P (n + k) ^^^ P j) d2 _ (FI.out.drewN _)))))
            have hA2 := HA1.out.drewN nq; have hS2 := HS1.out.drewN nq; have hB2 := below_drewN HB1.out nq
            clear cp1 cq1 fq1 z0 z2 FI HA1 HS1 HB1
            generalize wr.drewN nq = w1 at hA2 hS2 hB2 ⊢
            obtain ⟨gq', eq', hgq', hbq⟩ := hA2.sr.at_ hjk
            obtain rfl : gq = gq' := by rw [EQ.out] at eq'; cases eq'; rfl
            have cq1 := hbq.cell hjk
            have fq1 := hbq.free j
            have z0 := hA2.wl.c0; have z2 := hA2.wl.c2
            rw [EQ.out] at z2
            have FI := Lib.hid hA2.fi
            have HA2 := Lib.hid hA2; have HS2 := Lib.hid hS2; have HB2 := Lib.hid hB2
            clear hA2 hS2 hB2 hbq eq'
            go_wp2_with fail
            refine Rb.wp_region_quiet_tail 19 (by kernel_rfl) (by kernel_rfl) ?_
            simp only [List.take_succ_cons, List.take_zero, List.drop_succ_cons, List.drop_zero]
            repeat (go_big_quiet_step ((go_at_call 121; exact Calls.quiet_of (mul_nat fb (sgk P (n + k) j j) (ivN (P (n + k) ^^^ P j)) d3 d5 _ (FI.out.drewN _)))))
            refine wpQuiet_nil ?_
            rintro _ ⟨k2, rfl⟩
            have hA3 := ((HA2.out.drewN k2).set EQ.out hjk (Gf.mul (sgk P (n + k) j j) (ivN (P (n + k) ^^^ P j)))).congr (fun _ _ => rfl) (S' := sgk P (n + k) (j + 1)) (fun i _ => HSK.out i)
            have hS3 := (HS2.out.drewN k2).grown (grownSet (w1.drewN k2) gq j (.int .u8 ((Gf.mul (sgk P (n + k) j j) (ivN (P (n + k) ^^^ P j)) : Nat) : Int))) (fun ad ha hm => by
              have := (HFA.out ad ha hm).2.2
              simp only [ne_eq, Option.some.injEq]
              intro hh; exact this (by rw [EQ.out, hh]))
            have hB3 := (below_drewN HB2.out k2).setCell (p := ⟨gq, j, none⟩) hgw (.int .u8 ((Gf.mul (sgk P (n + k) j j) (ivN (P (n + k) ^^^ P j)) : Nat) : Int))
            have y0 := hA3.wl.c0
            have FI3 := Lib.hid hA3.fi
            have HA3 := Lib.hid hA3; have HS3 := Lib.hid hS3; have HB3 := Lib.hid hB3
            clear hA3 hS3 hB3
            go_wp2_with fail
            refine (mul_nat fb (Pf.sg P (n + k) j) (ivN (P (n + k) ^^^ P j)) d4 d5 _ FI3.out).mono ?_
            rintro e w2 ⟨rfl, q, rfl⟩
            go_wp2
            go_roundw
            case rel => exact ⟨j + 1, by omega, by go_num, by rw [HSG.out], fun i hi => by
              by_cases e : i = j
              · rw [e]; exact fun h => HZ.out (by rw [h, Nat.xor_self])
              · exact HNE.out i (by omega), HA3.out.drewN q, HS3.out.drewN q, below_drewN HB3.out q⟩
            case measure => simp [intOf]; omega
        · obtain rfl : j = n + k := by omega
          have hA := hA.congr (P' := P) (S' := fun i => Pf.sg P i (n + k + 1)) (fun _ _ => rfl) (fun i hi => sgk_e P (n + k) i (by omega))
          have c1 := hA.wl.c1
          have HA := Lib.hid hA; have HS := Lib.hid hS; have HB := Lib.hid hB; have HNE := Lib.hid hne
          have hwl := hA.wl.lt
          clear hA hS hB hne
          go_upto_region 15 with (at_builtin; refine wpList_append_bag _ rfl _ _ 50 rfl (wb + 1) 5 i0 (.int .u8 0) 1 Tryz.underlying50 HI.out HZ0.out HZ1.out HZ2.out rfl ap (n + k) cp (rowv P (n + k)) rfl (HA.out.pr.same ((Below.refl _ wr).alloc (Nat.le_refl _) (.cells #[.int .u8 (P (n + k) : Nat)] 5))).owns _ 1 1 [.int .u8 (P (n + k) : Nat)] rfl rfl (cell_new1 _ _ _) (one_single _ _) (by decide) (by unfold maxLen; omega) (by omega) (by simp; omega) ?_; intro g6 c6 w6 hown6 hc6 hlt6; have hx6 := Stn.app1 (HA.out.same ((Below.refl _ wr).alloc (Nat.le_refl _) (.cells #[.int .u8 (P (n + k) : Nat)] 5))) rfl hown6 hc6; have c61 := hx6.1.c1; have f61 := hx6.1.free 1; have HX6 := Lib.hid hx6; have HOWN6 := Lib.hid hown6; have HC6 := Lib.hid hc6; clear hx6 hown6 hc6 hlt6)
          have hA7 := HX6.out.2.1
          have hB7 := HB.out.trans (((Below.refl wb wr).alloc (by omega) (.cells #[.int .u8 (P (n + k) : Nat)] 5)).trans (HX6.out.2.2 wb (Nat.le_refl _)))
          have hSa := Sl.app (wb := wb) (o := 1) (u := .slice (some ⟨g6, 0, none⟩) (n + k + 1) c6) (HS.out.same ((Below.refl _ wr).alloc (Nat.le_refl _) (.cells #[.int .u8 (P (n + k) : Nat)] 5))) HC6.out (fun ad ha hm => ⟨(HFA.out ad ha hm).1, (HFA.out ad ha hm).2.1⟩)
          have hF7 : Far wb (some ⟨g6, 0, none⟩) aq (some ⟨ab, ao, none⟩) m := fun ad ha hm => ⟨(HFA.out ad ha hm).1, fun hh => hSa.2 ad ha hm (by cases hh; rfl), (HFA.out ad ha hm).2.2⟩
          have hS7 := hSa.1
          clear hSa c61 f61 HX6 HOWN6 HC6 HA HS HB c1
          generalize w6.setCell ⟨wb, 1, none⟩ (.slice (some ⟨g6, 0, none⟩) (n + k + 1) c6) = w7 at *
          have hwl7 := hA7.wl.lt
          have c2 := hA7.wl.c2
          have HA := Lib.hid hA7; have HS := Lib.hid hS7; have HB := Lib.hid hB7; have HF7 := Lib.hid hF7
          clear hA7 hS7 hB7 hF7
          have hsge : Pf.sg P (n + k) (n + k) = Pf.sg P (n + k) (n + k + 1) := by
            show _ = (if n + k = n + k then _ else _)
            rw [if_pos rfl]
          have HSGE := Lib.hid hsge; clear hsge
          go_upto_region 16 with (at_builtin; refine wpList_append_bag _ rfl _ _ 50 rfl (wb + 1) 5 i0 (.int .u8 0) 1 Tryz.underlying50 HI.out HZ0.out HZ1.out HZ2.out rfl aq (n + k) cs (rowv (fun i => Pf.sg P i (n + k + 1)) (n + k)) rfl (HA.out.sr.same ((Below.refl _ w7).alloc (Nat.le_refl _) (.cells #[.int .u8 (Pf.sg P (n + k) (n + k) : Nat)] 5))).owns _ 1 1 [.int .u8 (Pf.sg P (n + k) (n + k) : Nat)] rfl rfl (cell_new1 _ _ _) (one_single _ _) (by decide) (by unfold maxLen; omega) (by omega) (by simp; omega) ?_; intro g8 c8 w8 hown8 hc8 hlt8; have hx8 := Stn.app2 (HA.out.same ((Below.refl _ w7).alloc (Nat.le_refl _) (.cells #[.int .u8 (Pf.sg P (n + k) (n + k) : Nat)] 5))) HSGE.out hown8 hc8; have c81 := hx8.1.c2; have f81 := hx8.1.free 2; have HX8 := Lib.hid hx8; have HOWN8 := Lib.hid hown8; have HC8 := Lib.hid hc8; clear hx8 hown8 hc8 hlt8)
          have hA9 := HX8.out.2.1
          have hB9 := HB.out.trans (((Below.refl wb w7).alloc (by omega) (.cells #[.int .u8 (Pf.sg P (n + k) (n + k) : Nat)] 5)).trans (HX8.out.2.2 wb (Nat.le_refl _)))
          have hSa := Sl.app (wb := wb) (o := 2) (u := .slice (some ⟨g8, 0, none⟩) (n + k + 1) c8) (HS.out.same ((Below.refl _ w7).alloc (Nat.le_refl _) (.cells #[.int .u8 (Pf.sg P (n + k) (n + k) : Nat)] 5))) HC8.out (fun ad ha hm => ⟨(HF7.out ad ha hm).1, (HF7.out ad ha hm).2.2⟩)
          have hF9 : Far wb (some ⟨g6, 0, none⟩) (some ⟨g8, 0, none⟩) (some ⟨ab, ao, none⟩) m := fun ad ha hm => ⟨(HF7.out ad ha hm).1, (HF7.out ad ha hm).2.1, fun hh => hSa.2 ad ha hm (by cases hh; rfl)⟩
          have hS9 := hSa.1
          clear hSa c81 f81 HX8 HOWN8 HC8 HA HS HB c2 HF7
          generalize w8.setCell ⟨wb, 2, none⟩ (.slice (some ⟨g8, 0, none⟩) (n + k + 1) c8) = w9 at *
          have HA := Lib.hid hA9; have HS := Lib.hid hS9; have HB := Lib.hid hB9; have HF9 := Lib.hid hF9
          clear hA9 hS9 hB9 hF9
          go_wp2
          go_roundw
          case rel => exact ⟨k + 1, some ⟨g6, 0, none⟩, c6, some ⟨g8, 0, none⟩, c8, by omega, by go_num, HA.out, HF9.out, fun i j hij hj => by
            by_cases e : j = n + k
            · rw [e]; exact HNE.out i (by omega)
            · exact HD.out i j hij (by omega), HS.out, HB.out⟩
          case measure => simp [intOf]; omega
    · obtain rfl : k = m := by omega
      clear hS hf
      go_wp2
      go_ret
      exact ⟨Or.inl ⟨hd, rfl, ap, cp, aq, cs, hA⟩, hB⟩
end Go.Proofs.YtkejabhjlflknaaGreat
