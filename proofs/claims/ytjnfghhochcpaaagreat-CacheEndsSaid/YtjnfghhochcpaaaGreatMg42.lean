import Derived.Maps.AppendAt
import Derived.Test.YtjnfghhochcpaaaGreatMg9
import Derived.Test.YtjnfghhochcpaaaGreatMg28
import Derived.Test.YtjnfghhochcpaaaGreatMg41
namespace Go.Proofs.YtjnfghhochcpaaaGreat
open Go.RowKit Go.Shelf

section
variable {P : Program} {w : World}
/-- an append onto an owned row that lies somewhere, and where the answer lies. -/
theorem wp_app {o : Oper} {a : Act} {K : Act → World → Prop} {Q : Exit → Act → World → Prop} (s x : Operand) (t : TypeId) (ho : o.op = .call { callee := .builtin .append, args := #[s, x], argTypes := #[t, t] })
    (base : Nat) (e : TypeId) (i : TypeInfo) (z : Value) (bytes : Nat) (ht : P.underlying t = some (.slice e)) (hi : P.info? e = some i) (hz : i.zero = some z) (hsize : i.size = 1) (hby : i.bytes = bytes) (hzs : z.cells.size = 1)
    (g : Addr) (n cap : Nat) (xs : List Value) (hs : a.eval s = .slice (some g) n cap) (hown : w.ownsRow base e 1 (.slice (some g) n cap) n xs)
    (ad : Addr) (m c : Nat) (news : List Value) (hx : a.eval x = .slice (some ad) m c) (hl : news.length = m * 1) (hnews : ∀ j u, news[j]? = some u → w.cell? (ad.add j) = some u) (h1 : ∀ u ∈ news, u.oneCell' = true)
    (h63 : n + m ≤ maxLen) (hbytes : (n + m) * bytes ≤ 140737488355328) (hbase : base ≤ w.heap.size) (nm : Nat) (hnm : n + m = nm) (ys : List Value) (hys : xs ++ news = ys)
    (h : ∀ g' c' w', w'.ownsRow base e 1 (.slice (some ⟨g', 0, none⟩) nm c') nm ys → w.grownBy w' (some g.block) → (g' = g.block ∨ g' = w.heap.size) → K (a.put o.dst (.slice (some ⟨g', 0, none⟩) nm c')) w') : o.wp P a w K Q := by
  obtain ⟨v', w', hr, h2, h3, h4, h5⟩ := run_append_own_at (P := P) w base t o.type e i z 1 bytes ht hi hz hsize hby hzs (by decide) (.slice (some g) n cap) n xs hown ad m c news hl hnews h1 h63 hbytes hbase
  unfold Oper.wp execOp
  simp only [ho, resolve, invoke, builtin, Sem.run_bind, Sem.run_pure, Result.andThen_ok, List.map_toArray, List.map_cons, List.map_nil, hs, hx, hr]
  rw [hnm, hys] at h2
  rcases h2.2 with ⟨hv, _⟩ | ⟨g', cap', cur, hv, _⟩
  · have := (h4.1 hv).1
    cases this
  · subst hv
    refine h g' cap' w' h2 h3 ?_
    rcases h5 with h5 | h5
    · exact Or.inl (by simpa [Value.ownBlock] using h5)
    · exact Or.inr (by simpa [Value.ownBlock] using h5)
end
theorem own_lt {w : World} {B s n c m : Nat} {e : TypeId} {g : Nat} {xs : List Value} (h : w.ownsRow B e s (.slice (some ⟨g, 0, none⟩) n c) m xs) : g < w.heap.size := by
  rcases h.2 with ⟨hv, _⟩ | ⟨g', cap', cur, hv, _, hg, _⟩
  · cases hv
  · injection hv with e1
    injection e1 with e1
    injection e1 with e1
    subst e1
    exact (Array.getElem?_eq_some_iff.1 hg).1
theorem vs_take {w : World} {B c : Nat} {a : Option Addr} {E : List En} (ho : w.ownsRow B 29 1 (.slice a E.length c) E.length (E.map En.v)) (g : Nat) (hg : a = some ⟨g, 0, none⟩) (t : Nat) : ∀ j u, ((E.take t).map En.v)[j]? = some u → w.cell? ((⟨g, 0, none⟩ : Addr).add j) = some u := by
  intro j u hu
  refine vs_cells ho g hg 0 j u ?_
  rw [List.drop_zero, List.getElem?_map]
  rw [List.getElem?_map, List.getElem?_take] at hu
  split at hu
  · exact hu
  · cases hu
theorem lit_cells {w : World} {g : Nat} {v : Value} {e : TypeId} (h : w.heap[g]? = some (.cells #[v] e (0, 0))) : ∀ j u, [v][j]? = some u → w.cell? ((⟨g, 0, none⟩ : Addr).add j) = some u := by
  intro j u hu
  rw [Addr.add_lit, Nat.zero_add, cell_of_row _ g j _ _ _ h]
  simpa using hu
theorem own_some' {w : World} {B e n c : Nat} {a : Option Addr} {xs : List Value} (h : w.ownsRow B e 1 (.slice a n c) n xs) (hn : 0 < n) : ∃ g, a = some ⟨g, 0, none⟩ ∧ n ≤ c := by
  rcases h.2 with ⟨_, h0⟩ | ⟨g, cap, cur, hv, hb, hg, h1, _⟩
  · omega
  · injection hv with e1 e2 e3
    exact ⟨g, e1, by omega⟩
theorem out_at {L : List Lit} {t : Nat} {k : Lit} (hd : L.Nodup) (ht : L[t]? = some k) : out L k = L.take t ++ L.drop (t + 1) := by
  have hlt : t < L.length := by
    rcases Nat.lt_or_ge t L.length with h | h
    · exact h
    · rw [List.getElem?_eq_none h] at ht; cases ht
  have e : L = L.take t ++ k :: L.drop (t + 1) := by
    have hk : L[t] = k := by rw [List.getElem?_eq_getElem hlt] at ht; injection ht
    rw [← hk, List.getElem_cons_drop, List.take_append_drop]
  generalize L.take t = A at e ⊢
  generalize L.drop (t + 1) = D at e ⊢
  subst e
  obtain ⟨_, h2, h3⟩ := List.nodup_append.1 hd
  rw [out_append, out_no (fun hk => h3 k hk k List.mem_cons_self rfl)]
  have h4 : k ∉ D := (List.nodup_cons.1 h2).1
  congr 1
  unfold out
  rw [List.filter_cons, if_neg (by simp)]
  exact out_no h4

set_option maxHeartbeats 8000000 in
set_option maxRecDepth 100000 in
theorem rask_yes (B x N room : Nat) (hi mi dr : Int) (ra : Option Addr) (rc : Nat) (E : List En) (f : En) (hf : 1 ≤ f.K ∧ f.K ≤ N ∧ ∀ i, i < f.K → 0 ≤ f.h i ∧ f.h i < N) (hni : f.lit ∈ E.map En.lit) (hnd : (E.map En.lit).Nodup) (hhi : 0 ≤ hi ∧ hi ≤ 10000000000) (w : World) (hBw : B ≤ w.heap.size) (hR : Rf w B x N room hi mi dr ra rc E) (hF : w.ownsRow B 3 1 f.v (f.K + 1) (nums (kf f.K f.h) (f.K + 1))) :
    Calls Tryz.prog 54 #[.pointer (some ⟨x, 0, none⟩), f.v] w (RAskSays B x N room hi mi dr ra E f.lit w) := by
  obtain ⟨fa, fc, k, h⟩ := f
  obtain ⟨i0, hi0, hz0, hz1, hz2⟩ := info_parts Tryz.infoInts
  have HI := Lib.hid hi0; have HZ0 := Lib.hid hz0; have HZ1 := Lib.hid hz1; have HZ2 := Lib.hid hz2
  have HR := Lib.hid hR; have HF := Lib.hid hF; have HOK := Lib.hid hf; have HNI := Lib.hid hni; have HND := Lib.hid hnd
  have hN := hR.nm
  clear hi0 hz0 hz1 hz2 hR hF hf hni hnd
  show Calls Tryz.prog 54 #[.pointer (some ⟨x, 0, none⟩), .slice fa (k + 1) fc] w _
  have a1 : IntKind.i64.wrap (hi + 1) = hi + 1 := IntWalk.i64_in _ (by omega)
  go_enter Tryz.func54, Tryz.ntmps54
  go_wp2_with fail
  refine (rat_any x (N : Nat) (room : Nat) hi mi dr ra E.length rc _ _ _ _ fa (k + 1) fc (kf (k : Nat) h) (by have := HR.out.room; omega) (by have := HOK.out.2.1; omega) (fun i hi => by have := (HR.out.ok _ (getD_mem hi)).2.1; omega) _ HR.out.blk HR.out.ki (si_own HF.out)).mono ?_
  rintro e w1 ⟨v, rfl, hv, hq⟩
  have hB1 := drewb6 hq
  rcases hv with ⟨t, ht, rfl, he, _⟩ | ⟨rfl, hv⟩
  rotate_left
  · obtain ⟨e, he, hl⟩ := List.mem_map.1 HNI.out
    obtain ⟨i, hi', hei⟩ := List.mem_iff_getElem.1 he
    refine absurd ((eqk_lit (HR.out.ok _ (getD_mem hi')) hN.2).2 ⟨fun i hi => ?_, ?_, ?_⟩) (hv i hi')
    · have := HOK.out.2.2 i hi; omega
    · have := HOK.out.2.1; omega
    · rw [List.getD_eq_getElem?_getD, List.getElem?_eq_getElem hi', Option.getD_some, hei]; exact hl
  have hlit : (E.map En.lit)[t]? = some (⟨fa, fc, k, h⟩ : En).lit := by
    have h9 := ((eqk_lit (HR.out.ok _ (getD_mem ht)) hN.2).1 he).2.2
    rw [List.getD_eq_getElem?_getD, List.getElem?_eq_getElem ht, Option.getD_some] at h9
    rw [List.getElem?_map, List.getElem?_eq_getElem ht]
    exact congrArg some h9
  have HLT := Lib.hid hlit
  have hR1 := HR.out.same hB1
  obtain ⟨gk, rfl, hrc⟩ := own_some' hR1.own (by omega)
  have HR1 := Lib.hid hR1; have HF1 := Lib.hid (own_below HF.out hB1); have HB1 := Lib.hid hB1
  have hsz1 := hB1.size
  have x2 := hR1.blk.c2; have x3 := hR1.blk.c3; have f3 := hR1.blk.free 3
  have hroom := hR1.room
  clear hq hB1 hlit he hR1
  have g1 : (0 : Int) ≤ (t : Int) := by omega
  go_wp2_with fail
  obtain ⟨w2, hw2⟩ : ∃ w2, w2 = w1.setCell ⟨x, 3, none⟩ (.int .i64 (hi + 1)) := ⟨_, rfl⟩
  rw [← hw2]
  have hb12 : But x x w1 w2 := by rw [hw2]; exact but_set w1
  have HX2 := Lib.hid (show Rb6 w2 x (N : Nat) (room : Nat) (some ⟨gk, 0, none⟩) E.length rc (hi + 1) mi dr by rw [hw2]; exact HR1.out.blk.s3 _)
  have HO2 := Lib.hid (own_set6 HR1.out.own HR1.out.blk hb12)
  have HB12 := Lib.hid hb12
  have hsz2 := hb12.size
  have HXS := Lib.hid (fun (W : World) (hW : Below w2.heap.size w2 W) => (HX2.out.same hW).c2)
  have HFR := Lib.hid (fun (W : World) (hW : Below w2.heap.size w2 W) => (HX2.out.same hW).free 2)
  have HL8 := Lib.hid (show ((E.take t).map En.v).length = t * 1 by rw [List.length_map, List.length_take]; omega)
  have HL16 := Lib.hid (show ((E.drop (t + 1)).map En.v).length = (E.length - (t + 1)) * 1 by rw [List.length_map, List.length_drop]; omega)
  have HFIN := Lib.hid (show ∀ (g c : Nat) (W : World), W.ownsRow B 29 1 (.slice (some ⟨g, 0, none⟩) E.length c) E.length ((E.take t).map En.v ++ (E.drop (t + 1)).map En.v ++ [.slice fa (k + 1) fc]) → Below w2.heap.size w2 W → RAskSays B x N room hi mi dr (some ⟨gk, 0, none⟩) E (⟨fa, fc, k, h⟩ : En).lit w (.returned (.tuple #[])) (W.setCell ⟨x, 2, none⟩ (.slice (some ⟨g, 0, none⟩) E.length c)) from by
    intro g c W ho0 hb
    have ho : W.ownsRow B 29 1 (.slice (some ⟨g, 0, none⟩) E.length c) E.length ((E.take t ++ E.drop (t + 1) ++ [(⟨fa, fc, k, h⟩ : En)]).map En.v) := by rw [List.map_append, List.map_append]; exact ho0
    have hbW : But x x W (W.setCell ⟨x, 2, none⟩ (.slice (some ⟨g, 0, none⟩) E.length c)) := but_set W
    have hXW := HX2.out.same hb
    have hlen : (E.take t ++ E.drop (t + 1) ++ [(⟨fa, fc, k, h⟩ : En)]).length = E.length := by simp only [List.length_append, List.length_take, List.length_drop, List.length_singleton]; omega
    have hb1 : But x (rblk (some ⟨gk, 0, none⟩) x) w1 (W.setCell ⟨x, 2, none⟩ (.slice (some ⟨g, 0, none⟩) E.length c)) := (HB12.out.self.trans (But.of hb)).trans hbW.self
    have hsub : ∀ e, e ∈ E.take t ++ E.drop (t + 1) ++ [(⟨fa, fc, k, h⟩ : En)] → e ∈ E ∨ e = ⟨fa, fc, k, h⟩ := fun e he => by
      rcases List.mem_append.1 he with he | he
      · rcases List.mem_append.1 he with he | he
        · exact Or.inl (List.mem_of_mem_take he)
        · exact Or.inl (List.mem_of_mem_drop he)
      · exact Or.inr (List.mem_singleton.1 he)
    refine ⟨rfl, some ⟨g, 0, none⟩, c, dr, E.take t ++ E.drop (t + 1) ++ [⟨fa, fc, k, h⟩], ⟨?_, HR1.out.bx, ?_, fun e he => ?_, fun e he => ?_, HR1.out.nm, ?_⟩, ?_, ?_, (But.of HB1.out).trans hb1⟩
    · rw [askH_yes HNI.out, askM_yes HNI.out, hlen]; exact hXW.s2 _ _ _
    · rw [hlen]; exact own_set6 ho hXW hbW
    · refine own_chain ?_ hb1 HR1.out.blk HR1.out.kb
      rcases hsub e he with he | rfl
      · exact HR1.out.key e he
      · exact HF1.out
    · rcases hsub e he with he | rfl
      · exact HR1.out.ok e he
      · exact HOK.out
    · rw [hlen]; exact hroom
    · rw [askL_yes HNI.out, out_at HND.out HLT.out, List.map_append, List.map_append, List.map_take, List.map_drop]; rfl
    · intro e; rw [askM_yes HNI.out, hlen]; exact e)
  have g2 : (t : Int) ≤ (rc : Int) := by omega
  have g3 : (t : Int) + 1 ≤ (E.length : Int) := by omega
  have g4 : IntKind.i64.wrap ((t : Int) + 1) = (t : Int) + 1 := IntWalk.i64_in _ (by omega)
  have hBw2 : B ≤ w2.heap.size := by omega
  have g5 : (0 : Int) ≤ (t : Int) + 1 := by omega
  obtain ⟨ad, had, had2⟩ : ∃ ad : Addr, (if rc = t + 1 then some (⟨gk, 0, none⟩ : Addr) else some ⟨gk, t + 1, none⟩) = some ad ∧ (E.length = t + 1 ∨ ad = ⟨gk, t + 1, none⟩) := by
    by_cases e : rc = t + 1
    · exact ⟨_, if_pos e, Or.inl (by omega)⟩
    · exact ⟨_, if_neg e, Or.inr rfl⟩
  have HAD := Lib.hid had
  have HC16 := Lib.hid (show ∀ W : World, Below w2.heap.size w2 W → ∀ j u, ((E.drop (t + 1)).map En.v)[j]? = some u → W.cell? (ad.add j) = some u from fun W hW j u hu => by
    rcases had2 with h9 | h9
    · rw [List.getElem?_eq_none (by rw [List.length_map, List.length_drop]; omega)] at hu; cases hu
    · rw [h9]; exact vs_cells (own_below HO2.out hW) gk rfl (t + 1) j u hu)
  clear had had2
  clear x2 x3 f3 hw2 hb12
  refine AnyU.start (S := fun W => Below w2.heap.size w2 W) (z := 22) (by kernel_rfl) (below_dr (Below.refl _ w2) 1) (fun hHeld => ?_)
  obtain ⟨w3, hw3⟩ : ∃ w3, w3 = w2.drew := ⟨_, rfl⟩
  rw [← hw3] at hHeld ⊢
  clear hw3
  refine AnyU.take (i := 0) (p := 0) (oi := ⟨some 17, .move (.tmp 0), _, _, _, none⟩) (v := (.pointer (some ⟨x, 0, none⟩))) rfl (by kernel_rfl) (Or.inl rfl) (by kernel_rfl) (by kernel_rfl) (by kernel_rfl) (by kernel_rfl) (fun _ _ _ h => h) (Or.inl ⟨by rfl, fun W hW => ?_⟩) (by assumption) ?_
  · go_simp
  simp only [Act.put, List.setIfInBounds_toArray, List.set_cons_zero, List.set_cons_succ]
  refine AnyU.take (i := 2) (p := 2) (oi := ⟨some 19, .move (.tmp 0), _, _, _, none⟩) (v := (.pointer (some ⟨x, 0, none⟩))) rfl (by kernel_rfl) (Or.inl rfl) (by kernel_rfl) (by kernel_rfl) (by kernel_rfl) (by kernel_rfl) (fun _ _ _ h => h) (Or.inl ⟨by rfl, fun W hW => ?_⟩) (by assumption) ?_
  · go_simp
  simp only [Act.put, List.setIfInBounds_toArray, List.set_cons_zero, List.set_cons_succ]
  refine AnyU.take (i := 3) (p := 3) (oi := ⟨some 20, .nilCheck (.tmp 19), _, _, _, none⟩) (v := (.pointer (some ⟨x, 0, none⟩))) rfl (by kernel_rfl) (Or.inl rfl) (by kernel_rfl) (by kernel_rfl) (by kernel_rfl) (by kernel_rfl) (fun _ _ _ h => h) (Or.inl ⟨by rfl, fun W hW => ?_⟩) (by assumption) ?_
  · go_simp
  simp only [Act.put, List.setIfInBounds_toArray, List.set_cons_zero, List.set_cons_succ]
  refine AnyU.take (i := 4) (p := 4) (oi := ⟨some 21, .fieldAddr 104 (.tmp 20) 2, _, _, _, none⟩) (v := (.pointer (some ⟨x, 2, none⟩))) rfl (by kernel_rfl) (Or.inl rfl) (by kernel_rfl) (by kernel_rfl) (by kernel_rfl) (by kernel_rfl) (fun _ _ _ h => h) (Or.inl ⟨by rfl, fun W hW => ?_⟩) (by assumption) ?_
  · go_simp
  simp only [Act.put, List.setIfInBounds_toArray, List.set_cons_zero, List.set_cons_succ]
  refine AnyU.take (i := 5) (p := 5) (oi := ⟨some 22, .load 102 (.tmp 21), _, _, _, none⟩) (v := (.slice (some ⟨gk, 0, none⟩) E.length rc)) rfl (by kernel_rfl) (Or.inl rfl) (by kernel_rfl) (by kernel_rfl) (by kernel_rfl) (by kernel_rfl) (fun _ _ _ h => h) (Or.inl ⟨by rfl, fun W hW => ?_⟩) (by assumption) ?_
  · have := HXS.out W hW; go_simp
  simp only [Act.put, List.setIfInBounds_toArray, List.set_cons_zero, List.set_cons_succ]
  refine AnyU.take (i := 6) (p := 6) (oi := ⟨some 23, .move (.tmp 4), _, _, _, none⟩) (v := (.int .i64 (t : Nat))) rfl (by kernel_rfl) (Or.inl rfl) (by kernel_rfl) (by kernel_rfl) (by kernel_rfl) (by kernel_rfl) (fun _ _ _ h => h) (Or.inl ⟨by rfl, fun W hW => ?_⟩) (by assumption) ?_
  · go_simp
  simp only [Act.put, List.setIfInBounds_toArray, List.set_cons_zero, List.set_cons_succ]
  refine AnyU.take (i := 7) (p := 7) (oi := ⟨some 24, .slice 102 (.tmp 22) none (some (.tmp 23)) none, _, _, _, none⟩) (v := (.slice (some ⟨gk, 0, none⟩) t rc)) rfl (by kernel_rfl) (Or.inl rfl) (by kernel_rfl) (by kernel_rfl) (by kernel_rfl) (by kernel_rfl) (fun _ _ _ h => h) (Or.inl ⟨by rfl, fun W hW => ?_⟩) (by assumption) ?_
  · go_simp
  simp only [Act.put, List.setIfInBounds_toArray, List.set_cons_zero, List.set_cons_succ]
  refine AnyU.take (i := 9) (p := 9) (oi := ⟨some 26, .move (.tmp 0), _, _, _, none⟩) (v := (.pointer (some ⟨x, 0, none⟩))) rfl (by kernel_rfl) (Or.inl rfl) (by kernel_rfl) (by kernel_rfl) (by kernel_rfl) (by kernel_rfl) (fun _ _ _ h => h) (Or.inl ⟨by rfl, fun W hW => ?_⟩) (by assumption) ?_
  · go_simp
  simp only [Act.put, List.setIfInBounds_toArray, List.set_cons_zero, List.set_cons_succ]
  refine AnyU.take (i := 10) (p := 10) (oi := ⟨some 27, .nilCheck (.tmp 26), _, _, _, none⟩) (v := (.pointer (some ⟨x, 0, none⟩))) rfl (by kernel_rfl) (Or.inl rfl) (by kernel_rfl) (by kernel_rfl) (by kernel_rfl) (by kernel_rfl) (fun _ _ _ h => h) (Or.inl ⟨by rfl, fun W hW => ?_⟩) (by assumption) ?_
  · go_simp
  simp only [Act.put, List.setIfInBounds_toArray, List.set_cons_zero, List.set_cons_succ]
  refine AnyU.take (i := 11) (p := 11) (oi := ⟨some 28, .fieldAddr 104 (.tmp 27) 2, _, _, _, none⟩) (v := (.pointer (some ⟨x, 2, none⟩))) rfl (by kernel_rfl) (Or.inl rfl) (by kernel_rfl) (by kernel_rfl) (by kernel_rfl) (by kernel_rfl) (fun _ _ _ h => h) (Or.inl ⟨by rfl, fun W hW => ?_⟩) (by assumption) ?_
  · go_simp
  simp only [Act.put, List.setIfInBounds_toArray, List.set_cons_zero, List.set_cons_succ]
  refine AnyU.take (i := 12) (p := 12) (oi := ⟨some 29, .load 102 (.tmp 28), _, _, _, none⟩) (v := (.slice (some ⟨gk, 0, none⟩) E.length rc)) rfl (by kernel_rfl) (Or.inl rfl) (by kernel_rfl) (by kernel_rfl) (by kernel_rfl) (by kernel_rfl) (fun _ _ _ h => h) (Or.inl ⟨by rfl, fun W hW => ?_⟩) (by assumption) ?_
  · have := HXS.out W hW; go_simp
  simp only [Act.put, List.setIfInBounds_toArray, List.set_cons_zero, List.set_cons_succ]
  refine AnyU.take (i := 13) (p := 13) (oi := ⟨some 30, .move (.tmp 4), _, _, _, none⟩) (v := (.int .i64 (t : Nat))) rfl (by kernel_rfl) (Or.inl rfl) (by kernel_rfl) (by kernel_rfl) (by kernel_rfl) (by kernel_rfl) (fun _ _ _ h => h) (Or.inl ⟨by rfl, fun W hW => ?_⟩) (by assumption) ?_
  · go_simp
  simp only [Act.put, List.setIfInBounds_toArray, List.set_cons_zero, List.set_cons_succ]
  refine AnyU.take (i := 14) (p := 14) (oi := ⟨some 31, .binOp .add 3 (.tmp 30) (.const (.int .i64 1)) 3, _, _, _, none⟩) (v := (.int .i64 ((t : Int) + 1))) rfl (by kernel_rfl) (Or.inl rfl) (by kernel_rfl) (by kernel_rfl) (by kernel_rfl) (by kernel_rfl) (fun _ _ _ h => h) (Or.inl ⟨by rfl, fun W hW => ?_⟩) (by assumption) ?_
  · go_simp
  simp only [Act.put, List.setIfInBounds_toArray, List.set_cons_zero, List.set_cons_succ]
  refine AnyU.take (i := 15) (p := 15) (oi := ⟨some 32, .slice 102 (.tmp 29) (some (.tmp 31)) none none, _, _, _, none⟩) (v := (.slice (some ad) (E.length - (t + 1)) (rc - (t + 1)))) rfl (by kernel_rfl) (Or.inl rfl) (by kernel_rfl) (by kernel_rfl) (by kernel_rfl) (by kernel_rfl) (fun _ _ _ h => h) (Or.inl ⟨by rfl, fun W hW => ?_⟩) (by assumption) ?_
  · have := HAD.out; have := g5; go_simp
  simp only [Act.put, List.setIfInBounds_toArray, List.set_cons_zero, List.set_cons_succ]
  refine AnyU.take (i := 17) (p := 17) (oi := ⟨some 34, .move (.tmp 1), _, _, _, none⟩) (v := (.slice fa (k + 1) fc)) rfl (by kernel_rfl) (Or.inl rfl) (by kernel_rfl) (by kernel_rfl) (by kernel_rfl) (by kernel_rfl) (fun _ _ _ h => h) (Or.inl ⟨by rfl, fun W hW => ?_⟩) (by assumption) ?_
  · go_simp
  simp only [Act.put, List.setIfInBounds_toArray, List.set_cons_zero, List.set_cons_succ]
  have hbw3 := hHeld
  have hzw3 := hbw3.size
  refine AnyU.ready (rs := [1, 18]) (by kernel_rfl) (by simp) (EachU.cons rfl (fun KK hKK => ?_) (EachU.cons rfl (fun KK hKK => ?_) EachU.nil))
  · go_simp
    obtain ⟨wz1, hwz1⟩ : ∃ v, v = w3.alloc (.cells #[] 29) := ⟨_, rfl⟩
    rw [← hwz1]
    have hnwz1 : Below w3.heap.size w3 wz1 := by rw [hwz1]; exact (Below.refl _ _).alloc (Nat.le_refl _) _
    have howz1 : wz1.ownsRow B 29 1 (.slice (some ⟨w3.heap.size, 0, none⟩) 0 0) 0 [] := by rw [hwz1]; exact World.ownsRow_lit w3 #[] 0 (by omega) (Nat.zero_le _) rfl
    have hswz1 : w3.heap.size < wz1.heap.size := by rw [hwz1]; simp
    have hbwz1 := hbw3.trans (hnwz1.mono hbw3.size)
    have hzwz1 := hbwz1.size
    have hnwwz1 : w2.heap.size ≤ w3.heap.size := hzw3
    refine hKK.out _ _ (fun _ => hbwz1) (fun _ => ?_)
    clear hKK KK hwz1
    try simp only [Act.put, List.setIfInBounds_toArray, List.set_cons_zero, List.set_cons_succ]
    refine AnyU.ready (rs := [8, 18]) (by kernel_rfl) (by simp) (EachU.cons rfl (fun KK hKK => ?_) (EachU.cons rfl (fun KK hKK => ?_) EachU.nil))
    · rw [if_pos (by rfl)]
      refine wp_app _ _ 102 rfl B 29 i0 (.slice none 0 0) 24 Tryz.underlying102 HI.out HZ0.out HZ1.out HZ2.out rfl ⟨w3.heap.size, 0, none⟩ 0 _ _ rfl howz1 ⟨gk, 0, none⟩ t rc ((E.take t).map En.v) rfl (HL8.out) (vs_take (own_below HO2.out hbwz1) gk rfl t) (vs_one _) (by unfold maxLen; omega) (by omega) (by omega) t (Nat.zero_add t) ((E.take t).map En.v) (List.nil_append _) ?_
      intro gwz2 cwz2 wz2 howz2 hgwz2 hawz2
      have hawz2 : gwz2 = w3.heap.size ∨ gwz2 = wz1.heap.size := hawz2
      have hnwz2 : Below w2.heap.size wz1 wz2 := (Below.refl _ _).grown hgwz2 hzwz1 (fun q hq => by have hq' : w3.heap.size = q := Option.some.inj hq; have := hnwwz1; omega)
      have hbwz2 := hbwz1.trans hnwz2
      have hzwz2 := hbwz2.size
      have hnwwz2 : w2.heap.size ≤ gwz2 := by have := hnwwz1; omega
      refine hKK.out _ _ (fun _ => hbwz2) (fun _ => ?_)
      clear hKK KK
      try simp only [Act.put, List.setIfInBounds_toArray, List.set_cons_zero, List.set_cons_succ]
      refine AnyU.ready (rs := [16, 18]) (by kernel_rfl) (by simp) (EachU.cons rfl (fun KK hKK => ?_) (EachU.cons rfl (fun KK hKK => ?_) EachU.nil))
      · rw [if_pos (by rfl)]
        refine wp_app _ _ 102 rfl B 29 i0 (.slice none 0 0) 24 Tryz.underlying102 HI.out HZ0.out HZ1.out HZ2.out rfl ⟨gwz2, 0, none⟩ t _ _ rfl howz2 ad (E.length - (t + 1)) (rc - (t + 1)) ((E.drop (t + 1)).map En.v) rfl (HL16.out) (HC16.out _ hbwz2) (vs_one _) (by unfold maxLen; omega) (by omega) (by omega) (E.length - 1) (by omega) ((E.take t).map En.v ++ (E.drop (t + 1)).map En.v) rfl ?_
        intro gwz3 cwz3 wz3 howz3 hgwz3 hawz3
        have hawz3 : gwz3 = gwz2 ∨ gwz3 = wz2.heap.size := hawz3
        have hnwz3 : Below w2.heap.size wz2 wz3 := (Below.refl _ _).grown hgwz3 hzwz2 (fun q hq => by have hq' : gwz2 = q := Option.some.inj hq; have := hnwwz2; omega)
        have hbwz3 := hbwz2.trans hnwz3
        have hzwz3 := hbwz3.size
        have hnwwz3 : w2.heap.size ≤ gwz3 := by have := hnwwz2; omega
        refine hKK.out _ _ (fun _ => hbwz3) (fun _ => ?_)
        clear hKK KK
        try simp only [Act.put, List.setIfInBounds_toArray, List.set_cons_zero, List.set_cons_succ]
        refine AnyU.ready (rs := [18]) (by kernel_rfl) (by simp) (EachU.cons rfl (fun KK hKK => ?_) EachU.nil)
        go_simp
        obtain ⟨wz4, hwz4⟩ : ∃ v, v = wz3.alloc (.cells #[.slice fa (k + 1) fc] 29) := ⟨_, rfl⟩
        rw [← hwz4]
        have hnwz4 : Below wz3.heap.size wz3 wz4 := by rw [hwz4]; exact (Below.refl _ _).alloc (Nat.le_refl _) _
        have hcwz4 : wz4.heap[wz3.heap.size]? = some (.cells #[.slice fa (k + 1) fc] 29 (0, 0)) := by rw [hwz4]; exact heap_alloc_new _ _
        have hswz4 : wz3.heap.size < wz4.heap.size := by rw [hwz4]; simp
        have howz4 := own_below howz3 hnwz4
        have hnewz4 : wz3.heap.size ≠ gwz3 := by have := own_lt howz3; omega
        have hbwz4 := hbwz3.trans (hnwz4.mono hbwz3.size)
        have hzwz4 := hbwz4.size
        have hnwwz4 : w2.heap.size ≤ gwz3 := hnwwz3
        refine hKK.out _ _ (fun _ => hbwz4) (fun _ => ?_)
        clear hKK KK hwz4
        try simp only [Act.put, List.setIfInBounds_toArray, List.set_cons_zero, List.set_cons_succ]
        refine AnyU.ready (rs := [19]) (by kernel_rfl) (by simp) (EachU.cons rfl (fun KK hKK => ?_) EachU.nil)
        rw [if_pos (by rfl)]
        refine wp_app _ _ 102 rfl B 29 i0 (.slice none 0 0) 24 Tryz.underlying102 HI.out HZ0.out HZ1.out HZ2.out rfl ⟨gwz3, 0, none⟩ (E.length - 1) _ _ rfl howz4 ⟨wz3.heap.size, 0, none⟩ 1 1 ([.slice fa (k + 1) fc]) rfl (rfl) (lit_cells hcwz4) (fun u hu => by rcases List.mem_singleton.1 hu with rfl; rfl) (by unfold maxLen; omega) (by omega) (by omega) E.length (by omega) ((E.take t).map En.v ++ (E.drop (t + 1)).map En.v ++ [.slice fa (k + 1) fc]) rfl ?_
        intro gwz5 cwz5 wz5 howz5 hgwz5 hawz5
        have hawz5 : gwz5 = gwz3 ∨ gwz5 = wz4.heap.size := hawz5
        have hnwz5 : Below w2.heap.size wz4 wz5 := (Below.refl _ _).grown hgwz5 hzwz4 (fun q hq => by have hq' : gwz3 = q := Option.some.inj hq; have := hnwwz4; omega)
        have hbwz5 := hbwz4.trans hnwz5
        have hzwz5 := hbwz5.size
        have hnwwz5 : w2.heap.size ≤ gwz5 := by have := hnwwz4; omega
        refine hKK.out _ _ (fun _ => hbwz5) (fun _ => ?_)
        clear hKK KK
        try simp only [Act.put, List.setIfInBounds_toArray, List.set_cons_zero, List.set_cons_succ]
        refine AnyU.take (i := 20) (p := 21) (oi := ⟨some 37, .nilCheck (.tmp 17), _, _, _, none⟩) (v := (.pointer (some ⟨x, 0, none⟩))) rfl (by kernel_rfl) (Or.inr (by kernel_rfl)) (by kernel_rfl) (by kernel_rfl) (by kernel_rfl) (by kernel_rfl) (fun _ _ _ h => h) (Or.inl ⟨by rfl, fun W hW => ?_⟩) (by assumption) ?_
        · go_simp
        simp only [Act.put, List.setIfInBounds_toArray, List.set_cons_zero, List.set_cons_succ]
        refine AnyU.take (i := 21) (p := 21) (oi := ⟨some 38, .fieldAddr 104 (.tmp 37) 2, _, _, _, none⟩) (v := (.pointer (some ⟨x, 2, none⟩))) rfl (by kernel_rfl) (Or.inl rfl) (by kernel_rfl) (by kernel_rfl) (by kernel_rfl) (by kernel_rfl) (fun _ _ _ h => h) (Or.inl ⟨by rfl, fun W hW => ?_⟩) (by assumption) ?_
        · go_simp
        simp only [Act.put, List.setIfInBounds_toArray, List.set_cons_zero, List.set_cons_succ]
        refine AnyU.ready (rs := [22]) (by kernel_rfl) (by simp) (EachU.cons rfl (fun KK hKK => ?_) EachU.nil)
        have xx := HXS.out _ hbwz5; have ff := HFR.out _ hbwz5
        go_simp
        refine hKK.out _ _ (fun hh => absurd rfl hh) (fun _ => ?_)
        clear hKK KK
        try simp only [Act.put, List.setIfInBounds_toArray, List.set_cons_zero, List.set_cons_succ]
        refine AnyU.done (by kernel_rfl) ?_ _
        go_wp2
        go_end0
        exact HFIN.out _ _ _ howz5 hbwz5
      · go_simp
        obtain ⟨wz6, hwz6⟩ : ∃ v, v = wz2.alloc (.cells #[.slice fa (k + 1) fc] 29) := ⟨_, rfl⟩
        rw [← hwz6]
        have hnwz6 : Below wz2.heap.size wz2 wz6 := by rw [hwz6]; exact (Below.refl _ _).alloc (Nat.le_refl _) _
        have hcwz6 : wz6.heap[wz2.heap.size]? = some (.cells #[.slice fa (k + 1) fc] 29 (0, 0)) := by rw [hwz6]; exact heap_alloc_new _ _
        have hswz6 : wz2.heap.size < wz6.heap.size := by rw [hwz6]; simp
        have howz6 := own_below howz2 hnwz6
        have hnewz6 : wz2.heap.size ≠ gwz2 := by have := own_lt howz2; omega
        have hbwz6 := hbwz2.trans (hnwz6.mono hbwz2.size)
        have hzwz6 := hbwz6.size
        have hnwwz6 : w2.heap.size ≤ gwz2 := hnwwz2
        refine hKK.out _ _ (fun _ => hbwz6) (fun _ => ?_)
        clear hKK KK hwz6
        try simp only [Act.put, List.setIfInBounds_toArray, List.set_cons_zero, List.set_cons_succ]
        refine AnyU.ready (rs := [16]) (by kernel_rfl) (by simp) (EachU.cons rfl (fun KK hKK => ?_) EachU.nil)
        rw [if_pos (by rfl)]
        refine wp_app _ _ 102 rfl B 29 i0 (.slice none 0 0) 24 Tryz.underlying102 HI.out HZ0.out HZ1.out HZ2.out rfl ⟨gwz2, 0, none⟩ t _ _ rfl howz6 ad (E.length - (t + 1)) (rc - (t + 1)) ((E.drop (t + 1)).map En.v) rfl (HL16.out) (HC16.out _ hbwz6) (vs_one _) (by unfold maxLen; omega) (by omega) (by omega) (E.length - 1) (by omega) ((E.take t).map En.v ++ (E.drop (t + 1)).map En.v) rfl ?_
        intro gwz7 cwz7 wz7 howz7 hgwz7 hawz7
        have hawz7 : gwz7 = gwz2 ∨ gwz7 = wz6.heap.size := hawz7
        have hnwz7 : Below w2.heap.size wz6 wz7 := (Below.refl _ _).grown hgwz7 hzwz6 (fun q hq => by have hq' : gwz2 = q := Option.some.inj hq; have := hnwwz6; omega)
        have hcwz7 := (hgwz7.block _ (Array.getElem?_eq_some_iff.1 hcwz6).1 (fun e => hnewz6 (Option.some.inj e))).trans hcwz6
        have hnewz7 : wz2.heap.size ≠ gwz7 := by have := (Array.getElem?_eq_some_iff.1 hcwz6).1; have := hnewz6; omega
        have hbwz7 := hbwz6.trans hnwz7
        have hzwz7 := hbwz7.size
        have hnwwz7 : w2.heap.size ≤ gwz7 := by have := hnwwz6; omega
        refine hKK.out _ _ (fun _ => hbwz7) (fun _ => ?_)
        clear hKK KK
        try simp only [Act.put, List.setIfInBounds_toArray, List.set_cons_zero, List.set_cons_succ]
        refine AnyU.ready (rs := [19]) (by kernel_rfl) (by simp) (EachU.cons rfl (fun KK hKK => ?_) EachU.nil)
        rw [if_pos (by rfl)]
        refine wp_app _ _ 102 rfl B 29 i0 (.slice none 0 0) 24 Tryz.underlying102 HI.out HZ0.out HZ1.out HZ2.out rfl ⟨gwz7, 0, none⟩ (E.length - 1) _ _ rfl howz7 ⟨wz2.heap.size, 0, none⟩ 1 1 ([.slice fa (k + 1) fc]) rfl (rfl) (lit_cells hcwz7) (fun u hu => by rcases List.mem_singleton.1 hu with rfl; rfl) (by unfold maxLen; omega) (by omega) (by omega) E.length (by omega) ((E.take t).map En.v ++ (E.drop (t + 1)).map En.v ++ [.slice fa (k + 1) fc]) rfl ?_
        intro gwz8 cwz8 wz8 howz8 hgwz8 hawz8
        have hawz8 : gwz8 = gwz7 ∨ gwz8 = wz7.heap.size := hawz8
        have hnwz8 : Below w2.heap.size wz7 wz8 := (Below.refl _ _).grown hgwz8 hzwz7 (fun q hq => by have hq' : gwz7 = q := Option.some.inj hq; have := hnwwz7; omega)
        have hbwz8 := hbwz7.trans hnwz8
        have hzwz8 := hbwz8.size
        have hnwwz8 : w2.heap.size ≤ gwz8 := by have := hnwwz7; omega
        refine hKK.out _ _ (fun _ => hbwz8) (fun _ => ?_)
        clear hKK KK
        try simp only [Act.put, List.setIfInBounds_toArray, List.set_cons_zero, List.set_cons_succ]
        refine AnyU.take (i := 20) (p := 21) (oi := ⟨some 37, .nilCheck (.tmp 17), _, _, _, none⟩) (v := (.pointer (some ⟨x, 0, none⟩))) rfl (by kernel_rfl) (Or.inr (by kernel_rfl)) (by kernel_rfl) (by kernel_rfl) (by kernel_rfl) (by kernel_rfl) (fun _ _ _ h => h) (Or.inl ⟨by rfl, fun W hW => ?_⟩) (by assumption) ?_
        · go_simp
        simp only [Act.put, List.setIfInBounds_toArray, List.set_cons_zero, List.set_cons_succ]
        refine AnyU.take (i := 21) (p := 21) (oi := ⟨some 38, .fieldAddr 104 (.tmp 37) 2, _, _, _, none⟩) (v := (.pointer (some ⟨x, 2, none⟩))) rfl (by kernel_rfl) (Or.inl rfl) (by kernel_rfl) (by kernel_rfl) (by kernel_rfl) (by kernel_rfl) (fun _ _ _ h => h) (Or.inl ⟨by rfl, fun W hW => ?_⟩) (by assumption) ?_
        · go_simp
        simp only [Act.put, List.setIfInBounds_toArray, List.set_cons_zero, List.set_cons_succ]
        refine AnyU.ready (rs := [22]) (by kernel_rfl) (by simp) (EachU.cons rfl (fun KK hKK => ?_) EachU.nil)
        have xx := HXS.out _ hbwz8; have ff := HFR.out _ hbwz8
        go_simp
        refine hKK.out _ _ (fun hh => absurd rfl hh) (fun _ => ?_)
        clear hKK KK
        try simp only [Act.put, List.setIfInBounds_toArray, List.set_cons_zero, List.set_cons_succ]
        refine AnyU.done (by kernel_rfl) ?_ _
        go_wp2
        go_end0
        exact HFIN.out _ _ _ howz8 hbwz8
    · go_simp
      obtain ⟨wz9, hwz9⟩ : ∃ v, v = wz1.alloc (.cells #[.slice fa (k + 1) fc] 29) := ⟨_, rfl⟩
      rw [← hwz9]
      have hnwz9 : Below wz1.heap.size wz1 wz9 := by rw [hwz9]; exact (Below.refl _ _).alloc (Nat.le_refl _) _
      have hcwz9 : wz9.heap[wz1.heap.size]? = some (.cells #[.slice fa (k + 1) fc] 29 (0, 0)) := by rw [hwz9]; exact heap_alloc_new _ _
      have hswz9 : wz1.heap.size < wz9.heap.size := by rw [hwz9]; simp
      have howz9 := own_below howz1 hnwz9
      have hnewz9 : wz1.heap.size ≠ w3.heap.size := by have := own_lt howz1; omega
      have hbwz9 := hbwz1.trans (hnwz9.mono hbwz1.size)
      have hzwz9 := hbwz9.size
      have hnwwz9 : w2.heap.size ≤ w3.heap.size := hnwwz1
      refine hKK.out _ _ (fun _ => hbwz9) (fun _ => ?_)
      clear hKK KK hwz9
      try simp only [Act.put, List.setIfInBounds_toArray, List.set_cons_zero, List.set_cons_succ]
      refine AnyU.ready (rs := [8]) (by kernel_rfl) (by simp) (EachU.cons rfl (fun KK hKK => ?_) EachU.nil)
      rw [if_pos (by rfl)]
      refine wp_app _ _ 102 rfl B 29 i0 (.slice none 0 0) 24 Tryz.underlying102 HI.out HZ0.out HZ1.out HZ2.out rfl ⟨w3.heap.size, 0, none⟩ 0 _ _ rfl howz9 ⟨gk, 0, none⟩ t rc ((E.take t).map En.v) rfl (HL8.out) (vs_take (own_below HO2.out hbwz9) gk rfl t) (vs_one _) (by unfold maxLen; omega) (by omega) (by omega) t (Nat.zero_add t) ((E.take t).map En.v) (List.nil_append _) ?_
      intro gwz10 cwz10 wz10 howz10 hgwz10 hawz10
      have hawz10 : gwz10 = w3.heap.size ∨ gwz10 = wz9.heap.size := hawz10
      have hnwz10 : Below w2.heap.size wz9 wz10 := (Below.refl _ _).grown hgwz10 hzwz9 (fun q hq => by have hq' : w3.heap.size = q := Option.some.inj hq; have := hnwwz9; omega)
      have hcwz10 := (hgwz10.block _ (Array.getElem?_eq_some_iff.1 hcwz9).1 (fun e => hnewz9 (Option.some.inj e))).trans hcwz9
      have hnewz10 : wz1.heap.size ≠ gwz10 := by have := (Array.getElem?_eq_some_iff.1 hcwz9).1; have := hnewz9; omega
      have hbwz10 := hbwz9.trans hnwz10
      have hzwz10 := hbwz10.size
      have hnwwz10 : w2.heap.size ≤ gwz10 := by have := hnwwz9; omega
      refine hKK.out _ _ (fun _ => hbwz10) (fun _ => ?_)
      clear hKK KK
      try simp only [Act.put, List.setIfInBounds_toArray, List.set_cons_zero, List.set_cons_succ]
      refine AnyU.ready (rs := [16]) (by kernel_rfl) (by simp) (EachU.cons rfl (fun KK hKK => ?_) EachU.nil)
      rw [if_pos (by rfl)]
      refine wp_app _ _ 102 rfl B 29 i0 (.slice none 0 0) 24 Tryz.underlying102 HI.out HZ0.out HZ1.out HZ2.out rfl ⟨gwz10, 0, none⟩ t _ _ rfl howz10 ad (E.length - (t + 1)) (rc - (t + 1)) ((E.drop (t + 1)).map En.v) rfl (HL16.out) (HC16.out _ hbwz10) (vs_one _) (by unfold maxLen; omega) (by omega) (by omega) (E.length - 1) (by omega) ((E.take t).map En.v ++ (E.drop (t + 1)).map En.v) rfl ?_
      intro gwz11 cwz11 wz11 howz11 hgwz11 hawz11
      have hawz11 : gwz11 = gwz10 ∨ gwz11 = wz10.heap.size := hawz11
      have hnwz11 : Below w2.heap.size wz10 wz11 := (Below.refl _ _).grown hgwz11 hzwz10 (fun q hq => by have hq' : gwz10 = q := Option.some.inj hq; have := hnwwz10; omega)
      have hcwz11 := (hgwz11.block _ (Array.getElem?_eq_some_iff.1 hcwz10).1 (fun e => hnewz10 (Option.some.inj e))).trans hcwz10
      have hnewz11 : wz1.heap.size ≠ gwz11 := by have := (Array.getElem?_eq_some_iff.1 hcwz10).1; have := hnewz10; omega
      have hbwz11 := hbwz10.trans hnwz11
      have hzwz11 := hbwz11.size
      have hnwwz11 : w2.heap.size ≤ gwz11 := by have := hnwwz10; omega
      refine hKK.out _ _ (fun _ => hbwz11) (fun _ => ?_)
      clear hKK KK
      try simp only [Act.put, List.setIfInBounds_toArray, List.set_cons_zero, List.set_cons_succ]
      refine AnyU.ready (rs := [19]) (by kernel_rfl) (by simp) (EachU.cons rfl (fun KK hKK => ?_) EachU.nil)
      rw [if_pos (by rfl)]
      refine wp_app _ _ 102 rfl B 29 i0 (.slice none 0 0) 24 Tryz.underlying102 HI.out HZ0.out HZ1.out HZ2.out rfl ⟨gwz11, 0, none⟩ (E.length - 1) _ _ rfl howz11 ⟨wz1.heap.size, 0, none⟩ 1 1 ([.slice fa (k + 1) fc]) rfl (rfl) (lit_cells hcwz11) (fun u hu => by rcases List.mem_singleton.1 hu with rfl; rfl) (by unfold maxLen; omega) (by omega) (by omega) E.length (by omega) ((E.take t).map En.v ++ (E.drop (t + 1)).map En.v ++ [.slice fa (k + 1) fc]) rfl ?_
      intro gwz12 cwz12 wz12 howz12 hgwz12 hawz12
      have hawz12 : gwz12 = gwz11 ∨ gwz12 = wz11.heap.size := hawz12
      have hnwz12 : Below w2.heap.size wz11 wz12 := (Below.refl _ _).grown hgwz12 hzwz11 (fun q hq => by have hq' : gwz11 = q := Option.some.inj hq; have := hnwwz11; omega)
      have hbwz12 := hbwz11.trans hnwz12
      have hzwz12 := hbwz12.size
      have hnwwz12 : w2.heap.size ≤ gwz12 := by have := hnwwz11; omega
      refine hKK.out _ _ (fun _ => hbwz12) (fun _ => ?_)
      clear hKK KK
      try simp only [Act.put, List.setIfInBounds_toArray, List.set_cons_zero, List.set_cons_succ]
      refine AnyU.take (i := 20) (p := 21) (oi := ⟨some 37, .nilCheck (.tmp 17), _, _, _, none⟩) (v := (.pointer (some ⟨x, 0, none⟩))) rfl (by kernel_rfl) (Or.inr (by kernel_rfl)) (by kernel_rfl) (by kernel_rfl) (by kernel_rfl) (by kernel_rfl) (fun _ _ _ h => h) (Or.inl ⟨by rfl, fun W hW => ?_⟩) (by assumption) ?_
      · go_simp
      simp only [Act.put, List.setIfInBounds_toArray, List.set_cons_zero, List.set_cons_succ]
      refine AnyU.take (i := 21) (p := 21) (oi := ⟨some 38, .fieldAddr 104 (.tmp 37) 2, _, _, _, none⟩) (v := (.pointer (some ⟨x, 2, none⟩))) rfl (by kernel_rfl) (Or.inl rfl) (by kernel_rfl) (by kernel_rfl) (by kernel_rfl) (by kernel_rfl) (fun _ _ _ h => h) (Or.inl ⟨by rfl, fun W hW => ?_⟩) (by assumption) ?_
      · go_simp
      simp only [Act.put, List.setIfInBounds_toArray, List.set_cons_zero, List.set_cons_succ]
      refine AnyU.ready (rs := [22]) (by kernel_rfl) (by simp) (EachU.cons rfl (fun KK hKK => ?_) EachU.nil)
      have xx := HXS.out _ hbwz12; have ff := HFR.out _ hbwz12
      go_simp
      refine hKK.out _ _ (fun hh => absurd rfl hh) (fun _ => ?_)
      clear hKK KK
      try simp only [Act.put, List.setIfInBounds_toArray, List.set_cons_zero, List.set_cons_succ]
      refine AnyU.done (by kernel_rfl) ?_ _
      go_wp2
      go_end0
      exact HFIN.out _ _ _ howz12 hbwz12
  · go_simp
    obtain ⟨wz13, hwz13⟩ : ∃ v, v = w3.alloc (.cells #[.slice fa (k + 1) fc] 29) := ⟨_, rfl⟩
    rw [← hwz13]
    have hnwz13 : Below w3.heap.size w3 wz13 := by rw [hwz13]; exact (Below.refl _ _).alloc (Nat.le_refl _) _
    have hcwz13 : wz13.heap[w3.heap.size]? = some (.cells #[.slice fa (k + 1) fc] 29 (0, 0)) := by rw [hwz13]; exact heap_alloc_new _ _
    have hswz13 : w3.heap.size < wz13.heap.size := by rw [hwz13]; simp
    have hbwz13 := hbw3.trans (hnwz13.mono hbw3.size)
    have hzwz13 := hbwz13.size
    refine hKK.out _ _ (fun _ => hbwz13) (fun _ => ?_)
    clear hKK KK hwz13
    try simp only [Act.put, List.setIfInBounds_toArray, List.set_cons_zero, List.set_cons_succ]
    refine AnyU.ready (rs := [1]) (by kernel_rfl) (by simp) (EachU.cons rfl (fun KK hKK => ?_) EachU.nil)
    go_simp
    obtain ⟨wz14, hwz14⟩ : ∃ v, v = wz13.alloc (.cells #[] 29) := ⟨_, rfl⟩
    rw [← hwz14]
    have hnwz14 : Below wz13.heap.size wz13 wz14 := by rw [hwz14]; exact (Below.refl _ _).alloc (Nat.le_refl _) _
    have howz14 : wz14.ownsRow B 29 1 (.slice (some ⟨wz13.heap.size, 0, none⟩) 0 0) 0 [] := by rw [hwz14]; exact World.ownsRow_lit wz13 #[] 0 (by omega) (Nat.zero_le _) rfl
    have hswz14 : wz13.heap.size < wz14.heap.size := by rw [hwz14]; simp
    have hcwz14 := (hnwz14.block _ (Array.getElem?_eq_some_iff.1 hcwz13).1).trans hcwz13
    have hnewz14 : w3.heap.size ≠ wz13.heap.size := by have := (Array.getElem?_eq_some_iff.1 hcwz13).1; omega
    have hbwz14 := hbwz13.trans (hnwz14.mono hbwz13.size)
    have hzwz14 := hbwz14.size
    have hnwwz14 : w2.heap.size ≤ wz13.heap.size := hzwz13
    refine hKK.out _ _ (fun _ => hbwz14) (fun _ => ?_)
    clear hKK KK hwz14
    try simp only [Act.put, List.setIfInBounds_toArray, List.set_cons_zero, List.set_cons_succ]
    refine AnyU.ready (rs := [8]) (by kernel_rfl) (by simp) (EachU.cons rfl (fun KK hKK => ?_) EachU.nil)
    rw [if_pos (by rfl)]
    refine wp_app _ _ 102 rfl B 29 i0 (.slice none 0 0) 24 Tryz.underlying102 HI.out HZ0.out HZ1.out HZ2.out rfl ⟨wz13.heap.size, 0, none⟩ 0 _ _ rfl howz14 ⟨gk, 0, none⟩ t rc ((E.take t).map En.v) rfl (HL8.out) (vs_take (own_below HO2.out hbwz14) gk rfl t) (vs_one _) (by unfold maxLen; omega) (by omega) (by omega) t (Nat.zero_add t) ((E.take t).map En.v) (List.nil_append _) ?_
    intro gwz15 cwz15 wz15 howz15 hgwz15 hawz15
    have hawz15 : gwz15 = wz13.heap.size ∨ gwz15 = wz14.heap.size := hawz15
    have hnwz15 : Below w2.heap.size wz14 wz15 := (Below.refl _ _).grown hgwz15 hzwz14 (fun q hq => by have hq' : wz13.heap.size = q := Option.some.inj hq; have := hnwwz14; omega)
    have hcwz15 := (hgwz15.block _ (Array.getElem?_eq_some_iff.1 hcwz14).1 (fun e => hnewz14 (Option.some.inj e))).trans hcwz14
    have hnewz15 : w3.heap.size ≠ gwz15 := by have := (Array.getElem?_eq_some_iff.1 hcwz14).1; have := hnewz14; omega
    have hbwz15 := hbwz14.trans hnwz15
    have hzwz15 := hbwz15.size
    have hnwwz15 : w2.heap.size ≤ gwz15 := by have := hnwwz14; omega
    refine hKK.out _ _ (fun _ => hbwz15) (fun _ => ?_)
    clear hKK KK
    try simp only [Act.put, List.setIfInBounds_toArray, List.set_cons_zero, List.set_cons_succ]
    refine AnyU.ready (rs := [16]) (by kernel_rfl) (by simp) (EachU.cons rfl (fun KK hKK => ?_) EachU.nil)
    rw [if_pos (by rfl)]
    refine wp_app _ _ 102 rfl B 29 i0 (.slice none 0 0) 24 Tryz.underlying102 HI.out HZ0.out HZ1.out HZ2.out rfl ⟨gwz15, 0, none⟩ t _ _ rfl howz15 ad (E.length - (t + 1)) (rc - (t + 1)) ((E.drop (t + 1)).map En.v) rfl (HL16.out) (HC16.out _ hbwz15) (vs_one _) (by unfold maxLen; omega) (by omega) (by omega) (E.length - 1) (by omega) ((E.take t).map En.v ++ (E.drop (t + 1)).map En.v) rfl ?_
    intro gwz16 cwz16 wz16 howz16 hgwz16 hawz16
    have hawz16 : gwz16 = gwz15 ∨ gwz16 = wz15.heap.size := hawz16
    have hnwz16 : Below w2.heap.size wz15 wz16 := (Below.refl _ _).grown hgwz16 hzwz15 (fun q hq => by have hq' : gwz15 = q := Option.some.inj hq; have := hnwwz15; omega)
    have hcwz16 := (hgwz16.block _ (Array.getElem?_eq_some_iff.1 hcwz15).1 (fun e => hnewz15 (Option.some.inj e))).trans hcwz15
    have hnewz16 : w3.heap.size ≠ gwz16 := by have := (Array.getElem?_eq_some_iff.1 hcwz15).1; have := hnewz15; omega
    have hbwz16 := hbwz15.trans hnwz16
    have hzwz16 := hbwz16.size
    have hnwwz16 : w2.heap.size ≤ gwz16 := by have := hnwwz15; omega
    refine hKK.out _ _ (fun _ => hbwz16) (fun _ => ?_)
    clear hKK KK
    try simp only [Act.put, List.setIfInBounds_toArray, List.set_cons_zero, List.set_cons_succ]
    refine AnyU.ready (rs := [19]) (by kernel_rfl) (by simp) (EachU.cons rfl (fun KK hKK => ?_) EachU.nil)
    rw [if_pos (by rfl)]
    refine wp_app _ _ 102 rfl B 29 i0 (.slice none 0 0) 24 Tryz.underlying102 HI.out HZ0.out HZ1.out HZ2.out rfl ⟨gwz16, 0, none⟩ (E.length - 1) _ _ rfl howz16 ⟨w3.heap.size, 0, none⟩ 1 1 ([.slice fa (k + 1) fc]) rfl (rfl) (lit_cells hcwz16) (fun u hu => by rcases List.mem_singleton.1 hu with rfl; rfl) (by unfold maxLen; omega) (by omega) (by omega) E.length (by omega) ((E.take t).map En.v ++ (E.drop (t + 1)).map En.v ++ [.slice fa (k + 1) fc]) rfl ?_
    intro gwz17 cwz17 wz17 howz17 hgwz17 hawz17
    have hawz17 : gwz17 = gwz16 ∨ gwz17 = wz16.heap.size := hawz17
    have hnwz17 : Below w2.heap.size wz16 wz17 := (Below.refl _ _).grown hgwz17 hzwz16 (fun q hq => by have hq' : gwz16 = q := Option.some.inj hq; have := hnwwz16; omega)
    have hbwz17 := hbwz16.trans hnwz17
    have hzwz17 := hbwz17.size
    have hnwwz17 : w2.heap.size ≤ gwz17 := by have := hnwwz16; omega
    refine hKK.out _ _ (fun _ => hbwz17) (fun _ => ?_)
    clear hKK KK
    try simp only [Act.put, List.setIfInBounds_toArray, List.set_cons_zero, List.set_cons_succ]
    refine AnyU.take (i := 20) (p := 21) (oi := ⟨some 37, .nilCheck (.tmp 17), _, _, _, none⟩) (v := (.pointer (some ⟨x, 0, none⟩))) rfl (by kernel_rfl) (Or.inr (by kernel_rfl)) (by kernel_rfl) (by kernel_rfl) (by kernel_rfl) (by kernel_rfl) (fun _ _ _ h => h) (Or.inl ⟨by rfl, fun W hW => ?_⟩) (by assumption) ?_
    · go_simp
    simp only [Act.put, List.setIfInBounds_toArray, List.set_cons_zero, List.set_cons_succ]
    refine AnyU.take (i := 21) (p := 21) (oi := ⟨some 38, .fieldAddr 104 (.tmp 37) 2, _, _, _, none⟩) (v := (.pointer (some ⟨x, 2, none⟩))) rfl (by kernel_rfl) (Or.inl rfl) (by kernel_rfl) (by kernel_rfl) (by kernel_rfl) (by kernel_rfl) (fun _ _ _ h => h) (Or.inl ⟨by rfl, fun W hW => ?_⟩) (by assumption) ?_
    · go_simp
    simp only [Act.put, List.setIfInBounds_toArray, List.set_cons_zero, List.set_cons_succ]
    refine AnyU.ready (rs := [22]) (by kernel_rfl) (by simp) (EachU.cons rfl (fun KK hKK => ?_) EachU.nil)
    have xx := HXS.out _ hbwz17; have ff := HFR.out _ hbwz17
    go_simp
    refine hKK.out _ _ (fun hh => absurd rfl hh) (fun _ => ?_)
    clear hKK KK
    try simp only [Act.put, List.setIfInBounds_toArray, List.set_cons_zero, List.set_cons_succ]
    refine AnyU.done (by kernel_rfl) ?_ _
    go_wp2
    go_end0
    exact HFIN.out _ _ _ howz17 hbwz17
end Go.Proofs.YtjnfghhochcpaaaGreat

namespace Go.Proofs.YtjnfghhochcpaaaGreat
open Go.RowKit Go.Shelf

theorem rask_any (B x N room : Nat) (hi mi dr : Int) (ra : Option Addr) (rc : Nat) (E : List En) (f : En) (hf : 1 ≤ f.K ∧ f.K ≤ N ∧ ∀ i, i < f.K → 0 ≤ f.h i ∧ f.h i < N) (hnd : (E.map En.lit).Nodup) (hhi : 0 ≤ hi ∧ hi ≤ 10000000000) (hmi : 0 ≤ mi ∧ mi ≤ 10000000000) (hdr : 0 ≤ dr ∧ dr ≤ 10000000000) (w : World) (hBw : B ≤ w.heap.size) (hR : Rf w B x N room hi mi dr ra rc E) (hF : w.ownsRow B 3 1 f.v (f.K + 1) (nums (kf f.K f.h) (f.K + 1))) :
    Calls Tryz.prog 54 #[.pointer (some ⟨x, 0, none⟩), f.v] w (RAskSays B x N room hi mi dr ra E f.lit w) := by
  by_cases hk : f.lit ∈ E.map En.lit
  · exact rask_yes B x N room hi mi dr ra rc E f hf hk hnd hhi w hBw hR hF
  · exact rask_no B x N room hi mi dr ra rc E f hf hk hmi hdr w hBw hR hF
/-- what the document's New answers. -/
def RNewSays (N room : Nat) (w : World) (e : Ending) (w' : World) : Prop := ∃ x, e = .returned (.tuple #[.pointer (some ⟨x, 0, none⟩), .int .i64 0]) ∧ Rf w' w.heap.size x N room 0 0 0 none 0 [] ∧ Below w.heap.size w w'
set_option maxHeartbeats 1000000 in
set_option maxRecDepth 100000 in
theorem rnew6_no (n room : Int) (h : ¬ (1 ≤ n ∧ n ≤ 255 ∧ 1 ≤ room ∧ room ≤ 64)) (w : World) :
    Calls Tryz.prog 13 #[.int .i64 n, .int .i64 room] w fun e w' => e = .returned (.tuple #[.pointer none, .int .i64 2]) ∧ w' = w := by
  by_cases q1 : n < 1
  · clear h
    go_enter Tryz.func13, Tryz.ntmps13
    go_wp2
    go_ret2
    exact ⟨rfl, rfl⟩
  · by_cases q2 : 255 < n
    · clear h
      go_enter Tryz.func13, Tryz.ntmps13
      go_wp2
      go_ret2
      exact ⟨rfl, rfl⟩
    · by_cases q3 : room < 1
      · clear h
        go_enter Tryz.func13, Tryz.ntmps13
        go_wp2
        go_ret2
        exact ⟨rfl, rfl⟩
      · have q4 : 64 < room := by omega
        clear h
        go_enter Tryz.func13, Tryz.ntmps13
        go_wp2
        go_ret2
        exact ⟨rfl, rfl⟩
set_option maxHeartbeats 1000000 in
set_option maxRecDepth 100000 in
theorem rnew6_yes (N room : Nat) (h1 : 1 ≤ N) (h2 : N ≤ 255) (h3 : 1 ≤ room) (h4 : room ≤ 64) (w : World) :
    Calls Tryz.prog 13 #[.int .i64 (N : Nat), .int .i64 (room : Nat)] w (RNewSays N room w) := by
  have i1 : ¬ (N : Int) < 1 := by omega
  have i2 : ¬ (255 : Int) < (N : Int) := by omega
  have i3 : ¬ (room : Int) < 1 := by omega
  have i4 : ¬ (64 : Int) < (room : Int) := by omega
  go_enter Tryz.func13, Tryz.ntmps13
  go_wp2
  go_ret2
  exact ⟨_, rfl, ⟨heap_alloc_new _ _, Nat.le_refl _, World.ownsRow_nil _ _ _ _, fun e he => absurd he List.not_mem_nil, fun e he => absurd he List.not_mem_nil, ⟨h1, h2⟩, ⟨Nat.zero_le _, h3, h4⟩⟩, (Below.refl _ w).alloc (Nat.le_refl _) _⟩
end Go.Proofs.YtjnfghhochcpaaaGreat

namespace Go.Proofs.YtjnfghhochcpaaaGreat
open Go.RowKit Go.Shelf Go.Maps

/-- what the block of a list is: the cache's own, or one whose first cell is a slice. -/
def Kb (w : World) (x kb : Nat) : Prop := kb = x ∨ (∃ cur, w.heap[kb]? = some (.cells cur 29 (0, 0))) ∧ ∃ a n c, w.cell? ⟨kb, 0, none⟩ = some (.slice a n c)
theorem Rf.kbs {w : World} {B x N room : Nat} {hi mi dr : Int} {a : Option Addr} {c : Nat} {E : List En} (h : Rf w B x N room hi mi dr a c E) (hne : a = none ∨ E ≠ []) : Kb w x (rblk a x) := by
  rcases h.own.2 with ⟨hv, _⟩ | ⟨g, cap, cur, hv, _, hg, _⟩
  · injection hv with e1; subst e1; exact Or.inl rfl
  · injection hv with e1
    subst e1
    refine Or.inr ⟨⟨cur, hg⟩, ?_⟩
    rcases hne with hne | hne
    · cases hne
    · cases hE : E with
      | nil => exact absurd hE hne
      | cons e t =>
        have ho := h.own
        rw [hE] at ho
        exact ⟨e.a, e.K + 1, e.c, by show w.cell? ⟨g, 0, none⟩ = _; rw [ho.cellAt 0 (by simp)]; rfl⟩
section
variable {w w' : World} {x kb : Nat} {N room hi mi dr : Int} {a : Option Addr} {n c : Nat}
theorem But.at6 (h : But x kb w w') (hx : Rb6 w x N room a n c hi mi dr) (hk : Kb w x kb) {i : Nat} {vs : Array Value} {t : TypeId} {z : Nat × Nat} (hc : w.heap[i]? = some (.cells vs t z)) (h1 : t ≠ 104) (h2 : t ≠ 29) : w'.heap[i]? = w.heap[i]? := by
  have nx : i ≠ x := fun e => by
    rw [e, hx] at hc
    injection hc with hc
    injection hc with _ h3
    exact h1 h3.symm
  refine h.block i (Array.getElem?_eq_some_iff.1 hc).1 nx (fun e => ?_)
  rcases hk with hk | ⟨⟨cur, hk⟩, _⟩
  · exact nx (e.trans hk)
  · rw [e, hk] at hc
    injection hc with hc
    injection hc with _ h3
    exact h2 h3.symm
theorem But.map6 (h : But x kb w w') (hx : Rb6 w x N room a n c hi mi dr) (hk : Kb w x kb) {i : Nat} {o : Obj} (hc : w.heap[i]? = some o) (hno : ∀ vs t z, o ≠ .cells vs t z) : w'.heap[i]? = w.heap[i]? := by
  have nx : i ≠ x := fun e => by
    rw [e, hx] at hc
    injection hc with hc
    exact hno _ _ _ hc.symm
  refine h.block i (Array.getElem?_eq_some_iff.1 hc).1 nx (fun e => ?_)
  rcases hk with hk | ⟨⟨cur, hk⟩, _⟩
  · exact nx (e.trans hk)
  · rw [e, hk] at hc
    injection hc with hc
    exact hno _ _ _ hc.symm
theorem IsField.but6 {fb : Nat} (h : IsField fb w) (hB : But x kb w w') (hx : Rb6 w x N room a n c hi mi dr) (hk : Kb w x kb) : IsField fb w' := by
  have h0 := (h 0 (by omega)).1
  have nx : fb ≠ x := fun e => by
    rw [e, hx.c0] at h0
    cases h0
  have hh := hB.block fb (World.block_lt_of_cell? _ _ h0) nx (fun e => by
    rcases hk with hk | ⟨_, a', n', c', hk⟩
    · exact nx (e.trans hk)
    · rw [e, hk] at h0
      cases h0)
  intro j hj
  have hj' := h j hj
  refine ⟨?_, ?_⟩
  · simp only [World.cell?, hh]; exact hj'.1
  · simp only [World.frozen?, hh]; exact hj'.2
theorem Bl.but6 {g n' cap : Nat} {h : Nat → Nat} (y : Bl w g n' cap h) (hB : But x kb w w') (hx : Rb6 w x N room a n c hi mi dr) (hk : Kb w x kb) : Bl w' g n' cap h := by
  obtain ⟨vs, h1, h2⟩ := y
  exact ⟨vs, (hB.at6 hx hk h1 (by decide) (by decide)).trans h1, h2⟩
theorem Gr.but6 {B G n' cap : Nat} {bI l c' : Nat → Nat} {f : Nat → Nat → Nat} (y : Gr w B G n' cap bI l c' f) (hB : But x kb w w') (hx : Rb6 w x N room a n c hi mi dr) (hk : Kb w x kb) : Gr w' B G n' cap bI l c' f := by
  obtain ⟨vs, h1, h2, h3⟩ := y.blk
  exact ⟨⟨vs, (hB.at6 hx hk h1 (by decide) (by decide)).trans h1, h2, h3⟩, fun i hi => (y.row i hi).but6 hB hx hk, y.lc, y.nc, y.lo, y.inj, y.bm, y.up⟩
theorem Cd.but6 {cb fb G N' K : Nat} {b2 : Nat → Nat} (y : Cd w cb fb G N' K b2) (hB : But x kb w w') (hx : Rb6 w x N room a n c hi mi dr) (hk : Kb w x kb) : Cd w' cb fb G N' K b2 :=
  ⟨(hB.at6 hx hk y.blk (by decide) (by decide)).trans y.blk, y.fi.but6 hB hx hk, y.tb.but6 hB hx hk, y.k1, y.kn, y.nm⟩
theorem Ent.but6 {N' : Nat} {L : List Lit} {T : Lit → Tv} (h : Ent w N' L T) (hB : But x kb w w') (hx : Rb6 w x N room a n c hi mi dr) (hk : Kb w x kb) : Ent w' N' L T := fun kl hkl => by
  obtain ⟨K, f, g, bI, u, e, h1, h2, h3, h4, h5⟩ := h kl hkl
  exact ⟨K, f, g, bI, u, e, h1, h2, h3, h4, h5.but6 hB hx hk⟩
/-- our cache, where the document's is written on. -/
theorem Ca.but6 {N' room' c0 cb s b : Nat} {hi' mi' : Int} {L : List Lit} {T : Lit → Tv} (h : Ca w N' room' c0 cb s b hi' mi' L T) (hB : But x kb w w') (hx : Rb6 w x N room a n c hi mi dr) (hk : Kb w x kb) : Ca w' N' room' c0 cb s b hi' mi' L T := by
  refine ⟨(hB.at6 hx hk h.blk (by decide) (by decide)).trans h.blk, let ⟨fb, G, b2, hc⟩ := h.co; ⟨fb, G, b2, hc.but6 hB hx hk⟩, ⟨(hB.at6 hx hk h.sh.blk (by decide) (by decide)).trans h.sh.blk, h.sh.map.kept ?_, h.sh.inc, h.sh.top, h.sh.room⟩, h.ent.but6 hB hx hk, h.nm, h.cnt⟩
  obtain ⟨es, clock, hb⟩ := h.sh.map.blk
  exact hB.map6 hx hk hb (fun vs t z e => by cases e)
end
/-- the document's cache, where ours is written on. -/
theorem Rf.but {w w' : World} {s b room' : Nat} {hi' mi' tp' : Int} {L : List Lit} {T : Lit → Tv} {B x N room : Nat} {hi mi dr : Int} {a : Option Addr} {c : Nat} {E : List En} (h : Rf w B x N room hi mi dr a c E) (hB : But s b w w') (S : Sh w s b room' hi' mi' tp' L T) : Rf w' B x N room hi mi dr a c E :=
  ⟨(hB.at_ S h.blk (by decide)).trans h.blk, h.bx, own_blk6 h.own (fun g cur _ hg => hB.at_ S hg (by decide)), fun e he => own_blk6 (h.key e he) (fun g cur _ hg => hB.at_ S hg (by decide)), h.ok, h.nm, h.room⟩
end Go.Proofs.YtjnfghhochcpaaaGreat

namespace Go.Proofs.YtjnfghhochcpaaaGreat
open Go.RowKit Go.Shelf

theorem own_mono {w : World} {B B' : Nat} {e : TypeId} {s : Nat} {v : Value} {n : Nat} {xs : List Value} (h : w.ownsRow B' e s v n xs) (hB : B ≤ B') : w.ownsRow B e s v n xs := by
  refine ⟨h.1, ?_⟩
  rcases h.2 with hn | ⟨g, cap, cur, hv, hb, rest⟩
  · exact Or.inl hn
  · exact Or.inr ⟨g, cap, cur, hv, Nat.le_trans hB hb, rest⟩
/-- what the document's cache is behind an ask. -/
def RAsked (B x N room : Nat) (hi mi dr : Int) (ra : Option Addr) (E : List En) (k : Lit) (w w' : World) : Prop :=
  ∃ (a' : Option Addr) (c' : Nat) (dr' : Int) (E' : List En), Rf w' B x N room (askH (E.map En.lit) k hi) (askM (E.map En.lit) k mi) dr' a' c' E' ∧ E'.map En.lit = askL room (E.map En.lit) k ∧
    (dr = mi - (E.length : Nat) → dr' = askM (E.map En.lit) k mi - (E'.length : Nat)) ∧ E' ≠ [] ∧ But x (rblk ra x) w w'
/-- what the document's Turn answers. -/
def RcTurnSays (B x N room : Nat) (hi mi dr : Int) (ra : Option Addr) (E : List En) (K : Int) (m : Nat) (h : Nat → Int) (w : World) (e : Ending) (w' : World) : Prop :=
  (∃ Er : Int, Er ≠ 0 ∧ e = .returned (.tuple #[.slice none 0 0, .int .i64 Er]) ∧ ((¬ (1 ≤ K ∧ K ≤ N) ∧ Er = 2) ∨ (1 ≤ K ∧ K ≤ N ∧ Chk h m N K.toNat Er)) ∧ Below w.heap.size w w') ∨
  (1 ≤ K ∧ K ≤ N ∧ Chk h m N K.toNat 0 ∧ ∃ G sc b c, e = .returned (.tuple #[.slice (some ⟨G, 0, none⟩) K.toNat sc, .int .i64 0]) ∧ Gr w' w.heap.size G K.toNat sc b (fun _ => K.toNat) c (trn h K.toNat) ∧ RAsked B x N room hi mi dr ra E (kk K.toNat h) w w')
set_option maxHeartbeats 4000000 in
set_option maxRecDepth 100000 in
theorem rcturn_any (B x N room : Nat) (hi mi dr : Int) (ra : Option Addr) (rc : Nat) (E : List En) (K : Int) (a : Option Addr) (m cap : Nat) (h : Nat → Int) (hm : m ≤ 900000) (hmc : m ≤ cap) (hcm : cap ≤ maxLen) (hnd : (E.map En.lit).Nodup) (hhi : 0 ≤ hi ∧ hi ≤ 10000000000) (hmi : 0 ≤ mi ∧ mi ≤ 10000000000) (hdr : 0 ≤ dr ∧ dr ≤ 10000000000) (hne : ra = none ∨ E ≠ []) (w : World) (hBw : B ≤ w.heap.size) (hR : Rf w B x N room hi mi dr ra rc E) (hS : Si w a m h) :
    Calls Tryz.prog 17 #[.pointer (some ⟨x, 0, none⟩), .int .i64 K, .slice a m cap] w (RcTurnSays B x N room hi mi dr ra E K m h w) := by
  have HR := Lib.hid hR; have HS := Lib.hid hS; have HND := Lib.hid hnd; have HNE := Lib.hid hne
  have hN := hR.nm
  have x0 := hR.blk.c0
  clear hR hS hnd hne
  go_enter Tryz.func17, Tryz.ntmps17
  go_wp2_with fail
  by_cases hKN : 1 ≤ K ∧ K ≤ (N : Int)
  rotate_left
  · refine (rnew_no (N : Nat) K (by omega) _).mono ?_
    rintro e w1 ⟨rfl, hB1⟩
    have HB1 := Lib.hid hB1; have HKN := Lib.hid hKN
    clear hB1 hKN
    go_wp2
    go_ret2
    exact Or.inl ⟨2, by omega, rfl, Or.inl ⟨HKN.out, rfl⟩, HB1.out⟩
  obtain ⟨k, rfl⟩ : ∃ k : Nat, K = (k : Nat) := ⟨K.toNat, by omega⟩
  have hk1 : 1 ≤ k := by omega
  have hk2 : k ≤ N := by omega
  refine (rnew_yes N k hk1 hk2 hN.2 _).mono ?_
  rintro e w1 ⟨rfl, hC, hB1⟩
  have HC := Lib.hid hC; have HB1 := Lib.hid hB1
  clear hC hB1 x0
  go_wp2_with fail
  refine (rTurn_any w.heap.size N k a m cap h hk1 hk2 hN.2 (by omega) _ HC.out (HS.out.same HB1.out)).mono ?_
  rintro e w2 (⟨Er, hE, hc, he⟩ | ⟨hc, G, sc, b, c, rfl, hG, hB2⟩)
  · obtain ⟨rfl, hB2⟩ := he
    have g1 : (Er != 0) = true := by simp [hE]
    have HB2 := Lib.hid (HB1.out.trans (hB2.mono HB1.out.size)); have HE := Lib.hid hE; have HCK := Lib.hid hc
    clear hB2 hE hc
    go_wp2
    go_ret2
    exact Or.inl ⟨Er, HE.out, rfl, Or.inr ⟨by omega, by omega, by rw [Int.toNat_natCast]; exact HCK.out⟩, HB2.out⟩
  · have HB2 := Lib.hid (HB1.out.trans (hB2.mono HB1.out.size)); have HG := Lib.hid (hG.mono HB1.out.size); have HCK := Lib.hid hc
    have hgood := good_of hk1 hk2 hN.2 hc
    have HGOOD := Lib.hid hgood
    have hkm : k ≤ m := by have := hgood.1.2.2.1; omega
    clear hB2 hG hc hgood
    go_wp2_with fail
    refine (rkey_any (k : Nat) a m cap h (by omega) hmc hcm _ (HS.out.same HB2.out)).mono ?_
    rintro e w3 (⟨h1, _⟩ | ⟨_, _, ka, kc, rfl, hO, hB3⟩)
    · exact absurd ⟨by omega, by omega⟩ h1
    rw [Int.toNat_natCast] at hO ⊢
    have HB3 := Lib.hid (HB2.out.trans (hB3.mono HB2.out.size)); have HG3 := Lib.hid (HG.out.same hB3)
    have HO3 := Lib.hid (own_mono hO (Nat.le_trans hBw HB2.out.size))
    have HR3 := Lib.hid (HR.out.same HB3.out)
    clear hO hB3
    go_wp2_with fail
    refine (rask_any B x N room hi mi dr ra rc E ⟨ka, kc, k, h⟩ ⟨hk1, hk2, fun i hi => HGOOD.out.2.1 i (Nat.lt_of_lt_of_le hi hkm)⟩ HND.out hhi hmi hdr _ (Nat.le_trans hBw HB3.out.size) HR3.out HO3.out).mono ?_
    rintro e w4 ⟨rfl, a', c', dr', E', hR', hL', hd', hB4⟩
    have HG4 := Lib.hid (HG3.out.but6 hB4 HR3.out.blk (HR3.out.kbs HNE.out))
    have HAS := Lib.hid (show RAsked B x N room hi mi dr ra E (kk k h) w w4 from ⟨a', c', dr', E', hR', hL', hd', fun e => by
      have h9 := last_in room (E.map En.lit) (⟨ka, kc, k, h⟩ : En).lit
      rw [← hL', e] at h9
      exact absurd h9 List.not_mem_nil, (But.of HB3.out).trans hB4⟩)
    clear hR' hL' hd' hB4
    go_wp2
    go_ret2
    exact Or.inr ⟨by omega, by omega, by rw [Int.toNat_natCast]; exact HCK.out, G, sc, b, c, by rw [Int.toNat_natCast]; rfl, by rw [Int.toNat_natCast]; exact HG4.out, by rw [Int.toNat_natCast]; exact HAS.out⟩
end Go.Proofs.YtjnfghhochcpaaaGreat

namespace Go.Proofs.YtjnfghhochcpaaaGreat
open Go.RowKit Go.Shelf

set_option maxHeartbeats 4000000 in
set_option maxRecDepth 100000 in
theorem same6_any (N rm c0 cb s b : Nat) (hi mi : Int) (L : List Lit) (T : Lit → Tv) (B x N' room : Nat) (dr : Int) (ra : Option Addr) (rc : Nat) (E : List En) (hE : E.length = L.length) (hdr : dr = mi - (L.length : Nat)) (hbig : hi + mi ≤ 10000000000) (w : World) (hC : Ca w N rm c0 cb s b hi mi L T) (hR : Rf w B x N' room hi mi dr ra rc E) :
    Calls Tryz.prog 26 #[.pointer (some ⟨c0, 0, none⟩), .pointer (some ⟨x, 0, none⟩)] w fun e w' => e = .returned (.bool true) ∧ Below w.heap.size w w' := by
  have HBLK := hR.blk
  rw [hE] at HBLK
  subst hdr
  have HC := Lib.hid (castat_any N rm c0 cb s b hi mi L T hbig w.drew (hC.same (below_dr (Below.refl _ w) 1)))
  generalize L.length = ln at HBLK HC
  have HX2 := Lib.hid (fun (W : World) (hW : Below w.heap.size w W) => (HBLK.same hW).c2)
  have HX3 := Lib.hid (fun (W : World) (hW : Below w.heap.size w W) => (HBLK.same hW).c3)
  have HX4 := Lib.hid (fun (W : World) (hW : Below w.heap.size w W) => (HBLK.same hW).c4)
  have HX5 := Lib.hid (fun (W : World) (hW : Below w.heap.size w W) => (HBLK.same hW).c5)
  obtain ⟨dd, hdd⟩ : ∃ dd, dd = mi - (ln : Nat) := ⟨_, rfl⟩
  unfold StatSays at HC
  rw [← hdd] at HX5 HC
  clear hC hR hE HBLK hdd
  go_enter Tryz.func26, Tryz.ntmps26
  go_wp2_with fail
  refine wp_region_held_drew (S := fun W => Below w.heap.size w W) (by kernel_rfl) (below_dr (Below.refl _ w) 1) (fun hHeld => ?_)
  refine wpAnyH_take (i := 0) (oi := ⟨some 5, .move (.tmp 0), _, _, _, none⟩) (v := (.pointer (some ⟨c0, 0, none⟩))) rfl (by kernel_rfl) (by kernel_rfl) (by kernel_rfl) (fun _ _ _ h => h) (Or.inl ⟨by rfl, fun W hW => ?_⟩) (by assumption) ?_
  · go_simp
  simp only [Act.put, List.setIfInBounds_toArray, List.set_cons_zero, List.set_cons_succ]
  refine wpAnyH_take (i := 2) (oi := ⟨some 7, .move (.tmp 1), _, _, _, none⟩) (v := (.pointer (some ⟨x, 0, none⟩))) rfl (by kernel_rfl) (by kernel_rfl) (by kernel_rfl) (fun _ _ _ h => h) (Or.inl ⟨by rfl, fun W hW => ?_⟩) (by assumption) ?_
  · go_simp
  simp only [Act.put, List.setIfInBounds_toArray, List.set_cons_zero, List.set_cons_succ]
  refine wpAnyH_take (i := 3) (oi := ⟨some 8, .nilCheck (.tmp 7), _, _, _, none⟩) (v := (.pointer (some ⟨x, 0, none⟩))) rfl (by kernel_rfl) (by kernel_rfl) (by kernel_rfl) (fun _ _ _ h => h) (Or.inl ⟨by rfl, fun W hW => ?_⟩) (by assumption) ?_
  · go_simp
  simp only [Act.put, List.setIfInBounds_toArray, List.set_cons_zero, List.set_cons_succ]
  refine wpAnyH_take (i := 4) (oi := ⟨some 9, .fieldAddr 104 (.tmp 8) 2, _, _, _, none⟩) (v := (.pointer (some ⟨x, 2, none⟩))) rfl (by kernel_rfl) (by kernel_rfl) (by kernel_rfl) (fun _ _ _ h => h) (Or.inl ⟨by rfl, fun W hW => ?_⟩) (by assumption) ?_
  · go_simp
  simp only [Act.put, List.setIfInBounds_toArray, List.set_cons_zero, List.set_cons_succ]
  refine wpAnyH_take (i := 5) (oi := ⟨some 10, .load 102 (.tmp 9), _, _, _, none⟩) (v := (.slice ra ln rc)) rfl (by kernel_rfl) (by kernel_rfl) (by kernel_rfl) (fun _ _ _ h => h) (Or.inl ⟨by rfl, fun W hW => ?_⟩) (by assumption) ?_
  · have := HX2.out W hW; go_simp
  simp only [Act.put, List.setIfInBounds_toArray, List.set_cons_zero, List.set_cons_succ]
  refine wpAnyH_take (i := 6) (oi := ⟨some 11, .call { callee := .builtin .len, args := #[.tmp 10], argTypes := #[102] }, _, _, _, none⟩) (v := (.int .i64 (ln : Nat))) rfl (by kernel_rfl) (by kernel_rfl) (by kernel_rfl) (fun _ _ _ h => h) (Or.inl ⟨by rfl, fun W hW => ?_⟩) (by assumption) ?_
  · go_simp
  simp only [Act.put, List.setIfInBounds_toArray, List.set_cons_zero, List.set_cons_succ]
  refine wpAnyH_take (i := 7) (oi := ⟨some 12, .move (.tmp 1), _, _, _, none⟩) (v := (.pointer (some ⟨x, 0, none⟩))) rfl (by kernel_rfl) (by kernel_rfl) (by kernel_rfl) (fun _ _ _ h => h) (Or.inl ⟨by rfl, fun W hW => ?_⟩) (by assumption) ?_
  · go_simp
  simp only [Act.put, List.setIfInBounds_toArray, List.set_cons_zero, List.set_cons_succ]
  refine wpAnyH_take (i := 8) (oi := ⟨some 13, .nilCheck (.tmp 12), _, _, _, none⟩) (v := (.pointer (some ⟨x, 0, none⟩))) rfl (by kernel_rfl) (by kernel_rfl) (by kernel_rfl) (fun _ _ _ h => h) (Or.inl ⟨by rfl, fun W hW => ?_⟩) (by assumption) ?_
  · go_simp
  simp only [Act.put, List.setIfInBounds_toArray, List.set_cons_zero, List.set_cons_succ]
  refine wpAnyH_take (i := 9) (oi := ⟨some 14, .fieldAddr 104 (.tmp 13) 3, _, _, _, none⟩) (v := (.pointer (some ⟨x, 3, none⟩))) rfl (by kernel_rfl) (by kernel_rfl) (by kernel_rfl) (fun _ _ _ h => h) (Or.inl ⟨by rfl, fun W hW => ?_⟩) (by assumption) ?_
  · go_simp
  simp only [Act.put, List.setIfInBounds_toArray, List.set_cons_zero, List.set_cons_succ]
  refine wpAnyH_take (i := 10) (oi := ⟨some 15, .load 3 (.tmp 14), _, _, _, none⟩) (v := (.int .i64 hi)) rfl (by kernel_rfl) (by kernel_rfl) (by kernel_rfl) (fun _ _ _ h => h) (Or.inl ⟨by rfl, fun W hW => ?_⟩) (by assumption) ?_
  · have := HX3.out W hW; go_simp
  simp only [Act.put, List.setIfInBounds_toArray, List.set_cons_zero, List.set_cons_succ]
  refine wpAnyH_take (i := 11) (oi := ⟨some 16, .move (.tmp 1), _, _, _, none⟩) (v := (.pointer (some ⟨x, 0, none⟩))) rfl (by kernel_rfl) (by kernel_rfl) (by kernel_rfl) (fun _ _ _ h => h) (Or.inl ⟨by rfl, fun W hW => ?_⟩) (by assumption) ?_
  · go_simp
  simp only [Act.put, List.setIfInBounds_toArray, List.set_cons_zero, List.set_cons_succ]
  refine wpAnyH_take (i := 12) (oi := ⟨some 17, .nilCheck (.tmp 16), _, _, _, none⟩) (v := (.pointer (some ⟨x, 0, none⟩))) rfl (by kernel_rfl) (by kernel_rfl) (by kernel_rfl) (fun _ _ _ h => h) (Or.inl ⟨by rfl, fun W hW => ?_⟩) (by assumption) ?_
  · go_simp
  simp only [Act.put, List.setIfInBounds_toArray, List.set_cons_zero, List.set_cons_succ]
  refine wpAnyH_take (i := 13) (oi := ⟨some 18, .fieldAddr 104 (.tmp 17) 4, _, _, _, none⟩) (v := (.pointer (some ⟨x, 4, none⟩))) rfl (by kernel_rfl) (by kernel_rfl) (by kernel_rfl) (fun _ _ _ h => h) (Or.inl ⟨by rfl, fun W hW => ?_⟩) (by assumption) ?_
  · go_simp
  simp only [Act.put, List.setIfInBounds_toArray, List.set_cons_zero, List.set_cons_succ]
  refine wpAnyH_take (i := 14) (oi := ⟨some 19, .load 3 (.tmp 18), _, _, _, none⟩) (v := (.int .i64 mi)) rfl (by kernel_rfl) (by kernel_rfl) (by kernel_rfl) (fun _ _ _ h => h) (Or.inl ⟨by rfl, fun W hW => ?_⟩) (by assumption) ?_
  · have := HX4.out W hW; go_simp
  simp only [Act.put, List.setIfInBounds_toArray, List.set_cons_zero, List.set_cons_succ]
  refine wpAnyH_take (i := 15) (oi := ⟨some 20, .move (.tmp 1), _, _, _, none⟩) (v := (.pointer (some ⟨x, 0, none⟩))) rfl (by kernel_rfl) (by kernel_rfl) (by kernel_rfl) (fun _ _ _ h => h) (Or.inl ⟨by rfl, fun W hW => ?_⟩) (by assumption) ?_
  · go_simp
  simp only [Act.put, List.setIfInBounds_toArray, List.set_cons_zero, List.set_cons_succ]
  refine wpAnyH_take (i := 16) (oi := ⟨some 21, .nilCheck (.tmp 20), _, _, _, none⟩) (v := (.pointer (some ⟨x, 0, none⟩))) rfl (by kernel_rfl) (by kernel_rfl) (by kernel_rfl) (fun _ _ _ h => h) (Or.inl ⟨by rfl, fun W hW => ?_⟩) (by assumption) ?_
  · go_simp
  simp only [Act.put, List.setIfInBounds_toArray, List.set_cons_zero, List.set_cons_succ]
  refine wpAnyH_take (i := 17) (oi := ⟨some 22, .fieldAddr 104 (.tmp 21) 5, _, _, _, none⟩) (v := (.pointer (some ⟨x, 5, none⟩))) rfl (by kernel_rfl) (by kernel_rfl) (by kernel_rfl) (fun _ _ _ h => h) (Or.inl ⟨by rfl, fun W hW => ?_⟩) (by assumption) ?_
  · go_simp
  simp only [Act.put, List.setIfInBounds_toArray, List.set_cons_zero, List.set_cons_succ]
  refine wpAnyH_take (i := 18) (oi := ⟨some 23, .load 3 (.tmp 22), _, _, _, none⟩) (v := (.int .i64 dd)) rfl (by kernel_rfl) (by kernel_rfl) (by kernel_rfl) (fun _ _ _ h => h) (Or.inl ⟨by rfl, fun W hW => ?_⟩) (by assumption) ?_
  · have := HX5.out W hW; go_simp
  simp only [Act.put, List.setIfInBounds_toArray, List.set_cons_zero, List.set_cons_succ]
  refine wpAnyH_take (i := 19) (oi := ⟨some 24, .build 88 #[(0, .tmp 11), (1, .tmp 15), (2, .tmp 19), (3, .tmp 23)], _, _, _, none⟩) (v := (.agg #[.int .i64 (ln : Nat), .int .i64 hi, .int .i64 mi, .int .i64 dd])) rfl (by kernel_rfl) (by kernel_rfl) (by kernel_rfl) (fun _ _ _ h => h) (Or.inl ⟨by rfl, fun W hW => ?_⟩) (by assumption) ?_
  · go_simp
  simp only [Act.put, List.setIfInBounds_toArray, List.set_cons_zero, List.set_cons_succ]
  refine wpAnyH_ready (rs := [1]) (by kernel_rfl) (by simp) (AllReadyH.cons rfl (fun KK hKK => ?_) AllReadyH.nil)
  go_simp
  refine HC.out.mono ?_
  rintro e w4 ⟨rfl, hB4⟩
  dsimp only
  refine hKK.out _ _ ((below_dr (Below.refl _ w) 1).trans hB4) (fun hHeld => ?_)
  clear hKK KK HC hB4
  try simp only [Act.put, List.setIfInBounds_toArray, List.set_cons_zero, List.set_cons_succ]
  refine wpAnyH_take (i := 20) (oi := ⟨some 25, .binOp .eql 88 (.tmp 6) (.tmp 24) 88, _, _, _, none⟩) (v := (.bool true)) rfl (by kernel_rfl) (by kernel_rfl) (by kernel_rfl) (fun _ _ _ h => h) (Or.inl ⟨by rfl, fun W hW => ?_⟩) (by assumption) ?_
  · go_simp
  simp only [Act.put, List.setIfInBounds_toArray, List.set_cons_zero, List.set_cons_succ]
  refine wpAnyH_take (i := 21) (oi := ⟨some 4, .assign (.tmp 25), _, _, _, none⟩) (v := (.bool true)) rfl (by kernel_rfl) (by kernel_rfl) (by kernel_rfl) (fun _ _ _ h => h) (Or.inl ⟨by rfl, fun W hW => ?_⟩) (by assumption) ?_
  · go_simp
  simp only [Act.put, List.setIfInBounds_toArray, List.set_cons_zero, List.set_cons_succ]
  refine wpAnyH_done (by kernel_rfl) ?_ _
  have HBX := Lib.hid hHeld
  clear hHeld
  go_wp2
  go_ret
  exact ⟨rfl, HBX.out⟩
end Go.Proofs.YtjnfghhochcpaaaGreat

namespace Go.Proofs.YtjnfghhochcpaaaGreat
open Go.RowKit Go.Shelf

theorem nums_s (g : Nat → Int) (n : Nat) : nums g n ++ [Value.int .i64 (g n)] = nums g (n + 1) := by
  unfold nums
  rw [List.range_succ, List.map_append]; rfl
theorem own_cap {w : World} {B n c : Nat} {e : TypeId} {a : Option Addr} {xs : List Value} (h : w.ownsRow B e 1 (.slice a n c) n xs) : n ≤ c ∧ c ≤ maxLen := by
  rcases h.2 with ⟨hv, h0⟩ | ⟨g, cap, cur, hv, _, _, h1, h2, _⟩
  · injection hv with _ _ e3
    exact ⟨by omega, by rw [e3]; exact Nat.zero_le _⟩
  · injection hv with _ _ e3
    exact ⟨by omega, by rw [e3]; exact h2⟩
/-- what the document's Decode answers. -/
def RcDecSays (B x N room : Nat) (hi mi dr : Int) (ra : Option Addr) (E : List En) (K : Int) (m : Nat) (h : Nat → Int) (l : Nat → Nat) (f : Nat → Nat → Nat) (w : World) (e : Ending) (w' : World) : Prop :=
  (∃ Er : Int, Er ≠ 0 ∧ e = .returned (.tuple #[.slice none 0 0, .int .i64 Er]) ∧ ((¬ (1 ≤ K ∧ K ≤ N) ∧ Er = 2) ∨ (1 ≤ K ∧ K ≤ N ∧ DChk h l m N K.toNat Er)) ∧ Below w.heap.size w w') ∨
  (1 ≤ K ∧ K ≤ N ∧ DChk h l m N K.toNat 0 ∧ ∃ G sc b c, e = .returned (.tuple #[.slice (some ⟨G, 0, none⟩) K.toNat sc, .int .i64 0]) ∧ Gr w' w.heap.size G K.toNat sc b (fun _ => l 0) c (dcd h K.toNat f) ∧ RAsked B x N room hi mi dr ra E (kk K.toNat h) w w')
set_option maxHeartbeats 8000000 in
set_option maxRecDepth 100000 in
theorem rcdec_any (B x N room : Nat) (hi mi dr : Int) (ra : Option Addr) (rc : Nat) (E : List En) (K : Int) (a : Option Addr) (m cap : Nat) (h : Nat → Int) (r : Nat → Option Addr) (l c : Nat → Nat) (f : Nat → Nat → Nat) (hm : m ≤ 900000) (hl : ∀ i, i < m → l i ≤ 1000000) (hnd : (E.map En.lit).Nodup) (hhi : 0 ≤ hi ∧ hi ≤ 10000000000) (hmi : 0 ≤ mi ∧ mi ≤ 10000000000) (hdr : 0 ≤ dr ∧ dr ≤ 10000000000) (hne : ra = none ∨ E ≠ []) (w : World) (hBw : B ≤ w.heap.size) (hR : Rf w B x N room hi mi dr ra rc E) (hS : Hs w a m h r l c f) :
    Calls Tryz.prog 22 #[.pointer (some ⟨x, 0, none⟩), .int .i64 K, .slice a m cap] w (RcDecSays B x N room hi mi dr ra E K m h l f w) := by
  obtain ⟨i0, hi0, hz0, hz1, hz2⟩ := info_parts Tryz.infoInt3
  have HI := Lib.hid hi0; have HZ0 := Lib.hid hz0; have HZ1 := Lib.hid hz1; have HZ2 := Lib.hid hz2
  have HR := Lib.hid hR; have HS := Lib.hid hS; have HND := Lib.hid hnd; have HNE := Lib.hid hne; have HL := Lib.hid hl
  have hN := hR.nm
  have x0 := hR.blk.c0
  clear hR hS hnd hne hi0 hz0 hz1 hz2 hl
  go_enter Tryz.func22, Tryz.ntmps22
  go_wp2_with fail
  by_cases hKN : 1 ≤ K ∧ K ≤ (N : Int)
  rotate_left
  · refine (rnew_no (N : Nat) K (by omega) _).mono ?_
    rintro e w1 ⟨rfl, hB1⟩
    have HB1 := Lib.hid hB1; have HKN := Lib.hid hKN
    clear hB1 hKN
    go_wp2
    go_ret2
    exact Or.inl ⟨2, by omega, rfl, Or.inl ⟨HKN.out, rfl⟩, HB1.out⟩
  obtain ⟨k, rfl⟩ : ∃ k : Nat, K = (k : Nat) := ⟨K.toNat, by omega⟩
  have hk1 : 1 ≤ k := by omega
  have hk2 : k ≤ N := by omega
  refine (rnew_yes N k hk1 hk2 hN.2 _).mono ?_
  rintro e w1 ⟨rfl, hC, hB1⟩
  have HC := Lib.hid hC; have HB1 := Lib.hid hB1
  clear hC hB1 x0
  go_wp2_with fail
  refine (rdecode_any w.heap.size N k a m cap h r l c f hk1 hk2 hN.2 (by omega) HL.out _ HC.out (HS.out.same HB1.out)).mono ?_
  rintro e w2 (⟨Er, hE, hc, he⟩ | ⟨hc, G, sc, b, cc, rfl, hG, hB2⟩)
  · obtain ⟨rfl, hB2⟩ := he
    have g1 : (Er != 0) = true := by simp [hE]
    have HB2 := Lib.hid (HB1.out.trans (hB2.mono HB1.out.size)); have HE := Lib.hid hE; have HCK := Lib.hid hc
    clear hB2 hE hc
    go_wp2
    go_ret2
    exact Or.inl ⟨Er, HE.out, rfl, Or.inr ⟨by omega, by omega, by rw [Int.toNat_natCast]; exact HCK.out⟩, HB2.out⟩
  · have HB2 := Lib.hid (HB1.out.trans (hB2.mono HB1.out.size)); have HG := Lib.hid (hG.mono HB1.out.size); have HCK := Lib.hid hc
    have hc2 : Chk h m N k 0 := by
      rcases hc with ⟨_, e⟩ | ⟨_, hc⟩
      · cases e
      · exact hc
    have hgood := good_of hk1 hk2 hN.2 hc2
    have HGOOD := Lib.hid hgood
    have hkm : k ≤ m := by have := hgood.1.2.2.1; omega
    clear hB2 hG hc hc2 hgood
    go_wp2_with fail
    go_loopw [12, 13] (fun vo vi wr => ∃ (t : Nat) (oa : Option Addr) (oc : Nat), t ≤ m ∧ vi = .int .i64 (t : Nat) ∧ vo = .slice oa t oc ∧ wr.ownsRow w2.heap.size 3 1 (.slice oa t oc) t (nums h t) ∧ Below w2.heap.size w2 wr) (fun _ i _ => m - (intOf i).toNat)
    case atStart => exact ⟨0, none, 0, by omega, rfl, rfl, World.ownsRow_nil _ _ _ _, Below.refl _ _⟩
    case round =>
      rename_i wr
      obtain ⟨t, oa, oc, ht, rfl, rfl, hO, hB⟩ := hrel
      have HO := Lib.hid hO; have HB := Lib.hid hB
      have hszr := hB.size
      by_cases htm : t < m
      · have j1 : (t : Int) < (m : Int) := by omega
        obtain ⟨hb, ho, ea, c1, _⟩ := ((HS.out.same HB2.out).same hB).cell t htm
        have EA := Lib.hid (show a = some ⟨hb, ho, none⟩ from ea)
        subst ea
        generalize hv : h t = v at c1
        have HV := Lib.hid hv
        have hal : Below wr.heap.size wr (wr.alloc (.cells #[.int .i64 v] 3)) := (Below.refl _ wr).alloc (Nat.le_refl _) _
        have HOX := Lib.hid (own_below hO hal)
        have HCX := Lib.hid (lit_cells (heap_alloc_new wr (.cells #[.int .i64 v] 3)))
        have HBX := Lib.hid (hB.trans (hal.mono hszr))
        have hbx : w2.heap.size ≤ (wr.alloc (.cells #[.int .i64 v] 3)).heap.size := by simp; omega
        clear hO hB hv hal
        go_wp2_with (at_builtin; refine wpList_append_own _ rfl _ _ 29 rfl w2.heap.size 3 i0 (.int .i64 0) 1 8 Tryz.underlying29 HI.out HZ0.out HZ1.out HZ2.out rfl (by decide) _ t (nums h t) rfl HOX.out ⟨wr.heap.size, 0, none⟩ 1 1 [.int .i64 v] rfl rfl HCX.out (fun u hu => by rcases List.mem_singleton.1 hu with rfl; rfl) (by unfold maxLen; omega) (by omega) hbx ?_; intro v9 w9 hown9 hgrow9 _; obtain ⟨a9, c9, rfl⟩ := slice_own hown9; have HB9 := Lib.hid (HBX.out.grown hgrow9 hbx (fun j hj => (HOX.out.lt j hj).1)); have HO9 := Lib.hid hown9; clear hown9 hgrow9)
        go_roundw
        case rel => exact ⟨t + 1, a9, c9, by omega, by go_num, rfl, by have h9 := HO9.out; rw [← HV.out, nums_s] at h9; exact h9, HB9.out⟩
        case measure => simp [intOf]; omega
      · obtain rfl : t = m := by omega
        have j1 : ¬ (t : Int) < (t : Int) := by omega
        have hcap := own_cap hO
        have HBr := Lib.hid (HB2.out.trans (hB.mono HB2.out.size)); have HGr := Lib.hid (HG.out.same hB)
        clear hO hB
        go_wp2_with fail
        refine (rkey_any (k : Nat) oa t oc h (by omega) hcap.1 hcap.2 _ (si_own HO.out)).mono ?_
        rintro e w3 (⟨h1, _⟩ | ⟨_, _, ka, kc, rfl, hO, hB3⟩)
        · exact absurd ⟨by omega, by omega⟩ h1
        rw [Int.toNat_natCast] at hO ⊢
        have HB3 := Lib.hid (HBr.out.trans (hB3.mono HBr.out.size)); have HG3 := Lib.hid (HGr.out.same hB3)
        have HO3 := Lib.hid (own_mono hO (Nat.le_trans hBw HBr.out.size))
        have HR3 := Lib.hid (HR.out.same HB3.out)
        clear hO hB3
        go_wp2_with fail
        refine (rask_any B x N room hi mi dr ra rc E ⟨ka, kc, k, h⟩ ⟨hk1, hk2, fun i hi => HGOOD.out.2.1 i (Nat.lt_of_lt_of_le hi hkm)⟩ HND.out hhi hmi hdr _ (Nat.le_trans hBw HB3.out.size) HR3.out HO3.out).mono ?_
        rintro e w4 ⟨rfl, a', c', dr', E', hR', hL', hd', hB4⟩
        have HG4 := Lib.hid (HG3.out.but6 hB4 HR3.out.blk (HR3.out.kbs HNE.out))
        have HAS := Lib.hid (show RAsked B x N room hi mi dr ra E (kk k h) w w4 from ⟨a', c', dr', E', hR', hL', hd', fun e => by
          have h9 := last_in room (E.map En.lit) (⟨ka, kc, k, h⟩ : En).lit
          rw [← hL', e] at h9
          exact absurd h9 List.not_mem_nil, (But.of HB3.out).trans hB4⟩)
        clear hR' hL' hd' hB4
        go_wp2
        go_ret2
        exact Or.inr ⟨by omega, by omega, by rw [Int.toNat_natCast]; exact HCK.out, G, sc, b, cc, by rw [Int.toNat_natCast]; rfl, by rw [Int.toNat_natCast]; exact HG4.out, by rw [Int.toNat_natCast]; exact HAS.out⟩
end Go.Proofs.YtjnfghhochcpaaaGreat

namespace Go.Proofs.YtjnfghhochcpaaaGreat
open Go.RowKit Go.Shelf Go.Maps

/-- what Turn answers, and that what it answers lies behind all that is kept. -/
def CTurnApart (N room c0 cb s b : Nat) (hi mi : Int) (L : List Lit) (K : Int) (m : Nat) (h : Nat → Int) (w : World) (e : Ending) (w' : World) : Prop :=
  (∃ E : Int, E ≠ 0 ∧ e = .returned (.tuple #[.slice none 0 0, .int .i64 E]) ∧ ((¬ (1 ≤ K ∧ K ≤ N) ∧ E = 2) ∨ (1 ≤ K ∧ K ≤ N ∧ Chk h m N K.toNat E)) ∧ Below w.heap.size w w') ∨
  (1 ≤ K ∧ K ≤ N ∧ Chk h m N K.toNat 0 ∧ ∃ G bI c T' w1, e = .returned (.tuple #[.slice (some ⟨G, 0, none⟩) K.toNat K.toNat, .int .i64 0]) ∧ Gr w' w1.heap.size G K.toNat K.toNat bI (fun _ => K.toNat) c (trn h K.toNat) ∧
    Ca w1 N room c0 cb s b (askH L (kk K.toNat h) hi) (askM L (kk K.toNat h) mi) (askL room L (kk K.toNat h)) T' ∧ But s b w w1 ∧ Below w1.heap.size w1 w')
set_option maxHeartbeats 1000000 in
set_option maxRecDepth 100000 in
theorem caturn_apart (N room c0 cb s b : Nat) (hi mi : Int) (L : List Lit) (T : Lit → Tv) (K : Int) (a : Option Addr) (m cap : Nat) (h : Nat → Int) (hm : m ≤ 1000000000000) (hmc : m ≤ cap) (hcm : cap ≤ maxLen) (hbig : hi + mi ≤ 10000000000) (w : World) (hC : Ca w N room c0 cb s b hi mi L T) (hS : Si w a m h) :
    Calls Tryz.prog 16 #[.pointer (some ⟨c0, 0, none⟩), .int .i64 K, .slice a m cap] w (CTurnApart N room c0 cb s b hi mi L K m h w) := by
  have HC := Lib.hid hC; have HS := Lib.hid hS
  have hN2 := hC.nm.2
  clear hC hS
  go_enter Tryz.func16, Tryz.ntmps16
  go_wp2_with fail
  refine (canone_any N room c0 cb s b hi mi L T _ HC.out).mono ?_
  rintro e w' ⟨rfl, hw'⟩
  rw [hw']; clear hw'
  go_wp2_with fail
  refine (ask_any N room c0 cb s b hi mi L T K a m cap h hm hmc hcm hbig _ HC.out HS.out).mono ?_
  rintro e w1 (⟨E, hE, rfl, hc, hB⟩ | ⟨hK1, hK2, hc, G, bI, T', rfl, hG, hCa, hB⟩)
  · have g1 : (E != 0) = true := by simp [hE]
    have HE := Lib.hid hE; have HCK := Lib.hid hc; have HB := Lib.hid hB
    clear hE hc hB
    go_wp2
    go_ret2
    exact Or.inl ⟨E, HE.out, rfl, HCK.out, HB.out⟩
  · obtain ⟨k, rfl⟩ : ∃ k : Nat, K = (k : Nat) := ⟨K.toNat, by omega⟩
    rw [Int.toNat_natCast] at hc hG hCa ⊢
    have HCK := Lib.hid hc; have HG := Lib.hid hG; have HCA := Lib.hid hCa; have HB := Lib.hid hB
    clear hc hG hCa hB
    go_wp2_with fail
    refine (copied_any 0 G k k bI (trn h k) (by omega) (by omega) (by omega) _ HG.out).mono ?_
    rintro e w2 ⟨G2, b2, c2, rfl, hG2, hB2⟩
    have HG2 := Lib.hid hG2; have HB2 := Lib.hid hB2
    clear hG2 hB2
    go_wp2
    go_ret2
    refine Or.inr ⟨by omega, by omega, by rw [Int.toNat_natCast]; exact HCK.out, G2, b2, c2, T', w1, by rw [Int.toNat_natCast]; rfl, ?_, ?_, HB.out, HB2.out⟩
    · rw [Int.toNat_natCast]; exact HG2.out
    · rw [Int.toNat_natCast]; exact HCA.out
end Go.Proofs.YtjnfghhochcpaaaGreat

namespace Go.Proofs.YtjnfghhochcpaaaGreat
open Go.RowKit Go.Shelf

set_option maxHeartbeats 2000000 in
set_option maxRecDepth 100000 in
theorem over_any (g n cap : Nat) (vs : Array Value) (hn : n ≤ 1000000000) (hnc : n ≤ cap) (hcm : cap ≤ maxLen) (w : World) (hg : w.heap[g]? = some (.cells vs 5 (0, 0))) (hs : vs.size = cap) :
    Calls Tryz.prog 19 #[.slice (some ⟨g, 0, none⟩) n cap] w fun e w' => e = .returned (.tuple #[]) ∧ w.grownBy w' (some g) := by
  have g1 : IntKind.i64.wrap ((n : Int) + 12) = (n : Int) + 12 := IntWalk.i64_in _ (by omega)
  have HG := Lib.hid hg
  clear hg
  by_cases hlt : (n : Int) + 12 < (cap : Int)
  · obtain ⟨q, hq⟩ : ∃ q : Nat, (n : Int) + 12 = (q : Nat) := ⟨n + 12, by omega⟩
    have hqc : q ≤ cap := by omega
    have hqn : q ≤ n + 12 := by omega
    rw [hq] at g1 hlt
    have g2 : (q : Int) ≤ (cap : Int) := by omega
    go_enter Tryz.func19, Tryz.ntmps19
    go_wp2_with fail
    go_loopw [3] (fun vi wr => ∃ (t : Nat) (us : Array Value), t ≤ q ∧ vi = .int .i64 (t : Nat) ∧ wr.heap[g]? = some (.cells us 5 (0, 0)) ∧ us.size = cap ∧ w.grownBy wr (some g)) (fun i _ => q - (intOf i).toNat)
    case atStart => exact ⟨0, vs, by omega, rfl, HG.out, hs, grownBelow (Below.refl _ _) _⟩
    case round =>
      obtain ⟨t, us, ht, rfl, hu, hus, hgr⟩ := hrel
      have HU := Lib.hid hu; have HGR := Lib.hid hgr
      by_cases htq : t < q
      · have j1 : (t : Int) < (q : Int) := by omega
        obtain ⟨v0, c1⟩ : ∃ v0, wr.cell? ⟨g, t, none⟩ = some v0 := ⟨us[t]'(by omega), by rw [cell_of_row wr g t _ _ _ hu]; exact Array.getElem?_eq_getElem (by omega)⟩
        have f1 := frozen_of_row wr g t _ _ hu
        have HM := Lib.hid (markByte_any 2 (t : Nat) (by omega) (by omega) (by omega) (by omega))
        clear hu hgr
        go_wp2_with fail
        refine (HM.out _).mono ?_
        rintro e w' ⟨rfl, hw'⟩
        rw [hw']; clear hw'
        go_wp2
        go_roundw
        case rel => exact ⟨t + 1, us.setIfInBounds t (.int .u8 (mkB 2 (t : Nat))), by omega, by go_num, by rw [heap_setCell_same wr g t _ _ _ HU.out], by simpa using hus, by
          have h1 := HGR.out
          exact ⟨h1.os, h1.tape, h1.output, by simpa using h1.size, fun k hk hne => (heap_setCell_other _ _ _ _ (fun e => hne (by rw [e]))).trans (h1.block k hk hne)⟩⟩
        case measure => simp [intOf]; omega
      · obtain rfl : t = q := by omega
        have j1 : ¬ (t : Int) < (t : Int) := by omega
        clear hu hgr
        go_wp2
        go_end0
        exact ⟨rfl, HGR.out⟩
  · have hcn : cap ≤ n + 12 := by omega
    obtain ⟨q, hqe⟩ : ∃ q : Nat, q = cap := ⟨_, rfl⟩
    have hqc : q ≤ cap := by omega
    have hqn : q ≤ n + 12 := by omega
    have g2 : (q : Int) ≤ (cap : Int) := by omega
    go_enter Tryz.func19, Tryz.ntmps19
    go_wp2_with fail
    go_loopw [3] (fun vi wr => ∃ (t : Nat) (us : Array Value), t ≤ q ∧ vi = .int .i64 (t : Nat) ∧ wr.heap[g]? = some (.cells us 5 (0, 0)) ∧ us.size = cap ∧ w.grownBy wr (some g)) (fun i _ => q - (intOf i).toNat)
    case atStart => exact ⟨0, vs, by omega, rfl, HG.out, hs, grownBelow (Below.refl _ _) _⟩
    case round =>
      obtain ⟨t, us, ht, rfl, hu, hus, hgr⟩ := hrel
      have HU := Lib.hid hu; have HGR := Lib.hid hgr
      by_cases htq : t < q
      · have j1 : (t : Int) < (cap : Int) := by omega
        obtain ⟨v0, c1⟩ : ∃ v0, wr.cell? ⟨g, t, none⟩ = some v0 := ⟨us[t]'(by omega), by rw [cell_of_row wr g t _ _ _ hu]; exact Array.getElem?_eq_getElem (by omega)⟩
        have f1 := frozen_of_row wr g t _ _ hu
        have HM := Lib.hid (markByte_any 2 (t : Nat) (by omega) (by omega) (by omega) (by omega))
        clear hu hgr
        go_wp2_with fail
        refine (HM.out _).mono ?_
        rintro e w' ⟨rfl, hw'⟩
        rw [hw']; clear hw'
        go_wp2
        go_roundw
        case rel => exact ⟨t + 1, us.setIfInBounds t (.int .u8 (mkB 2 (t : Nat))), by omega, by go_num, by rw [heap_setCell_same wr g t _ _ _ HU.out], by simpa using hus, by
          have h1 := HGR.out
          exact ⟨h1.os, h1.tape, h1.output, by simpa using h1.size, fun k hk hne => (heap_setCell_other _ _ _ _ (fun e => hne (by rw [e]))).trans (h1.block k hk hne)⟩⟩
        case measure => simp [intOf]; omega
      · obtain rfl : t = cap := by omega
        have j1 : ¬ (t : Int) < (t : Int) := by omega
        clear hu hgr
        go_wp2
        go_end0
        exact ⟨rfl, HGR.out⟩
end Go.Proofs.YtjnfghhochcpaaaGreat

namespace Go.Proofs.YtjnfghhochcpaaaGreat
open Go.RowKit Go.Shelf

theorem over_at {w w' : World} {g : Nat} {us : Array Value} (hb : w.grownBy w' (some g)) (hg : w.heap[g]? = some (.cells us 5 (0, 0))) {i : Nat} {vs : Array Value} {t : TypeId} {z : Nat × Nat} (hc : w.heap[i]? = some (.cells vs t z)) (ht : t ≠ 5) : w'.heap[i]? = w.heap[i]? :=
  hb.block i (Array.getElem?_eq_some_iff.1 hc).1 (fun e => by
    have e' := Option.some.inj e
    rw [e', hg] at hc
    injection hc with hc
    injection hc with _ h2
    exact ht h2.symm)
/-- the document's cache, where a row of bytes is written on. -/
theorem Rf.over {w w' : World} {g : Nat} {us : Array Value} {B x N room : Nat} {hi mi dr : Int} {a : Option Addr} {c : Nat} {E : List En} (h : Rf w B x N room hi mi dr a c E) (hb : w.grownBy w' (some g)) (hg : w.heap[g]? = some (.cells us 5 (0, 0))) : Rf w' B x N room hi mi dr a c E :=
  ⟨(over_at hb hg h.blk (by decide)).trans h.blk, h.bx, own_blk6 h.own (fun k cur _ hk => over_at hb hg hk (by decide)), fun e he => own_blk6 (h.key e he) (fun k cur _ hk => over_at hb hg hk (by decide)), h.ok, h.nm, h.room⟩
end Go.Proofs.YtjnfghhochcpaaaGreat
