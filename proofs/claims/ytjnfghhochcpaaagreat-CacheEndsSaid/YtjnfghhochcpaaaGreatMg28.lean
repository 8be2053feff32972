import Derived.Test.YtjnfghhochcpaaaGreatMg26
import Derived.Test.YtjnfghhochcpaaaGreatMg27
namespace Go.Proofs.YtjnfghhochcpaaaGreat
open Go.RowKit Go.Shelf Go.Maps

theorem rd_no (w : World) : Rd w none 0 0 (fun _ => none) (fun _ => 0) (fun _ => 0) (fun _ _ => 0) := ⟨Nat.le_refl _, by unfold maxLen; omega, fun _ _ => (by omega : 0 < 256), fun _ => ⟨rfl, rfl⟩, fun _ e => (by cases e), fun _ e => (by cases e), fun i hi => absurd hi (Nat.not_lt_zero i)⟩
theorem nocoder_any (w : World) : Calls Tryz.prog 65 #[.pointer none] w fun e w' => e = .returned (.bool true) ∧ w' = w := by
  go_enter Tryz.func65, Tryz.ntmps65
  go_wp2
  go_ret
  exact ⟨rfl, rfl⟩
theorem noturn_any (a : Option Addr) (m cap : Nat) (w : World) : Calls Tryz.prog 45 #[.pointer none, .slice a m cap] w fun e w' => e = .returned (.tuple #[.slice none 0 0, .int .i64 1]) ∧ w' = w := by
  go_enter Tryz.func45, Tryz.ntmps45
  go_wp2_with fail
  refine (nocoder_any _).mono ?_
  rintro e w' ⟨rfl, hw'⟩
  rw [hw']; clear hw'
  go_wp2
  go_ret2
  exact ⟨rfl, rfl⟩
theorem nodec_any (a : Option Addr) (m cap : Nat) (w : World) : Calls Tryz.prog 42 #[.pointer none, .slice a m cap] w fun e w' => e = .returned (.tuple #[.slice none 0 0, .int .i64 1]) ∧ Below w.heap.size w w' := by
  go_enter Tryz.func42, Tryz.ntmps42
  go_wp2_with fail
  refine (nocoder_any _).mono ?_
  rintro e w' ⟨rfl, hw'⟩
  rw [hw']; clear hw'
  go_wp2
  go_ret2
  exact ⟨rfl, (Below.refl _ w).alloc (Nat.le_refl _) _⟩
theorem ask_sum (L : List Lit) (k : Lit) (hi mi : Int) : askH L k hi + askM L k mi = hi + mi + 1 := by
  unfold askH askM
  by_cases h : k ∈ L
  · rw [if_pos h, if_pos h]; omega
  · rw [if_neg h, if_neg h]; omega
/-- an ask's block. -/
def xcells (wh kq lg : Int) (fs : Nat) (ia : Option Addr) (il ic : Nat) : Array Value := #[.int .i64 wh, .int .i64 kq, .int .i64 lg, .int .u8 (fs : Nat), .slice ia il ic]
def Xb (w : World) (x : Nat) (wh kq lg : Int) (fs : Nat) (ia : Option Addr) (il ic : Nat) : Prop := w.heap[x]? = some (.cells (xcells wh kq lg fs ia il ic) 41 (0, 0))
section
variable {w w' : World} {x : Nat} {wh kq lg : Int} {fs : Nat} {ia : Option Addr} {il ic : Nat}
theorem Xb.c0 (h : Xb w x wh kq lg fs ia il ic) : w.cell? ⟨x, 0, none⟩ = some (.int .i64 wh) := by rw [cell_of_row w x 0 _ _ _ h]; rfl
theorem Xb.c1 (h : Xb w x wh kq lg fs ia il ic) : w.cell? ⟨x, 1, none⟩ = some (.int .i64 kq) := by rw [cell_of_row w x 1 _ _ _ h]; rfl
theorem Xb.c2 (h : Xb w x wh kq lg fs ia il ic) : w.cell? ⟨x, 2, none⟩ = some (.int .i64 lg) := by rw [cell_of_row w x 2 _ _ _ h]; rfl
theorem Xb.c3 (h : Xb w x wh kq lg fs ia il ic) : w.cell? ⟨x, 3, none⟩ = some (.int .u8 (fs : Nat)) := by rw [cell_of_row w x 3 _ _ _ h]; rfl
theorem Xb.c4 (h : Xb w x wh kq lg fs ia il ic) : w.cell? ⟨x, 4, none⟩ = some (.slice ia il ic) := by rw [cell_of_row w x 4 _ _ _ h]; rfl
theorem Xb.same (h : Xb w x wh kq lg fs ia il ic) (hB : Below w.heap.size w w') : Xb w' x wh kq lg fs ia il ic := (hB.block x (Array.getElem?_eq_some_iff.1 h).1).trans h
theorem Xb.but {s b room : Nat} {hi mi tp : Int} {L : List Lit} {T : Lit → Tv} (h : Xb w x wh kq lg fs ia il ic) (hB : But s b w w') (S : Sh w s b room hi mi tp L T) : Xb w' x wh kq lg fs ia il ic := (hB.at_ S h (by decide)).trans h
end
end Go.Proofs.YtjnfghhochcpaaaGreat

namespace Go.Proofs.YtjnfghhochcpaaaGreat
open Go.RowKit Go.Shelf Go.Maps

/-- what the one keeps is the end of what the other keeps: it is full where it is not all. -/
def Suf (r : Nat) (L M : List Lit) : Prop := ∃ P, M = P ++ L ∧ (P = [] ∨ L.length = r)
theorem Suf.mem {r : Nat} {L M : List Lit} (h : Suf r L M) {k : Lit} (hk : k ∈ L) : k ∈ M := by
  obtain ⟨P, rfl, _⟩ := h
  exact List.mem_append_right _ hk
theorem out_append (P L : List Lit) (k : Lit) : out (P ++ L) k = out P k ++ out L k := by unfold out; rw [List.filter_append]
theorem Suf.ask {r q : Nat} {L M : List Lit} (h : Suf r L M) (hr : 1 ≤ r) (hrq : r ≤ q) (hL : L.length ≤ r) (hM : M.length ≤ q) (hd : M.Nodup) (k : Lit) : Suf r (askL r L k) (askL q M k) := by
  obtain ⟨P, rfl, hP⟩ := h
  obtain ⟨hdP, hdL, hdis⟩ := List.nodup_append.1 hd
  by_cases h1 : k ∈ L
  · have h2 : k ∉ P := fun hk => hdis k hk k h1 rfl
    rw [askL_yes h1, askL_yes (List.mem_append_right _ h1), out_append, out_no h2, List.append_assoc]
    refine ⟨P, rfl, hP.imp id fun e => ?_⟩
    have := out_len hdL h1
    rw [List.length_append, List.length_singleton]; omega
  · rw [askL_no h1]
    by_cases h2 : k ∈ P
    · have hl : L.length = r := by
        rcases hP with e | e
        · rw [e] at h2; cases h2
        · exact e
      rw [askL_yes (List.mem_append_left _ h2), out_append, out_no h1]
      unfold dropL
      rw [if_pos hl]
      cases L with
      | nil => simp only [List.length_nil] at hl; omega
      | cons x t =>
        refine ⟨out P k ++ [x], by simp, Or.inr ?_⟩
        simp only [List.length_cons] at hl
        simp only [List.tail_cons, List.length_append, List.length_singleton]; omega
    · have h3 : k ∉ P ++ L := fun hk => (List.mem_append.1 hk).elim h2 h1
      rw [askL_no h3]
      unfold dropL
      by_cases hl : L.length = r
      · rw [if_pos hl]
        cases L with
        | nil => simp only [List.length_nil] at hl; omega
        | cons x t =>
          simp only [List.length_cons] at hl
          have hlen : (t ++ [k]).length = r := by simp only [List.length_append, List.length_singleton]; omega
          by_cases hq : (P ++ x :: t).length = q
          · rw [if_pos hq]
            cases P with
            | nil => exact ⟨[], by simp, Or.inl rfl⟩
            | cons y P' => exact ⟨P' ++ [x], by simp, Or.inr hlen⟩
          · rw [if_neg hq]
            exact ⟨P ++ [x], by simp, Or.inr hlen⟩
      · have hp : P = [] := hP.resolve_right hl
        subst hp
        rw [if_neg hl, if_neg (by simp only [List.nil_append] at hM ⊢; omega)]
        exact ⟨[], by simp, Or.inl rfl⟩
theorem Suf.hit {r : Nat} {L M : List Lit} (h : Suf r L M) {hi hj : Int} (hh : hi ≤ hj) (k : Lit) : askH L k hi ≤ askH M k hj := by
  by_cases h1 : k ∈ L
  · rw [askH_yes h1, askH_yes (h.mem h1)]; omega
  · rw [askH_no h1]
    by_cases h2 : k ∈ M
    · rw [askH_yes h2]; omega
    · rw [askH_no h2]; exact hh
theorem full_ask {q : Nat} {M : List Lit} {mi : Int} (hd : M.Nodup) (h : mi ≤ q → (M.length : Int) = mi) (k : Lit) (h' : askM M k mi ≤ q) : ((askL q M k).length : Int) = askM M k mi := by
  by_cases h1 : k ∈ M
  · rw [askM_yes h1] at h' ⊢
    have h2 := out_len hd h1
    have h3 := h h'
    rw [askL_yes h1, List.length_append, List.length_singleton]; omega
  · rw [askM_no h1] at h' ⊢
    have h3 := h (by omega)
    rw [askL_no h1]
    unfold dropL
    rw [if_neg (by omega), List.length_append, List.length_singleton]; omega
theorem last_in (r : Nat) (L : List Lit) (k : Lit) : k ∈ askL r L k := by
  unfold askL
  split
  · exact List.mem_append_right _ (List.mem_singleton.2 rfl)
  · exact List.mem_append_right _ (List.mem_singleton.2 rfl)
end Go.Proofs.YtjnfghhochcpaaaGreat

namespace Go.Proofs.YtjnfghhochcpaaaGreat
open Go.RowKit Go.Shelf

theorem Tryz.infoInts : (Tryz.prog.info? 29).map (fun i => (i.zero, i.size, i.bytes)) = some (some (.slice none 0 0), 1, 24) := by kernel_rfl
section
variable {w w' : World} {x : Nat} {N room hi mi dr : Int} {a : Option Addr} {n c : Nat}
theorem Rb6.s2 (h : Rb6 w x N room a n c hi mi dr) (a' : Option Addr) (n' c' : Nat) : Rb6 (w.setCell ⟨x, 2, none⟩ (.slice a' n' c')) x N room a' n' c' hi mi dr := by
  show (w.setCell ⟨x, 2, none⟩ (.slice a' n' c')).heap[x]? = _
  rw [heap_setCell_same w x 2 _ _ _ h]; rfl
theorem Rb6.s3 (h : Rb6 w x N room a n c hi mi dr) (v : Int) : Rb6 (w.setCell ⟨x, 3, none⟩ (.int .i64 v)) x N room a n c v mi dr := by
  show (w.setCell ⟨x, 3, none⟩ (.int .i64 v)).heap[x]? = _
  rw [heap_setCell_same w x 3 _ _ _ h]; rfl
theorem Rb6.s4 (h : Rb6 w x N room a n c hi mi dr) (v : Int) : Rb6 (w.setCell ⟨x, 4, none⟩ (.int .i64 v)) x N room a n c hi v dr := by
  show (w.setCell ⟨x, 4, none⟩ (.int .i64 v)).heap[x]? = _
  rw [heap_setCell_same w x 4 _ _ _ h]; rfl
theorem Rb6.s5 (h : Rb6 w x N room a n c hi mi dr) (v : Int) : Rb6 (w.setCell ⟨x, 5, none⟩ (.int .i64 v)) x N room a n c hi mi v := by
  show (w.setCell ⟨x, 5, none⟩ (.int .i64 v)).heap[x]? = _
  rw [heap_setCell_same w x 5 _ _ _ h]; rfl
theorem Rb6.free (h : Rb6 w x N room a n c hi mi dr) (j : Nat) : w.frozen? ⟨x, j, none⟩ = false := frozen_of_row w x j _ _ h
end
/-- the block of a list, or the cache's own. -/
def rblk (a : Option Addr) (x : Nat) : Nat := match a with | some ad => ad.block | none => x
/-- an owned row, where blocks of another kind, or others, are written on. -/
theorem own_blk6 {w w' : World} {B : Nat} {e : TypeId} {s : Nat} {v : Value} {n : Nat} {xs : List Value} (h : w.ownsRow B e s v n xs) (hk : ∀ g cur, v.ownBlock = some g → w.heap[g]? = some (.cells cur e (0, 0)) → w'.heap[g]? = w.heap[g]?) : w'.ownsRow B e s v n xs := by
  refine ⟨h.1, ?_⟩
  rcases h.2 with hn | ⟨g, cap, cur, hv, hb, hg, rest⟩
  · exact Or.inl hn
  · exact Or.inr ⟨g, cap, cur, hv, hb, (hk g cur (by rw [hv]; rfl) hg).trans hg, rest⟩
/-- what an ask of the document's leaves: its own block, and the list's. -/
theorem own_but {w w' : World} {B x kb : Nat} {v : Value} {n : Nat} {xs : List Value} {N room hi mi dr : Int} {a : Option Addr} {m c : Nat} (h : w.ownsRow B 3 1 v n xs) (hB : But x kb w w') (hx : Rb6 w x N room a m c hi mi dr) (hk : kb = x ∨ ∃ cur, w.heap[kb]? = some (.cells cur 29 (0, 0))) : w'.ownsRow B 3 1 v n xs := by
  refine own_blk6 h fun g cur _ hg => hB.block g (Array.getElem?_eq_some_iff.1 hg).1 (fun e => ?_) (fun e => ?_)
  · rw [e, hx] at hg
    injection hg with hg
    injection hg with _ h2
    exact absurd h2 (by decide)
  · rcases hk with hk | ⟨cur', hk⟩
    · rw [e, hk, hx] at hg
      injection hg with hg
      injection hg with _ h2
      exact absurd h2 (by decide)
    · rw [e, hk] at hg
      injection hg with hg
      injection hg with _ h2
      exact absurd h2 (by decide)
theorem Rf.kb {w : World} {B x N room : Nat} {hi mi dr : Int} {a : Option Addr} {c : Nat} {E : List En} (h : Rf w B x N room hi mi dr a c E) : rblk a x = x ∨ ∃ cur, w.heap[rblk a x]? = some (.cells cur 29 (0, 0)) := by
  rcases h.own.2 with ⟨hv, _⟩ | ⟨g, cap, cur, hv, _, hg, _⟩
  · injection hv with e1; subst e1; exact Or.inl rfl
  · injection hv with e1; subst e1; exact Or.inr ⟨cur, hg⟩
theorem Rf.kb_ge {w : World} {B x N room : Nat} {hi mi dr : Int} {a : Option Addr} {c : Nat} {E : List En} (h : Rf w B x N room hi mi dr a c E) : B ≤ rblk a x := by
  rcases h.own.2 with ⟨hv, _⟩ | ⟨g, cap, cur, hv, hb, hg, _⟩
  · injection hv with e1; subst e1; exact h.bx
  · injection hv with e1; subst e1; exact hb
/-- what an ask leaves. -/
def RAskSays (B x N room : Nat) (hi mi dr : Int) (a : Option Addr) (E : List En) (k : Lit) (w : World) (e : Ending) (w' : World) : Prop :=
  e = .returned (.tuple #[]) ∧ ∃ (a' : Option Addr) (c' : Nat) (dr' : Int) (E' : List En), Rf w' B x N room (askH (E.map En.lit) k hi) (askM (E.map En.lit) k mi) dr' a' c' E' ∧ E'.map En.lit = askL room (E.map En.lit) k ∧
    (dr = mi - (E.length : Nat) → dr' = askM (E.map En.lit) k mi - (E'.length : Nat)) ∧ But x (rblk a x) w w'
theorem vs_cells {w : World} {B c : Nat} {a : Option Addr} {E : List En} (ho : w.ownsRow B 29 1 (.slice a E.length c) E.length (E.map En.v)) (g : Nat) (hg : a = some ⟨g, 0, none⟩) (d : Nat) : ∀ j u, ((E.drop d).map En.v)[j]? = some u → w.cell? ((⟨g, d, none⟩ : Addr).add j) = some u := by
  intro j u hu
  subst hg
  have hj : d + j < E.length := by
    rcases Nat.lt_or_ge (d + j) E.length with hj | hj
    · exact hj
    · rw [List.getElem?_eq_none (by rw [List.length_map, List.length_drop]; omega)] at hu; cases hu
  rw [Addr.add_lit, ho.cellAt _ (by omega), List.getElem?_map]
  rw [List.getElem?_map, List.getElem?_drop] at hu
  exact hu
theorem vs_one (E : List En) : ∀ u ∈ E.map En.v, u.oneCell' = true := by
  intro u hu
  obtain ⟨e, _, rfl⟩ := List.mem_map.1 hu
  rfl

theorem own_ne {w : World} {B x : Nat} {v : Value} {n s : Nat} {xs : List Value} {N room hi mi dr : Int} {a : Option Addr} {m c : Nat} (h : w.ownsRow B 29 s v n xs) (hx : Rb6 w x N room a m c hi mi dr) : some x ≠ v.ownBlock := by
  rcases h.2 with ⟨hv, _⟩ | ⟨g, cap, cur, hv, _, hg, _⟩
  · rw [hv]; simp [Value.ownBlock]
  · rw [hv]
    simp only [Value.ownBlock, ne_eq, Option.some.injEq]
    rintro rfl
    rw [hx] at hg
    injection hg with hg
    injection hg with _ h2
    exact absurd h2 (by decide)
theorem but_grown {w w' : World} {x n c : Nat} {ra : Option Addr} (hg : w.grownBy w' (Value.slice ra n c).ownBlock) : But x (rblk ra x) w w' := ⟨hg.os, hg.tape, hg.output, hg.size, fun k hk h1 h2 => hg.block k hk (by
  cases ra with
  | none => simp [Value.ownBlock]
  | some ad => simp only [Value.ownBlock, ne_eq, Option.some.injEq]; exact h2)⟩
theorem own_some {w : World} {B e n c : Nat} {a : Option Addr} {xs : List Value} (h : w.ownsRow B e 1 (.slice a (n + 1) c) (n + 1) xs) : ∃ g, a = some ⟨g, 0, none⟩ ∧ B ≤ g ∧ g < w.heap.size ∧ n + 1 ≤ c := by
  rcases h.2 with ⟨_, h0⟩ | ⟨g, cap, cur, hv, hb, hg, h1, _⟩
  · omega
  · injection hv with e1 e2 e3
    exact ⟨g, e1, hb, (Array.getElem?_eq_some_iff.1 hg).1, by omega⟩
theorem own_chain {w w' : World} {B x kb : Nat} {e : En} {N room hi mi dr : Int} {a : Option Addr} {m c : Nat} (h : w.ownsRow B 3 1 e.v (e.K + 1) (nums (kf e.K e.h) (e.K + 1))) (hB : But x kb w w') (hx : Rb6 w x N room a m c hi mi dr) (hk : kb = x ∨ ∃ cur, w.heap[kb]? = some (.cells cur 29 (0, 0))) : w'.ownsRow B 3 1 e.v (e.K + 1) (nums (kf e.K e.h) (e.K + 1)) := own_but h hB hx hk
/-- the row of lists, where the cache's block is written on. -/
theorem own_set6 {w w' : World} {B x n : Nat} {v : Value} {xs : List Value} {N room hi mi dr : Int} {a : Option Addr} {m c : Nat} (h : w.ownsRow B 29 1 v n xs) (hx : Rb6 w x N room a m c hi mi dr) (hB : But x x w w') : w'.ownsRow B 29 1 v n xs :=
  own_blk6 h (fun g cur hg hh => hB.block g (Array.getElem?_eq_some_iff.1 hh).1 (fun e => own_ne h hx (by rw [hg, e])) (fun e => own_ne h hx (by rw [hg, e])))
theorem But.self {w w' : World} {x kb : Nat} (h : But x x w w') : But x kb w w' := ⟨h.os, h.tape, h.output, h.size, fun k hk h1 _ => h.block k hk h1 h1⟩
set_option maxHeartbeats 8000000 in
set_option maxRecDepth 100000 in
theorem rask_no (B x N room : Nat) (hi mi dr : Int) (ra : Option Addr) (rc : Nat) (E : List En) (f : En) (hf : 1 ≤ f.K ∧ f.K ≤ N ∧ ∀ i, i < f.K → 0 ≤ f.h i ∧ f.h i < N) (hni : f.lit ∉ E.map En.lit) (hmi : 0 ≤ mi ∧ mi ≤ 10000000000) (hdr : 0 ≤ dr ∧ dr ≤ 10000000000) (w : World) (hBw : B ≤ w.heap.size) (hR : Rf w B x N room hi mi dr ra rc E) (hF : w.ownsRow B 3 1 f.v (f.K + 1) (nums (kf f.K f.h) (f.K + 1))) :
    Calls Tryz.prog 54 #[.pointer (some ⟨x, 0, none⟩), f.v] w (RAskSays B x N room hi mi dr ra E f.lit w) := by
  obtain ⟨fa, fc, k, h⟩ := f
  obtain ⟨i0, hi0, hz0, hz1, hz2⟩ := info_parts Tryz.infoInts
  have HI := Lib.hid hi0; have HZ0 := Lib.hid hz0; have HZ1 := Lib.hid hz1; have HZ2 := Lib.hid hz2
  have HR := Lib.hid hR; have HF := Lib.hid hF; have HOK := Lib.hid hf; have HNI := Lib.hid hni
  have hN := hR.nm
  clear hi0 hz0 hz1 hz2 hR hF hf hni
  show Calls Tryz.prog 54 #[.pointer (some ⟨x, 0, none⟩), .slice fa (k + 1) fc] w _
  have a1 : IntKind.i64.wrap (mi + 1) = mi + 1 := IntWalk.i64_in _ (by omega)
  have a2 : IntKind.i64.wrap (dr + 1) = dr + 1 := IntWalk.i64_in _ (by omega)
  go_enter Tryz.func54, Tryz.ntmps54
  go_wp2_with fail
  refine (rat_any x (N : Nat) (room : Nat) hi mi dr ra E.length rc _ _ _ _ fa (k + 1) fc (kf (k : Nat) h) (by have := HR.out.room; omega) (by have := HOK.out.2.1; omega) (fun i hi => by have := (HR.out.ok _ (getD_mem hi)).2.1; omega) _ HR.out.blk HR.out.ki (si_own HF.out)).mono ?_
  rintro e w1 ⟨v, rfl, hv, hq⟩
  have hB1 := drewb6 hq
  rcases hv with ⟨t, ht, rfl, he, _⟩ | ⟨rfl, _⟩
  · exact absurd (List.mem_map.2 ⟨_, getD_mem ht, ((eqk_lit (HR.out.ok _ (getD_mem ht)) hN.2).1 he).2.2⟩) HNI.out
  have HR1 := Lib.hid (HR.out.same hB1); have HF1 := Lib.hid (own_below HF.out hB1); have HB1 := Lib.hid hB1
  have hsz1 := hB1.size
  clear hq hB1
  have x2 := HR1.out.blk.c2; have x4 := HR1.out.blk.c4; have f4 := HR1.out.blk.free 4
  obtain ⟨w2, hw2⟩ : ∃ w2, w2 = (w1.setCell ⟨x, 4, none⟩ (.int .i64 (mi + 1))).alloc (.cells #[.slice fa (k + 1) fc] 29) := ⟨_, rfl⟩
  have hb12 : But x x w1 w2 := by rw [hw2]; exact (but_set w1).trans (But.of ((Below.refl _ _).alloc (Nat.le_refl _) _))
  have HX2 := Lib.hid (show Rb6 w2 x (N : Nat) (room : Nat) ra E.length rc hi (mi + 1) dr by rw [hw2]; exact (HR1.out.blk.s4 (mi + 1)).same ((Below.refl _ _).alloc (Nat.le_refl _) _))
  have HO2 := Lib.hid (own_blk6 (w' := w2) HR1.out.own (fun g cur hg hh => hb12.block g (Array.getElem?_eq_some_iff.1 hh).1 (fun e => own_ne HR1.out.own HR1.out.blk (by rw [hg, e])) (fun e => own_ne HR1.out.own HR1.out.blk (by rw [hg, e]))))
  have HC2 := Lib.hid (show ∀ j u, [Value.slice fa (k + 1) fc][j]? = some u → w2.cell? ((⟨w1.heap.size, 0, none⟩ : Addr).add j) = some u from fun j u hu => by
    have hh : w2.heap[w1.heap.size]? = some (.cells #[.slice fa (k + 1) fc] 29 (0, 0)) := by rw [hw2]; simpa using heap_alloc_new (w1.setCell ⟨x, 4, none⟩ (.int .i64 (mi + 1))) (.cells #[.slice fa (k + 1) fc] 29)
    rw [Addr.add_lit, Nat.zero_add, cell_of_row _ w1.heap.size j _ _ _ hh]
    simpa using hu)
  have HB12 := Lib.hid hb12
  have hsz2 : w1.heap.size ≤ w2.heap.size := hb12.size
  have HW2 := Lib.hid hw2
  have hroom := HR1.out.room
  clear hb12 hw2
  go_wp2_with (at_builtin; rw [← HW2.out]; refine wpList_append_own _ rfl _ _ 102 rfl B 29 i0 (.slice none 0 0) 1 24 Tryz.underlying102 HI.out HZ0.out HZ1.out HZ2.out rfl (by decide) _ E.length (E.map En.v) rfl HO2.out ⟨w1.heap.size, 0, none⟩ 1 1 [.slice fa (k + 1) fc] rfl rfl HC2.out (fun u hu => by rcases List.mem_singleton.1 hu with rfl; rfl) (by unfold maxLen; omega) (by omega) (by omega) ?_; intro v9 w9 hown9 hgrow9 _; obtain ⟨a9, c9, rfl⟩ := slice_own hown9; have HX9 := Lib.hid (show Rb6 w9 x (N : Nat) (room : Nat) ra E.length rc hi (mi + 1) dr from (hgrow9.block x HX2.out.lt (own_ne HO2.out HX2.out)).trans HX2.out); have HO9 := Lib.hid hown9; have HB29 := Lib.hid (but_grown (x := x) hgrow9); have x9 := HX9.out.c2; have f9 := HX9.out.free 2; clear hown9 hgrow9 x2 x4 f4)
  obtain ⟨w10, hw10⟩ : ∃ w10, w10 = w9.setCell ⟨x, 2, none⟩ (.slice a9 (E.length + 1) c9) := ⟨_, rfl⟩
  rw [← hw10]
  have hX10 : Rb6 w10 x (N : Nat) (room : Nat) a9 (E.length + 1) c9 hi (mi + 1) dr := by rw [hw10]; exact HX9.out.s2 _ _ _
  have hb910 : But x x w9 w10 := by rw [hw10]; exact but_set w9
  have HO10 := Lib.hid (own_set6 HO9.out HX9.out hb910)
  have hb110 : But x (rblk ra x) w1 w10 := (HB12.out.self.trans HB29.out).trans hb910.self
  have HB110 := Lib.hid hb110
  have hkey : ∀ e, e ∈ E ++ [⟨fa, fc, k, h⟩] → w10.ownsRow B 3 1 e.v (e.K + 1) (nums (kf e.K e.h) (e.K + 1)) := fun e he => by
    refine own_chain ?_ hb110 HR1.out.blk HR1.out.kb
    rcases List.mem_append.1 he with he | he
    · exact HR1.out.key e he
    · rcases List.mem_singleton.1 he with rfl
      exact HF1.out
  have hok : ∀ e, e ∈ E ++ [⟨fa, fc, k, h⟩] → 1 ≤ e.K ∧ e.K ≤ N ∧ ∀ i : Nat, i < e.K → 0 ≤ e.h i ∧ e.h i < (N : Int) := fun e he => by
    rcases List.mem_append.1 he with he | he
    · exact HR1.out.ok e he
    · rcases List.mem_singleton.1 he with rfl
      exact HOK.out
  have HKEY := Lib.hid hkey; have HOKE := Lib.hid hok
  have hsz10 : B ≤ w10.heap.size := by have := hb110.size; omega
  have y1 := hX10.c1; have y2 := hX10.c2
  have HX10 := Lib.hid hX10
  have hn : (E.map En.lit).length = E.length := List.length_map _
  clear hX10 hw10 hb910 hb110 hkey hok x9 f9
  by_cases hfull : E.length = room
  rotate_left
  · have g1 : ¬ (room : Int) < (E.length : Int) + 1 := by omega
    have g2 : ¬ (room : Int) < ((E.length + 1 : Nat) : Int) := by omega
    go_region
    go_wp2
    go_end0
    have hl1 : (E ++ [(⟨fa, fc, k, h⟩ : En)]).length = E.length + 1 := by rw [List.length_append, List.length_singleton]
    refine ⟨rfl, a9, c9, dr, E ++ [⟨fa, fc, k, h⟩], ⟨?_, HR1.out.bx, ?_, HKEY.out, HOKE.out, HR1.out.nm, ?_⟩, ?_, ?_, ?_⟩
    · rw [askH_no HNI.out, askM_no HNI.out, hl1]; exact HX10.out
    · rw [List.map_append, hl1]; exact HO10.out
    · rw [hl1]; omega
    · rw [askL_no HNI.out, List.map_append]
      unfold dropL
      rw [if_neg (by rw [hn]; exact hfull)]
      rfl
    · intro e; rw [askM_no HNI.out, hl1, e]; push_cast; omega
    · exact ((But.of HB1.out).trans HB110.out).trans (But.of (below_dr (Below.refl _ w10) 1))
  · obtain ⟨g9, rfl, hg9, hg9l, hc9⟩ := own_some HO10.out
    have g1 : (room : Int) < (E.length : Int) + 1 := by omega
    have g2 : (room : Int) < ((E.length + 1 : Nat) : Int) := by omega
    have HFL := Lib.hid hfull
    clear hfull
    go_region
    obtain ⟨wd, hwd⟩ : ∃ wd, wd = w10.drew := ⟨_, rfl⟩
    rw [← hwd]
    have hbd : Below w10.heap.size w10 wd := by rw [hwd]; exact below_dr (Below.refl _ w10) 1
    have hXd := HX10.out.same hbd
    have HXD := Lib.hid hXd
    have HOD := Lib.hid (own_below HO10.out hbd)
    have HBD := Lib.hid ((HB110.out).trans (But.of hbd))
    have x5 := hXd.c5; have f5 := hXd.free 5
    have hszd := hbd.size
    obtain ⟨w11, hw11⟩ : ∃ w11, w11 = (wd.setCell ⟨x, 5, none⟩ (.int .i64 (dr + 1))).alloc (.cells #[] 29) := ⟨_, rfl⟩
    have hbd11 : But x x wd w11 := by rw [hw11]; exact (but_set wd).trans (But.of ((Below.refl _ _).alloc (Nat.le_refl _) _))
    have HX11 := Lib.hid (show Rb6 w11 x (N : Nat) (room : Nat) (some ⟨g9, 0, none⟩) (E.length + 1) c9 hi (mi + 1) (dr + 1) by rw [hw11]; exact (hXd.s5 (dr + 1)).same ((Below.refl _ _).alloc (Nat.le_refl _) _))
    have z2 : ((wd.setCell ⟨x, 5, none⟩ (.int .i64 (dr + 1))).alloc (.cells #[] 29)).cell? ⟨x, 2, none⟩ = some (.slice (some ⟨g9, 0, none⟩) (E.length + 1) c9) := by have := HX11.out.c2; rw [hw11] at this; exact this
    have HO11 := Lib.hid (own_set6 HOD.out hXd hbd11)
    have HN11 := Lib.hid (show w11.ownsRow B 29 1 (.slice (some ⟨wd.heap.size, 0, none⟩) 0 0) 0 [] by
      have h9 := World.ownsRow_lit (base := B) (e := 29) (size := 1) (wd.setCell ⟨x, 5, none⟩ (.int .i64 (dr + 1))) #[] 0 (by simp; omega) (Nat.zero_le _) rfl
      rw [hw11]; simpa using h9)
    have hsz11 := hbd11.size
    have HB11 := Lib.hid hbd11; have HW11 := Lib.hid hw11
    have g3 : (1 : Int) ≤ (E.length : Int) + 1 := by omega
    have hxlt : x < wd.heap.size := hXd.lt
    obtain ⟨E2, hE2⟩ : ∃ E2, E2 = E ++ [(⟨fa, fc, k, h⟩ : En)] := ⟨_, rfl⟩
    have hl2 : E2.length = E.length + 1 := by rw [hE2, List.length_append, List.length_singleton]
    have HO2' := Lib.hid (show w11.ownsRow B 29 1 (.slice (some ⟨g9, 0, none⟩) E2.length c9) E2.length (E2.map En.v) by rw [hl2, hE2, List.map_append]; exact HO11.out)
    have HL2 := Lib.hid (show ((E2.drop 1).map En.v).length = E.length * 1 by rw [List.length_map, List.length_drop, hl2]; omega)
    have HE2 := Lib.hid hE2
    clear hwd hbd hXd hbd11 hw11 y1 y2 hE2
    go_wp2_with (at_builtin; (rw [← HW11.out]; refine wpList_append_own _ rfl _ _ 102 rfl B 29 i0 (.slice none 0 0) 1 24 Tryz.underlying102 HI.out HZ0.out HZ1.out HZ2.out rfl (by decide) _ 0 [] rfl HN11.out ⟨g9, 1, none⟩ E.length (c9 - 1) ((E2.drop 1).map En.v) rfl HL2.out (vs_cells HO2'.out g9 rfl 1) (vs_one _) (by unfold maxLen; omega) (by omega) (by omega) ?_; intro v12 w12 hown12 hgrow12 _; rw [Nat.zero_add, List.nil_append] at hown12; obtain ⟨a12, c12, rfl⟩ := slice_own hown12; have hX12 : Rb6 w12 x (N : Nat) (room : Nat) (some ⟨g9, 0, none⟩) (E.length + 1) c9 hi (mi + 1) (dr + 1) := (hgrow12.block x HX11.out.lt (fun e => by have e' : some x = some wd.heap.size := e; injection e' with e'; omega)).trans HX11.out; have HX12 := Lib.hid hX12; have HO12 := Lib.hid hown12; have HB12' := Lib.hid hgrow12; have x12 := hX12.c2; have f12 := hX12.free 2; clear hown12 hgrow12 hX12 z2 x5 f5))
    go_end0
    obtain ⟨w13, hw13⟩ : ∃ w13, w13 = w12.setCell ⟨x, 2, none⟩ (.slice a12 E.length c12) := ⟨_, rfl⟩
    rw [← hw13]
    have hb1213 : But x x w12 w13 := by rw [hw13]; exact but_set w12
    have hX13 : Rb6 w13 x (N : Nat) (room : Nat) a12 E.length c12 hi (mi + 1) (dr + 1) := by rw [hw13]; exact HX12.out.s2 _ _ _
    have hO13 := own_set6 HO12.out HX12.out hb1213
    have hb1112 : But x (rblk ra x) w1 w12 := by
      have h1 := (HBD.out).trans (HB11.out.self (kb := rblk ra x))
      have h2 := HB12'.out
      have h3 := HBD.out.size
      exact ⟨h2.os.trans h1.os, h2.tape.trans h1.tape, h2.output.trans h1.output, Nat.le_trans h1.size h2.size, fun j hj j1 j2 => (h2.block j (by omega) (fun e => by have e' : some j = some wd.heap.size := e; injection e' with e'; omega)).trans (h1.block j hj j1 j2)⟩
    have hb113 := hb1112.trans hb1213.self
    have hlen : (E2.drop 1).length = E.length := by rw [List.length_drop, hl2]; rfl
    have hsub : ∀ e, e ∈ E2.drop 1 → e ∈ E ++ [(⟨fa, fc, k, h⟩ : En)] := fun e he => by rw [← HE2.out]; exact List.mem_of_mem_drop he
    refine ⟨rfl, a12, c12, dr + 1, E2.drop 1, ⟨?_, HR1.out.bx, ?_, fun e he => ?_, fun e he => HOKE.out e (hsub e he), HR1.out.nm, ?_⟩, ?_, ?_, (But.of HB1.out).trans hb113⟩
    · rw [askH_no HNI.out, askM_no HNI.out, hlen]; exact hX13
    · rw [hlen]; exact hO13
    · refine own_chain ?_ hb113 HR1.out.blk HR1.out.kb
      rcases List.mem_append.1 (hsub e he) with he | he
      · exact HR1.out.key e he
      · rcases List.mem_singleton.1 he with rfl
        exact HF1.out
    · rw [hlen]; omega
    · rw [askL_no HNI.out]
      unfold dropL
      rw [if_pos (by rw [hn]; exact HFL.out), HE2.out]
      cases E with
      | nil => have := HFL.out; simp only [List.length_nil] at this; omega
      | cons y t => simp
    · intro e; rw [askM_no HNI.out, hlen, e]; omega
end Go.Proofs.YtjnfghhochcpaaaGreat
