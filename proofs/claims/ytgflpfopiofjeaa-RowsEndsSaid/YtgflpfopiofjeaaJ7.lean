import Derived.Test.YtgflpfopiofjeaaJ6
import Derived.Deep.RegionLaw
namespace Go.Proofs.Ytgflpfopiofjeaa
open Go.RowKit Go.Shelf

/-- a byte written: whichever. -/
theorem Bl.setX {w : World} {g n cap : Nat} {h : Nat → Nat} (hb : Bl w g n cap h) {j : Nat} (hj : j < n) (hy : Pf.By h) (hu : Pf.Up h n) (X : Int) :
    ∃ x, Bl (w.setCell ⟨g, j, none⟩ (.int .u8 (X % 256))) g n cap x ∧ Pf.By x ∧ Pf.Up x n := by
  obtain ⟨v, hv, e⟩ : ∃ v : Nat, v < 256 ∧ X % 256 = (v : Int) := ⟨(X % 256).toNat, by omega, by omega⟩
  rw [e]
  refine ⟨_, hb.set hj v, fun i => ?_, fun i hi => ?_⟩
  · show (if i = j then v else h i) < 256
    split
    · exact hv
    · exact hy i
  · show (if i = j then v else h i) = 0
    rw [if_neg (by omega)]; exact hu i hi

/-- append of one byte to a row without room: a new row. -/
theorem run_append_full {w : World} {g n : Nat} {h : Nat → Nat} (ty : TypeId) (hb : Bl w g n n h) (ad : Addr) (c v : Nat) (hn : n ≤ 1000000) (hc : ∀ j u, [Value.int .u8 (v : Nat)][j]? = some u → w.cell? (ad.add j) = some u) :
    ∃ g' cap' w', (Builtin.append_ #[23, 23] ty #[.slice (some ⟨g, 0, none⟩) n n, .slice (some ad) 1 c]).run Try.prog w = .ok (.slice (some ⟨g', 0, none⟩) (n + 1) cap') w' ∧
      Bl w' g' (n + 1) cap' (fun i => if i = n then v else h i) ∧ (n + 1 ≤ cap' ∧ cap' ≤ maxLen) ∧ w.heap.size ≤ g' ∧ w.grownBy w' none := by
  obtain ⟨i0, hi, hz0, hz1, hz2⟩ := info_parts Try.infoU8
  obtain ⟨cur, k1, k2, k3⟩ := hb
  have hown : w.ownsRow 0 5 1 (.slice (some ⟨g, 0, none⟩) n n) n cur.toList :=
    ⟨by simp [k2], Or.inr ⟨g, n, cur, rfl, Nat.zero_le _, k1, Nat.le_refl _, by unfold maxLen; omega, by omega, by rw [List.take_of_length_le]; simp [k2]⟩⟩
  obtain ⟨g', cap', w', hr, h2, h3, h4⟩ := run_append_bag (P := Try.prog) w 23 ty 0 5 i0 (.int .u8 0) 1 Try.underlying23 hi hz0 hz1 hz2 rfl (some ⟨g, 0, none⟩) n n cur.toList hown ad 1 c [.int .u8 (v : Nat)] rfl hc (fun u hu => by rw [List.mem_singleton.1 hu]; rfl) (by omega) (by unfold maxLen; omega) (by omega) (Nat.zero_le _)
  have hcap : n + 1 ≤ cap' ∧ cap' ≤ maxLen := by
    rcases h2.2 with ⟨e, _⟩ | ⟨_, _, _, e, _, _, q1, q2, _⟩
    · exact absurd e (by simp)
    · simp only [Value.slice.injEq, true_and] at e
      obtain ⟨_, rfl⟩ := e
      exact ⟨q1, q2⟩
  refine ⟨g', cap', w', hr, Bl.of_owns h2 fun i hi => ?_, hcap, ?_⟩
  · by_cases e : i = n
    · subst e
      rw [if_pos rfl, List.getElem?_append_right (by simp [k2])]
      simp [k2]
    · have hlt : i < n := by omega
      rw [if_neg e, List.getElem?_append_left (by simp [k2]; exact hlt), Array.getElem?_toList]
      exact k3 i hlt
  · rcases h3 with ⟨_, e, _⟩ | h3
    · omega
    · exact h3
theorem step_append_full {ops : Array Oper} {o : Oper} {a : Act} {w : World} {K : Act → World → Prop} {Q : Exit → Act → World → Prop} {E : Prop} (hgd : o.guard = none) (s x : Operand)
    (ho : o.op = .call { callee := .builtin .append, args := #[s, x], argTypes := #[23, 23] })
    {g n : Nat} {h : Nat → Nat} (hb : Bl w g n n h) (hs : a.eval s = .slice (some ⟨g, 0, none⟩) n n) (ad : Addr) (c v : Nat) (hx : a.eval x = .slice (some ad) 1 c) (hn : n ≤ 1000000) (hc : ∀ j u, [Value.int .u8 (v : Nat)][j]? = some u → w.cell? (ad.add j) = some u)
    (hk : ∀ g' cap' w', Bl w' g' (n + 1) cap' (fun i => if i = n then v else h i) → (n + 1 ≤ cap' ∧ cap' ≤ maxLen) → w.heap.size ≤ g' → w.grownBy w' none → K (a.put o.dst (.slice (some ⟨g', 0, none⟩) (n + 1) cap')) w') :
    if Region.wanted o (yielded ops a.tmps) = true then Oper.wp Try.prog o a w K Q else E := by
  have hw : Region.wanted o (yielded ops a.tmps) = true := by simp [Region.wanted, hgd]
  rw [if_pos hw]
  obtain ⟨g', cap', w', hr, h2, h3, h4, h5⟩ := run_append_full o.type hb ad c v hn hc
  unfold Oper.wp execOp
  simp only [ho, resolve, invoke, builtin, Sem.run_bind, Sem.run_pure, Result.andThen_ok, List.map_toArray, List.map_cons, List.map_nil, hs, hx, hr]
  exact hk g' cap' w' h2 h3 h4 h5
/-- one row's place in the list gets another row. -/
theorem Gr.reput {w : World} {B G n cap : Nat} {b l c : Nat → Nat} {f : Nat → Nat → Nat} (h : Gr w B G n cap b l c f) {t : Nat} (ht : t < n) {g ll cc : Nat} {x : Nat → Nat} (hx : Bl w g ll cc x) (h1 : ll ≤ cc ∧ cc ≤ maxLen) (hy : Pf.By x) (hu : Pf.Up x ll) :
    Rd (w.setCell ⟨G, t, none⟩ (.slice (some ⟨g, 0, none⟩) ll cc)) (some ⟨G, 0, none⟩) n cap (fun i => if i = t then some ⟨g, 0, none⟩ else some ⟨b i, 0, none⟩) (fun i => if i = t then ll else l i) (fun i => if i = t then cc else c i) (fun i j => if i = t then x j else f i j) := by
  obtain ⟨vs, k1, k2, k3⟩ := h.blk
  have hgG : g ≠ G := by
    intro e
    obtain ⟨vs', h1', _⟩ := hx
    rw [e, k1] at h1'
    injection h1' with h1'
    injection h1' with _ h2
    exact absurd h2 (by decide)
  have hoth : ∀ k, k ≠ G → (w.setCell ⟨G, t, none⟩ (.slice (some ⟨g, 0, none⟩) ll cc)).heap[k]? = w.heap[k]? := fun k hk => Below.heap_setCell w ⟨G, t, none⟩ _ k hk
  have hblk := heap_setCell_same w G t vs 23 (.slice (some ⟨g, 0, none⟩) ll cc) k1
  refine ⟨h.nc.1, h.nc.2, fun i j => ?_, fun e => (by cases e), fun ad e _ => (by cases e; rfl), fun ad e i hi => ?_, fun i hi => ?_⟩
  · show (if i = t then x j else f i j) < 256
    split
    · exact hy j
    · exact h.bm i j
  · cases e
    show World.cell? _ ⟨G, 0 + i, none⟩ = _
    rw [Nat.zero_add, cell_of_row _ G i _ _ _ hblk, Array.getElem?_setIfInBounds]
    by_cases e : t = i
    · subst e
      rw [if_pos rfl, if_pos (by have := h.nc.1; omega)]
      simp
    · rw [if_neg e, k3 i hi]
      simp only [if_neg (fun hh : i = t => e hh.symm)]
  · by_cases e : i = t
    · subst e
      simp only [if_true]
      exact (hx.kept (hoth g hgG)).sl h1.1 h1.2 hy hu
    · simp only [if_neg e]
      exact ((h.row i hi).kept (hoth _ (h.ne hi))).sl (h.lc i hi).1 (h.lc i hi).2 (h.bm i) (h.up i hi)
theorem Go_.kept {w w' : World} {B n cap : Nat} {a : Option Addr} {b l c : Nat → Nat} {f : Nat → Nat → Nat} (h : Go_ w B a n cap b l c f) (hk : ∀ p, B ≤ p → p < w.heap.size → w'.heap[p]? = w.heap[p]?) : Go_ w' B a n cap b l c f := ⟨h.1, by
  rcases h.2 with h | ⟨G, e, h⟩
  · exact Or.inl h
  · exact Or.inr ⟨G, e, h.kept (hk G h.lo.1 h.ltG) fun i hi => hk _ (h.lo.2 i hi) (h.ltb hi)⟩⟩
theorem sl_none (w : World) : Sl w none 0 0 (fun _ => 0) :=
  ⟨Nat.le_refl _, by unfold maxLen; omega, fun _ => (by omega : 0 < 256), fun _ _ => rfl, fun _ => ⟨rfl, rfl⟩, fun _ e => (by cases e), fun _ e => (by cases e)⟩
theorem Gr.setE {w : World} {B G n cap : Nat} {b l c : Nat → Nat} {f : Nat → Nat → Nat} (h : Gr w B G n cap b l c f) {r j : Nat} (hr : r < n) (hj : j < l r) (X : Int) (h0 : 0 ≤ X) (h1 : X < 256) : ∃ f', Gr (w.setCell ⟨b r, j, none⟩ (.int .u8 X)) B G n cap b l c f' := by
  obtain ⟨v, hv, rfl⟩ : ∃ v : Nat, v < 256 ∧ X = (v : Int) := ⟨X.toNat, by omega, by omega⟩
  exact ⟨_, h.set hr hj hv⟩
theorem below5 {w : World} (o1 o2 o3 o4 o5 : Obj) : Below w.heap.size w (((((w.alloc o1).alloc o2).alloc o3).alloc o4).alloc o5) := ((below3 (w := w) o1 o2 o3).alloc (by simp; omega) o4).alloc (by simp; omega) o5
/-- four rows of four zeroes. -/
theorem gr_four (w : World) :
    ∃ b, Gr (((((w.alloc (.cells #[.int .u8 0, .int .u8 0, .int .u8 0, .int .u8 0] 5)).alloc (.cells #[.int .u8 0, .int .u8 0, .int .u8 0, .int .u8 0] 5)).alloc (.cells #[.int .u8 0, .int .u8 0, .int .u8 0, .int .u8 0] 5)).alloc (.cells #[.int .u8 0, .int .u8 0, .int .u8 0, .int .u8 0] 5)).alloc
      (.cells #[.slice (some ⟨w.heap.size, 0, none⟩) 4 4, .slice (some ⟨w.heap.size + 1, 0, none⟩) 4 4, .slice (some ⟨w.heap.size + 1 + 1, 0, none⟩) 4 4, .slice (some ⟨w.heap.size + 1 + 1 + 1, 0, none⟩) 4 4] 23))
      w.heap.size (w.heap.size + 1 + 1 + 1 + 1) 4 4 b (fun _ => 4) (fun _ => 4) (fun _ _ => 0) := by
  obtain ⟨Z, hZ⟩ : ∃ Z : Obj, Z = .cells #[.int .u8 0, .int .u8 0, .int .u8 0, .int .u8 0] 5 := ⟨_, rfl⟩
  have hz : ∀ W : World, Bl (W.alloc Z) W.heap.size 4 4 (fun _ => 0) := fun W => by
    rw [hZ]
    exact Bl.alloc W [.int .u8 0, .int .u8 0, .int .u8 0, .int .u8 0] (fun _ => 0) (fun j hj => by
      have : j = 0 ∨ j = 1 ∨ j = 2 ∨ j = 3 := by simp at hj; omega
      rcases this with rfl | rfl | rfl | rfl <;> rfl)
  rw [← hZ]
  generalize hL : Obj.cells #[.slice (some ⟨w.heap.size, 0, none⟩) 4 4, .slice (some ⟨w.heap.size + 1, 0, none⟩) 4 4, .slice (some ⟨w.heap.size + 1 + 1, 0, none⟩) 4 4, .slice (some ⟨w.heap.size + 1 + 1 + 1, 0, none⟩) 4 4] 23 = LL
  have b0 := ((((hz w).allocd Z).allocd Z).allocd Z).allocd LL
  have b1 := (((hz (w.alloc Z)).allocd Z).allocd Z).allocd LL
  have b2 := ((hz ((w.alloc Z).alloc Z)).allocd Z).allocd LL
  have b3 := (hz (((w.alloc Z).alloc Z).alloc Z)).allocd LL
  have hs : ((((w.alloc Z).alloc Z).alloc Z).alloc Z).heap.size = w.heap.size + 1 + 1 + 1 + 1 := by rw [World.size_alloc, World.size_alloc, World.size_alloc, World.size_alloc]
  rw [World.size_alloc] at b1
  rw [World.size_alloc, World.size_alloc] at b2
  rw [World.size_alloc, World.size_alloc, World.size_alloc] at b3
  have four : ∀ i, i < 4 → i = 0 ∨ i = 1 ∨ i = 2 ∨ i = 3 := fun i hi => by omega
  have hnew := heap_alloc_new ((((w.alloc Z).alloc Z).alloc Z).alloc Z) LL
  rw [hs] at hnew
  subst hL
  refine ⟨fun i => w.heap.size + i, ⟨_, hnew, rfl, fun i hi => ?_⟩, fun i hi => ?_, fun i hi => ⟨Nat.le_refl _, by unfold maxLen; omega⟩, ⟨Nat.le_refl _, by unfold maxLen; omega⟩, ⟨by omega, fun i hi => by show w.heap.size ≤ w.heap.size + i; omega⟩, fun i j hi hj e => by have e' : w.heap.size + i = w.heap.size + j := e; omega, fun _ _ => (by omega : 0 < 256), fun i hi => zero_up 4⟩
  · rcases four i hi with rfl | rfl | rfl | rfl <;> rfl
  · rcases four i hi with rfl | rfl | rfl | rfl
    · exact b0
    · exact b1
    · exact b2
    · exact b3
theorem row4 (W : World) : ∃ f, Bl (W.alloc (.cells #[.int .u8 1, .int .u8 2, .int .u8 3, .int .u8 4] 5)) W.heap.size 4 4 f ∧ Pf.By f ∧ Pf.Up f 4 :=
  ⟨fun j => if j < 4 then j + 1 else 0, Bl.alloc W [.int .u8 1, .int .u8 2, .int .u8 3, .int .u8 4] _ (fun j hj => by
    have : j = 0 ∨ j = 1 ∨ j = 2 ∨ j = 3 := by simp at hj; omega
    rcases this with rfl | rfl | rfl | rfl <;> rfl), fun j => by
    show (if j < 4 then j + 1 else 0) < 256
    split <;> omega, fun j hj => by
    show (if j < 4 then j + 1 else 0) = 0
    rw [if_neg (by omega)]⟩
theorem row3 (W : World) (x y z : Nat) (hx : x < 256) (hy : y < 256) (hz : z < 256) : ∃ f, Bl (W.alloc (.cells #[.int .u8 (x : Nat), .int .u8 (y : Nat), .int .u8 (z : Nat)] 5)) W.heap.size 3 3 f ∧ Pf.By f ∧ Pf.Up f 3 :=
  ⟨fun j => if j = 0 then x else if j = 1 then y else if j = 2 then z else 0, Bl.alloc W [.int .u8 (x : Nat), .int .u8 (y : Nat), .int .u8 (z : Nat)] _ (fun j hj => by
    have : j = 0 ∨ j = 1 ∨ j = 2 := by simp at hj; omega
    rcases this with rfl | rfl | rfl <;> rfl), fun j => by
    show (if j = 0 then x else if j = 1 then y else if j = 2 then z else 0) < 256
    split
    · exact hx
    · split
      · exact hy
      · split <;> omega, fun j hj => by
    show (if j = 0 then x else if j = 1 then y else if j = 2 then z else 0) = 0
    rw [if_neg (by omega), if_neg (by omega), if_neg (by omega)]⟩

set_option maxHeartbeats 8000000 in
set_option maxRecDepth 100000 in
theorem rowsEnds_any (w : World) :
    Calls Try.prog 4 #[] w fun e w' => e = .returned (.bool true) ∧ Below w.heap.size w w' := by
  obtain ⟨i0, hi', hz0', hz1', hz2'⟩ := info_parts Try.infoRow
  have HI := Lib.hid hi'; have HZ0 := Lib.hid hz0'; have HZ1 := Lib.hid hz1'; have HZ2 := Lib.hid hz2'
  clear hi' hz0' hz1' hz2'
  have HB0 := Lib.hid (Below.refl w.heap.size w)
  go_enter Try.func4, Try.ntmps4
  go_wp2_with fail
  go_loopw [1] (fun i wr => ∃ n : Nat, n ≤ 225 ∧ i = .int .i64 n ∧ Below w.heap.size w wr) (fun i _ => 225 - (intOf i).toNat)
  case atStart => exact ⟨0, by omega, rfl, HB0.out⟩
  case round =>
    obtain ⟨n, hn, rfl, hB⟩ := hrel
    obtain ⟨wo, rfl⟩ : ∃ wo : World, wo = wr := ⟨_, rfl⟩
    have HB := Lib.hid hB; clear hB
    by_cases h225 : n < 225
    · have i1 : (n : Int) < 225 := by omega
      obtain ⟨r, hr⟩ : ∃ r : Nat, r = n % 5 := ⟨_, rfl⟩
      obtain ⟨c, hc⟩ : ∃ c : Nat, c = n / 5 % 5 := ⟨_, rfl⟩
      obtain ⟨k, hk⟩ : ∃ k : Nat, k = n / 25 := ⟨_, rfl⟩
      have e1 : (n : Int) % 5 = ((r : Nat) : Int) := by omega
      have e2 : (n : Int) / 5 % 5 = ((c : Nat) : Int) := by omega
      have e3 : (n : Int) / 25 = ((k : Nat) : Int) := by omega
      have hr5 : r < 5 := by omega
      have hc5 : c < 5 := by omega
      have hk9 : k < 9 := by omega
      clear hr hc hk
      go_upto_region 7 with fail
      rw [e1, e2]
      clear e1 e2 e3
      go_loopw [5, 7] (fun v i wr => ∃ (h : Nat) (pa : Option Addr) (pc : Nat) (b : Nat → Nat) (f : Nat → Nat → Nat), h ≤ r ∧ i = .int .i64 h ∧ v = .slice pa h pc ∧ Pr wr wo.heap.size pa h pc b (fun _ => c) (fun _ => c) f ∧ Below wo.heap.size wo wr) (fun _ i _ => r - (intOf i).toNat)
      case atStart => exact ⟨0, none, 0, fun _ => 0, fun _ _ => 0, by omega, rfl, rfl, pr_none _ _ _ _ _, Below.refl _ _⟩
      case round =>
        obtain ⟨h, pa, pc, b, f, hh, rfl, rfl, hP, hBx⟩ := hrel
        obtain ⟨wx, rfl⟩ : ∃ wx : World, wx = wr := ⟨_, rfl⟩
        have HP := Lib.hid hP; have HX := Lib.hid hBx; clear hP hBx
        by_cases hhr : h < r
        · have j1 : (h : Int) < (r : Int) := by omega
          have hmk := hmk8 c (by omega)
          have HBL := Lib.hid (bl_made wx c)
          have HBB := Lib.hid ((Below.refl wx.heap.size wx).alloc (Nat.le_refl _) (.cells (madeCells #[.int .u8 0] c) 5))
          go_wp2_with fail
          clear hmk
          go_loopw [9] (fun i wr => ∃ (m : Nat) (x : Nat → Nat), m ≤ c ∧ i = .int .i64 m ∧ Bl wr wx.heap.size c c x ∧ Pf.By x ∧ Pf.Up x c ∧ Below wx.heap.size wx wr) (fun i _ => c - (intOf i).toNat)
          case atStart => exact ⟨0, fun _ => 0, by omega, rfl, HBL.out, zero_by, zero_up c, HBB.out⟩
          case round =>
            obtain ⟨m, x, hm, rfl, hbl, hy, hu, hBy⟩ := hrel
            obtain ⟨wy, rfl⟩ : ∃ wy : World, wy = wr := ⟨_, rfl⟩
            have HBLm := Lib.hid hbl; have HY := Lib.hid hy; have HU := Lib.hid hu; have HBy := Lib.hid hBy; clear hy hu hBy
            by_cases hmc : m < c
            · have j2 : (m : Int) < (c : Int) := by omega
              have cc := hbl.cell hmc
              have fc := hbl.free m
              clear hbl
              go_wp2_with fail
              have q := fun X => HBLm.out.setX hmc HY.out HU.out X
              go_roundw
              case rel => exact ⟨m + 1, _, by omega, by go_num, (q _).choose_spec.1, (q _).choose_spec.2.1, (q _).choose_spec.2.2, HBy.out.setCell (p := ⟨wx.heap.size, m, none⟩) (Nat.le_refl _) _⟩
              case measure => simp [intOf]; omega
            · obtain rfl : m = c := by omega
              clear hbl
              have hw := HX.out.size
              go_wp2_with ((refine wpList_append_bag _ rfl (.tmp 55) (.tmp 57) 22 rfl wo.heap.size 23 i0 (.slice none 0 0) 24 Try.underlying22 HI.out HZ0.out HZ1.out HZ2.out rfl pa h pc ((List.range h).map fun i => Value.slice (some ⟨b i, 0, none⟩) m m) rfl (own_below (own_below HP.out.own HBy.out) ((Below.refl _ _).alloc (Nat.le_refl _) _)) ⟨wy.heap.size, 0, none⟩ 1 1 [.slice (some ⟨wx.heap.size, 0, none⟩) m m] rfl rfl (cell_new1 _ _ _) (fun u hu => by rw [List.mem_singleton.1 hu]; rfl) (by omega) (by unfold maxLen; omega) (by omega) (by have := HBy.out.size; simp; omega) ?_); intro g' cap' w2 hown hc hlt; have HO := Lib.hid hown; have HC := Lib.hid hc; clear hown hc hlt)
              have hb2 : Below wx.heap.size wx (wy.alloc (.cells #[.slice (some ⟨wx.heap.size, 0, none⟩) m m] 23)) := HBy.out.alloc HBy.out.size _
              have hst := HP.out.step hb2 (HBLm.out.kept (Below.heap_alloc _ _ _ HBLm.out.lt)) (Nat.le_refl _) hw ⟨Nat.le_refl _, by unfold maxLen; omega⟩ HY.out HU.out HO.out HC.out
              have HST := Lib.hid (hst.congr (l' := fun _ => m) (c' := fun _ => m) (f' := _) (fun i _ => by split <;> rfl) (fun i _ => by split <;> rfl) hst.bm (fun _ _ _ => rfl))
              have HB2 := Lib.hid (below_apn (HX.out.trans (hb2.mono hw)) (by have := hb2.size; omega) HC.out (fun g e => by subst e; exact (HP.out.own.lt g rfl).1))
              clear hb2 hst
              go_wp2_with fail
              go_roundw
              case rel => exact ⟨h + 1, _, _, _, _, by omega, by go_num, rfl, HST.out, HB2.out⟩
              case measure => simp [intOf]; omega
        · obtain rfl : h = r := by omega
          go_upto_region 16 with fail
          have HA := Lib.hid HP.out.go; clear HP
          go_loopw [6, 10] (fun v i wr => ∃ (m : Nat) (qa : Option Addr) (qc : Nat) (d : Nat → Nat) (f : Nat → Nat → Nat), m ≤ c ∧ i = .int .i64 m ∧ v = .slice qa m qc ∧ Pr wr wx.heap.size qa m qc d (fun _ => 3) (fun _ => 3) f ∧ Below wx.heap.size wx wr) (fun _ i _ => c - (intOf i).toNat)
          case atStart => exact ⟨0, none, 0, fun _ => 0, fun _ _ => 0, by omega, rfl, rfl, pr_none _ _ _ _ _, Below.refl _ _⟩
          case round =>
            obtain ⟨m, qa, qc, d, g, hm, rfl, rfl, hQ, hBy⟩ := hrel
            obtain ⟨wy, rfl⟩ : ∃ wy : World, wy = wr := ⟨_, rfl⟩
            have HQ := Lib.hid hQ; have HY := Lib.hid hBy; clear hQ hBy
            by_cases hmc : m < c
            · have j1 : (m : Int) < (c : Int) := by omega
              obtain ⟨x, hbl, hy, hu⟩ := row3 wy m k 1 (by omega) (by omega) (by omega)
              have HBL := Lib.hid hbl
              have hb1 : Below wy.heap.size wy (wy.alloc (.cells #[.int .u8 (m : Nat), .int .u8 (k : Nat), .int .u8 1] 5)) := (Below.refl _ _).alloc (Nat.le_refl _) _
              have HB1 := Lib.hid hb1
              have hs1 : (wy.alloc (.cells #[.int .u8 (m : Nat), .int .u8 (k : Nat), .int .u8 1] 5)).heap.size = wy.heap.size + 1 := by simp
              have HS1 := Lib.hid hs1
              have HY1 := Lib.hid hy; have HU1 := Lib.hid hu
              clear hb1 hs1 hbl hy hu
              have hw := HY.out.size
              go_wp2_with ((refine wpList_append_bag _ rfl (.tmp 64) (.tmp 70) 22 rfl wx.heap.size 23 i0 (.slice none 0 0) 24 Try.underlying22 HI.out HZ0.out HZ1.out HZ2.out rfl qa m qc ((List.range m).map fun i => Value.slice (some ⟨d i, 0, none⟩) 3 3) rfl (own_below (own_below HQ.out.own HB1.out) ((Below.refl _ _).alloc (Nat.le_refl _) _)) ⟨wy.heap.size + 1, 0, none⟩ 1 1 [.slice (some ⟨wy.heap.size, 0, none⟩) 3 3] rfl rfl (by have := cell_new1 (wy.alloc (.cells #[.int .u8 (m : Nat), .int .u8 (k : Nat), .int .u8 1] 5)) (.slice (some ⟨wy.heap.size, 0, none⟩) 3 3) 23; rw [HS1.out] at this; exact this) (fun u hu => by rw [List.mem_singleton.1 hu]; rfl) (by omega) (by unfold maxLen; omega) (by omega) (by simp; omega) ?_); intro g' cap' w2 hown hc hlt; have HO := Lib.hid hown; have HC := Lib.hid hc; clear hown hc hlt)
              have hb2 : Below wy.heap.size wy ((wy.alloc (.cells #[.int .u8 (m : Nat), .int .u8 (k : Nat), .int .u8 1] 5)).alloc (.cells #[.slice (some ⟨wy.heap.size, 0, none⟩) 3 3] 23)) := HB1.out.alloc (by rw [HS1.out]; omega) _
              have hst := HQ.out.step hb2 (HBL.out.kept (Below.heap_alloc _ _ _ (by rw [HS1.out]; omega))) (Nat.le_refl _) hw ⟨Nat.le_refl _, by unfold maxLen; omega⟩ HY1.out HU1.out HO.out HC.out
              have HST := Lib.hid (hst.congr (l' := fun _ => 3) (c' := fun _ => 3) (f' := _) (fun i _ => by split <;> rfl) (fun i _ => by split <;> rfl) hst.bm (fun _ _ _ => rfl))
              have HB2 := Lib.hid (below_apn (HY.out.trans (hb2.mono hw)) (by have := hb2.size; omega) HC.out (fun g e => by subst e; exact (HQ.out.own.lt g rfl).1))
              clear hb2 hst
              go_wp2_with fail
              go_roundw
              case rel => exact ⟨m + 1, _, _, _, _, by omega, by go_num, rfl, HST.out, HB2.out⟩
              case measure => simp [intOf]; omega
            · obtain rfl : m = c := by omega
              go_upto_region 19 with fail
              have HQ' := Lib.hid HQ.out.go; clear HQ
              have HA1 := Lib.hid (HA.out.same HY.out); have HB1 := Lib.hid (HX.out.trans (HY.out.mono HX.out.size))
              have hmk := hmk8 m (by omega)
              have HLS := Lib.hid HA.out.lies
              clear HA HX HY
              go_wp2_with fail
              have hA1 := (Below.refl wy.heap.size wy).alloc (Nat.le_refl _) (.cells (madeCells #[.int .u8 0] m) 5)
              refine (rowsDo_any _ _ _ _ _ _ _ _ _ _ _ _ _ _ _ _ _ _ _ _ (HA1.out.same hA1).rd (HQ'.out.same hA1).rd ((bl_made wy m).sl (Nat.le_refl _) (by unfold maxLen; omega) zero_by (zero_up m)) (by omega) (by omega) (fun _ _ => by omega) (fun _ _ => by omega) (by omega)).mono ?_
              rintro e w1 ⟨rfl, hB⟩
              have HA2 := Lib.hid (HA1.out.same (hA1.trans (hB.mono hA1.size))); have HQ2 := Lib.hid (HQ'.out.same (hA1.trans (hB.mono hA1.size))); have HB2 := Lib.hid (HB1.out.trans ((hA1.trans (hB.mono hA1.size)).mono HB1.out.size))
              clear hB hA1 HA1 HQ' HB1 hmk
              go_wp2_with fail
              obtain ⟨x, hbl, hy, hu⟩ := row3 w1 1 k 3 (by omega) (by omega) (by omega)
              have hA2 := (Below.refl w1.heap.size w1).alloc (Nat.le_refl _) (.cells #[.int .u8 1, .int .u8 (k : Nat), .int .u8 3] 5)
              refine (rowsDo_any _ _ _ _ _ _ _ _ _ _ _ _ _ _ _ _ _ _ _ _ (HQ2.out.same hA2).rd (HA2.out.same hA2).rd (hbl.sl (Nat.le_refl _) (by unfold maxLen; omega) hy hu) (by omega) (by omega) (fun _ _ => by omega) (fun _ _ => by omega) (by omega)).mono ?_
              rintro e w2 ⟨rfl, hB⟩
              have HA3 := Lib.hid (HA2.out.same (hA2.trans (hB.mono hA2.size))); have HQ3 := Lib.hid (HQ2.out.same (hA2.trans (hB.mono hA2.size))); have HB3 := Lib.hid (HB2.out.trans ((hA2.trans (hB.mono hA2.size)).mono HB2.out.size))
              clear hB hA2 HA2 HQ2 HB2 hbl hy hu
              by_cases h1 : 1 < h
              · have i2 : (1 : Int) < (h : Int) := by omega
                obtain ⟨G, rfl, hG⟩ := HA3.out.pos (by omega)
                obtain ⟨t, ht⟩ : ∃ t : Nat, t = k % h := ⟨_, rfl⟩
                have e4 : (k : Int) % (h : Int) = ((t : Nat) : Int) := by rw [ht]; exact (Int.natCast_emod _ _).symm
                have hth : t < h := by rw [ht]; exact Nat.mod_lt _ (by omega)
                have HG := Lib.hid hG
                clear ht
                go_upto_region 22 with fail
                go_cut [8] from 14 to 112 (fun _ wz => ∃ (r' : Nat → Option Addr) (l' c' : Nat → Nat) (f' : Nat → Nat → Nat), Rd wz (some ⟨G, 0, none⟩) h pc r' l' c' f' ∧ (∀ i, i < h → l' i ≤ 1000) ∧ Go_ wz wx.heap.size qa m qc d (fun _ => 3) (fun _ => 3) g ∧ Below wo.heap.size wo wz)
                case first =>
                  have cG := hG.cell hth
                  have fG := hG.free t
                  have j3 : (0 : Int) ≤ (t : Int) := by omega
                  have j4 : (t : Int) < (h : Int) := by omega
                  have z1 : ¬ ((h : Nat) : Int) = 0 := by omega
                  have z2 : ¬ h = 0 := by omega
                  have e5 : (k : Int).tmod (h : Int) = ((t : Nat) : Int) := by rw [Int.tmod_eq_emod_of_nonneg (by omega)]; exact e4
                  clear hG
                  have hGd := HG.out.same (((Below.refl _ w2).alloc (Nat.le_refl _) (.cells #[.int .u8 1] 5)).drew)
                  have HGd := Lib.hid hGd
                  have hnew : ∀ j u, [Value.int .u8 ((1 : Nat) : Int)][j]? = some u → ((w2.alloc (.cells #[.int .u8 1] 5)).drew).cell? ((⟨w2.heap.size, 0, none⟩ : Addr).add j) = some u := cell_new1 w2 (.int .u8 1) 5
                  have HNEW := Lib.hid hnew
                  have hrow := hGd.row t hth
                  have cG' := hGd.cell hth
                  have cG'' : (w2.alloc (.cells #[.int .u8 1] 5)).cell? ⟨G, t, none⟩ = some (.slice (some ⟨b t, 0, none⟩) m m) := cG'
                  have HROW := Lib.hid hrow
                  clear hGd hnew hrow
                  go_region_law (refine step_append_full rfl (.tmp 104) (.tmp 105) rfl HROW.out rfl _ 1 1 rfl (by omega) HNEW.out ?_; intro g' cap' w3 q1 q2 q3 q4; have c3 := (HGd.out.grown q4 (by simp) (fun _ _ => by simp)).cell hth; have f3 := (HGd.out.grown q4 (by simp) (fun _ _ => by simp)).free t; have Q1 := Lib.hid q1; have Q2 := Lib.hid q2; have Q3 := Lib.hid q3; have Q4 := Lib.hid q4; clear q1 q2 q3 q4)
                  all_goals
                    have h3 := HGd.out.grown Q4.out (by simp) (fun _ _ => by simp)
                    have hlo := HLS.out.2 G rfl
                    have hrd := h3.reput hth Q1.out Q2.out (fun i => by
                      show (if i = m then 1 else f t i) < 256
                      split
                      · omega
                      · exact HG.out.bm t i) (fun i hi => by
                      show (if i = m then 1 else f t i) = 0
                      rw [if_neg (by omega)]; exact HG.out.up t hth i (by show m ≤ i; omega))
                    have hq3 := HQ3.out.kept (w' := w3.setCell ⟨G, t, none⟩ (.slice (some ⟨g', 0, none⟩) (m + 1) cap')) (fun p h1 h2 => (Below.heap_setCell w3 ⟨G, t, none⟩ _ p (by show p ≠ G; omega)).trans ((Q4.out.block p (by show p < (w2.alloc _).heap.size; rw [World.size_alloc]; omega) (by simp)).trans (Below.heap_alloc w2 _ p h2)))
                    have hb4 := (((HB3.out.alloc HB3.out.size (.cells #[.int .u8 1] 5)).drew).grown Q4.out (by have := HB3.out.size; show wo.heap.size ≤ (w2.alloc (.cells #[.int .u8 1] 5)).heap.size; rw [World.size_alloc]; omega) (fun k e => by cases e)).setCell (p := ⟨G, t, none⟩) (by show wo.heap.size ≤ G; omega) (.slice (some ⟨g', 0, none⟩) (m + 1) cap')
                    have HRD := Lib.hid hrd; have HQ4 := Lib.hid hq3; have HB4 := Lib.hid hb4
                    clear h3 hrd hq3 hb4 c3 f3 cG fG cG' cG'' e4 e5 z1 z2
                    go_wp2_with fail
                    go_meet
                    exact ⟨_, _, _, _, HRD.out, fun i _ => by (show (if i = t then m + 1 else m) ≤ 1000); split <;> omega, HQ4.out, HB4.out⟩
                case rest =>
                  obtain ⟨r', l', c', f', hR, hl, hQ, hBz⟩ := hcut
                  have HB4 := Lib.hid hBz; clear hBz hG
                  go_wp2_with fail
                  refine (rowsDo_any _ _ _ _ _ _ _ _ _ _ _ _ _ _ _ _ _ _ _ _ hR hQ.rd (sl_none _) (by omega) (by omega) (fun i hi => by have := hl i hi; omega) (fun _ _ => by omega) (by omega)).mono ?_
                  rintro e w5 ⟨rfl, hB⟩
                  have HB5 := Lib.hid (HB4.out.trans (hB.mono HB4.out.size)); clear hB hR hl hQ
                  go_wp2_with fail
                  go_roundw
                  case rel => exact ⟨n + 1, by omega, by go_num, HB.out.trans (HB5.out.mono HB.out.size)⟩
                  case measure => simp [intOf]; omega
              · have i2 : ¬ (1 : Int) < (h : Int) := by omega
                go_wp2_with fail
                go_roundw
                case rel => exact ⟨n + 1, by omega, by go_num, HB.out.trans (HB3.out.mono HB.out.size)⟩
                case measure => simp [intOf]; omega
    · go_upto_region 26 with fail
      go_loopw [11] (fun i wr => ∃ p : Nat, p ≤ 4 ∧ i = .int .i64 p ∧ Below w.heap.size w wr) (fun i _ => 4 - (intOf i).toNat)
      case atStart => exact ⟨0, by omega, rfl, HB.out⟩
      case round =>
        obtain ⟨p, hp, rfl, hBw⟩ := hrel
        obtain ⟨wp, rfl⟩ : ∃ wp : World, wp = wr := ⟨_, rfl⟩
        have HB1 := Lib.hid hBw; clear hBw
        by_cases hp4 : p < 4
        · have j1 : (p : Int) < 4 := by omega
          go_wp2_with fail
          go_loopw [12] (fun i wr => ∃ q : Nat, q ≤ 4 ∧ i = .int .i64 q ∧ Below w.heap.size w wr) (fun i _ => 4 - (intOf i).toNat)
          case atStart => exact ⟨0, by omega, rfl, HB1.out⟩
          case round =>
            obtain ⟨q, hq, rfl, hBw⟩ := hrel
            obtain ⟨wq, rfl⟩ : ∃ wq : World, wq = wr := ⟨_, rfl⟩
            have HB2 := Lib.hid hBw; clear hBw
            by_cases hq4 : q < 4
            · have j2 : (q : Int) < 4 := by omega
              obtain ⟨b, hG⟩ := gr_four wq
              have hB := below5 (w := wq) (.cells #[.int .u8 0, .int .u8 0, .int .u8 0, .int .u8 0] 5) (.cells #[.int .u8 0, .int .u8 0, .int .u8 0, .int .u8 0] 5) (.cells #[.int .u8 0, .int .u8 0, .int .u8 0, .int .u8 0] 5) (.cells #[.int .u8 0, .int .u8 0, .int .u8 0, .int .u8 0] 5) (.cells #[.slice (some ⟨wq.heap.size, 0, none⟩) 4 4, .slice (some ⟨wq.heap.size + 1, 0, none⟩) 4 4, .slice (some ⟨wq.heap.size + 1 + 1, 0, none⟩) 4 4, .slice (some ⟨wq.heap.size + 1 + 1 + 1, 0, none⟩) 4 4] 23)
              have HG0 := Lib.hid hG; have HX0 := Lib.hid hB; clear hG hB
              go_upto_region 32 with fail
              obtain ⟨w0, hw0⟩ : ∃ w0 : World, w0 = (((((wq.alloc (.cells #[.int .u8 0, .int .u8 0, .int .u8 0, .int .u8 0] 5)).alloc (.cells #[.int .u8 0, .int .u8 0, .int .u8 0, .int .u8 0] 5)).alloc (.cells #[.int .u8 0, .int .u8 0, .int .u8 0, .int .u8 0] 5)).alloc (.cells #[.int .u8 0, .int .u8 0, .int .u8 0, .int .u8 0] 5)).alloc (.cells #[.slice (some ⟨wq.heap.size, 0, none⟩) 4 4, .slice (some ⟨wq.heap.size + 1, 0, none⟩) 4 4, .slice (some ⟨wq.heap.size + 1 + 1, 0, none⟩) 4 4, .slice (some ⟨wq.heap.size + 1 + 1 + 1, 0, none⟩) 4 4] 23)) := ⟨_, rfl⟩
              rw [← hw0] at HG0 HX0
              rw [← hw0]
              clear hw0
              obtain ⟨L, hL⟩ : ∃ L : Nat, L = wq.heap.size + 1 + 1 + 1 + 1 := ⟨_, rfl⟩
              rw [← hL] at HG0
              rw [← hL]
              clear hL
              have c1 := HG0.out.cell (i := p) (by omega)
              have c2 := (HG0.out.row (p) (by omega)).cell (i := 0) (by omega)
              have fz := (HG0.out.row (p) (by omega)).free 0
              go_upto_region 33 with fail
              clear c1 c2 fz
              obtain ⟨f1, hG⟩ := HG0.out.setE (r := p) (j := 0) (by omega) (by omega) 3 (by omega) (by omega)
              have hB := HX0.out.setCell (p := ⟨b (p), 0, none⟩) (HG0.out.lo.2 (p) (by omega)) (.int .u8 3)
              generalize w0.setCell ⟨b (p), 0, none⟩ (.int .u8 3) = w1 at hG hB ⊢
              have HG1 := Lib.hid hG; have HX1 := Lib.hid hB; clear hG hB HG0 HX0
              have c1 := HG1.out.cell (i := (p + 1 + q % 3) % 4) (by omega)
              have c2 := (HG1.out.row ((p + 1 + q % 3) % 4) (by omega)).cell (i := 1) (by omega)
              have fz := (HG1.out.row ((p + 1 + q % 3) % 4) (by omega)).free 1
              go_upto_region 34 with fail
              clear c1 c2 fz
              obtain ⟨f2, hG⟩ := HG1.out.setE (r := (p + 1 + q % 3) % 4) (j := 1) (by omega) (by omega) 7 (by omega) (by omega)
              have hB := HX1.out.setCell (p := ⟨b ((p + 1 + q % 3) % 4), 1, none⟩) (HG1.out.lo.2 ((p + 1 + q % 3) % 4) (by omega)) (.int .u8 7)
              generalize w1.setCell ⟨b ((p + 1 + q % 3) % 4), 1, none⟩ (.int .u8 7) = w2 at hG hB ⊢
              have HG2 := Lib.hid hG; have HX2 := Lib.hid hB; clear hG hB HG1 HX1
              have c1 := HG2.out.cell (i := (p + 1 + (q + 1) % 3) % 4) (by omega)
              have c2 := (HG2.out.row ((p + 1 + (q + 1) % 3) % 4) (by omega)).cell (i := 2) (by omega)
              have fz := (HG2.out.row ((p + 1 + (q + 1) % 3) % 4) (by omega)).free 2
              go_upto_region 35 with fail
              clear c1 c2 fz
              obtain ⟨f3, hG⟩ := HG2.out.setE (r := (p + 1 + (q + 1) % 3) % 4) (j := 2) (by omega) (by omega) 2 (by omega) (by omega)
              have hB := HX2.out.setCell (p := ⟨b ((p + 1 + (q + 1) % 3) % 4), 2, none⟩) (HG2.out.lo.2 ((p + 1 + (q + 1) % 3) % 4) (by omega)) (.int .u8 2)
              generalize w2.setCell ⟨b ((p + 1 + (q + 1) % 3) % 4), 2, none⟩ (.int .u8 2) = w3 at hG hB ⊢
              have HG3 := Lib.hid hG; have HX3 := Lib.hid hB; clear hG hB HG2 HX2
              have c1 := HG3.out.cell (i := (p + 1 + (q + 2) % 3) % 4) (by omega)
              have c2 := (HG3.out.row ((p + 1 + (q + 2) % 3) % 4) (by omega)).cell (i := 3) (by omega)
              have fz := (HG3.out.row ((p + 1 + (q + 2) % 3) % 4) (by omega)).free 3
              go_upto_region 36 with fail
              clear c1 c2 fz
              obtain ⟨f4, hG⟩ := HG3.out.setE (r := (p + 1 + (q + 2) % 3) % 4) (j := 3) (by omega) (by omega) (1 + (q : Int)) (by omega) (by omega)
              have hB := HX3.out.setCell (p := ⟨b ((p + 1 + (q + 2) % 3) % 4), 3, none⟩) (HG3.out.lo.2 ((p + 1 + (q + 2) % 3) % 4) (by omega)) (.int .u8 (1 + (q : Int)))
              generalize w3.setCell ⟨b ((p + 1 + (q + 2) % 3) % 4), 3, none⟩ (.int .u8 (1 + (q : Int))) = w4 at hG hB ⊢
              have HG4 := Lib.hid hG; have HX4 := Lib.hid hB; clear hG hB HG3 HX3
              have c1 := HG4.out.cell (i := q) (by omega)
              have c2 := (HG4.out.row q (by omega)).cell (i := 3) (by omega)
              have fz := (HG4.out.row q (by omega)).free 3
              have hv := HG4.out.bm q 3
              generalize f4 q 3 = v at c2 hv
              obtain ⟨v2, hv2⟩ : ∃ v2 : Nat, v2 = v ^^^ 5 := ⟨_, rfl⟩
              have ex : bits .xor .u8 ((v : Nat) : Int) 5 = ((v2 : Nat) : Int) := by
                rw [hv2, show (5 : Int) = ((5 : Nat) : Int) from rfl, u8_xor_nat _ _ hv (by omega)]
              have hv3 : v2 < 256 := by rw [hv2]; exact Nat.xor_lt_two_pow (n := 8) hv (by omega)
              obtain ⟨f5, hG⟩ := HG4.out.setE (r := q) (j := 3) (by omega) (by omega) ((v2 : Nat) : Int) (by omega) (by omega)
              have hB := HX4.out.setCell (p := ⟨b q, 3, none⟩) (HG4.out.lo.2 q (by omega)) (.int .u8 ((v2 : Nat) : Int))
              have HG5 := Lib.hid (show Gr ((w4.setCell ⟨b q, 3, none⟩ (.int .u8 ((v2 : Nat) : Int))).drew) wq.heap.size L 4 4 b (fun _ => 4) (fun _ => 4) f5 from hG.drewN 1); have HX5 := Lib.hid hB.drew; clear hG hB hv2
              go_region
              all_goals
                clear c1 c2 fz ex
                generalize (w4.setCell ⟨b q, 3, none⟩ (.int .u8 ((v2 : Nat) : Int))).drew = w5 at HG5 HX5 ⊢
                obtain ⟨x, hbl, hy, hu⟩ := row4 w5
                have hA := (Below.refl w5.heap.size w5).alloc (Nat.le_refl _) (.cells #[.int .u8 1, .int .u8 2, .int .u8 3, .int .u8 4] 5)
                go_wp2_with fail
                refine (rowsDo_any _ _ _ _ _ _ _ _ _ _ _ _ _ _ _ _ _ _ _ _ (HG5.out.same hA).rd (HG5.out.same hA).rd (hbl.sl (Nat.le_refl _) (by unfold maxLen; omega) hy hu) (by omega) (by omega) (fun _ _ => by omega) (fun _ _ => by omega) (by omega)).mono ?_
                rintro e w6 ⟨rfl, hBw⟩
                have HX6 := Lib.hid (HX5.out.trans ((hA.trans (hBw.mono hA.size)).mono HX5.out.size)); clear hBw hA hbl hy hu
                go_wp2_with fail
                go_roundw
                case rel => exact ⟨q + 1, by omega, by go_num, HB2.out.trans (HX6.out.mono HB2.out.size)⟩
                case measure => simp [intOf]; omega
            · obtain rfl : q = 4 := by omega
              go_wp2_with fail
              go_roundw
              case rel => exact ⟨p + 1, by omega, by go_num, HB2.out⟩
              case measure => simp [intOf]; omega
        · obtain rfl : p = 4 := by omega
          go_wp2_with fail
          refine (wide_any _).mono ?_
          rintro e w5 ⟨rfl, hBw⟩
          have HB5 := Lib.hid (HB1.out.trans (hBw.mono HB1.out.size)); clear hBw
          go_wp2_with fail
          refine (awake3_any _).mono ?_
          rintro e w6 ⟨rfl, hBw⟩
          have HB6 := Lib.hid (HB5.out.trans (hBw.mono HB5.out.size)); clear hBw
          go_wp2
          go_ret
          exact ⟨rfl, HB6.out⟩
end Go.Proofs.Ytgflpfopiofjeaa
