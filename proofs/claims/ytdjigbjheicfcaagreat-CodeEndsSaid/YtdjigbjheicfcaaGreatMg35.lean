import Derived.Deep.RegionHeld3
import Derived.Test.YtdjigbjheicfcaaGreatMg34
namespace Go.Proofs.YtdjigbjheicfcaaGreat
open Go.RowKit Go.Shelf
section
variable {P : Program}
/-- append of any size as a step of a region that draws, guarded or not. -/
theorem step_append_bagN {ops : Array Oper} {o : Oper} {act : Act} {w : World} {K : Act → World → Prop} {Q : Exit → Act → World → Prop} {E : Prop} (hgd : Region.wanted o (yielded ops act.tmps) = true) (s x : Operand) (t : TypeId)
    (ho : o.op = .call { callee := .builtin .append, args := #[s, x], argTypes := #[t, t] })
    (base : Nat) (e : TypeId) (i : TypeInfo) (z : Value) (size bytes : Nat) (ht : P.underlying t = some (.slice e)) (hi : P.info? e = some i) (hz : i.zero = some z)
    (hsize : i.size = size) (hby : i.bytes = bytes) (hzs : z.cells.size = size) (hsz : 0 < size)
    (a : Option Addr) (n cap : Nat) (xs : List Value) (hs : act.eval s = .slice a n cap) (hown : w.ownsRow base e size (.slice a n cap) n xs)
    (ad : Addr) (m c : Nat) (news : List Value) (hx : act.eval x = .slice (some ad) m c) (hl : news.length = m * size) (hnews : ∀ j u, news[j]? = some u → w.cell? (ad.add j) = some u) (h1 : ∀ u ∈ news, u.oneCell' = true)
    (hm : 0 < m) (h63 : n + m ≤ maxLen) (hbytes : (n + m) * bytes ≤ 140737488355328) (hbase : base ≤ w.heap.size)
    (h : ∀ g cap' w', w'.ownsRow base e size (.slice (some ⟨g, 0, none⟩) (n + m) cap') (n + m) (xs ++ news) → (a = some ⟨g, 0, none⟩ ∧ cap' = cap ∧ w.grownBy w' (some g) ∨ w.heap.size ≤ g ∧ w.grownBy w' none) → g < w'.heap.size → K (act.put o.dst (.slice (some ⟨g, 0, none⟩) (n + m) cap')) w') :
    if Region.wanted o (yielded ops act.tmps) = true then Oper.wp P o act w K Q else E := by
  rw [if_pos hgd]
  obtain ⟨g, cap', w', hr, h2, h3, h4⟩ := run_append_bagN (P := P) w t o.type base e i z size bytes ht hi hz hsize hby hzs hsz a n cap xs hown ad m c news hl hnews h1 hm h63 hbytes hbase
  unfold Oper.wp execOp
  simp only [ho, resolve, invoke, builtin, Sem.run_bind, Sem.run_pure, Result.andThen_ok, List.map_toArray, List.map_cons, List.map_nil, hs, hx, hr]
  exact h g cap' w' h2 h3 h4
/-- make, as a step of a region that draws. -/
theorem step_make {ops : Array Oper} {o : Oper} {act : Act} {w : World} {K : Act → World → Prop} {Q : Exit → Act → World → Prop} {E : Prop} (hgd : Region.wanted o (yielded ops act.tmps) = true) (t : TypeId) (l c : Operand)
    (ho : o.op = .makeSlice t l c) (e : TypeId) (i : TypeInfo) (z : Value) (ht : P.underlying t = some (.slice e)) (hi : P.info? e = some i) (hz : i.zero = some z) (hs : i.size = 1) (n : Nat) (hl : act.eval l = .int .i64 (n : Int)) (hc : act.eval c = .int .i64 (n : Int))
    (hb : i.bytes * n ≤ 281474976710656) (h63 : n ≤ 1000) (h : K (act.put o.dst (.slice (some ⟨w.heap.size, 0, none⟩) n n)) (w.alloc (.cells (madeCells z.cells n) e))) : if Region.wanted o (yielded ops act.tmps) = true then Oper.wp P o act w K Q else E := by
  rw [if_pos hgd]
  have hr := run_make (P := P) w t e i z ht hi hz .i64 .i64 (n : Int) (n : Int) (by omega) (by omega) (by have h2 : ((i.bytes * n : Nat) : Int) ≤ 281474976710656 := by omega
                                                                                                          rw [Int.natCast_mul] at h2; exact h2) (by omega)
  rw [Int.toNat_natCast, hs, Nat.mul_one] at hr
  unfold Oper.wp
  simp [execOp, ho, hl, hc, hr, Result.andThen]
  exact h
end
theorem keep_heap {w w' : World} {B s k cp g cap' x : Nat} {e e' : TypeId} {a : Option Addr} {xs : List Value} {us : Array Value} (ho : w.ownsRow B e s (.slice a k cp) k xs) (hc : a = some ⟨g, 0, none⟩ ∧ cap' = cp ∧ w.grownBy w' (some g) ∨ w.heap.size ≤ g ∧ w.grownBy w' none) (hx : w.heap[x]? = some (.cells us e' (0, 0))) (he : e' ≠ e) : w'.heap[x]? = w.heap[x]? := by
  have hlt := (Array.getElem?_eq_some_iff.1 hx).1
  rcases hc with ⟨rfl, _, hg⟩ | ⟨_, hg⟩
  · refine hg.block x hlt (fun h => ?_)
    simp only [Option.some.injEq] at h
    subst h
    rcases ho.2 with ⟨q, _⟩ | ⟨g', c1, cur, q, _, hh, _⟩
    · cases q
    · simp only [Value.slice.injEq, Option.some.injEq, Addr.mk.injEq, and_true, true_and] at q
      obtain ⟨rfl, _⟩ := q
      rw [hx] at hh
      injection hh with hh
      injection hh with _ q3
      exact he q3
  · exact hg.block x hlt (by simp)
theorem Bl.keep {w w' : World} {B s k cp g cap' x n c : Nat} {e : TypeId} {a : Option Addr} {xs : List Value} {f : Nat → Nat} (hb : Bl w x n c f) (ho : w.ownsRow B e s (.slice a k cp) k xs) (hc : a = some ⟨g, 0, none⟩ ∧ cap' = cp ∧ w.grownBy w' (some g) ∨ w.heap.size ≤ g ∧ w.grownBy w' none) (he : 5 ≠ e) : Bl w' x n c f := by
  obtain ⟨us, h1, _⟩ := id hb
  exact hb.kept (keep_heap ho hc h1 he)
/-- held symbols of three bytes each. -/
structure Hw (w : World) (B : Nat) (a : Option Addr) (t cap : Nat) (h : Nat → Int) (b : Nat → Nat) (g : Nat → Nat → Nat) : Prop where
  own : w.ownsRow B 26 2 (.slice a t cap) t (hdv h (fun i => some ⟨b i, 0, none⟩) (fun _ => 3) (fun _ => 3) t)
  row : ∀ i, i < t → Bl w (b i) 3 3 (g i)
  bm : Mt.Bm g
  up : ∀ i, Pf.Up (g i) 3
section
variable {w w' : World} {B t cap : Nat} {a : Option Addr} {h : Nat → Int} {b : Nat → Nat} {g : Nat → Nat → Nat}
theorem Hw.same (s : Hw w B a t cap h b g) (hB : Below w.heap.size w w') : Hw w' B a t cap h b g := ⟨own_below s.own hB, fun i hi => (s.row i hi).below hB (s.row i hi).lt, s.bm, s.up⟩
theorem Hw.hs (s : Hw w B a t cap h b g) : Hs w a t h (fun i => some ⟨b i, 0, none⟩) (fun _ => 3) (fun _ => 3) g := hdv_hs s.own s.bm (fun i hi => (s.row i hi).sl (Nat.le_refl _) (by unfold maxLen; omega) (s.bm i) (s.up i))
/-- kept, as another list grows. -/
theorem Hw.other (s : Hw w B a t cap h b g) {B' s' k cp x cap' : Nat} {e : TypeId} {a' : Option Addr} {xs : List Value} (ho : w.ownsRow B' e s' (.slice a' k cp) k xs) (hc : a' = some ⟨x, 0, none⟩ ∧ cap' = cp ∧ w.grownBy w' (some x) ∨ w.heap.size ≤ x ∧ w.grownBy w' none) (h1 : 26 ≠ e) (h2 : 5 ≠ e) : Hw w' B a t cap h b g :=
  ⟨own_other s.own ho h1 hc, fun i hi => (s.row i hi).keep ho hc h2, s.bm, s.up⟩
/-- one more. -/
theorem Hw.step (s : Hw w B a t cap h b g) {w1 : World} (hW : Below w.heap.size w w1) {z : Int} {x G' cap' : Nat} {y : Nat → Nat} (hx : Bl w1 x 3 3 y) (hy : Pf.By y) (hu : Pf.Up y 3)
    (hown : w'.ownsRow B 26 2 (.slice (some ⟨G', 0, none⟩) (t + 1) cap') (t + 1) (hdv h (fun i => some ⟨b i, 0, none⟩) (fun _ => 3) (fun _ => 3) t ++ [.int .i64 z, .slice (some ⟨x, 0, none⟩) 3 3]))
    (hc : a = some ⟨G', 0, none⟩ ∧ cap' = cap ∧ w1.grownBy w' (some G') ∨ w1.heap.size ≤ G' ∧ w1.grownBy w' none) :
    Hw w' B (some ⟨G', 0, none⟩) (t + 1) cap' (fun i => if i = t then z else h i) (fun i => if i = t then x else b i) (fun i j => if i = t then y j else g i j) := by
  have ho1 := own_below s.own hW
  refine ⟨?_, fun i hi => ?_, fun i j => ?_, fun i j hj => ?_⟩
  · rw [hdv_s]
    have e1 : hdv (fun i => if i = t then z else h i) (fun i => some ⟨if i = t then x else b i, 0, none⟩) (fun _ => 3) (fun _ => 3) t = hdv h (fun i => some ⟨b i, 0, none⟩) (fun _ => 3) (fun _ => 3) t := by
      have : ∀ k, k ≤ t → hdv (fun i => if i = t then z else h i) (fun i => some ⟨if i = t then x else b i, 0, none⟩) (fun _ => 3) (fun _ => 3) k = hdv h (fun i => some ⟨b i, 0, none⟩) (fun _ => 3) (fun _ => 3) k := by
        intro k
        induction k with
        | zero => intro _; rfl
        | succ k ih =>
          intro hk
          rw [hdv_s, hdv_s, ih (by omega), if_neg (by omega), if_neg (by omega)]
      exact this t (Nat.le_refl _)
    rw [e1]
    simp only [if_true]
    exact hown
  · by_cases e : i = t
    · subst e
      simp only [if_true]
      exact hx.keep ho1 hc (by decide)
    · simp only [if_neg e]
      have := (s.row i (by omega))
      exact (this.below hW this.lt).keep ho1 hc (by decide)
  · show (if i = t then y j else g i j) < 256
    split
    · exact hy j
    · exact s.bm i j
  · show (if i = t then y j else g i j) = 0
    split
    · exact hu j hj
    · exact s.up i j hj
end
/-- what stood in the list still does, behind an append to it. -/
theorem Hw.behind {w w' : World} {B t cap n x cap' : Nat} {a : Option Addr} {h : Nat → Int} {b : Nat → Nat} {g : Nat → Nat → Nat} {news : List Value} (s : Hw w B a t cap h b g) (hown : w'.ownsRow B 26 2 (.slice (some ⟨x, 0, none⟩) (t + n) cap') (t + n) (hdv h (fun i => some ⟨b i, 0, none⟩) (fun _ => 3) (fun _ => 3) t ++ news)) (hc : a = some ⟨x, 0, none⟩ ∧ cap' = cap ∧ w.grownBy w' (some x) ∨ w.heap.size ≤ x ∧ w.grownBy w' none) : Hw w' B a t cap h b g :=
  ⟨own_behind s.own hown hc, fun i hi => (s.row i hi).keep s.own hc (by decide), s.bm, s.up⟩
theorem bl_lits (w : World) (vs : List Nat) : Bl (w.alloc (.cells (vs.map fun v => Value.int .u8 (v : Nat)).toArray 5)) w.heap.size vs.length vs.length (Pf.lit vs) := by
  have := Bl.alloc w (vs.map fun v => Value.int .u8 (v : Nat)) (Pf.lit vs) (fun i hi => by
    rw [List.length_map] at hi
    simp [Pf.lit, hi])
  rwa [List.length_map] at this
theorem below2 (w : World) (o1 o2 : Obj) : Below w.heap.size w ((w.alloc o1).alloc o2) := by
  have b1 := (Below.refl w.heap.size w).alloc (Nat.le_refl _) o1
  exact b1.alloc b1.size o2
theorem below3 (w : World) (o1 o2 o3 : Obj) : Below w.heap.size w (((w.alloc o1).alloc o2).alloc o3) := by
  have b2 := below2 w o1 o2
  exact b2.alloc b2.size o3
theorem cell_at1 (w : World) (v : Value) (e : TypeId) (k : Nat) (hk : w.heap.size = k) : ∀ j u, [v][j]? = some u → (w.alloc (.cells #[v] e)).cell? ((⟨k, 0, none⟩ : Addr).add j) = some u := by subst hk; exact cell_new1 _ _ _
theorem cell_at2 (w : World) (u v : Value) (e : TypeId) (k : Nat) (hk : w.heap.size = k) : ∀ j x, [u, v][j]? = some x → (w.alloc (.cells #[u, v] e)).cell? ((⟨k, 0, none⟩ : Addr).add j) = some x := by subst hk; exact cell_new2 _ _ _ _
theorem bl_lits2 (w : World) (vs : List Nat) (o : Obj) : Bl ((w.alloc (.cells (vs.map fun v => Value.int .u8 (v : Nat)).toArray 5)).alloc o) w.heap.size vs.length vs.length (Pf.lit vs) := (bl_lits w vs).below ((Below.refl _ (w.alloc (.cells (vs.map fun v => Value.int .u8 (v : Nat)).toArray 5))).alloc (Nat.le_refl _) o) (bl_lits w vs).lt
theorem bl_lits3 (w : World) (vs : List Nat) (o o' : Obj) : Bl (((w.alloc (.cells (vs.map fun v => Value.int .u8 (v : Nat)).toArray 5)).alloc o).alloc o') w.heap.size vs.length vs.length (Pf.lit vs) := (bl_lits w vs).below (below2 _ o o') (bl_lits w vs).lt
theorem bl_lits4 (w : World) (vs : List Nat) (o o' : Obj) : Bl (((w.alloc o).alloc (.cells (vs.map fun v => Value.int .u8 (v : Nat)).toArray 5)).alloc o') (w.heap.size + 1) vs.length vs.length (Pf.lit vs) := by
  have := bl_lits2 (w.alloc o) vs o'
  rwa [World.size_alloc] at this
theorem cell_at2p (w : World) (u v : Value) (e : TypeId) (k : Nat) (o : Obj) (hk : w.heap.size = k) : ∀ j x, [u, v][j]? = some x → ((w.alloc (.cells #[u, v] e)).alloc o).cell? ((⟨k, 0, none⟩ : Addr).add j) = some x := fun j x hj => by
  have h := cell_at2 w u v e k hk j x hj
  rw [← h]
  exact (((Below.refl _ (w.alloc (.cells #[u, v] e))).alloc (Nat.le_refl _) o).cell (World.block_lt_of_cell? _ _ h))
/-- numbers, written out, where their block is known. -/
theorem hi_at (w : World) (x : Nat) (vs : List Int) (n : Nat) (hn : n ≤ vs.length) (hl : vs.length ≤ 1000) (hx : w.heap[x]? = some (.cells (vs.map (Value.int .i64)).toArray 3 (0, 0))) : Hi w (some ⟨x, 0, none⟩) n vs.length (fun i => vs.getD i 0) := by
  refine ⟨hn, by unfold maxLen; omega, fun e => (by cases e), fun ad e _ => (by cases e; rfl), fun ad e i hi => ?_⟩
  cases e
  show World.cell? _ ⟨_, 0 + i, none⟩ = _
  rw [Nat.zero_add, cell_of_row _ _ i _ _ _ hx]
  simp [show i < vs.length by omega]
/-- rows in a list, kept as another list grows. -/
theorem Pr.other {w w' : World} {B t cap B' s' k cp x cap' : Nat} {a a' : Option Addr} {b l c : Nat → Nat} {f : Nat → Nat → Nat} {e : TypeId} {xs : List Value} (s : Pr w B a t cap b l c f) (ho : w.ownsRow B' e s' (.slice a' k cp) k xs) (hc : a' = some ⟨x, 0, none⟩ ∧ cap' = cp ∧ w.grownBy w' (some x) ∨ w.heap.size ≤ x ∧ w.grownBy w' none) (h1 : 24 ≠ e) (h2 : 5 ≠ e) : Pr w' B a t cap b l c f :=
  ⟨own_other s.own ho h1 hc, fun i hi => (s.row i hi).keep ho hc h2, s.lc, s.lo, s.inj, s.bm, s.up⟩
theorem Pr.same {w w' : World} {B t cap : Nat} {a : Option Addr} {b l c : Nat → Nat} {f : Nat → Nat → Nat} (s : Pr w B a t cap b l c f) (hB : Below w.heap.size w w') : Pr w' B a t cap b l c f :=
  ⟨own_below s.own hB, fun i hi => (s.row i hi).below hB (s.row i hi).lt, s.lc, s.lo, s.inj, s.bm, s.up⟩
/-- numbers in one of three blocks just made. -/
theorem third_at (w : World) (o1 o2 o3 : Obj) : (((w.alloc o1).alloc o2).alloc o3).heap[w.heap.size + 1 + 1]? = some o3 := by
  have h := heap_alloc_new ((w.alloc o1).alloc o2) o3
  rwa [World.size_alloc, World.size_alloc] at h
theorem second_at (w : World) (o1 o2 o3 : Obj) : (((w.alloc o1).alloc o2).alloc o3).heap[w.heap.size + 1]? = some o2 := by
  have h := heap_alloc_new (w.alloc o1) o2
  rw [World.size_alloc] at h
  exact (((Below.refl _ ((w.alloc o1).alloc o2)).alloc (Nat.le_refl _) o3).block _ (by simp)).trans h
theorem first_at (w : World) (o1 o2 o3 : Obj) : (((w.alloc o1).alloc o2).alloc o3).heap[w.heap.size]? = some o1 :=
  ((below2 (w.alloc o1) o2 o3).block _ (by simp)).trans (heap_alloc_new w o1)
/-- a symbol without bytes behind what is held. -/
theorem hdv_bare (h : Nat → Int) (r : Nat → Option Addr) (l c : Nat → Nat) (t : Nat) (z : Int) : hdv h r l c t ++ [.int .i64 z, .slice none 0 0] = hdv (fun i => if i = t then z else h i) (fun i => if i = t then none else r i) (fun i => if i = t then 0 else l i) (fun i => if i = t then 0 else c i) (t + 1) := by
  rw [hdv_s]
  have e1 : ∀ k, k ≤ t → hdv (fun i => if i = t then z else h i) (fun i => if i = t then none else r i) (fun i => if i = t then 0 else l i) (fun i => if i = t then 0 else c i) k = hdv h r l c k := by
    intro k
    induction k with
    | zero => intro _; rfl
    | succ k ih =>
      intro hk
      rw [hdv_s, hdv_s, ih (by omega), if_neg (by omega), if_neg (by omega), if_neg (by omega), if_neg (by omega)]
  rw [e1 t (Nat.le_refl _)]
  simp only [if_true]
theorem Hw.bare {w w1 w' : World} {B t cap : Nat} {a : Option Addr} {h : Nat → Int} {b : Nat → Nat} {g : Nat → Nat → Nat} (s : Hw w B a t cap h b g) (hW : Below w.heap.size w w1) {z : Int} {G' cap' : Nat}
    (hown : w'.ownsRow B 26 2 (.slice (some ⟨G', 0, none⟩) (t + 1) cap') (t + 1) (hdv h (fun i => some ⟨b i, 0, none⟩) (fun _ => 3) (fun _ => 3) t ++ [.int .i64 z, .slice none 0 0]))
    (hc : a = some ⟨G', 0, none⟩ ∧ cap' = cap ∧ w1.grownBy w' (some G') ∨ w1.heap.size ≤ G' ∧ w1.grownBy w' none) :
    Hs w' (some ⟨G', 0, none⟩) (t + 1) (fun i => if i = t then z else h i) (fun i => if i = t then none else some ⟨b i, 0, none⟩) (fun i => if i = t then 0 else 3) (fun i => if i = t then 0 else 3) (fun i j => if i = t then 0 else g i j) := by
  have ho1 := own_below s.own hW
  rw [hdv_bare] at hown
  refine hdv_hs hown (fun i j => ?_) (fun i hi => ?_)
  · show (if i = t then 0 else g i j) < 256
    split
    · omega
    · exact s.bm i j
  · by_cases e : i = t
    · subst e
      simp only [if_true]
      exact sl_nil _
    · simp only [if_neg e]
      have := s.row i (by omega)
      exact ((this.below hW this.lt).keep ho1 hc (by decide)).sl (Nat.le_refl _) (by unfold maxLen; omega) (s.bm i) (s.up i)
theorem byte_any (x : Int) (h : -1 ≤ x ∧ x ≤ 255) : ∃ b : Nat, IntKind.u8.wrap x = (b : Int) ∧ b < 256 := by
  by_cases h0 : x = -1
  · subst h0; exact ⟨255, rfl, by omega⟩
  · exact ⟨x.toNat, by rw [IntWalk.u8_in _ (by omega)]; omega, by omega⟩
theorem two_by {a b : Nat} (ha : a < 256) (hb : b < 256) : ∀ v ∈ [a, b], v < 256 := fun v hv => by
  rcases List.mem_cons.1 hv with rfl | hv
  · exact ha
  · rcases List.mem_singleton.1 hv with rfl; exact hb
theorem three_by {a b c : Nat} (ha : a < 256) (hb : b < 256) (hc : c < 256) : ∀ v ∈ [a, b, c], v < 256 := fun v hv => by
  rcases List.mem_cons.1 hv with rfl | hv
  · exact ha
  · exact two_by hb hc v hv

/-- numbers about the ends. -/
def EndA (Lb : Nat) (w : World) : Prop := w.heap[Lb]? = some (.cells #[.int .i64 255, .int .i64 256, .int .i64 1099511627776, .int .i64 (-4611686018427387904)] 3 (0, 0))
theorem EndA.c {Lb : Nat} {w : World} (h : EndA Lb w) (j : Nat) (v : Value) (hv : (#[.int .i64 255, .int .i64 256, .int .i64 1099511627776, .int .i64 (-4611686018427387904)] : Array Value)[j]? = some v) : w.cell? ⟨Lb, j, none⟩ = some v := by
  rw [cell_of_row w Lb j _ _ _ h]; exact hv
def ev (k : Nat) : Int := ([255, 256, 1099511627776, -4611686018427387904] : List Int).getD k 0
theorem ev_get (k : Nat) (h : k < 4) : (#[.int .i64 255, .int .i64 256, .int .i64 1099511627776, .int .i64 (-4611686018427387904)] : Array Value)[k]? = some (.int .i64 (ev k)) := by
  match k, h with
  | 0, _ => rfl | 1, _ => rfl | 2, _ => rfl | 3, _ => rfl
  | k + 4, h => exact absurd h (by omega)
theorem EndA.same {Lb : Nat} {w w' : World} (h : EndA Lb w) (hB : Below w.heap.size w w') : EndA Lb w' := (hB.block _ (Array.getElem?_eq_some_iff.1 h).1).trans h
theorem share {X G : Prop} (f : G → X) (g : G) : X := f g
theorem four_at (w : World) (a b c d : Obj) : ((((w.alloc a).alloc b).alloc c).alloc d).heap[w.heap.size]? = some a ∧ ((((w.alloc a).alloc b).alloc c).alloc d).heap[w.heap.size + 1]? = some b ∧ ((((w.alloc a).alloc b).alloc c).alloc d).heap[w.heap.size + 1 + 1]? = some c ∧ ((((w.alloc a).alloc b).alloc c).alloc d).heap[w.heap.size + 1 + 1 + 1]? = some d := by
  refine ⟨?_, ?_, ?_, ?_⟩
  · exact ((below3 (w.alloc a) b c d).block _ (by simp)).trans (heap_alloc_new w a)
  · have h := heap_alloc_new (w.alloc a) b
    rw [World.size_alloc] at h
    exact ((below2 ((w.alloc a).alloc b) c d).block _ (by simp)).trans h
  · have h := heap_alloc_new ((w.alloc a).alloc b) c
    rw [World.size_alloc, World.size_alloc] at h
    exact (((Below.refl _ (((w.alloc a).alloc b).alloc c)).alloc (Nat.le_refl _) d).block _ (by simp)).trans h
  · have h := heap_alloc_new (((w.alloc a).alloc b).alloc c) d
    rwa [World.size_alloc, World.size_alloc, World.size_alloc] at h
theorem below4 (w : World) (a b c d : Obj) : Below w.heap.size w ((((w.alloc a).alloc b).alloc c).alloc d) := by
  have b3 := below3 w a b c
  exact b3.alloc b3.size d
theorem lit_at (w : World) (b : Nat) (vs : List Nat) (hb : w.heap[b]? = some (.cells (vs.map fun v => Value.int .u8 (v : Nat)).toArray 5 (0, 0))) (hv : ∀ v ∈ vs, v < 256) (hl : vs.length ≤ 1000) : Sl w (some ⟨b, 0, none⟩) vs.length vs.length (Pf.lit vs) := by
  have : Bl w b vs.length vs.length (Pf.lit vs) := ⟨_, hb, by simp, fun i hi => by simp [Pf.lit, hi]⟩
  exact this.sl (Nat.le_refl _) (by unfold maxLen; omega) (Pf.lit_by hv) (Pf.lit_up _)
/-- two symbols, written out. -/
theorem held_two (w : World) (b1 b2 g : Nat) (z1 z2 : Int) (v1 v2 : List Nat) (h1 : w.heap[b1]? = some (.cells (v1.map fun v => Value.int .u8 (v : Nat)).toArray 5 (0, 0))) (h2 : w.heap[b2]? = some (.cells (v2.map fun v => Value.int .u8 (v : Nat)).toArray 5 (0, 0)))
    (hg : w.heap[g]? = some (.cells #[.int .i64 z1, .slice (some ⟨b1, 0, none⟩) v1.length v1.length, .int .i64 z2, .slice (some ⟨b2, 0, none⟩) v2.length v2.length] 26 (0, 0))) (hv1 : ∀ v ∈ v1, v < 256) (hv2 : ∀ v ∈ v2, v < 256) (hl1 : v1.length ≤ 1000) (hl2 : v2.length ≤ 1000) :
    Hs w (some ⟨g, 0, none⟩) 2 (fun i => if i = 0 then z1 else z2) (fun i => if i = 0 then some ⟨b1, 0, none⟩ else some ⟨b2, 0, none⟩) (fun i => if i = 0 then v1.length else v2.length) (fun i => if i = 0 then v1.length else v2.length) (fun i => if i = 0 then Pf.lit v1 else Pf.lit v2) := by
  refine ⟨fun i j => ?_, fun i hi => ⟨g, 0, rfl, ?_, ?_⟩, fun i hi => ?_⟩
  · show (if i = 0 then Pf.lit v1 else Pf.lit v2) j < 256
    split
    · exact Pf.lit_by hv1 j
    · exact Pf.lit_by hv2 j
  · rw [cell_of_row w g _ _ _ _ hg]
    rcases (show i = 0 ∨ i = 1 by omega) with rfl | rfl <;> rfl
  · rw [cell_of_row w g _ _ _ _ hg]
    rcases (show i = 0 ∨ i = 1 by omega) with rfl | rfl <;> rfl
  · rcases (show i = 0 ∨ i = 1 by omega) with rfl | rfl
    · exact lit_at w b1 v1 h1 hv1 hl1
    · exact lit_at w b2 v2 h2 hv2 hl2
set_option maxHeartbeats 16000000 in
set_option maxRecDepth 100000 in
theorem codeEnds_any (w : World) :
    Calls Tryz.prog 3 #[] w fun e w' => e = .returned (.bool true) ∧ Below w.heap.size w w' := by
  obtain ⟨i0, hi, hz0, hz1, hz2⟩ := info_parts Tryz.infoHeld
  have HI := Lib.hid hi; have HZ0 := Lib.hid hz0; have HZ1 := Lib.hid hz1; have HZ2 := Lib.hid hz2
  obtain ⟨i1, hi', hz0', hz1', hz2'⟩ := info_parts Tryz.infoRow
  have HI' := Lib.hid hi'; have HZ0' := Lib.hid hz0'; have HZ1' := Lib.hid hz1'; have HZ2' := Lib.hid hz2'
  clear hi hz0 hz1 hz2 hi' hz0' hz1' hz2'
  go_enter Tryz.func3, Tryz.ntmps3
  go_wp2_with fail
  go_loopw [1] (fun vx wr => ∃ (x : Int) (W : World), W = wr ∧ -1 ≤ x ∧ x ≤ 6 ∧ vx = .int .i64 x ∧ Below w.heap.size w wr) (fun vx _ => (6 - intOf vx).toNat)
  case atStart => exact ⟨-1, _, rfl, by omega, by omega, rfl, Below.refl _ _⟩
  case round =>
    obtain ⟨x, wa, rfl, hx1, hx2, rfl, hBa⟩ := hrel
    have HBa := Lib.hid hBa
    clear hBa
    by_cases hx6 : x < 6
    · go_wp2_with fail
      go_loopw [2] (fun vy wr => ∃ (y : Int) (W : World), W = wr ∧ -1 ≤ y ∧ y ≤ 7 ∧ vy = .int .i64 y ∧ Below w.heap.size w wr) (fun vy _ => (7 - intOf vy).toNat)
      case atStart => exact ⟨-1, _, rfl, by omega, by omega, rfl, HBa.out⟩
      case round =>
        obtain ⟨y, wo, rfl, hy1, hy2, rfl, hBo⟩ := hrel
        have HBo := Lib.hid hBo
        have hso := hBo.size
        clear hBo
        by_cases hy7 : y < 7
        · go_wp2_with fail
          have HPN := Lib.hid (pr_none wo wo.heap.size (fun _ => 0) (fun _ => 2) (fun _ => 0))
          have HHN := Lib.hid (Hw.mk (w := wo) (B := wo.heap.size) (h := fun _ => 0) (b := fun _ => 0) (g := fun _ _ => 0) (World.ownsRow_nil wo wo.heap.size 26 2) (fun i hi => absurd hi (Nat.not_lt_zero i)) (fun _ _ => (by omega : 0 < 256)) (fun _ _ _ => rfl))
          go_loopw [3, 4, 5] (fun vs vh vi wr => ∃ (t : Nat) (sa : Option Addr) (sc : Nat) (sb scc : Nat → Nat) (f : Nat → Nat → Nat) (ha : Option Addr) (hc : Nat) (h : Nat → Int) (hb : Nat → Nat) (g : Nat → Nat → Nat) (W : World), W = wr ∧ t ≤ 7 ∧ vi = .int .i64 t ∧ vs = .slice sa t sc ∧ vh = .slice ha t hc ∧ Pr wr wo.heap.size sa t sc sb (fun _ => 2) scc f ∧ Hw wr wo.heap.size ha t hc h hb g ∧ Below wo.heap.size wo wr) (fun _ _ i _ => 7 - (intOf i).toNat)
          case atStart => exact ⟨0, none, 0, _, _, _, none, 0, _, _, _, _, rfl, by omega, rfl, rfl, rfl, HPN.out, HHN.out, Below.refl _ _⟩
          case round =>
            clear HPN HHN
            obtain ⟨t, sa, sc, sb, scc, f, ha, hc, h, hb, g, wx, rfl, ht, rfl, rfl, rfl, hP, hH, hBx⟩ := hrel
            have HP := Lib.hid hP; have HH := Lib.hid hH; have HBx := Lib.hid hBx
            have hsx := hBx.size
            clear hP hH hBx
            by_cases hty : (t : Int) < y
            · obtain ⟨bn, hbn, hbn2⟩ := byte_any x (by omega)
              obtain ⟨bk, hbk, hbk2⟩ := byte_any y (by omega)
              have ht5 : t ≤ 5 := by omega
              obtain ⟨v0, hv0⟩ : ∃ v0 : Nat, (t : Int) * 7 = (v0 : Int) := ⟨t * 7, by omega⟩
              have hv1 : IntKind.u8.wrap (v0 : Int) = (v0 : Int) := IntWalk.u8_in _ (by omega)
              have hv2 : v0 < 256 := by omega
              have htb : IntKind.u8.wrap (t : Int) = (t : Int) := IntWalk.u8_in _ (by omega)
              have hal1 : Below wx.heap.size wx (wx.alloc (.cells #[.int .u8 (v0 : Nat), .int .u8 (bn : Nat)] 5)) := (Below.refl _ wx).alloc (Nat.le_refl _) _
              have hal2 := hal1.trans (((Below.refl _ (wx.alloc (.cells #[.int .u8 (v0 : Nat), .int .u8 (bn : Nat)] 5))).alloc (Nat.le_refl _) (.cells #[.slice (some ⟨wx.heap.size, 0, none⟩) 2 2] 24)).mono hal1.size)
              have hbl1 : Bl (wx.alloc (.cells #[.int .u8 (v0 : Nat), .int .u8 (bn : Nat)] 5)) wx.heap.size 2 2 (Pf.lit [v0, bn]) := bl_lits wx [v0, bn]
              have HBL := Lib.hid (hbl1.below (((Below.refl _ (wx.alloc (.cells #[.int .u8 (v0 : Nat), .int .u8 (bn : Nat)] 5))).alloc (Nat.le_refl _) (.cells #[.slice (some ⟨wx.heap.size, 0, none⟩) 2 2] 24))) hbl1.lt)
              have HAL2 := Lib.hid hal2
              have HOW := Lib.hid (own_below HP.out.own hal2)
              have hbb : wo.heap.size ≤ ((wx.alloc (.cells #[.int .u8 (v0 : Nat), .int .u8 (bn : Nat)] 5)).alloc (.cells #[.slice (some ⟨wx.heap.size, 0, none⟩) 2 2] 24)).heap.size := Nat.le_trans hsx hal2.size
              have HBY := Lib.hid (two_by hv2 hbn2)
              clear hal1 hal2 hbl1
              go_upto_region 12 with fail
              go_upto_region 13 with (at_builtin; (refine wpList_append_bagN _ rfl _ _ 22 rfl wo.heap.size 24 i1 (.slice none 0 0) 1 24 Tryz.underlying22 HI'.out HZ0'.out HZ1'.out HZ2'.out rfl (by decide) sa t sc _ rfl HOW.out _ 1 1 [.slice (some ⟨wx.heap.size, 0, none⟩) 2 2] rfl rfl (cell_at1 _ _ _ _ (World.size_alloc _ _)) (by intro u hu; rcases List.mem_singleton.1 hu with rfl; rfl) (by decide) (by unfold maxLen; omega) (by omega) hbb ?_); intro g1 c1 w1 hown1 hc1 hlt1; have HOWN1 := Lib.hid hown1; have HC1 := Lib.hid hc1; clear hown1 hc1 hlt1)
              have hP1 := HP.out.step HAL2.out HBL.out (Nat.le_refl _) hsx ⟨Nat.le_refl _, by unfold maxLen; omega⟩ (Pf.lit_by HBY.out) (Pf.lit_up _) HOWN1.out HC1.out
              have hH1 := (HH.out.same HAL2.out).other HOW.out HC1.out (by decide) (by decide)
              have hB1 := (HBx.out.trans (HAL2.out.mono hsx)).trans (bag_below (B := wo.heap.size) HC1.out (HOWN1.out.lt g1 rfl).1 hbb)
              rw [show (fun i => if i = t then 2 else (fun _ => 2) i) = (fun _ : Nat => 2) from by funext i; split <;> rfl] at hP1
              have hs1 := hB1.size
              have HP1 := Lib.hid hP1; have HH1 := Lib.hid hH1; have HB1 := Lib.hid hB1
              clear hP1 hH1 hB1 HP HH HBx HOWN1 HC1 HOW HBL HAL2 hbb
              have hal3 : Below w1.heap.size w1 (w1.alloc (.cells #[.int .u8 (t : Nat), .int .u8 (bk : Nat), .int .u8 9] 5)) := (Below.refl _ w1).alloc (Nat.le_refl _) _
              have hbl3 : Bl (w1.alloc (.cells #[.int .u8 (t : Nat), .int .u8 (bk : Nat), .int .u8 9] 5)) w1.heap.size 3 3 (Pf.lit [t, bk, 9]) := bl_lits w1 [t, bk, 9]
              have HAL3 := Lib.hid hal3; have HBL3 := Lib.hid hbl3
              have HBY3 := Lib.hid (three_by (by omega : t < 256) hbk2 (by omega : 9 < 256))
              clear hal3 hbl3
              go_wp2_with (at_builtin; generalize ((t : Int) * 2 + 1) % (if x < 1 then 1 else x) = z; have hal4 : Below w1.heap.size w1 ((w1.alloc (.cells #[.int .u8 (t : Nat), .int .u8 (bk : Nat), .int .u8 9] 5)).alloc (.cells #[.int .i64 z, .slice (some ⟨w1.heap.size, 0, none⟩) 3 3] 26)) := HAL3.out.trans (((Below.refl _ (w1.alloc (.cells #[.int .u8 (t : Nat), .int .u8 (bk : Nat), .int .u8 9] 5))).alloc (Nat.le_refl _) _).mono HAL3.out.size); have ho4 := own_below HH1.out.own hal4; have hbb4 := Nat.le_trans hs1 hal4.size; (refine wpList_append_bagN _ rfl _ _ 23 rfl wo.heap.size 26 i0 (.agg #[.int .i64 0, .slice none 0 0]) 2 32 Tryz.underlying23 HI.out HZ0.out HZ1.out HZ2.out rfl (by decide) ha t hc _ rfl ho4 _ 1 1 [.int .i64 z, .slice (some ⟨w1.heap.size, 0, none⟩) 3 3] rfl rfl (cell_at2 _ _ _ _ _ (World.size_alloc _ _)) (pair_ones _ _ _ _) (by decide) (by unfold maxLen; omega) (by omega) hbb4 ?_); intro g2 c2 w2 hown2 hc2 hlt2; have HH2 := Lib.hid (HH1.out.step hal4 (HBL3.out.below ((Below.refl _ (w1.alloc (.cells #[.int .u8 (t : Nat), .int .u8 (bk : Nat), .int .u8 9] 5))).alloc (Nat.le_refl _) _) HBL3.out.lt) (Pf.lit_by HBY3.out) (Pf.lit_up _) hown2 hc2); have HP2 := Lib.hid ((HP1.out.same hal4).other ho4 hc2 (by decide) (by decide)); have HB2 := Lib.hid ((HB1.out.trans (hal4.mono hs1)).trans (bag_below (B := wo.heap.size) hc2 (hown2.lt g2 rfl).1 hbb4)); clear hal4 ho4 hbb4 hown2 hc2 hlt2)
              go_roundw
              case rel => exact ⟨t + 1, _, _, _, _, _, _, _, _, _, _, _, rfl, by omega, by go_num, rfl, rfl, HP2.out, HH2.out, HB2.out⟩
              case measure => simp [intOf]; omega
            · go_wp2_with fail
              have HRS := Lib.hid (fun W (hW : Below wx.heap.size wx W) => (HP.out.same hW).go.rd)
              have hd0 : Below wx.heap.size wx wx.drew := below_dr (Below.refl _ wx) 1
              have HD0 := Lib.hid hd0
              clear hd0
              obtain ⟨k, hk, hk7⟩ : ∃ k : Nat, (if y < 0 then 0 else y) = (k : Int) ∧ k ≤ 7 := ⟨y.toNat, by split <;> omega, by omega⟩
              obtain ⟨q, hq, hq6⟩ : ∃ q : Nat, (if (if 6 < x then 6 else x) < 0 then 0 else if 6 < x then 6 else x) = (q : Int) ∧ (q : Int) ≤ 6 := ⟨x.toNat, by split <;> split <;> omega, by omega⟩
              -- region 14
              refine wp_region_held_drew (S := fun _ => True) (by kernel_rfl) (trivial) (fun hHeld => ?_)
              refine wpAnyH_take (i := 0) (oi := ⟨some 45, _, _, _, _, none⟩) (v := (.int .i64 x)) rfl (by kernel_rfl) (by kernel_rfl) (by kernel_rfl) (fun _ _ _ h => h) (Or.inl ⟨by rfl, fun W hW => ?_⟩) (by assumption) ?_
              · go_simp
              simp only [Act.put, List.setIfInBounds_toArray, List.set_cons_zero, List.set_cons_succ]
              refine wpAnyH_take (i := 1) (oi := ⟨some 46, _, _, _, _, none⟩) (v := (.int .i64 y)) rfl (by kernel_rfl) (by kernel_rfl) (by kernel_rfl) (fun _ _ _ h => h) (Or.inl ⟨by rfl, fun W hW => ?_⟩) (by assumption) ?_
              · go_simp
              simp only [Act.put, List.setIfInBounds_toArray, List.set_cons_zero, List.set_cons_succ]
              refine wpAnyH_take (i := 2) (oi := ⟨some 47, _, _, _, _, none⟩) (v := (.slice sa t sc)) rfl (by kernel_rfl) (by kernel_rfl) (by kernel_rfl) (fun _ _ _ h => h) (Or.inl ⟨by rfl, fun W hW => ?_⟩) (by assumption) ?_
              · go_simp
              simp only [Act.put, List.setIfInBounds_toArray, List.set_cons_zero, List.set_cons_succ]
              refine wpAnyH_take (i := 3) (oi := ⟨some 48, _, _, _, _, none⟩) (v := (.int .i64 y)) rfl (by kernel_rfl) (by kernel_rfl) (by kernel_rfl) (fun _ _ _ h => h) (Or.inl ⟨by rfl, fun W hW => ?_⟩) (by assumption) ?_
              · go_simp
              simp only [Act.put, List.setIfInBounds_toArray, List.set_cons_zero, List.set_cons_succ]
              refine wpAnyH_take (i := 4) (oi := ⟨some 49, _, _, _, _, none⟩) (v := (.int .i64 (IntKind.i64.wrap (y - 1)))) rfl (by kernel_rfl) (by kernel_rfl) (by kernel_rfl) (fun _ _ _ h => h) (Or.inl ⟨by rfl, fun W hW => ?_⟩) (by assumption) ?_
              · go_simp
              simp only [Act.put, List.setIfInBounds_toArray, List.set_cons_zero, List.set_cons_succ]
              refine wpAnyH_ready (rs := [5]) (by kernel_rfl) (by simp) (AllReadyH.cons rfl (fun KK hKK => ?_) AllReadyH.nil)
              go_simp
              refine (codeEncodes_any _ t _ _ _ _ _ _ _ _ (by omega) (fun _ _ => by omega) _ (HRS.out _ HD0.out)).mono ?_
              rintro e w1 ⟨rfl, hB1⟩
              have HB1 := Lib.hid (HD0.out.trans (hB1.mono HD0.out.size)); clear hB1
              dsimp only
              refine hKK.out _ _ (trivial) (fun hHeld => ?_)
              clear hKK KK
              try simp only [Act.put, List.setIfInBounds_toArray, List.set_cons_zero, List.set_cons_succ]
              refine wpAnyH_take (i := 6) (oi := ⟨some 51, _, _, _, _, none⟩) (v := (.bool false)) rfl (by kernel_rfl) (by kernel_rfl) (by kernel_rfl) (fun _ _ _ h => h) (Or.inl ⟨by rfl, fun W hW => ?_⟩) (by assumption) ?_
              · go_simp
              simp only [Act.put, List.setIfInBounds_toArray, List.set_cons_zero, List.set_cons_succ]
              refine wpAnyH_take (i := 7) (oi := ⟨some 52, _, _, _, _, none⟩) (v := (.bool false)) rfl (by kernel_rfl) (by kernel_rfl) (by kernel_rfl) (fun _ _ _ h => h) (Or.inl ⟨by rfl, fun W hW => ?_⟩) (by assumption) ?_
              · go_simp
              simp only [Act.put, List.setIfInBounds_toArray, List.set_cons_zero, List.set_cons_succ]
              refine wpAnyH_take (i := 8) (oi := ⟨some 53, _, _, _, _, some (7, false)⟩) (v := (.int .i64 x)) rfl (by kernel_rfl) (by kernel_rfl) (by kernel_rfl) (fun _ _ _ h => h) (Or.inl ⟨by rfl, fun W hW => ?_⟩) (by assumption) ?_
              · go_simp
              simp only [Act.put, List.setIfInBounds_toArray, List.set_cons_zero, List.set_cons_succ]
              refine wpAnyH_take (i := 9) (oi := ⟨some 54, _, _, _, _, some (7, false)⟩) (v := (.int .i64 y)) rfl (by kernel_rfl) (by kernel_rfl) (by kernel_rfl) (fun _ _ _ h => h) (Or.inl ⟨by rfl, fun W hW => ?_⟩) (by assumption) ?_
              · go_simp
              simp only [Act.put, List.setIfInBounds_toArray, List.set_cons_zero, List.set_cons_succ]
              refine wpAnyH_take (i := 10) (oi := ⟨some 55, _, _, _, _, some (7, false)⟩) (v := (.slice sa t sc)) rfl (by kernel_rfl) (by kernel_rfl) (by kernel_rfl) (fun _ _ _ h => h) (Or.inl ⟨by rfl, fun W hW => ?_⟩) (by assumption) ?_
              · go_simp
              simp only [Act.put, List.setIfInBounds_toArray, List.set_cons_zero, List.set_cons_succ]
              refine wpAnyH_ready (rs := [11]) (by kernel_rfl) (by simp) (AllReadyH.cons rfl (fun KK hKK => ?_) AllReadyH.nil)
              go_simp
              refine hKK.out _ _ (trivial) (fun hHeld => ?_)
              clear hKK KK
              try simp only [Act.put, List.setIfInBounds_toArray, List.set_cons_zero, List.set_cons_succ]
              refine wpAnyH_ready (rs := [12]) (by kernel_rfl) (by simp) (AllReadyH.cons rfl (fun KK hKK => ?_) AllReadyH.nil)
              go_simp
              refine hKK.out _ _ (trivial) (fun hHeld => ?_)
              clear hKK KK
              try simp only [Act.put, List.setIfInBounds_toArray, List.set_cons_zero, List.set_cons_succ]
              refine wpAnyH_ready (rs := [13]) (by kernel_rfl) (by simp) (AllReadyH.cons rfl (fun KK hKK => ?_) AllReadyH.nil)
              have hal1 : Below w1.heap.size w1 (w1.alloc (.cells #[.int .u8 1] 5)) := (Below.refl _ w1).alloc (Nat.le_refl _) _
              have hal2 : Below w1.heap.size w1 ((w1.alloc (.cells #[.int .u8 1] 5)).alloc (.cells #[.slice (some ⟨w1.heap.size, 0, none⟩) 1 1] 24)) := hal1.trans (((Below.refl _ (w1.alloc (.cells #[.int .u8 1] 5))).alloc (Nat.le_refl _) _).mono hal1.size)
              have hbl : Bl (w1.alloc (.cells #[.int .u8 1] 5)) w1.heap.size 1 1 (Pf.lit [1]) := bl_lits w1 [1]
              have hs1 : wo.heap.size ≤ w1.heap.size := Nat.le_trans hsx HB1.out.size
              have hbb := Nat.le_trans hs1 hal2.size
              have ho := own_below (HP.out.same HB1.out).own hal2
              refine step_append_bagN rfl (.tmp 55) (.tmp 57) 22 rfl wo.heap.size 24 i1 (.slice none 0 0) 1 24 Tryz.underlying22 HI'.out HZ0'.out HZ1'.out HZ2'.out rfl (by decide) sa t sc _ rfl ho _ 1 1 [.slice (some ⟨w1.heap.size, 0, none⟩) 1 1] rfl rfl (cell_at1 _ _ _ _ (World.size_alloc _ _)) (by intro u hu; rcases List.mem_singleton.1 hu with rfl; rfl) (by decide) (by unfold maxLen; omega) (by omega) hbb ?_
              intro g2 c2 w2 hown2 hc2 hlt2
              have HP2 := Lib.hid ((HP.out.same HB1.out).step hal2 (hbl.below ((Below.refl _ (w1.alloc (.cells #[.int .u8 1] 5))).alloc (Nat.le_refl _) (.cells #[.slice (some ⟨w1.heap.size, 0, none⟩) 1 1] 24)) hbl.lt) (Nat.le_refl _) hs1 ⟨Nat.le_refl _, by unfold maxLen; omega⟩ (Pf.lit_by (by intro v hv; rcases List.mem_singleton.1 hv with rfl; omega)) (Pf.lit_up _) hown2 hc2)
              have HH2 := Lib.hid (((HH.out.same HB1.out).same hal2).other ho hc2 (by decide) (by decide))
              have HB2 := Lib.hid (((HBx.out.trans (HB1.out.mono hsx)).trans (hal2.mono hs1)).trans (bag_below (B := wo.heap.size) hc2 (hown2.lt g2 rfl).1 hbb))
              clear hal1 hal2 hbl hs1 hbb ho hown2 hc2 hlt2
              refine hKK.out _ _ (trivial) (fun hHeld => ?_)
              clear hKK KK
              try simp only [Act.put, List.setIfInBounds_toArray, List.set_cons_zero, List.set_cons_succ]
              refine wpAnyH_ready (rs := [14]) (by kernel_rfl) (by simp) (AllReadyH.cons rfl (fun KK hKK => ?_) AllReadyH.nil)
              go_simp
              refine (codeEncodes_any _ (t + 1) _ _ _ _ _ _ _ _ (by omega) (fun i _ => by show (if i = t then 1 else 2) ≤ _; split <;> omega) _ HP2.out.go.rd).mono ?_
              rintro e w3 ⟨rfl, hB3⟩
              have HH3 := Lib.hid (HH2.out.same hB3); have HB3 := Lib.hid (HB2.out.trans (hB3.mono HB2.out.size)); clear hB3 HP2 HH2 HB2
              dsimp only
              refine hKK.out _ _ (trivial) (fun hHeld => ?_)
              clear hKK KK
              try simp only [Act.put, List.setIfInBounds_toArray, List.set_cons_zero, List.set_cons_succ]
              refine wpAnyH_take (i := 15) (oi := ⟨some 60, _, _, _, _, some (7, false)⟩) (v := (.bool false)) rfl (by kernel_rfl) (by kernel_rfl) (by kernel_rfl) (fun _ _ _ h => h) (Or.inl ⟨by rfl, fun W hW => ?_⟩) (by assumption) ?_
              · go_simp
              simp only [Act.put, List.setIfInBounds_toArray, List.set_cons_zero, List.set_cons_succ]
              refine wpAnyH_take (i := 16) (oi := ⟨some 61, _, _, _, _, none⟩) (v := (.bool false)) rfl (by kernel_rfl) (by kernel_rfl) (by kernel_rfl) (fun _ _ _ h => h) (Or.inl ⟨by rfl, fun W hW => ?_⟩) (by assumption) ?_
              · go_simp
              simp only [Act.put, List.setIfInBounds_toArray, List.set_cons_zero, List.set_cons_succ]
              refine wpAnyH_take (i := 17) (oi := ⟨some 62, _, _, _, _, none⟩) (v := (.bool false)) rfl (by kernel_rfl) (by kernel_rfl) (by kernel_rfl) (fun _ _ _ h => h) (Or.inl ⟨by rfl, fun W hW => ?_⟩) (by assumption) ?_
              · go_simp
              simp only [Act.put, List.setIfInBounds_toArray, List.set_cons_zero, List.set_cons_succ]
              refine wpAnyH_take (i := 18) (oi := ⟨some 63, _, _, _, _, some (17, false)⟩) (v := (.int .i64 x)) rfl (by kernel_rfl) (by kernel_rfl) (by kernel_rfl) (fun _ _ _ h => h) (Or.inl ⟨by rfl, fun W hW => ?_⟩) (by assumption) ?_
              · go_simp
              simp only [Act.put, List.setIfInBounds_toArray, List.set_cons_zero, List.set_cons_succ]
              refine wpAnyH_take (i := 19) (oi := ⟨some 64, _, _, _, _, some (17, false)⟩) (v := (.int .i64 y)) rfl (by kernel_rfl) (by kernel_rfl) (by kernel_rfl) (fun _ _ _ h => h) (Or.inl ⟨by rfl, fun W hW => ?_⟩) (by assumption) ?_
              · go_simp
              simp only [Act.put, List.setIfInBounds_toArray, List.set_cons_zero, List.set_cons_succ]
              refine wpAnyH_take (i := 20) (oi := ⟨some 65, _, _, _, _, some (17, false)⟩) (v := (.int .i64 y)) rfl (by kernel_rfl) (by kernel_rfl) (by kernel_rfl) (fun _ _ _ h => h) (Or.inl ⟨by rfl, fun W hW => ?_⟩) (by assumption) ?_
              · go_simp
              simp only [Act.put, List.setIfInBounds_toArray, List.set_cons_zero, List.set_cons_succ]
              refine wpAnyH_take (i := 21) (oi := ⟨some 66, _, _, _, _, some (17, false)⟩) (v := (.int .i64 (if y < 0 then 0 else y))) rfl (by kernel_rfl) (by kernel_rfl) (by kernel_rfl) (fun _ _ _ h => h) (Or.inl ⟨by rfl, fun W hW => ?_⟩) (by assumption) ?_
              · go_simp
              simp only [Act.put, List.setIfInBounds_toArray, List.set_cons_zero, List.set_cons_succ]
              refine wpAnyH_take (i := 23) (oi := ⟨some 68, _, _, _, _, some (17, false)⟩) (v := (.int .i64 x)) rfl (by kernel_rfl) (by kernel_rfl) (by kernel_rfl) (fun _ _ _ h => h) (Or.inl ⟨by rfl, fun W hW => ?_⟩) (by assumption) ?_
              · go_simp
              simp only [Act.put, List.setIfInBounds_toArray, List.set_cons_zero, List.set_cons_succ]
              refine wpAnyH_take (i := 24) (oi := ⟨some 69, _, _, _, _, some (17, false)⟩) (v := (.int .i64 (IntKind.i64.wrap (x - 1)))) rfl (by kernel_rfl) (by kernel_rfl) (by kernel_rfl) (fun _ _ _ h => h) (Or.inl ⟨by rfl, fun W hW => ?_⟩) (by assumption) ?_
              · go_simp
              simp only [Act.put, List.setIfInBounds_toArray, List.set_cons_zero, List.set_cons_succ]
              refine wpAnyH_ready (rs := [22]) (by kernel_rfl) (by simp) (AllReadyH.cons rfl (fun KK hKK => ?_) AllReadyH.nil)
              refine step_make rfl 22 (.tmp 66) (.tmp 66) rfl 24 i1 (.slice none 0 0) Tryz.underlying22 HI'.out HZ0'.out HZ1'.out k (by first | rfl | (show Value.int .i64 (if y < 0 then 0 else y) = _; rw [hk])) (by first | rfl | (show Value.int .i64 (if y < 0 then 0 else y) = _; rw [hk])) (by rw [HZ2'.out]; omega) (by omega) ?_
              refine hKK.out _ _ (trivial) (fun hHeld => ?_)
              clear hKK KK
              try simp only [Act.put, List.setIfInBounds_toArray, List.set_cons_zero, List.set_cons_succ]
              refine wpAnyH_ready (rs := [25]) (by kernel_rfl) (by simp) (AllReadyH.cons rfl (fun KK hKK => ?_) AllReadyH.nil)
              go_simp
              refine (codeEncodes_any _ k k _ _ _ _ _ _ _ (by omega) (fun _ _ => by omega) _ (rd_made w3 k (by omega))).mono ?_
              rintro e w4 ⟨rfl, hB4⟩
              have hal4 : Below w3.heap.size w3 (w3.alloc (.cells (madeCells #[.slice none 0 0] k) 24)) := (Below.refl _ w3).alloc (Nat.le_refl _) _
              have hb4 := hal4.trans (hB4.mono hal4.size)
              have HH4 := Lib.hid (HH3.out.same hb4); have HB4 := Lib.hid (HB3.out.trans (hb4.mono HB3.out.size)); clear hB4 hal4 hb4 HH3 HB3
              dsimp only
              refine hKK.out _ _ (trivial) (fun hHeld => ?_)
              clear hKK KK
              try simp only [Act.put, List.setIfInBounds_toArray, List.set_cons_zero, List.set_cons_succ]
              refine wpAnyH_take (i := 26) (oi := ⟨some 71, _, _, _, _, some (17, false)⟩) (v := (.bool false)) rfl (by kernel_rfl) (by kernel_rfl) (by kernel_rfl) (fun _ _ _ h => h) (Or.inl ⟨by rfl, fun W hW => ?_⟩) (by assumption) ?_
              · go_simp
              simp only [Act.put, List.setIfInBounds_toArray, List.set_cons_zero, List.set_cons_succ]
              refine wpAnyH_take (i := 27) (oi := ⟨some 72, _, _, _, _, none⟩) (v := (.bool false)) rfl (by kernel_rfl) (by kernel_rfl) (by kernel_rfl) (fun _ _ _ h => h) (Or.inl ⟨by rfl, fun W hW => ?_⟩) (by assumption) ?_
              · go_simp
              simp only [Act.put, List.setIfInBounds_toArray, List.set_cons_zero, List.set_cons_succ]
              refine wpAnyH_take (i := 28) (oi := ⟨some 73, _, _, _, _, none⟩) (v := (.bool false)) rfl (by kernel_rfl) (by kernel_rfl) (by kernel_rfl) (fun _ _ _ h => h) (Or.inl ⟨by rfl, fun W hW => ?_⟩) (by assumption) ?_
              · go_simp
              simp only [Act.put, List.setIfInBounds_toArray, List.set_cons_zero, List.set_cons_succ]
              refine wpAnyH_take (i := 29) (oi := ⟨some 74, _, _, _, _, some (28, false)⟩) (v := (.int .i64 x)) rfl (by kernel_rfl) (by kernel_rfl) (by kernel_rfl) (fun _ _ _ h => h) (Or.inl ⟨by rfl, fun W hW => ?_⟩) (by assumption) ?_
              · go_simp
              simp only [Act.put, List.setIfInBounds_toArray, List.set_cons_zero, List.set_cons_succ]
              refine wpAnyH_take (i := 30) (oi := ⟨some 75, _, _, _, _, some (28, false)⟩) (v := (.int .i64 y)) rfl (by kernel_rfl) (by kernel_rfl) (by kernel_rfl) (fun _ _ _ h => h) (Or.inl ⟨by rfl, fun W hW => ?_⟩) (by assumption) ?_
              · go_simp
              simp only [Act.put, List.setIfInBounds_toArray, List.set_cons_zero, List.set_cons_succ]
              refine wpAnyH_take (i := 31) (oi := ⟨some 76, _, _, _, _, some (28, false)⟩) (v := (.slice ha t hc)) rfl (by kernel_rfl) (by kernel_rfl) (by kernel_rfl) (fun _ _ _ h => h) (Or.inl ⟨by rfl, fun W hW => ?_⟩) (by assumption) ?_
              · go_simp
              simp only [Act.put, List.setIfInBounds_toArray, List.set_cons_zero, List.set_cons_succ]
              refine wpAnyH_take (i := 32) (oi := ⟨some 77, _, _, _, _, some (28, false)⟩) (v := (.int .i64 y)) rfl (by kernel_rfl) (by kernel_rfl) (by kernel_rfl) (fun _ _ _ h => h) (Or.inl ⟨by rfl, fun W hW => ?_⟩) (by assumption) ?_
              · go_simp
              simp only [Act.put, List.setIfInBounds_toArray, List.set_cons_zero, List.set_cons_succ]
              refine wpAnyH_take (i := 33) (oi := ⟨some 78, _, _, _, _, some (28, false)⟩) (v := (.int .i64 x)) rfl (by kernel_rfl) (by kernel_rfl) (by kernel_rfl) (fun _ _ _ h => h) (Or.inl ⟨by rfl, fun W hW => ?_⟩) (by assumption) ?_
              · go_simp
              simp only [Act.put, List.setIfInBounds_toArray, List.set_cons_zero, List.set_cons_succ]
              refine wpAnyH_take (i := 34) (oi := ⟨some 79, _, _, _, _, some (28, false)⟩) (v := (.int .i64 (IntKind.i64.wrap (x - 1)))) rfl (by kernel_rfl) (by kernel_rfl) (by kernel_rfl) (fun _ _ _ h => h) (Or.inl ⟨by rfl, fun W hW => ?_⟩) (by assumption) ?_
              · go_simp
              simp only [Act.put, List.setIfInBounds_toArray, List.set_cons_zero, List.set_cons_succ]
              refine wpAnyH_ready (rs := [35]) (by kernel_rfl) (by simp) (AllReadyH.cons rfl (fun KK hKK => ?_) AllReadyH.nil)
              go_simp
              refine hKK.out _ _ (trivial) (fun hHeld => ?_)
              clear hKK KK
              try simp only [Act.put, List.setIfInBounds_toArray, List.set_cons_zero, List.set_cons_succ]
              refine wpAnyH_ready (rs := [36]) (by kernel_rfl) (by simp) (AllReadyH.cons rfl (fun KK hKK => ?_) AllReadyH.nil)
              go_simp
              refine (codeDecodes_any ha (some ⟨w4.heap.size, 0, none⟩) t hc 4 4 x y h _ _ _ g _ (by omega) (fun _ _ => by omega) _ (HH4.out.same ((Below.refl _ w4).alloc (Nat.le_refl _) _)).hs (hi_lit w4 [y, IntKind.i64.wrap (x - 1), 0, 1] 4 (Nat.le_refl 4) (by show 4 ≤ 1000; omega)) (by omega)).mono ?_
              rintro e w5 ⟨rfl, hB5⟩
              have hal5 : Below w4.heap.size w4 (w4.alloc (.cells #[.int .i64 y, .int .i64 (IntKind.i64.wrap (x - 1)), .int .i64 0, .int .i64 1] 3)) := (Below.refl _ w4).alloc (Nat.le_refl _) _
              have hb5 := hal5.trans (hB5.mono hal5.size)
              have HH5 := Lib.hid (HH4.out.same hb5); have HB5 := Lib.hid (HB4.out.trans (hb5.mono HB4.out.size)); clear hB5 hal5 hb5 HH4 HB4
              dsimp only
              refine hKK.out _ _ (trivial) (fun hHeld => ?_)
              clear hKK KK
              try simp only [Act.put, List.setIfInBounds_toArray, List.set_cons_zero, List.set_cons_succ]
              refine wpAnyH_take (i := 37) (oi := ⟨some 82, _, _, _, _, some (28, false)⟩) (v := (.bool false)) rfl (by kernel_rfl) (by kernel_rfl) (by kernel_rfl) (fun _ _ _ h => h) (Or.inl ⟨by rfl, fun W hW => ?_⟩) (by assumption) ?_
              · go_simp
              simp only [Act.put, List.setIfInBounds_toArray, List.set_cons_zero, List.set_cons_succ]
              refine wpAnyH_take (i := 38) (oi := ⟨some 83, _, _, _, _, none⟩) (v := (.bool false)) rfl (by kernel_rfl) (by kernel_rfl) (by kernel_rfl) (fun _ _ _ h => h) (Or.inl ⟨by rfl, fun W hW => ?_⟩) (by assumption) ?_
              · go_simp
              simp only [Act.put, List.setIfInBounds_toArray, List.set_cons_zero, List.set_cons_succ]
              refine wpAnyH_take (i := 39) (oi := ⟨some 84, _, _, _, _, none⟩) (v := (.bool false)) rfl (by kernel_rfl) (by kernel_rfl) (by kernel_rfl) (fun _ _ _ h => h) (Or.inl ⟨by rfl, fun W hW => ?_⟩) (by assumption) ?_
              · go_simp
              simp only [Act.put, List.setIfInBounds_toArray, List.set_cons_zero, List.set_cons_succ]
              refine wpAnyH_take (i := 40) (oi := ⟨some 85, _, _, _, _, some (39, false)⟩) (v := (.int .i64 x)) rfl (by kernel_rfl) (by kernel_rfl) (by kernel_rfl) (fun _ _ _ h => h) (Or.inl ⟨by rfl, fun W hW => ?_⟩) (by assumption) ?_
              · go_simp
              simp only [Act.put, List.setIfInBounds_toArray, List.set_cons_zero, List.set_cons_succ]
              refine wpAnyH_take (i := 41) (oi := ⟨some 86, _, _, _, _, some (39, false)⟩) (v := (.int .i64 y)) rfl (by kernel_rfl) (by kernel_rfl) (by kernel_rfl) (fun _ _ _ h => h) (Or.inl ⟨by rfl, fun W hW => ?_⟩) (by assumption) ?_
              · go_simp
              simp only [Act.put, List.setIfInBounds_toArray, List.set_cons_zero, List.set_cons_succ]
              refine wpAnyH_take (i := 42) (oi := ⟨some 87, _, _, _, _, some (39, false)⟩) (v := (.slice ha t hc)) rfl (by kernel_rfl) (by kernel_rfl) (by kernel_rfl) (fun _ _ _ h => h) (Or.inl ⟨by rfl, fun W hW => ?_⟩) (by assumption) ?_
              · go_simp
              simp only [Act.put, List.setIfInBounds_toArray, List.set_cons_zero, List.set_cons_succ]
              refine wpAnyH_take (i := 43) (oi := ⟨some 88, _, _, _, _, some (39, false)⟩) (v := (.int .i64 x)) rfl (by kernel_rfl) (by kernel_rfl) (by kernel_rfl) (fun _ _ _ h => h) (Or.inl ⟨by rfl, fun W hW => ?_⟩) (by assumption) ?_
              · go_simp
              simp only [Act.put, List.setIfInBounds_toArray, List.set_cons_zero, List.set_cons_succ]
              refine wpAnyH_take (i := 44) (oi := ⟨some 89, _, _, _, _, some (39, false)⟩) (v := (.int .i64 (IntKind.i64.wrap (x - 1)))) rfl (by kernel_rfl) (by kernel_rfl) (by kernel_rfl) (fun _ _ _ h => h) (Or.inl ⟨by rfl, fun W hW => ?_⟩) (by assumption) ?_
              · go_simp
              simp only [Act.put, List.setIfInBounds_toArray, List.set_cons_zero, List.set_cons_succ]
              refine wpAnyH_take (i := 50) (oi := ⟨some 95, _, _, _, _, some (39, false)⟩) (v := (.int .i64 x)) rfl (by kernel_rfl) (by kernel_rfl) (by kernel_rfl) (fun _ _ _ h => h) (Or.inl ⟨by rfl, fun W hW => ?_⟩) (by assumption) ?_
              · go_simp
              simp only [Act.put, List.setIfInBounds_toArray, List.set_cons_zero, List.set_cons_succ]
              refine wpAnyH_take (i := 51) (oi := ⟨some 96, _, _, _, _, some (39, false)⟩) (v := (.int .i64 (if 6 < x then 6 else x))) rfl (by kernel_rfl) (by kernel_rfl) (by kernel_rfl) (fun _ _ _ h => h) (Or.inl ⟨by rfl, fun W hW => ?_⟩) (by assumption) ?_
              · go_simp
              simp only [Act.put, List.setIfInBounds_toArray, List.set_cons_zero, List.set_cons_succ]
              refine wpAnyH_take (i := 52) (oi := ⟨some 97, _, _, _, _, some (39, false)⟩) (v := (.int .i64 (q : Nat))) rfl (by kernel_rfl) (by kernel_rfl) (by kernel_rfl) (fun _ _ _ h => h) (Or.inl ⟨by rfl, fun W hW => ?_⟩) (by assumption) ?_
              · rw [← hq]; go_simp
              simp only [Act.put, List.setIfInBounds_toArray, List.set_cons_zero, List.set_cons_succ]
              refine @share _ ?shP (fun hG => ?shF) ?shG
              case shF =>
                have HGH := Lib.hid hG; clear hG
                refine wpAnyH_ready (rs := [45, 49]) (by kernel_rfl) (by simp) (AllReadyH.cons rfl (fun KK hKK => ?_) (AllReadyH.cons rfl (fun KK hKK => ?_) AllReadyH.nil))
                · go_simp
                  refine hKK.out _ _ (trivial) (fun hHeld => ?_)
                  clear hKK KK
                  try simp only [Act.put, List.setIfInBounds_toArray, List.set_cons_zero, List.set_cons_succ]
                  refine wpAnyH_take (i := 46) (oi := ⟨some 91, _, _, _, _, some (39, false)⟩) (v := (.agg #[.int .i64 (IntKind.i64.wrap (x - 1)), .slice (some ⟨w5.heap.size, 0, none⟩) 3 3])) rfl (by kernel_rfl) (by kernel_rfl) (by kernel_rfl) (fun _ _ _ h => h) (Or.inl ⟨by rfl, fun W hW => ?_⟩) (by assumption) ?_
                  · go_simp
                  simp only [Act.put, List.setIfInBounds_toArray, List.set_cons_zero, List.set_cons_succ]
                  refine wpAnyH_ready (rs := [47, 49]) (by kernel_rfl) (by simp) (AllReadyH.cons rfl (fun KK hKK => ?_) (AllReadyH.cons rfl (fun KK hKK => ?_) AllReadyH.nil))
                  · go_simp
                    refine hKK.out _ _ (trivial) (fun hHeld => ?_)
                    clear hKK KK
                    try simp only [Act.put, List.setIfInBounds_toArray, List.set_cons_zero, List.set_cons_succ]
                    refine wpAnyH_ready (rs := [48, 49]) (by kernel_rfl) (by simp) (AllReadyH.cons rfl (fun KK hKK => ?_) (AllReadyH.cons rfl (fun KK hKK => ?_) AllReadyH.nil))
                    · have hbl5 := Lib.hid (below2 w5 (.cells #[.int .u8 4, .int .u8 4, .int .u8 4] 5) (.cells #[.int .i64 (IntKind.i64.wrap (x - 1)), .slice (some ⟨w5.heap.size, 0, none⟩) 3 3] 26))
                      have ho5 := own_below HH5.out.own hbl5.out
                      have hbb5 := Nat.le_trans HB5.out.size hbl5.out.size
                      refine step_append_bagN rfl (.tmp 87) (.tmp 92) 23 rfl wo.heap.size 26 i0 (.agg #[.int .i64 0, .slice none 0 0]) 2 32 Tryz.underlying23 HI.out HZ0.out HZ1.out HZ2.out rfl (by decide) ha t hc _ rfl ho5 _ 1 1 [.int .i64 (IntKind.i64.wrap (x - 1)), .slice (some ⟨w5.heap.size, 0, none⟩) 3 3] rfl rfl (cell_at2 _ _ _ _ _ (World.size_alloc _ _)) (pair_ones _ _ _ _) (by decide) (by unfold maxLen; omega) (by omega) hbb5 ?_
                      intro g6 c6 w6 hown6 hc6 hlt6
                      have HH6 := Lib.hid (HH5.out.step hbl5.out (bl_lits2 w5 [4, 4, 4] _) (Pf.lit_by (by decide)) (Pf.lit_up _) hown6 hc6)
                      have HO6 := Lib.hid (Hw.behind (HH5.out.same hbl5.out) hown6 hc6)
                      have HB6 := Lib.hid ((HB5.out.trans (hbl5.out.mono HB5.out.size)).trans (bag_below (B := wo.heap.size) hc6 (hown6.lt g6 rfl).1 hbb5))
                      clear hbl5 ho5 hbb5 hown6 hc6 hlt6
                      refine hKK.out _ _ (trivial) (fun hHeld => ?_)
                      clear hKK KK
                      try simp only [Act.put, List.setIfInBounds_toArray, List.set_cons_zero, List.set_cons_succ]
                      refine wpAnyH_ready (rs := [49]) (by kernel_rfl) (by simp) (AllReadyH.cons rfl (fun KK hKK => ?_) AllReadyH.nil)
                      go_simp
                      refine hKK.out _ _ (trivial) (fun hHeld => ?_)
                      clear hKK KK
                      try simp only [Act.put, List.setIfInBounds_toArray, List.set_cons_zero, List.set_cons_succ]
                      refine wpAnyH_take (i := 53) (oi := ⟨some 98, _, _, _, _, some (39, false)⟩) (v := (.slice (some ⟨w6.heap.size, 0, none⟩) q 6)) rfl (by kernel_rfl) (by kernel_rfl) (by kernel_rfl) (fun _ _ _ h => h) (Or.inl ⟨by rfl, fun W hW => ?_⟩) (by assumption) ?_
                      · go_simp
                      simp only [Act.put, List.setIfInBounds_toArray, List.set_cons_zero, List.set_cons_succ]
                      have hal7 : Below w6.heap.size w6 (w6.alloc (.cells #[.int .i64 0, .int .i64 1, .int .i64 2, .int .i64 3, .int .i64 4, .int .i64 5] 3)) := (Below.refl _ w6).alloc (Nat.le_refl _) _
                      have HALL := Lib.hid (show _ ∧ _ ∧ _ ∧ _ from ⟨heap_alloc_new w6 (.cells #[.int .i64 0, .int .i64 1, .int .i64 2, .int .i64 3, .int .i64 4, .int .i64 5] 3), HH6.out.same hal7, HO6.out.same hal7, HB6.out.trans (hal7.mono HB6.out.size)⟩)
                      clear hal7 HH6 HO6 HB6
                      generalize w5.heap.size + 1 = hb5
                      generalize w5.heap.size = blk at HALL ⊢
                      generalize w6.alloc (.cells #[.int .i64 0, .int .i64 1, .int .i64 2, .int .i64 3, .int .i64 4, .int .i64 5] 3) = w7 at HALL ⊢
                      generalize w6.heap.size = LB at HALL ⊢
                      clear w6
                      revert g6 c6 hb5 blk w7 LB
                      exact HGH.out
                    · go_simp
                      refine hKK.out _ _ (trivial) (fun hHeld => ?_)
                      clear hKK KK
                      try simp only [Act.put, List.setIfInBounds_toArray, List.set_cons_zero, List.set_cons_succ]
                      refine wpAnyH_take (i := 53) (oi := ⟨some 98, _, _, _, _, some (39, false)⟩) (v := (.slice (some ⟨(w5.heap.size + 1 + 1), 0, none⟩) q 6)) rfl (by kernel_rfl) (by kernel_rfl) (by kernel_rfl) (fun _ _ _ h => h) (Or.inl ⟨by rfl, fun W hW => ?_⟩) (by assumption) ?_
                      · go_simp
                      simp only [Act.put, List.setIfInBounds_toArray, List.set_cons_zero, List.set_cons_succ]
                      refine wpAnyH_ready (rs := [48]) (by kernel_rfl) (by simp) (AllReadyH.cons rfl (fun KK hKK => ?_) AllReadyH.nil)
                      have hbl5 := Lib.hid (below3 w5 (.cells #[.int .u8 4, .int .u8 4, .int .u8 4] 5) (.cells #[.int .i64 (IntKind.i64.wrap (x - 1)), .slice (some ⟨w5.heap.size, 0, none⟩) 3 3] 26) (.cells #[.int .i64 0, .int .i64 1, .int .i64 2, .int .i64 3, .int .i64 4, .int .i64 5] 3))
                      have ho5 := own_below HH5.out.own hbl5.out
                      have hbb5 := Nat.le_trans HB5.out.size hbl5.out.size
                      refine step_append_bagN rfl (.tmp 87) (.tmp 92) 23 rfl wo.heap.size 26 i0 (.agg #[.int .i64 0, .slice none 0 0]) 2 32 Tryz.underlying23 HI.out HZ0.out HZ1.out HZ2.out rfl (by decide) ha t hc _ rfl ho5 _ 1 1 [.int .i64 (IntKind.i64.wrap (x - 1)), .slice (some ⟨w5.heap.size, 0, none⟩) 3 3] rfl rfl (cell_at2p _ _ _ _ _ _ (World.size_alloc _ _)) (pair_ones _ _ _ _) (by decide) (by unfold maxLen; omega) (by omega) hbb5 ?_
                      intro g6 c6 w6 hown6 hc6 hlt6
                      have HH6 := Lib.hid (HH5.out.step hbl5.out (bl_lits3 w5 [4, 4, 4] _ _) (Pf.lit_by (by decide)) (Pf.lit_up _) hown6 hc6)
                      have HO6 := Lib.hid (Hw.behind (HH5.out.same hbl5.out) hown6 hc6)
                      have HB6 := Lib.hid ((HB5.out.trans (hbl5.out.mono HB5.out.size)).trans (bag_below (B := wo.heap.size) hc6 (hown6.lt g6 rfl).1 hbb5))
                      have HX7 := Lib.hid ((keep_heap ho5 hc6 (third_at w5 _ _ (.cells #[.int .i64 0, .int .i64 1, .int .i64 2, .int .i64 3, .int .i64 4, .int .i64 5] 3)) (by decide)).trans (third_at w5 _ _ (.cells #[.int .i64 0, .int .i64 1, .int .i64 2, .int .i64 3, .int .i64 4, .int .i64 5] 3)))
                      have HH7 := HH6; have HO7 := HO6; have HB7 := HB6
                      clear hbl5 ho5 hbb5 hown6 hc6 hlt6 HH6 HO6 HB6
                      refine hKK.out _ _ (trivial) (fun hHeld => ?_)
                      clear hKK KK
                      try simp only [Act.put, List.setIfInBounds_toArray, List.set_cons_zero, List.set_cons_succ]
                      exact HGH.out _ _ _ _ _ _ (Lib.hid ⟨HX7.out, HH7.out, HO7.out, HB7.out⟩)
                  · go_simp
                    refine hKK.out _ _ (trivial) (fun hHeld => ?_)
                    clear hKK KK
                    try simp only [Act.put, List.setIfInBounds_toArray, List.set_cons_zero, List.set_cons_succ]
                    refine wpAnyH_take (i := 53) (oi := ⟨some 98, _, _, _, _, some (39, false)⟩) (v := (.slice (some ⟨(w5.heap.size + 1), 0, none⟩) q 6)) rfl (by kernel_rfl) (by kernel_rfl) (by kernel_rfl) (fun _ _ _ h => h) (Or.inl ⟨by rfl, fun W hW => ?_⟩) (by assumption) ?_
                    · go_simp
                    simp only [Act.put, List.setIfInBounds_toArray, List.set_cons_zero, List.set_cons_succ]
                    refine wpAnyH_ready (rs := [47]) (by kernel_rfl) (by simp) (AllReadyH.cons rfl (fun KK hKK => ?_) AllReadyH.nil)
                    go_simp
                    refine hKK.out _ _ (trivial) (fun hHeld => ?_)
                    clear hKK KK
                    try simp only [Act.put, List.setIfInBounds_toArray, List.set_cons_zero, List.set_cons_succ]
                    refine wpAnyH_ready (rs := [48]) (by kernel_rfl) (by simp) (AllReadyH.cons rfl (fun KK hKK => ?_) AllReadyH.nil)
                    have hbl5 := Lib.hid (below3 w5 (.cells #[.int .u8 4, .int .u8 4, .int .u8 4] 5) (.cells #[.int .i64 0, .int .i64 1, .int .i64 2, .int .i64 3, .int .i64 4, .int .i64 5] 3) (.cells #[.int .i64 (IntKind.i64.wrap (x - 1)), .slice (some ⟨w5.heap.size, 0, none⟩) 3 3] 26))
                    have ho5 := own_below HH5.out.own hbl5.out
                    have hbb5 := Nat.le_trans HB5.out.size hbl5.out.size
                    refine step_append_bagN rfl (.tmp 87) (.tmp 92) 23 rfl wo.heap.size 26 i0 (.agg #[.int .i64 0, .slice none 0 0]) 2 32 Tryz.underlying23 HI.out HZ0.out HZ1.out HZ2.out rfl (by decide) ha t hc _ rfl ho5 _ 1 1 [.int .i64 (IntKind.i64.wrap (x - 1)), .slice (some ⟨w5.heap.size, 0, none⟩) 3 3] rfl rfl (cell_at2 _ _ _ _ _ (by rw [World.size_alloc, World.size_alloc])) (pair_ones _ _ _ _) (by decide) (by unfold maxLen; omega) (by omega) hbb5 ?_
                    intro g6 c6 w6 hown6 hc6 hlt6
                    have HH6 := Lib.hid (HH5.out.step hbl5.out (bl_lits3 w5 [4, 4, 4] _ _) (Pf.lit_by (by decide)) (Pf.lit_up _) hown6 hc6)
                    have HO6 := Lib.hid (Hw.behind (HH5.out.same hbl5.out) hown6 hc6)
                    have HB6 := Lib.hid ((HB5.out.trans (hbl5.out.mono HB5.out.size)).trans (bag_below (B := wo.heap.size) hc6 (hown6.lt g6 rfl).1 hbb5))
                    have HX7 := Lib.hid ((keep_heap ho5 hc6 (second_at w5 _ (.cells #[.int .i64 0, .int .i64 1, .int .i64 2, .int .i64 3, .int .i64 4, .int .i64 5] 3) _) (by decide)).trans (second_at w5 _ (.cells #[.int .i64 0, .int .i64 1, .int .i64 2, .int .i64 3, .int .i64 4, .int .i64 5] 3) _))
                    have HH7 := HH6; have HO7 := HO6; have HB7 := HB6
                    clear hbl5 ho5 hbb5 hown6 hc6 hlt6 HH6 HO6 HB6
                    refine hKK.out _ _ (trivial) (fun hHeld => ?_)
                    clear hKK KK
                    try simp only [Act.put, List.setIfInBounds_toArray, List.set_cons_zero, List.set_cons_succ]
                    exact HGH.out _ _ _ _ _ _ (Lib.hid ⟨HX7.out, HH7.out, HO7.out, HB7.out⟩)
                · go_simp
                  refine hKK.out _ _ (trivial) (fun hHeld => ?_)
                  clear hKK KK
                  try simp only [Act.put, List.setIfInBounds_toArray, List.set_cons_zero, List.set_cons_succ]
                  refine wpAnyH_take (i := 53) (oi := ⟨some 98, _, _, _, _, some (39, false)⟩) (v := (.slice (some ⟨w5.heap.size, 0, none⟩) q 6)) rfl (by kernel_rfl) (by kernel_rfl) (by kernel_rfl) (fun _ _ _ h => h) (Or.inl ⟨by rfl, fun W hW => ?_⟩) (by assumption) ?_
                  · go_simp
                  simp only [Act.put, List.setIfInBounds_toArray, List.set_cons_zero, List.set_cons_succ]
                  refine wpAnyH_ready (rs := [45]) (by kernel_rfl) (by simp) (AllReadyH.cons rfl (fun KK hKK => ?_) AllReadyH.nil)
                  go_simp
                  refine hKK.out _ _ (trivial) (fun hHeld => ?_)
                  clear hKK KK
                  try simp only [Act.put, List.setIfInBounds_toArray, List.set_cons_zero, List.set_cons_succ]
                  refine wpAnyH_take (i := 46) (oi := ⟨some 91, _, _, _, _, some (39, false)⟩) (v := (.agg #[.int .i64 (IntKind.i64.wrap (x - 1)), .slice (some ⟨(w5.heap.size + 1), 0, none⟩) 3 3])) rfl (by kernel_rfl) (by kernel_rfl) (by kernel_rfl) (fun _ _ _ h => h) (Or.inl ⟨by rfl, fun W hW => ?_⟩) (by assumption) ?_
                  · go_simp
                  simp only [Act.put, List.setIfInBounds_toArray, List.set_cons_zero, List.set_cons_succ]
                  refine wpAnyH_ready (rs := [47]) (by kernel_rfl) (by simp) (AllReadyH.cons rfl (fun KK hKK => ?_) AllReadyH.nil)
                  go_simp
                  refine hKK.out _ _ (trivial) (fun hHeld => ?_)
                  clear hKK KK
                  try simp only [Act.put, List.setIfInBounds_toArray, List.set_cons_zero, List.set_cons_succ]
                  refine wpAnyH_ready (rs := [48]) (by kernel_rfl) (by simp) (AllReadyH.cons rfl (fun KK hKK => ?_) AllReadyH.nil)
                  have hbl5 := Lib.hid (below3 w5 (.cells #[.int .i64 0, .int .i64 1, .int .i64 2, .int .i64 3, .int .i64 4, .int .i64 5] 3) (.cells #[.int .u8 4, .int .u8 4, .int .u8 4] 5) (.cells #[.int .i64 (IntKind.i64.wrap (x - 1)), .slice (some ⟨(w5.heap.size + 1), 0, none⟩) 3 3] 26))
                  have ho5 := own_below HH5.out.own hbl5.out
                  have hbb5 := Nat.le_trans HB5.out.size hbl5.out.size
                  refine step_append_bagN rfl (.tmp 87) (.tmp 92) 23 rfl wo.heap.size 26 i0 (.agg #[.int .i64 0, .slice none 0 0]) 2 32 Tryz.underlying23 HI.out HZ0.out HZ1.out HZ2.out rfl (by decide) ha t hc _ rfl ho5 _ 1 1 [.int .i64 (IntKind.i64.wrap (x - 1)), .slice (some ⟨(w5.heap.size + 1), 0, none⟩) 3 3] rfl rfl (cell_at2 _ _ _ _ _ (by rw [World.size_alloc, World.size_alloc])) (pair_ones _ _ _ _) (by decide) (by unfold maxLen; omega) (by omega) hbb5 ?_
                  intro g6 c6 w6 hown6 hc6 hlt6
                  have HH6 := Lib.hid (HH5.out.step hbl5.out (bl_lits4 w5 [4, 4, 4] _ _) (Pf.lit_by (by decide)) (Pf.lit_up _) hown6 hc6)
                  have HO6 := Lib.hid (Hw.behind (HH5.out.same hbl5.out) hown6 hc6)
                  have HB6 := Lib.hid ((HB5.out.trans (hbl5.out.mono HB5.out.size)).trans (bag_below (B := wo.heap.size) hc6 (hown6.lt g6 rfl).1 hbb5))
                  have HX7 := Lib.hid ((keep_heap ho5 hc6 (first_at w5 (.cells #[.int .i64 0, .int .i64 1, .int .i64 2, .int .i64 3, .int .i64 4, .int .i64 5] 3) _ _) (by decide)).trans (first_at w5 (.cells #[.int .i64 0, .int .i64 1, .int .i64 2, .int .i64 3, .int .i64 4, .int .i64 5] 3) _ _))
                  have HH7 := HH6; have HO7 := HO6; have HB7 := HB6
                  clear hbl5 ho5 hbb5 hown6 hc6 hlt6 HH6 HO6 HB6
                  refine hKK.out _ _ (trivial) (fun hHeld => ?_)
                  clear hKK KK
                  try simp only [Act.put, List.setIfInBounds_toArray, List.set_cons_zero, List.set_cons_succ]
                  exact HGH.out _ _ _ _ _ _ (Lib.hid ⟨HX7.out, HH7.out, HO7.out, HB7.out⟩)
              case shG =>
                intro g6 c6 hb5 blk w7 LB HALL
                obtain ⟨hx7, hh7, ho7, hb7⟩ := HALL.out
                have HX7 := Lib.hid hx7; have HH7 := Lib.hid hh7; have HO7 := Lib.hid ho7; have HB7 := Lib.hid hb7
                clear HALL hx7 hh7 ho7 hb7
                refine wpAnyH_ready (rs := [54]) (by kernel_rfl) (by simp) (AllReadyH.cons rfl (fun KK hKK => ?_) AllReadyH.nil)
                go_simp
                refine (codeDecodes_any _ _ (t + 1) c6 q 6 x y _ _ _ _ _ _ (by omega) (fun _ _ => by omega) _ HH7.out.hs (hi_at _ _ [0, 1, 2, 3, 4, 5] q (by show q ≤ 6; omega) (by show 6 ≤ 1000; omega) HX7.out) (by omega)).mono ?_
                rintro e w8 ⟨rfl, hB8⟩
                have HO8 := Lib.hid (HO7.out.same hB8); have HB8 := Lib.hid (HB7.out.trans (hB8.mono HB7.out.size)); clear hB8 HX7
                dsimp only
                refine hKK.out _ _ (trivial) (fun hHeld => ?_)
                clear hKK KK
                try simp only [Act.put, List.setIfInBounds_toArray, List.set_cons_zero, List.set_cons_succ]
                refine wpAnyH_take (i := 55) (oi := ⟨some 100, _, _, _, _, some (39, false)⟩) (v := (.bool false)) rfl (by kernel_rfl) (by kernel_rfl) (by kernel_rfl) (fun _ _ _ h => h) (Or.inl ⟨by rfl, fun W hW => ?_⟩) (by assumption) ?_
                · go_simp
                simp only [Act.put, List.setIfInBounds_toArray, List.set_cons_zero, List.set_cons_succ]
                refine wpAnyH_take (i := 56) (oi := ⟨some 101, _, _, _, _, none⟩) (v := (.bool false)) rfl (by kernel_rfl) (by kernel_rfl) (by kernel_rfl) (fun _ _ _ h => h) (Or.inl ⟨by rfl, fun W hW => ?_⟩) (by assumption) ?_
                · go_simp
                simp only [Act.put, List.setIfInBounds_toArray, List.set_cons_zero, List.set_cons_succ]
                refine wpAnyH_take (i := 57) (oi := ⟨some 102, _, _, _, _, none⟩) (v := (.bool false)) rfl (by kernel_rfl) (by kernel_rfl) (by kernel_rfl) (fun _ _ _ h => h) (Or.inl ⟨by rfl, fun W hW => ?_⟩) (by assumption) ?_
                · go_simp
                simp only [Act.put, List.setIfInBounds_toArray, List.set_cons_zero, List.set_cons_succ]
                refine wpAnyH_take (i := 58) (oi := ⟨some 103, _, _, _, _, some (57, false)⟩) (v := (.int .i64 x)) rfl (by kernel_rfl) (by kernel_rfl) (by kernel_rfl) (fun _ _ _ h => h) (Or.inl ⟨by rfl, fun W hW => ?_⟩) (by assumption) ?_
                · go_simp
                simp only [Act.put, List.setIfInBounds_toArray, List.set_cons_zero, List.set_cons_succ]
                refine wpAnyH_take (i := 59) (oi := ⟨some 104, _, _, _, _, some (57, false)⟩) (v := (.int .i64 y)) rfl (by kernel_rfl) (by kernel_rfl) (by kernel_rfl) (fun _ _ _ h => h) (Or.inl ⟨by rfl, fun W hW => ?_⟩) (by assumption) ?_
                · go_simp
                simp only [Act.put, List.setIfInBounds_toArray, List.set_cons_zero, List.set_cons_succ]
                refine wpAnyH_take (i := 60) (oi := ⟨some 105, _, _, _, _, some (57, false)⟩) (v := (.slice ha t hc)) rfl (by kernel_rfl) (by kernel_rfl) (by kernel_rfl) (fun _ _ _ h => h) (Or.inl ⟨by rfl, fun W hW => ?_⟩) (by assumption) ?_
                · go_simp
                simp only [Act.put, List.setIfInBounds_toArray, List.set_cons_zero, List.set_cons_succ]
                refine wpAnyH_take (i := 61) (oi := ⟨some 106, _, _, _, _, some (57, false)⟩) (v := (.int .i64 x)) rfl (by kernel_rfl) (by kernel_rfl) (by kernel_rfl) (fun _ _ _ h => h) (Or.inl ⟨by rfl, fun W hW => ?_⟩) (by assumption) ?_
                · go_simp
                simp only [Act.put, List.setIfInBounds_toArray, List.set_cons_zero, List.set_cons_succ]
                refine wpAnyH_take (i := 62) (oi := ⟨some 107, _, _, _, _, some (57, false)⟩) (v := (.agg #[.int .i64 x, .slice none 0 0])) rfl (by kernel_rfl) (by kernel_rfl) (by kernel_rfl) (fun _ _ _ h => h) (Or.inl ⟨by rfl, fun W hW => ?_⟩) (by assumption) ?_
                · go_simp
                simp only [Act.put, List.setIfInBounds_toArray, List.set_cons_zero, List.set_cons_succ]
                refine wpAnyH_ready (rs := [63]) (by kernel_rfl) (by simp) (AllReadyH.cons rfl (fun KK hKK => ?_) AllReadyH.nil)
                go_simp
                refine hKK.out _ _ (trivial) (fun hHeld => ?_)
                clear hKK KK
                try simp only [Act.put, List.setIfInBounds_toArray, List.set_cons_zero, List.set_cons_succ]
                refine wpAnyH_ready (rs := [64]) (by kernel_rfl) (by simp) (AllReadyH.cons rfl (fun KK hKK => ?_) AllReadyH.nil)
                have hal9 : Below w8.heap.size w8 (w8.alloc (.cells #[.int .i64 x, .slice none 0 0] 26)) := (Below.refl _ w8).alloc (Nat.le_refl _) _
                have ho9 := own_below HO8.out.own hal9
                have hbb9 := Nat.le_trans HB8.out.size hal9.size
                refine step_append_bagN rfl (.tmp 105) (.tmp 108) 23 rfl wo.heap.size 26 i0 (.agg #[.int .i64 0, .slice none 0 0]) 2 32 Tryz.underlying23 HI.out HZ0.out HZ1.out HZ2.out rfl (by decide) ha t hc _ rfl ho9 _ 1 1 [.int .i64 x, .slice none 0 0] rfl rfl (cell_at2 _ _ _ _ _ rfl) (pair_ones _ _ _ _) (by decide) (by unfold maxLen; omega) (by omega) hbb9 ?_
                intro g9 c9 w9 hown9 hc9 hlt9
                have HS9 := Lib.hid (HO8.out.bare hal9 hown9 hc9)
                have HB9 := Lib.hid ((HB8.out.trans (hal9.mono HB8.out.size)).trans (bag_below (B := wo.heap.size) hc9 (hown9.lt g9 rfl).1 hbb9))
                clear hal9 ho9 hbb9 hown9 hc9 hlt9
                refine hKK.out _ _ (trivial) (fun hHeld => ?_)
                clear hKK KK
                try simp only [Act.put, List.setIfInBounds_toArray, List.set_cons_zero, List.set_cons_succ]
                refine wpAnyH_ready (rs := [65]) (by kernel_rfl) (by simp) (AllReadyH.cons rfl (fun KK hKK => ?_) AllReadyH.nil)
                go_simp
                refine (codeDecodes_any _ none (t + 1) c9 0 0 x y _ _ _ _ _ _ (by omega) (fun i _ => by show (if i = t then 0 else 3) ≤ _; split <;> omega) _ HS9.out (hi_nil _) (by omega)).mono ?_
                rintro e w10 ⟨rfl, hB10⟩
                have HB10 := Lib.hid (HB9.out.trans (hB10.mono HB9.out.size)); clear hB10
                dsimp only
                refine hKK.out _ _ (trivial) (fun hHeld => ?_)
                clear hKK KK
                try simp only [Act.put, List.setIfInBounds_toArray, List.set_cons_zero, List.set_cons_succ]
                refine wpAnyH_take (i := 66) (oi := ⟨some 111, _, _, _, _, some (57, false)⟩) (v := (.bool false)) rfl (by kernel_rfl) (by kernel_rfl) (by kernel_rfl) (fun _ _ _ h => h) (Or.inl ⟨by rfl, fun W hW => ?_⟩) (by assumption) ?_
                · go_simp
                simp only [Act.put, List.setIfInBounds_toArray, List.set_cons_zero, List.set_cons_succ]
                refine wpAnyH_take (i := 67) (oi := ⟨some 112, _, _, _, _, none⟩) (v := (.bool false)) rfl (by kernel_rfl) (by kernel_rfl) (by kernel_rfl) (fun _ _ _ h => h) (Or.inl ⟨by rfl, fun W hW => ?_⟩) (by assumption) ?_
                · go_simp
                simp only [Act.put, List.setIfInBounds_toArray, List.set_cons_zero, List.set_cons_succ]
                refine wpAnyH_done (by kernel_rfl) ?_ _
                have HB11 := Lib.hid (HBo.out.trans (HB10.out.mono hso))
                go_wp2_with fail
                go_roundw
                case rel => exact ⟨y + 1, _, rfl, by omega, by omega, by go_num, HB11.out⟩
                case measure => simp [intOf]; omega
--END14
        · go_wp2_with fail
          go_roundw
          case rel => exact ⟨x + 1, _, rfl, by omega, by omega, by go_num, HBo.out⟩
          case measure => simp [intOf]; omega
    · obtain rfl : x = 6 := by omega
      have HE0 := Lib.hid (show EndA wa.heap.size (wa.alloc (.cells #[.int .i64 255, .int .i64 256, .int .i64 1099511627776, .int .i64 (-4611686018427387904)] 3)) from heap_alloc_new _ _)
      obtain ⟨Lb, hLb⟩ : ∃ Lb, Lb = wa.heap.size := ⟨_, rfl⟩
      rw [← hLb] at HE0
      have hsz2 := HBa.out.size
      go_wp2_with fail
      rw [← hLb]
      clear hLb
      go_loopw [7] (fun v wz => ∃ k : Nat, k ≤ 4 ∧ v = .int .i64 (k : Nat) ∧ EndA Lb wz ∧ Below w.heap.size w wz) (fun v _ => 4 - (intOf v).toNat)
      case atStart => exact ⟨0, by omega, rfl, HE0.out, HBa.out.alloc hsz2 _⟩
      case round =>
        obtain ⟨wz, rfl⟩ : ∃ wz : World, wz = wr := ⟨_, rfl⟩
        obtain ⟨k, hk, rfl, hE, hB⟩ := hrel
        have HE := Lib.hid hE; have HBz := Lib.hid hB; clear hE hB HE0
        have HES := Lib.hid (fun (W : World) (hW : W.heap[Lb]? = wz.heap[Lb]?) => (show EndA Lb W from hW.trans HE.out))
        by_cases hk4 : k < 4
        · have i4 : (k : Int) < 4 := by omega
          go_wp2_with fail
          refine wp_region_held_drew (S := fun W => W.heap[Lb]? = wz.heap[Lb]?) (by kernel_rfl) (rfl) (fun hHeld => ?_)
          refine wpAnyH_take (i := 0) (oi := ⟨some 120, _, _, _, _, none⟩) (v := (.slice (some ⟨Lb, 0, none⟩) 4 4)) rfl (by kernel_rfl) (by kernel_rfl) (by kernel_rfl) (fun _ _ _ h => h) (Or.inl ⟨by rfl, fun W hW => ?_⟩) (by assumption) ?_
          · go_simp
          simp only [Act.put, List.setIfInBounds_toArray, List.set_cons_zero, List.set_cons_succ]
          refine wpAnyH_take (i := 1) (oi := ⟨some 121, _, _, _, _, none⟩) (v := (.int .i64 (k : Nat))) rfl (by kernel_rfl) (by kernel_rfl) (by kernel_rfl) (fun _ _ _ h => h) (Or.inl ⟨by rfl, fun W hW => ?_⟩) (by assumption) ?_
          · go_simp
          simp only [Act.put, List.setIfInBounds_toArray, List.set_cons_zero, List.set_cons_succ]
          refine wpAnyH_take (i := 2) (oi := ⟨some 122, _, _, _, _, none⟩) (v := (.pointer (some ⟨Lb, k, none⟩))) rfl (by kernel_rfl) (by kernel_rfl) (by kernel_rfl) (fun _ _ _ h => h) (Or.inl ⟨by rfl, fun W hW => ?_⟩) (by assumption) ?_
          · go_simp
          simp only [Act.put, List.setIfInBounds_toArray, List.set_cons_zero, List.set_cons_succ]
          refine wpAnyH_take (i := 3) (oi := ⟨some 123, _, _, _, _, none⟩) (v := (.int .i64 (ev k))) rfl (by kernel_rfl) (by kernel_rfl) (by kernel_rfl) (fun _ _ _ h => h) (Or.inl ⟨by rfl, fun W hW => ?_⟩) (by assumption) ?_
          · have := (HES.out W hW).c k _ (ev_get k hk4); go_simp
          simp only [Act.put, List.setIfInBounds_toArray, List.set_cons_zero, List.set_cons_succ]
          refine wpAnyH_ready (rs := [4]) (by kernel_rfl) (by simp) (AllReadyH.cons rfl (fun KK hKK => ?_) AllReadyH.nil)
          go_simp
          refine (codeEncodes_any none 0 0 (ev k) 3 0 _ _ _ _ (by omega) (fun _ _ => by omega) _ (rd_nil _)).mono ?_
          rintro e w8 ⟨rfl, hB8'⟩
          dsimp only
          have hB8 : Below wz.heap.size wz w8 := (below_dr (Below.refl _ wz) 1).trans hB8'
          refine hKK.out _ _ (hB8.block _ (Array.getElem?_eq_some_iff.1 HE.out).1) (fun hHeld => ?_)
          clear hKK KK
          try simp only [Act.put, List.setIfInBounds_toArray, List.set_cons_zero, List.set_cons_succ]
          refine wpAnyH_take (i := 5) (oi := ⟨some 125, _, _, _, _, none⟩) (v := (.bool false)) rfl (by kernel_rfl) (by kernel_rfl) (by kernel_rfl) (fun _ _ _ h => h) (Or.inl ⟨by rfl, fun W hW => ?_⟩) (by assumption) ?_
          · go_simp
          simp only [Act.put, List.setIfInBounds_toArray, List.set_cons_zero, List.set_cons_succ]
          refine wpAnyH_take (i := 6) (oi := ⟨some 126, _, _, _, _, none⟩) (v := (.bool false)) rfl (by kernel_rfl) (by kernel_rfl) (by kernel_rfl) (fun _ _ _ h => h) (Or.inl ⟨by rfl, fun W hW => ?_⟩) (by assumption) ?_
          · go_simp
          simp only [Act.put, List.setIfInBounds_toArray, List.set_cons_zero, List.set_cons_succ]
          refine wpAnyH_take (i := 7) (oi := ⟨some 127, _, _, _, _, some (6, false)⟩) (v := (.slice (some ⟨Lb, 0, none⟩) 4 4)) rfl (by kernel_rfl) (by kernel_rfl) (by kernel_rfl) (fun _ _ _ h => h) (Or.inl ⟨by rfl, fun W hW => ?_⟩) (by assumption) ?_
          · go_simp
          simp only [Act.put, List.setIfInBounds_toArray, List.set_cons_zero, List.set_cons_succ]
          refine wpAnyH_take (i := 8) (oi := ⟨some 128, _, _, _, _, some (6, false)⟩) (v := (.int .i64 (k : Nat))) rfl (by kernel_rfl) (by kernel_rfl) (by kernel_rfl) (fun _ _ _ h => h) (Or.inl ⟨by rfl, fun W hW => ?_⟩) (by assumption) ?_
          · go_simp
          simp only [Act.put, List.setIfInBounds_toArray, List.set_cons_zero, List.set_cons_succ]
          refine wpAnyH_take (i := 9) (oi := ⟨some 129, _, _, _, _, some (6, false)⟩) (v := (.pointer (some ⟨Lb, k, none⟩))) rfl (by kernel_rfl) (by kernel_rfl) (by kernel_rfl) (fun _ _ _ h => h) (Or.inl ⟨by rfl, fun W hW => ?_⟩) (by assumption) ?_
          · go_simp
          simp only [Act.put, List.setIfInBounds_toArray, List.set_cons_zero, List.set_cons_succ]
          refine wpAnyH_take (i := 10) (oi := ⟨some 130, _, _, _, _, some (6, false)⟩) (v := (.int .i64 (ev k))) rfl (by kernel_rfl) (by kernel_rfl) (by kernel_rfl) (fun _ _ _ h => h) (Or.inl ⟨by rfl, fun W hW => ?_⟩) (by assumption) ?_
          · have := (HES.out W hW).c k _ (ev_get k hk4); go_simp
          simp only [Act.put, List.setIfInBounds_toArray, List.set_cons_zero, List.set_cons_succ]
          refine wpAnyH_take (i := 11) (oi := ⟨some 131, _, _, _, _, some (6, false)⟩) (v := (.slice (some ⟨Lb, 0, none⟩) 4 4)) rfl (by kernel_rfl) (by kernel_rfl) (by kernel_rfl) (fun _ _ _ h => h) (Or.inl ⟨by rfl, fun W hW => ?_⟩) (by assumption) ?_
          · go_simp
          simp only [Act.put, List.setIfInBounds_toArray, List.set_cons_zero, List.set_cons_succ]
          refine wpAnyH_take (i := 12) (oi := ⟨some 132, _, _, _, _, some (6, false)⟩) (v := (.int .i64 (k : Nat))) rfl (by kernel_rfl) (by kernel_rfl) (by kernel_rfl) (fun _ _ _ h => h) (Or.inl ⟨by rfl, fun W hW => ?_⟩) (by assumption) ?_
          · go_simp
          simp only [Act.put, List.setIfInBounds_toArray, List.set_cons_zero, List.set_cons_succ]
          refine wpAnyH_take (i := 13) (oi := ⟨some 133, _, _, _, _, some (6, false)⟩) (v := (.pointer (some ⟨Lb, k, none⟩))) rfl (by kernel_rfl) (by kernel_rfl) (by kernel_rfl) (fun _ _ _ h => h) (Or.inl ⟨by rfl, fun W hW => ?_⟩) (by assumption) ?_
          · go_simp
          simp only [Act.put, List.setIfInBounds_toArray, List.set_cons_zero, List.set_cons_succ]
          refine wpAnyH_take (i := 14) (oi := ⟨some 134, _, _, _, _, some (6, false)⟩) (v := (.int .i64 (ev k))) rfl (by kernel_rfl) (by kernel_rfl) (by kernel_rfl) (fun _ _ _ h => h) (Or.inl ⟨by rfl, fun W hW => ?_⟩) (by assumption) ?_
          · have := (HES.out W hW).c k _ (ev_get k hk4); go_simp
          simp only [Act.put, List.setIfInBounds_toArray, List.set_cons_zero, List.set_cons_succ]
          refine wpAnyH_ready (rs := [15]) (by kernel_rfl) (by simp) (AllReadyH.cons rfl (fun KK hKK => ?_) AllReadyH.nil)
          go_simp
          refine (codeEncodes_any none 0 0 (ev k) (ev k) 0 _ _ _ _ (by omega) (fun _ _ => by omega) _ (rd_nil _)).mono ?_
          rintro e w9 ⟨rfl, hB9'⟩
          dsimp only
          have hB9 : Below wz.heap.size wz w9 := hB8.trans (hB9'.mono hB8.size)
          refine hKK.out _ _ (hB9.block _ (Array.getElem?_eq_some_iff.1 HE.out).1) (fun hHeld => ?_)
          clear hKK KK
          try simp only [Act.put, List.setIfInBounds_toArray, List.set_cons_zero, List.set_cons_succ]
          refine wpAnyH_take (i := 16) (oi := ⟨some 136, _, _, _, _, some (6, false)⟩) (v := (.bool false)) rfl (by kernel_rfl) (by kernel_rfl) (by kernel_rfl) (fun _ _ _ h => h) (Or.inl ⟨by rfl, fun W hW => ?_⟩) (by assumption) ?_
          · go_simp
          simp only [Act.put, List.setIfInBounds_toArray, List.set_cons_zero, List.set_cons_succ]
          refine wpAnyH_take (i := 17) (oi := ⟨some 137, _, _, _, _, none⟩) (v := (.bool false)) rfl (by kernel_rfl) (by kernel_rfl) (by kernel_rfl) (fun _ _ _ h => h) (Or.inl ⟨by rfl, fun W hW => ?_⟩) (by assumption) ?_
          · go_simp
          simp only [Act.put, List.setIfInBounds_toArray, List.set_cons_zero, List.set_cons_succ]
          refine wpAnyH_done (by kernel_rfl) ?_ _
          have HE9 := Lib.hid (HE.out.same hB9); have HB9 := Lib.hid (HBz.out.trans (hB9.mono HBz.out.size))
          clear hHeld hB8 hB8' hB9 hB9'
          go_wp2_with fail
          go_roundw
          case rel =>
            first
            | exact ⟨k + 1, by omega, by first | rfl | go_num, HE9.out, HB9.out⟩
            | (repeat apply Exists.intro
               exact ⟨⟨k + 1, by omega, by first | rfl | go_num, HE9.out, HB9.out⟩, rfl⟩)
          case measure => simp [intOf]; omega
        · have i4 : ¬ (k : Int) < 4 := by omega
          go_wp2_with fail
          have h4 := four_at wz (.cells #[.int .u8 1] 5) (.cells #[.int .u8 1] 5) (.cells #[.int .i64 1, .slice (some ⟨wz.heap.size, 0, none⟩) 1 1, .int .i64 1, .slice (some ⟨wz.heap.size + 1, 0, none⟩) 1 1] 26) (.cells #[.int .i64 1, .int .i64 1] 3)
          have hb4 := below4 wz (.cells #[.int .u8 1] 5) (.cells #[.int .u8 1] 5) (.cells #[.int .i64 1, .slice (some ⟨wz.heap.size, 0, none⟩) 1 1, .int .i64 1, .slice (some ⟨wz.heap.size + 1, 0, none⟩) 1 1] 26) (.cells #[.int .i64 1, .int .i64 1] 3)
          refine (codeDecodes_any _ _ 2 2 2 2 3 2 _ _ _ _ _ _ (by omega) (fun i _ => by split <;> decide) _ (held_two _ _ _ _ 1 1 [1] [1] h4.1 h4.2.1 h4.2.2.1 (by decide) (by decide) (by decide) (by decide)) (hi_at _ _ [1, 1] 2 (Nat.le_refl _) (by decide) h4.2.2.2) (by omega)).mono ?_
          rintro e wa' ⟨rfl, hB8⟩
          have HBa' := Lib.hid (HBz.out.trans ((hb4.trans (hB8.mono hb4.size)).mono HBz.out.size))
          clear h4 hb4 hB8
          go_wp2_with fail
          have h4 := four_at wa' (.cells #[.int .u8 1] 5) (.cells #[.int .u8 1, .int .u8 2] 5) (.cells #[.int .i64 0, .slice (some ⟨wa'.heap.size, 0, none⟩) 1 1, .int .i64 1, .slice (some ⟨wa'.heap.size + 1, 0, none⟩) 2 2] 26) (.cells #[.int .i64 0, .int .i64 3, .int .i64 3] 3)
          have hb4 := below4 wa' (.cells #[.int .u8 1] 5) (.cells #[.int .u8 1, .int .u8 2] 5) (.cells #[.int .i64 0, .slice (some ⟨wa'.heap.size, 0, none⟩) 1 1, .int .i64 1, .slice (some ⟨wa'.heap.size + 1, 0, none⟩) 2 2] 26) (.cells #[.int .i64 0, .int .i64 3, .int .i64 3] 3)
          refine (codeDecodes_any _ _ 2 2 3 3 3 2 _ _ _ _ _ _ (by omega) (fun i _ => by split <;> decide) _ (held_two _ _ _ _ 0 1 [1] [1, 2] h4.1 h4.2.1 h4.2.2.1 (by decide) (by decide) (by decide) (by decide)) (hi_at _ _ [0, 3, 3] 3 (Nat.le_refl _) (by decide) h4.2.2.2) (by omega)).mono ?_
          rintro e wb ⟨rfl, hB8⟩
          have HBb := Lib.hid (HBa'.out.trans ((hb4.trans (hB8.mono hb4.size)).mono HBa'.out.size))
          clear h4 hb4 hB8
          go_wp2_with fail
          refine (none5_any _).mono ?_
          rintro e wc ⟨rfl, hB11⟩
          have HBc := Lib.hid (HBb.out.trans (hB11.mono HBb.out.size)); clear hB11
          go_wp2_with fail
          refine (awake5_any _).mono ?_
          rintro e wd ⟨rfl, hB12⟩
          have HBd := Lib.hid (HBc.out.trans (hB12.mono HBc.out.size)); clear hB12
          go_wp2
          go_ret
          exact ⟨rfl, HBd.out⟩
end Go.Proofs.YtdjigbjheicfcaaGreat
