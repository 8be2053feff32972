import Derived.Maps.Views
import Derived.Maps.OwnSet
import Derived.Test.YtjnfghhochcpaaaGreatMg3
namespace Go.Proofs.YtjnfghhochcpaaaGreat
open Go.Maps

abbrev Tv := Option Addr × Nat × Nat × Int
open Classical in
/-- a list of keys without one of them. -/
noncomputable def out (L : List Lit) (k : Lit) : List Lit := L.filter fun x => decide (x ≠ k)
theorem mem_out {L : List Lit} {k x : Lit} : x ∈ out L k ↔ x ∈ L ∧ x ≠ k := by simp [out]
theorem out_no {L : List Lit} {k : Lit} (h : k ∉ L) : out L k = L := by
  unfold out
  refine List.filter_eq_self.2 fun x hx => ?_
  have : x ≠ k := fun e => h (e ▸ hx)
  simpa using this
theorem out_nodup {L : List Lit} (h : L.Nodup) (k : Lit) : (out L k).Nodup := List.Pairwise.filter _ h
theorem out_len : ∀ {L : List Lit} {k : Lit}, L.Nodup → k ∈ L → (out L k).length + 1 = L.length
  | [], k, _, h => by cases h
  | a :: L, k, hd, h => by
    obtain ⟨h1, h2⟩ := List.nodup_cons.1 hd
    by_cases e : a = k
    · subst e
      have : out (a :: L) a = out L a := by simp [out]
      rw [this, out_no h1]; rfl
    · have hk : k ∈ L := by
        rcases List.mem_cons.1 h with h | h
        · exact absurd h.symm e
        · exact h
      have : out (a :: L) k = a :: out L k := by simp [out, e]
      rw [this, List.length_cons, List.length_cons, out_len h2 hk]
open Classical in
/-- what is told of keys, with one more. -/
noncomputable def onT (T : Lit → Tv) (k : Lit) (x : Tv) : Lit → Tv := fun l => if l = k then x else T l
theorem onT_same (T : Lit → Tv) (k : Lit) (x : Tv) : onT T k x k = x := by simp [onT]
theorem onT_other {T : Lit → Tv} {k l : Lit} {x : Tv} (h : l ≠ k) : onT T k x l = T l := by simp [onT, h]

/-- a map of keys, each with its thing. -/
structure MpD (D : DataW Value) (L : List Lit) (T : Lit → Tv) : Prop where
  tidy : Tidy D
  has : ∀ kl, WideAt.IsKeyLit kl → (Maps.has D kl = true ↔ kl ∈ L)
  hasIn : ∀ kl, Maps.has D kl = true → kl ∈ L
  size : Maps.size D = L.length
  at_ : ∀ kl, kl ∈ L → ∀ z, D.atKey kl z = .held (sv (T kl))
  nodup : L.Nodup
  key : ∀ kl, kl ∈ L → WideAt.IsKeyLit kl
theorem MpD.none : MpD (.map []) [] (fun _ => (none, 0, 0, 0)) := ⟨tidy_empty, fun kl _ => by simp [Maps.has], fun kl h => by simp [Maps.has] at h, rfl, fun kl h => absurd h List.not_mem_nil, List.nodup_nil, fun kl h => absurd h List.not_mem_nil⟩
theorem MpD.put {D : DataW Value} {L : List Lit} {T : Lit → Tv} (h : MpD D L T) {k : Lit} (hk : WideAt.IsKeyLit k) (x : Tv) : MpD (D.put k (.held (sv x))) (out L k ++ [k]) (onT T k x) where
  tidy := h.tidy.put hk _
  has kl hkl := by
    rw [List.mem_append, List.mem_singleton, mem_out]
    by_cases e : kl = k
    · subst e
      rw [has_put_same h.tidy.isMap hk]; simp
    · rw [has_put_other e, h.has kl hkl]; simp [e]
  hasIn kl hh := by
    rw [List.mem_append, List.mem_singleton, mem_out]
    by_cases e : kl = k
    · exact Or.inr e
    · rw [has_put_other e] at hh
      exact Or.inl ⟨h.hasIn kl hh, e⟩
  size := by
    rw [size_put h.tidy, List.length_append, List.length_singleton]
    by_cases e : k ∈ L
    · rw [if_pos ((h.has k hk).2 e), h.size, out_len h.nodup e]
    · rw [if_neg (fun hh => e ((h.has k hk).1 hh)), h.size, out_no e]
  at_ kl hkl z := by
    by_cases e : kl = k
    · subst e
      rw [atKey_put_same h.tidy.isMap hk, onT_same]
    · rw [atKey_put_other e, onT_other e]
      rw [List.mem_append, List.mem_singleton, mem_out] at hkl
      rcases hkl with hkl | hkl
      · exact h.at_ kl hkl.1 z
      · exact absurd hkl e
  nodup := by
    rw [List.nodup_append]
    refine ⟨out_nodup h.nodup k, List.nodup_cons.2 ⟨List.not_mem_nil, List.nodup_nil⟩, fun a ha b hb e => ?_⟩
    rw [List.mem_singleton] at hb
    subst hb
    exact (mem_out.1 ha).2 e
  key kl hkl := by
    rw [List.mem_append, List.mem_singleton, mem_out] at hkl
    rcases hkl with hkl | rfl
    · exact h.key kl hkl.1
    · exact hk
theorem MpD.del {D : DataW Value} {L : List Lit} {T : Lit → Tv} (h : MpD D L T) {k : Lit} (hk : WideAt.IsKeyLit k) : MpD (D.del k) (out L k) T where
  tidy := h.tidy.del k
  has kl hkl := by
    rw [mem_out]
    by_cases e : kl = k
    · subst e
      rw [has_del_same]; simp
    · rw [has_del_other e, h.has kl hkl]; simp [e]
  hasIn kl hh := by
    rw [mem_out]
    by_cases e : kl = k
    · subst e
      rw [has_del_same] at hh; cases hh
    · rw [has_del_other e] at hh
      exact ⟨h.hasIn kl hh, e⟩
  size := by
    have := size_del (k := k) h.tidy
    by_cases e : k ∈ L
    · rw [if_pos ((h.has k hk).2 e), h.size] at this
      have := out_len h.nodup e; omega
    · rw [if_neg (fun hh => e ((h.has k hk).1 hh)), h.size] at this
      rw [out_no e]; omega
  at_ kl hkl z := by
    obtain ⟨h1, h2⟩ := mem_out.1 hkl
    rw [atKey_del_other h2]
    exact h.at_ kl h1 z
  nodup := out_nodup h.nodup k
  key kl hkl := h.key kl (mem_out.1 hkl).1

/-- block b is such a map. -/
def Mp (w : World) (b : Nat) (L : List Lit) (T : Lit → Tv) : Prop := ∃ D : DataW Value, w.ownsMap Tryz.prog 98 Rv b L.length D ∧ MpD D L T
theorem owns_exact {w : World} {b n : Nat} {D : DataW Value} (h : w.ownsMap Tryz.prog 98 Rv b n D) : w.ownsMap Tryz.prog 98 Rv b (Maps.size D) D := by
  obtain ⟨es, clock, hb, F, hs, hD⟩ := h
  refine ⟨es, clock, hb, F, ?_, hD⟩
  rw [hD]
  simp [Maps.size, length_sorted]
section
variable {w w' : World} {b : Nat} {L : List Lit} {T : Lit → Tv}
theorem Mp.lt (h : Mp w b L T) : b < w.heap.size := let ⟨_, h, _⟩ := h; h.lt
theorem Mp.blk (h : Mp w b L T) : ∃ es clock, w.heap[b]? = some (.map es clock) := let ⟨_, ⟨es, clock, hb, _⟩, _⟩ := h; ⟨es, clock, hb⟩
theorem Mp.kept (h : Mp w b L T) (hb : w'.heap[b]? = w.heap[b]?) : Mp w' b L T := by
  obtain ⟨D, ⟨es, clock, h1, h2⟩, h3⟩ := h
  exact ⟨D, ⟨es, clock, hb.trans h1, h2⟩, h3⟩
theorem Mp.made (w : World) : Mp (w.alloc (.map #[] 0)) w.heap.size [] (fun _ => (none, 0, 0, 0)) := ⟨_, World.ownsMap_made _ _ _ _, MpD.none⟩
theorem Mp.congr {T' : Lit → Tv} (h : Mp w b L T) (e : ∀ l, l ∈ L → T' l = T l) : Mp w b L T' := by
  obtain ⟨D, h1, h2⟩ := h
  exact ⟨D, h1, h2.tidy, h2.has, h2.hasIn, h2.size, fun kl hk z => by rw [e kl hk]; exact h2.at_ kl hk z, h2.nodup, h2.key⟩
theorem Mp.nodup (h : Mp w b L T) : L.Nodup := let ⟨_, _, h⟩ := h; h.nodup
theorem Mp.key (h : Mp w b L T) {k : Lit} (hk : k ∈ L) : WideAt.IsKeyLit k := let ⟨_, _, h⟩ := h; h.key k hk
theorem Mp.look_yes (h : Mp w b L T) {key : Value} {k : Lit} (hk : keyOf Tryz.prog 98 key = some k) (hm : k ∈ L) : (Instr.lookup 137 (.map (some b)) key true).run Tryz.prog w = .ok (.tuple #[sv (T k), .bool true]) w := by
  obtain ⟨D, h1, h2⟩ := h
  obtain ⟨v, ps, hr, hv⟩ := h1.look_ok key_law Tryz.underlying137 (zero_spot w) (Rv_sv _) hk
  obtain ⟨x, rfl, hx⟩ := Rv_inv hv
  rw [h2.at_ k hm] at hx
  simp only [Prod.mk.injEq, DataW.held.injEq] at hx
  rw [← hx.1, (h2.has k (key_law.key hk)).2 hm] at hr
  exact hr
theorem Mp.look_no (h : Mp w b L T) {key : Value} {k : Lit} (hk : keyOf Tryz.prog 98 key = some k) (hm : k ∉ L) : (Instr.lookup 137 (.map (some b)) key true).run Tryz.prog w = .ok (.tuple #[sv (none, 0, 0, 0), .bool false]) w := by
  obtain ⟨D, h1, h2⟩ := h
  have hf : Maps.has D k = false := by
    cases hh : Maps.has D k
    · rfl
    · exact absurd ((h2.has k (key_law.key hk)).1 hh) hm
  obtain ⟨v, ps, hr, hv⟩ := h1.look_ok key_law Tryz.underlying137 (zero_spot w) (Rv_sv _) hk
  obtain ⟨x, rfl, hx⟩ := Rv_inv hv
  rw [atKey_of_not_has hf] at hx
  simp only [Prod.mk.injEq, DataW.held.injEq] at hx
  rw [← hx.1, hf] at hr
  exact hr
theorem Mp.len (h : Mp w b L T) (ty : TypeId) : (Builtin.len_ #[137] ty #[.map (some b)]).run Tryz.prog w = .ok (.int .i64 (L.length : Nat)) w := by
  obtain ⟨D, h1, h2⟩ := h
  rw [h1.len Tryz.underlying137 ty, h2.size]
theorem Mp.put (h : Mp w b L T) (hl : L.length < maxLen) {key : Value} {k : Lit} (hk : keyOf Tryz.prog 98 key = some k) (x : Tv) : ∃ w', (Instr.mapUpdate 137 (.map (some b)) key (sv x)).run Tryz.prog w = .ok () w' ∧ Mp w' b (out L k ++ [k]) (onT T k x) ∧ w.mapTurned w' b := by
  obtain ⟨D, h1, h2⟩ := h
  obtain ⟨w', hr, ho, ht⟩ := h1.store key_law Tryz.underlying137 hl hk (Rv_sv x)
  have h3 := h2.put (key_law.key hk) x
  have h4 := owns_exact ho
  rw [h3.size] at h4
  exact ⟨w', hr, ⟨_, h4, h3⟩, ht⟩
theorem Mp.del (h : Mp w b L T) {key : Value} {k : Lit} (hk : keyOf Tryz.prog 98 key = some k) (ty : TypeId) : ∃ w', (Builtin.delete_ #[137, 98] ty #[.map (some b), key]).run Tryz.prog w = .ok (.tuple #[]) w' ∧ Mp w' b (out L k) T ∧ w.mapTurned w' b := by
  obtain ⟨D, h1, h2⟩ := h
  obtain ⟨w', hr, ho, ht⟩ := h1.drop key_law Tryz.underlying137 hk ty
  have h3 := h2.del (key_law.key hk)
  have h4 := owns_exact ho
  rw [h3.size] at h4
  exact ⟨w', hr, ⟨_, h4, h3⟩, ht⟩
end
end Go.Proofs.YtjnfghhochcpaaaGreat
