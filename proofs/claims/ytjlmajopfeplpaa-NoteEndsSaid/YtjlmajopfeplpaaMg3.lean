import Derived.Deep.RegionHeld3
namespace Go.Proofs.Ytjlmajopfeplpaa

/-! A region that draws its order and whose LAST operation (z, which waits for all others) writes on what is there: what is held (S) need not hold behind it. -/
section
variable {P : Program} {ops : Array Oper} {Q : Exit → Act → World → Prop} {md : Region.Mode} {S : World → Prop} {z : Nat}

def AnyU (P : Program) (md : Region.Mode) (ops : Array Oper) (Q : Exit → Act → World → Prop) (S : World → Prop) (z : Nat) : Nat → Array Bool → Act → World → Prop
  | 0, li, a, w => Region.ready md ops li = [] ∧ Q .normal a w
  | n + 1, li, a, w => (Region.ready md ops li = [] → Q .normal a w) ∧
      ∀ i ∈ Region.ready md ops li, wpOp P ops Q i (fun a' w' => (i ≠ z → S w') ∧ AnyU P md ops Q S z n (li.setIfInBounds i true) a' w') a w
theorem AnyU.any : ∀ (n : Nat) (li : Array Bool) (a : Act) (w : World), AnyU P md ops Q S z n li a w → wpAny P md ops Q n li a w
  | 0, _, _, _, h => h
  | n + 1, _, _, _, h => ⟨h.1, fun i hi => wpOp_mono (fun a' w' h' => AnyU.any n _ a' w' h'.2) (h.2 i hi)⟩
theorem AnyU.start {id : Nat} {a : Act} {w : World} (hm : P.follows .mixedOrders = true) (hS : S w.drew) (h : S w.drew → AnyU P .any ops Q S z ops.size (Array.replicate ops.size false) a w.drew) : (Code.region id ops true).wp P Q a w :=
  wp_region_any hm (AnyU.any _ _ _ _ (h hS))
/-- z waits for number i. -/
def waits (md : Region.Mode) (ops : Array Oper) (z i : Nat) : Bool := match ops[z]? with | some o => o.after.any fun e => Region.binds md e && e.on == i | none => false
theorem waits_not {li : Array Bool} {i : Nat} (hw : waits md ops z i = true) (hi : li.getD i true = false) : z ∉ Region.ready md ops li := fun hz => by
  obtain ⟨_, o, ho, hall⟩ := mem_ready.1 hz
  unfold waits at hw
  rw [ho] at hw
  obtain ⟨e, he, hb⟩ := Array.any_eq_true'.1 hw
  rw [Bool.and_eq_true] at hb
  have h1 := hall e he hb.1
  rw [eq_of_beq hb.2] at h1
  rcases Nat.lt_or_ge i li.size with hl | hl
  · simp [hl] at h1 hi; rw [hi] at h1; cases h1
  · simp [Array.getElem?_eq_none hl] at h1
theorem AnyU.first {i : Nat} {oi : Oper} {v : Value} (hi : ops[i]? = some oi) (hsel : ∀ (j : Nat) (o : Oper) cs b, ops[j]? = some o → o.op ≠ .select cs b) (hQ : ∀ c a w, Q (.panic c) (a.put oi.dst v) w → Q (.panic c) a w) {p : Nat} (hzp : waits md ops z p = true) (hpi : p = i ∨ waits md ops p i = true) :
    ∀ (n : Nat) (li : Array Bool) (a : Act) (w : World), li.getD p true = false → (∀ j oj, ops[j]? = some oj → j ≠ i → li.getD j true = false → (∀ e ∈ oj.after, Region.binds md e = true → e.on ≠ i) → oi.apart ops oj = true) →
      i ∈ Region.ready md ops li → YieldsIf P ops S oi v a → S w → AnyU P md ops Q S z n (li.setIfInBounds i true) (a.put oi.dst v) w → AnyU P md ops Q S z (n + 1) li a w
  | 0, li, a, w, _, _, hr, hy, hS, H => ⟨fun h => (by rw [h] at hr; cases hr), fun j hj => by
      rcases Nat.decEq j i with hne | rfl
      · exact absurd (ready_mono hj hne) (by rw [H.1]; exact List.not_mem_nil)
      · exact hy.wpOp hi hS ⟨fun _ => hS, H⟩⟩
  | n + 1, li, a, w, hpl, hfree, hr, hy, hS, H => ⟨fun h => (by rw [h] at hr; cases hr), fun j hj => by
      rcases Nat.decEq j i with hne | rfl
      · have hjz : j ≠ z := fun e => waits_not hzp hpl (e ▸ hj)
        have hjp : j ≠ p := fun e => by
          rcases hpi with h | h
          · exact hne (e.trans h)
          · exact waits_not h (mem_ready.1 hr).1 (e ▸ hj)
        obtain ⟨hju, oj, hoj, hall⟩ := mem_ready.1 hj
        have hno : ∀ e ∈ oj.after, Region.binds md e = true → e.on ≠ i := fun e he hb heq => by
          have h1 := hall e he hb
          have h0 := (mem_ready.1 hr).1
          rw [heq] at h1
          rcases Nat.lt_or_ge i li.size with hl | hl
          · simp [hl] at h0 h1; rw [h0] at h1; cases h1
          · simp [Array.getElem?_eq_none hl] at h1
        have h2 := wpOp_putIf hoj (hfree j oj hoj hne hju hno) (fun cs b => hsel i oi cs b hi) (fun cs b => hsel j oj cs b hoj) hQ hy (H.2 j (ready_mono hj hne))
        refine wpOp_mono (fun a' w' h3 => ⟨fun _ => h3.2.1 hjz, ?_⟩) h2
        refine AnyU.first hi hsel hQ hzp hpi n (li.setIfInBounds j true) a' w' (by rw [getD_set_ne true hjp]; exact hpl) (fun k ok hk hki hun hn => hfree k ok hk hki ?_ hn) (ready_mono hr (Ne.symm hne)) h3.1 (h3.2.1 hjz) ?_
        · rcases Nat.decEq j k with hjk | rfl
          · rw [getD_set_ne true hjk] at hun; exact hun
          · exact hju
        · rw [Array.setIfInBounds_comm _ _ hne]; exact h3.2.2
      · exact hy.wpOp hi hS ⟨fun _ => hS, H⟩⟩
theorem AnyU.take {i : Nat} {oi : Oper} {v : Value} {n : Nat} {li : Array Bool} {a : Act} {w : World} (hi : ops[i]? = some oi) {p : Nat} (hzp : waits md ops z p = true) (hpi : p = i ∨ waits md ops p i = true) (hpl : li.getD p true = false)
    (hs : Region.noSelect ops = true) (hf : Region.free md ops li i = true) (hr : (Region.ready md ops li).contains i = true)
    (hQ : ∀ c a w, Q (.panic c) (a.put oi.dst v) w → Q (.panic c) a w) (hy : YieldsIf P ops S oi v a) (hS : S w) (h : AnyU P md ops Q S z n (li.setIfInBounds i true) (a.put oi.dst v) w) : AnyU P md ops Q S z (n + 1) li a w :=
  AnyU.first hi (Region.noSelect_spec hs) hQ hzp hpi n li a w hpl (Region.free_spec hi hf) (by simpa using hr) hy hS h
/-- each of those that may come up. -/
def EachU (P : Program) (md : Region.Mode) (ops : Array Oper) (Q : Exit → Act → World → Prop) (S : World → Prop) (z n : Nat) (li : Array Bool) (a : Act) (w : World) (rs : List Nat) : Prop :=
  ∀ i ∈ rs, wpOp P ops Q i (fun a' w' => (i ≠ z → S w') ∧ AnyU P md ops Q S z n (li.setIfInBounds i true) a' w') a w
theorem EachU.nil {n : Nat} {li : Array Bool} {a : Act} {w : World} : EachU P md ops Q S z n li a w [] := fun _ h => by cases h
theorem EachU.cons {n : Nat} {li : Array Bool} {a : Act} {w : World} {i : Nat} {o : Oper} {rs : List Nat} (ho : ops[i]? = some o)
    (h : ∀ K' : Act → World → Prop, Shut (∀ a w, (i ≠ z → S w) → ((i ≠ z → S w) → AnyU P md ops Q S z n (li.setIfInBounds i true) a w) → K' a w) → if Region.wanted o (yielded ops a.tmps) = true then Oper.wp P o a w K' Q else K' (a.put o.dst undef) w)
    (hs : EachU P md ops Q S z n li a w rs) : EachU P md ops Q S z n li a w (i :: rs) := fun j hj => by
  rcases List.mem_cons.1 hj with rfl | hj
  · exact wpOp_step ho (fun K' hK => h K' (fun a w hS hW => hK a w ⟨hS, hW hS⟩))
  · exact hs j hj
theorem AnyU.ready {rs : List Nat} {n : Nat} {li : Array Bool} {a : Act} {w : World} (hr : Region.ready md ops li = rs) (hne : rs ≠ []) (h : EachU P md ops Q S z n li a w rs) : AnyU P md ops Q S z (n + 1) li a w :=
  ⟨fun h0 => absurd (hr ▸ h0) hne, hr ▸ h⟩
theorem AnyU.done {li : Array Bool} {a : Act} {w : World} (hr : Region.ready md ops li = []) (h : Q .normal a w) : ∀ n, AnyU P md ops Q S z n li a w
  | 0 => ⟨hr, h⟩
  | _ + 1 => ⟨fun _ => h, by rw [hr]; exact fun _ hh => absurd hh List.not_mem_nil⟩
end
end Go.Proofs.Ytjlmajopfeplpaa
