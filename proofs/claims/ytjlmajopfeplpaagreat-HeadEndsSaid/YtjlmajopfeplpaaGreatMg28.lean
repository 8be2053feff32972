import Derived.Deep.RegionWith
import Derived.Test.YtjlmajopfeplpaaGreatMg24
import Derived.Test.YtjlmajopfeplpaaGreatMg27
namespace Go.Proofs.YtjlmajopfeplpaaGreat
open Go.RowKit Go.Shelf

theorem quiet_b {w w' : World} {q : Nat} (h : w' = w.drewN q) : Below w.heap.size w w' := by rw [h]; exact below_dr (Below.refl _ _) q
/-- the first points. -/
def PtsSays (w : World) (n : Nat) (e : Ending) (w' : World) : Prop := ∃ pa pc, e = .returned (.slice pa n pc) ∧ Nw w' w.heap.size pa n pc (idk n) ∧ Below w.heap.size w w'

/-- rows of noughts. -/
def NulSays (w : World) (n wi : Nat) (e : Ending) (w' : World) : Prop := ∃ sa sc b, e = .returned (.slice sa n sc) ∧ Go_ w' w.heap.size sa n sc b (fun _ => wi) (fun _ => wi) (fun _ _ => 0) ∧ Below w.heap.size w w'

section
variable {w w' : World} {rb N K : Nat}
end
end Go.Proofs.YtjlmajopfeplpaaGreat

namespace Go.Proofs.YtjlmajopfeplpaaGreat
open Go.RowKit Go.Shelf

/-- what is moved so far: t places whole, of the next one i rows. -/
def mvk (P : Nat → Nat) (K : Nat) (g : Nat → Nat → Nat) (Q : Nat → Nat) (t i p j : Nat) : Nat := if j < t ∨ (j = t ∧ p < i) then Pf.mv P K g (Q p) j else 0
theorem mvk_bm {P Q : Nat → Nat} {K : Nat} {g : Nat → Nat → Nat} (hP : Pf.By P) (hg : Mt.Bm g) (hQ : Pf.By Q) (t i : Nat) : Mt.Bm (mvk P K g Q t i) := fun p j => by
  unfold mvk; split
  · exact Pf.mv_bm hP hg (hQ p) j
  · omega
theorem mvk_s (P : Nat → Nat) (K : Nat) (g : Nat → Nat → Nat) (Q : Nat → Nat) (t i p j : Nat) : (if p = i then (if j = t then Pf.mv P K g (Q i) t else mvk P K g Q t i i j) else mvk P K g Q t i p j) = mvk P K g Q t (i + 1) p j := by
  unfold mvk
  by_cases e : p = i
  · subst e
    rw [if_pos rfl]
    by_cases e2 : j = t
    · subst e2; rw [if_pos rfl, if_pos (Or.inr ⟨rfl, by omega⟩)]
    · rw [if_neg e2]
      by_cases e3 : j < t
      · rw [if_pos (Or.inl e3), if_pos (Or.inl e3)]
      · rw [if_neg (by omega), if_neg (by omega)]
  · rw [if_neg e]
    by_cases c : j < t ∨ (j = t ∧ p < i)
    · rw [if_pos c, if_pos (by omega)]
    · rw [if_neg c, if_neg (by omega)]
theorem mvk_e (P : Nat → Nat) (K : Nat) (g : Nat → Nat → Nat) (Q : Nat → Nat) (t m p j : Nat) (hp : p < m) : mvk P K g Q t m p j = mvk P K g Q (t + 1) 0 p j := by
  unfold mvk
  by_cases c : j < t + 1
  · rw [if_pos (by omega), if_pos (Or.inl c)]
  · rw [if_neg (by omega), if_neg (by omega)]
/-- a column. -/
def colf (g : Nat → Nat → Nat) (K t i : Nat) : Nat := if i < K then g i t else 0
theorem colf_by {g : Nat → Nat → Nat} (hg : Mt.Bm g) (K t : Nat) : Pf.By (colf g K t) := fun i => by
  unfold colf; split
  · exact hg i t
  · omega
theorem colf_up (g : Nat → Nat → Nat) (K t : Nat) : Pf.Up (colf g K t) K := fun i hi => by unfold colf; rw [if_neg (by omega)]
theorem colf_dot (P : Nat → Nat) (K : Nat) (g : Nat → Nat → Nat) (x t : Nat) : dotN (Pf.lw P K x) (colf g K t) K = Pf.mv P K g x t := Pf.xsum_congr K fun p hp => by unfold colf; rw [if_pos hp]
/-- rows, moved. -/
def MovSays (w : World) (m wi : Nat) (F : Nat → Nat → Nat) (e : Ending) (w' : World) : Prop := ∃ G sc b, e = .returned (.slice (some ⟨G, 0, none⟩) m sc) ∧ Gr w' w.heap.size G m sc b (fun _ => wi) (fun _ => wi) F ∧ Below w.heap.size w w'

end Go.Proofs.YtjlmajopfeplpaaGreat

namespace Go.Proofs.YtjlmajopfeplpaaGreat
open Go.RowKit Go.Shelf

theorem enc_idk {K N i : Nat} {f : Nat → Nat → Nat} (hK : K ≤ 256) (hN : N ≤ 256) (hi : i < N) : Pf.mv (idk K) K f (idk N i) = enc K f i := by
  unfold enc
  rw [Pf.mv_points (R' := Pf.idn) (fun j hj => by unfold idk; rw [if_pos hj, Pf.idn_at (by omega)])]
  unfold idk
  rw [if_pos hi, Pf.idn_at (by omega)]
/-- a list of rows in new memory, and OK. -/
def LstR (w : World) (m wi : Nat) (F : Nat → Nat → Nat) (e : Ending) (w' : World) : Prop := ∃ G sc b c, e = .returned (.tuple #[.slice (some ⟨G, 0, none⟩) m sc, .int .i64 0]) ∧ Gr w' w.heap.size G m sc b (fun _ => wi) c F ∧ Below w.heap.size w w'
def EncR (n N K : Nat) (l : Nat → Nat) (f : Nat → Nat → Nat) (w : World) (e : Ending) (w' : World) : Prop := (¬ IsS n K l ∧ ErrL w 2 e w') ∨ (IsS n K l ∧ LstR w N (l 0) (enc K f) e w')

/-- is one twice among the first k? -/
def twi (h : Nat → Int) : Nat → Bool
  | 0 => false
  | k + 1 => twi h k || hit h (h k) k
theorem twi_no {h : Nat → Int} : ∀ k, twi h k = false → DsI h k
  | 0, _, i, j, _, hj => by omega
  | k + 1, e, i, j, hij, hj => by
    unfold twi at e
    rw [Bool.or_eq_false_iff] at e
    by_cases c : j = k
    · subst c; exact hit_no _ e.2 i hij
    · exact twi_no k e.1 i j hij (by omega)
theorem twi_yes {h : Nat → Int} : ∀ k, twi h k = true → ¬ DsI h k
  | 0, e, _ => by cases e
  | k + 1, e, hd => by
    unfold twi at e
    rw [Bool.or_eq_true] at e
    rcases e with e | e
    · exact twi_yes k e (fun i j h1 h2 => hd i j h1 (by omega))
    · obtain ⟨i, h1, h2⟩ := hit_yes _ e
      exact hd i k h1 (by omega) h2

end Go.Proofs.YtjlmajopfeplpaaGreat
