import Derived.Deep.RegionWith
import Derived.Test.YtjlmajopfeplpaaGreatMg18
namespace Go.Proofs.YtjlmajopfeplpaaGreat
open Go.RowKit Go.Shelf

/-- the first k values elsewhere. -/
def vls (P : Nat → Nat) (n : Nat) (g f : Nat → Nat) (k i : Nat) : Nat := if i < k then dotN (Pf.lw P n (f i)) g n else 0
theorem vls_by {P g f : Nat → Nat} (hP : Pf.By P) (hg : Pf.By g) (hf : Pf.By f) (n k : Nat) : Pf.By (vls P n g f k) := fun i => by
  unfold vls; split
  · exact dotN_lt (Pf.lw_by hP n (hf i)) hg n
  · omega
theorem vls_up (P : Nat → Nat) (n : Nat) (g f : Nat → Nat) (k : Nat) : Pf.Up (vls P n g f k) k := fun i hi => by unfold vls; rw [if_neg (by omega)]
theorem vls_s (P : Nat → Nat) (n : Nat) (g f : Nat → Nat) (k i : Nat) : (if i = k then dotN (Pf.lw P n (f k)) g n else vls P n g f k i) = vls P n g f (k + 1) i := by
  unfold vls
  by_cases e : i = k
  · subst e; rw [if_pos rfl, if_pos (by omega)]
  · rw [if_neg e]
    by_cases h : i < k
    · rw [if_pos h, if_pos (by omega)]
    · rw [if_neg h, if_neg (by omega)]

/-- what a call answers that hands out a slice, or an error. -/
def GivesV (w : World) (n : Nat) (f : Nat → Nat) (e : Ending) (w' : World) : Prop := ∃ a cap, e = .returned (.tuple #[.slice a n cap, .int .i64 0]) ∧ Nw w' w.heap.size a n cap f ∧ Below w.heap.size w w'

/-- what Values answers. -/
def ValSays (w : World) (n n' m : Nat) (P g f : Nat → Nat) (e : Ending) (w' : World) : Prop :=
  (n ≠ n' ∧ e = .returned (.tuple #[.slice none 0 0, .int .i64 2]) ∧ Below w.heap.size w w') ∨ (n = n' ∧ ¬ Pf.Dst P n ∧ e = .returned (.tuple #[.slice none 0 0, .int .i64 9]) ∧ Below w.heap.size w w') ∨ (n = n' ∧ Pf.Dst P n ∧ GivesV w m (vls P n g f m) e w')

/-- what Value answers. -/
def Val1Says (w : World) (n n' x : Nat) (P g : Nat → Nat) (e : Ending) (w' : World) : Prop :=
  ((n ≠ n' ∧ e = .returned (.tuple #[.int .u8 0, .int .i64 2])) ∨ (n = n' ∧ ¬ Pf.Dst P n ∧ e = .returned (.tuple #[.int .u8 0, .int .i64 9])) ∨ (n = n' ∧ Pf.Dst P n ∧ e = .returned (.tuple #[.int .u8 (dotN (Pf.lw P n x) g n : Nat), .int .i64 0]))) ∧ Below w.heap.size w w'

end Go.Proofs.YtjlmajopfeplpaaGreat

namespace Go.Proofs.YtjlmajopfeplpaaGreat.Pf
/-- the bytes in order. -/
def idn (i : Nat) : Nat := i % 256
theorem idn_by : By idn := fun i => Nat.mod_lt _ (by omega)
theorem idn_at {i : Nat} (h : i < 256) : idn i = i := Nat.mod_eq_of_lt h
theorem idn_dst {n : Nat} (h : n ≤ 256) : Dst idn n := fun i j hi hj => by rw [idn_at (by omega), idn_at (by omega)]; omega
/-- a table: of each byte its weights, by the first K ones. -/
def tbl (K i : Nat) : Nat → Nat := lw idn K (idn i)
theorem tbl_bm (K : Nat) : Mt.Bm (tbl K) := fun i j => lw_by idn_by K (idn_by i) j
theorem tbl_up (K i : Nat) : Up (tbl K i) K := lw_up K _
end Go.Proofs.YtjlmajopfeplpaaGreat.Pf
namespace Go.Proofs.YtjlmajopfeplpaaGreat
open Go.RowKit Go.Shelf

theorem Rq.nw {W : World} {B n cap : Nat} {a : Option Addr} {h : Nat → Nat} (r : Rq W B a n cap h) (hb : Pf.By h) (hu : Pf.Up h n) : Nw W B a n cap h := by
  rcases r with ⟨rfl, rfl, rfl⟩ | ⟨g, rfl, h1, h2, h3, h4⟩
  · exact Nw.nil _ _ fun i => hu i (Nat.zero_le _)
  · exact ⟨h2.sl h3 h4 hb hu, h2.ow h1⟩
theorem bag_below {W W' : World} {B g c cap : Nat} {a : Option Addr} (hc : a = some ⟨g, 0, none⟩ ∧ c = cap ∧ W.grownBy W' (some g) ∨ W.heap.size ≤ g ∧ W.grownBy W' none) (hg : B ≤ g) (hs : B ≤ W.heap.size) : Below B W W' := by
  rcases hc with ⟨_, _, h⟩ | ⟨_, h⟩
  · exact (Below.refl B W).grown h hs (fun k e => by cases e; exact hg)
  · exact (Below.refl B W).grown h hs (fun k e => by cases e)
/-- what a call answers that hands out a matrix in new memory, and OK. -/
def MakesT (w : World) (h wi : Nat) (f : Nat → Nat → Nat) (e : Ending) (w' : World) : Prop :=
  ∃ G b, e = .returned (.tuple #[.slice (some ⟨G, 0, none⟩) h h, .int .i64 0]) ∧ Gr w' w.heap.size G h h b (fun _ => wi) (fun _ => wi) f ∧ Below w.heap.size w w'
/-- the first k rows. -/
def tbk (K k i j : Nat) : Nat := if i < k then Pf.tbl K i j else 0
theorem tbk_bm (K k : Nat) : Mt.Bm (tbk K k) := fun i j => by
  unfold tbk; split
  · exact Pf.tbl_bm K i j
  · omega

end Go.Proofs.YtjlmajopfeplpaaGreat
