import Derived.OrdersHeld
import Derived.Deep.RegionHeld
import Derived.Test.YtjlmajopfeplpaaGreatMg2
import Derived.Test.YtjlmajopfeplpaaGreatMg3
namespace Go.Proofs.YtjlmajopfeplpaaGreat.Rb

section
variable {P : Program} {ops : Array Oper} {md : Region.Mode} {ro : Option Nat} {n : Nat} {Q : Exit → Act → World → Prop}
theorem callsWR' {f : FuncId} {args : Array Value} {w : World} {R : Ending → World → Prop} (h : Calls P f args w R) : CallsIn (WR ro) n P f args w R := callsWR h
theorem rowsWR {row : String} {args : Array Value} {w : World} {R : Value → World → Prop} (h : Rows P row args w R) : RowsIn (WR ro) n P row args w R := fun c cs _ => by
  obtain ⟨v, w', r, s⟩ := h c cs
  exact ⟨v, w', r, stepsIn_wide.2 s⟩
/-- an operation of a plain walk, in a round. -/
theorem wpIn_of_plain {o : Oper} {a : Act} {K : Act → World → Prop} {w : World} {Q0 : Exit → Act → World → Prop} (hq : ∀ e a w, Q0 e a w → Q e a w) (hd : ∀ c, o.op ≠ .defer c) (hh : o.wp P a w K Q0) : o.wpIn (WR ro) n P a w K Q := by
  refine ⟨fun _ _ => trivial, ?_⟩
  rw [Oper.semAt_eq _ _ _ hd]
  unfold Oper.wp at hh
  generalize (execOp a.eval o).run P w = r at *
  cases r with
  | ok x w' =>
    cases x <;> simp only [Oper.upon] at hh <;> simp only [Oper.uponIn]
    case value => exact hh
    case skip => exact hh
    case defer => exact hh
    case enter => exact ⟨fun h => by simp [WR, Fence.wide] at h, (callsWR hh).mono fun e w'' h => by
      cases e with
      | returned v => exact h
      | panicked ch => exact hq _ _ _ h
      | outgrown => obtain ⟨a', w3, h⟩ := h; exact ⟨a', w3, hq _ _ _ h⟩⟩
    case row => exact ⟨fun h => by simp [WR, Fence.wide] at h, rowsWR hh⟩
    all_goals exact hh
  | halt x w' => cases x <;> simp only [Oper.upon] at hh <;> simp only [Oper.uponIn] <;> first | exact hq _ _ _ hh | exact hh
theorem wpOpIn_of_plain {i : Nat} {a : Act} {K : Act → World → Prop} {w : World} {Q0 : Exit → Act → World → Prop} (hq : ∀ e a w, Q0 e a w → Q e a w) (hd : ∀ o, ops[i]? = some o → ∀ c, o.op ≠ .defer c) (hQ : ¬ LetsOut Q0) (hh : wpOp P ops Q0 i K a w) : wpOpIn (WR ro) n P ops Q i K a w := by
  unfold wpOp at hh
  unfold wpOpIn
  split
  · rename_i ho; simp only [ho] at hh; exact hh
  · rename_i o ho
    simp only [ho] at hh
    split
    · rename_i hw
      simp only [hw, if_true] at hh
      rcases hh with hh | hh
      · exact wpIn_of_plain hq (hd o ho) hh
      · exact absurd hh.2 hQ
    · rename_i hw; simp only [hw] at hh; exact ⟨fun _ _ => trivial, hh⟩
theorem wpAnyIn_of_plain {Q0 : Exit → Act → World → Prop} (hq : ∀ e a w, Q0 e a w → Q e a w) (hd : ∀ (i : Nat) (o : Oper), ops[i]? = some o → ∀ c, o.op ≠ .defer c) (hQ : ¬ LetsOut Q0) : ∀ (fuel : Nat) (listed : Array Bool) (a : Act) (w : World), wpAny P md ops Q0 fuel listed a w → wpAnyIn (WR ro) n P md ops Q fuel listed a w
  | 0, _, _, _, h => ⟨h.1, hq _ _ _ h.2⟩
  | fuel + 1, _, _, _, h => ⟨fun h0 => hq _ _ _ (h.1 h0), fun i hi => wpOpIn_of_plain hq (hd i) hQ (wpOp_mono (fun a' w' h' => wpAnyIn_of_plain hq hd hQ fuel _ a' w' h') (h.2 i hi))⟩
/-- a round's region, walked by held steps; the last one writes. -/
theorem wpIn_round_u {r : Nat} {id : Nat} {a : Act} {w : World} {l : List Oper} {S : World → Prop} {z : Nat} (hm : P.follows .mixedOrders = true) (hd : noDefer l = true) (hS : S w.drew)
    (h : S w.drew → AnyU P .any l.toArray (fun e a w => match e with | .normal => Q .normal a w | _ => False) S z l.toArray.size (Array.replicate l.toArray.size false) a w.drew) : (Code.region id l.toArray true).wpIn (Fence.wide.inRound r) n P Q a w := by
  refine wpIn_region_any hm (wpAnyIn_of_plain (ro := some r) (fun e a w he => ?_) (fun i o ho => noDefer_spec hd ho) (fun ⟨_, _, hq⟩ => hq) _ _ _ _ (AnyU.any _ _ _ _ (h hS)))
  cases e <;> first | exact he | exact he.elim
end
end Go.Proofs.YtjlmajopfeplpaaGreat.Rb
