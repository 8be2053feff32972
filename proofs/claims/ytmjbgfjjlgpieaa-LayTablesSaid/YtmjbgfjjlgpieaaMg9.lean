import Derived.Shelf.Abstract
import Derived.Test.YtmjbgfjjlgpieaaMg0
namespace Go.Proofs.Ytmjbgfjjlgpieaa
open Go.RowKit Go.Shelf

/-- what Pick picks. -/
def pkv (x n : Int) : Int := if x.tmod n < 0 then x.tmod n + n else x.tmod n
theorem pkv_bd (x : Int) {n : Int} (h : 1 ≤ n) : 0 ≤ pkv x n ∧ pkv x n < n := by
  have a1 := Int.tmod_lt_of_pos x (show (0 : Int) < n by omega)
  have a2 := Int.lt_tmod_of_pos x (show (0 : Int) < n by omega)
  unfold pkv; split <;> omega
set_option maxHeartbeats 1000000 in
theorem pickv_any (x n : Int) (h1 : 1 ≤ n) (h2 : n ≤ 1000000000) (w : World) :
    Calls Try.prog 17 #[.int .i64 x, .int .i64 n] w fun e w' => e = .returned (.int .i64 (pkv x n)) ∧ w' = w := by
  have a1 := Int.tmod_lt_of_pos x (show (0 : Int) < n by omega)
  have a2 := Int.lt_tmod_of_pos x (show (0 : Int) < n by omega)
  have g1 : ¬ n < 1 := by omega
  have g2 : ¬ n = 0 := by omega
  unfold pkv
  generalize hr : x.tmod n = r at *
  by_cases h : r < 0
  · rw [if_pos h]
    have HR := Lib.hid hr
    go_enter Try.func17, Try.ntmps17
    go_wp2
    go_ret
    exact ⟨rfl, rfl⟩
  · rw [if_neg h]
    have HR := Lib.hid hr
    go_enter Try.func17, Try.ntmps17
    go_wp2
    go_ret
    exact ⟨rfl, rfl⟩
end Go.Proofs.Ytmjbgfjjlgpieaa
