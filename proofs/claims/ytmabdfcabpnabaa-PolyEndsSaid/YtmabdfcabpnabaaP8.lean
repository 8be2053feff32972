import Derived.Test.YtmabdfcabpnabaaP7
namespace Go.Proofs.Ytmabdfcabpnabaa
open Go.RowKit Go.Shelf

theorem divide_any (wb fb B t l : Nat) (a p : Option Addr) (c d : Nat) (f b : Nat → Nat) (w : World) (hWk : Wk w wb fb a l c) (hF : IsField fb w) (hN : Nw w B a l c f) (hL : Pf.Ln f l) (hS : Sl w p (t + 1) d b) (hLb : Pf.Ln b (t + 1)) (hB : B ≤ wb)
    (hp : ∀ ad, p = some ad → ad.block < B) (hfb : ∀ g, a = some ⟨g, 0, none⟩ → g ≠ fb) (hl : l ≤ 1000000000) (ht : t ≤ 1000000000) :
    Calls Try.prog 35 #[.pointer (some ⟨wb, 0, none⟩), .slice p (t + 1) d] w (Divides w wb fb B t f b) := by
  rcases Nat.lt_or_ge t l with h | h
  · obtain ⟨N, rfl⟩ : ∃ N, l = N + t := ⟨l - t, by omega⟩
    exact divide_long wb fb B t N a p c d f b w hWk hF hN hL hS hLb hB hp hfb (by omega) (by omega)
  · exact divide_short wb fb B t a p l c d f b w hWk hN hL hS hB h ht

set_option maxHeartbeats 1000000 in
theorem pvalue_any (a : Option Addr) (len cap : Nat) (f : Nat → Nat) (x : Nat) (hx : x < 256) (hm : len ≤ 1000000000000) (w : World) (hS : Sl w a len cap f) :
    Calls Try.prog 19 #[.slice a len cap, .int .u8 (x : Nat)] w fun e w' => e = .returned (.int .u8 (Pf.ev f x len : Nat)) ∧ Below w.heap.size w w' := by
  have HS := Lib.hid hS; clear hS
  go_enter Try.func19, Try.ntmps19
  go_wp2_with fail
  refine (new_any _).mono ?_
  rintro e w1 ⟨rfl, hF, hB1⟩
  have hW : Wk (w1.alloc (.cells #[.pointer (some ⟨w.heap.size, 0, none⟩), .slice a len cap] 44)) w1.heap.size w.heap.size a len cap := heap_alloc_new _ _
  have hB2 : Below w1.heap.size w1 (w1.alloc (.cells #[.pointer (some ⟨w.heap.size, 0, none⟩), .slice a len cap] 44)) := (Below.refl _ _).alloc (Nat.le_refl _) _
  have HF := Lib.hid (hF.below hB2 (World.block_lt_of_cell? _ _ (hF 0 (by omega)).1)); have HW := Lib.hid hW; have HB := Lib.hid (hB1.trans (hB2.mono hB1.size)); clear hF hB1 hB2 hW
  go_wp2_with fail
  refine (value_any _ _ x hx a len cap f hm _ HW.out.c0 HW.out.c1 HF.out (HS.out.same HB.out)).mono ?_
  rintro e w2 ⟨rfl, hB2⟩
  have HB2 := Lib.hid hB2; clear hB2
  go_wp2
  go_ret
  exact ⟨rfl, HB.out.trans (HB2.out.mono HB.out.size)⟩

/-- 1, and nothing more. -/
theorem sc_Ln : Pf.Ln (Pf.sc 1) 1 := ⟨Pf.sc_up 1, Or.inr (by decide)⟩
theorem pm_one {q : Nat → Nat} (hq : Pf.By q) (n : Nat) : Pf.pm (Pf.sc 1) q n = q n := by
  unfold Pf.pm Pf.cv
  rw [Pf.xsum_one (j := 0) (n + 1) (by omega)]
  · rw [if_pos (by omega)]; exact Gf.mul_one _ (hq _)
  · intro i _ hne
    show (if i ≤ n then Gf.mul (Pf.sc 1 i) _ else 0) = 0
    have : Pf.sc 1 i = 0 := by unfold Pf.sc; rw [if_neg hne]
    rw [this, Gf.zero_mul]; split <;> rfl

/-- what Mul answers. -/
def MulSays (w : World) (l l' : Nat) (f f' : Nat → Nat) (e : Ending) (w' : World) : Prop :=
  (600 < Pf.ln f l ∨ 600 < Pf.ln f' l') ∧ e = .returned (.tuple #[.slice none 0 0, .int .i64 3]) ∧ Below w.heap.size w w' ∨
  (Pf.ln f l ≤ 600 ∧ Pf.ln f' l' ≤ 600) ∧ ∃ a n c, e = .returned (.tuple #[.slice a n c, .int .i64 0]) ∧ Nw w' w.heap.size a n c (Pf.pm f f') ∧ Pf.Ln (Pf.pm f f') n ∧ Below w.heap.size w w'

set_option maxHeartbeats 2000000 in
set_option maxRecDepth 100000 in
theorem pmul_any (a a' : Option Addr) (l c l' c' : Nat) (f f' : Nat → Nat) (hm : l ≤ 100000000) (hm' : l' ≤ 100000000) (w : World) (h1 : Sl w a l c f) (h2 : Sl w a' l' c' f') :
    Calls Try.prog 11 #[.slice a l c, .slice a' l' c'] w (MulSays w l l' f f') := by
  have H1 := Lib.hid h1; have H2 := Lib.hid h2; clear h1 h2
  by_cases g1 : 600 < Pf.ln f l
  · have hg1 : decide ((600 : Int) < (Pf.ln f l : Int)) = true := by simp; omega
    have G1 := Lib.hid g1; clear g1
    go_enter Try.func11, Try.ntmps11
    go_wp2_with fail
    refine (long_any a l c f (by omega) _ H1.out).mono ?_
    rw [hg1]
    rintro e w1 ⟨rfl, hB⟩
    have HB := Lib.hid hB; clear hB hg1
    go_wp2
    go_ret2
    exact Or.inl ⟨Or.inl G1.out, rfl, HB.out⟩
  have hg1 : decide ((600 : Int) < (Pf.ln f l : Int)) = false := by simp; omega
  have G1 := Lib.hid g1; clear g1
  by_cases g2 : 600 < Pf.ln f' l'
  · have hg2 : decide ((600 : Int) < (Pf.ln f' l' : Int)) = true := by simp; omega
    have G2 := Lib.hid g2; clear g2
    go_enter Try.func11, Try.ntmps11
    go_wp2_with fail
    refine (long_any a l c f (by omega) _ H1.out).mono ?_
    rw [hg1]
    rintro e w1 ⟨rfl, hB⟩
    have HB := Lib.hid hB; clear hB hg1
    go_wp2_with fail
    refine (long_any a' l' c' f' (by omega) _ (H2.out.same HB.out)).mono ?_
    rw [hg2]
    rintro e w2 ⟨rfl, hB⟩
    have HB2 := Lib.hid hB; clear hB hg2
    go_wp2
    go_ret2
    exact Or.inl ⟨Or.inr G2.out, rfl, HB.out.trans (HB2.out.mono HB.out.size)⟩
  have hg2 : decide ((600 : Int) < (Pf.ln f' l' : Int)) = false := by simp; omega
  have G2 := Lib.hid g2; clear g2
  go_enter Try.func11, Try.ntmps11
  go_wp2_with fail
  refine (long_any a l c f (by omega) _ H1.out).mono ?_
  rw [hg1]
  rintro e w1 ⟨rfl, hB⟩
  have HB := Lib.hid hB; clear hB hg1
  go_wp2_with fail
  refine (long_any a' l' c' f' (by omega) _ (H2.out.same HB.out)).mono ?_
  rw [hg2]
  rintro e w2 ⟨rfl, hB⟩
  have HB2 := Lib.hid (HB.out.trans (hB.mono HB.out.size)); clear hB hg2
  go_wp2_with fail
  refine (new_any _).mono ?_
  rintro e w3 ⟨rfl, hF, hB3⟩
  have HF := Lib.hid hF; have HB3 := Lib.hid hB3; clear hF hB3
  go_wp2_with fail
  refine (one_any _).mono ?_
  rintro e w4 ⟨rfl, rfl⟩
  go_wp2_with fail
  have hBw : Below w3.heap.size w3 (((w3.alloc (.cells #[.int .u8 1] 5)).alloc (.cells #[.pointer (some ⟨w2.heap.size, 0, none⟩), .slice (some ⟨w3.heap.size, 0, none⟩) 1 1] 44)).alloc (.cells #[.slice a l c, .slice a' l' c'] 22)) := (((Below.refl _ _).alloc (Nat.le_refl _) _).alloc (by simp) _).alloc (by simp; omega) _
  have hWk : Wk (((w3.alloc (.cells #[.int .u8 1] 5)).alloc (.cells #[.pointer (some ⟨w2.heap.size, 0, none⟩), .slice (some ⟨w3.heap.size, 0, none⟩) 1 1] 44)).alloc (.cells #[.slice a l c, .slice a' l' c'] 22)) (w3.heap.size + 1) w2.heap.size (some ⟨w3.heap.size, 0, none⟩) 1 1 := by
    have := heap_alloc_new (w3.alloc (.cells #[.int .u8 1] 5)) (.cells #[.pointer (some ⟨w2.heap.size, 0, none⟩), .slice (some ⟨w3.heap.size, 0, none⟩) 1 1] 44)
    rw [World.size_alloc] at this
    exact (Below.heap_alloc _ _ _ (by simp)).trans this
  have hOne : Bl (((w3.alloc (.cells #[.int .u8 1] 5)).alloc (.cells #[.pointer (some ⟨w2.heap.size, 0, none⟩), .slice (some ⟨w3.heap.size, 0, none⟩) 1 1] 44)).alloc (.cells #[.slice a l c, .slice a' l' c'] 22)) w3.heap.size 1 1 (Pf.sc 1) :=
    ((Bl.alloc w3 [.int .u8 1] (Pf.sc 1) (fun i hi => by
      have : i = 0 := by simpa using hi
      subst this; rfl)).alloc' _).alloc' _
  have hc0 : ∀ k, k < 2 → (((w3.alloc (.cells #[.int .u8 1] 5)).alloc (.cells #[.pointer (some ⟨w2.heap.size, 0, none⟩), .slice (some ⟨w3.heap.size, 0, none⟩) 1 1] 44)).alloc (.cells #[.slice a l c, .slice a' l' c'] 22)).cell? ⟨w3.heap.size + 1 + 1, k, none⟩ = (#[.slice a l c, .slice a' l' c'] : Array Value)[k]? := fun k _ => by
    have := World.cell?_alloc_new ((w3.alloc (.cells #[.int .u8 1] 5)).alloc (.cells #[.pointer (some ⟨w2.heap.size, 0, none⟩), .slice (some ⟨w3.heap.size, 0, none⟩) 1 1] 44)) #[.slice a l c, .slice a' l' c'] 22 k
    rwa [World.size_alloc, World.size_alloc] at this
  have hs2 := HB2.out.size
  have hs3 := HB3.out.size
  have HBa := Lib.hid (HB2.out.trans ((HB3.out.trans (hBw.mono HB3.out.size)).mono HB2.out.size))
  have F5 := Lib.hid (HF.out.below hBw (World.block_lt_of_cell? _ _ (HF.out 0 (by omega)).1))
  generalize (((w3.alloc (.cells #[.int .u8 1] 5)).alloc (.cells #[.pointer (some ⟨w2.heap.size, 0, none⟩), .slice (some ⟨w3.heap.size, 0, none⟩) 1 1] 44)).alloc (.cells #[.slice a l c, .slice a' l' c'] 22)) = W4 at *
  have hsz := HBa.out.size
  have HWK := Lib.hid hWk; have HONE := Lib.hid hOne; have HC0 := Lib.hid hc0
  clear hBw hWk hOne hc0
  refine (mult_any (w3.heap.size + 1) w2.heap.size (w3.heap.size + 1 + 1) 2 w.heap.size (fun k => if k = 0 then a else a') (fun k => if k = 0 then l else l') (fun k => if k = 0 then c else c') (fun k => if k = 0 then f else f') _ 1 1 (Pf.sc 1) _ HWK.out F5.out
    (Nw.of_bl HONE.out (Nat.le_refl _) (by unfold maxLen; omega) (Pf.sc_by (by omega)) (Pf.sc_up 1) (by omega)) sc_Ln hsz (by omega) (by omega) (fun k hk => ?_)).mono ?_
  · rcases (show k = 0 ∨ k = 1 by omega) with rfl | rfl
    · exact ⟨H1.out.same HBa.out, hm, HC0.out 0 (by omega)⟩
    · exact ⟨H2.out.same HBa.out, hm', HC0.out 1 (by omega)⟩
  rintro e w5 ⟨rfl, a5, n5, c5, hWk5, hN5, hL5, hg5⟩
  have hpm : pmk (Pf.sc 1) (fun k => if k = 0 then f else f') 2 = Pf.pm f f' := by
    show Pf.pm (Pf.pm (Pf.sc 1) f) f' = _
    rw [show Pf.pm (Pf.sc 1) f = f from funext fun n => pm_one H1.out.bytes n]
  rw [hpm] at hN5 hL5
  have z5 := hWk5.c1
  have HN5 := Lib.hid hN5; have HL5 := Lib.hid hL5; have HG5 := Lib.hid (HBa.out.trans (grown_below hg5 (by omega) hsz))
  clear hWk5 hN5 hL5 hg5 hpm
  go_wp2
  go_ret2
  exact Or.inr ⟨⟨by have := G1.out; omega, by have := G2.out; omega⟩, a5, n5, c5, rfl, HN5.out, HL5.out, HG5.out⟩
end Go.Proofs.Ytmabdfcabpnabaa
