import Derived.Test.YtjnfghhochcpaaaS6
namespace Go.Proofs.Ytjnfghhochcpaaa
open Go.RowKit Go.Shelf

theorem Crc.b0 (s : Nat) : (s : Int) % 256 = ((Crc.byt s 0 : Nat) : Int) := by unfold Crc.byt; simp
theorem Crc.b1 (s : Nat) : (s : Int) / 256 % 256 = ((Crc.byt s 1 : Nat) : Int) := by unfold Crc.byt; simp
theorem Crc.b2 (s : Nat) : (s : Int) / 65536 % 256 = ((Crc.byt s 2 : Nat) : Int) := by unfold Crc.byt; simp
theorem Crc.b3 (s : Nat) : (s : Int) / 16777216 % 256 = ((Crc.byt s 3 : Nat) : Int) := by unfold Crc.byt; simp

/-- the four bytes of a sum, as they are laid. -/
def sumV (s : Nat) : List Value := [.int .u8 (Crc.byt s 0 : Nat), .int .u8 (Crc.byt s 1 : Nat), .int .u8 (Crc.byt s 2 : Nat), .int .u8 (Crc.byt s 3 : Nat)]
theorem sealV (f : Nat → Nat) (n : Nat) : ((List.range n).map fun i => Value.int .u8 (f i : Nat)) ++ sumV (Crc.go 0 f n) = (List.range (n + 4)).map fun i => Value.int .u8 (Crc.sealed f n i : Nat) := by
  rw [List.range_add, List.map_append]
  congr 1
  · exact List.map_congr_left fun i hi => by rw [Crc.sealed_lo (by simpa using hi)]
  · rw [show List.range 4 = [0, 1, 2, 3] from rfl]
    simp only [List.map_cons, List.map_nil]
    rw [Crc.sealed_hi (i := 0) (by omega), Crc.sealed_hi (i := 1) (by omega), Crc.sealed_hi (i := 2) (by omega), Crc.sealed_hi (i := 3) (by omega)]
    rfl
theorem cell_four (w : World) (a b c d : Value) (t : TypeId) (N : Nat) (hN : N = w.heap.size) : ∀ j u, [a, b, c, d][j]? = some u → (w.alloc (.cells #[a, b, c, d] t)).cell? ((⟨N, 0, none⟩ : Addr).add j) = some u := by
  intro j u hj
  subst hN
  rw [Addr.add_lit, Nat.zero_add, World.cell?_alloc_new]
  simpa using hj
theorem ones_four (a b c d : Nat) : ∀ u ∈ [Value.int .u8 (a : Nat), .int .u8 (b : Nat), .int .u8 (c : Nat), .int .u8 (d : Nat)], u.oneCell' = true := by
  intro u hu
  simp only [List.mem_cons, List.not_mem_nil, or_false] at hu
  rcases hu with rfl | rfl | rfl | rfl <;> rfl
theorem sealed_bytes {f : Nat → Nat} (hf : Pf.By f) (n : Nat) : Pf.By (Crc.sealed f n) := fun i => Crc.sealed_lt hf n i
theorem sealed_upto (f : Nat → Nat) (n : Nat) : Pf.Up (Crc.sealed f n) (n + 4) := fun _ hi => Crc.sealed_up hi

set_option maxHeartbeats 1000000 in
set_option maxRecDepth 100000 in
theorem rseal_any (a : Option Addr) (n cap : Nat) (f : Nat → Nat) (hn : n ≤ 10000000000) (w : World) (hS : Sl w a n cap f) :
    Calls Try.prog 19 #[.slice a n cap] w (Gives w (n + 4) (Crc.sealed f n)) := by
  obtain ⟨i0, hi, hz0, hz1, hz2⟩ := info_parts Try.infoU8
  have HS := Lib.hid hS; clear hS
  have HI := Lib.hid hi; have HZ0 := Lib.hid hz0; have HZ1 := Lib.hid hz1; have HZ2 := Lib.hid hz2
  clear hi hz0 hz1 hz2
  have HSV := Lib.hid (sealV f n)
  have hby := sealed_bytes HS.out.bytes n
  have HBY := Lib.hid hby; clear hby
  go_enter Try.func19, Try.ntmps19
  go_wp2_with fail
  refine (rgo_any a n cap f 0 (by omega) (by omega) _ HS.out).mono ?_
  rintro e w1 ⟨rfl, rfl⟩
  have b0 := Crc.b0 (Crc.go 0 f n); have b1 := Crc.b1 (Crc.go 0 f n); have b2 := Crc.b2 (Crc.go 0 f n); have b3 := Crc.b3 (Crc.go 0 f n)
  have HSU := Lib.hid (show sumV (Crc.go 0 f n) = [.int .u8 (Crc.byt (Crc.go 0 f n) 0 : Nat), .int .u8 (Crc.byt (Crc.go 0 f n) 1 : Nat), .int .u8 (Crc.byt (Crc.go 0 f n) 2 : Nat), .int .u8 (Crc.byt (Crc.go 0 f n) 3 : Nat)] from rfl)
  generalize Crc.go 0 f n = s at b0 b1 b2 b3 HSV HSU ⊢
  generalize Crc.byt s 0 = s0 at b0 HSU
  generalize Crc.byt s 1 = s1 at b1 HSU
  generalize Crc.byt s 2 = s2 at b2 HSU
  generalize Crc.byt s 3 = s3 at b3 HSU
  have hx0 := World.ownsRow_made (e := 5) (size := 1) w1 #[] 0 (Nat.le_refl _) (by unfold maxLen; omega) rfl
  have HX0 := Lib.hid hx0; clear hx0
  cases a with
  | none =>
    obtain ⟨rfl, rfl⟩ := HS.out.nil rfl
    have HB0 := Lib.hid ((Below.refl w1.heap.size w1).alloc (Nat.le_refl _) (.cells #[] 5))
    go_wp2_with (first
      | (refine wpList_append_own_none (o := ⟨some 8, _, _, _, _, _⟩) rfl (.tmp 6) (.tmp 7) 23 rfl w1.heap.size 5 i0 1 Try.underlying23 HI.out _ 0 [] rfl HX0.out rfl ?_)
      | (refine wpList_append_own (o := ⟨some 21, _, _, _, _, _⟩) _ rfl (.tmp 8) (.tmp 20) 23 rfl w1.heap.size 5 i0 (.int .u8 0) 1 1 Try.underlying23 HI.out HZ0.out HZ1.out HZ2.out rfl (by decide) _ 0 _ rfl (own_below HX0.out ((Below.refl _ _).alloc (Nat.le_refl _) _)) ⟨w1.heap.size + 1, 0, none⟩ 4 4 [.int .u8 (s0 : Nat), .int .u8 (s1 : Nat), .int .u8 (s2 : Nat), .int .u8 (s3 : Nat)] rfl rfl (cell_four (w1.alloc (.cells #[] 5)) _ _ _ _ 5 _ (by simp)) (ones_four _ _ _ _) (by unfold maxLen; omega) (by omega) (by have := HB0.out.size; simp at this ⊢; omega) ?_; intro v2 w3 hown2 hgrow2 _; have HO2 := Lib.hid hown2; have HB2 := Lib.hid ((HB0.out.alloc HB0.out.size (.cells #[.int .u8 (s0 : Nat), .int .u8 (s1 : Nat), .int .u8 (s2 : Nat), .int .u8 (s3 : Nat)] 5)).grown hgrow2 (by have := HB0.out.size; simp at this ⊢; omega) (fun q e => (HX0.out.lt q e).1)); clear hown2 hgrow2))
    go_ret
    have hf : w3.ownsRow w1.heap.size 5 1 v2 (0 + 4) (((List.range 0).map fun i => Value.int .u8 (f i : Nat)) ++ [.int .u8 (s0 : Nat), .int .u8 (s1 : Nat), .int .u8 (s2 : Nat), .int .u8 (s3 : Nat)]) := HO2.out
    rw [← HSU.out, HSV.out] at hf
    obtain ⟨a3, c3, rfl, hN⟩ := owns_new hf HBY.out (sealed_upto f _)
    exact ⟨a3, c3, rfl, hN, HB2.out⟩
  | some ad =>
    go_wp2_with (first
      | (refine wpList_append_own (o := ⟨some 8, _, _, _, _, _⟩) _ rfl (.tmp 6) (.tmp 7) 23 rfl w1.heap.size 5 i0 (.int .u8 0) 1 1 Try.underlying23 HI.out HZ0.out HZ1.out HZ2.out rfl (by decide) _ 0 [] rfl HX0.out ad n cap ((List.range n).map fun i => Value.int .u8 (f i : Nat)) rfl (by simp) (Sl.reads (HS.out.same ((Below.refl _ _).alloc (Nat.le_refl _) _)) _ rfl) (ones_map _ _) (by unfold maxLen; omega) (by omega) (by simp) ?_; intro v1 w2 hown hgrow _; rw [Nat.zero_add, List.nil_append] at hown; have HO := Lib.hid hown; have HB := Lib.hid (((Below.refl w1.heap.size w1).alloc (Nat.le_refl _) (.cells #[] 5)).grown hgrow (by simp) (by intro k hk; cases hk; exact Nat.le_refl _)); clear hown hgrow)
      | (refine wpList_append_own (o := ⟨some 21, _, _, _, _, _⟩) _ rfl (.tmp 8) (.tmp 20) 23 rfl w1.heap.size 5 i0 (.int .u8 0) 1 1 Try.underlying23 HI.out HZ0.out HZ1.out HZ2.out rfl (by decide) _ n _ rfl (own_below HO.out ((Below.refl _ _).alloc (Nat.le_refl _) _)) ⟨w2.heap.size, 0, none⟩ 4 4 [.int .u8 (s0 : Nat), .int .u8 (s1 : Nat), .int .u8 (s2 : Nat), .int .u8 (s3 : Nat)] rfl rfl (cell_four (w2) _ _ _ _ 5 _ (by simp)) (ones_four _ _ _ _) (by unfold maxLen; omega) (by omega) (by have := HB.out.size; simp at this ⊢; omega) ?_; intro v2 w3 hown2 hgrow2 _; have HO2 := Lib.hid hown2; have HB2 := Lib.hid ((HB.out.alloc HB.out.size (.cells #[.int .u8 (s0 : Nat), .int .u8 (s1 : Nat), .int .u8 (s2 : Nat), .int .u8 (s3 : Nat)] 5)).grown hgrow2 (by have := HB.out.size; simp at this ⊢; omega) (fun q e => (HO.out.lt q e).1)); clear hown2 hgrow2))
    go_ret
    have hf := HO2.out
    rw [← HSU.out, HSV.out] at hf
    obtain ⟨a3, c3, rfl, hN⟩ := owns_new hf HBY.out (sealed_upto f _)
    exact ⟨a3, c3, rfl, hN, HB2.out⟩

end Go.Proofs.Ytjnfghhochcpaaa
