import Derived.Test.YtmabdfcabpnabaaT3
import Derived.Test.YtmabdfcabpnabaaPy
import Derived.Deep.AppendLies
import Derived.Deep.DeepCutAuto
import Derived.BigQuiet
import Derived.Lib.QuietBelow
namespace Go.Proofs.Ytmabdfcabpnabaa
open Go.RowKit Go.Shelf

theorem own_below {w w' : World} {B : Nat} {e : TypeId} {s : Nat} {v : Value} {n : Nat} {xs : List Value} (h : w.ownsRow B e s v n xs) (hB : Below w.heap.size w w') : w'.ownsRow B e s v n xs :=
  h.kept (row := none) ⟨hB.os, hB.tape, hB.output, hB.size, fun k hk _ => hB.block k hk⟩ (by cases v.ownBlock <;> simp)
/-- so many coefficients, as values. -/
def rowv (f : Nat → Nat) (n : Nat) : List Value := (List.range n).map fun i => Value.int .u8 (f i : Nat)
theorem rowv_succ (f : Nat → Nat) (n : Nat) : rowv f (n + 1) = rowv f n ++ [.int .u8 (f n : Nat)] := by unfold rowv; rw [List.range_succ, List.map_append]; rfl
theorem cell_new1 (w : World) (v : Value) (t : TypeId) : ∀ j u, [v][j]? = some u → (w.alloc (.cells #[v] t)).cell? ((⟨w.heap.size, 0, none⟩ : Addr).add j) = some u := by
  intro j u hu
  cases j with
  | zero => simpa [Addr.add_lit, World.cell?_alloc_new] using hu
  | succ j => simp at hu

set_option maxHeartbeats 4000000 in
set_option maxRecDepth 100000 in
theorem polyOne_any (a a' a'' : Option Addr) (l c l' c' l'' c'' : Nat) (f g p : Nat → Nat) (w : World) (h1 : Sl w a l c f) (h2 : Sl w a' l' c' g) (h3 : Sl w a'' l'' c'' p) :
    Calls Try.prog 6 #[.slice a l c, .slice a' l' c', .slice a'' l'' c''] w fun e w' => e = .returned (.bool true) ∧ Below w.heap.size w w' := by
  have H1 := Lib.hid h1; have H2 := Lib.hid h2; have H3 := Lib.hid h3; clear h1 h2 h3
  obtain ⟨i0, hi, hz0, hz1, hz2⟩ := info_parts Try.infoU8
  have HI := Lib.hid hi; have HZ0 := Lib.hid hz0; have HZ1 := Lib.hid hz1; have HZ2 := Lib.hid hz2
  clear hi hz0 hz1 hz2
  go_enter Try.func6, Try.ntmps6
  go_wp2_with fail
  refine (awake2_any _).mono ?_
  rintro e w1 ⟨rfl, hB⟩
  have HB1 := Lib.hid hB; clear hB
  by_cases f1 : 40 < l
  · have f1' : (40 : Int) < (l : Int) := by omega
    go_wp2
    go_ret
    exact ⟨rfl, HB1.out⟩
  by_cases f2 : 40 < l'
  · have f1' : ¬ (40 : Int) < (l : Int) := by omega
    have f2' : (40 : Int) < (l' : Int) := by omega
    go_wp2
    go_ret
    exact ⟨rfl, HB1.out⟩
  by_cases f3 : 40 < l''
  · have f1' : ¬ (40 : Int) < (l : Int) := by omega
    have f2' : ¬ (40 : Int) < (l' : Int) := by omega
    have f3' : (40 : Int) < (l'' : Int) := by omega
    go_wp2
    go_ret
    exact ⟨rfl, HB1.out⟩
  have f1' : ¬ (40 : Int) < (l : Int) := by omega
  have f2' : ¬ (40 : Int) < (l' : Int) := by omega
  have f3' : ¬ (40 : Int) < (l'' : Int) := by omega
  go_wp2_with fail
  refine (through_any a a' l c l' c' f g (by omega) (by omega) _ (H1.out.same HB1.out) (H2.out.same HB1.out)).mono ?_
  rintro e w2 hth
  have hB2 : Below w1.heap.size w1 w2 := by
    rcases hth with ⟨_, _, h⟩ | ⟨_, _, _, h⟩ | ⟨_, _, _, _, _, _, _, _, _, _, h⟩ <;> exact h
  have HB2 := Lib.hid (HB1.out.trans (hB2.mono HB1.out.size))
  have key : ∃ (pa : Option Addr) (n pc : Nat) (E : Int), e = .returned (.tuple #[.slice pa n pc, .int .i64 E]) ∧ (E ≠ 0 ∨ (E = 0 ∧ l = l' ∧ ∃ S N, Sl w2 pa n pc S ∧ Pf.Ln S n ∧ Pf.Newt f g l S N)) := by
    rcases hth with ⟨hne, rfl, _⟩ | ⟨he, hd, rfl, _⟩ | ⟨he, pa, n, pc, S, N, rfl, hN, hL, hNw, _⟩
    · exact ⟨none, 0, 0, 2, rfl, Or.inl (by decide)⟩
    · exact ⟨none, 0, 0, 9, rfl, Or.inl (by decide)⟩
    · exact ⟨pa, n, pc, 0, rfl, Or.inr ⟨rfl, he, S, N, hN.sl, hL, hNw⟩⟩
  clear hth hB2 HB1
  obtain ⟨pa, n, pc, E, rfl, hE⟩ := key
  have HE := Lib.hid hE; clear hE
  go_upto_if 40 with fail
  go_cut [7] (fun _ wx => Below w.heap.size w wx)
  case first =>
    rcases HE.out with hE | ⟨rfl, hll, S, N, hS, hL, hNw⟩
    · have gE : (E == 0) = false := by simp [hE]
      go_wp2
      go_meet
      exact HB2.out
    · have hn := hL.le hNw.su
      have HS := Lib.hid hS; have HL := Lib.hid hL; have HNw := Lib.hid hNw
      have HLL := Lib.hid hll
      clear hS hL hNw HE hll
      go_wp2_with fail
      go_loopw [9] (fun i wr => ∃ k : Nat, k ≤ l ∧ i = .int .i64 k ∧ Below w2.heap.size w2 wr) (fun i _ => l - (intOf i).toNat)
      case atStart => exact ⟨0, by omega, rfl, Below.refl _ _⟩
      case round =>
        obtain ⟨k, hk, rfl, hB⟩ := hrel
        by_cases hlt : k < l
        · have i1 : (k : Int) < (l : Int) := by omega
          obtain ⟨b1, o1, e1, c1⟩ := ((H1.out.same HB2.out).same hB).at_ hlt
          have i1' : (k : Int) < (l' : Int) := by have := HLL.out; omega
          obtain ⟨b2, o2, e2, c2⟩ := ((H2.out.same HB2.out).same hB).at_ (k := k) (by omega)
          have z1 := fun d os => cell_regrown c1 d os
          have z2 := fun d os => cell_regrown c2 d os
          have E1 := Lib.hid (show a = some ⟨b1, o1, none⟩ from e1)
          have E2 := Lib.hid (show a' = some ⟨b2, o2, none⟩ from e2)
          have HS1 := Lib.hid (HS.out.same hB)
          have HB := Lib.hid hB
          subst e1 e2
          clear hB c1 c2
          have d1 := H1.out.bytes k
          have hev : Pf.ev S (f k) n = g k := by rw [← HNw.out.at_ k hlt]; exact Pf.ev_any _ HNw.out.su HL.out.1
          have hpv : ∀ wx, Sl wx pa n pc S → Calls Try.prog 19 #[.slice pa n pc, .int .u8 (f k : Nat)] wx fun e w' => e = .returned (.int .u8 (g k : Nat)) ∧ Below wx.heap.size wx w' := fun wx hx => by
            have := pvalue_any pa n pc S (f k) d1 (by omega) wx hx
            rwa [hev] at this
          have HPV := Lib.hid hpv; clear hev hpv
          have g2 : (((g k : Nat) : Int) != ((g k : Nat) : Int)) = false := by simp
          go_wp2_with fail
          refine wp_region_quiet_below (by kernel_rfl) (by kernel_rfl) ?_
          repeat (go_big_quiet_step ((go_at_call 19; exact Calls.regrown_of (HPV.out _ (HS1.out.same (below_regrown _ _ _))))))
          refine wpQuiet_nil ?_
          rintro W1 ⟨pq, hW1⟩
          have hB1 : Below wr.heap.size wr W1 := by rw [hW1]; exact below_regrown _ _ _
          have HB1 := Lib.hid (HB.out.trans (hB1.mono HB.out.size))
          clear hW1 hB1 z1 z2
          go_wp2
          go_roundw
          case rel =>
            repeat apply Exists.intro
            exact ⟨⟨k + 1, by omega, by go_num, HB1.out⟩, rfl⟩
          case measure => simp [intOf]; omega
        · obtain rfl : k = l := by omega
          have HSk := Lib.hid (HS.out.same hB)
          have HB := Lib.hid (HB2.out.trans (hB.mono HB2.out.size)); clear hB hlt
          have hn' : (n : Int) ≤ (k : Int) := by omega
          go_wp2_with fail
          refine (leanb_any pa n pc S _ HSk.out HL.out (by omega)).mono ?_
          rintro e w4 ⟨rfl, q, rfl⟩
          go_wp2
          go_meet
          exact below_drewN HB.out q
  case rest =>
    have HB4 := Lib.hid hcut; clear hcut HB2 HE
    rename_i wc
    have hB0 := HB4.out.size
    go_wp2_with fail
    go_loopw [10, 11, 12, 13] (fun at_ to_ z x wr => ∃ (k j : Nat) (aa ta : Option Addr) (ca ct : Nat), k ≤ 256 ∧ x = .int .i64 (k : Nat) ∧ z = .int .i64 (Pf.cnt p l'' k : Nat) ∧ j = min k l'' ∧ at_ = .slice aa j ca ∧ to_ = .slice ta j ct ∧
      wr.ownsRow w.heap.size 5 1 (.slice aa j ca) j (rowv (Pf.idf l'') j) ∧ wr.ownsRow w.heap.size 5 1 (.slice ta j ct) j (rowv (Pf.vf p l'') j) ∧
      (∀ g, (Value.slice aa j ca).ownBlock = some g → (Value.slice ta j ct).ownBlock ≠ some g) ∧ Below w.heap.size w wr) (fun _ _ _ x _ => 256 - (intOf x).toNat)
    case atStart => exact ⟨0, 0, none, none, 0, 0, by omega, rfl, rfl, by omega, rfl, rfl, World.ownsRow_nil _ _ _ _, World.ownsRow_nil _ _ _ _, fun g h => (by cases h), HB4.out⟩
    case round =>
      obtain ⟨k, j, aa, ta, ca, ct, hk, rfl, rfl, hj, rfl, rfl, ho1, ho2, hne, hB⟩ := hrel
      have HO1 := Lib.hid ho1; have HO2 := Lib.hid ho2; have HNE := Lib.hid hne; have HB := Lib.hid hB; have HJ := Lib.hid hj
      have hcl := Pf.cnt_le p l'' k
      have hB1 := hB.size
      clear ho1 ho2 hne hB hj
      by_cases hlt : k < 256
      · have i1 : (k : Int) < 256 := by omega
        go_wp2_with fail
        refine (pvalue_any a'' l'' c'' p k hlt (by omega) _ (H3.out.same HB.out)).mono ?_
        rintro e w5 ⟨rfl, hB5⟩
        have HO15 := Lib.hid (own_below HO1.out hB5); have HO25 := Lib.hid (own_below HO2.out hB5); have HB5 := Lib.hid (HB.out.trans (hB5.mono hB1)); have hB15 := Nat.le_trans hB1 hB5.size
        clear hB5
        have hev := Pf.ev_lt (n := l'') H3.out.bytes hlt
        have hz : ∃ z', z' = Pf.cnt p l'' (k + 1) ∧ Pf.cnt p l'' k ≤ z' := ⟨_, rfl, by
          by_cases h : Pf.ev p k l'' = 0
          · rw [Pf.cnt_at h]; omega
          · rw [Pf.cnt_not h]; omega⟩
        go_upto_if 77 with fail
        go_cut [12] (fun z wx => z = .int .i64 (Pf.cnt p l'' (k + 1) : Nat) ∧ wx = w5)
        case first =>
          by_cases h : Pf.ev p k l'' = 0
          · have g1 : (((Pf.ev p k l'' : Nat) : Int) == 0) = true := by simp [h]
            have hc := Pf.cnt_at h
            go_wp2
            go_meet
            exact ⟨by rw [hc]; go_num, rfl⟩
          · have g1 : (((Pf.ev p k l'' : Nat) : Int) == 0) = false := by simp; omega
            have hc := Pf.cnt_not h
            go_wp2
            go_meet
            exact ⟨by rw [hc], rfl⟩
        case rest =>
          obtain ⟨rfl, rfl⟩ := hcut
          by_cases hkl : k < l''
          · obtain rfl : j = k := by rw [HJ.out]; omega
            have i2 : (j : Int) < (l'' : Int) := by omega
            go_upto_region 24 with (at_builtin; refine wpList_append_lies _ rfl _ _ 22 rfl w.heap.size 5 i0 (.int .u8 0) 1 1 Try.underlying22 HI.out HZ0.out HZ1.out HZ2.out rfl (by decide) (.slice aa j ca) j (rowv (Pf.idf l'') j) rfl (HO15.out.alloc _) _ 1 1 [.int .u8 (j : Nat)] rfl rfl (cell_new1 _ _ _) (one_single _ _) (by decide) (by unfold maxLen; omega) (by omega) (by simp; omega) _ rfl ?_; intro g1 cap1 w6 hown6 hgrow6 hat6 hlt6)
            have o1 := hown6
            rw [show [Value.int .u8 (j : Nat)] = [Value.int .u8 (Pf.idf l'' j : Nat)] by unfold Pf.idf; rw [if_pos hkl], ← rowv_succ] at o1
            have o2 := (HO25.out.alloc (.cells #[.int .u8 (j : Nat)] 5)).kept hgrow6 (by
              by_cases h : (Value.slice ta j ct).ownBlock = none
              · exact Or.inl h
              · right
                intro hh
                cases h2 : (Value.slice ta j ct).ownBlock with
                | none => exact h h2
                | some gg => exact HNE.out gg (by rw [← hh, h2]) h2)
            have lt2 := HO25.out.lt
            have hd6 : ∀ g, some g1 = some g → (Value.slice ta j ct).ownBlock ≠ some g := by
              rintro g h; cases h
              intro h2
              rcases hat6 with h3 | h3
              · exact HNE.out _ h3 h2
              · have := (lt2 _ h2).2
                rw [World.size_alloc] at h3
                omega
            have hB6 := (HB5.out.alloc hB15 (.cells #[.int .u8 (j : Nat)] 5)).grown hgrow6 (by simp; omega) (fun k hk => (HO15.out.lt k hk).1)
            have OA := Lib.hid o1; have OB := Lib.hid o2; have HD6 := Lib.hid hd6; have HB6 := Lib.hid hB6; have HL6 := Lib.hid hlt6
            have hs6 := hB6.size
            clear hown6 hgrow6 hat6 o1 o2 hd6 lt2 hB6 hlt6
            go_wp2_with (at_builtin; refine wpList_append_lies _ rfl _ _ 22 rfl w.heap.size 5 i0 (.int .u8 0) 1 1 Try.underlying22 HI.out HZ0.out HZ1.out HZ2.out rfl (by decide) (.slice ta j ct) j (rowv (Pf.vf p l'') j) rfl (OB.out.alloc _) _ 1 1 [.int .u8 (Pf.ev p j l'' : Nat)] rfl rfl (cell_new1 _ _ _) (one_single _ _) (by decide) (by unfold maxLen; omega) (by omega) (by simp; omega) _ rfl ?_; intro g2 cap2 w7 hown7 hgrow7 hat7 hlt7; have HOWN7 := Lib.hid hown7; have HGROW7 := Lib.hid hgrow7; have HAT7 := Lib.hid hat7; have HLT7 := Lib.hid hlt7; clear hown7 hgrow7 hat7 hlt7)
            have o1 := HOWN7.out
            rw [show [Value.int .u8 (Pf.ev p j l'' : Nat)] = [Value.int .u8 (Pf.vf p l'' j : Nat)] by unfold Pf.vf; rw [if_pos hkl], ← rowv_succ] at o1
            have o2 := (OA.out.alloc (.cells #[.int .u8 (Pf.ev p j l'' : Nat)] 5)).kept HGROW7.out (Or.inr (fun h => HD6.out g1 rfl h.symm))
            have hd7 : ∀ g, some g1 = some g → some g2 ≠ some g := by
              rintro g h; cases h
              intro h2; cases h2
              rcases HAT7.out with h3 | h3
              · exact HD6.out _ rfl h3
              · rw [World.size_alloc] at h3
                have := HL6.out
                omega
            have hB7 := (HB6.out.alloc hs6 (.cells #[.int .u8 (Pf.ev p j l'' : Nat)] 5)).grown HGROW7.out (by simp; omega) (fun k hk => (OB.out.lt k hk).1)
            have OA7 := Lib.hid o2; have OB7 := Lib.hid o1; have HD7 := Lib.hid hd7; have HB7 := Lib.hid hB7
            clear o1 o2 hd7 hB7 HOWN7 HGROW7 HAT7 HLT7
            go_wp2
            go_roundw
            case rel => exact ⟨j + 1, j + 1, _, _, cap1, cap2, by omega, by go_num, rfl, by omega, rfl, rfl, OA7.out, OB7.out, HD7.out, HB7.out⟩
            case measure => simp [intOf]; omega
          · have i2 : ¬ (j : Int) < (l'' : Int) := by rw [HJ.out]; omega
            go_wp2
            go_roundw
            case rel => exact ⟨k + 1, j, aa, ta, ca, ct, by omega, by go_num, rfl, by rw [HJ.out]; omega, rfl, rfl, HO15.out, HO25.out, HNE.out, HB5.out⟩
            case measure => simp [intOf]; omega
      · obtain rfl : k = 256 := by omega
        obtain rfl : j = l'' := by rw [HJ.out]; omega
        have hs1 : ∃ aa ca, Value.slice aa j ca = Value.slice aa j ca := ⟨none, 0, rfl⟩
        obtain ⟨_, _, e1, N1⟩ := owns_new HO1.out (Pf.idf_by (by omega)) (Pf.idf_up j)
        obtain ⟨_, _, e2, N2⟩ := owns_new HO2.out (Pf.vf_by H3.out.bytes (by omega)) (Pf.vf_up p j)
        simp only [Value.slice.injEq, true_and] at e1 e2
        obtain ⟨rfl, rfl⟩ := e1
        obtain ⟨rfl, rfl⟩ := e2
        have S1 := Lib.hid N1.sl; have S2 := Lib.hid N2.sl
        clear N1 N2 hs1 HO1 HO2 HNE
        go_wp2_with fail
        refine (lean_any a'' j c'' p (by omega) _ (H3.out.same HB.out)).mono ?_
        rintro e w8 ⟨a8, c8, rfl, hN8, hB8⟩
        have HN8 := Lib.hid hN8.sl; have S18 := Lib.hid (S1.out.same hB8); have S28 := Lib.hid (S2.out.same hB8); have HB8 := Lib.hid (HB.out.trans (hB8.mono hB1)); clear hB8 hN8
        go_wp2_with fail
        refine (through_any aa ta j ca j ct (Pf.idf j) (Pf.vf p j) (by omega) (by omega) _ S18.out S28.out).mono ?_
        rintro e w9 (⟨h, _⟩ | ⟨_, ⟨x, y, hxy, hy, he⟩, _⟩ | ⟨_, a9, n9, c9, S, N, rfl, hN9, hL9, hNw, hB9⟩)
        · exact absurd rfl h
        · exfalso
          unfold Pf.idf at he
          rw [if_pos (by omega), if_pos hy] at he
          omega
        have hSp := Pf.through_back H3.out.bytes H3.out.up (by omega) hNw
        subst hSp
        obtain rfl := (Pf.ln_Ln j H3.out.up).uniq hL9
        have HN9 := Lib.hid hN9.sl; have HN89 := Lib.hid (HN8.out.same hB9); have HB9 := Lib.hid (HB8.out.trans (hB9.mono HB8.out.size))
        have hln := Pf.ln_le S j
        clear hN9 hB9 hL9 hNw
        go_wp2_with fail
        refine (same_any a9 a8 (Pf.ln S j) c9 c8 S (by omega) _ HN9.out HN89.out).mono ?_
        rintro e w10 ⟨rfl, q, rfl⟩
        by_cases h0 : Pf.ln S j = 0
        · have g0 : (((Pf.ln S j : Nat) : Int) == 0) = true := by simp [h0]
          go_wp2
          go_ret
          exact ⟨rfl, below_drewN HB9.out q⟩
        · have g0 : (((Pf.ln S j : Nat) : Int) == 0) = false := by simp; omega
          have hz := Pf.cnt_zeros H3.out.bytes H3.out.up h0
          have g1 : ((Pf.cnt S j 256 : Nat) : Int) ≤ ((Pf.ln S j : Nat) : Int) - 1 := by omega
          go_wp2
          go_ret
          exact ⟨rfl, below_drewN HB9.out q⟩
end Go.Proofs.Ytmabdfcabpnabaa
