import Derived.Test.YtdempjkkahjekaaG2
namespace Go.Proofs.Ytdempjkkahjekaa
open Go.RowKit Go.Shelf

/-- the columns as rows, so far as rows were gone through: k whole ones, and m bytes of the next. -/
def trk (f : Nat → Nat → Nat) (k m i j : Nat) : Nat := if j < k ∨ (j = k ∧ i < m) then f j i else 0
theorem trk_bm {f : Nat → Nat → Nat} (h : Mt.Bm f) (k m : Nat) : Mt.Bm (trk f k m) := fun i j => by
  unfold trk; split
  · exact h j i
  · omega
theorem trk_s (f : Nat → Nat → Nat) (k m i j : Nat) : (if i = m then (if j = k then f k m else trk f k m m j) else trk f k m i j) = trk f k (m + 1) i j := by
  unfold trk
  by_cases e : i = m
  · subst e
    rw [if_pos rfl]
    by_cases c : j = k
    · subst c; rw [if_pos rfl, if_pos (Or.inr ⟨rfl, by omega⟩)]
    · rw [if_neg c]
      by_cases d : j < k
      · rw [if_pos (Or.inl d), if_pos (Or.inl d)]
      · rw [if_neg (by omega), if_neg (by omega)]
  · rw [if_neg e]
    by_cases d : j < k ∨ (j = k ∧ i < m)
    · rw [if_pos d, if_pos (by omega)]
    · rw [if_neg d, if_neg (by omega)]
theorem trk_end (f : Nat → Nat → Nat) (k m i j : Nat) (h : i < m) : trk f k m i j = trk f (k + 1) 0 i j := by
  unfold trk
  by_cases d : j < k ∨ (j = k ∧ i < m)
  · rw [if_pos d, if_pos (by omega)]
  · rw [if_neg d, if_neg (by omega)]

set_option maxHeartbeats 1000000 in
set_option maxRecDepth 100000 in
theorem unit_any (n : Nat) (hn : n ≤ 1000000) (w : World) :
    Calls Try.prog 37 #[.int .i64 (n : Nat)] w (Makes w n n (cutf Mt.dl n 0 n)) := by
  have hfb := cutf_bm Mt.dl_lt n 0 n
  have HFB := Lib.hid hfb; clear hfb
  have HS := Lib.hid (show ∀ k, k < n → ∀ i j, (if i = k then (if j = k then 1 else firstR k (cutf Mt.dl n 0 n) k j) else firstR k (cutf Mt.dl n 0 n) i j) = firstR (k + 1) (cutf Mt.dl n 0 n) i j from fun k hk i j => by
    rw [← firstR_s k]
    by_cases e : i = k
    · rw [if_pos e, if_pos e]
      by_cases c : j = k
      · subst c
        rw [if_pos rfl]
        unfold cutf sub
        rw [if_pos hk, if_pos hk, Nat.zero_add, Mt.dl_same]
      · rw [if_neg c]
        unfold firstR cutf sub
        rw [if_neg (by omega), if_pos hk]
        split
        · rw [Nat.zero_add, Mt.dl_ne (fun h => c h.symm)]
        · rfl
    · rw [if_neg e, if_neg e])
  go_enter Try.func37, Try.ntmps37
  go_wp2_with fail
  refine (blank_any n n (by omega) (by omega) _).mono ?_
  rintro e w1 ⟨G, b, rfl, hG, hB⟩
  have hst : Gr w1 w.heap.size G n n b (fun _ => n) (fun _ => n) (firstR 0 (cutf Mt.dl n 0 n)) := hG.congr (firstR_bm HFB.out 0) (fun _ _ _ => rfl)
  have HST := Lib.hid hst; have HB := Lib.hid hB; clear hG hB hst
  go_wp2_with fail
  go_loopw [11] (fun i wr => ∃ k : Nat, k ≤ n ∧ i = .int .i64 k ∧ Gr wr w.heap.size G n n b (fun _ => n) (fun _ => n) (firstR k (cutf Mt.dl n 0 n)) ∧ Below w.heap.size w wr) (fun i _ => n - (intOf i).toNat)
  case atStart => exact ⟨0, by omega, rfl, HST.out, HB.out⟩
  case round =>
    rename_i wr
    obtain ⟨k, hk, rfl, hGr, hBe⟩ := hrel
    have HGr := Lib.hid hGr; have HBe := Lib.hid hBe
    clear hGr hBe
    by_cases hkn : k < n
    · have i1 : (k : Int) < (n : Int) := by omega
      have hcb := HGr.out.cell hkn
      have hcc := (HGr.out.row k hkn).cell hkn
      have hfr := (HGr.out.row k hkn).free k
      go_wp2_with fail
      go_roundw
      case rel => exact ⟨k + 1, by omega, by go_num, (HGr.out.set (v := 1) hkn hkn (by omega)).congr (firstR_bm HFB.out (k + 1)) (fun i j _ => HS.out k hkn i j), HBe.out.setCell (p := ⟨b k, k, none⟩) (HGr.out.lo.2 k hkn) _⟩
      case measure => simp [intOf]; omega
    · obtain rfl : k = n := by omega
      go_wp2
      go_ret
      exact ⟨G, b, rfl, HGr.out.congr HFB.out (fun i j hi => if_pos hi), HBe.out⟩
end Go.Proofs.Ytdempjkkahjekaa
