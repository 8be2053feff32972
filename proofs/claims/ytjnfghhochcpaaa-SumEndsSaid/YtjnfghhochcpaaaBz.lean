import Derived.Test.YtjnfghhochcpaaaK2
namespace Go.Proofs.Ytjnfghhochcpaaa
open Go.RowKit Go.Shelf

set_option maxHeartbeats 4000000 in
set_option maxRecDepth 100000 in
theorem flat0_limbs (w : World) :
    Calls Try.prog 36 #[.slice none 0 0] w fun e w' => e = .returned (.bool true) ∧ Below w.heap.size w w' := by
  obtain ⟨i1, hi', hz0', hz1', hz2'⟩ := info_parts (P := Try.prog) (e := 80) (z := .slice none 0 0) (size := 1) (bytes := 24) (by kernel_rfl)
  have HI' := Lib.hid hi'; have HZ0' := Lib.hid hz0'; have HZ1' := Lib.hid hz1'; have HZ2' := Lib.hid hz2'
  clear hi' hz0' hz1' hz2'
  go_enter Try.func36, Try.ntmps36
  go_wp2_with fail
  go_loopw [3] (fun k wr => k = .int .i64 0 ∧ wr = w) (fun _ _ => 0)
  case atStart => exact ⟨rfl, rfl⟩
  case round =>
    obtain ⟨rfl, hw⟩ := hrel
    obtain rfl : w = wr := hw.symm
    go_wp2_with (at_make; refine wpList_make_full _ rfl _ _ _ rfl w.heap.size 80 i1 (.slice none 0 0) 1 (by kernel_rfl) HI'.out HZ0'.out HZ1'.out .i64 .i64 _ _ 0 rfl rfl rfl rfl (by omega) (by unfold maxLen; omega) (Nat.le_refl _) ?_; intro w3 hown hgrow; have HB := Lib.hid ((Below.refl w.heap.size w).grown hgrow (Nat.le_refl _) (fun x hx => by cases hx)); clear hown hgrow)
    go_loopw [6] (fun k wx => k = .int .i64 0 ∧ Below w.heap.size w wx) (fun _ _ => 0)
    case atStart => exact ⟨rfl, HB.out⟩
    case round =>
      obtain ⟨rfl, hB⟩ := hrel
      have HB := Lib.hid hB; clear hB
      go_wp2_with fail
      go_loopw [9] (fun k wx => k = .int .i64 0 ∧ Below w.heap.size w wx) (fun _ _ => 0)
      case atStart => exact ⟨rfl, HB.out⟩
      case round =>
        obtain ⟨rfl, hB⟩ := hrel
        have HB := Lib.hid hB; clear hB
        go_wp2_with fail
        go_loopw [11] (fun k wx => k = .int .i64 0 ∧ Below w.heap.size w wx) (fun _ _ => 0)
        case atStart => exact ⟨rfl, HB.out⟩
        case round =>
          obtain ⟨rfl, hB⟩ := hrel
          have HB := Lib.hid hB; clear hB
          go_wp2_with fail
          go_loopw [14] (fun k wx => k = .int .i64 0 ∧ Below w.heap.size w wx) (fun _ _ => 0)
          case atStart => exact ⟨rfl, HB.out⟩
          case round =>
            obtain ⟨rfl, hB⟩ := hrel
            have HB := Lib.hid hB; clear hB
            go_wp2
            go_ret
            exact ⟨rfl, HB.out⟩

set_option maxHeartbeats 4000000 in
set_option maxRecDepth 100000 in
theorem flat0_words (w : World) :
    Calls Try.prog 37 #[.slice none 0 0] w fun e w' => e = .returned (.bool true) ∧ Below w.heap.size w w' := by
  obtain ⟨i1, hi', hz0', hz1', hz2'⟩ := info_parts (P := Try.prog) (e := 81) (z := .slice none 0 0) (size := 1) (bytes := 24) (by kernel_rfl)
  have HI' := Lib.hid hi'; have HZ0' := Lib.hid hz0'; have HZ1' := Lib.hid hz1'; have HZ2' := Lib.hid hz2'
  clear hi' hz0' hz1' hz2'
  go_enter Try.func37, Try.ntmps37
  go_wp2_with fail
  go_loopw [3] (fun k wr => k = .int .i64 0 ∧ wr = w) (fun _ _ => 0)
  case atStart => exact ⟨rfl, rfl⟩
  case round =>
    obtain ⟨rfl, hw⟩ := hrel
    obtain rfl : w = wr := hw.symm
    go_wp2_with (at_make; refine wpList_make_full _ rfl _ _ _ rfl w.heap.size 81 i1 (.slice none 0 0) 1 (by kernel_rfl) HI'.out HZ0'.out HZ1'.out .i64 .i64 _ _ 0 rfl rfl rfl rfl (by omega) (by unfold maxLen; omega) (Nat.le_refl _) ?_; intro w3 hown hgrow; have HB := Lib.hid ((Below.refl w.heap.size w).grown hgrow (Nat.le_refl _) (fun x hx => by cases hx)); clear hown hgrow)
    go_loopw [6] (fun k wx => k = .int .i64 0 ∧ Below w.heap.size w wx) (fun _ _ => 0)
    case atStart => exact ⟨rfl, HB.out⟩
    case round =>
      obtain ⟨rfl, hB⟩ := hrel
      have HB := Lib.hid hB; clear hB
      go_wp2_with fail
      go_loopw [9] (fun k wx => k = .int .i64 0 ∧ Below w.heap.size w wx) (fun _ _ => 0)
      case atStart => exact ⟨rfl, HB.out⟩
      case round =>
        obtain ⟨rfl, hB⟩ := hrel
        have HB := Lib.hid hB; clear hB
        go_wp2_with fail
        go_loopw [11] (fun k wx => k = .int .i64 0 ∧ Below w.heap.size w wx) (fun _ _ => 0)
        case atStart => exact ⟨rfl, HB.out⟩
        case round =>
          obtain ⟨rfl, hB⟩ := hrel
          have HB := Lib.hid hB; clear hB
          go_wp2_with fail
          go_loopw [14] (fun k wx => k = .int .i64 0 ∧ Below w.heap.size w wx) (fun _ _ => 0)
          case atStart => exact ⟨rfl, HB.out⟩
          case round =>
            obtain ⟨rfl, hB⟩ := hrel
            have HB := Lib.hid hB; clear hB
            go_wp2
            go_ret
            exact ⟨rfl, HB.out⟩

set_option maxHeartbeats 4000000 in
set_option maxRecDepth 100000 in
theorem flat0_ints (w : World) :
    Calls Try.prog 38 #[.slice none 0 0] w fun e w' => e = .returned (.bool true) ∧ Below w.heap.size w w' := by
  obtain ⟨i1, hi', hz0', hz1', hz2'⟩ := info_parts (P := Try.prog) (e := 82) (z := .slice none 0 0) (size := 1) (bytes := 24) (by kernel_rfl)
  have HI' := Lib.hid hi'; have HZ0' := Lib.hid hz0'; have HZ1' := Lib.hid hz1'; have HZ2' := Lib.hid hz2'
  clear hi' hz0' hz1' hz2'
  go_enter Try.func38, Try.ntmps38
  go_wp2_with fail
  go_loopw [3] (fun k wr => k = .int .i64 0 ∧ wr = w) (fun _ _ => 0)
  case atStart => exact ⟨rfl, rfl⟩
  case round =>
    obtain ⟨rfl, hw⟩ := hrel
    obtain rfl : w = wr := hw.symm
    go_wp2_with (at_make; refine wpList_make_full _ rfl _ _ _ rfl w.heap.size 82 i1 (.slice none 0 0) 1 (by kernel_rfl) HI'.out HZ0'.out HZ1'.out .i64 .i64 _ _ 0 rfl rfl rfl rfl (by omega) (by unfold maxLen; omega) (Nat.le_refl _) ?_; intro w3 hown hgrow; have HB := Lib.hid ((Below.refl w.heap.size w).grown hgrow (Nat.le_refl _) (fun x hx => by cases hx)); clear hown hgrow)
    go_loopw [6] (fun k wx => k = .int .i64 0 ∧ Below w.heap.size w wx) (fun _ _ => 0)
    case atStart => exact ⟨rfl, HB.out⟩
    case round =>
      obtain ⟨rfl, hB⟩ := hrel
      have HB := Lib.hid hB; clear hB
      go_wp2_with fail
      go_loopw [9] (fun k wx => k = .int .i64 0 ∧ Below w.heap.size w wx) (fun _ _ => 0)
      case atStart => exact ⟨rfl, HB.out⟩
      case round =>
        obtain ⟨rfl, hB⟩ := hrel
        have HB := Lib.hid hB; clear hB
        go_wp2_with fail
        go_loopw [11] (fun k wx => k = .int .i64 0 ∧ Below w.heap.size w wx) (fun _ _ => 0)
        case atStart => exact ⟨rfl, HB.out⟩
        case round =>
          obtain ⟨rfl, hB⟩ := hrel
          have HB := Lib.hid hB; clear hB
          go_wp2_with fail
          go_loopw [14] (fun k wx => k = .int .i64 0 ∧ Below w.heap.size w wx) (fun _ _ => 0)
          case atStart => exact ⟨rfl, HB.out⟩
          case round =>
            obtain ⟨rfl, hB⟩ := hrel
            have HB := Lib.hid hB; clear hB
            go_wp2
            go_ret
            exact ⟨rfl, HB.out⟩

set_option maxHeartbeats 4000000 in
set_option maxRecDepth 100000 in
theorem flat0_longs (w : World) :
    Calls Try.prog 39 #[.slice none 0 0] w fun e w' => e = .returned (.bool true) ∧ Below w.heap.size w w' := by
  obtain ⟨i1, hi', hz0', hz1', hz2'⟩ := info_parts (P := Try.prog) (e := 83) (z := .slice none 0 0) (size := 1) (bytes := 24) (by kernel_rfl)
  have HI' := Lib.hid hi'; have HZ0' := Lib.hid hz0'; have HZ1' := Lib.hid hz1'; have HZ2' := Lib.hid hz2'
  clear hi' hz0' hz1' hz2'
  go_enter Try.func39, Try.ntmps39
  go_wp2_with fail
  go_loopw [3] (fun k wr => k = .int .i64 0 ∧ wr = w) (fun _ _ => 0)
  case atStart => exact ⟨rfl, rfl⟩
  case round =>
    obtain ⟨rfl, hw⟩ := hrel
    obtain rfl : w = wr := hw.symm
    go_wp2_with (at_make; refine wpList_make_full _ rfl _ _ _ rfl w.heap.size 83 i1 (.slice none 0 0) 1 (by kernel_rfl) HI'.out HZ0'.out HZ1'.out .i64 .i64 _ _ 0 rfl rfl rfl rfl (by omega) (by unfold maxLen; omega) (Nat.le_refl _) ?_; intro w3 hown hgrow; have HB := Lib.hid ((Below.refl w.heap.size w).grown hgrow (Nat.le_refl _) (fun x hx => by cases hx)); clear hown hgrow)
    go_loopw [6] (fun k wx => k = .int .i64 0 ∧ Below w.heap.size w wx) (fun _ _ => 0)
    case atStart => exact ⟨rfl, HB.out⟩
    case round =>
      obtain ⟨rfl, hB⟩ := hrel
      have HB := Lib.hid hB; clear hB
      go_wp2_with fail
      go_loopw [9] (fun k wx => k = .int .i64 0 ∧ Below w.heap.size w wx) (fun _ _ => 0)
      case atStart => exact ⟨rfl, HB.out⟩
      case round =>
        obtain ⟨rfl, hB⟩ := hrel
        have HB := Lib.hid hB; clear hB
        go_wp2_with fail
        go_loopw [11] (fun k wx => k = .int .i64 0 ∧ Below w.heap.size w wx) (fun _ _ => 0)
        case atStart => exact ⟨rfl, HB.out⟩
        case round =>
          obtain ⟨rfl, hB⟩ := hrel
          have HB := Lib.hid hB; clear hB
          go_wp2_with fail
          go_loopw [14] (fun k wx => k = .int .i64 0 ∧ Below w.heap.size w wx) (fun _ _ => 0)
          case atStart => exact ⟨rfl, HB.out⟩
          case round =>
            obtain ⟨rfl, hB⟩ := hrel
            have HB := Lib.hid hB; clear hB
            go_wp2
            go_ret
            exact ⟨rfl, HB.out⟩

set_option maxHeartbeats 4000000 in
set_option maxRecDepth 100000 in
theorem flat0_texts (w : World) :
    Calls Try.prog 40 #[.slice none 0 0] w fun e w' => e = .returned (.bool true) ∧ Below w.heap.size w w' := by
  obtain ⟨i1, hi', hz0', hz1', hz2'⟩ := info_parts (P := Try.prog) (e := 84) (z := .slice none 0 0) (size := 1) (bytes := 24) (by kernel_rfl)
  have HI' := Lib.hid hi'; have HZ0' := Lib.hid hz0'; have HZ1' := Lib.hid hz1'; have HZ2' := Lib.hid hz2'
  clear hi' hz0' hz1' hz2'
  go_enter Try.func40, Try.ntmps40
  go_wp2_with fail
  go_loopw [3] (fun k wr => k = .int .i64 0 ∧ wr = w) (fun _ _ => 0)
  case atStart => exact ⟨rfl, rfl⟩
  case round =>
    obtain ⟨rfl, hw⟩ := hrel
    obtain rfl : w = wr := hw.symm
    go_wp2_with (at_make; refine wpList_make_full _ rfl _ _ _ rfl w.heap.size 84 i1 (.slice none 0 0) 1 (by kernel_rfl) HI'.out HZ0'.out HZ1'.out .i64 .i64 _ _ 0 rfl rfl rfl rfl (by omega) (by unfold maxLen; omega) (Nat.le_refl _) ?_; intro w3 hown hgrow; have HB := Lib.hid ((Below.refl w.heap.size w).grown hgrow (Nat.le_refl _) (fun x hx => by cases hx)); clear hown hgrow)
    go_loopw [6] (fun k wx => k = .int .i64 0 ∧ Below w.heap.size w wx) (fun _ _ => 0)
    case atStart => exact ⟨rfl, HB.out⟩
    case round =>
      obtain ⟨rfl, hB⟩ := hrel
      have HB := Lib.hid hB; clear hB
      go_wp2_with fail
      go_loopw [9] (fun k wx => k = .int .i64 0 ∧ Below w.heap.size w wx) (fun _ _ => 0)
      case atStart => exact ⟨rfl, HB.out⟩
      case round =>
        obtain ⟨rfl, hB⟩ := hrel
        have HB := Lib.hid hB; clear hB
        go_wp2_with fail
        go_loopw [11] (fun k wx => k = .int .i64 0 ∧ Below w.heap.size w wx) (fun _ _ => 0)
        case atStart => exact ⟨rfl, HB.out⟩
        case round =>
          obtain ⟨rfl, hB⟩ := hrel
          have HB := Lib.hid hB; clear hB
          go_wp2_with fail
          go_loopw [14] (fun k wx => k = .int .i64 0 ∧ Below w.heap.size w wx) (fun _ _ => 0)
          case atStart => exact ⟨rfl, HB.out⟩
          case round =>
            obtain ⟨rfl, hB⟩ := hrel
            have HB := Lib.hid hB; clear hB
            go_wp2
            go_ret
            exact ⟨rfl, HB.out⟩

set_option maxHeartbeats 4000000 in
set_option maxRecDepth 100000 in
theorem flat0_truths (w : World) :
    Calls Try.prog 42 #[.slice none 0 0] w fun e w' => e = .returned (.bool true) ∧ Below w.heap.size w w' := by
  obtain ⟨i1, hi', hz0', hz1', hz2'⟩ := info_parts (P := Try.prog) (e := 86) (z := .slice none 0 0) (size := 1) (bytes := 24) (by kernel_rfl)
  have HI' := Lib.hid hi'; have HZ0' := Lib.hid hz0'; have HZ1' := Lib.hid hz1'; have HZ2' := Lib.hid hz2'
  clear hi' hz0' hz1' hz2'
  go_enter Try.func42, Try.ntmps42
  go_wp2_with fail
  go_loopw [3] (fun k wr => k = .int .i64 0 ∧ wr = w) (fun _ _ => 0)
  case atStart => exact ⟨rfl, rfl⟩
  case round =>
    obtain ⟨rfl, hw⟩ := hrel
    obtain rfl : w = wr := hw.symm
    go_wp2_with (at_make; refine wpList_make_full _ rfl _ _ _ rfl w.heap.size 86 i1 (.slice none 0 0) 1 (by kernel_rfl) HI'.out HZ0'.out HZ1'.out .i64 .i64 _ _ 0 rfl rfl rfl rfl (by omega) (by unfold maxLen; omega) (Nat.le_refl _) ?_; intro w3 hown hgrow; have HB := Lib.hid ((Below.refl w.heap.size w).grown hgrow (Nat.le_refl _) (fun x hx => by cases hx)); clear hown hgrow)
    go_loopw [6] (fun k wx => k = .int .i64 0 ∧ Below w.heap.size w wx) (fun _ _ => 0)
    case atStart => exact ⟨rfl, HB.out⟩
    case round =>
      obtain ⟨rfl, hB⟩ := hrel
      have HB := Lib.hid hB; clear hB
      go_wp2_with fail
      go_loopw [9] (fun k wx => k = .int .i64 0 ∧ Below w.heap.size w wx) (fun _ _ => 0)
      case atStart => exact ⟨rfl, HB.out⟩
      case round =>
        obtain ⟨rfl, hB⟩ := hrel
        have HB := Lib.hid hB; clear hB
        go_wp2_with fail
        go_loopw [11] (fun k wx => k = .int .i64 0 ∧ Below w.heap.size w wx) (fun _ _ => 0)
        case atStart => exact ⟨rfl, HB.out⟩
        case round =>
          obtain ⟨rfl, hB⟩ := hrel
          have HB := Lib.hid hB; clear hB
          go_wp2_with fail
          go_loopw [14] (fun k wx => k = .int .i64 0 ∧ Below w.heap.size w wx) (fun _ _ => 0)
          case atStart => exact ⟨rfl, HB.out⟩
          case round =>
            obtain ⟨rfl, hB⟩ := hrel
            have HB := Lib.hid hB; clear hB
            go_wp2
            go_ret
            exact ⟨rfl, HB.out⟩

set_option maxHeartbeats 4000000 in
set_option maxRecDepth 100000 in
theorem flat0_layers (w : World) :
    Calls Try.prog 43 #[.slice none 0 0] w fun e w' => e = .returned (.bool true) ∧ Below w.heap.size w w' := by
  obtain ⟨i1, hi', hz0', hz1', hz2'⟩ := info_parts (P := Try.prog) (e := 87) (z := .slice none 0 0) (size := 1) (bytes := 24) (by kernel_rfl)
  have HI' := Lib.hid hi'; have HZ0' := Lib.hid hz0'; have HZ1' := Lib.hid hz1'; have HZ2' := Lib.hid hz2'
  clear hi' hz0' hz1' hz2'
  go_enter Try.func43, Try.ntmps43
  go_wp2_with fail
  go_loopw [3] (fun k wr => k = .int .i64 0 ∧ wr = w) (fun _ _ => 0)
  case atStart => exact ⟨rfl, rfl⟩
  case round =>
    obtain ⟨rfl, hw⟩ := hrel
    obtain rfl : w = wr := hw.symm
    go_wp2_with (at_make; refine wpList_make_full _ rfl _ _ _ rfl w.heap.size 87 i1 (.slice none 0 0) 1 (by kernel_rfl) HI'.out HZ0'.out HZ1'.out .i64 .i64 _ _ 0 rfl rfl rfl rfl (by omega) (by unfold maxLen; omega) (Nat.le_refl _) ?_; intro w3 hown hgrow; have HB := Lib.hid ((Below.refl w.heap.size w).grown hgrow (Nat.le_refl _) (fun x hx => by cases hx)); clear hown hgrow)
    go_loopw [6] (fun k wx => k = .int .i64 0 ∧ Below w.heap.size w wx) (fun _ _ => 0)
    case atStart => exact ⟨rfl, HB.out⟩
    case round =>
      obtain ⟨rfl, hB⟩ := hrel
      have HB := Lib.hid hB; clear hB
      go_wp2_with fail
      go_loopw [9] (fun k wx => k = .int .i64 0 ∧ Below w.heap.size w wx) (fun _ _ => 0)
      case atStart => exact ⟨rfl, HB.out⟩
      case round =>
        obtain ⟨rfl, hB⟩ := hrel
        have HB := Lib.hid hB; clear hB
        go_wp2_with fail
        go_loopw [11] (fun k wx => k = .int .i64 0 ∧ Below w.heap.size w wx) (fun _ _ => 0)
        case atStart => exact ⟨rfl, HB.out⟩
        case round =>
          obtain ⟨rfl, hB⟩ := hrel
          have HB := Lib.hid hB; clear hB
          go_wp2_with fail
          go_loopw [14] (fun k wx => k = .int .i64 0 ∧ Below w.heap.size w wx) (fun _ _ => 0)
          case atStart => exact ⟨rfl, HB.out⟩
          case round =>
            obtain ⟨rfl, hB⟩ := hrel
            have HB := Lib.hid hB; clear hB
            go_wp2
            go_ret
            exact ⟨rfl, HB.out⟩

set_option maxHeartbeats 4000000 in
set_option maxRecDepth 100000 in
theorem flat0_table (w : World) :
    Calls Try.prog 44 #[.slice none 0 0] w fun e w' => e = .returned (.bool true) ∧ Below w.heap.size w w' := by
  obtain ⟨i1, hi', hz0', hz1', hz2'⟩ := info_parts (P := Try.prog) (e := 92) (z := .slice none 0 0) (size := 1) (bytes := 24) (by kernel_rfl)
  have HI' := Lib.hid hi'; have HZ0' := Lib.hid hz0'; have HZ1' := Lib.hid hz1'; have HZ2' := Lib.hid hz2'
  clear hi' hz0' hz1' hz2'
  go_enter Try.func44, Try.ntmps44
  go_wp2_with fail
  go_loopw [3] (fun k wr => k = .int .i64 0 ∧ wr = w) (fun _ _ => 0)
  case atStart => exact ⟨rfl, rfl⟩
  case round =>
    obtain ⟨rfl, hw⟩ := hrel
    obtain rfl : w = wr := hw.symm
    go_wp2_with (at_make; refine wpList_make_full _ rfl _ _ _ rfl w.heap.size 92 i1 (.slice none 0 0) 1 (by kernel_rfl) HI'.out HZ0'.out HZ1'.out .i64 .i64 _ _ 0 rfl rfl rfl rfl (by omega) (by unfold maxLen; omega) (Nat.le_refl _) ?_; intro w3 hown hgrow; have HB := Lib.hid ((Below.refl w.heap.size w).grown hgrow (Nat.le_refl _) (fun x hx => by cases hx)); clear hown hgrow)
    go_loopw [6] (fun k wx => k = .int .i64 0 ∧ Below w.heap.size w wx) (fun _ _ => 0)
    case atStart => exact ⟨rfl, HB.out⟩
    case round =>
      obtain ⟨rfl, hB⟩ := hrel
      have HB := Lib.hid hB; clear hB
      go_wp2_with fail
      go_loopw [9] (fun k wx => k = .int .i64 0 ∧ Below w.heap.size w wx) (fun _ _ => 0)
      case atStart => exact ⟨rfl, HB.out⟩
      case round =>
        obtain ⟨rfl, hB⟩ := hrel
        have HB := Lib.hid hB; clear hB
        go_wp2_with fail
        go_loopw [11] (fun k wx => k = .int .i64 0 ∧ Below w.heap.size w wx) (fun _ _ => 0)
        case atStart => exact ⟨rfl, HB.out⟩
        case round =>
          obtain ⟨rfl, hB⟩ := hrel
          have HB := Lib.hid hB; clear hB
          go_wp2_with fail
          go_loopw [14] (fun k wx => k = .int .i64 0 ∧ Below w.heap.size w wx) (fun _ _ => 0)
          case atStart => exact ⟨rfl, HB.out⟩
          case round =>
            obtain ⟨rfl, hB⟩ := hrel
            have HB := Lib.hid hB; clear hB
            go_wp2
            go_ret
            exact ⟨rfl, HB.out⟩

set_option maxHeartbeats 4000000 in
set_option maxRecDepth 100000 in
theorem flat0_heads (w : World) :
    Calls Try.prog 45 #[.slice none 0 0] w fun e w' => e = .returned (.bool true) ∧ Below w.heap.size w w' := by
  obtain ⟨i1, hi', hz0', hz1', hz2'⟩ := info_parts (P := Try.prog) (e := 96) (z := .slice none 0 0) (size := 1) (bytes := 24) (by kernel_rfl)
  have HI' := Lib.hid hi'; have HZ0' := Lib.hid hz0'; have HZ1' := Lib.hid hz1'; have HZ2' := Lib.hid hz2'
  clear hi' hz0' hz1' hz2'
  go_enter Try.func45, Try.ntmps45
  go_wp2_with fail
  go_loopw [3] (fun k wr => k = .int .i64 0 ∧ wr = w) (fun _ _ => 0)
  case atStart => exact ⟨rfl, rfl⟩
  case round =>
    obtain ⟨rfl, hw⟩ := hrel
    obtain rfl : w = wr := hw.symm
    go_wp2_with (at_make; refine wpList_make_full _ rfl _ _ _ rfl w.heap.size 96 i1 (.slice none 0 0) 1 (by kernel_rfl) HI'.out HZ0'.out HZ1'.out .i64 .i64 _ _ 0 rfl rfl rfl rfl (by omega) (by unfold maxLen; omega) (Nat.le_refl _) ?_; intro w3 hown hgrow; have HB := Lib.hid ((Below.refl w.heap.size w).grown hgrow (Nat.le_refl _) (fun x hx => by cases hx)); clear hown hgrow)
    go_loopw [6] (fun k wx => k = .int .i64 0 ∧ Below w.heap.size w wx) (fun _ _ => 0)
    case atStart => exact ⟨rfl, HB.out⟩
    case round =>
      obtain ⟨rfl, hB⟩ := hrel
      have HB := Lib.hid hB; clear hB
      go_wp2_with fail
      go_loopw [9] (fun k wx => k = .int .i64 0 ∧ Below w.heap.size w wx) (fun _ _ => 0)
      case atStart => exact ⟨rfl, HB.out⟩
      case round =>
        obtain ⟨rfl, hB⟩ := hrel
        have HB := Lib.hid hB; clear hB
        go_wp2_with fail
        go_loopw [11] (fun k wx => k = .int .i64 0 ∧ Below w.heap.size w wx) (fun _ _ => 0)
        case atStart => exact ⟨rfl, HB.out⟩
        case round =>
          obtain ⟨rfl, hB⟩ := hrel
          have HB := Lib.hid hB; clear hB
          go_wp2_with fail
          go_loopw [14] (fun k wx => k = .int .i64 0 ∧ Below w.heap.size w wx) (fun _ _ => 0)
          case atStart => exact ⟨rfl, HB.out⟩
          case round =>
            obtain ⟨rfl, hB⟩ := hrel
            have HB := Lib.hid hB; clear hB
            go_wp2
            go_ret
            exact ⟨rfl, HB.out⟩

set_option maxHeartbeats 4000000 in
set_option maxRecDepth 100000 in
theorem flat0_counts (w : World) :
    Calls Try.prog 46 #[.slice none 0 0] w fun e w' => e = .returned (.bool true) ∧ Below w.heap.size w w' := by
  obtain ⟨i1, hi', hz0', hz1', hz2'⟩ := info_parts (P := Try.prog) (e := 101) (z := .slice none 0 0) (size := 1) (bytes := 24) (by kernel_rfl)
  have HI' := Lib.hid hi'; have HZ0' := Lib.hid hz0'; have HZ1' := Lib.hid hz1'; have HZ2' := Lib.hid hz2'
  clear hi' hz0' hz1' hz2'
  go_enter Try.func46, Try.ntmps46
  go_wp2_with fail
  go_loopw [3] (fun k wr => k = .int .i64 0 ∧ wr = w) (fun _ _ => 0)
  case atStart => exact ⟨rfl, rfl⟩
  case round =>
    obtain ⟨rfl, hw⟩ := hrel
    obtain rfl : w = wr := hw.symm
    go_wp2_with (at_make; refine wpList_make_full _ rfl _ _ _ rfl w.heap.size 101 i1 (.slice none 0 0) 1 (by kernel_rfl) HI'.out HZ0'.out HZ1'.out .i64 .i64 _ _ 0 rfl rfl rfl rfl (by omega) (by unfold maxLen; omega) (Nat.le_refl _) ?_; intro w3 hown hgrow; have HB := Lib.hid ((Below.refl w.heap.size w).grown hgrow (Nat.le_refl _) (fun x hx => by cases hx)); clear hown hgrow)
    go_loopw [6] (fun k wx => k = .int .i64 0 ∧ Below w.heap.size w wx) (fun _ _ => 0)
    case atStart => exact ⟨rfl, HB.out⟩
    case round =>
      obtain ⟨rfl, hB⟩ := hrel
      have HB := Lib.hid hB; clear hB
      go_wp2_with fail
      go_loopw [9] (fun k wx => k = .int .i64 0 ∧ Below w.heap.size w wx) (fun _ _ => 0)
      case atStart => exact ⟨rfl, HB.out⟩
      case round =>
        obtain ⟨rfl, hB⟩ := hrel
        have HB := Lib.hid hB; clear hB
        go_wp2_with fail
        go_loopw [11] (fun k wx => k = .int .i64 0 ∧ Below w.heap.size w wx) (fun _ _ => 0)
        case atStart => exact ⟨rfl, HB.out⟩
        case round =>
          obtain ⟨rfl, hB⟩ := hrel
          have HB := Lib.hid hB; clear hB
          go_wp2_with fail
          go_loopw [14] (fun k wx => k = .int .i64 0 ∧ Below w.heap.size w wx) (fun _ _ => 0)
          case atStart => exact ⟨rfl, HB.out⟩
          case round =>
            obtain ⟨rfl, hB⟩ := hrel
            have HB := Lib.hid hB; clear hB
            go_wp2
            go_ret
            exact ⟨rfl, HB.out⟩

set_option maxHeartbeats 4000000 in
set_option maxRecDepth 100000 in
theorem flat0_notes (w : World) :
    Calls Try.prog 47 #[.slice none 0 0] w fun e w' => e = .returned (.bool true) ∧ Below w.heap.size w w' := by
  obtain ⟨i1, hi', hz0', hz1', hz2'⟩ := info_parts (P := Try.prog) (e := 105) (z := .slice none 0 0) (size := 1) (bytes := 24) (by kernel_rfl)
  have HI' := Lib.hid hi'; have HZ0' := Lib.hid hz0'; have HZ1' := Lib.hid hz1'; have HZ2' := Lib.hid hz2'
  clear hi' hz0' hz1' hz2'
  go_enter Try.func47, Try.ntmps47
  go_wp2_with fail
  go_loopw [3] (fun k wr => k = .int .i64 0 ∧ wr = w) (fun _ _ => 0)
  case atStart => exact ⟨rfl, rfl⟩
  case round =>
    obtain ⟨rfl, hw⟩ := hrel
    obtain rfl : w = wr := hw.symm
    go_wp2_with (at_make; refine wpList_make_full _ rfl _ _ _ rfl w.heap.size 105 i1 (.slice none 0 0) 1 (by kernel_rfl) HI'.out HZ0'.out HZ1'.out .i64 .i64 _ _ 0 rfl rfl rfl rfl (by omega) (by unfold maxLen; omega) (Nat.le_refl _) ?_; intro w3 hown hgrow; have HB := Lib.hid ((Below.refl w.heap.size w).grown hgrow (Nat.le_refl _) (fun x hx => by cases hx)); clear hown hgrow)
    go_loopw [6] (fun k wx => k = .int .i64 0 ∧ Below w.heap.size w wx) (fun _ _ => 0)
    case atStart => exact ⟨rfl, HB.out⟩
    case round =>
      obtain ⟨rfl, hB⟩ := hrel
      have HB := Lib.hid hB; clear hB
      go_wp2_with fail
      go_loopw [9] (fun k wx => k = .int .i64 0 ∧ Below w.heap.size w wx) (fun _ _ => 0)
      case atStart => exact ⟨rfl, HB.out⟩
      case round =>
        obtain ⟨rfl, hB⟩ := hrel
        have HB := Lib.hid hB; clear hB
        go_wp2_with fail
        go_loopw [11] (fun k wx => k = .int .i64 0 ∧ Below w.heap.size w wx) (fun _ _ => 0)
        case atStart => exact ⟨rfl, HB.out⟩
        case round =>
          obtain ⟨rfl, hB⟩ := hrel
          have HB := Lib.hid hB; clear hB
          go_wp2_with fail
          go_loopw [14] (fun k wx => k = .int .i64 0 ∧ Below w.heap.size w wx) (fun _ _ => 0)
          case atStart => exact ⟨rfl, HB.out⟩
          case round =>
            obtain ⟨rfl, hB⟩ := hrel
            have HB := Lib.hid hB; clear hB
            go_wp2
            go_ret
            exact ⟨rfl, HB.out⟩

set_option maxHeartbeats 4000000 in
set_option maxRecDepth 100000 in
theorem flat0_fates (w : World) :
    Calls Try.prog 48 #[.slice none 0 0] w fun e w' => e = .returned (.bool true) ∧ Below w.heap.size w w' := by
  obtain ⟨i1, hi', hz0', hz1', hz2'⟩ := info_parts (P := Try.prog) (e := 110) (z := .slice none 0 0) (size := 1) (bytes := 24) (by kernel_rfl)
  have HI' := Lib.hid hi'; have HZ0' := Lib.hid hz0'; have HZ1' := Lib.hid hz1'; have HZ2' := Lib.hid hz2'
  clear hi' hz0' hz1' hz2'
  go_enter Try.func48, Try.ntmps48
  go_wp2_with fail
  go_loopw [3] (fun k wr => k = .int .i64 0 ∧ wr = w) (fun _ _ => 0)
  case atStart => exact ⟨rfl, rfl⟩
  case round =>
    obtain ⟨rfl, hw⟩ := hrel
    obtain rfl : w = wr := hw.symm
    go_wp2_with (at_make; refine wpList_make_full _ rfl _ _ _ rfl w.heap.size 110 i1 (.slice none 0 0) 1 (by kernel_rfl) HI'.out HZ0'.out HZ1'.out .i64 .i64 _ _ 0 rfl rfl rfl rfl (by omega) (by unfold maxLen; omega) (Nat.le_refl _) ?_; intro w3 hown hgrow; have HB := Lib.hid ((Below.refl w.heap.size w).grown hgrow (Nat.le_refl _) (fun x hx => by cases hx)); clear hown hgrow)
    go_loopw [6] (fun k wx => k = .int .i64 0 ∧ Below w.heap.size w wx) (fun _ _ => 0)
    case atStart => exact ⟨rfl, HB.out⟩
    case round =>
      obtain ⟨rfl, hB⟩ := hrel
      have HB := Lib.hid hB; clear hB
      go_wp2_with fail
      go_loopw [9] (fun k wx => k = .int .i64 0 ∧ Below w.heap.size w wx) (fun _ _ => 0)
      case atStart => exact ⟨rfl, HB.out⟩
      case round =>
        obtain ⟨rfl, hB⟩ := hrel
        have HB := Lib.hid hB; clear hB
        go_wp2_with fail
        go_loopw [11] (fun k wx => k = .int .i64 0 ∧ Below w.heap.size w wx) (fun _ _ => 0)
        case atStart => exact ⟨rfl, HB.out⟩
        case round =>
          obtain ⟨rfl, hB⟩ := hrel
          have HB := Lib.hid hB; clear hB
          go_wp2_with fail
          go_loopw [14] (fun k wx => k = .int .i64 0 ∧ Below w.heap.size w wx) (fun _ _ => 0)
          case atStart => exact ⟨rfl, HB.out⟩
          case round =>
            obtain ⟨rfl, hB⟩ := hrel
            have HB := Lib.hid hB; clear hB
            go_wp2
            go_ret
            exact ⟨rfl, HB.out⟩
end Go.Proofs.Ytjnfghhochcpaaa
