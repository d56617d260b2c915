/- The small functions of package command, and of the document's own. -/
import Derived.Test.YtmaecknjamnnpaaCmEq
import Derived.Test.YtmaecknjamnnpaaFxC
namespace Go.Proofs.Ytmaecknjamnnpaa.Cm
open Go.RowKit
set_option linter.unusedVariables false
open Go.Proofs.Ytmaecknjamnnpaa.Rw
open Go.Proofs.Ytmaecknjamnnpaa.Fx (ret_v ret_bool ret_int)
set_option maxHeartbeats 400000 in
theorem within_any (n lo hi : Int) (w : World) :
    Calls Try.prog 72 #[.int .i64 n, .int .i64 lo, .int .i64 hi] w fun e w' => e = .returned (.bool (wi n lo hi)) ∧ w = w' := by
  have H : Hid (wi n lo hi = (decide (lo ≤ n) && decide (n ≤ hi))) := Lib.hid rfl
  by_cases h1 : lo ≤ n <;> by_cases h2 : n ≤ hi
  all_goals
    go_enter Try.func72, Try.ntmps72
    go_wp2
    go_ret
    exact ⟨by rw [H.out]; simp [h1, h2], rfl⟩
theorem within_is {n lo hi : Int} {r : Bool} (h : Hid (wi n lo hi = r)) (w : World) :
    Calls Try.prog 72 #[.int .i64 n, .int .i64 lo, .int .i64 hi] w fun e w' => e = .returned (.bool r) ∧ w = w' := by
  rw [← h.out]; exact within_any n lo hi w
set_option maxHeartbeats 400000 in
theorem account_any (n : Int) (w : World) :
    Calls Try.prog 65 #[.int .i64 n] w fun e w' => e = .returned (.bool (wi n 0 63)) ∧ w = w' := by
  have H : Hid (wi n 0 63 = (decide (0 ≤ n) && decide (n < 64))) := Lib.hid (by unfold wi; rw [show decide (n ≤ 63) = decide (n < 64) by rw [decide_eq_decide]; omega])
  by_cases h1 : 0 ≤ n <;> by_cases h2 : n < 64
  all_goals
    go_enter Try.func65, Try.ntmps65
    go_wp2
    go_ret
    exact ⟨by rw [H.out]; simp [h1, h2], rfl⟩
set_option maxHeartbeats 400000 in
theorem amount_any (n : Int) (w : World) :
    Calls Try.prog 66 #[.int .i64 n] w fun e w' => e = .returned (.bool (wi n 0 1125899906842624)) ∧ w = w' := by
  have H : Hid (wi n 0 1125899906842624 = (decide (0 ≤ n) && decide (n ≤ 1125899906842624))) := Lib.hid rfl
  by_cases h1 : 0 ≤ n <;> by_cases h2 : n ≤ 1125899906842624
  all_goals
    go_enter Try.func66, Try.ntmps66
    go_wp2
    go_ret
    exact ⟨by rw [H.out]; simp [h1, h2], rfl⟩
theorem laneB_of (k : Int) (h : k = 3 ∨ k = 4 ∨ k = 5 ∨ k = 6 ∨ k = 8) : laneB k = true := by
  unfold laneB; rcases h with rfl | rfl | rfl | rfl | rfl <;> rfl
theorem laneB_no (k : Int) (h3 : (k == 3) = false) (h4 : (k == 4) = false) (h5 : (k == 5) = false) (h6 : (k == 6) = false) (h8 : (k == 8) = false) : laneB k = false := by
  unfold laneB; rw [h3, h4, h5, h6, h8]; rfl
set_option maxHeartbeats 400000 in
theorem hasLane_any (k : Int) (w : World) :
    Calls Try.prog 55 #[.int .i64 k] w fun e w' => e = .returned (.bool (laneB k)) ∧ w = w' := by
  by_cases h : k = 3 ∨ k = 4 ∨ k = 5 ∨ k = 6 ∨ k = 8
  · have H := Lib.hid (laneB_of k h)
    rcases h with rfl | rfl | rfl | rfl | rfl
    all_goals
      go_enter Try.func55, Try.ntmps55
      go_wp2
      go_ret
      exact ⟨ret_bool H.out.symm, rfl⟩
  · have h3 : (k == 3) = false := by simp; omega
    have h4 : (k == 4) = false := by simp; omega
    have h5 : (k == 5) = false := by simp; omega
    have h6 : (k == 6) = false := by simp; omega
    have h8 : (k == 8) = false := by simp; omega
    have H := Lib.hid (laneB_no k h3 h4 h5 h6 h8)
    clear h
    go_enter Try.func55, Try.ntmps55
    go_wp2
    go_ret
    exact ⟨ret_bool H.out.symm, rfl⟩
set_option maxHeartbeats 400000 in
theorem lane_any (k : Int) (w : World) :
    Calls Try.prog 71 #[.int .i64 k] w fun e w' => e = .returned (.bool (laneB k)) ∧ w = w' := by
  by_cases h : k = 3 ∨ k = 4 ∨ k = 5 ∨ k = 6 ∨ k = 8
  · have H := Lib.hid (laneB_of k h)
    rcases h with rfl | rfl | rfl | rfl | rfl
    all_goals
      go_enter Try.func71, Try.ntmps71
      go_wp2
      go_ret
      exact ⟨ret_bool H.out.symm, rfl⟩
  · have h3 : (k == 3) = false := by simp; omega
    have h4 : (k == 4) = false := by simp; omega
    have h5 : (k == 5) = false := by simp; omega
    have h6 : (k == 6) = false := by simp; omega
    have h8 : (k == 8) = false := by simp; omega
    have H := Lib.hid (laneB_no k h3 h4 h5 h6 h8)
    clear h
    go_enter Try.func71, Try.ntmps71
    go_wp2
    go_ret
    exact ⟨ret_bool H.out.symm, rfl⟩
set_option maxHeartbeats 400000 in
theorem isZero_any (c : Nat → Int) (w : World) :
    Calls Try.prog 68 #[.agg (fc c)] w fun e w' => e = .returned (.bool (zeroB c)) ∧ Below w.heap.size w w' := by
  go_enter Try.func68, Try.ntmps68
  go_wp2
  go_ret
  exact ⟨rfl, below1 _ _⟩
theorem num_v9 (c : Nat → Int) : fc (v9 (c 2) (c 0) (c 3) (c 4) (c 6) (c 1) (c 7) (c 8) (c 5)) = fc (numF c) := fc_ext rfl rfl rfl rfl rfl rfl rfl rfl rfl
end Go.Proofs.Ytmaecknjamnnpaa.Cm
