/- The small functions of package command, and of the document's own. -/
import Derived.Test.YtoncmbglmebkiaaCmEq
import Derived.Test.YtoncmbglmebkiaaFxC
namespace Go.Proofs.Ytoncmbglmebkiaa.Cm
open Go.RowKit
set_option linter.unusedVariables false
open Go.Proofs.Ytoncmbglmebkiaa.Rw
open Go.Proofs.Ytoncmbglmebkiaa.Fx (ret_v ret_bool ret_int)
set_option maxHeartbeats 400000 in
theorem within_any (n lo hi : Int) (w : World) :
    Calls Try.prog 38 #[.int .i64 n, .int .i64 lo, .int .i64 hi] w fun e w' => e = .returned (.bool (wi n lo hi)) ∧ w = w' := by
  have H : Hid (wi n lo hi = (decide (lo ≤ n) && decide (n ≤ hi))) := Lib.hid rfl
  by_cases h1 : lo ≤ n <;> by_cases h2 : n ≤ hi
  all_goals
    go_enter Try.func38, Try.ntmps38
    go_wp2
    go_ret
    exact ⟨by rw [H.out]; simp [h1, h2], rfl⟩
theorem within_is {n lo hi : Int} {r : Bool} (h : Hid (wi n lo hi = r)) (w : World) :
    Calls Try.prog 38 #[.int .i64 n, .int .i64 lo, .int .i64 hi] w fun e w' => e = .returned (.bool r) ∧ w = w' := by
  rw [← h.out]; exact within_any n lo hi w
theorem laneB_of (k : Int) (h : k = 3 ∨ k = 4 ∨ k = 5 ∨ k = 6 ∨ k = 8) : laneB k = true := by
  unfold laneB; rcases h with rfl | rfl | rfl | rfl | rfl <;> rfl
theorem laneB_no (k : Int) (h3 : (k == 3) = false) (h4 : (k == 4) = false) (h5 : (k == 5) = false) (h6 : (k == 6) = false) (h8 : (k == 8) = false) : laneB k = false := by
  unfold laneB; rw [h3, h4, h5, h6, h8]; rfl
set_option maxHeartbeats 400000 in
theorem hasLane_any (k : Int) (w : World) :
    Calls Try.prog 27 #[.int .i64 k] w fun e w' => e = .returned (.bool (laneB k)) ∧ w = w' := by
  by_cases h : k = 3 ∨ k = 4 ∨ k = 5 ∨ k = 6 ∨ k = 8
  · have H := Lib.hid (laneB_of k h)
    rcases h with rfl | rfl | rfl | rfl | rfl
    all_goals
      go_enter Try.func27, Try.ntmps27
      go_wp2
      go_ret
      exact ⟨ret_bool H.out.symm, rfl⟩
  · have h3 : (k == 3) = false := by simp; omega
    have h4 : (k == 4) = false := by simp; omega
    have h5 : (k == 5) = false := by simp; omega
    have h6 : (k == 6) = false := by simp; omega
    have h8 : (k == 8) = false := by simp; omega
    have H := Lib.hid (laneB_no k h3 h4 h5 h6 h8)
    clear h
    go_enter Try.func27, Try.ntmps27
    go_wp2
    go_ret
    exact ⟨ret_bool H.out.symm, rfl⟩
set_option maxHeartbeats 400000 in
theorem isZero_any (c : Nat → Int) (w : World) :
    Calls Try.prog 34 #[.agg (fc c)] w fun e w' => e = .returned (.bool (zeroB c)) ∧ Below w.heap.size w w' := by
  go_enter Try.func34, Try.ntmps34
  go_wp2
  go_ret
  exact ⟨rfl, below1 _ _⟩
theorem num_v9 (c : Nat → Int) : fc (v9 (c 2) (c 0) (c 3) (c 4) (c 6) (c 1) (c 7) (c 8) (c 5)) = fc (numF c) := fc_ext rfl rfl rfl rfl rfl rfl rfl rfl rfl
end Go.Proofs.Ytoncmbglmebkiaa.Cm
