/- The small functions of package command, and of the document's own. -/
import Derived.Test.YtngnkjbcnmcngaaDoorCmEq
import Derived.Test.YtngnkjbcnmcngaaDoorFxC
namespace Go.Proofs.YtngnkjbcnmcngaaDoor.Cm
open Go.RowKit
set_option linter.unusedVariables false
open Go.Proofs.YtngnkjbcnmcngaaDoor.Rw
open Go.Proofs.YtngnkjbcnmcngaaDoor.Fx (ret_v ret_bool ret_int)
set_option maxHeartbeats 400000 in
theorem within_any (n lo hi : Int) (w : World) :
    Calls Tryd.prog 65 #[.int .i64 n, .int .i64 lo, .int .i64 hi] w fun e w' => e = .returned (.bool (wi n lo hi)) ∧ w = w' := by
  have H : Hid (wi n lo hi = (decide (lo ≤ n) && decide (n ≤ hi))) := Lib.hid rfl
  by_cases h1 : lo ≤ n <;> by_cases h2 : n ≤ hi
  all_goals
    go_enter Tryd.func65, Tryd.ntmps65
    go_wp2
    go_ret
    exact ⟨by rw [H.out]; simp [h1, h2], rfl⟩
theorem within_is {n lo hi : Int} {r : Bool} (h : Hid (wi n lo hi = r)) (w : World) :
    Calls Tryd.prog 65 #[.int .i64 n, .int .i64 lo, .int .i64 hi] w fun e w' => e = .returned (.bool r) ∧ w = w' := by
  rw [← h.out]; exact within_any n lo hi w
set_option maxHeartbeats 400000 in
theorem account_any (n : Int) (w : World) :
    Calls Tryd.prog 62 #[.int .i64 n] w fun e w' => e = .returned (.bool (wi n 0 63)) ∧ w = w' := by
  have H : Hid (wi n 0 63 = (decide (0 ≤ n) && decide (n < 64))) := Lib.hid (by unfold wi; rw [show decide (n ≤ 63) = decide (n < 64) by rw [decide_eq_decide]; omega])
  by_cases h1 : 0 ≤ n <;> by_cases h2 : n < 64
  all_goals
    go_enter Tryd.func62, Tryd.ntmps62
    go_wp2
    go_ret
    exact ⟨by rw [H.out]; simp [h1, h2], rfl⟩
set_option maxHeartbeats 400000 in
theorem amount_any (n : Int) (w : World) :
    Calls Tryd.prog 63 #[.int .i64 n] w fun e w' => e = .returned (.bool (wi n 0 1125899906842624)) ∧ w = w' := by
  have H : Hid (wi n 0 1125899906842624 = (decide (0 ≤ n) && decide (n ≤ 1125899906842624))) := Lib.hid rfl
  by_cases h1 : 0 ≤ n <;> by_cases h2 : n ≤ 1125899906842624
  all_goals
    go_enter Tryd.func63, Tryd.ntmps63
    go_wp2
    go_ret
    exact ⟨by rw [H.out]; simp [h1, h2], rfl⟩
theorem laneB_of (k : Int) (h : k = 3 ∨ k = 4 ∨ k = 5 ∨ k = 6 ∨ k = 8) : laneB k = true := by
  unfold laneB; rcases h with rfl | rfl | rfl | rfl | rfl <;> rfl
theorem laneB_no (k : Int) (h3 : (k == 3) = false) (h4 : (k == 4) = false) (h5 : (k == 5) = false) (h6 : (k == 6) = false) (h8 : (k == 8) = false) : laneB k = false := by
  unfold laneB; rw [h3, h4, h5, h6, h8]; rfl
set_option maxHeartbeats 400000 in
theorem isZero_any (c : Nat → Int) (w : World) :
    Calls Tryd.prog 58 #[.agg (fc c)] w fun e w' => e = .returned (.bool (zeroB c)) ∧ Below w.heap.size w w' := by
  go_enter Tryd.func58, Tryd.ntmps58
  go_wp2
  go_ret
  exact ⟨rfl, below1 _ _⟩
theorem num_v9 (c : Nat → Int) : fc (v9 (c 2) (c 0) (c 3) (c 4) (c 6) (c 1) (c 7) (c 8) (c 5)) = fc (numF c) := fc_ext rfl rfl rfl rfl rfl rfl rfl rfl rfl
set_option maxHeartbeats 800000 in
theorem numbers_any (c : Nat → Int) (w : World) :
    Calls Tryd.prog 45 #[.agg (fc c)] w fun e w' => e = .returned (.agg (fc (numF c))) ∧ Below w.heap.size w w' := by
  have H := Lib.hid (num_v9 c)
  go_enter Tryd.func45, Tryd.ntmps45
  go_wp2
  rw [H.out]
  exact bodyPost_ret (v := .agg (fc (numF c))) (ret_A Tryd.results45 _ _ _ (by simp [go_sem])) rfl ⟨rfl, below2 _ _ _⟩
end Go.Proofs.YtngnkjbcnmcngaaDoor.Cm
