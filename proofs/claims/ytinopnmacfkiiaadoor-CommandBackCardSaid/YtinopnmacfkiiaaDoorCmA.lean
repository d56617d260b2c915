/- The small functions of package command, and of the document's own. -/
import Derived.Test.YtinopnmacfkiiaaDoorCmEq
import Derived.Test.YtinopnmacfkiiaaDoorFxC
namespace Go.Proofs.YtinopnmacfkiiaaDoor.Cm
open Go.RowKit
set_option linter.unusedVariables false
open Go.Proofs.YtinopnmacfkiiaaDoor.Rw
open Go.Proofs.YtinopnmacfkiiaaDoor.Fx (ret_v ret_bool ret_int)
set_option maxHeartbeats 400000 in
theorem within_any (n lo hi : Int) (w : World) :
    Calls Tryd.prog 27 #[.int .i64 n, .int .i64 lo, .int .i64 hi] w fun e w' => e = .returned (.bool (wi n lo hi)) ∧ w = w' := by
  have H : Hid (wi n lo hi = (decide (lo ≤ n) && decide (n ≤ hi))) := Lib.hid rfl
  by_cases h1 : lo ≤ n <;> by_cases h2 : n ≤ hi
  all_goals
    go_enter Tryd.func27, Tryd.ntmps27
    go_wp2
    go_ret
    exact ⟨by rw [H.out]; simp [h1, h2], rfl⟩
theorem within_is {n lo hi : Int} {r : Bool} (h : Hid (wi n lo hi = r)) (w : World) :
    Calls Tryd.prog 27 #[.int .i64 n, .int .i64 lo, .int .i64 hi] w fun e w' => e = .returned (.bool r) ∧ w = w' := by
  rw [← h.out]; exact within_any n lo hi w
set_option maxHeartbeats 400000 in
theorem account_any (n : Int) (w : World) :
    Calls Tryd.prog 24 #[.int .i64 n] w fun e w' => e = .returned (.bool (wi n 0 63)) ∧ w = w' := by
  have H : Hid (wi n 0 63 = (decide (0 ≤ n) && decide (n < 64))) := Lib.hid (by unfold wi; rw [show decide (n ≤ 63) = decide (n < 64) by rw [decide_eq_decide]; omega])
  by_cases h1 : 0 ≤ n <;> by_cases h2 : n < 64
  all_goals
    go_enter Tryd.func24, Tryd.ntmps24
    go_wp2
    go_ret
    exact ⟨by rw [H.out]; simp [h1, h2], rfl⟩
set_option maxHeartbeats 400000 in
theorem amount_any (n : Int) (w : World) :
    Calls Tryd.prog 25 #[.int .i64 n] w fun e w' => e = .returned (.bool (wi n 0 1125899906842624)) ∧ w = w' := by
  have H : Hid (wi n 0 1125899906842624 = (decide (0 ≤ n) && decide (n ≤ 1125899906842624))) := Lib.hid rfl
  by_cases h1 : 0 ≤ n <;> by_cases h2 : n ≤ 1125899906842624
  all_goals
    go_enter Tryd.func25, Tryd.ntmps25
    go_wp2
    go_ret
    exact ⟨by rw [H.out]; simp [h1, h2], rfl⟩
theorem laneB_of (k : Int) (h : k = 3 ∨ k = 4 ∨ k = 5 ∨ k = 6 ∨ k = 8) : laneB k = true := by
  unfold laneB; rcases h with rfl | rfl | rfl | rfl | rfl <;> rfl
theorem laneB_no (k : Int) (h3 : (k == 3) = false) (h4 : (k == 4) = false) (h5 : (k == 5) = false) (h6 : (k == 6) = false) (h8 : (k == 8) = false) : laneB k = false := by
  unfold laneB; rw [h3, h4, h5, h6, h8]; rfl
set_option maxHeartbeats 400000 in
theorem hasLane_any (k : Int) (w : World) :
    Calls Tryd.prog 20 #[.int .i64 k] w fun e w' => e = .returned (.bool (laneB k)) ∧ w = w' := by
  by_cases h : k = 3 ∨ k = 4 ∨ k = 5 ∨ k = 6 ∨ k = 8
  · have H := Lib.hid (laneB_of k h)
    rcases h with rfl | rfl | rfl | rfl | rfl
    all_goals
      go_enter Tryd.func20, Tryd.ntmps20
      go_wp2
      go_ret
      exact ⟨ret_bool H.out.symm, rfl⟩
  · have h3 : (k == 3) = false := by simp; omega
    have h4 : (k == 4) = false := by simp; omega
    have h5 : (k == 5) = false := by simp; omega
    have h6 : (k == 6) = false := by simp; omega
    have h8 : (k == 8) = false := by simp; omega
    have H := Lib.hid (laneB_no k h3 h4 h5 h6 h8)
    clear h
    go_enter Tryd.func20, Tryd.ntmps20
    go_wp2
    go_ret
    exact ⟨ret_bool H.out.symm, rfl⟩
set_option maxHeartbeats 400000 in
theorem lane_any (k : Int) (w : World) :
    Calls Tryd.prog 21 #[.int .i64 k] w fun e w' => e = .returned (.bool (laneB k)) ∧ w = w' := by
  by_cases h : k = 3 ∨ k = 4 ∨ k = 5 ∨ k = 6 ∨ k = 8
  · have H := Lib.hid (laneB_of k h)
    rcases h with rfl | rfl | rfl | rfl | rfl
    all_goals
      go_enter Tryd.func21, Tryd.ntmps21
      go_wp2
      go_ret
      exact ⟨ret_bool H.out.symm, rfl⟩
  · have h3 : (k == 3) = false := by simp; omega
    have h4 : (k == 4) = false := by simp; omega
    have h5 : (k == 5) = false := by simp; omega
    have h6 : (k == 6) = false := by simp; omega
    have h8 : (k == 8) = false := by simp; omega
    have H := Lib.hid (laneB_no k h3 h4 h5 h6 h8)
    clear h
    go_enter Tryd.func21, Tryd.ntmps21
    go_wp2
    go_ret
    exact ⟨ret_bool H.out.symm, rfl⟩
set_option maxHeartbeats 400000 in
theorem isZero_any (c : Nat → Int) (w : World) :
    Calls Tryd.prog 22 #[.agg (fc c)] w fun e w' => e = .returned (.bool (zeroB c)) ∧ Below w.heap.size w w' := by
  go_enter Tryd.func22, Tryd.ntmps22
  go_wp2
  go_ret
  exact ⟨rfl, below1 _ _⟩
set_option maxHeartbeats 400000 in
theorem moves_any (c : Nat → Int) (w : World) :
    Calls Tryd.prog 13 #[.agg (fc c)] w fun e w' => e = .returned (.bool (movB c)) ∧ Below w.heap.size w w' := by
  go_enter Tryd.func13, Tryd.ntmps13
  go_wp2_with fail
  refine (within_any _ _ _ _).mono ?_
  rintro e w' ⟨rfl, rfl⟩
  go_wp2
  go_ret
  exact ⟨rfl, below1 _ _⟩
set_option maxHeartbeats 400000 in
theorem rMoves_any (c : Nat → Int) (w : World) :
    Calls Tryd.prog 14 #[.agg (fc c)] w fun e w' => e = .returned (.bool (movB c)) ∧ Below w.heap.size w w' := by
  have H : Hid (movB c = (decide (1 ≤ c 2) && decide (c 2 ≤ 6))) := Lib.hid rfl
  by_cases h1 : 1 ≤ c 2 <;> by_cases h2 : c 2 ≤ 6
  all_goals first | (exfalso; omega) | skip
  all_goals
    go_enter Tryd.func14, Tryd.ntmps14
    go_wp2
    go_ret
    exact ⟨by rw [H.out]; simp [h1, h2], below1 _ _⟩
theorem num_v9 (c : Nat → Int) : fc (v9 (c 2) (c 0) (c 3) (c 4) (c 6) (c 1) (c 7) (c 8) (c 5)) = fc (numF c) := fc_ext rfl rfl rfl rfl rfl rfl rfl rfl rfl
set_option maxHeartbeats 800000 in
theorem numbers_any (c : Nat → Int) (w : World) :
    Calls Tryd.prog 29 #[.agg (fc c)] w fun e w' => e = .returned (.agg (fc (numF c))) ∧ Below w.heap.size w w' := by
  have H := Lib.hid (num_v9 c)
  go_enter Tryd.func29, Tryd.ntmps29
  go_wp2
  rw [H.out]
  exact bodyPost_ret (v := .agg (fc (numF c))) (ret_A Tryd.results29 _ _ _ (by simp [go_sem])) rfl ⟨rfl, below2 _ _ _⟩
end Go.Proofs.YtinopnmacfkiiaaDoor.Cm
