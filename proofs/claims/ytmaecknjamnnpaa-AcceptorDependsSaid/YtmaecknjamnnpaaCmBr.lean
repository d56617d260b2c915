/- Check, the document's own. -/
import Derived.Test.YtmaecknjamnnpaaCmA
namespace Go.Proofs.Ytmaecknjamnnpaa.Cm
open Go.RowKit
set_option linter.unusedVariables false
open Go.Proofs.Ytmaecknjamnnpaa.Rw
open Go.Proofs.Ytmaecknjamnnpaa.Fx (ret_v ret_bool ret_int)
theorem account_is {n : Int} {r : Bool} (h : Hid (wi n 0 63 = r)) (w : World) :
    Calls Try.prog 65 #[.int .i64 n] w fun e w' => e = .returned (.bool r) ∧ w = w' := by
  rw [← h.out]; exact account_any n w
theorem amount_is {n : Int} {r : Bool} (h : Hid (wi n 0 1125899906842624 = r)) (w : World) :
    Calls Try.prog 66 #[.int .i64 n] w fun e w' => e = .returned (.bool r) ∧ w = w' := by
  rw [← h.out]; exact amount_any n w
set_option maxHeartbeats 400000 in
theorem rCheck_zero (c : Nat → Int) (w : World) (h : Hid (eqF c zeroF = true)) :
    Calls Try.prog 58 #[.agg (fc c)] w fun e w' => e = .returned (.int .i64 0) ∧ Below w.heap.size w w' := by
  have k := h.out
  go_enter Try.func58, Try.ntmps58
  go_wp2
  go_ret
  exact ⟨rfl, below1 _ _⟩
end Go.Proofs.Ytmaecknjamnnpaa.Cm
/- Check, the document's own. -/
namespace Go.Proofs.Ytmaecknjamnnpaa.Cm
open Go.RowKit
set_option linter.unusedVariables false
open Go.Proofs.Ytmaecknjamnnpaa.Rw
open Go.Proofs.Ytmaecknjamnnpaa.Fx (ret_v ret_bool ret_int)
set_option maxHeartbeats 1600000 in
theorem rChk_0lo (c : Nat → Int) (w : World) (h : Hid (eqF c zeroF = false)) (d0 : decide (c 2 < 1) = true) :
    Calls Try.prog 58 #[.agg (fc c)] w fun e w' => e = .returned (.int .i64 1) ∧ Below w.heap.size w w' := by
  have k := h.out
  go_enter Try.func58, Try.ntmps58
  go_wp2
  go_ret
  exact ⟨rfl, below1 _ _⟩
set_option maxHeartbeats 1600000 in
theorem rChk_0hi (c : Nat → Int) (w : World) (h : Hid (eqF c zeroF = false)) (d0 : decide (c 2 < 1) = false) (d1 : decide (8 < c 2) = true) :
    Calls Try.prog 58 #[.agg (fc c)] w fun e w' => e = .returned (.int .i64 1) ∧ Below w.heap.size w w' := by
  have k := h.out
  go_enter Try.func58, Try.ntmps58
  go_wp2
  go_ret
  exact ⟨rfl, below1 _ _⟩
set_option maxHeartbeats 1600000 in
theorem rChk_1x (c : Nat → Int) (w : World) (h : Hid (eqF c zeroF = false)) (d0 : decide (c 2 < 1) = false) (d1 : decide (8 < c 2) = false) (h2 : Hid (wi (c 0) 0 63 = false)) :
    Calls Try.prog 58 #[.agg (fc c)] w fun e w' => e = .returned (.int .i64 1) ∧ Below w.heap.size w w' := by
  have k := h.out
  go_enter Try.func58, Try.ntmps58
  go_wp2_with fail
  refine (account_is h2 _).mono ?_
  rintro e w' ⟨rfl, rfl⟩
  go_wp2
  go_ret
  exact ⟨rfl, below1 _ _⟩
set_option maxHeartbeats 1600000 in
theorem rChk_2lo (c : Nat → Int) (w : World) (h : Hid (eqF c zeroF = false)) (d0 : decide (c 2 < 1) = false) (d1 : decide (8 < c 2) = false) (h2 : Hid (wi (c 0) 0 63 = true)) (d3 : decide (c 1 < 1) = true) :
    Calls Try.prog 58 #[.agg (fc c)] w fun e w' => e = .returned (.int .i64 1) ∧ Below w.heap.size w w' := by
  have k := h.out
  go_enter Try.func58, Try.ntmps58
  go_wp2_with fail
  refine (account_is h2 _).mono ?_
  rintro e w' ⟨rfl, rfl⟩
  go_wp2
  go_ret
  exact ⟨rfl, below1 _ _⟩
set_option maxHeartbeats 1600000 in
theorem rChk_2hi (c : Nat → Int) (w : World) (h : Hid (eqF c zeroF = false)) (d0 : decide (c 2 < 1) = false) (d1 : decide (8 < c 2) = false) (h2 : Hid (wi (c 0) 0 63 = true)) (d3 : decide (c 1 < 1) = false) (h4 : Hid (wi (c 1) 0 1125899906842624 = false)) :
    Calls Try.prog 58 #[.agg (fc c)] w fun e w' => e = .returned (.int .i64 1) ∧ Below w.heap.size w w' := by
  have k := h.out
  go_enter Try.func58, Try.ntmps58
  go_wp2_with fail
  refine (account_is h2 _).mono ?_
  rintro e w' ⟨rfl, rfl⟩
  go_wp2_with fail
  refine (amount_is h4 _).mono ?_
  rintro e w' ⟨rfl, rfl⟩
  go_wp2
  go_ret
  exact ⟨rfl, below1 _ _⟩
set_option maxHeartbeats 1600000 in
theorem rChk_3lo (c : Nat → Int) (w : World) (h : Hid (eqF c zeroF = false)) (d0 : decide (c 2 < 1) = false) (d1 : decide (8 < c 2) = false) (h2 : Hid (wi (c 0) 0 63 = true)) (d3 : decide (c 1 < 1) = false) (h4 : Hid (wi (c 1) 0 1125899906842624 = true)) (d5 : decide (c 3 < 0) = true) :
    Calls Try.prog 58 #[.agg (fc c)] w fun e w' => e = .returned (.int .i64 1) ∧ Below w.heap.size w w' := by
  have k := h.out
  go_enter Try.func58, Try.ntmps58
  go_wp2_with fail
  refine (account_is h2 _).mono ?_
  rintro e w' ⟨rfl, rfl⟩
  go_wp2_with fail
  refine (amount_is h4 _).mono ?_
  rintro e w' ⟨rfl, rfl⟩
  go_wp2
  go_ret
  exact ⟨rfl, below1 _ _⟩
set_option maxHeartbeats 1600000 in
theorem rChk_3hi (c : Nat → Int) (w : World) (h : Hid (eqF c zeroF = false)) (d0 : decide (c 2 < 1) = false) (d1 : decide (8 < c 2) = false) (h2 : Hid (wi (c 0) 0 63 = true)) (d3 : decide (c 1 < 1) = false) (h4 : Hid (wi (c 1) 0 1125899906842624 = true)) (d5 : decide (c 3 < 0) = false) (d6 : decide (6 ≤ c 3) = true) :
    Calls Try.prog 58 #[.agg (fc c)] w fun e w' => e = .returned (.int .i64 1) ∧ Below w.heap.size w w' := by
  have k := h.out
  go_enter Try.func58, Try.ntmps58
  go_wp2_with fail
  refine (account_is h2 _).mono ?_
  rintro e w' ⟨rfl, rfl⟩
  go_wp2_with fail
  refine (amount_is h4 _).mono ?_
  rintro e w' ⟨rfl, rfl⟩
  go_wp2
  go_ret
  exact ⟨rfl, below1 _ _⟩
end Go.Proofs.Ytmaecknjamnnpaa.Cm
/- Check, the document's own. -/
namespace Go.Proofs.Ytmaecknjamnnpaa.Cm
open Go.RowKit
set_option linter.unusedVariables false
open Go.Proofs.Ytmaecknjamnnpaa.Rw
open Go.Proofs.Ytmaecknjamnnpaa.Fx (ret_v ret_bool ret_int)
set_option maxHeartbeats 1600000 in
theorem rChk_4lo (c : Nat → Int) (w : World) (h : Hid (eqF c zeroF = false)) (d0 : decide (c 2 < 1) = false) (d1 : decide (8 < c 2) = false) (h2 : Hid (wi (c 0) 0 63 = true)) (d3 : decide (c 1 < 1) = false) (h4 : Hid (wi (c 1) 0 1125899906842624 = true)) (d5 : decide (c 3 < 0) = false) (d6 : decide (6 ≤ c 3) = false) (d7 : decide (c 4 < 0) = true) :
    Calls Try.prog 58 #[.agg (fc c)] w fun e w' => e = .returned (.int .i64 1) ∧ Below w.heap.size w w' := by
  have k := h.out
  go_enter Try.func58, Try.ntmps58
  go_wp2_with fail
  refine (account_is h2 _).mono ?_
  rintro e w' ⟨rfl, rfl⟩
  go_wp2_with fail
  refine (amount_is h4 _).mono ?_
  rintro e w' ⟨rfl, rfl⟩
  go_wp2
  go_ret
  exact ⟨rfl, below1 _ _⟩
set_option maxHeartbeats 1600000 in
theorem rChk_4hi (c : Nat → Int) (w : World) (h : Hid (eqF c zeroF = false)) (d0 : decide (c 2 < 1) = false) (d1 : decide (8 < c 2) = false) (h2 : Hid (wi (c 0) 0 63 = true)) (d3 : decide (c 1 < 1) = false) (h4 : Hid (wi (c 1) 0 1125899906842624 = true)) (d5 : decide (c 3 < 0) = false) (d6 : decide (6 ≤ c 3) = false) (d7 : decide (c 4 < 0) = false) (d8 : decide (8 ≤ c 4) = true) :
    Calls Try.prog 58 #[.agg (fc c)] w fun e w' => e = .returned (.int .i64 1) ∧ Below w.heap.size w w' := by
  have k := h.out
  go_enter Try.func58, Try.ntmps58
  go_wp2_with fail
  refine (account_is h2 _).mono ?_
  rintro e w' ⟨rfl, rfl⟩
  go_wp2_with fail
  refine (amount_is h4 _).mono ?_
  rintro e w' ⟨rfl, rfl⟩
  go_wp2
  go_ret
  exact ⟨rfl, below1 _ _⟩
set_option maxHeartbeats 1600000 in
theorem rChk_5lo (c : Nat → Int) (w : World) (h : Hid (eqF c zeroF = false)) (d0 : decide (c 2 < 1) = false) (d1 : decide (8 < c 2) = false) (h2 : Hid (wi (c 0) 0 63 = true)) (d3 : decide (c 1 < 1) = false) (h4 : Hid (wi (c 1) 0 1125899906842624 = true)) (d5 : decide (c 3 < 0) = false) (d6 : decide (6 ≤ c 3) = false) (d7 : decide (c 4 < 0) = false) (d8 : decide (8 ≤ c 4) = false) (d9 : decide (c 5 < 0) = true) :
    Calls Try.prog 58 #[.agg (fc c)] w fun e w' => e = .returned (.int .i64 1) ∧ Below w.heap.size w w' := by
  have k := h.out
  go_enter Try.func58, Try.ntmps58
  go_wp2_with fail
  refine (account_is h2 _).mono ?_
  rintro e w' ⟨rfl, rfl⟩
  go_wp2_with fail
  refine (amount_is h4 _).mono ?_
  rintro e w' ⟨rfl, rfl⟩
  go_wp2
  go_ret
  exact ⟨rfl, below1 _ _⟩
set_option maxHeartbeats 1600000 in
theorem rChk_5hi (c : Nat → Int) (w : World) (h : Hid (eqF c zeroF = false)) (d0 : decide (c 2 < 1) = false) (d1 : decide (8 < c 2) = false) (h2 : Hid (wi (c 0) 0 63 = true)) (d3 : decide (c 1 < 1) = false) (h4 : Hid (wi (c 1) 0 1125899906842624 = true)) (d5 : decide (c 3 < 0) = false) (d6 : decide (6 ≤ c 3) = false) (d7 : decide (c 4 < 0) = false) (d8 : decide (8 ≤ c 4) = false) (d9 : decide (c 5 < 0) = false) (d10 : decide (1073741824 < c 5) = true) :
    Calls Try.prog 58 #[.agg (fc c)] w fun e w' => e = .returned (.int .i64 1) ∧ Below w.heap.size w w' := by
  have k := h.out
  go_enter Try.func58, Try.ntmps58
  go_wp2_with fail
  refine (account_is h2 _).mono ?_
  rintro e w' ⟨rfl, rfl⟩
  go_wp2_with fail
  refine (amount_is h4 _).mono ?_
  rintro e w' ⟨rfl, rfl⟩
  go_wp2
  go_ret
  exact ⟨rfl, below1 _ _⟩
set_option maxHeartbeats 1600000 in
theorem rChk_6lo (c : Nat → Int) (w : World) (h : Hid (eqF c zeroF = false)) (d0 : decide (c 2 < 1) = false) (d1 : decide (8 < c 2) = false) (h2 : Hid (wi (c 0) 0 63 = true)) (d3 : decide (c 1 < 1) = false) (h4 : Hid (wi (c 1) 0 1125899906842624 = true)) (d5 : decide (c 3 < 0) = false) (d6 : decide (6 ≤ c 3) = false) (d7 : decide (c 4 < 0) = false) (d8 : decide (8 ≤ c 4) = false) (d9 : decide (c 5 < 0) = false) (d10 : decide (1073741824 < c 5) = false) (d11 : decide (c 6 < 0) = true) :
    Calls Try.prog 58 #[.agg (fc c)] w fun e w' => e = .returned (.int .i64 1) ∧ Below w.heap.size w w' := by
  have k := h.out
  go_enter Try.func58, Try.ntmps58
  go_wp2_with fail
  refine (account_is h2 _).mono ?_
  rintro e w' ⟨rfl, rfl⟩
  go_wp2_with fail
  refine (amount_is h4 _).mono ?_
  rintro e w' ⟨rfl, rfl⟩
  go_wp2
  go_ret
  exact ⟨rfl, below1 _ _⟩
end Go.Proofs.Ytmaecknjamnnpaa.Cm
/- Check, the document's own. -/
namespace Go.Proofs.Ytmaecknjamnnpaa.Cm
open Go.RowKit
set_option linter.unusedVariables false
open Go.Proofs.Ytmaecknjamnnpaa.Rw
open Go.Proofs.Ytmaecknjamnnpaa.Fx (ret_v ret_bool ret_int)
set_option maxHeartbeats 1600000 in
theorem rChk_6hi (c : Nat → Int) (w : World) (h : Hid (eqF c zeroF = false)) (d0 : decide (c 2 < 1) = false) (d1 : decide (8 < c 2) = false) (h2 : Hid (wi (c 0) 0 63 = true)) (d3 : decide (c 1 < 1) = false) (h4 : Hid (wi (c 1) 0 1125899906842624 = true)) (d5 : decide (c 3 < 0) = false) (d6 : decide (6 ≤ c 3) = false) (d7 : decide (c 4 < 0) = false) (d8 : decide (8 ≤ c 4) = false) (d9 : decide (c 5 < 0) = false) (d10 : decide (1073741824 < c 5) = false) (d11 : decide (c 6 < 0) = false) (d12 : decide (2 < c 6) = true) :
    Calls Try.prog 58 #[.agg (fc c)] w fun e w' => e = .returned (.int .i64 1) ∧ Below w.heap.size w w' := by
  have k := h.out
  go_enter Try.func58, Try.ntmps58
  go_wp2_with fail
  refine (account_is h2 _).mono ?_
  rintro e w' ⟨rfl, rfl⟩
  go_wp2_with fail
  refine (amount_is h4 _).mono ?_
  rintro e w' ⟨rfl, rfl⟩
  go_wp2
  go_ret
  exact ⟨rfl, below1 _ _⟩
set_option maxHeartbeats 1600000 in
theorem rChk_7x (c : Nat → Int) (w : World) (h : Hid (eqF c zeroF = false)) (d0 : decide (c 2 < 1) = false) (d1 : decide (8 < c 2) = false) (h2 : Hid (wi (c 0) 0 63 = true)) (d3 : decide (c 1 < 1) = false) (h4 : Hid (wi (c 1) 0 1125899906842624 = true)) (d5 : decide (c 3 < 0) = false) (d6 : decide (6 ≤ c 3) = false) (d7 : decide (c 4 < 0) = false) (d8 : decide (8 ≤ c 4) = false) (d9 : decide (c 5 < 0) = false) (d10 : decide (1073741824 < c 5) = false) (d11 : decide (c 6 < 0) = false) (d12 : decide (2 < c 6) = false) (h13 : Hid (wi (c 7) 0 1125899906842624 = false)) :
    Calls Try.prog 58 #[.agg (fc c)] w fun e w' => e = .returned (.int .i64 1) ∧ Below w.heap.size w w' := by
  have k := h.out
  go_enter Try.func58, Try.ntmps58
  go_wp2_with fail
  refine (account_is h2 _).mono ?_
  rintro e w' ⟨rfl, rfl⟩
  go_wp2_with fail
  refine (amount_is h4 _).mono ?_
  rintro e w' ⟨rfl, rfl⟩
  go_wp2_with fail
  refine (amount_is h13 _).mono ?_
  rintro e w' ⟨rfl, rfl⟩
  go_wp2
  go_ret
  exact ⟨rfl, below1 _ _⟩
set_option maxHeartbeats 1600000 in
theorem rChk_8x (c : Nat → Int) (w : World) (h : Hid (eqF c zeroF = false)) (d0 : decide (c 2 < 1) = false) (d1 : decide (8 < c 2) = false) (h2 : Hid (wi (c 0) 0 63 = true)) (d3 : decide (c 1 < 1) = false) (h4 : Hid (wi (c 1) 0 1125899906842624 = true)) (d5 : decide (c 3 < 0) = false) (d6 : decide (6 ≤ c 3) = false) (d7 : decide (c 4 < 0) = false) (d8 : decide (8 ≤ c 4) = false) (d9 : decide (c 5 < 0) = false) (d10 : decide (1073741824 < c 5) = false) (d11 : decide (c 6 < 0) = false) (d12 : decide (2 < c 6) = false) (h13 : Hid (wi (c 7) 0 1125899906842624 = true)) (h14 : Hid (wi (c 8) 0 1125899906842624 = false)) :
    Calls Try.prog 58 #[.agg (fc c)] w fun e w' => e = .returned (.int .i64 1) ∧ Below w.heap.size w w' := by
  have k := h.out
  go_enter Try.func58, Try.ntmps58
  go_wp2_with fail
  refine (account_is h2 _).mono ?_
  rintro e w' ⟨rfl, rfl⟩
  go_wp2_with fail
  refine (amount_is h4 _).mono ?_
  rintro e w' ⟨rfl, rfl⟩
  go_wp2_with fail
  refine (amount_is h13 _).mono ?_
  rintro e w' ⟨rfl, rfl⟩
  go_wp2_with fail
  refine (amount_is h14 _).mono ?_
  rintro e w' ⟨rfl, rfl⟩
  go_wp2
  go_ret
  exact ⟨rfl, below1 _ _⟩
set_option maxHeartbeats 1600000 in
theorem rChk_9x (c : Nat → Int) (w : World) (h : Hid (eqF c zeroF = false)) (d0 : decide (c 2 < 1) = false) (d1 : decide (8 < c 2) = false) (h2 : Hid (wi (c 0) 0 63 = true)) (d3 : decide (c 1 < 1) = false) (h4 : Hid (wi (c 1) 0 1125899906842624 = true)) (d5 : decide (c 3 < 0) = false) (d6 : decide (6 ≤ c 3) = false) (d7 : decide (c 4 < 0) = false) (d8 : decide (8 ≤ c 4) = false) (d9 : decide (c 5 < 0) = false) (d10 : decide (1073741824 < c 5) = false) (d11 : decide (c 6 < 0) = false) (d12 : decide (2 < c 6) = false) (h13 : Hid (wi (c 7) 0 1125899906842624 = true)) (h14 : Hid (wi (c 8) 0 1125899906842624 = true)) :
    Calls Try.prog 58 #[.agg (fc c)] w fun e w' => e = .returned (.int .i64 0) ∧ Below w.heap.size w w' := by
  have k := h.out
  go_enter Try.func58, Try.ntmps58
  go_wp2_with fail
  refine (account_is h2 _).mono ?_
  rintro e w' ⟨rfl, rfl⟩
  go_wp2_with fail
  refine (amount_is h4 _).mono ?_
  rintro e w' ⟨rfl, rfl⟩
  go_wp2_with fail
  refine (amount_is h13 _).mono ?_
  rintro e w' ⟨rfl, rfl⟩
  go_wp2_with fail
  refine (amount_is h14 _).mono ?_
  rintro e w' ⟨rfl, rfl⟩
  go_wp2
  go_ret
  exact ⟨rfl, below1 _ _⟩
end Go.Proofs.Ytmaecknjamnnpaa.Cm
/- Check, the document's own. -/
namespace Go.Proofs.Ytmaecknjamnnpaa.Cm
open Go.RowKit
set_option linter.unusedVariables false
open Go.Proofs.Ytmaecknjamnnpaa.Rw
open Go.Proofs.Ytmaecknjamnnpaa.Fx (ret_v ret_bool ret_int)
theorem rCheck_any (c : Nat → Int) (w : World) :
    Calls Try.prog 58 #[.agg (fc c)] w fun e w' => e = .returned (.int .i64 (chkE c)) ∧ Below w.heap.size w w' := by
  cases h : zeroB c
  · rcases first_no (c := c) with g | ⟨i, hi, hn, hy⟩
    · rw [show chkE c = 0 by simp [chkE, chkB, h, g]]
      obtain ⟨⟨a0, b0⟩, ⟨a1, b1⟩, ⟨a2, b2⟩, ⟨a3, b3⟩, ⟨a4, b4⟩, ⟨a5, b5⟩, ⟨a6, b6⟩, ⟨a7, b7⟩, ⟨a8, b8⟩⟩ := (lim_eq c).1 g
      exact rChk_9x c w (Lib.hid h) (by simp; omega) (by simp; omega) (Lib.hid (by exact wi_iff.2 ⟨by omega, by omega⟩)) (by simp; omega) (Lib.hid (by exact wi_iff.2 ⟨by omega, by omega⟩)) (by simp; omega) (by simp; omega) (by simp; omega) (by simp; omega) (by simp; omega) (by simp; omega) (by simp; omega) (by simp; omega) (Lib.hid (by exact wi_iff.2 ⟨by omega, by omega⟩)) (Lib.hid (by exact wi_iff.2 ⟨by omega, by omega⟩))
    · rw [show chkE c = 1 by simp [chkE, chkB, h, limB_no i hi hn]]
      match i, hi, hn, hy with
      | 0, _, hn, hy =>
        have hn' : ¬ (1 ≤ c 2 ∧ c 2 ≤ 8) := fun x => by rw [show tst c 0 = true from wi_iff.2 x] at hn; cases hn
        by_cases lo : c 2 < 1
        · exact rChk_0lo c w (Lib.hid h) (by simp; omega)
        · exact rChk_0hi c w (Lib.hid h) (by simp; omega) (by simp; omega)
      | 1, _, hn, hy =>
        obtain ⟨a0, b0⟩ := wi_iff.1 (show wi (c 2) 1 8 = true from hy 0 (by omega))
        have hn' : ¬ (0 ≤ c 0 ∧ c 0 ≤ 63) := fun x => by rw [show tst c 1 = true from wi_iff.2 x] at hn; cases hn
        exact rChk_1x c w (Lib.hid h) (by simp; omega) (by simp; omega) (Lib.hid (by exact hn))
      | 2, _, hn, hy =>
        obtain ⟨a0, b0⟩ := wi_iff.1 (show wi (c 2) 1 8 = true from hy 0 (by omega))
        obtain ⟨a1, b1⟩ := wi_iff.1 (show wi (c 0) 0 63 = true from hy 1 (by omega))
        have hn' : ¬ (1 ≤ c 1 ∧ c 1 ≤ 1125899906842624) := fun x => by rw [show tst c 2 = true from wi_iff.2 x] at hn; cases hn
        by_cases lo : c 1 < 1
        · exact rChk_2lo c w (Lib.hid h) (by simp; omega) (by simp; omega) (Lib.hid (by exact wi_iff.2 ⟨by omega, by omega⟩)) (by simp; omega)
        · exact rChk_2hi c w (Lib.hid h) (by simp; omega) (by simp; omega) (Lib.hid (by exact wi_iff.2 ⟨by omega, by omega⟩)) (by simp; omega) (Lib.hid (by rw [Bool.eq_false_iff]; intro x; have := wi_iff.1 x; omega))
      | 3, _, hn, hy =>
        obtain ⟨a0, b0⟩ := wi_iff.1 (show wi (c 2) 1 8 = true from hy 0 (by omega))
        obtain ⟨a1, b1⟩ := wi_iff.1 (show wi (c 0) 0 63 = true from hy 1 (by omega))
        obtain ⟨a2, b2⟩ := wi_iff.1 (show wi (c 1) 1 1125899906842624 = true from hy 2 (by omega))
        have hn' : ¬ (0 ≤ c 3 ∧ c 3 ≤ 5) := fun x => by rw [show tst c 3 = true from wi_iff.2 x] at hn; cases hn
        by_cases lo : c 3 < 0
        · exact rChk_3lo c w (Lib.hid h) (by simp; omega) (by simp; omega) (Lib.hid (by exact wi_iff.2 ⟨by omega, by omega⟩)) (by simp; omega) (Lib.hid (by exact wi_iff.2 ⟨by omega, by omega⟩)) (by simp; omega)
        · exact rChk_3hi c w (Lib.hid h) (by simp; omega) (by simp; omega) (Lib.hid (by exact wi_iff.2 ⟨by omega, by omega⟩)) (by simp; omega) (Lib.hid (by exact wi_iff.2 ⟨by omega, by omega⟩)) (by simp; omega) (by simp; omega)
      | 4, _, hn, hy =>
        obtain ⟨a0, b0⟩ := wi_iff.1 (show wi (c 2) 1 8 = true from hy 0 (by omega))
        obtain ⟨a1, b1⟩ := wi_iff.1 (show wi (c 0) 0 63 = true from hy 1 (by omega))
        obtain ⟨a2, b2⟩ := wi_iff.1 (show wi (c 1) 1 1125899906842624 = true from hy 2 (by omega))
        obtain ⟨a3, b3⟩ := wi_iff.1 (show wi (c 3) 0 5 = true from hy 3 (by omega))
        have hn' : ¬ (0 ≤ c 4 ∧ c 4 ≤ 7) := fun x => by rw [show tst c 4 = true from wi_iff.2 x] at hn; cases hn
        by_cases lo : c 4 < 0
        · exact rChk_4lo c w (Lib.hid h) (by simp; omega) (by simp; omega) (Lib.hid (by exact wi_iff.2 ⟨by omega, by omega⟩)) (by simp; omega) (Lib.hid (by exact wi_iff.2 ⟨by omega, by omega⟩)) (by simp; omega) (by simp; omega) (by simp; omega)
        · exact rChk_4hi c w (Lib.hid h) (by simp; omega) (by simp; omega) (Lib.hid (by exact wi_iff.2 ⟨by omega, by omega⟩)) (by simp; omega) (Lib.hid (by exact wi_iff.2 ⟨by omega, by omega⟩)) (by simp; omega) (by simp; omega) (by simp; omega) (by simp; omega)
      | 5, _, hn, hy =>
        obtain ⟨a0, b0⟩ := wi_iff.1 (show wi (c 2) 1 8 = true from hy 0 (by omega))
        obtain ⟨a1, b1⟩ := wi_iff.1 (show wi (c 0) 0 63 = true from hy 1 (by omega))
        obtain ⟨a2, b2⟩ := wi_iff.1 (show wi (c 1) 1 1125899906842624 = true from hy 2 (by omega))
        obtain ⟨a3, b3⟩ := wi_iff.1 (show wi (c 3) 0 5 = true from hy 3 (by omega))
        obtain ⟨a4, b4⟩ := wi_iff.1 (show wi (c 4) 0 7 = true from hy 4 (by omega))
        have hn' : ¬ (0 ≤ c 5 ∧ c 5 ≤ 1073741824) := fun x => by rw [show tst c 5 = true from wi_iff.2 x] at hn; cases hn
        by_cases lo : c 5 < 0
        · exact rChk_5lo c w (Lib.hid h) (by simp; omega) (by simp; omega) (Lib.hid (by exact wi_iff.2 ⟨by omega, by omega⟩)) (by simp; omega) (Lib.hid (by exact wi_iff.2 ⟨by omega, by omega⟩)) (by simp; omega) (by simp; omega) (by simp; omega) (by simp; omega) (by simp; omega)
        · exact rChk_5hi c w (Lib.hid h) (by simp; omega) (by simp; omega) (Lib.hid (by exact wi_iff.2 ⟨by omega, by omega⟩)) (by simp; omega) (Lib.hid (by exact wi_iff.2 ⟨by omega, by omega⟩)) (by simp; omega) (by simp; omega) (by simp; omega) (by simp; omega) (by simp; omega) (by simp; omega)
      | 6, _, hn, hy =>
        obtain ⟨a0, b0⟩ := wi_iff.1 (show wi (c 2) 1 8 = true from hy 0 (by omega))
        obtain ⟨a1, b1⟩ := wi_iff.1 (show wi (c 0) 0 63 = true from hy 1 (by omega))
        obtain ⟨a2, b2⟩ := wi_iff.1 (show wi (c 1) 1 1125899906842624 = true from hy 2 (by omega))
        obtain ⟨a3, b3⟩ := wi_iff.1 (show wi (c 3) 0 5 = true from hy 3 (by omega))
        obtain ⟨a4, b4⟩ := wi_iff.1 (show wi (c 4) 0 7 = true from hy 4 (by omega))
        obtain ⟨a5, b5⟩ := wi_iff.1 (show wi (c 5) 0 1073741824 = true from hy 5 (by omega))
        have hn' : ¬ (0 ≤ c 6 ∧ c 6 ≤ 2) := fun x => by rw [show tst c 6 = true from wi_iff.2 x] at hn; cases hn
        by_cases lo : c 6 < 0
        · exact rChk_6lo c w (Lib.hid h) (by simp; omega) (by simp; omega) (Lib.hid (by exact wi_iff.2 ⟨by omega, by omega⟩)) (by simp; omega) (Lib.hid (by exact wi_iff.2 ⟨by omega, by omega⟩)) (by simp; omega) (by simp; omega) (by simp; omega) (by simp; omega) (by simp; omega) (by simp; omega) (by simp; omega)
        · exact rChk_6hi c w (Lib.hid h) (by simp; omega) (by simp; omega) (Lib.hid (by exact wi_iff.2 ⟨by omega, by omega⟩)) (by simp; omega) (Lib.hid (by exact wi_iff.2 ⟨by omega, by omega⟩)) (by simp; omega) (by simp; omega) (by simp; omega) (by simp; omega) (by simp; omega) (by simp; omega) (by simp; omega) (by simp; omega)
      | 7, _, hn, hy =>
        obtain ⟨a0, b0⟩ := wi_iff.1 (show wi (c 2) 1 8 = true from hy 0 (by omega))
        obtain ⟨a1, b1⟩ := wi_iff.1 (show wi (c 0) 0 63 = true from hy 1 (by omega))
        obtain ⟨a2, b2⟩ := wi_iff.1 (show wi (c 1) 1 1125899906842624 = true from hy 2 (by omega))
        obtain ⟨a3, b3⟩ := wi_iff.1 (show wi (c 3) 0 5 = true from hy 3 (by omega))
        obtain ⟨a4, b4⟩ := wi_iff.1 (show wi (c 4) 0 7 = true from hy 4 (by omega))
        obtain ⟨a5, b5⟩ := wi_iff.1 (show wi (c 5) 0 1073741824 = true from hy 5 (by omega))
        obtain ⟨a6, b6⟩ := wi_iff.1 (show wi (c 6) 0 2 = true from hy 6 (by omega))
        have hn' : ¬ (0 ≤ c 7 ∧ c 7 ≤ 1125899906842624) := fun x => by rw [show tst c 7 = true from wi_iff.2 x] at hn; cases hn
        exact rChk_7x c w (Lib.hid h) (by simp; omega) (by simp; omega) (Lib.hid (by exact wi_iff.2 ⟨by omega, by omega⟩)) (by simp; omega) (Lib.hid (by exact wi_iff.2 ⟨by omega, by omega⟩)) (by simp; omega) (by simp; omega) (by simp; omega) (by simp; omega) (by simp; omega) (by simp; omega) (by simp; omega) (by simp; omega) (Lib.hid (by exact hn))
      | 8, _, hn, hy =>
        obtain ⟨a0, b0⟩ := wi_iff.1 (show wi (c 2) 1 8 = true from hy 0 (by omega))
        obtain ⟨a1, b1⟩ := wi_iff.1 (show wi (c 0) 0 63 = true from hy 1 (by omega))
        obtain ⟨a2, b2⟩ := wi_iff.1 (show wi (c 1) 1 1125899906842624 = true from hy 2 (by omega))
        obtain ⟨a3, b3⟩ := wi_iff.1 (show wi (c 3) 0 5 = true from hy 3 (by omega))
        obtain ⟨a4, b4⟩ := wi_iff.1 (show wi (c 4) 0 7 = true from hy 4 (by omega))
        obtain ⟨a5, b5⟩ := wi_iff.1 (show wi (c 5) 0 1073741824 = true from hy 5 (by omega))
        obtain ⟨a6, b6⟩ := wi_iff.1 (show wi (c 6) 0 2 = true from hy 6 (by omega))
        obtain ⟨a7, b7⟩ := wi_iff.1 (show wi (c 7) 0 1125899906842624 = true from hy 7 (by omega))
        have hn' : ¬ (0 ≤ c 8 ∧ c 8 ≤ 1125899906842624) := fun x => by rw [show tst c 8 = true from wi_iff.2 x] at hn; cases hn
        exact rChk_8x c w (Lib.hid h) (by simp; omega) (by simp; omega) (Lib.hid (by exact wi_iff.2 ⟨by omega, by omega⟩)) (by simp; omega) (Lib.hid (by exact wi_iff.2 ⟨by omega, by omega⟩)) (by simp; omega) (by simp; omega) (by simp; omega) (by simp; omega) (by simp; omega) (by simp; omega) (by simp; omega) (by simp; omega) (Lib.hid (by exact wi_iff.2 ⟨by omega, by omega⟩)) (Lib.hid (by exact hn))
  · rw [show chkE c = 0 by simp [chkE, chkB, h]]
    exact rCheck_zero c w (Lib.hid h)
theorem rCheck_is {c : Nat → Int} {r : Int} (h : Hid (chkE c = r)) (w : World) :
    Calls Try.prog 58 #[.agg (fc c)] w fun e w' => e = .returned (.int .i64 r) ∧ Below w.heap.size w w' := by
  rw [← h.out]; exact rCheck_any c w
end Go.Proofs.Ytmaecknjamnnpaa.Cm
