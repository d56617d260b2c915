/- Check, the document's own. -/
import Derived.Test.YtinopnmacfkiiaaDoorCmBr0
namespace Go.Proofs.YtinopnmacfkiiaaDoor.Cm
open Go.RowKit
set_option linter.unusedVariables false
open Go.Proofs.YtinopnmacfkiiaaDoor.Rw
open Go.Proofs.YtinopnmacfkiiaaDoor.Fx (ret_v ret_bool ret_int)
set_option maxHeartbeats 1600000 in
theorem rChk_4lo (c : Nat → Int) (w : World) (h : Hid (eqF c zeroF = false)) (d0 : decide (c 2 < 1) = false) (d1 : decide (8 < c 2) = false) (h2 : Hid (wi (c 0) 0 63 = true)) (d3 : decide (c 1 < 1) = false) (h4 : Hid (wi (c 1) 0 1125899906842624 = true)) (d5 : decide (c 3 < 0) = false) (d6 : decide (6 ≤ c 3) = false) (d7 : decide (c 4 < 0) = true) :
    Calls Tryd.prog 10 #[.agg (fc c)] w fun e w' => e = .returned (.int .i64 1) ∧ Below w.heap.size w w' := by
  have k := h.out
  go_enter Tryd.func10, Tryd.ntmps10
  go_wp2_with fail
  refine (account_is h2 _).mono ?_
  rintro e w' ⟨rfl, rfl⟩
  go_wp2_with fail
  refine (amount_is h4 _).mono ?_
  rintro e w' ⟨rfl, rfl⟩
  go_wp2
  go_ret
  exact ⟨rfl, below1 _ _⟩
set_option maxHeartbeats 1600000 in
theorem rChk_4hi (c : Nat → Int) (w : World) (h : Hid (eqF c zeroF = false)) (d0 : decide (c 2 < 1) = false) (d1 : decide (8 < c 2) = false) (h2 : Hid (wi (c 0) 0 63 = true)) (d3 : decide (c 1 < 1) = false) (h4 : Hid (wi (c 1) 0 1125899906842624 = true)) (d5 : decide (c 3 < 0) = false) (d6 : decide (6 ≤ c 3) = false) (d7 : decide (c 4 < 0) = false) (d8 : decide (8 ≤ c 4) = true) :
    Calls Tryd.prog 10 #[.agg (fc c)] w fun e w' => e = .returned (.int .i64 1) ∧ Below w.heap.size w w' := by
  have k := h.out
  go_enter Tryd.func10, Tryd.ntmps10
  go_wp2_with fail
  refine (account_is h2 _).mono ?_
  rintro e w' ⟨rfl, rfl⟩
  go_wp2_with fail
  refine (amount_is h4 _).mono ?_
  rintro e w' ⟨rfl, rfl⟩
  go_wp2
  go_ret
  exact ⟨rfl, below1 _ _⟩
set_option maxHeartbeats 1600000 in
theorem rChk_5lo (c : Nat → Int) (w : World) (h : Hid (eqF c zeroF = false)) (d0 : decide (c 2 < 1) = false) (d1 : decide (8 < c 2) = false) (h2 : Hid (wi (c 0) 0 63 = true)) (d3 : decide (c 1 < 1) = false) (h4 : Hid (wi (c 1) 0 1125899906842624 = true)) (d5 : decide (c 3 < 0) = false) (d6 : decide (6 ≤ c 3) = false) (d7 : decide (c 4 < 0) = false) (d8 : decide (8 ≤ c 4) = false) (d9 : decide (c 5 < 0) = true) :
    Calls Tryd.prog 10 #[.agg (fc c)] w fun e w' => e = .returned (.int .i64 1) ∧ Below w.heap.size w w' := by
  have k := h.out
  go_enter Tryd.func10, Tryd.ntmps10
  go_wp2_with fail
  refine (account_is h2 _).mono ?_
  rintro e w' ⟨rfl, rfl⟩
  go_wp2_with fail
  refine (amount_is h4 _).mono ?_
  rintro e w' ⟨rfl, rfl⟩
  go_wp2
  go_ret
  exact ⟨rfl, below1 _ _⟩
set_option maxHeartbeats 1600000 in
theorem rChk_5hi (c : Nat → Int) (w : World) (h : Hid (eqF c zeroF = false)) (d0 : decide (c 2 < 1) = false) (d1 : decide (8 < c 2) = false) (h2 : Hid (wi (c 0) 0 63 = true)) (d3 : decide (c 1 < 1) = false) (h4 : Hid (wi (c 1) 0 1125899906842624 = true)) (d5 : decide (c 3 < 0) = false) (d6 : decide (6 ≤ c 3) = false) (d7 : decide (c 4 < 0) = false) (d8 : decide (8 ≤ c 4) = false) (d9 : decide (c 5 < 0) = false) (d10 : decide (1073741824 < c 5) = true) :
    Calls Tryd.prog 10 #[.agg (fc c)] w fun e w' => e = .returned (.int .i64 1) ∧ Below w.heap.size w w' := by
  have k := h.out
  go_enter Tryd.func10, Tryd.ntmps10
  go_wp2_with fail
  refine (account_is h2 _).mono ?_
  rintro e w' ⟨rfl, rfl⟩
  go_wp2_with fail
  refine (amount_is h4 _).mono ?_
  rintro e w' ⟨rfl, rfl⟩
  go_wp2
  go_ret
  exact ⟨rfl, below1 _ _⟩
set_option maxHeartbeats 1600000 in
theorem rChk_6lo (c : Nat → Int) (w : World) (h : Hid (eqF c zeroF = false)) (d0 : decide (c 2 < 1) = false) (d1 : decide (8 < c 2) = false) (h2 : Hid (wi (c 0) 0 63 = true)) (d3 : decide (c 1 < 1) = false) (h4 : Hid (wi (c 1) 0 1125899906842624 = true)) (d5 : decide (c 3 < 0) = false) (d6 : decide (6 ≤ c 3) = false) (d7 : decide (c 4 < 0) = false) (d8 : decide (8 ≤ c 4) = false) (d9 : decide (c 5 < 0) = false) (d10 : decide (1073741824 < c 5) = false) (d11 : decide (c 6 < 0) = true) :
    Calls Tryd.prog 10 #[.agg (fc c)] w fun e w' => e = .returned (.int .i64 1) ∧ Below w.heap.size w w' := by
  have k := h.out
  go_enter Tryd.func10, Tryd.ntmps10
  go_wp2_with fail
  refine (account_is h2 _).mono ?_
  rintro e w' ⟨rfl, rfl⟩
  go_wp2_with fail
  refine (amount_is h4 _).mono ?_
  rintro e w' ⟨rfl, rfl⟩
  go_wp2
  go_ret
  exact ⟨rfl, below1 _ _⟩
end Go.Proofs.YtinopnmacfkiiaaDoor.Cm
