/- Check, the document's own. -/
import Derived.Test.YtinopnmacfkiiaaDoorCmA
namespace Go.Proofs.YtinopnmacfkiiaaDoor.Cm
open Go.RowKit
set_option linter.unusedVariables false
open Go.Proofs.YtinopnmacfkiiaaDoor.Rw
open Go.Proofs.YtinopnmacfkiiaaDoor.Fx (ret_v ret_bool ret_int)
theorem account_is {n : Int} {r : Bool} (h : Hid (wi n 0 63 = r)) (w : World) :
    Calls Tryd.prog 24 #[.int .i64 n] w fun e w' => e = .returned (.bool r) ∧ w = w' := by
  rw [← h.out]; exact account_any n w
theorem amount_is {n : Int} {r : Bool} (h : Hid (wi n 0 1125899906842624 = r)) (w : World) :
    Calls Tryd.prog 25 #[.int .i64 n] w fun e w' => e = .returned (.bool r) ∧ w = w' := by
  rw [← h.out]; exact amount_any n w
set_option maxHeartbeats 400000 in
theorem rCheck_zero (c : Nat → Int) (w : World) (h : Hid (eqF c zeroF = true)) :
    Calls Tryd.prog 10 #[.agg (fc c)] w fun e w' => e = .returned (.int .i64 0) ∧ Below w.heap.size w w' := by
  have k := h.out
  go_enter Tryd.func10, Tryd.ntmps10
  go_wp2
  go_ret
  exact ⟨rfl, below1 _ _⟩
end Go.Proofs.YtinopnmacfkiiaaDoor.Cm
