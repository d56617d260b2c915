/- The document's own Right; awake of the law of layer 5. -/
import Derived.Test.YtoncmbglmebkiaaVeC
namespace Go.Proofs.Ytoncmbglmebkiaa.Ve
open Go.RowKit
set_option linter.unusedVariables false
open Go.Proofs.Ytoncmbglmebkiaa.Fx (nx nd)
theorem right_is (v : Nat → Int) (n : Int) (x : Bool) (h : rightB v n = x) (w : World) :
    Calls Try.prog 32 #[.agg (fc v), .int .i64 n] w fun e w' => e = .returned (.bool x) ∧ Below w.heap.size w w' := by
  rw [← h]; exact right_any v n w
/-- A vector lies in the last block. -/
theorem lay (w : World) (v : Nat → Int) (t : TypeId) : ∃ W, W = w.alloc (.cells (fc v) t) ∧ Below w.heap.size w W ∧ row W w.heap.size = fc v ∧ w.heap.size < W.heap.size :=
  ⟨_, rfl, below1 _ _, row_new _ _ _ _ rfl, by simp⟩
end Go.Proofs.Ytoncmbglmebkiaa.Ve
