/- The document's own of layer 16: value, place. -/
import Derived.Test.YtoncmbglmebkiaaRcA
namespace Go.Proofs.Ytoncmbglmebkiaa.Rc
open Go.RowKit
set_option linter.unusedVariables false
open Go.Proofs.Ytoncmbglmebkiaa.Rw
open Go.Proofs.Ytoncmbglmebkiaa.Cm (chkB chkE)
open Go.Proofs.Ytoncmbglmebkiaa.Ve (rightB)
theorem chk_yes {c : Nat → Int} (h : chkB c = true) : chkE c = 0 := by unfold chkE; rw [h]; rfl
theorem chk_no {c : Nat → Int} (h : chkB c = false) : chkE c = 1 := by unfold chkE; rw [h]; rfl
def okP (r s n : Int) : Bool := decide (0 ≤ r ∧ r < n ∧ 1 ≤ s ∧ s ≤ 400)
theorem okP_no {r s n : Int} (h : ¬ (0 ≤ r ∧ r < n ∧ 1 ≤ s ∧ s ≤ 400)) : okP r s n = false := decide_eq_false h
end Go.Proofs.Ytoncmbglmebkiaa.Rc
