/- Ballots as pairs of numbers. -/
import Derived.Test.YtnnbjhpkgndclaaGreatDoorQsZZ
import Derived.Lib.Hide
set_option linter.unusedVariables false
namespace Go.Proofs.YtnnbjhpkgndclaaGreatDoor.Ba
def lessB (a b c d : Int) : Bool := decide (a < c ∨ a = c ∧ b < d)
def valB (n r : Int) : Bool := decide (0 ≤ n ∧ n ≤ 1073741824 ∧ 0 ≤ r ∧ r < 7)
def latN (a b c d : Int) : Int := if lessB c d a b = true then a else c
def latR (a b c d : Int) : Int := if lessB c d a b = true then b else d
theorem lessB_iff {a b c d : Int} : lessB a b c d = true ↔ (a < c ∨ a = c ∧ b < d) := by simp [lessB]
theorem lessB_no {a b c d : Int} : lessB a b c d = false ↔ ¬ (a < c ∨ a = c ∧ b < d) := by simp [lessB]
theorem valB_iff {n r : Int} : valB n r = true ↔ (0 ≤ n ∧ n ≤ 1073741824 ∧ 0 ≤ r ∧ r < 7) := by simp [valB]
theorem valB_no {n r : Int} (h : ¬ (0 ≤ n ∧ n ≤ 1073741824 ∧ 0 ≤ r ∧ r < 7)) : valB n r = false := by simpa [valB] using h
theorem less_later (a b c d : Int) : ((latN a b c d == a) && (latR a b c d == b)) = !lessB a b c d := by
  unfold latN latR
  by_cases h : lessB c d a b = true
  · have h1 := lessB_iff.1 h
    have h2 : lessB a b c d = false := lessB_no.2 (by omega)
    rw [if_pos h,if_pos h,h2];simp
  · have h1 : ¬ (c < a ∨ c = a ∧ d < b) := fun x => h (lessB_iff.2 x)
    rw [if_neg h,if_neg h]
    by_cases e : c = a ∧ d = b
    · obtain ⟨rfl,rfl⟩ := e
      have h2 : lessB c d c d = false := lessB_no.2 (by omega)
      simp [h2]
    · have h2 : lessB a b c d = true := lessB_iff.2 (by omega)
      rw [h2];simp;exact fun x y => e ⟨x,y⟩
end Go.Proofs.YtnnbjhpkgndclaaGreatDoor.Ba
