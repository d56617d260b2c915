/- Of layer 14, plain mathematics: what is refused, what is done to one zone. -/
import Derived.Test.YtnnbjhpkgndclaaGreatDoorQsZZ
import Derived.Test.YtnnbjhpkgndclaaGreatDoorQsAW
set_option linter.unusedVariables false
namespace Go.Proofs.YtnnbjhpkgndclaaGreatDoor.Dk
theorem readE_cases (d : Ds) (z : Int) : (readE d z = 15 ∧ d.n = true) ∨ (readE d z = 1 ∧ d.n = false) ∨ (readE d z = 0 ∧ d.n = false ∧ (z = 0 ∨ z = 1)) := by
  unfold readE
  cases h : d.n
  · by_cases hz : zoneB z = true
    · refine .inr (.inr ⟨by rw [if_neg (by simp),if_pos hz],rfl,by simpa [zoneB] using hz⟩)
    · refine .inr (.inl ⟨by rw [if_neg (by simp),if_neg hz],rfl⟩)
  · exact .inl ⟨by simp,rfl⟩
def left (d : Ds) (e : Int) : Ds := if e = 15 ∧ d.n = false then { d with n := true } else d
abbrev Pz := ByteArray × ByteArray
theorem ext_all (s : ByteArray) : s.extract 0 s.size = s := by
  obtain ⟨a⟩ := s
  apply ByteArray.ext
  simp
end Go.Proofs.YtnnbjhpkgndclaaGreatDoor.Dk
