/- awake: the contracts at its numbers. -/
import Derived.Test.YtodlibpibopnoaaDoorCrD
namespace Go.Proofs.YtodlibpibopnoaaDoor.Cr
open Go.RowKit
set_option linter.unusedVariables false
open Go.Proofs.YtodlibpibopnoaaDoor.Fx
theorem aw1 : frameV ⟨#[97, 98]⟩ = .tuple #[.string ⟨#[0, 2, 97, 98, 224, 81, 154, 253]⟩, .int .i64 0] := by kernel_rfl
theorem aw2 : openV ⟨#[120, 0, 2, 97, 98, 224, 81, 154, 253]⟩ 1 = .tuple #[.string ⟨#[97, 98]⟩, .int .i64 9, .int .i64 0] := by kernel_rfl
theorem aw3 : sumS ⟨#[49, 50, 51, 52, 53, 54, 55, 56, 57]⟩ = 3421780262 := by kernel_rfl
theorem awc1 (w : World) (ht : Tab w) : Calls Tryd.prog 20 #[.string ⟨#[97, 98]⟩] w fun e w' => e = .returned (.tuple #[.string ⟨#[0, 2, 97, 98, 224, 81, 154, 253]⟩, .int .i64 0]) ∧ Below w.heap.size w w' := by
  rw [← aw1]; exact frame_any _ (by decide) _ ht
theorem awc2 (w : World) (ht : Tab w) : Calls Tryd.prog 18 #[.string ⟨#[120, 0, 2, 97, 98, 224, 81, 154, 253]⟩, .int .i64 1] w fun e w' => e = .returned (.tuple #[.string ⟨#[97, 98]⟩, .int .i64 9, .int .i64 0]) ∧ Below w.heap.size w w' := by
  rw [← aw2]; exact open_any _ _ (by decide) _ ht
theorem awc3 (w : World) (ht : Tab w) : Calls Tryd.prog 27 #[.string ⟨#[49, 50, 51, 52, 53, 54, 55, 56, 57]⟩] w fun e w' => e = .returned (.int .i64 3421780262) ∧ w = w' := by
  have h := sum_any ⟨#[49, 50, 51, 52, 53, 54, 55, 56, 57]⟩ (by decide) w ht
  rw [aw3] at h; exact h
end Go.Proofs.YtodlibpibopnoaaDoor.Cr
