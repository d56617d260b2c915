/- awake: the contracts at its numbers. -/
import Derived.Test.YtifbibdbnehbbaaDoorCrD
namespace Go.Proofs.YtifbibdbnehbbaaDoor.Cr
open Go.RowKit
set_option linter.unusedVariables false
open Go.Proofs.YtifbibdbnehbbaaDoor.Fx
theorem aw1 : frameV ⟨#[97, 98]⟩ = .tuple #[.string ⟨#[0, 2, 97, 98, 224, 81, 154, 253]⟩, .int .i64 0] := by kernel_rfl
theorem aw2 : openV ⟨#[120, 0, 2, 97, 98, 224, 81, 154, 253]⟩ 1 = .tuple #[.string ⟨#[97, 98]⟩, .int .i64 9, .int .i64 0] := by kernel_rfl
theorem aw3 : sumS ⟨#[49, 50, 51, 52, 53, 54, 55, 56, 57]⟩ = 3421780262 := by kernel_rfl
theorem awc1 (w : World) (ht : Tab w) : Calls Tryd.prog 10 #[.string ⟨#[97, 98]⟩] w fun e w' => e = .returned (.tuple #[.string ⟨#[0, 2, 97, 98, 224, 81, 154, 253]⟩, .int .i64 0]) ∧ Below w.heap.size w w' := by
  rw [← aw1]; exact frame_any _ (by decide) _ ht
theorem awc2 (w : World) (ht : Tab w) : Calls Tryd.prog 14 #[.string ⟨#[120, 0, 2, 97, 98, 224, 81, 154, 253]⟩, .int .i64 1] w fun e w' => e = .returned (.tuple #[.string ⟨#[97, 98]⟩, .int .i64 9, .int .i64 0]) ∧ Below w.heap.size w w' := by
  rw [← aw2]; exact open_any _ _ (by decide) _ ht
theorem awc3 (w : World) (ht : Tab w) : Calls Tryd.prog 12 #[.string ⟨#[49, 50, 51, 52, 53, 54, 55, 56, 57]⟩] w fun e w' => e = .returned (.int .i64 3421780262) ∧ w = w' := by
  have h := sum_any ⟨#[49, 50, 51, 52, 53, 54, 55, 56, 57]⟩ (by decide) w ht
  rw [aw3] at h; exact h
set_option maxHeartbeats 400000 in
theorem awake_any (w : World) (ht : Tab w) : Calls Tryd.prog 9 #[] w fun e w' => e = .returned (.bool true) ∧ Below w.heap.size w w' := by
  have HT := Lib.hid ht
  clear ht
  go_enter Tryd.func9, Tryd.ntmps9
  go_wp2_with fail
  refine (awc1 _ HT.out).mono ?_
  rintro e w1 ⟨rfl, hb1⟩
  go_wp2_with fail
  refine (awc2 _ (HT.out.below hb1)).mono ?_
  rintro e w2 ⟨rfl, hb2⟩
  have HT2 := Lib.hid (HT.out.below (nx hb1 hb2))
  go_wp2_with fail
  refine (awc3 _ HT2.out).mono ?_
  rintro e w' ⟨rfl, rfl⟩
  go_wp2
  go_ret
  exact ⟨rfl, nx hb1 hb2⟩
end Go.Proofs.YtifbibdbnehbbaaDoor.Cr
