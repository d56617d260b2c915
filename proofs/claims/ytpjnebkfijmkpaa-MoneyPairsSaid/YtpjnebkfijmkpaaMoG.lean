/- The examples of the statements about amounts. -/
import Derived.Test.YtpjnebkfijmkpaaMoF
namespace Go.Proofs.Ytpjnebkfijmkpaa.Mo
open Go.RowKit
set_option linter.unusedVariables false
open Go.Proofs.Ytpjnebkfijmkpaa.Fx (nx nd)
set_option maxHeartbeats 1600000 in
theorem awake_any (w : World) : Calls Try.prog 15 #[] w fun e w' => e = .returned (.bool true) ∧ Below w.heap.size w w' := by
  have A1 : Hid (addS 3 4 = 7) := Lib.hid (by kernel_rfl)
  have A2 : Hid (addE 3 4 = 0) := Lib.hid (by kernel_rfl)
  have B1 : Hid (subS 3 5 = 0) := Lib.hid (by kernel_rfl)
  have B2 : Hid (subE 3 5 = 7) := Lib.hid (by kernel_rfl)
  have C1 : Hid (mulS 2 1125899906842624 = 0) := Lib.hid (by kernel_rfl)
  have C2 : Hid (mulE 2 1125899906842624 = 6) := Lib.hid (by kernel_rfl)
  have D1 : Hid (shareS 10 1 3 = 3) := Lib.hid (by kernel_rfl)
  have D2 : Hid (shareE 10 1 3 = 0) := Lib.hid (by kernel_rfl)
  have E1 : Hid (may 0 = true) := Lib.hid (by kernel_rfl)
  have E2 : Hid (may (-1) = false) := Lib.hid (by kernel_rfl)
  go_enter Try.func15, Try.ntmps15
  go_wp2_with fail
  refine (add_any 3 4 (by kernel_rfl) (by kernel_rfl) _).mono ?_
  rintro e w1 ⟨rfl, hb1⟩
  rw [A1.out, A2.out]
  go_wp2_with fail
  refine (sub_any 3 5 (by kernel_rfl) (by kernel_rfl) _).mono ?_
  rintro e w2 ⟨rfl, hb2⟩
  rw [B1.out, B2.out]
  go_wp2_with fail
  refine (mul_any 2 1125899906842624 (by kernel_rfl) (by kernel_rfl) _).mono ?_
  rintro e w3 ⟨rfl, hb3⟩
  rw [C1.out, C2.out]
  go_wp2_with fail
  refine (share_any 10 1 3 (by kernel_rfl) (by kernel_rfl) (by kernel_rfl) _).mono ?_
  rintro e w4 ⟨rfl, hb4⟩
  rw [D1.out, D2.out]
  go_wp2_with fail
  refine (may_any 0 w4).mono ?_
  rintro e w' ⟨rfl, rfl⟩
  rw [E1.out]
  go_wp2_with fail
  refine (may_any (-1) w4).mono ?_
  rintro e w' ⟨rfl, rfl⟩
  rw [E2.out]
  go_wp2
  go_ret
  exact ⟨rfl, nx (nx (nx hb1 hb2) hb3) hb4⟩
end Go.Proofs.Ytpjnebkfijmkpaa.Mo
