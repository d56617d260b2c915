/- The document's own Add, Sub, Mul. -/
import Derived.Test.YteandjnbcolphaaMoB
namespace Go.Proofs.Yteandjnbcolphaa.Mo
open Go.RowKit
set_option linter.unusedVariables false
open Go.Proofs.Yteandjnbcolphaa.Fx (nx nd)
set_option maxHeartbeats 1600000 in
theorem rAdd_any (a b : Int) (w : World) :
    Calls Try.prog 25 #[.int .i64 a, .int .i64 b] w fun e w' => e = .returned (.tuple #[.int .i64 (addS a b), .int .i64 (addE a b)]) ∧ w = w' := by
  by_cases ha : may a = true
  · have HA := Lib.hid ha
    have ba := may_iff.1 ha
    by_cases hb : may b = true
    · have HB := Lib.hid hb
      have bb := may_iff.1 hb
      have h : may a = true ∧ may b = true := ⟨ha, hb⟩
      by_cases hg : 1125899906842624 - a < b
      · have HS : Hid (addS a b = 0) := Lib.hid (by unfold addS add2; rw [if_pos h, if_pos hg])
        have HE : Hid (addE a b = 6) := Lib.hid (by unfold addE add2; rw [if_pos h, if_pos hg])
        clear h ha hb
        rw [HS.out, HE.out]
        go_enter Try.func25, Try.ntmps25
        go_wp2_with fail
        refine (rMay_any a w).mono ?_
        rintro e w' ⟨rfl, rfl⟩
        rw [HA.out]
        go_wp2_with fail
        refine (rMay_any b w).mono ?_
        rintro e w' ⟨rfl, rfl⟩
        rw [HB.out]
        go_wp2
        go_ret2
        exact ⟨rfl, rfl⟩
      · have HS : Hid (addS a b = a + b) := Lib.hid (by unfold addS add2; rw [if_pos h, if_neg hg])
        have HE : Hid (addE a b = 0) := Lib.hid (by unfold addE add2; rw [if_pos h, if_neg hg])
        clear h ha hb
        rw [HS.out, HE.out]
        go_enter Try.func25, Try.ntmps25
        go_wp2_with fail
        refine (rMay_any a w).mono ?_
        rintro e w' ⟨rfl, rfl⟩
        rw [HA.out]
        go_wp2_with fail
        refine (rMay_any b w).mono ?_
        rintro e w' ⟨rfl, rfl⟩
        rw [HB.out]
        go_wp2
        go_ret2
        exact ⟨rfl, rfl⟩
    · have HB : Hid (may b = false) := Lib.hid (by simpa using hb)
      have HS : Hid (addS a b = 0) := Lib.hid (by unfold addS add2; rw [if_neg (fun x => hb x.2)])
      have HE : Hid (addE a b = 1) := Lib.hid (by unfold addE add2; rw [if_neg (fun x => hb x.2)])
      clear ha hb
      rw [HS.out, HE.out]
      go_enter Try.func25, Try.ntmps25
      go_wp2_with fail
      refine (rMay_any a w).mono ?_
      rintro e w' ⟨rfl, rfl⟩
      rw [HA.out]
      go_wp2_with fail
      refine (rMay_any b w).mono ?_
      rintro e w' ⟨rfl, rfl⟩
      rw [HB.out]
      go_wp2
      go_ret2
      exact ⟨rfl, rfl⟩
  · have HA : Hid (may a = false) := Lib.hid (by simpa using ha)
    have HS : Hid (addS a b = 0) := Lib.hid (by unfold addS add2; rw [if_neg (fun x => ha x.1)])
    have HE : Hid (addE a b = 1) := Lib.hid (by unfold addE add2; rw [if_neg (fun x => ha x.1)])
    clear ha
    rw [HS.out, HE.out]
    go_enter Try.func25, Try.ntmps25
    go_wp2_with fail
    refine (rMay_any a w).mono ?_
    rintro e w' ⟨rfl, rfl⟩
    rw [HA.out]
    go_wp2
    go_ret2
    exact ⟨rfl, rfl⟩
set_option maxHeartbeats 1600000 in
theorem rSub_any (a b : Int) (w : World) :
    Calls Try.prog 28 #[.int .i64 a, .int .i64 b] w fun e w' => e = .returned (.tuple #[.int .i64 (subS a b), .int .i64 (subE a b)]) ∧ w = w' := by
  by_cases ha : may a = true
  · have HA := Lib.hid ha
    have ba := may_iff.1 ha
    by_cases hb : may b = true
    · have HB := Lib.hid hb
      have bb := may_iff.1 hb
      have h : may a = true ∧ may b = true := ⟨ha, hb⟩
      by_cases hg : a < b
      · have HS : Hid (subS a b = 0) := Lib.hid (by unfold subS sub2; rw [if_pos h, if_pos hg])
        have HE : Hid (subE a b = 7) := Lib.hid (by unfold subE sub2; rw [if_pos h, if_pos hg])
        clear h ha hb
        rw [HS.out, HE.out]
        go_enter Try.func28, Try.ntmps28
        go_wp2_with fail
        refine (rMay_any a w).mono ?_
        rintro e w' ⟨rfl, rfl⟩
        rw [HA.out]
        go_wp2_with fail
        refine (rMay_any b w).mono ?_
        rintro e w' ⟨rfl, rfl⟩
        rw [HB.out]
        go_wp2
        go_ret2
        exact ⟨rfl, rfl⟩
      · have HS : Hid (subS a b = a - b) := Lib.hid (by unfold subS sub2; rw [if_pos h, if_neg hg])
        have HE : Hid (subE a b = 0) := Lib.hid (by unfold subE sub2; rw [if_pos h, if_neg hg])
        clear h ha hb
        rw [HS.out, HE.out]
        go_enter Try.func28, Try.ntmps28
        go_wp2_with fail
        refine (rMay_any a w).mono ?_
        rintro e w' ⟨rfl, rfl⟩
        rw [HA.out]
        go_wp2_with fail
        refine (rMay_any b w).mono ?_
        rintro e w' ⟨rfl, rfl⟩
        rw [HB.out]
        go_wp2
        go_ret2
        exact ⟨rfl, rfl⟩
    · have HB : Hid (may b = false) := Lib.hid (by simpa using hb)
      have HS : Hid (subS a b = 0) := Lib.hid (by unfold subS sub2; rw [if_neg (fun x => hb x.2)])
      have HE : Hid (subE a b = 1) := Lib.hid (by unfold subE sub2; rw [if_neg (fun x => hb x.2)])
      clear ha hb
      rw [HS.out, HE.out]
      go_enter Try.func28, Try.ntmps28
      go_wp2_with fail
      refine (rMay_any a w).mono ?_
      rintro e w' ⟨rfl, rfl⟩
      rw [HA.out]
      go_wp2_with fail
      refine (rMay_any b w).mono ?_
      rintro e w' ⟨rfl, rfl⟩
      rw [HB.out]
      go_wp2
      go_ret2
      exact ⟨rfl, rfl⟩
  · have HA : Hid (may a = false) := Lib.hid (by simpa using ha)
    have HS : Hid (subS a b = 0) := Lib.hid (by unfold subS sub2; rw [if_neg (fun x => ha x.1)])
    have HE : Hid (subE a b = 1) := Lib.hid (by unfold subE sub2; rw [if_neg (fun x => ha x.1)])
    clear ha
    rw [HS.out, HE.out]
    go_enter Try.func28, Try.ntmps28
    go_wp2_with fail
    refine (rMay_any a w).mono ?_
    rintro e w' ⟨rfl, rfl⟩
    rw [HA.out]
    go_wp2
    go_ret2
    exact ⟨rfl, rfl⟩
end Go.Proofs.Yteandjnbcolphaa.Mo
