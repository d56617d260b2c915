/- The document's own Add, Sub, Mul. -/
import Derived.Test.YtpjnebkfijmkpaaMoB
namespace Go.Proofs.Ytpjnebkfijmkpaa.Mo
open Go.RowKit
set_option linter.unusedVariables false
open Go.Proofs.Ytpjnebkfijmkpaa.Fx (nx nd)
set_option maxHeartbeats 1600000 in
theorem rAdd_any (a b : Int) (w : World) :
    Calls Try.prog 8 #[.int .i64 a, .int .i64 b] w fun e w' => e = .returned (.tuple #[.int .i64 (addS a b), .int .i64 (addE a b)]) ∧ w = w' := by
  by_cases ha : may a = true
  · have HA := Lib.hid ha
    have ba := may_iff.1 ha
    by_cases hb : may b = true
    · have HB := Lib.hid hb
      have bb := may_iff.1 hb
      have h : may a = true ∧ may b = true := ⟨ha, hb⟩
      by_cases hg : 1125899906842624 - a < b
      · have HS : Hid (addS a b = 0) := Lib.hid (by unfold addS add2; rw [if_pos h, if_pos hg])
        have HE : Hid (addE a b = 6) := Lib.hid (by unfold addE add2; rw [if_pos h, if_pos hg])
        clear h ha hb
        rw [HS.out, HE.out]
        go_enter Try.func8, Try.ntmps8
        go_wp2_with fail
        refine (rMay_any a w).mono ?_
        rintro e w' ⟨rfl, rfl⟩
        rw [HA.out]
        go_wp2_with fail
        refine (rMay_any b w).mono ?_
        rintro e w' ⟨rfl, rfl⟩
        rw [HB.out]
        go_wp2
        go_ret2
        exact ⟨rfl, rfl⟩
      · have HS : Hid (addS a b = a + b) := Lib.hid (by unfold addS add2; rw [if_pos h, if_neg hg])
        have HE : Hid (addE a b = 0) := Lib.hid (by unfold addE add2; rw [if_pos h, if_neg hg])
        clear h ha hb
        rw [HS.out, HE.out]
        go_enter Try.func8, Try.ntmps8
        go_wp2_with fail
        refine (rMay_any a w).mono ?_
        rintro e w' ⟨rfl, rfl⟩
        rw [HA.out]
        go_wp2_with fail
        refine (rMay_any b w).mono ?_
        rintro e w' ⟨rfl, rfl⟩
        rw [HB.out]
        go_wp2
        go_ret2
        exact ⟨rfl, rfl⟩
    · have HB : Hid (may b = false) := Lib.hid (by simpa using hb)
      have HS : Hid (addS a b = 0) := Lib.hid (by unfold addS add2; rw [if_neg (fun x => hb x.2)])
      have HE : Hid (addE a b = 1) := Lib.hid (by unfold addE add2; rw [if_neg (fun x => hb x.2)])
      clear ha hb
      rw [HS.out, HE.out]
      go_enter Try.func8, Try.ntmps8
      go_wp2_with fail
      refine (rMay_any a w).mono ?_
      rintro e w' ⟨rfl, rfl⟩
      rw [HA.out]
      go_wp2_with fail
      refine (rMay_any b w).mono ?_
      rintro e w' ⟨rfl, rfl⟩
      rw [HB.out]
      go_wp2
      go_ret2
      exact ⟨rfl, rfl⟩
  · have HA : Hid (may a = false) := Lib.hid (by simpa using ha)
    have HS : Hid (addS a b = 0) := Lib.hid (by unfold addS add2; rw [if_neg (fun x => ha x.1)])
    have HE : Hid (addE a b = 1) := Lib.hid (by unfold addE add2; rw [if_neg (fun x => ha x.1)])
    clear ha
    rw [HS.out, HE.out]
    go_enter Try.func8, Try.ntmps8
    go_wp2_with fail
    refine (rMay_any a w).mono ?_
    rintro e w' ⟨rfl, rfl⟩
    rw [HA.out]
    go_wp2
    go_ret2
    exact ⟨rfl, rfl⟩
set_option maxHeartbeats 1600000 in
theorem rSub_any (a b : Int) (w : World) :
    Calls Try.prog 10 #[.int .i64 a, .int .i64 b] w fun e w' => e = .returned (.tuple #[.int .i64 (subS a b), .int .i64 (subE a b)]) ∧ w = w' := by
  by_cases ha : may a = true
  · have HA := Lib.hid ha
    have ba := may_iff.1 ha
    by_cases hb : may b = true
    · have HB := Lib.hid hb
      have bb := may_iff.1 hb
      have h : may a = true ∧ may b = true := ⟨ha, hb⟩
      by_cases hg : a < b
      · have HS : Hid (subS a b = 0) := Lib.hid (by unfold subS sub2; rw [if_pos h, if_pos hg])
        have HE : Hid (subE a b = 7) := Lib.hid (by unfold subE sub2; rw [if_pos h, if_pos hg])
        clear h ha hb
        rw [HS.out, HE.out]
        go_enter Try.func10, Try.ntmps10
        go_wp2_with fail
        refine (rMay_any a w).mono ?_
        rintro e w' ⟨rfl, rfl⟩
        rw [HA.out]
        go_wp2_with fail
        refine (rMay_any b w).mono ?_
        rintro e w' ⟨rfl, rfl⟩
        rw [HB.out]
        go_wp2
        go_ret2
        exact ⟨rfl, rfl⟩
      · have HS : Hid (subS a b = a - b) := Lib.hid (by unfold subS sub2; rw [if_pos h, if_neg hg])
        have HE : Hid (subE a b = 0) := Lib.hid (by unfold subE sub2; rw [if_pos h, if_neg hg])
        clear h ha hb
        rw [HS.out, HE.out]
        go_enter Try.func10, Try.ntmps10
        go_wp2_with fail
        refine (rMay_any a w).mono ?_
        rintro e w' ⟨rfl, rfl⟩
        rw [HA.out]
        go_wp2_with fail
        refine (rMay_any b w).mono ?_
        rintro e w' ⟨rfl, rfl⟩
        rw [HB.out]
        go_wp2
        go_ret2
        exact ⟨rfl, rfl⟩
    · have HB : Hid (may b = false) := Lib.hid (by simpa using hb)
      have HS : Hid (subS a b = 0) := Lib.hid (by unfold subS sub2; rw [if_neg (fun x => hb x.2)])
      have HE : Hid (subE a b = 1) := Lib.hid (by unfold subE sub2; rw [if_neg (fun x => hb x.2)])
      clear ha hb
      rw [HS.out, HE.out]
      go_enter Try.func10, Try.ntmps10
      go_wp2_with fail
      refine (rMay_any a w).mono ?_
      rintro e w' ⟨rfl, rfl⟩
      rw [HA.out]
      go_wp2_with fail
      refine (rMay_any b w).mono ?_
      rintro e w' ⟨rfl, rfl⟩
      rw [HB.out]
      go_wp2
      go_ret2
      exact ⟨rfl, rfl⟩
  · have HA : Hid (may a = false) := Lib.hid (by simpa using ha)
    have HS : Hid (subS a b = 0) := Lib.hid (by unfold subS sub2; rw [if_neg (fun x => ha x.1)])
    have HE : Hid (subE a b = 1) := Lib.hid (by unfold subE sub2; rw [if_neg (fun x => ha x.1)])
    clear ha
    rw [HS.out, HE.out]
    go_enter Try.func10, Try.ntmps10
    go_wp2_with fail
    refine (rMay_any a w).mono ?_
    rintro e w' ⟨rfl, rfl⟩
    rw [HA.out]
    go_wp2
    go_ret2
    exact ⟨rfl, rfl⟩
set_option maxHeartbeats 1600000 in
theorem rMul_any (a b : Int) (w : World) :
    Calls Try.prog 12 #[.int .i64 a, .int .i64 b] w fun e w' => e = .returned (.tuple #[.int .i64 (mulS a b), .int .i64 (mulE a b)]) ∧ w = w' := by
  by_cases ha : may a = true
  · have HA := Lib.hid ha
    have ba := may_iff.1 ha
    by_cases hb : may b = true
    · have HB := Lib.hid hb
      have bb := may_iff.1 hb
      have h : may a = true ∧ may b = true := ⟨ha, hb⟩
      by_cases hz : a = 0
      · subst hz
        have HS : Hid (mulS 0 b = 0) := Lib.hid (by unfold mulS mul2; rw [if_pos h, if_neg (fun x => x.1 rfl), Int.zero_mul])
        have HE : Hid (mulE 0 b = 0) := Lib.hid (by unfold mulE mul2; rw [if_pos h, if_neg (fun x => x.1 rfl)])
        clear h ha hb
        rw [HS.out, HE.out]
        go_enter Try.func12, Try.ntmps12
        go_wp2_with fail
        refine (rMay_any 0 w).mono ?_
        rintro e w' ⟨rfl, rfl⟩
        rw [HA.out]
        go_wp2_with fail
        refine (rMay_any b w).mono ?_
        rintro e w' ⟨rfl, rfl⟩
        rw [HB.out]
        go_wp2
        go_ret2
        exact ⟨by simp, rfl⟩
      · have hp : 0 < a := by omega
        have hq := mul_quo hp
        have hqb := quo_bounds hp
        have hne : (a == 0) = false := by simp [hz]
        have hw0 : IntKind.i64.wrap (1125899906842624 / a) = 1125899906842624 / a := IntWalk.i64_in _ (by omega)
        by_cases hg : 1125899906842624 / a < b
        · have HS : Hid (mulS a b = 0) := Lib.hid (by unfold mulS mul2; rw [if_pos h, if_pos ⟨hz, hg⟩])
          have HE : Hid (mulE a b = 6) := Lib.hid (by unfold mulE mul2; rw [if_pos h, if_pos ⟨hz, hg⟩])
          clear h ha hb
          rw [HS.out, HE.out]
          go_enter Try.func12, Try.ntmps12
          go_wp2_with fail
          refine (rMay_any a w).mono ?_
          rintro e w' ⟨rfl, rfl⟩
          rw [HA.out]
          go_wp2_with fail
          refine (rMay_any b w).mono ?_
          rintro e w' ⟨rfl, rfl⟩
          rw [HB.out]
          go_wp2
          go_ret2
          exact ⟨rfl, rfl⟩
        · have HS : Hid (mulS a b = a * b) := Lib.hid (by unfold mulS mul2; rw [if_pos h, if_neg (fun x => hg x.2)])
          have HE : Hid (mulE a b = 0) := Lib.hid (by unfold mulE mul2; rw [if_pos h, if_neg (fun x => hg x.2)])
          have hmb := mul_bounds ba.1 bb.1 (.inr ⟨hp, by omega⟩)
          have hw1 : IntKind.i64.wrap (a * b) = a * b := IntWalk.i64_in _ (by omega)
          clear h ha hb
          rw [HS.out, HE.out]
          go_enter Try.func12, Try.ntmps12
          go_wp2_with fail
          refine (rMay_any a w).mono ?_
          rintro e w' ⟨rfl, rfl⟩
          rw [HA.out]
          go_wp2_with fail
          refine (rMay_any b w).mono ?_
          rintro e w' ⟨rfl, rfl⟩
          rw [HB.out]
          go_wp2
          go_ret2
          exact ⟨rfl, rfl⟩
    · have HB : Hid (may b = false) := Lib.hid (by simpa using hb)
      have HS : Hid (mulS a b = 0) := Lib.hid (by unfold mulS mul2; rw [if_neg (fun x => hb x.2)])
      have HE : Hid (mulE a b = 1) := Lib.hid (by unfold mulE mul2; rw [if_neg (fun x => hb x.2)])
      clear ha hb
      rw [HS.out, HE.out]
      go_enter Try.func12, Try.ntmps12
      go_wp2_with fail
      refine (rMay_any a w).mono ?_
      rintro e w' ⟨rfl, rfl⟩
      rw [HA.out]
      go_wp2_with fail
      refine (rMay_any b w).mono ?_
      rintro e w' ⟨rfl, rfl⟩
      rw [HB.out]
      go_wp2
      go_ret2
      exact ⟨rfl, rfl⟩
  · have HA : Hid (may a = false) := Lib.hid (by simpa using ha)
    have HS : Hid (mulS a b = 0) := Lib.hid (by unfold mulS mul2; rw [if_neg (fun x => ha x.1)])
    have HE : Hid (mulE a b = 1) := Lib.hid (by unfold mulE mul2; rw [if_neg (fun x => ha x.1)])
    clear ha
    rw [HS.out, HE.out]
    go_enter Try.func12, Try.ntmps12
    go_wp2_with fail
    refine (rMay_any a w).mono ?_
    rintro e w' ⟨rfl, rfl⟩
    rw [HA.out]
    go_wp2
    go_ret2
    exact ⟨rfl, rfl⟩
end Go.Proofs.Ytpjnebkfijmkpaa.Mo
