/- MoneyBack: the call. -/
import Derived.Test.YtpjnebkfijmkpaaMoG
namespace Go.Proofs.Ytpjnebkfijmkpaa.Mo
open Go.RowKit
set_option linter.unusedVariables false
open Go.Proofs.Ytpjnebkfijmkpaa.Fx (nx nd)
theorem sub_lt {a b : Int} (h : may a = true ∧ may b = true) (g : a < b) : subS a b = 0 := by unfold subS sub2; rw [if_pos h, if_pos g]
theorem sub_ltE {a b : Int} (h : may a = true ∧ may b = true) (g : a < b) : subE a b = 7 := by unfold subE sub2; rw [if_pos h, if_pos g]
theorem sub_ge {a b : Int} (h : may a = true ∧ may b = true) (g : ¬ a < b) : subS a b = a - b := by unfold subS sub2; rw [if_pos h, if_neg g]
theorem sub_geE {a b : Int} (h : may a = true ∧ may b = true) (g : ¬ a < b) : subE a b = 0 := by unfold subE sub2; rw [if_pos h, if_neg g]
theorem mul_gt {a b : Int} (h : may a = true ∧ may b = true) (p : 0 < a) (g : 1125899906842624 / a < b) : mulS a b = 0 := by unfold mulS mul2; rw [if_pos h, if_pos ⟨by omega, g⟩]
theorem mul_gtE {a b : Int} (h : may a = true ∧ may b = true) (p : 0 < a) (g : 1125899906842624 / a < b) : mulE a b = 6 := by unfold mulE mul2; rw [if_pos h, if_pos ⟨by omega, g⟩]
theorem mul_le {a b : Int} (h : may a = true ∧ may b = true) (p : 0 < a) (g : ¬ 1125899906842624 / a < b) : mulS a b = a * b := by unfold mulS mul2; rw [if_pos h, if_neg (fun x => g x.2)]
theorem mul_leE {a b : Int} (h : may a = true ∧ may b = true) (p : 0 < a) (g : ¬ 1125899906842624 / a < b) : mulE a b = 0 := by unfold mulE mul2; rw [if_pos h, if_neg (fun x => g x.2)]
theorem mul_zero {b : Int} (h : may 0 = true ∧ may b = true) : mulS 0 b = 0 := by unfold mulS mul2; rw [if_pos h, if_neg (fun x => x.1 rfl), Int.zero_mul]
theorem mul_zeroE {b : Int} (h : may 0 = true ∧ may b = true) : mulE 0 b = 0 := by unfold mulE mul2; rw [if_pos h, if_neg (fun x => x.1 rfl)]
theorem add_le {a b : Int} (h : may a = true ∧ may b = true) (g : ¬ 1125899906842624 - a < b) : addS a b = a + b := by unfold addS add2; rw [if_pos h, if_neg g]
theorem add_leE {a b : Int} (h : may a = true ∧ may b = true) (g : ¬ 1125899906842624 - a < b) : addE a b = 0 := by unfold addE add2; rw [if_pos h, if_neg g]
theorem add_gt {a b : Int} (h : may a = true ∧ may b = true) (g : 1125899906842624 - a < b) : addS a b = 0 := by unfold addS add2; rw [if_pos h, if_pos g]
theorem add_gtE {a b : Int} (h : may a = true ∧ may b = true) (g : 1125899906842624 - a < b) : addE a b = 6 := by unfold addE add2; rw [if_pos h, if_pos g]
theorem none3 {a b : Int} (h : ¬ (may a = true ∧ may b = true)) : (addS a b = 0 ∧ addE a b = 1) ∧ (subS a b = 0 ∧ subE a b = 1) ∧ (mulS a b = 0 ∧ mulE a b = 1) := by
  unfold addS addE add2 subS subE sub2 mulS mulE mul2
  rw [if_neg h]
  exact ⟨⟨rfl, rfl⟩, ⟨by rw [if_neg h], by rw [if_neg h]⟩, ⟨by rw [if_neg h], by rw [if_neg h]⟩⟩
theorem wf_of {a : Int} (h : 0 ≤ a ∧ a ≤ 1125899906842624) : (Lit.int .i64 a).wf = true := by
  have h1 : IntKind.i64.min = -9223372036854775808 := by decide
  have h2 : IntKind.i64.max = 9223372036854775807 := by decide
  simp [Lit.wf, h1, h2]
  omega
set_option maxHeartbeats 6400000 in
theorem walkBack (a b : Int) (wa : (Lit.int .i64 a).wf = true) (wb : (Lit.int .i64 b).wf = true) (w : World) :
    Calls Try.prog 4 #[.int .i64 a, .int .i64 b] w fun e w' => e = .returned (.bool true) ∧ Below w.heap.size w w' := by
  have WA := Lib.hid wa
  have WB := Lib.hid wb
  clear wa wb
  by_cases hx : may a = true ∧ may b = true
  · have h := Lib.hid hx
    have ha := may_iff.1 hx.1
    have hb := may_iff.1 hx.2
    clear hx
    by_cases hz0 : a = 0
    · subst hz0
      have H0 : Hid (may 0 = true) := Lib.hid (by kernel_rfl)
      have HB := Lib.hid h.out.2
      have A1 : Hid (addS 0 b = b) := Lib.hid (by rw [add_le h.out (by omega)]; omega)
      have A2 : Hid (addE 0 b = 0) := Lib.hid (by rw [add_leE h.out (by omega)])
      have S1 : Hid (subS b b = 0) := Lib.hid (by rw [sub_ge ⟨h.out.2, h.out.2⟩ (by omega)]; omega)
      have S2 : Hid (subE b b = 0) := Lib.hid (by rw [sub_geE ⟨h.out.2, h.out.2⟩ (by omega)])
      have M1 := Lib.hid (mul_zero h.out)
      have M2 := Lib.hid (mul_zeroE h.out)
      by_cases hp : 0 < b
      · have T1 := Lib.hid (sub_lt h.out hp)
        have T2 := Lib.hid (sub_ltE h.out hp)
        go_enter Try.func4, Try.ntmps4
        go_wp2_with fail
        refine (add_any 0 b WA.out WB.out _).mono ?_
        rintro e w1 ⟨rfl, hb1⟩
        rw [A1.out, A2.out]
        go_wp2_with fail
        refine (sub_any b b WB.out WB.out _).mono ?_
        rintro e w2 ⟨rfl, hb2⟩
        rw [S1.out, S2.out]
        go_wp2_with fail
        refine (may_any b w2).mono ?_
        rintro e w' ⟨rfl, rfl⟩
        rw [HB.out]
        go_wp2_with fail
        refine (mul_any 0 b WA.out WB.out _).mono ?_
        rintro e w3 ⟨rfl, hb3⟩
        rw [M1.out, M2.out]
        go_wp2_with fail
        refine (may_any 0 w3).mono ?_
        rintro e w' ⟨rfl, rfl⟩
        rw [H0.out]
        go_wp2_with fail
        refine (sub_any 0 b WA.out WB.out _).mono ?_
        rintro e w4 ⟨rfl, hb4⟩
        rw [T1.out, T2.out]
        go_wp2_with fail
        refine (awake_any _).mono ?_
        rintro e w5 ⟨rfl, hb5⟩
        go_wp2
        go_ret
        exact ⟨rfl, nx (nx (nx (nx hb1 hb2) hb3) hb4) hb5⟩
      · obtain rfl : b = 0 := by omega
        go_enter Try.func4, Try.ntmps4
        go_wp2_with fail
        refine (add_any 0 0 WA.out WB.out _).mono ?_
        rintro e w1 ⟨rfl, hb1⟩
        rw [A1.out, A2.out]
        go_wp2_with fail
        refine (sub_any 0 0 WB.out WB.out _).mono ?_
        rintro e w2 ⟨rfl, hb2⟩
        rw [S1.out, S2.out]
        go_wp2_with fail
        refine (may_any 0 w2).mono ?_
        rintro e w' ⟨rfl, rfl⟩
        rw [HB.out]
        go_wp2_with fail
        refine (mul_any 0 0 WA.out WB.out _).mono ?_
        rintro e w3 ⟨rfl, hb3⟩
        rw [M1.out, M2.out]
        go_wp2_with fail
        refine (may_any 0 w3).mono ?_
        rintro e w' ⟨rfl, rfl⟩
        rw [H0.out]
        go_wp2_with fail
        refine (sub_any 0 0 WA.out WB.out _).mono ?_
        rintro e w4 ⟨rfl, hb4⟩
        rw [S1.out, S2.out]
        go_wp2_with fail
        refine (may_any 0 w4).mono ?_
        rintro e w' ⟨rfl, rfl⟩
        rw [H0.out]
        go_wp2_with fail
        refine (awake_any _).mono ?_
        rintro e w5 ⟨rfl, hb5⟩
        go_wp2
        go_ret
        exact ⟨rfl, nx (nx (nx (nx hb1 hb2) hb3) hb4) hb5⟩
    go_enter Try.func4, Try.ntmps4
    go_wp2_with fail
    refine (add_any a b WA.out WB.out _).mono ?_
    rintro e w1 ⟨rfl, hb1⟩
    by_cases hg : 1125899906842624 - a < b
    · rw [add_gt h.out hg, add_gtE h.out hg]
      go_wp2_with fail
      refine (mul_any a b WA.out WB.out _).mono ?_
      rintro e w3 ⟨rfl, hb3⟩
      by_cases hp : 0 < a
      · by_cases hg : 1125899906842624 / a < b
        · rw [mul_gt h.out hp hg, mul_gtE h.out hp hg]
          go_wp2_with fail
          refine (sub_any a b WA.out WB.out _).mono ?_
          rintro e w4 ⟨rfl, hb4⟩
          by_cases hs : a < b
          · rw [sub_lt h.out hs, sub_ltE h.out hs]
            go_wp2_with fail
            refine (awake_any _).mono ?_
            rintro e w5 ⟨rfl, hb5⟩
            go_wp2
            go_ret
            exact ⟨rfl, nx (nx (nx (hb1) hb3) hb4) hb5⟩
          · rw [sub_ge h.out hs, sub_geE h.out hs]
            have HM : Hid (may (a - b) = true) := Lib.hid (may_of (by omega))
            go_wp2_with fail
            refine (may_any (a - b) w4).mono ?_
            rintro e w' ⟨rfl, rfl⟩
            rw [HM.out]
            go_wp2_with fail
            refine (awake_any _).mono ?_
            rintro e w5 ⟨rfl, hb5⟩
            go_wp2
            go_ret
            exact ⟨rfl, nx (nx (nx (hb1) hb3) hb4) hb5⟩
        · rw [mul_le h.out hp hg, mul_leE h.out hp hg]
          obtain ⟨mb0, mb1⟩ := mul_bounds ha.1 hb.1 (.inr ⟨hp, by omega⟩)
          have HM : Hid (may (a * b) = true) := Lib.hid (may_of ⟨mb0, mb1⟩)
          have tq : (a * b).tdiv a = b := Int.mul_tdiv_cancel_left b (by omega)
          have tm : (a * b).tmod a = 0 := Int.mul_tmod_right a b
          have hne : (a == 0) = false := by simp; omega
          have hwb : IntKind.i64.wrap b = b := IntWalk.i64_in _ (by omega)
          go_wp2_with fail
          refine (may_any (a * b) w3).mono ?_
          rintro e w' ⟨rfl, rfl⟩
          rw [HM.out]
          go_wp2_with fail
          refine (sub_any a b WA.out WB.out _).mono ?_
          rintro e w4 ⟨rfl, hb4⟩
          clear tq tm mb0 mb1 hne hwb hg HM
          by_cases hs : a < b
          · rw [sub_lt h.out hs, sub_ltE h.out hs]
            go_wp2_with fail
            refine (awake_any _).mono ?_
            rintro e w5 ⟨rfl, hb5⟩
            go_wp2
            go_ret
            exact ⟨rfl, nx (nx (nx (hb1) hb3) hb4) hb5⟩
          · rw [sub_ge h.out hs, sub_geE h.out hs]
            have HM : Hid (may (a - b) = true) := Lib.hid (may_of (by omega))
            go_wp2_with fail
            refine (may_any (a - b) w4).mono ?_
            rintro e w' ⟨rfl, rfl⟩
            rw [HM.out]
            go_wp2_with fail
            refine (awake_any _).mono ?_
            rintro e w5 ⟨rfl, hb5⟩
            go_wp2
            go_ret
            exact ⟨rfl, nx (nx (nx (hb1) hb3) hb4) hb5⟩
      · exact absurd (show a = 0 by omega) hz0
    · rw [add_le h.out hg, add_leE h.out hg]
      have HM : Hid (may (a + b) = true) := Lib.hid (may_of (by omega))
      have hh : Hid (may (a + b) = true ∧ may b = true) := Lib.hid ⟨HM.out, h.out.2⟩
      have HS : Hid (subS (a + b) b = a) := Lib.hid (by rw [sub_ge hh.out (by omega)]; omega)
      have HE : Hid (subE (a + b) b = 0) := Lib.hid (by rw [sub_geE hh.out (by omega)])
      go_wp2_with fail
      refine (sub_any (a + b) b (wf_of (by omega)) WB.out _).mono ?_
      rintro e w2 ⟨rfl, hb2⟩
      rw [HS.out, HE.out]
      go_wp2_with fail
      refine (may_any (a + b) w2).mono ?_
      rintro e w' ⟨rfl, rfl⟩
      rw [HM.out]
      go_wp2_with fail
      refine (mul_any a b WA.out WB.out _).mono ?_
      rintro e w3 ⟨rfl, hb3⟩
      by_cases hp : 0 < a
      · by_cases hg : 1125899906842624 / a < b
        · rw [mul_gt h.out hp hg, mul_gtE h.out hp hg]
          go_wp2_with fail
          refine (sub_any a b WA.out WB.out _).mono ?_
          rintro e w4 ⟨rfl, hb4⟩
          by_cases hs : a < b
          · rw [sub_lt h.out hs, sub_ltE h.out hs]
            go_wp2_with fail
            refine (awake_any _).mono ?_
            rintro e w5 ⟨rfl, hb5⟩
            go_wp2
            go_ret
            exact ⟨rfl, nx (nx (nx (nx hb1 hb2) hb3) hb4) hb5⟩
          · rw [sub_ge h.out hs, sub_geE h.out hs]
            have HM : Hid (may (a - b) = true) := Lib.hid (may_of (by omega))
            go_wp2_with fail
            refine (may_any (a - b) w4).mono ?_
            rintro e w' ⟨rfl, rfl⟩
            rw [HM.out]
            go_wp2_with fail
            refine (awake_any _).mono ?_
            rintro e w5 ⟨rfl, hb5⟩
            go_wp2
            go_ret
            exact ⟨rfl, nx (nx (nx (nx hb1 hb2) hb3) hb4) hb5⟩
        · rw [mul_le h.out hp hg, mul_leE h.out hp hg]
          obtain ⟨mb0, mb1⟩ := mul_bounds ha.1 hb.1 (.inr ⟨hp, by omega⟩)
          have HM : Hid (may (a * b) = true) := Lib.hid (may_of ⟨mb0, mb1⟩)
          have tq : (a * b).tdiv a = b := Int.mul_tdiv_cancel_left b (by omega)
          have tm : (a * b).tmod a = 0 := Int.mul_tmod_right a b
          have hne : (a == 0) = false := by simp; omega
          have hwb : IntKind.i64.wrap b = b := IntWalk.i64_in _ (by omega)
          go_wp2_with fail
          refine (may_any (a * b) w3).mono ?_
          rintro e w' ⟨rfl, rfl⟩
          rw [HM.out]
          go_wp2_with fail
          refine (sub_any a b WA.out WB.out _).mono ?_
          rintro e w4 ⟨rfl, hb4⟩
          clear tq tm mb0 mb1 hne hwb hg HM
          by_cases hs : a < b
          · rw [sub_lt h.out hs, sub_ltE h.out hs]
            go_wp2_with fail
            refine (awake_any _).mono ?_
            rintro e w5 ⟨rfl, hb5⟩
            go_wp2
            go_ret
            exact ⟨rfl, nx (nx (nx (nx hb1 hb2) hb3) hb4) hb5⟩
          · rw [sub_ge h.out hs, sub_geE h.out hs]
            have HM : Hid (may (a - b) = true) := Lib.hid (may_of (by omega))
            go_wp2_with fail
            refine (may_any (a - b) w4).mono ?_
            rintro e w' ⟨rfl, rfl⟩
            rw [HM.out]
            go_wp2_with fail
            refine (awake_any _).mono ?_
            rintro e w5 ⟨rfl, hb5⟩
            go_wp2
            go_ret
            exact ⟨rfl, nx (nx (nx (nx hb1 hb2) hb3) hb4) hb5⟩
      · exact absurd (show a = 0 by omega) hz0
  · obtain ⟨⟨n1, n2⟩, ⟨n3, n4⟩, n5, n6⟩ := none3 hx
    have N1 := Lib.hid n1
    have N2 := Lib.hid n2
    have N3 := Lib.hid n3
    have N4 := Lib.hid n4
    have N5 := Lib.hid n5
    have N6 := Lib.hid n6
    clear n1 n2 n3 n4 n5 n6 hx
    go_enter Try.func4, Try.ntmps4
    go_wp2_with fail
    refine (add_any a b WA.out WB.out _).mono ?_
    rintro e w1 ⟨rfl, hb1⟩
    rw [N1.out, N2.out]
    go_wp2_with fail
    refine (mul_any a b WA.out WB.out _).mono ?_
    rintro e w3 ⟨rfl, hb3⟩
    rw [N5.out, N6.out]
    go_wp2_with fail
    refine (sub_any a b WA.out WB.out _).mono ?_
    rintro e w4 ⟨rfl, hb4⟩
    rw [N3.out, N4.out]
    go_wp2_with fail
    refine (awake_any _).mono ?_
    rintro e w5 ⟨rfl, hb5⟩
    go_wp2
    go_ret
    exact ⟨rfl, nx (nx (nx hb1 hb3) hb4) hb5⟩
  end Go.Proofs.Ytpjnebkfijmkpaa.Mo
