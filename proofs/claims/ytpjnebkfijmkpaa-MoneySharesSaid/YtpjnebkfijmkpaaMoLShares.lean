/- MoneyShares: the call. -/
import Derived.Test.YtpjnebkfijmkpaaMoLBack
namespace Go.Proofs.Ytpjnebkfijmkpaa.Mo
open Go.RowKit
set_option linter.unusedVariables false
open Go.Proofs.Ytpjnebkfijmkpaa.Fx (nx nd)
theorem share_ok {n o a : Int} (hn : 0 ≤ n ∧ n ≤ 1125899906842624) (ho : 0 ≤ o) (ha : 0 < a ∧ a ≤ 1125899906842624) (g : o ≤ a) : shareS n o a = n * o / a ∧ shareE n o a = 0 := by
  have h : may n = true ∧ may o = true ∧ may a = true ∧ a ≠ 0 ∧ o ≤ a := ⟨may_of hn, may_of (by omega), may_of (by omega), by omega, g⟩
  unfold shareS shareE share2
  rw [if_pos h]
  exact ⟨rfl, rfl⟩
theorem share_bad {n o a : Int} (h : ¬ ((0 ≤ n ∧ n ≤ 1125899906842624) ∧ 0 ≤ o ∧ (0 < a ∧ a ≤ 1125899906842624) ∧ o ≤ a)) : shareS n o a = 0 ∧ shareE n o a = 1 := by
  have h' : ¬ (may n = true ∧ may o = true ∧ may a = true ∧ a ≠ 0 ∧ o ≤ a) := fun ⟨h1, h2, h3, h4, h5⟩ => h (by
    have := may_iff.1 h1; have := may_iff.1 h2; have := may_iff.1 h3; omega)
  unfold shareS shareE share2
  rw [if_neg h']
  exact ⟨rfl, rfl⟩
/-- The shares of two parts: together all of it, or one less. -/
theorem two_shares {n o a : Int} (ha : 0 < a) : n * o / a + n * (a - o) / a = n ∨ n * o / a + n * (a - o) / a = n - 1 := by
  have e1 := Int.mul_ediv_add_emod (n * o) a
  have e2 := Int.mul_ediv_add_emod (n * (a - o)) a
  have e3 := Int.emod_nonneg (n * o) (show a ≠ 0 by omega)
  have e4 := Int.emod_lt_of_pos (n * o) ha
  have e5 := Int.emod_nonneg (n * (a - o)) (show a ≠ 0 by omega)
  have e6 := Int.emod_lt_of_pos (n * (a - o)) ha
  have e7 : n * (a - o) = n * a - n * o := Int.mul_sub _ _ _
  have e8 : a * (n - (n * o / a + n * (a - o) / a)) = n * o % a + n * (a - o) % a := by
    rw [Int.mul_sub, Int.mul_add, Int.mul_comm a n]; omega
  have e9 : n - (n * o / a + n * (a - o) / a) < 2 := by
    apply Int.lt_of_mul_lt_mul_left (a := a) _ (by omega)
    rw [e8]; omega
  have e10 : -1 < n - (n * o / a + n * (a - o) / a) := by
    apply Int.lt_of_mul_lt_mul_left (a := a) _ (by omega)
    rw [e8]; omega
  omega
set_option maxHeartbeats 6400000 in
theorem walkShares (n o a : Int) (wn : (Lit.int .i64 n).wf = true) (wo : (Lit.int .i64 o).wf = true) (wa : (Lit.int .i64 a).wf = true) (w : World) :
    Calls Try.prog 6 #[.int .i64 n, .int .i64 o, .int .i64 a] w fun e w' => e = .returned (.bool true) ∧ Below w.heap.size w w' := by
  have WN := Lib.hid wn
  have WO := Lib.hid wo
  have WA := Lib.hid wa
  clear wn wo wa
  by_cases h : (0 ≤ n ∧ n ≤ 1125899906842624) ∧ 0 ≤ o ∧ (0 < a ∧ a ≤ 1125899906842624) ∧ o ≤ a
  · obtain ⟨hn, ho, ha, hg⟩ := h
    have X := share_ok hn ho ha hg
    have Y := share_ok (o := a - o) hn (by omega) ha (by omega)
    obtain ⟨k, hk, k0, k1⟩ : ∃ k, o.tdiv 2 = k ∧ 0 ≤ k ∧ 2 * k ≤ o := ⟨o / 2, Int.tdiv_eq_ediv_of_nonneg ho, by omega, by omega⟩
    have Z := share_ok (o := k) hn k0 ha (by omega)
    have hmono : n * k / a ≤ n * o / a := Int.ediv_le_ediv ha.1 (Int.mul_le_mul_of_nonneg_left (by omega) hn.1)
    obtain ⟨_, _, _, r0, r1, _⟩ := share_facts hn.1 hn.2 ho ha.1 hg
    obtain ⟨_, _, _, s0, s1, _⟩ := share_facts (o := a - o) hn.1 hn.2 (by omega) ha.1 (by omega)
    have t0 : 0 ≤ n * k / a := Int.ediv_nonneg (Int.mul_nonneg hn.1 k0) (by omega)
    have hsum := two_shares (n := n) (o := o) ha.1
    have HZ : o = 0 → n * o / a = 0 := fun e => by rw [e, Int.mul_zero, Int.zero_ediv]
    have HA : o = a → n * o / a = n := fun e => by rw [e, Int.mul_ediv_cancel _ (by omega)]
    have HB : o = 0 → n * (a - o) / a = n := fun e => by rw [e, Int.sub_zero, Int.mul_ediv_cancel _ (by omega)]
    generalize n * o / a = A at *
    generalize n * (a - o) / a = B at *
    generalize n * k / a = C at *
    have X1 := Lib.hid X.1
    have X2 := Lib.hid X.2
    have Y1 := Lib.hid Y.1
    have Y2 := Lib.hid Y.2
    have Z1 := Lib.hid Z.1
    have Z2 := Lib.hid Z.2
    clear X Y Z
    have WK : Hid ((Lit.int .i64 k).wf = true) := Lib.hid (wf_of (by omega))
    have WAO : Hid ((Lit.int .i64 (a - o)).wf = true) := Lib.hid (wf_of (by omega))
    have hkw : IntKind.i64.wrap k = k := IntWalk.i64_in _ (by omega)
    by_cases c1 : o = 0
    · obtain rfl : k = 0 := by omega
      obtain rfl : A = 0 := HZ c1
      obtain rfl : B = n := HB c1
      obtain rfl : C = 0 := by omega
      subst c1
      have V1 : Hid (shareS B a a = B) := Lib.hid (by have := Y1.out; rwa [Int.sub_zero] at this)
      have V2 : Hid (shareE B a a = 0) := Lib.hid (by have := Y2.out; rwa [Int.sub_zero] at this)
      have hne : (0 == a) = false := by simp; omega
      clear HZ HA HB hsum hmono hkw hk
      go_enter Try.func6, Try.ntmps6
      go_wp2_with fail
      refine (share_any B 0 a WN.out WO.out WA.out _).mono ?_
      rintro e w1 ⟨rfl, hb1⟩
      rw [X1.out, X2.out]
      go_wp2_with fail
      refine (share_any B a a WN.out WA.out WA.out _).mono ?_
      rintro e w2 ⟨rfl, hb2⟩
      rw [V1.out, V2.out]
      go_wp2_with fail
      refine (share_any B 0 a WN.out WO.out WA.out _).mono ?_
      rintro e w3 ⟨rfl, hb3⟩
      rw [X1.out, X2.out]
      go_wp2_with fail
      refine (awake_any _).mono ?_
      rintro e w4 ⟨rfl, hb4⟩
      go_wp2
      go_ret
      exact ⟨rfl, nx (nx (nx hb1 hb2) hb3) hb4⟩
    · have ho0 : (o == 0) = false := by simp [c1]
      by_cases c2 : o = a
      · obtain rfl : A = n := HA c2
        obtain rfl : B = 0 := by omega
        subst c2
        have V1 : Hid (shareS A 0 o = 0) := Lib.hid (by have := Y1.out; rwa [Int.sub_self] at this)
        have V2 : Hid (shareE A 0 o = 0) := Lib.hid (by have := Y2.out; rwa [Int.sub_self] at this)
        have hlt : decide (o ≤ k) = false := by simp; omega
        clear HZ HA HB hsum
        go_enter Try.func6, Try.ntmps6
        go_wp2_with fail
        refine (share_any A o o WN.out WO.out WA.out _).mono ?_
        rintro e w1 ⟨rfl, hb1⟩
        rw [X1.out, X2.out]
        go_wp2_with fail
        refine (share_any A 0 o WN.out (wf_of (by omega)) WA.out _).mono ?_
        rintro e w2 ⟨rfl, hb2⟩
        rw [V1.out, V2.out]
        go_wp2_with fail
        refine (share_any A k o WN.out WK.out WA.out _).mono ?_
        rintro e w3 ⟨rfl, hb3⟩
        rw [Z1.out, Z2.out]
        go_wp2_with fail
        refine (awake_any _).mono ?_
        rintro e w4 ⟨rfl, hb4⟩
        go_wp2
        go_ret
        exact ⟨rfl, nx (nx (nx hb1 hb2) hb3) hb4⟩
      · have hoa : (o == a) = false := by simp [c2]
        have hlt : decide (o ≤ k) = false := by simp; omega
        clear HZ HA HB
        by_cases c3 : A + B = n
        · clear hsum
          go_enter Try.func6, Try.ntmps6
          go_wp2_with fail
          refine (share_any n o a WN.out WO.out WA.out _).mono ?_
          rintro e w1 ⟨rfl, hb1⟩
          rw [X1.out, X2.out]
          go_wp2_with fail
          refine (share_any n (a - o) a WN.out WAO.out WA.out _).mono ?_
          rintro e w2 ⟨rfl, hb2⟩
          rw [Y1.out, Y2.out]
          go_wp2_with fail
          refine (share_any n k a WN.out WK.out WA.out _).mono ?_
          rintro e w3 ⟨rfl, hb3⟩
          rw [Z1.out, Z2.out]
          go_wp2_with fail
          refine (awake_any _).mono ?_
          rintro e w4 ⟨rfl, hb4⟩
          go_wp2
          go_ret
          exact ⟨rfl, nx (nx (nx hb1 hb2) hb3) hb4⟩
        · have hs' : A + B = n - 1 := by omega
          have hn1 : ¬ (n - 1 = n) := by omega
          clear c3 hsum
          go_enter Try.func6, Try.ntmps6
          go_wp2_with fail
          refine (share_any n o a WN.out WO.out WA.out _).mono ?_
          rintro e w1 ⟨rfl, hb1⟩
          rw [X1.out, X2.out]
          go_wp2_with fail
          refine (share_any n (a - o) a WN.out WAO.out WA.out _).mono ?_
          rintro e w2 ⟨rfl, hb2⟩
          rw [Y1.out, Y2.out]
          go_wp2_with fail
          refine (share_any n k a WN.out WK.out WA.out _).mono ?_
          rintro e w3 ⟨rfl, hb3⟩
          rw [Z1.out, Z2.out]
          go_wp2_with fail
          refine (awake_any _).mono ?_
          rintro e w4 ⟨rfl, hb4⟩
          go_wp2
          go_ret
          exact ⟨rfl, nx (nx (nx hb1 hb2) hb3) hb4⟩
  · obtain ⟨n1, n2⟩ := share_bad h
    have N1 := Lib.hid n1
    have N2 := Lib.hid n2
    clear n1 n2 h
    go_enter Try.func6, Try.ntmps6
    go_wp2_with fail
    refine (share_any n o a WN.out WO.out WA.out _).mono ?_
    rintro e w1 ⟨rfl, hb1⟩
    rw [N1.out, N2.out]
    go_wp2_with fail
    refine (awake_any _).mono ?_
    rintro e w2 ⟨rfl, hb2⟩
    go_wp2
    go_ret
    exact ⟨rfl, nx hb1 hb2⟩
end Go.Proofs.Ytpjnebkfijmkpaa.Mo
