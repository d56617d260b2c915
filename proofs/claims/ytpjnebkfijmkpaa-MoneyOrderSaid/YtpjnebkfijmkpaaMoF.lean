/- Share of package money. -/
import Derived.Test.YtpjnebkfijmkpaaMoC
import Derived.Test.YtpjnebkfijmkpaaMoE
import Derived.Deep.QuietTactic
import Derived.BigQuiet
namespace Go.Proofs.Ytpjnebkfijmkpaa.Mo
open Go.RowKit
set_option linter.unusedVariables false
open Go.Proofs.Ytpjnebkfijmkpaa.Fx (nx nd)
theorem below_drewN (w : World) (n : Nat) : Below w.heap.size w (w.drewN n) := ⟨rfl, rfl, rfl, Nat.le_refl _, fun _ _ => rfl⟩
set_option maxHeartbeats 800000 in
theorem div64_zero (l y : Int) (y0 : 0 < y) (l0 : 0 ≤ l) (l1 : l < 18446744073709551616) (w : World) :
    Calls Try.prog 21 #[.int .u64 0, .int .u64 l, .int .u64 y] w fun e w' => (∃ r, e = .returned (.tuple #[.int .u64 (l / y), .int .u64 r])) ∧ Below w.heap.size w w' := by
  have e1 : (y == 0) = false := by simp; omega
  have e2 : decide (y ≤ 0) = false := by simp; omega
  go_enter Try.func21, Try.ntmps21
  go_wp2_with fail
  go_quiet (fail)
  go_wp2
  go_ret2
  exact ⟨⟨_, ret2_v rfl rfl⟩, below_drewN _ _⟩
def share2 (n of all : Int) : Int × Int := if may n = true ∧ may of = true ∧ may all = true ∧ all ≠ 0 ∧ of ≤ all then (n * of / all, 0) else (0, 1)
def shareS (n of all : Int) : Int := (share2 n of all).1
def shareE (n of all : Int) : Int := (share2 n of all).2
theorem share_facts {n o a : Int} (n0 : 0 ≤ n) (n1 : n ≤ 1125899906842624) (o0 : 0 ≤ o) (a0 : 0 < a) (h : o ≤ a) :
    0 ≤ n * o ∧ 0 ≤ n * o / 18446744073709551616 ∧ n * o / 18446744073709551616 < a ∧ 0 ≤ n * o / a ∧ n * o / a ≤ n ∧ n * o / 18446744073709551616 * 18446744073709551616 + n * o % 18446744073709551616 = n * o := by
  have h0 := Int.mul_nonneg n0 o0
  have h1 : n * o ≤ n * a := Int.mul_le_mul_of_nonneg_left h n0
  have h2 : n * a ≤ 1125899906842624 * a := Int.mul_le_mul_of_nonneg_right n1 (by omega)
  refine ⟨h0, by omega, ?_, Int.ediv_nonneg h0 (by omega), ?_, by omega⟩
  · apply Int.ediv_lt_of_lt_mul (by omega)
    rw [Int.mul_comm a]
    omega
  · exact Int.le_trans (Int.ediv_le_ediv a0 h1) (by rw [Int.mul_ediv_cancel _ (by omega)]; omega)
theorem all3 {a b c : Int} {x : Bool} (h : (may a && (may b && may c)) = x) : [a, b, c].all may = x := by simpa using h
set_option maxHeartbeats 1600000 in
theorem share_any (n o a : Int) (wn : (Lit.int .i64 n).wf = true) (wo : (Lit.int .i64 o).wf = true) (wa : (Lit.int .i64 a).wf = true) (w : World) :
    Calls Try.prog 17 #[.int .i64 n, .int .i64 o, .int .i64 a] w fun e w' => e = .returned (.tuple #[.int .i64 (shareS n o a), .int .i64 (shareE n o a)]) ∧ Below w.heap.size w w' := by
  have hi := Lib.hid (ints3 n o a wn wo wa w)
  clear wn wo wa
  by_cases h : may n = true ∧ may o = true ∧ may a = true
  · have HA : Hid ([n, o, a].all may = true) := Lib.hid (all3 (by rw [h.1, h.2.1, h.2.2]; rfl))
    have hn := may_iff.1 h.1
    have ho := may_iff.1 h.2.1
    have ha := may_iff.1 h.2.2
    by_cases hz : a = 0
    · have HS : Hid (shareS n o a = 0) := Lib.hid (by unfold shareS share2; rw [if_neg (fun x => x.2.2.2.1 hz)])
      have HE : Hid (shareE n o a = 1) := Lib.hid (by unfold shareE share2; rw [if_neg (fun x => x.2.2.2.1 hz)])
      subst hz
      clear h
      rw [HS.out, HE.out]
      go_enter Try.func17, Try.ntmps17
      go_wp2_with fail
      refine (mayAll_any _ 0 3 3 [n, o, 0] _ hi.out (by omega) (by decide)).mono ?_
      rintro e w' ⟨rfl, rfl⟩
      rw [HA.out]
      go_wp2
      go_ret2
      exact ⟨rfl, below1 _ _⟩
    · have hne : (a == 0) = false := by simp [hz]
      by_cases hg : o ≤ a
      · have HS : Hid (shareS n o a = n * o / a) := Lib.hid (by unfold shareS share2; rw [if_pos ⟨h.1, h.2.1, h.2.2, hz, hg⟩])
        have HE : Hid (shareE n o a = 0) := Lib.hid (by unfold shareE share2; rw [if_pos ⟨h.1, h.2.1, h.2.2, hz, hg⟩])
        clear h
        obtain ⟨p0, q0, q1, r0, r1, hq⟩ := share_facts hn.1 hn.2 ho.1 (by omega) hg
        have hw : IntKind.i64.wrap (n * o / a) = n * o / a := IntWalk.i64_in _ (by omega)
        by_cases hh : n * o / 18446744073709551616 = 0
        · have HH := Lib.hid hh
          have HL : Hid (n * o % 18446744073709551616 = n * o) := Lib.hid (by omega)
          have p1 : n * o < 18446744073709551616 := by omega
          clear hq hh
          rw [HS.out, HE.out]
          go_enter Try.func17, Try.ntmps17
          go_wp2_with fail
          refine (mayAll_any _ 0 3 3 [n, o, a] _ hi.out (by omega) (by decide)).mono ?_
          rintro e w' ⟨rfl, rfl⟩
          rw [HA.out]
          go_wp2_with fail
          refine (mul64_any n o (by omega) (by omega) (by omega) (by omega) _).mono ?_
          rintro e w' ⟨rfl, rfl⟩
          rw [HH.out, HL.out]
          go_wp2_with fail
          refine (div64_zero (n * o) a (by omega) p0 p1 _).mono ?_
          rintro e w2 ⟨⟨r, rfl⟩, hb2⟩
          go_wp2
          go_ret2
          exact ⟨rfl, nx (below1 _ _) hb2⟩
        · have HQ := Lib.hid hq
          clear hq
          rw [HS.out, HE.out]
          go_enter Try.func17, Try.ntmps17
          go_wp2_with fail
          refine (mayAll_any _ 0 3 3 [n, o, a] _ hi.out (by omega) (by decide)).mono ?_
          rintro e w' ⟨rfl, rfl⟩
          rw [HA.out]
          go_wp2_with fail
          refine (mul64_any n o (by omega) (by omega) (by omega) (by omega) _).mono ?_
          rintro e w' ⟨rfl, rfl⟩
          go_wp2_with fail
          refine (div64_any (n * o / 18446744073709551616) (n * o % 18446744073709551616) a (by omega) q1 (by omega) (by omega) (by omega) _).mono ?_
          rw [HQ.out]
          rintro e w2 ⟨r, rfl, rfl⟩
          go_wp2
          go_ret2
          exact ⟨rfl, below1 _ _⟩
      · have HS : Hid (shareS n o a = 0) := Lib.hid (by unfold shareS share2; rw [if_neg (fun x => hg x.2.2.2.2)])
        have HE : Hid (shareE n o a = 1) := Lib.hid (by unfold shareE share2; rw [if_neg (fun x => hg x.2.2.2.2)])
        clear h
        rw [HS.out, HE.out]
        go_enter Try.func17, Try.ntmps17
        go_wp2_with fail
        refine (mayAll_any _ 0 3 3 [n, o, a] _ hi.out (by omega) (by decide)).mono ?_
        rintro e w' ⟨rfl, rfl⟩
        rw [HA.out]
        go_wp2
        go_ret2
        exact ⟨rfl, below1 _ _⟩
  · have HA : Hid ([n, o, a].all may = false) := Lib.hid (all3 (by revert h; cases may n <;> cases may o <;> cases may a <;> simp))
    have HS : Hid (shareS n o a = 0) := Lib.hid (by unfold shareS share2; rw [if_neg (fun x => h ⟨x.1, x.2.1, x.2.2.1⟩)])
    have HE : Hid (shareE n o a = 1) := Lib.hid (by unfold shareE share2; rw [if_neg (fun x => h ⟨x.1, x.2.1, x.2.2.1⟩)])
    clear h
    rw [HS.out, HE.out]
    go_enter Try.func17, Try.ntmps17
    go_wp2_with fail
    refine (mayAll_any _ 0 3 3 [n, o, a] _ hi.out (by omega) (by decide)).mono ?_
    rintro e w' ⟨rfl, rfl⟩
    rw [HA.out]
    go_wp2
    go_ret2
    exact ⟨rfl, below1 _ _⟩
end Go.Proofs.Ytpjnebkfijmkpaa.Mo
