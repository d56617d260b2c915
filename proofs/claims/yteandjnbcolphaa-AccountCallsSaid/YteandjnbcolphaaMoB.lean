/- Add, Sub, Mul, Sum of package money; the document's own. -/
import Derived.Test.YteandjnbcolphaaMoA
namespace Go.Proofs.Yteandjnbcolphaa.Mo
open Go.RowKit
set_option linter.unusedVariables false
open Go.Proofs.Yteandjnbcolphaa.Fx (nx nd)
theorem ints2 (a b : Int) (wa : (Lit.int .i64 a).wf = true) (wb : (Lit.int .i64 b).wf = true) (w : World) : Ints (w.alloc (.cells #[.int .i64 a, .int .i64 b] 3)) w.heap.size 0 2 [a, b] := by
  refine ⟨rfl, fun i hi => ?_, by simp [wa, wb]⟩
  rw [World.cell?_alloc_at _ _ _ _ rfl]
  match i, hi with
  | 0, _ => rfl
  | 1, _ => rfl
theorem ints3 (a b c : Int) (wa : (Lit.int .i64 a).wf = true) (wb : (Lit.int .i64 b).wf = true) (wc : (Lit.int .i64 c).wf = true) (w : World) : Ints (w.alloc (.cells #[.int .i64 a, .int .i64 b, .int .i64 c] 3)) w.heap.size 0 3 [a, b, c] := by
  refine ⟨rfl, fun i hi => ?_, by simp [wa, wb, wc]⟩
  rw [World.cell?_alloc_at _ _ _ _ rfl]
  match i, hi with
  | 0, _ => rfl
  | 1, _ => rfl
  | 2, _ => rfl
theorem below1 (w : World) (o : Obj) : Below w.heap.size w (w.alloc o) := (Below.refl _ _).alloc (Nat.le_refl _) _
theorem all2 {a b : Int} {x : Bool} (h : (may a && may b) = x) : [a, b].all may = x := by simpa using h
set_option maxHeartbeats 800000 in
theorem add_any (a b : Int) (wa : (Lit.int .i64 a).wf = true) (wb : (Lit.int .i64 b).wf = true) (w : World) :
    Calls Try.prog 21 #[.int .i64 a, .int .i64 b] w fun e w' => e = .returned (.tuple #[.int .i64 (addS a b), .int .i64 (addE a b)]) ∧ Below w.heap.size w w' := by
  have hs : Hid (totS [a, b] = addS a b) := Lib.hid (by unfold totS addS; rw [tot2])
  have he : Hid (totE [a, b] = addE a b) := Lib.hid (by unfold totE addE; rw [tot2])
  have hi := Lib.hid (ints2 a b wa wb w)
  clear wa wb
  go_enter Try.func21, Try.ntmps21
  go_wp2_with fail
  refine (total_any _ 0 2 2 [a, b] _ hi.out (by omega) (by decide)).mono ?_
  rintro e w' ⟨rfl, rfl⟩
  rw [hs.out, he.out]
  go_wp2
  go_ret2
  exact ⟨rfl, below1 _ _⟩
theorem mul_quo {a : Int} (h : 0 < a) : (1125899906842624 : Int).tdiv a = 1125899906842624 / a := Int.tdiv_eq_ediv_of_nonneg (by omega)
theorem quo_bounds {a : Int} (h : 0 < a) : 0 ≤ (1125899906842624 : Int) / a ∧ (1125899906842624 : Int) / a ≤ 1125899906842624 :=
  ⟨Int.ediv_nonneg (by omega) (by omega), Int.ediv_le_self _ (by omega)⟩
theorem mul_bounds {a b : Int} (ha : 0 ≤ a) (hb : 0 ≤ b) (h : a = 0 ∨ 0 < a ∧ b ≤ 1125899906842624 / a) : 0 ≤ a * b ∧ a * b ≤ 1125899906842624 := by
  refine ⟨Int.mul_nonneg ha hb, ?_⟩
  rcases h with rfl | ⟨h, k⟩
  · simp
  · have := (Int.le_ediv_iff_mul_le h).1 k
    rw [Int.mul_comm]; exact this
set_option maxHeartbeats 1600000 in
theorem sub_any (a b : Int) (wa : (Lit.int .i64 a).wf = true) (wb : (Lit.int .i64 b).wf = true) (w : World) :
    Calls Try.prog 27 #[.int .i64 a, .int .i64 b] w fun e w' => e = .returned (.tuple #[.int .i64 (subS a b), .int .i64 (subE a b)]) ∧ Below w.heap.size w w' := by
  have hi := Lib.hid (ints2 a b wa wb w)
  clear wa wb
  by_cases h : may a = true ∧ may b = true
  · have HA : Hid ([a, b].all may = true) := Lib.hid (all2 (by rw [h.1, h.2]; rfl))
    have ha := may_iff.1 h.1
    have hb := may_iff.1 h.2
    by_cases hg : a < b
    · have HS : Hid (subS a b = 0) := Lib.hid (by unfold subS sub2; rw [if_pos h, if_pos hg])
      have HE : Hid (subE a b = 7) := Lib.hid (by unfold subE sub2; rw [if_pos h, if_pos hg])
      clear h
      rw [HS.out, HE.out]
      go_enter Try.func27, Try.ntmps27
      go_wp2_with fail
      refine (mayAll_any _ 0 2 2 [a, b] _ hi.out (by omega) (by decide)).mono ?_
      rintro e w' ⟨rfl, rfl⟩
      rw [HA.out]
      go_wp2
      go_ret2
      exact ⟨rfl, below1 _ _⟩
    · have HS : Hid (subS a b = a - b) := Lib.hid (by unfold subS sub2; rw [if_pos h, if_neg hg])
      have HE : Hid (subE a b = 0) := Lib.hid (by unfold subE sub2; rw [if_pos h, if_neg hg])
      clear h
      rw [HS.out, HE.out]
      go_enter Try.func27, Try.ntmps27
      go_wp2_with fail
      refine (mayAll_any _ 0 2 2 [a, b] _ hi.out (by omega) (by decide)).mono ?_
      rintro e w' ⟨rfl, rfl⟩
      rw [HA.out]
      go_wp2
      go_ret2
      exact ⟨by rfl, below1 _ _⟩
  · have HA : Hid ([a, b].all may = false) := Lib.hid (all2 (by revert h; cases may a <;> cases may b <;> simp))
    have HS : Hid (subS a b = 0) := Lib.hid (by unfold subS sub2; rw [if_neg h])
    have HE : Hid (subE a b = 1) := Lib.hid (by unfold subE sub2; rw [if_neg h])
    clear h
    rw [HS.out, HE.out]
    go_enter Try.func27, Try.ntmps27
    go_wp2_with fail
    refine (mayAll_any _ 0 2 2 [a, b] _ hi.out (by omega) (by decide)).mono ?_
    rintro e w' ⟨rfl, rfl⟩
    rw [HA.out]
    go_wp2
    go_ret2
    exact ⟨rfl, below1 _ _⟩
set_option maxHeartbeats 400000 in
theorem rMay_any (a : Int) (w : World) :
    Calls Try.prog 23 #[.int .i64 a] w fun e w' => e = .returned (.bool (may a)) ∧ w = w' := by
  by_cases h0 : 0 ≤ a
  · by_cases h1 : a ≤ 1125899906842624
    · have HM := Lib.hid (may_of ⟨h0, h1⟩)
      go_enter Try.func23, Try.ntmps23
      go_wp2
      go_ret
      rw [HM.out]
      exact ⟨by simp, rfl⟩
    · have HM := Lib.hid (may_no (a := a) (by omega))
      go_enter Try.func23, Try.ntmps23
      go_wp2
      go_ret
      rw [HM.out]
      exact ⟨by simp, rfl⟩
  · have HM := Lib.hid (may_no (a := a) (by omega))
    have hd : decide (0 ≤ a) = false := by simp; omega
    go_enter Try.func23, Try.ntmps23
    go_wp2
    go_ret
    rw [HM.out]
    exact ⟨by simp, rfl⟩
end Go.Proofs.Yteandjnbcolphaa.Mo
