/- BallotOrder: the call. -/
import Derived.Test.YtkgjhfndlnoddaaBaL
namespace Go.Proofs.Ytkgjhfndlnoddaa.Ba
open Go.RowKit
set_option linter.unusedVariables false
open Go.Proofs.Ytkgjhfndlnoddaa.Fx (nx nd)
theorem neqB_is (a b c d : Int) (x : Bool) (h : (!((a == c) && (b == d))) = x) (w : World) : (binOp .neq 23 (.agg #[.int .i64 a, .int .i64 b]) (.agg #[.int .i64 c, .int .i64 d])).run Try.prog w = .ok (.bool x) w := by rw [neqB, h]
theorem eqlB_is (a b c d : Int) (x : Bool) (h : ((a == c) && (b == d)) = x) (w : World) : (binOp .eql 23 (.agg #[.int .i64 a, .int .i64 b]) (.agg #[.int .i64 c, .int .i64 d])).run Try.prog w = .ok (.bool x) w := by rw [eqlB, h]
theorem lessB_self (a b : Int) : lessB a b a b = false := lessB_no.2 (by omega)
theorem unlike {a b c d : Int} (h : lessB a b c d = true ∨ lessB c d a b = true) : ((a == c) && (b == d)) = false := by
  rw [Bool.eq_false_iff]; intro x
  simp only [Bool.and_eq_true, beq_iff_eq] at x
  obtain ⟨rfl, rfl⟩ := x
  rcases h with h | h <;> (rw [lessB_self] at h; exact absurd h (by decide))
theorem lat_fst {a b c d : Int} (h : lessB c d a b = true) : latN a b c d = a ∧ latR a b c d = b := by unfold latN latR; rw [if_pos h, if_pos h]; exact ⟨rfl, rfl⟩
theorem lat_snd {a b c d : Int} (h : lessB c d a b = false) : latN a b c d = c ∧ latR a b c d = d := by
  unfold latN latR; rw [if_neg (by rw [h]; decide), if_neg (by rw [h]; decide)]; exact ⟨rfl, rfl⟩
set_option maxHeartbeats 3200000 in
theorem ordAbc (a b c d f g : Int) (h : lessB a b c d = true) (h2 : lessB c d f g = true) (w : World) :
    Calls Try.prog 4 #[.agg #[.int .i64 a, .int .i64 b], .agg #[.int .i64 c, .int .i64 d], .agg #[.int .i64 f, .int .i64 g]] w fun e w' => e = .returned (.bool true) ∧ Below w.heap.size w w' := by
  have hBA : Hid (lessB c d a b = false) := Lib.hid (lessB_no.2 (by have := lessB_iff.1 h; omega))
  have e1 := neqB_is a b c d true (by rw [unlike (.inl h)]; rfl)
  have e2 := eqlB_is c d a b false (unlike (.inr h))
  have e3 := same c d
  have hAC : Hid (lessB a b f g = true) := Lib.hid (lessB_iff.2 (by have := lessB_iff.1 h; have := lessB_iff.1 h2; omega))
  have hAB := Lib.hid h
  have hBC := Lib.hid h2
  clear h h2
  have hg := guardB
  go_enter Try.func4, Try.ntmps4
  go_wp2_with fail
  refine (less_is a b a b false (lessB_self a b) _).mono ?_
  rintro e w1 ⟨rfl, hb1⟩
  obtain ⟨chb1, fhb1⟩ := bcell hb1
  go_wp2_with fail
  refine (less_is a b c d true hAB.out _).mono ?_
  rintro e w2 ⟨rfl, hb2⟩
  replace hb2 := nx hb1 hb2
  obtain ⟨chb2, fhb2⟩ := bcell hb2
  clear chb1 fhb1
  go_wp2_with fail
  refine (less_is c d a b false hBA.out _).mono ?_
  rintro e w3 ⟨rfl, hb3⟩
  replace hb3 := nx hb2 hb3
  obtain ⟨chb3, fhb3⟩ := bcell hb3
  clear chb2 fhb2
  go_wp2_with fail
  refine (less_is a b c d true hAB.out _).mono ?_
  rintro e w4 ⟨rfl, hb4⟩
  replace hb4 := nx hb3 hb4
  obtain ⟨chb4, fhb4⟩ := bcell hb4
  clear chb3 fhb3
  go_wp2_with fail
  refine (later_is a b c d c d (lat_snd hBA.out) _).mono ?_
  rintro e w5 ⟨rfl, hb5⟩
  replace hb5 := nx hb4 hb5
  obtain ⟨chb5, fhb5⟩ := bcell hb5
  clear chb4 fhb4
  have hz := hb5.size
  simp at hz
  have hz0 : w.heap.size < w5.heap.size := by omega
  have hz1 : w.heap.size + 1 < w5.heap.size := by omega
  have hz2 : w.heap.size + 1 + 1 < w5.heap.size := by omega
  clear hz
  go_wp2_with fail
  refine (less_is a b c d true hAB.out _).mono ?_
  rintro e w6 ⟨rfl, hb6⟩
  obtain ⟨chb6, fhb6⟩ := bcell hb6
  go_wp2_with fail
  refine (less_is c d f g true hBC.out _).mono ?_
  rintro e w7 ⟨rfl, hb7⟩
  replace hb7 := nx hb6 hb7
  obtain ⟨chb7, fhb7⟩ := bcell hb7
  clear chb6 fhb6
  go_wp2_with fail
  refine (less_is a b f g true hAC.out _).mono ?_
  rintro e w8 ⟨rfl, hb8⟩
  replace hb8 := nx hb7 hb8
  obtain ⟨chb8, fhb8⟩ := bcell hb8
  clear chb7 fhb7
  go_wp2_with fail
  refine (less_is c d a b false hBA.out _).mono ?_
  rintro e w9 ⟨rfl, hb9⟩
  replace hb9 := nx hb8 hb9
  obtain ⟨chb9, fhb9⟩ := bcell hb9
  clear chb8 fhb8
  go_wp2_with fail
  refine (less_is c d c d false (lessB_self c d) _).mono ?_
  rintro e w10 ⟨rfl, hb10⟩
  replace hb10 := nx hb9 hb10
  obtain ⟨chb10, fhb10⟩ := bcell hb10
  clear chb9 fhb9
  go_wp2_with fail
  refine (awake_any _).mono ?_
  rintro e w11 ⟨rfl, hb11⟩
  replace hb11 := nx hb10 hb11
  obtain ⟨chb11, fhb11⟩ := bcell hb11
  clear chb10 fhb10
  go_wp2
  go_ret
  exact ⟨rfl, nx (nx (nx (below3 w _ _ _) hb5) (below1 _ _)) hb11⟩
set_option maxHeartbeats 3200000 in
theorem ordAb (a b c d f g : Int) (h : lessB a b c d = true) (h2 : lessB c d f g = false) (w : World) :
    Calls Try.prog 4 #[.agg #[.int .i64 a, .int .i64 b], .agg #[.int .i64 c, .int .i64 d], .agg #[.int .i64 f, .int .i64 g]] w fun e w' => e = .returned (.bool true) ∧ Below w.heap.size w w' := by
  have hBA : Hid (lessB c d a b = false) := Lib.hid (lessB_no.2 (by have := lessB_iff.1 h; omega))
  have e1 := neqB_is a b c d true (by rw [unlike (.inl h)]; rfl)
  have e2 := eqlB_is c d a b false (unlike (.inr h))
  have e3 := same c d
  have hAB := Lib.hid h
  have hBC := Lib.hid h2
  clear h h2
  have hg := guardB
  go_enter Try.func4, Try.ntmps4
  go_wp2_with fail
  refine (less_is a b a b false (lessB_self a b) _).mono ?_
  rintro e w1 ⟨rfl, hb1⟩
  obtain ⟨chb1, fhb1⟩ := bcell hb1
  go_wp2_with fail
  refine (less_is a b c d true hAB.out _).mono ?_
  rintro e w2 ⟨rfl, hb2⟩
  replace hb2 := nx hb1 hb2
  obtain ⟨chb2, fhb2⟩ := bcell hb2
  clear chb1 fhb1
  go_wp2_with fail
  refine (less_is c d a b false hBA.out _).mono ?_
  rintro e w3 ⟨rfl, hb3⟩
  replace hb3 := nx hb2 hb3
  obtain ⟨chb3, fhb3⟩ := bcell hb3
  clear chb2 fhb2
  go_wp2_with fail
  refine (less_is a b c d true hAB.out _).mono ?_
  rintro e w4 ⟨rfl, hb4⟩
  replace hb4 := nx hb3 hb4
  obtain ⟨chb4, fhb4⟩ := bcell hb4
  clear chb3 fhb3
  go_wp2_with fail
  refine (later_is a b c d c d (lat_snd hBA.out) _).mono ?_
  rintro e w5 ⟨rfl, hb5⟩
  replace hb5 := nx hb4 hb5
  obtain ⟨chb5, fhb5⟩ := bcell hb5
  clear chb4 fhb4
  have hz := hb5.size
  simp at hz
  have hz0 : w.heap.size < w5.heap.size := by omega
  have hz1 : w.heap.size + 1 < w5.heap.size := by omega
  have hz2 : w.heap.size + 1 + 1 < w5.heap.size := by omega
  clear hz
  go_wp2_with fail
  refine (less_is a b c d true hAB.out _).mono ?_
  rintro e w6 ⟨rfl, hb6⟩
  obtain ⟨chb6, fhb6⟩ := bcell hb6
  go_wp2_with fail
  refine (less_is c d f g false hBC.out _).mono ?_
  rintro e w7 ⟨rfl, hb7⟩
  replace hb7 := nx hb6 hb7
  obtain ⟨chb7, fhb7⟩ := bcell hb7
  clear chb6 fhb6
  go_wp2_with fail
  refine (less_is c d a b false hBA.out _).mono ?_
  rintro e w8 ⟨rfl, hb8⟩
  replace hb8 := nx hb7 hb8
  obtain ⟨chb8, fhb8⟩ := bcell hb8
  clear chb7 fhb7
  go_wp2_with fail
  refine (less_is c d c d false (lessB_self c d) _).mono ?_
  rintro e w9 ⟨rfl, hb9⟩
  replace hb9 := nx hb8 hb9
  obtain ⟨chb9, fhb9⟩ := bcell hb9
  clear chb8 fhb8
  go_wp2_with fail
  refine (awake_any _).mono ?_
  rintro e w10 ⟨rfl, hb10⟩
  replace hb10 := nx hb9 hb10
  obtain ⟨chb10, fhb10⟩ := bcell hb10
  clear chb9 fhb9
  go_wp2
  go_ret
  exact ⟨rfl, nx (nx (nx (below3 w _ _ _) hb5) (below1 _ _)) hb10⟩
set_option maxHeartbeats 3200000 in
theorem ordBa (a b c d f g : Int) (h : lessB c d a b = true) (w : World) :
    Calls Try.prog 4 #[.agg #[.int .i64 a, .int .i64 b], .agg #[.int .i64 c, .int .i64 d], .agg #[.int .i64 f, .int .i64 g]] w fun e w' => e = .returned (.bool true) ∧ Below w.heap.size w w' := by
  have hAB : Hid (lessB a b c d = false) := Lib.hid (lessB_no.2 (by have := lessB_iff.1 h; omega))
  have e1 := neqB_is a b c d true (by rw [unlike (.inr h)]; rfl)
  have e2 := same a b
  have hBA := Lib.hid h
  clear h
  have hg := guardB
  go_enter Try.func4, Try.ntmps4
  go_wp2_with fail
  refine (less_is a b a b false (lessB_self a b) _).mono ?_
  rintro e w1 ⟨rfl, hb1⟩
  obtain ⟨chb1, fhb1⟩ := bcell hb1
  go_wp2_with fail
  refine (less_is a b c d false hAB.out _).mono ?_
  rintro e w2 ⟨rfl, hb2⟩
  replace hb2 := nx hb1 hb2
  obtain ⟨chb2, fhb2⟩ := bcell hb2
  clear chb1 fhb1
  go_wp2_with fail
  refine (less_is a b c d false hAB.out _).mono ?_
  rintro e w3 ⟨rfl, hb3⟩
  replace hb3 := nx hb2 hb3
  obtain ⟨chb3, fhb3⟩ := bcell hb3
  clear chb2 fhb2
  go_wp2_with fail
  refine (less_is c d a b true hBA.out _).mono ?_
  rintro e w4 ⟨rfl, hb4⟩
  replace hb4 := nx hb3 hb4
  obtain ⟨chb4, fhb4⟩ := bcell hb4
  clear chb3 fhb3
  go_wp2_with fail
  refine (later_is a b c d a b (lat_fst hBA.out) _).mono ?_
  rintro e w5 ⟨rfl, hb5⟩
  replace hb5 := nx hb4 hb5
  obtain ⟨chb5, fhb5⟩ := bcell hb5
  clear chb4 fhb4
  have hz := hb5.size
  simp at hz
  have hz0 : w.heap.size < w5.heap.size := by omega
  have hz1 : w.heap.size + 1 < w5.heap.size := by omega
  have hz2 : w.heap.size + 1 + 1 < w5.heap.size := by omega
  clear hz
  go_wp2_with fail
  refine (less_is a b c d false hAB.out _).mono ?_
  rintro e w6 ⟨rfl, hb6⟩
  obtain ⟨chb6, fhb6⟩ := bcell hb6
  go_wp2_with fail
  refine (less_is a b a b false (lessB_self a b) _).mono ?_
  rintro e w7 ⟨rfl, hb7⟩
  replace hb7 := nx hb6 hb7
  obtain ⟨chb7, fhb7⟩ := bcell hb7
  clear chb6 fhb6
  go_wp2_with fail
  refine (less_is a b c d false hAB.out _).mono ?_
  rintro e w8 ⟨rfl, hb8⟩
  replace hb8 := nx hb7 hb8
  obtain ⟨chb8, fhb8⟩ := bcell hb8
  clear chb7 fhb7
  go_wp2_with fail
  refine (awake_any _).mono ?_
  rintro e w9 ⟨rfl, hb9⟩
  replace hb9 := nx hb8 hb9
  obtain ⟨chb9, fhb9⟩ := bcell hb9
  clear chb8 fhb8
  go_wp2
  go_ret
  exact ⟨rfl, nx (nx (nx (below3 w _ _ _) hb5) (below1 _ _)) hb9⟩
set_option maxHeartbeats 3200000 in
theorem ordEq (a b f g : Int)  (w : World) :
    Calls Try.prog 4 #[.agg #[.int .i64 a, .int .i64 b], .agg #[.int .i64 a, .int .i64 b], .agg #[.int .i64 f, .int .i64 g]] w fun e w' => e = .returned (.bool true) ∧ Below w.heap.size w w' := by
  have e1 := neqB_is a b a b false (by simp)
  have e2 := same a b
  have hg := guardB
  go_enter Try.func4, Try.ntmps4
  go_wp2_with fail
  refine (less_is a b a b false (lessB_self a b) _).mono ?_
  rintro e w1 ⟨rfl, hb1⟩
  obtain ⟨chb1, fhb1⟩ := bcell hb1
  go_wp2_with fail
  refine (less_is a b a b false (lessB_self a b) _).mono ?_
  rintro e w2 ⟨rfl, hb2⟩
  replace hb2 := nx hb1 hb2
  obtain ⟨chb2, fhb2⟩ := bcell hb2
  clear chb1 fhb1
  go_wp2_with fail
  refine (later_is a b a b a b (lat_snd (lessB_self a b)) _).mono ?_
  rintro e w3 ⟨rfl, hb3⟩
  replace hb3 := nx hb2 hb3
  obtain ⟨chb3, fhb3⟩ := bcell hb3
  clear chb2 fhb2
  have hz := hb3.size
  simp at hz
  have hz0 : w.heap.size < w3.heap.size := by omega
  have hz1 : w.heap.size + 1 < w3.heap.size := by omega
  have hz2 : w.heap.size + 1 + 1 < w3.heap.size := by omega
  clear hz
  go_wp2_with fail
  refine (less_is a b a b false (lessB_self a b) _).mono ?_
  rintro e w4 ⟨rfl, hb4⟩
  obtain ⟨chb4, fhb4⟩ := bcell hb4
  go_wp2_with fail
  refine (less_is a b a b false (lessB_self a b) _).mono ?_
  rintro e w5 ⟨rfl, hb5⟩
  replace hb5 := nx hb4 hb5
  obtain ⟨chb5, fhb5⟩ := bcell hb5
  clear chb4 fhb4
  go_wp2_with fail
  refine (less_is a b a b false (lessB_self a b) _).mono ?_
  rintro e w6 ⟨rfl, hb6⟩
  replace hb6 := nx hb5 hb6
  obtain ⟨chb6, fhb6⟩ := bcell hb6
  clear chb5 fhb5
  go_wp2_with fail
  refine (awake_any _).mono ?_
  rintro e w7 ⟨rfl, hb7⟩
  replace hb7 := nx hb6 hb7
  obtain ⟨chb7, fhb7⟩ := bcell hb7
  clear chb6 fhb6
  go_wp2
  go_ret
  exact ⟨rfl, nx (nx (nx (below3 w _ _ _) hb3) (below1 _ _)) hb7⟩
theorem walkOrder (a b c d f g : Int) (w : World) :
    Calls Try.prog 4 #[.agg #[.int .i64 a, .int .i64 b], .agg #[.int .i64 c, .int .i64 d], .agg #[.int .i64 f, .int .i64 g]] w fun e w' => e = .returned (.bool true) ∧ Below w.heap.size w w' := by
  by_cases h : lessB a b c d = true
  · by_cases h2 : lessB c d f g = true
    · exact ordAbc a b c d f g h h2 w
    · exact ordAb a b c d f g h (by simpa using h2) w
  · by_cases h2 : lessB c d a b = true
    · exact ordBa a b c d f g h2 w
    · have h3 : ¬ (a < c ∨ a = c ∧ b < d) := fun x => h (lessB_iff.2 x)
      have h4 : ¬ (c < a ∨ c = a ∧ d < b) := fun x => h2 (lessB_iff.2 x)
      obtain rfl : c = a := by omega
      obtain rfl : d = b := by omega
      exact ordEq c d f g w
end Go.Proofs.Ytkgjhfndlnoddaa.Ba
