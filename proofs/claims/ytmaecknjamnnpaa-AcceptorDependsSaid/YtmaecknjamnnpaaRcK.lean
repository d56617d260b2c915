/- Package record: isBare, Right, head, ofHead. -/
import Derived.Test.YtmaecknjamnnpaaRcJ
namespace Go.Proofs.Ytmaecknjamnnpaa.Rc
open Go.RowKit
set_option linter.unusedVariables false
open Go.Proofs.Ytmaecknjamnnpaa.Rw
open Go.Proofs.Ytmaecknjamnnpaa.Bv
open Go.Proofs.Ytmaecknjamnnpaa.Ba (valB lessB)
open Go.Proofs.Ytmaecknjamnnpaa.Ve (rightB)
/-- An instance of which just its place and what was promised is known. -/
def bareI (a b c d : Int) : Ins := ⟨a, b, c, d, 0, 0, 0, Cm.zeroF, 0, Ve.zeroV, false⟩
set_option maxRecDepth 8000 in
set_option maxHeartbeats 2000000 in
theorem isBare_any (i : Ins) (w : World) :
    Calls Try.prog 54 #[.agg (ci i)] w fun e w' => e = .returned (.bool (eqIns i (bareI i.pr i.ps i.bn i.br))) ∧ Below w.heap.size w w' := by
  go_enter Try.func54, Try.ntmps54
  go_wp2
  go_ret
  exact ⟨rfl, below1 _ _⟩
theorem isBare_is {i : Ins} {b : Bool} (H : Hid (eqIns i (bareI i.pr i.ps i.bn i.br) = b)) (w : World) :
    Calls Try.prog 54 #[.agg (ci i)] w fun e w' => e = .returned (.bool b) ∧ Below w.heap.size w w' := by
  rw [← H.out]; exact isBare_any i w
theorem bare_of {i : Ins} (h : i.st = 0) : eqIns i (bareI i.pr i.ps i.bn i.br) = bare i := by
  unfold bareI eqIns bare eqVal
  simp only [beq_self_eq_true, Bool.and_self, Bool.true_and, h]
  cases Cm.eqF i.c Cm.zeroF <;> cases Ve.eqV i.d Ve.zeroV <;> cases i.sm <;> by_cases h1 : i.q = 0 <;> by_cases h2 : i.tn = 0 <;> by_cases h3 : i.tr = 0 <;> simp [h1, h2, h3]
theorem okI_form {i : Ins} {n : Int} (h1 : okP i.pr i.ps n = true) (h2 : okB i = true) (h3 : okV i.c i.q i.d n = true) : okI i n = (decide (0 ≤ i.st ∧ i.st ≤ 3) && (decide (i.st ≠ 0) || bare i)) := by
  have hn := (Ve.rightB_iff.1 (okV_iff.1 h3).2.2.2).1
  have e1 : decide (0 ≤ i.pr ∧ i.pr < n ∧ 1 ≤ i.ps ∧ i.ps ≤ 400) = true := h1
  unfold okB at h2
  simp only [Bool.and_eq_true] at h2
  obtain ⟨k1, k2, k3⟩ := h2
  unfold okI
  rw [decide_eq_true hn, e1, k1, k2, k3, h3]
  simp
theorem okI_no {i : Ins} {n : Int} (h : okP i.pr i.ps n = false ∨ okB i = false ∨ okV i.c i.q i.d n = false) : okI i n = false := by
  refine Bool.eq_false_iff.2 fun k => ?_
  obtain ⟨k1, k2, k3, k4, k5, k6, k7, _⟩ := okI_iff.1 k
  rcases h with h | h | h
  · exact absurd (show okP i.pr i.ps n = true from decide_eq_true k2) (by rw [h]; decide)
  · unfold okB at h; rw [k3, k4, k5] at h; cases h
  · rw [h] at k7; cases k7
set_option maxRecDepth 8000 in
set_option maxHeartbeats 8000000 in
theorem right_any (i : Ins) (n : Int) (w : World) :
    Calls Try.prog 34 #[.agg (ci i), .int .i64 n] w fun e w' => e = .returned (.bool (okI i n)) ∧ Below w.heap.size w w' := by
  obtain ⟨V, hV⟩ : ∃ Q_ : World, w.alloc (.cells (ci i) 37) = Q_ := ⟨_, rfl⟩
  have bV : Below w.heap.size w V := hV ▸ below1 _ _
  have A0 : At V w.heap.size i := hV ▸ At.new _ _ _
  obtain ⟨R, hR⟩ : ∃ R, okI i n = R := ⟨_, rfl⟩
  rw [hR]
  have HR : Hid (okI i n = R) := Lib.hid hR
  clear hR
  obtain ⟨m1, m2, m3, m4⟩ := A0.facts
  have HA := Lib.hid A0
  clear A0
  obtain ⟨c3, g3⟩ : ∃ b, okP i.pr i.ps n = b := ⟨_, rfl⟩
  have H3 := Lib.hid g3
  cases c3
  · have HE : Hid (R = false) := Lib.hid (by rw [← HR.out]; exact okI_no (.inl H3.out))
    clear g3
    go_enter Try.func34, Try.ntmps34
    go_wp2_with fail
    clear m1 m2 m3 m4
    refine (isPlace_is H3 _).mono ?_
    rintro e w3 ⟨rfl, hb3⟩
    go_wp2
    go_ret
    exact ⟨ret_bool HE.out.symm, nx bV hb3⟩
  clear g3
  obtain ⟨c4, g4⟩ : ∃ b, okB i = b := ⟨_, rfl⟩
  have H4 := Lib.hid g4
  cases c4
  · have HE : Hid (R = false) := Lib.hid (by rw [← HR.out]; exact okI_no (.inr (.inl H4.out)))
    clear g4
    go_enter Try.func34, Try.ntmps34
    go_wp2_with fail
    clear m1 m2 m3 m4
    refine (isPlace_is H3 _).mono ?_
    rintro e w3 ⟨rfl, hb3⟩
    have A3 := At.stays HA.out hb3
    obtain ⟨m1, m2, m3, m4⟩ := A3.facts
    go_wp2_with fail
    clear m1 m2 m3 m4
    refine (areBallots_is H4 _).mono ?_
    rintro e w4 ⟨rfl, hb4⟩
    go_wp2
    go_ret
    exact ⟨ret_bool HE.out.symm, nx bV (nx hb3 hb4)⟩
  clear g4
  obtain ⟨c5, g5⟩ : ∃ b, okV i.c i.q i.d n = b := ⟨_, rfl⟩
  have H5 := Lib.hid g5
  cases c5
  · have HE : Hid (R = false) := Lib.hid (by rw [← HR.out]; exact okI_no (.inr (.inr H5.out)))
    clear g5
    go_enter Try.func34, Try.ntmps34
    go_wp2_with fail
    clear m1 m2 m3 m4
    refine (isPlace_is H3 _).mono ?_
    rintro e w3 ⟨rfl, hb3⟩
    have A3 := At.stays HA.out hb3
    obtain ⟨m1, m2, m3, m4⟩ := A3.facts
    go_wp2_with fail
    clear m1 m2 m3 m4
    refine (areBallots_is H4 _).mono ?_
    rintro e w4 ⟨rfl, hb4⟩
    have A4 := At.stays A3 hb4
    obtain ⟨m1, m2, m3, m4⟩ := A4.facts
    go_wp2_with fail
    clear m1 m2 m3 m4
    refine (isValue_is H5 _).mono ?_
    rintro e w5 ⟨rfl, hb5⟩
    go_wp2
    go_ret
    exact ⟨ret_bool HE.out.symm, nx bV (nx hb3 (nx hb4 hb5))⟩
  clear g5
  have HF := Lib.hid (okI_form H3.out H4.out H5.out)
  obtain ⟨s, hs⟩ : ∃ s, i.st = s := ⟨_, rfl⟩
  have HS := Lib.hid hs
  have HB := Lib.hid (bare_of (i := i))
  rw [hs] at m2
  clear hs
  by_cases h0 : s = 0
  · subst h0
    obtain ⟨b, gb⟩ : ∃ b, bare i = b := ⟨_, rfl⟩
    have HE : Hid (R = b) := Lib.hid (by rw [← HR.out, HF.out, HS.out, gb]; simp)
    have HB2 := Lib.hid ((HB.out HS.out).trans gb)
    clear gb HB
    go_enter Try.func34, Try.ntmps34
    go_wp2_with fail
    clear m1 m2 m3 m4
    refine (isPlace_is H3 _).mono ?_
    rintro e w3 ⟨rfl, hb3⟩
    have A3 := At.stays HA.out hb3
    obtain ⟨m1, m2, m3, m4⟩ := A3.facts
    go_wp2_with fail
    clear m1 m2 m3 m4
    refine (areBallots_is H4 _).mono ?_
    rintro e w4 ⟨rfl, hb4⟩
    have A4 := At.stays A3 hb4
    obtain ⟨m1, m2, m3, m4⟩ := A4.facts
    go_wp2_with fail
    clear m1 m2 m3 m4
    refine (isValue_is H5 _).mono ?_
    rintro e w5 ⟨rfl, hb5⟩
    have A5 := At.stays A4 hb5
    obtain ⟨m1, m2, m3, m4⟩ := A5.facts
    rw [HS.out] at m2
    go_wp2_with fail
    clear m1 m2 m3 m4
    refine (isBare_is HB2 _).mono ?_
    rintro e w6 ⟨rfl, hb6⟩
    go_wp2
    go_ret
    exact ⟨ret_bool HE.out.symm, nx bV (nx hb3 (nx hb4 (nx hb5 hb6)))⟩
  · by_cases h1 : s = 1 ∨ s = 2 ∨ s = 3
    · have HE : Hid (R = true) := Lib.hid (by rw [← HR.out, HF.out, HS.out, decide_eq_true (show 0 ≤ s ∧ s ≤ 3 by omega), decide_eq_true (show s ≠ 0 from h0)]; rfl)
      clear h0
      rcases h1 with rfl | rfl | rfl
      all_goals
        go_enter Try.func34, Try.ntmps34
        go_wp2_with fail
        clear m1 m2 m3 m4
        refine (isPlace_is H3 _).mono ?_
        rintro e w3 ⟨rfl, hb3⟩
        have A3 := At.stays HA.out hb3
        obtain ⟨m1, m2, m3, m4⟩ := A3.facts
        go_wp2_with fail
        clear m1 m2 m3 m4
        refine (areBallots_is H4 _).mono ?_
        rintro e w4 ⟨rfl, hb4⟩
        have A4 := At.stays A3 hb4
        obtain ⟨m1, m2, m3, m4⟩ := A4.facts
        go_wp2_with fail
        clear m1 m2 m3 m4
        refine (isValue_is H5 _).mono ?_
        rintro e w5 ⟨rfl, hb5⟩
        have A5 := At.stays A4 hb5
        obtain ⟨m1, m2, m3, m4⟩ := A5.facts
        rw [HS.out] at m2
        go_wp2
        go_ret
        exact ⟨ret_bool HE.out.symm, nx bV (nx hb3 (nx hb4 hb5))⟩
    · have HE : Hid (R = false) := Lib.hid (by rw [← HR.out, HF.out, HS.out, decide_eq_false (show ¬ (0 ≤ s ∧ s ≤ 3) by omega)]; rfl)
      have g0 : (s == 0) = false := by simpa using h0
      have g1 : (s == 1) = false := by simp; omega
      have g2 : (s == 2) = false := by simp; omega
      have g3 : (s == 3) = false := by simp; omega
      clear h0 h1
      go_enter Try.func34, Try.ntmps34
      go_wp2_with fail
      clear m1 m2 m3 m4
      refine (isPlace_is H3 _).mono ?_
      rintro e w3 ⟨rfl, hb3⟩
      have A3 := At.stays HA.out hb3
      obtain ⟨m1, m2, m3, m4⟩ := A3.facts
      go_wp2_with fail
      clear m1 m2 m3 m4
      refine (areBallots_is H4 _).mono ?_
      rintro e w4 ⟨rfl, hb4⟩
      have A4 := At.stays A3 hb4
      obtain ⟨m1, m2, m3, m4⟩ := A4.facts
      go_wp2_with fail
      clear m1 m2 m3 m4
      refine (isValue_is H5 _).mono ?_
      rintro e w5 ⟨rfl, hb5⟩
      have A5 := At.stays A4 hb5
      obtain ⟨m1, m2, m3, m4⟩ := A5.facts
      rw [HS.out] at m2
      go_wp2
      go_ret
      exact ⟨ret_bool HE.out.symm, nx bV (nx hb3 (nx hb4 hb5))⟩
theorem right_is {i : Ins} {n : Int} {b : Bool} (H : Hid (okI i n = b)) (w : World) :
    Calls Try.prog 34 #[.agg (ci i), .int .i64 n] w fun e w' => e = .returned (.bool b) ∧ Below w.heap.size w w' := by
  rw [← H.out]; exact right_any i n w
theorem rRight_is {i : Ins} {n : Int} {b : Bool} (H : Hid (okI i n = b)) (w : World) :
    Calls Try.prog 29 #[.agg (ci i), .int .i64 n] w fun e w' => e = .returned (.bool b) ∧ Below w.heap.size w w' := by
  rw [← H.out]; exact rRight_any i n w
/-- The numbers ahead of the value, in the order of writing; and back. -/
def headN (i : Ins) : Nat → Int := v8 i.pr i.ps i.st (flagN i.sm) i.bn i.br i.tn i.tr
def ofH (f : Nat → Int) : Ins := ⟨f 0, f 1, f 4, f 5, f 6, f 7, f 2, Cm.zeroF, 0, Ve.zeroV, f 3 == 1⟩
end Go.Proofs.Ytmaecknjamnnpaa.Rc
