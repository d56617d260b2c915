/- The document's own of layer 16: Right. -/
import Derived.Test.YtmaecknjamnnpaaRcE
namespace Go.Proofs.Ytmaecknjamnnpaa.Rc
open Go.RowKit
set_option linter.unusedVariables false
open Go.Proofs.Ytmaecknjamnnpaa.Rw
open Go.Proofs.Ytmaecknjamnnpaa.Ba (valB lessB)
theorem rValid_is {n r : Int} {b : Bool} (H : Hid (valB n r = b)) (w : World) :
    Calls Try.prog 47 #[.agg #[.int .i64 n, .int .i64 r]] w fun e w' => e = .returned (.bool b) ∧ Below w.heap.size w w' := by
  rw [← H.out]; exact Ba.rValid_any n r w
theorem rLess_is {a b c d : Int} {x : Bool} (H : Hid (lessB a b c d = x)) (w : World) :
    Calls Try.prog 33 #[.agg #[.int .i64 a, .int .i64 b], .agg #[.int .i64 c, .int .i64 d]] w fun e w' => e = .returned (.bool x) ∧ Below w.heap.size w w' := by
  rw [← H.out]; exact Ba.rLess_any a b c d w
/-- A variable that holds an instance. -/
structure At (w : World) (b : Nat) (i : Ins) : Prop where
  rw : row w b = ci i
  lt : b < w.heap.size
theorem At.stays {w w' : World} {b : Nat} {i : Ins} (h : At w b i) (k : Below w.heap.size w w') : At w' b i := ⟨row_stays h.rw h.lt k, Nat.lt_of_lt_of_le h.lt k.size⟩
theorem At.new (w : World) (i : Ins) (t : TypeId) : At (w.alloc (.cells (ci i) t)) w.heap.size i := ⟨row_new _ _ _ _ rfl, by simp⟩
theorem At.cell {w : World} {b : Nat} {i : Ins} (h : At w b i) (o : Nat) {v : Value} (hv : (ci i)[o]? = some v) : w.cell? ⟨b, o, none⟩ = some v := by
  rw [cell_row (n := 24) w b o (by rw [h.rw]; rfl), h.rw]; exact hv
theorem At.facts {w : World} {b : Nat} {i : Ins} (h : At w b i) : row w b = ci i ∧ w.cell? ⟨b, 6, none⟩ = some (.int .i64 i.st) ∧ w.cell? ⟨b, 24, none⟩ = some (.bool i.sm) ∧ b < w.heap.size := ⟨h.rw, h.cell 6 rfl, h.cell 24 rfl, h.lt⟩
theorem bare_eq (i : Ins) : bare i = (eqVal i.c i.q i.d Cm.zeroF 0 Ve.zeroV && (decide (i.tn = 0 ∧ i.tr = 0) && !i.sm)) := by
  unfold bare eqVal
  cases Cm.eqF i.c Cm.zeroF <;> cases Ve.eqV i.d Ve.zeroV <;> by_cases h1 : i.q = 0 <;> by_cases h2 : i.tn = 0 <;> by_cases h3 : i.tr = 0 <;> simp [h1, h2, h3]
set_option maxRecDepth 8000 in
set_option maxHeartbeats 8000000 in
theorem rRight_any (i : Ins) (n : Int) (w : World) :
    Calls Try.prog 29 #[.agg (ci i), .int .i64 n] w fun e w' => e = .returned (.bool (okI i n)) ∧ Below w.heap.size w w' := by
  obtain ⟨V, hV⟩ : ∃ Q_ : World, w.alloc (.cells (ci i) 37) = Q_ := ⟨_, rfl⟩
  have bV : Below w.heap.size w V := hV ▸ below1 _ _
  have A0 : At V w.heap.size i := hV ▸ At.new _ _ _
  obtain ⟨R, hR⟩ : ∃ R, okI i n = R := ⟨_, rfl⟩
  rw [hR]
  have HR : Hid (okI i n = R) := Lib.hid hR
  clear hR
  obtain ⟨m1, m2, m3, m4⟩ := A0.facts
  have HA := Lib.hid A0
  clear A0
  by_cases h1 : n < 1
  · skip
    have HE : Hid (R = false) := Lib.hid (by rw [← HR.out]; exact Bool.eq_false_iff.2 fun h => by obtain ⟨k1, k2, k3, k4, k5, k6, k7, _⟩ := okI_iff.1 h; omega)
    go_enter Try.func29, Try.ntmps29
    go_wp2
    go_ret
    exact ⟨ret_bool HE.out.symm, bV⟩
  by_cases h2 : 7 < n
  · skip
    have HE : Hid (R = false) := Lib.hid (by rw [← HR.out]; exact Bool.eq_false_iff.2 fun h => by obtain ⟨k1, k2, k3, k4, k5, k6, k7, _⟩ := okI_iff.1 h; omega)
    go_enter Try.func29, Try.ntmps29
    go_wp2
    go_ret
    exact ⟨ret_bool HE.out.symm, bV⟩
  obtain ⟨c3, g3⟩ : ∃ b, okP i.pr i.ps n = b := ⟨_, rfl⟩
  have H3 := Lib.hid g3
  cases c3
  · skip
    clear g3
    have HE : Hid (R = false) := Lib.hid (by rw [← HR.out]; exact Bool.eq_false_iff.2 fun h => by obtain ⟨k1, k2, k3, k4, k5, k6, k7, _⟩ := okI_iff.1 h; exact absurd (show okP i.pr i.ps n = true from decide_eq_true k2) (by rw [H3.out]; decide))
    go_enter Try.func29, Try.ntmps29
    go_wp2_with fail
    clear m1 m2 m3 m4
    refine (rPlace_is H3 _).mono ?_
    rintro e w3 ⟨rfl, hb3⟩
    have b3 := nx bV hb3
    have A3 := At.stays HA.out hb3
    obtain ⟨m1, m2, m3, m4⟩ := A3.facts
    go_wp2
    go_ret
    exact ⟨ret_bool HE.out.symm, b3⟩
  clear g3
  obtain ⟨c4, g4⟩ : ∃ b, valB i.bn i.br = b := ⟨_, rfl⟩
  have H4 := Lib.hid g4
  cases c4
  · skip
    clear g4
    have HE : Hid (R = false) := Lib.hid (by rw [← HR.out]; exact Bool.eq_false_iff.2 fun h => by obtain ⟨k1, k2, k3, k4, k5, k6, k7, _⟩ := okI_iff.1 h; rw [H4.out] at k3; cases k3)
    go_enter Try.func29, Try.ntmps29
    go_wp2_with fail
    clear m1 m2 m3 m4
    refine (rPlace_is H3 _).mono ?_
    rintro e w3 ⟨rfl, hb3⟩
    have b3 := nx bV hb3
    have A3 := At.stays HA.out hb3
    obtain ⟨m1, m2, m3, m4⟩ := A3.facts
    go_wp2_with fail
    clear m1 m2 m3 m4
    refine (rValid_is H4 _).mono ?_
    rintro e w4 ⟨rfl, hb4⟩
    have b4 := nx b3 hb4
    have A4 := At.stays A3 hb4
    obtain ⟨m1, m2, m3, m4⟩ := A4.facts
    go_wp2
    go_ret
    exact ⟨ret_bool HE.out.symm, b4⟩
  clear g4
  obtain ⟨c5, g5⟩ : ∃ b, valB i.tn i.tr = b := ⟨_, rfl⟩
  have H5 := Lib.hid g5
  cases c5
  · skip
    clear g5
    have HE : Hid (R = false) := Lib.hid (by rw [← HR.out]; exact Bool.eq_false_iff.2 fun h => by obtain ⟨k1, k2, k3, k4, k5, k6, k7, _⟩ := okI_iff.1 h; rw [H5.out] at k4; cases k4)
    go_enter Try.func29, Try.ntmps29
    go_wp2_with fail
    clear m1 m2 m3 m4
    refine (rPlace_is H3 _).mono ?_
    rintro e w3 ⟨rfl, hb3⟩
    have b3 := nx bV hb3
    have A3 := At.stays HA.out hb3
    obtain ⟨m1, m2, m3, m4⟩ := A3.facts
    go_wp2_with fail
    clear m1 m2 m3 m4
    refine (rValid_is H4 _).mono ?_
    rintro e w4 ⟨rfl, hb4⟩
    have b4 := nx b3 hb4
    have A4 := At.stays A3 hb4
    obtain ⟨m1, m2, m3, m4⟩ := A4.facts
    go_wp2_with fail
    clear m1 m2 m3 m4
    refine (rValid_is H5 _).mono ?_
    rintro e w5 ⟨rfl, hb5⟩
    have b5 := nx b4 hb5
    have A5 := At.stays A4 hb5
    obtain ⟨m1, m2, m3, m4⟩ := A5.facts
    go_wp2
    go_ret
    exact ⟨ret_bool HE.out.symm, b5⟩
  clear g5
  obtain ⟨c6, g6⟩ : ∃ b, lessB i.bn i.br i.tn i.tr = b := ⟨_, rfl⟩
  have H6 := Lib.hid g6
  cases c6
  rotate_left
  · skip
    clear g6
    have HE : Hid (R = false) := Lib.hid (by rw [← HR.out]; exact Bool.eq_false_iff.2 fun h => by obtain ⟨k1, k2, k3, k4, k5, k6, k7, _⟩ := okI_iff.1 h; rw [H6.out] at k5; cases k5)
    go_enter Try.func29, Try.ntmps29
    go_wp2_with fail
    clear m1 m2 m3 m4
    refine (rPlace_is H3 _).mono ?_
    rintro e w3 ⟨rfl, hb3⟩
    have b3 := nx bV hb3
    have A3 := At.stays HA.out hb3
    obtain ⟨m1, m2, m3, m4⟩ := A3.facts
    go_wp2_with fail
    clear m1 m2 m3 m4
    refine (rValid_is H4 _).mono ?_
    rintro e w4 ⟨rfl, hb4⟩
    have b4 := nx b3 hb4
    have A4 := At.stays A3 hb4
    obtain ⟨m1, m2, m3, m4⟩ := A4.facts
    go_wp2_with fail
    clear m1 m2 m3 m4
    refine (rValid_is H5 _).mono ?_
    rintro e w5 ⟨rfl, hb5⟩
    have b5 := nx b4 hb5
    have A5 := At.stays A4 hb5
    obtain ⟨m1, m2, m3, m4⟩ := A5.facts
    go_wp2_with fail
    clear m1 m2 m3 m4
    refine (rLess_is H6 _).mono ?_
    rintro e w6 ⟨rfl, hb6⟩
    have b6 := nx b5 hb6
    have A6 := At.stays A5 hb6
    obtain ⟨m1, m2, m3, m4⟩ := A6.facts
    go_wp2
    go_ret
    exact ⟨ret_bool HE.out.symm, b6⟩
  clear g6
  by_cases h7 : i.st < 0
  · skip
    have HE : Hid (R = false) := Lib.hid (by rw [← HR.out]; exact Bool.eq_false_iff.2 fun h => by obtain ⟨k1, k2, k3, k4, k5, k6, k7, _⟩ := okI_iff.1 h; omega)
    go_enter Try.func29, Try.ntmps29
    go_wp2_with fail
    clear m1 m2 m3 m4
    refine (rPlace_is H3 _).mono ?_
    rintro e w3 ⟨rfl, hb3⟩
    have b3 := nx bV hb3
    have A3 := At.stays HA.out hb3
    obtain ⟨m1, m2, m3, m4⟩ := A3.facts
    go_wp2_with fail
    clear m1 m2 m3 m4
    refine (rValid_is H4 _).mono ?_
    rintro e w4 ⟨rfl, hb4⟩
    have b4 := nx b3 hb4
    have A4 := At.stays A3 hb4
    obtain ⟨m1, m2, m3, m4⟩ := A4.facts
    go_wp2_with fail
    clear m1 m2 m3 m4
    refine (rValid_is H5 _).mono ?_
    rintro e w5 ⟨rfl, hb5⟩
    have b5 := nx b4 hb5
    have A5 := At.stays A4 hb5
    obtain ⟨m1, m2, m3, m4⟩ := A5.facts
    go_wp2_with fail
    clear m1 m2 m3 m4
    refine (rLess_is H6 _).mono ?_
    rintro e w6 ⟨rfl, hb6⟩
    have b6 := nx b5 hb6
    have A6 := At.stays A5 hb6
    obtain ⟨m1, m2, m3, m4⟩ := A6.facts
    go_wp2
    go_ret
    exact ⟨ret_bool HE.out.symm, b6⟩
  by_cases h8 : 3 < i.st
  · skip
    have HE : Hid (R = false) := Lib.hid (by rw [← HR.out]; exact Bool.eq_false_iff.2 fun h => by obtain ⟨k1, k2, k3, k4, k5, k6, k7, _⟩ := okI_iff.1 h; omega)
    go_enter Try.func29, Try.ntmps29
    go_wp2_with fail
    clear m1 m2 m3 m4
    refine (rPlace_is H3 _).mono ?_
    rintro e w3 ⟨rfl, hb3⟩
    have b3 := nx bV hb3
    have A3 := At.stays HA.out hb3
    obtain ⟨m1, m2, m3, m4⟩ := A3.facts
    go_wp2_with fail
    clear m1 m2 m3 m4
    refine (rValid_is H4 _).mono ?_
    rintro e w4 ⟨rfl, hb4⟩
    have b4 := nx b3 hb4
    have A4 := At.stays A3 hb4
    obtain ⟨m1, m2, m3, m4⟩ := A4.facts
    go_wp2_with fail
    clear m1 m2 m3 m4
    refine (rValid_is H5 _).mono ?_
    rintro e w5 ⟨rfl, hb5⟩
    have b5 := nx b4 hb5
    have A5 := At.stays A4 hb5
    obtain ⟨m1, m2, m3, m4⟩ := A5.facts
    go_wp2_with fail
    clear m1 m2 m3 m4
    refine (rLess_is H6 _).mono ?_
    rintro e w6 ⟨rfl, hb6⟩
    have b6 := nx b5 hb6
    have A6 := At.stays A5 hb6
    obtain ⟨m1, m2, m3, m4⟩ := A6.facts
    go_wp2
    go_ret
    exact ⟨ret_bool HE.out.symm, b6⟩
  obtain ⟨c9, g9⟩ : ∃ b, okV i.c i.q i.d n = b := ⟨_, rfl⟩
  have H9 := Lib.hid g9
  cases c9
  · skip
    clear g9
    have HE : Hid (R = false) := Lib.hid (by rw [← HR.out]; exact Bool.eq_false_iff.2 fun h => by obtain ⟨k1, k2, k3, k4, k5, k6, k7, _⟩ := okI_iff.1 h; rw [H9.out] at k7; cases k7)
    go_enter Try.func29, Try.ntmps29
    go_wp2_with fail
    clear m1 m2 m3 m4
    refine (rPlace_is H3 _).mono ?_
    rintro e w3 ⟨rfl, hb3⟩
    have b3 := nx bV hb3
    have A3 := At.stays HA.out hb3
    obtain ⟨m1, m2, m3, m4⟩ := A3.facts
    go_wp2_with fail
    clear m1 m2 m3 m4
    refine (rValid_is H4 _).mono ?_
    rintro e w4 ⟨rfl, hb4⟩
    have b4 := nx b3 hb4
    have A4 := At.stays A3 hb4
    obtain ⟨m1, m2, m3, m4⟩ := A4.facts
    go_wp2_with fail
    clear m1 m2 m3 m4
    refine (rValid_is H5 _).mono ?_
    rintro e w5 ⟨rfl, hb5⟩
    have b5 := nx b4 hb5
    have A5 := At.stays A4 hb5
    obtain ⟨m1, m2, m3, m4⟩ := A5.facts
    go_wp2_with fail
    clear m1 m2 m3 m4
    refine (rLess_is H6 _).mono ?_
    rintro e w6 ⟨rfl, hb6⟩
    have b6 := nx b5 hb6
    have A6 := At.stays A5 hb6
    obtain ⟨m1, m2, m3, m4⟩ := A6.facts
    go_wp2_with fail
    clear m1 m2 m3 m4
    refine (rValue_is H9 _).mono ?_
    rintro e w9 ⟨rfl, hb9⟩
    have b9 := nx b6 hb9
    have A9 := At.stays A6 hb9
    obtain ⟨m1, m2, m3, m4⟩ := A9.facts
    go_wp2
    go_ret
    exact ⟨ret_bool HE.out.symm, b9⟩
  clear g9
  have HE : Hid (R = (decide (i.st ≠ 0) || bare i)) := Lib.hid (by
    rw [← HR.out]
    unfold okI
    have e3 : decide (0 ≤ i.pr ∧ i.pr < n ∧ 1 ≤ i.ps ∧ i.ps ≤ 400) = true := H3.out
    rw [decide_eq_true (show 1 ≤ n ∧ n ≤ 7 from ⟨by omega, by omega⟩), e3, H4.out, H5.out, H6.out, decide_eq_true (show 0 ≤ i.st ∧ i.st ≤ 3 from ⟨by omega, by omega⟩), H9.out]
    simp)
  by_cases hst : i.st = 0
  · have HE2 : Hid (R = bare i) := Lib.hid (by rw [HE.out, hst]; simp)
    obtain ⟨e1, he1⟩ : ∃ b, eqVal i.c i.q i.d Cm.zeroF 0 Ve.zeroV = b := ⟨_, rfl⟩
    have HB := Lib.hid (bare_eq i)
    have HE1 := Lib.hid he1
    cases e1
    · have HF : Hid (R = false) := Lib.hid (by rw [HE2.out, HB.out, HE1.out]; rfl)
      go_enter Try.func29, Try.ntmps29
      go_wp2_with fail
      clear m1 m2 m3 m4
      refine (rPlace_is H3 _).mono ?_
      rintro e w3 ⟨rfl, hb3⟩
      have b3 := nx bV hb3
      have A3 := At.stays HA.out hb3
      obtain ⟨m1, m2, m3, m4⟩ := A3.facts
      go_wp2_with fail
      clear m1 m2 m3 m4
      refine (rValid_is H4 _).mono ?_
      rintro e w4 ⟨rfl, hb4⟩
      have b4 := nx b3 hb4
      have A4 := At.stays A3 hb4
      obtain ⟨m1, m2, m3, m4⟩ := A4.facts
      go_wp2_with fail
      clear m1 m2 m3 m4
      refine (rValid_is H5 _).mono ?_
      rintro e w5 ⟨rfl, hb5⟩
      have b5 := nx b4 hb5
      have A5 := At.stays A4 hb5
      obtain ⟨m1, m2, m3, m4⟩ := A5.facts
      go_wp2_with fail
      clear m1 m2 m3 m4
      refine (rLess_is H6 _).mono ?_
      rintro e w6 ⟨rfl, hb6⟩
      have b6 := nx b5 hb6
      have A6 := At.stays A5 hb6
      obtain ⟨m1, m2, m3, m4⟩ := A6.facts
      go_wp2_with fail
      clear m1 m2 m3 m4
      refine (rValue_is H9 _).mono ?_
      rintro e w9 ⟨rfl, hb9⟩
      have b9 := nx b6 hb9
      have A9 := At.stays A6 hb9
      obtain ⟨m1, m2, m3, m4⟩ := A9.facts
      go_wp2
      go_ret
      exact ⟨ret_bool HF.out.symm, b9⟩
    by_cases ht1 : i.tn = 0
    · by_cases ht2 : i.tr = 0
      · cases hsm : i.sm
        · have HF : Hid (R = true) := Lib.hid (by rw [HE2.out, HB.out, HE1.out, decide_eq_true (show i.tn = 0 ∧ i.tr = 0 from ⟨ht1, ht2⟩), hsm]; rfl)
          have K1 := Lib.hid ht1
          have K2 := Lib.hid ht2
          clear ht1 ht2
          go_enter Try.func29, Try.ntmps29
          go_wp2_with fail
          clear m1 m2 m3 m4
          refine (rPlace_is H3 _).mono ?_
          rintro e w3 ⟨rfl, hb3⟩
          have b3 := nx bV hb3
          have A3 := At.stays HA.out hb3
          obtain ⟨m1, m2, m3, m4⟩ := A3.facts
          go_wp2_with fail
          clear m1 m2 m3 m4
          refine (rValid_is H4 _).mono ?_
          rintro e w4 ⟨rfl, hb4⟩
          have b4 := nx b3 hb4
          have A4 := At.stays A3 hb4
          obtain ⟨m1, m2, m3, m4⟩ := A4.facts
          go_wp2_with fail
          clear m1 m2 m3 m4
          refine (rValid_is H5 _).mono ?_
          rintro e w5 ⟨rfl, hb5⟩
          have b5 := nx b4 hb5
          have A5 := At.stays A4 hb5
          obtain ⟨m1, m2, m3, m4⟩ := A5.facts
          go_wp2_with fail
          clear m1 m2 m3 m4
          refine (rLess_is H6 _).mono ?_
          rintro e w6 ⟨rfl, hb6⟩
          have b6 := nx b5 hb6
          have A6 := At.stays A5 hb6
          obtain ⟨m1, m2, m3, m4⟩ := A6.facts
          go_wp2_with fail
          clear m1 m2 m3 m4
          refine (rValue_is H9 _).mono ?_
          rintro e w9 ⟨rfl, hb9⟩
          have b9 := nx b6 hb9
          have A9 := At.stays A6 hb9
          obtain ⟨m1, m2, m3, m4⟩ := A9.facts
          have ht1 := K1.out
          have ht2 := K2.out
          go_wp2
          go_ret
          exact ⟨ret_bool HF.out.symm, b9⟩
        · have HF : Hid (R = false) := Lib.hid (by rw [HE2.out, HB.out, HE1.out, decide_eq_true (show i.tn = 0 ∧ i.tr = 0 from ⟨ht1, ht2⟩), hsm]; rfl)
          have K1 := Lib.hid ht1
          have K2 := Lib.hid ht2
          clear ht1 ht2
          go_enter Try.func29, Try.ntmps29
          go_wp2_with fail
          clear m1 m2 m3 m4
          refine (rPlace_is H3 _).mono ?_
          rintro e w3 ⟨rfl, hb3⟩
          have b3 := nx bV hb3
          have A3 := At.stays HA.out hb3
          obtain ⟨m1, m2, m3, m4⟩ := A3.facts
          go_wp2_with fail
          clear m1 m2 m3 m4
          refine (rValid_is H4 _).mono ?_
          rintro e w4 ⟨rfl, hb4⟩
          have b4 := nx b3 hb4
          have A4 := At.stays A3 hb4
          obtain ⟨m1, m2, m3, m4⟩ := A4.facts
          go_wp2_with fail
          clear m1 m2 m3 m4
          refine (rValid_is H5 _).mono ?_
          rintro e w5 ⟨rfl, hb5⟩
          have b5 := nx b4 hb5
          have A5 := At.stays A4 hb5
          obtain ⟨m1, m2, m3, m4⟩ := A5.facts
          go_wp2_with fail
          clear m1 m2 m3 m4
          refine (rLess_is H6 _).mono ?_
          rintro e w6 ⟨rfl, hb6⟩
          have b6 := nx b5 hb6
          have A6 := At.stays A5 hb6
          obtain ⟨m1, m2, m3, m4⟩ := A6.facts
          go_wp2_with fail
          clear m1 m2 m3 m4
          refine (rValue_is H9 _).mono ?_
          rintro e w9 ⟨rfl, hb9⟩
          have b9 := nx b6 hb9
          have A9 := At.stays A6 hb9
          obtain ⟨m1, m2, m3, m4⟩ := A9.facts
          have ht1 := K1.out
          have ht2 := K2.out
          go_wp2
          go_ret
          exact ⟨ret_bool HF.out.symm, b9⟩
      · have HF : Hid (R = false) := Lib.hid (by rw [HE2.out, HB.out, HE1.out, decide_eq_false (show ¬ (i.tn = 0 ∧ i.tr = 0) from fun h => ht2 h.2)]; rfl)
        have K1 := Lib.hid ht1
        clear ht1
        go_enter Try.func29, Try.ntmps29
        go_wp2_with fail
        clear m1 m2 m3 m4
        refine (rPlace_is H3 _).mono ?_
        rintro e w3 ⟨rfl, hb3⟩
        have b3 := nx bV hb3
        have A3 := At.stays HA.out hb3
        obtain ⟨m1, m2, m3, m4⟩ := A3.facts
        go_wp2_with fail
        clear m1 m2 m3 m4
        refine (rValid_is H4 _).mono ?_
        rintro e w4 ⟨rfl, hb4⟩
        have b4 := nx b3 hb4
        have A4 := At.stays A3 hb4
        obtain ⟨m1, m2, m3, m4⟩ := A4.facts
        go_wp2_with fail
        clear m1 m2 m3 m4
        refine (rValid_is H5 _).mono ?_
        rintro e w5 ⟨rfl, hb5⟩
        have b5 := nx b4 hb5
        have A5 := At.stays A4 hb5
        obtain ⟨m1, m2, m3, m4⟩ := A5.facts
        go_wp2_with fail
        clear m1 m2 m3 m4
        refine (rLess_is H6 _).mono ?_
        rintro e w6 ⟨rfl, hb6⟩
        have b6 := nx b5 hb6
        have A6 := At.stays A5 hb6
        obtain ⟨m1, m2, m3, m4⟩ := A6.facts
        go_wp2_with fail
        clear m1 m2 m3 m4
        refine (rValue_is H9 _).mono ?_
        rintro e w9 ⟨rfl, hb9⟩
        have b9 := nx b6 hb9
        have A9 := At.stays A6 hb9
        obtain ⟨m1, m2, m3, m4⟩ := A9.facts
        have ht1 := K1.out
        go_wp2
        go_ret
        exact ⟨ret_bool HF.out.symm, b9⟩
    · have HF : Hid (R = false) := Lib.hid (by rw [HE2.out, HB.out, HE1.out, decide_eq_false (show ¬ (i.tn = 0 ∧ i.tr = 0) from fun h => ht1 h.1)]; rfl)
      go_enter Try.func29, Try.ntmps29
      go_wp2_with fail
      clear m1 m2 m3 m4
      refine (rPlace_is H3 _).mono ?_
      rintro e w3 ⟨rfl, hb3⟩
      have b3 := nx bV hb3
      have A3 := At.stays HA.out hb3
      obtain ⟨m1, m2, m3, m4⟩ := A3.facts
      go_wp2_with fail
      clear m1 m2 m3 m4
      refine (rValid_is H4 _).mono ?_
      rintro e w4 ⟨rfl, hb4⟩
      have b4 := nx b3 hb4
      have A4 := At.stays A3 hb4
      obtain ⟨m1, m2, m3, m4⟩ := A4.facts
      go_wp2_with fail
      clear m1 m2 m3 m4
      refine (rValid_is H5 _).mono ?_
      rintro e w5 ⟨rfl, hb5⟩
      have b5 := nx b4 hb5
      have A5 := At.stays A4 hb5
      obtain ⟨m1, m2, m3, m4⟩ := A5.facts
      go_wp2_with fail
      clear m1 m2 m3 m4
      refine (rLess_is H6 _).mono ?_
      rintro e w6 ⟨rfl, hb6⟩
      have b6 := nx b5 hb6
      have A6 := At.stays A5 hb6
      obtain ⟨m1, m2, m3, m4⟩ := A6.facts
      go_wp2_with fail
      clear m1 m2 m3 m4
      refine (rValue_is H9 _).mono ?_
      rintro e w9 ⟨rfl, hb9⟩
      have b9 := nx b6 hb9
      have A9 := At.stays A6 hb9
      obtain ⟨m1, m2, m3, m4⟩ := A9.facts
      go_wp2
      go_ret
      exact ⟨ret_bool HF.out.symm, b9⟩
  · have HF : Hid (R = true) := Lib.hid (by rw [HE.out, decide_eq_true (show i.st ≠ 0 from hst)]; rfl)
    go_enter Try.func29, Try.ntmps29
    go_wp2_with fail
    clear m1 m2 m3 m4
    refine (rPlace_is H3 _).mono ?_
    rintro e w3 ⟨rfl, hb3⟩
    have b3 := nx bV hb3
    have A3 := At.stays HA.out hb3
    obtain ⟨m1, m2, m3, m4⟩ := A3.facts
    go_wp2_with fail
    clear m1 m2 m3 m4
    refine (rValid_is H4 _).mono ?_
    rintro e w4 ⟨rfl, hb4⟩
    have b4 := nx b3 hb4
    have A4 := At.stays A3 hb4
    obtain ⟨m1, m2, m3, m4⟩ := A4.facts
    go_wp2_with fail
    clear m1 m2 m3 m4
    refine (rValid_is H5 _).mono ?_
    rintro e w5 ⟨rfl, hb5⟩
    have b5 := nx b4 hb5
    have A5 := At.stays A4 hb5
    obtain ⟨m1, m2, m3, m4⟩ := A5.facts
    go_wp2_with fail
    clear m1 m2 m3 m4
    refine (rLess_is H6 _).mono ?_
    rintro e w6 ⟨rfl, hb6⟩
    have b6 := nx b5 hb6
    have A6 := At.stays A5 hb6
    obtain ⟨m1, m2, m3, m4⟩ := A6.facts
    go_wp2_with fail
    clear m1 m2 m3 m4
    refine (rValue_is H9 _).mono ?_
    rintro e w9 ⟨rfl, hb9⟩
    have b9 := nx b6 hb9
    have A9 := At.stays A6 hb9
    obtain ⟨m1, m2, m3, m4⟩ := A9.facts
    go_wp2
    go_ret
    exact ⟨ret_bool HF.out.symm, b9⟩
end Go.Proofs.Ytmaecknjamnnpaa.Rc
