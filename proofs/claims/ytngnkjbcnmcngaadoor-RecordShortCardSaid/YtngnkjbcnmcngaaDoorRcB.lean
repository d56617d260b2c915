/- The document's own of layer 16: value, place. -/
import Derived.Test.YtngnkjbcnmcngaaDoorRcA
namespace Go.Proofs.YtngnkjbcnmcngaaDoor.Rc
open Go.RowKit
set_option linter.unusedVariables false
open Go.Proofs.YtngnkjbcnmcngaaDoor.Rw
open Go.Proofs.YtngnkjbcnmcngaaDoor.Cm (chkB chkE rCheck_is)
open Go.Proofs.YtngnkjbcnmcngaaDoor.Ve (rightB)
theorem rRightV_is {d : Nat → Int} {n : Int} {b : Bool} (H : Hid (rightB d n = b)) (w : World) :
    Calls Tryd.prog 47 #[.agg (Ve.fc d), .int .i64 n] w fun e w' => e = .returned (.bool b) ∧ Below w.heap.size w w' := by
  rw [← H.out]; exact Ve.rRight_any d n w
theorem chk_yes {c : Nat → Int} (h : chkB c = true) : chkE c = 0 := by unfold chkE; rw [h]; rfl
theorem chk_no {c : Nat → Int} (h : chkB c = false) : chkE c = 1 := by unfold chkE; rw [h]; rfl
set_option maxRecDepth 8000 in
set_option maxHeartbeats 2000000 in
theorem rValue_any (c : Nat → Int) (q : Int) (d : Nat → Int) (n : Int) (w : World) :
    Calls Tryd.prog 26 #[.agg (cv c q d), .int .i64 n] w fun e w' => e = .returned (.bool (okV c q d n)) ∧ Below w.heap.size w w' := by
  obtain ⟨V, hV⟩ : ∃ Q_ : World, w.alloc (.cells (cv c q d) 31) = Q_ := ⟨_, rfl⟩
  have bV : Below w.heap.size w V := hV ▸ below1 _ _
  have hr0 : row V w.heap.size = cv c q d := hV ▸ row_new _ _ _ _ rfl
  have hl0 : w.heap.size < V.heap.size := by rw [← hV]; simp
  have HK := Lib.hid (show ∀ u, Below V.heap.size V u → row u w.heap.size = cv c q d ∧ u.cell? ⟨w.heap.size, 9, none⟩ = some (.int .i64 q) ∧ w.heap.size < u.heap.size from fun u hu => by
    have h1 := row_stays hr0 hl0 hu
    refine ⟨h1, ?_, Nat.lt_of_lt_of_le hl0 hu.size⟩
    rw [cell_row (n := 16) u w.heap.size 9 (by rw [h1]; rfl), h1]; rfl)
  clear hl0
  cases h1 : chkB c with
  | false =>
    have HC := Lib.hid (chk_no h1)
    have HF : Hid (okV c q d n = false) := Lib.hid (by simp [okV, h1])
    clear h1
    go_enter Tryd.func26, Tryd.ntmps26
    go_wp2_with fail
    refine (rCheck_is HC _).mono ?_
    rintro e w1 ⟨rfl, hb1⟩
    go_wp2
    go_ret
    exact ⟨ret_bool HF.out.symm, nx bV hb1⟩
  | true =>
    have HC := Lib.hid (chk_yes h1)
    have HF : Hid (okV c q d n = (decide (0 ≤ q) && (decide (q ≤ 1073741824) && rightB d n))) := Lib.hid (by simp [okV, h1])
    clear h1
    by_cases h2 : 0 ≤ q
    · by_cases h3 : q ≤ 1073741824
      · obtain ⟨b, hb⟩ : ∃ b, rightB d n = b := ⟨_, rfl⟩
        have HB := Lib.hid hb
        have HE : Hid (okV c q d n = b) := Lib.hid (by rw [HF.out, hb]; simp [h2, h3])
        clear hb
        go_enter Tryd.func26, Tryd.ntmps26
        go_wp2_with fail
        refine (rCheck_is HC _).mono ?_
        rintro e w1 ⟨rfl, hb1⟩
        obtain ⟨m1, m2, m3⟩ := HK.out w1 hb1
        go_wp2_with fail
        refine (rRightV_is HB _).mono ?_
        rintro e w2 ⟨rfl, hb2⟩
        go_wp2
        go_ret
        exact ⟨ret_bool HE.out.symm, nx bV (nx hb1 hb2)⟩
      · have HE : Hid (okV c q d n = false) := Lib.hid (by rw [HF.out]; simp [h3])
        go_enter Tryd.func26, Tryd.ntmps26
        go_wp2_with fail
        refine (rCheck_is HC _).mono ?_
        rintro e w1 ⟨rfl, hb1⟩
        obtain ⟨m1, m2, m3⟩ := HK.out w1 hb1
        go_wp2
        go_ret
        exact ⟨ret_bool HE.out.symm, nx bV hb1⟩
    · have HE : Hid (okV c q d n = false) := Lib.hid (by rw [HF.out]; simp [h2])
      go_enter Tryd.func26, Tryd.ntmps26
      go_wp2_with fail
      refine (rCheck_is HC _).mono ?_
      rintro e w1 ⟨rfl, hb1⟩
      obtain ⟨m1, m2, m3⟩ := HK.out w1 hb1
      go_wp2
      go_ret
      exact ⟨ret_bool HE.out.symm, nx bV hb1⟩
theorem rValue_is {c : Nat → Int} {q : Int} {d : Nat → Int} {n : Int} {b : Bool} (H : Hid (okV c q d n = b)) (w : World) :
    Calls Tryd.prog 26 #[.agg (cv c q d), .int .i64 n] w fun e w' => e = .returned (.bool b) ∧ Below w.heap.size w w' := by
  rw [← H.out]; exact rValue_any c q d n w
def okP (r s n : Int) : Bool := decide (0 ≤ r ∧ r < n ∧ 1 ≤ s ∧ s ≤ 400)
theorem okP_no {r s n : Int} (h : ¬ (0 ≤ r ∧ r < n ∧ 1 ≤ s ∧ s ≤ 400)) : okP r s n = false := decide_eq_false h
set_option maxRecDepth 8000 in
set_option maxHeartbeats 2000000 in
theorem rPlace_any (r s n : Int) (w : World) :
    Calls Tryd.prog 31 #[.agg #[.int .i64 r, .int .i64 s], .int .i64 n] w fun e w' => e = .returned (.bool (okP r s n)) ∧ Below w.heap.size w w' := by
  by_cases h0 : 0 ≤ r
  · by_cases h1 : r < n
    · by_cases h2 : 1 ≤ s
      · by_cases h3 : s ≤ 400
        · have HE : Hid (okP r s n = true) := Lib.hid (decide_eq_true ⟨h0, h1, h2, h3⟩)
          go_enter Tryd.func31, Tryd.ntmps31
          go_wp2
          go_ret
          exact ⟨ret_bool HE.out.symm, below1 _ _⟩
        · have HE : Hid (okP r s n = false) := Lib.hid (okP_no (by omega))
          go_enter Tryd.func31, Tryd.ntmps31
          go_wp2
          go_ret
          exact ⟨ret_bool HE.out.symm, below1 _ _⟩
      · have HE : Hid (okP r s n = false) := Lib.hid (okP_no (by omega))
        go_enter Tryd.func31, Tryd.ntmps31
        go_wp2
        go_ret
        exact ⟨ret_bool HE.out.symm, below1 _ _⟩
    · have HE : Hid (okP r s n = false) := Lib.hid (okP_no (by omega))
      go_enter Tryd.func31, Tryd.ntmps31
      go_wp2
      go_ret
      exact ⟨ret_bool HE.out.symm, below1 _ _⟩
  · have HE : Hid (okP r s n = false) := Lib.hid (okP_no (by omega))
    go_enter Tryd.func31, Tryd.ntmps31
    go_wp2
    go_ret
    exact ⟨ret_bool HE.out.symm, below1 _ _⟩
theorem rPlace_is {r s n : Int} {b : Bool} (H : Hid (okP r s n = b)) (w : World) :
    Calls Tryd.prog 31 #[.agg #[.int .i64 r, .int .i64 s], .int .i64 n] w fun e w' => e = .returned (.bool b) ∧ Below w.heap.size w w' := by
  rw [← H.out]; exact rPlace_any r s n w
end Go.Proofs.YtngnkjbcnmcngaaDoor.Rc
