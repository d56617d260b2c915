/- Package record: isPlace, areBallots, isValue, isBare, Right. -/
import Derived.Test.YtmaecknjamnnpaaRcF
import Derived.Test.YtmaecknjamnnpaaBaC
import Derived.Test.YtmaecknjamnnpaaCmB
import Derived.Test.YtmaecknjamnnpaaBv
namespace Go.Proofs.Ytmaecknjamnnpaa.Rc
open Go.RowKit
set_option linter.unusedVariables false
open Go.Proofs.Ytmaecknjamnnpaa.Rw
open Go.Proofs.Ytmaecknjamnnpaa.Ba (valB lessB)
open Go.Proofs.Ytmaecknjamnnpaa.Ve (rightB)
open Go.Proofs.Ytmaecknjamnnpaa.Cm (chkB chkE check_is)
theorem right_isV {d : Nat → Int} {n : Int} {b : Bool} (H : Hid (rightB d n = b)) (w : World) :
    Calls Try.prog 64 #[.agg (Ve.fc d), .int .i64 n] w fun e w' => e = .returned (.bool b) ∧ Below w.heap.size w w' := Ve.right_is d n b H.out w
theorem valid_isB {n r : Int} {b : Bool} (H : Hid (valB n r = b)) (w : World) :
    Calls Try.prog 62 #[.agg #[.int .i64 n, .int .i64 r]] w fun e w' => e = .returned (.bool b) ∧ Below w.heap.size w w' := Ba.valid_is n r b H.out w
theorem less_isB {a b c d : Int} {x : Bool} (H : Hid (lessB a b c d = x)) (w : World) :
    Calls Try.prog 17 #[.agg #[.int .i64 a, .int .i64 b], .agg #[.int .i64 c, .int .i64 d]] w fun e w' => e = .returned (.bool x) ∧ Below w.heap.size w w' := Ba.less_is a b c d x H.out w
set_option maxRecDepth 8000 in
set_option maxHeartbeats 2000000 in
theorem isPlace_any (r s n : Int) (w : World) :
    Calls Try.prog 51 #[.agg #[.int .i64 r, .int .i64 s], .int .i64 n] w fun e w' => e = .returned (.bool (okP r s n)) ∧ Below w.heap.size w w' := by
  by_cases h0 : 0 ≤ r
  · by_cases h1 : r < n
    · by_cases h2 : 1 ≤ s
      · by_cases h3 : s ≤ 400
        · have HE : Hid (okP r s n = true) := Lib.hid (decide_eq_true ⟨h0, h1, h2, h3⟩)
          go_enter Try.func51, Try.ntmps51
          go_wp2
          go_ret
          exact ⟨ret_bool HE.out.symm, below1 _ _⟩
        · have HE : Hid (okP r s n = false) := Lib.hid (okP_no (by omega))
          go_enter Try.func51, Try.ntmps51
          go_wp2
          go_ret
          exact ⟨ret_bool HE.out.symm, below1 _ _⟩
      · have HE : Hid (okP r s n = false) := Lib.hid (okP_no (by omega))
        go_enter Try.func51, Try.ntmps51
        go_wp2
        go_ret
        exact ⟨ret_bool HE.out.symm, below1 _ _⟩
    · have HE : Hid (okP r s n = false) := Lib.hid (okP_no (by omega))
      go_enter Try.func51, Try.ntmps51
      go_wp2
      go_ret
      exact ⟨ret_bool HE.out.symm, below1 _ _⟩
  · have HE : Hid (okP r s n = false) := Lib.hid (okP_no (by omega))
    go_enter Try.func51, Try.ntmps51
    go_wp2
    go_ret
    exact ⟨ret_bool HE.out.symm, below1 _ _⟩
theorem isPlace_is {r s n : Int} {b : Bool} (H : Hid (okP r s n = b)) (w : World) :
    Calls Try.prog 51 #[.agg #[.int .i64 r, .int .i64 s], .int .i64 n] w fun e w' => e = .returned (.bool b) ∧ Below w.heap.size w w' := by
  rw [← H.out]; exact isPlace_any r s n w
set_option maxRecDepth 8000 in
set_option maxHeartbeats 2000000 in
theorem isValue_any (c : Nat → Int) (q : Int) (d : Nat → Int) (n : Int) (w : World) :
    Calls Try.prog 53 #[.agg (cv c q d), .int .i64 n] w fun e w' => e = .returned (.bool (okV c q d n)) ∧ Below w.heap.size w w' := by
  obtain ⟨V, hV⟩ : ∃ Q_ : World, w.alloc (.cells (cv c q d) 32) = Q_ := ⟨_, rfl⟩
  have bV : Below w.heap.size w V := hV ▸ below1 _ _
  have hr0 : row V w.heap.size = cv c q d := hV ▸ row_new _ _ _ _ rfl
  have hl0 : w.heap.size < V.heap.size := by rw [← hV]; simp
  have HK := Lib.hid (show ∀ u, Below V.heap.size V u → row u w.heap.size = cv c q d ∧ u.cell? ⟨w.heap.size, 9, none⟩ = some (.int .i64 q) ∧ w.heap.size < u.heap.size from fun u hu => by
    have h1 := row_stays hr0 hl0 hu
    refine ⟨h1, ?_, Nat.lt_of_lt_of_le hl0 hu.size⟩
    rw [cell_row (n := 16) u w.heap.size 9 (by rw [h1]; rfl), h1]; rfl)
  clear hl0
  cases h1 : chkB c with
  | false =>
    have HC := Lib.hid (chk_no h1)
    have HF : Hid (okV c q d n = false) := Lib.hid (by simp [okV, h1])
    clear h1
    go_enter Try.func53, Try.ntmps53
    go_wp2_with fail
    refine (check_is HC _).mono ?_
    rintro e w1 ⟨rfl, hb1⟩
    go_wp2
    go_ret
    exact ⟨ret_bool HF.out.symm, nx bV hb1⟩
  | true =>
    have HC := Lib.hid (chk_yes h1)
    have HF : Hid (okV c q d n = (decide (0 ≤ q) && (decide (q ≤ 1073741824) && rightB d n))) := Lib.hid (by simp [okV, h1])
    clear h1
    by_cases h2 : 0 ≤ q
    · by_cases h3 : q ≤ 1073741824
      · obtain ⟨b, hb⟩ : ∃ b, rightB d n = b := ⟨_, rfl⟩
        have HB := Lib.hid hb
        have HE : Hid (okV c q d n = b) := Lib.hid (by rw [HF.out, hb]; simp [h2, h3])
        clear hb
        go_enter Try.func53, Try.ntmps53
        go_wp2_with fail
        refine (check_is HC _).mono ?_
        rintro e w1 ⟨rfl, hb1⟩
        obtain ⟨m1, m2, m3⟩ := HK.out w1 hb1
        go_wp2_with fail
        refine (right_isV HB _).mono ?_
        rintro e w2 ⟨rfl, hb2⟩
        go_wp2
        go_ret
        exact ⟨ret_bool HE.out.symm, nx bV (nx hb1 hb2)⟩
      · have HE : Hid (okV c q d n = false) := Lib.hid (by rw [HF.out]; simp [h3])
        go_enter Try.func53, Try.ntmps53
        go_wp2_with fail
        refine (check_is HC _).mono ?_
        rintro e w1 ⟨rfl, hb1⟩
        obtain ⟨m1, m2, m3⟩ := HK.out w1 hb1
        go_wp2
        go_ret
        exact ⟨ret_bool HE.out.symm, nx bV hb1⟩
    · have HE : Hid (okV c q d n = false) := Lib.hid (by rw [HF.out]; simp [h2])
      go_enter Try.func53, Try.ntmps53
      go_wp2_with fail
      refine (check_is HC _).mono ?_
      rintro e w1 ⟨rfl, hb1⟩
      obtain ⟨m1, m2, m3⟩ := HK.out w1 hb1
      go_wp2
      go_ret
      exact ⟨ret_bool HE.out.symm, nx bV hb1⟩
theorem isValue_is {c : Nat → Int} {q : Int} {d : Nat → Int} {n : Int} {b : Bool} (H : Hid (okV c q d n = b)) (w : World) :
    Calls Try.prog 53 #[.agg (cv c q d), .int .i64 n] w fun e w' => e = .returned (.bool b) ∧ Below w.heap.size w w' := by
  rw [← H.out]; exact isValue_any c q d n w
/-- Both ballots may be, and what was promised is not less than what was taken. -/
def okB (i : Ins) : Bool := valB i.bn i.br && (valB i.tn i.tr && !lessB i.bn i.br i.tn i.tr)
set_option maxRecDepth 8000 in
set_option maxHeartbeats 2000000 in
theorem areBallots_any (i : Ins) (w : World) :
    Calls Try.prog 52 #[.agg (ci i)] w fun e w' => e = .returned (.bool (okB i)) ∧ Below w.heap.size w w' := by
  obtain ⟨V, hV⟩ : ∃ Q_ : World, w.alloc (.cells (ci i) 37) = Q_ := ⟨_, rfl⟩
  have bV : Below w.heap.size w V := hV ▸ below1 _ _
  have A0 : At V w.heap.size i := hV ▸ At.new _ _ _
  obtain ⟨m1, m2, m3, m4⟩ := A0.facts
  have HA := Lib.hid A0
  have HB : Hid (okB i = (valB i.bn i.br && (valB i.tn i.tr && !lessB i.bn i.br i.tn i.tr))) := Lib.hid rfl
  clear A0
  obtain ⟨c3, g3⟩ : ∃ b, valB i.bn i.br = b := ⟨_, rfl⟩
  have H3 := Lib.hid g3
  rw [g3] at HB
  clear g3
  cases c3
  · go_enter Try.func52, Try.ntmps52
    go_wp2_with fail
    clear m1 m2 m3 m4
    refine (valid_isB H3 _).mono ?_
    rintro e w3 ⟨rfl, hb3⟩
    go_wp2
    go_ret
    exact ⟨ret_bool HB.out.symm, nx bV hb3⟩
  obtain ⟨c4, g4⟩ : ∃ b, valB i.tn i.tr = b := ⟨_, rfl⟩
  have H4 := Lib.hid g4
  rw [g4] at HB
  clear g4
  cases c4
  · go_enter Try.func52, Try.ntmps52
    go_wp2_with fail
    clear m1 m2 m3 m4
    refine (valid_isB H3 _).mono ?_
    rintro e w3 ⟨rfl, hb3⟩
    have A3 := At.stays HA.out hb3
    obtain ⟨m1, m2, m3, m4⟩ := A3.facts
    go_wp2_with fail
    clear m1 m2 m3 m4
    refine (valid_isB H4 _).mono ?_
    rintro e w4 ⟨rfl, hb4⟩
    go_wp2
    go_ret
    exact ⟨ret_bool HB.out.symm, nx bV (nx hb3 hb4)⟩
  obtain ⟨c5, g5⟩ : ∃ b, lessB i.bn i.br i.tn i.tr = b := ⟨_, rfl⟩
  have H5 := Lib.hid g5
  rw [g5] at HB
  clear g5
  go_enter Try.func52, Try.ntmps52
  go_wp2_with fail
  clear m1 m2 m3 m4
  refine (valid_isB H3 _).mono ?_
  rintro e w3 ⟨rfl, hb3⟩
  have A3 := At.stays HA.out hb3
  obtain ⟨m1, m2, m3, m4⟩ := A3.facts
  go_wp2_with fail
  clear m1 m2 m3 m4
  refine (valid_isB H4 _).mono ?_
  rintro e w4 ⟨rfl, hb4⟩
  have A4 := At.stays A3 hb4
  obtain ⟨m1, m2, m3, m4⟩ := A4.facts
  go_wp2_with fail
  clear m1 m2 m3 m4
  refine (less_isB H5 _).mono ?_
  rintro e w5 ⟨rfl, hb5⟩
  go_wp2
  go_ret
  exact ⟨ret_bool HB.out.symm, nx bV (nx hb3 (nx hb4 hb5))⟩
theorem areBallots_is {i : Ins} {b : Bool} (H : Hid (okB i = b)) (w : World) :
    Calls Try.prog 52 #[.agg (ci i)] w fun e w' => e = .returned (.bool b) ∧ Below w.heap.size w w' := by
  rw [← H.out]; exact areBallots_any i w
end Go.Proofs.Ytmaecknjamnnpaa.Rc
