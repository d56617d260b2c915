/- Check of package command, and the document's own. -/
import Derived.Test.YtmaecknjamnnpaaCmA
namespace Go.Proofs.Ytmaecknjamnnpaa.Cm
open Go.RowKit
set_option linter.unusedVariables false
open Go.Proofs.Ytmaecknjamnnpaa.Rw
open Go.Proofs.Ytmaecknjamnnpaa.Fx (ret_v ret_bool ret_int)
set_option maxHeartbeats 800000 in
theorem lim_0 (c : Nat → Int) (w : World) (h0 : wi (c 2) 1 8 = false) :
    Calls Try.prog 69 #[.agg (fc c)] w fun e w' => e = .returned (.bool false) ∧ Below w.heap.size w w' := by
  have H0 := Lib.hid h0
  clear h0
  go_enter Try.func69, Try.ntmps69
  go_wp2_with fail
  refine (within_is H0 _).mono ?_
  rintro e w' ⟨rfl, rfl⟩
  go_wp2
  go_ret
  exact ⟨rfl, below1 _ _⟩
set_option maxHeartbeats 800000 in
theorem lim_1 (c : Nat → Int) (w : World) (h0 : wi (c 2) 1 8 = true) (h1 : wi (c 0) 0 63 = false) :
    Calls Try.prog 69 #[.agg (fc c)] w fun e w' => e = .returned (.bool false) ∧ Below w.heap.size w w' := by
  have H0 := Lib.hid h0
  have H1 := Lib.hid h1
  clear h0 h1
  go_enter Try.func69, Try.ntmps69
  go_wp2_with fail
  refine (within_is H0 _).mono ?_
  rintro e w' ⟨rfl, rfl⟩
  go_wp2_with fail
  refine (within_is H1 _).mono ?_
  rintro e w' ⟨rfl, rfl⟩
  go_wp2
  go_ret
  exact ⟨rfl, below1 _ _⟩
set_option maxHeartbeats 800000 in
theorem lim_2 (c : Nat → Int) (w : World) (h0 : wi (c 2) 1 8 = true) (h1 : wi (c 0) 0 63 = true) (h2 : wi (c 1) 1 1125899906842624 = false) :
    Calls Try.prog 69 #[.agg (fc c)] w fun e w' => e = .returned (.bool false) ∧ Below w.heap.size w w' := by
  have H0 := Lib.hid h0
  have H1 := Lib.hid h1
  have H2 := Lib.hid h2
  clear h0 h1 h2
  go_enter Try.func69, Try.ntmps69
  go_wp2_with fail
  refine (within_is H0 _).mono ?_
  rintro e w' ⟨rfl, rfl⟩
  go_wp2_with fail
  refine (within_is H1 _).mono ?_
  rintro e w' ⟨rfl, rfl⟩
  go_wp2_with fail
  refine (within_is H2 _).mono ?_
  rintro e w' ⟨rfl, rfl⟩
  go_wp2
  go_ret
  exact ⟨rfl, below1 _ _⟩
set_option maxHeartbeats 800000 in
theorem lim_3 (c : Nat → Int) (w : World) (h0 : wi (c 2) 1 8 = true) (h1 : wi (c 0) 0 63 = true) (h2 : wi (c 1) 1 1125899906842624 = true) (h3 : wi (c 3) 0 5 = false) :
    Calls Try.prog 69 #[.agg (fc c)] w fun e w' => e = .returned (.bool false) ∧ Below w.heap.size w w' := by
  have H0 := Lib.hid h0
  have H1 := Lib.hid h1
  have H2 := Lib.hid h2
  have H3 := Lib.hid h3
  clear h0 h1 h2 h3
  go_enter Try.func69, Try.ntmps69
  go_wp2_with fail
  refine (within_is H0 _).mono ?_
  rintro e w' ⟨rfl, rfl⟩
  go_wp2_with fail
  refine (within_is H1 _).mono ?_
  rintro e w' ⟨rfl, rfl⟩
  go_wp2_with fail
  refine (within_is H2 _).mono ?_
  rintro e w' ⟨rfl, rfl⟩
  go_wp2_with fail
  refine (within_is H3 _).mono ?_
  rintro e w' ⟨rfl, rfl⟩
  go_wp2
  go_ret
  exact ⟨rfl, below1 _ _⟩
set_option maxHeartbeats 800000 in
theorem lim_4 (c : Nat → Int) (w : World) (h0 : wi (c 2) 1 8 = true) (h1 : wi (c 0) 0 63 = true) (h2 : wi (c 1) 1 1125899906842624 = true) (h3 : wi (c 3) 0 5 = true) (h4 : wi (c 4) 0 7 = false) :
    Calls Try.prog 69 #[.agg (fc c)] w fun e w' => e = .returned (.bool false) ∧ Below w.heap.size w w' := by
  have H0 := Lib.hid h0
  have H1 := Lib.hid h1
  have H2 := Lib.hid h2
  have H3 := Lib.hid h3
  have H4 := Lib.hid h4
  clear h0 h1 h2 h3 h4
  go_enter Try.func69, Try.ntmps69
  go_wp2_with fail
  refine (within_is H0 _).mono ?_
  rintro e w' ⟨rfl, rfl⟩
  go_wp2_with fail
  refine (within_is H1 _).mono ?_
  rintro e w' ⟨rfl, rfl⟩
  go_wp2_with fail
  refine (within_is H2 _).mono ?_
  rintro e w' ⟨rfl, rfl⟩
  go_wp2_with fail
  refine (within_is H3 _).mono ?_
  rintro e w' ⟨rfl, rfl⟩
  go_wp2_with fail
  refine (within_is H4 _).mono ?_
  rintro e w' ⟨rfl, rfl⟩
  go_wp2
  go_ret
  exact ⟨rfl, below1 _ _⟩
set_option maxHeartbeats 800000 in
theorem lim_5 (c : Nat → Int) (w : World) (h0 : wi (c 2) 1 8 = true) (h1 : wi (c 0) 0 63 = true) (h2 : wi (c 1) 1 1125899906842624 = true) (h3 : wi (c 3) 0 5 = true) (h4 : wi (c 4) 0 7 = true) (h5 : wi (c 5) 0 1073741824 = false) :
    Calls Try.prog 69 #[.agg (fc c)] w fun e w' => e = .returned (.bool false) ∧ Below w.heap.size w w' := by
  have H0 := Lib.hid h0
  have H1 := Lib.hid h1
  have H2 := Lib.hid h2
  have H3 := Lib.hid h3
  have H4 := Lib.hid h4
  have H5 := Lib.hid h5
  clear h0 h1 h2 h3 h4 h5
  go_enter Try.func69, Try.ntmps69
  go_wp2_with fail
  refine (within_is H0 _).mono ?_
  rintro e w' ⟨rfl, rfl⟩
  go_wp2_with fail
  refine (within_is H1 _).mono ?_
  rintro e w' ⟨rfl, rfl⟩
  go_wp2_with fail
  refine (within_is H2 _).mono ?_
  rintro e w' ⟨rfl, rfl⟩
  go_wp2_with fail
  refine (within_is H3 _).mono ?_
  rintro e w' ⟨rfl, rfl⟩
  go_wp2_with fail
  refine (within_is H4 _).mono ?_
  rintro e w' ⟨rfl, rfl⟩
  go_wp2_with fail
  refine (within_is H5 _).mono ?_
  rintro e w' ⟨rfl, rfl⟩
  go_wp2
  go_ret
  exact ⟨rfl, below1 _ _⟩
set_option maxHeartbeats 800000 in
theorem lim_6 (c : Nat → Int) (w : World) (h0 : wi (c 2) 1 8 = true) (h1 : wi (c 0) 0 63 = true) (h2 : wi (c 1) 1 1125899906842624 = true) (h3 : wi (c 3) 0 5 = true) (h4 : wi (c 4) 0 7 = true) (h5 : wi (c 5) 0 1073741824 = true) (h6 : wi (c 6) 0 2 = false) :
    Calls Try.prog 69 #[.agg (fc c)] w fun e w' => e = .returned (.bool false) ∧ Below w.heap.size w w' := by
  have H0 := Lib.hid h0
  have H1 := Lib.hid h1
  have H2 := Lib.hid h2
  have H3 := Lib.hid h3
  have H4 := Lib.hid h4
  have H5 := Lib.hid h5
  have H6 := Lib.hid h6
  clear h0 h1 h2 h3 h4 h5 h6
  go_enter Try.func69, Try.ntmps69
  go_wp2_with fail
  refine (within_is H0 _).mono ?_
  rintro e w' ⟨rfl, rfl⟩
  go_wp2_with fail
  refine (within_is H1 _).mono ?_
  rintro e w' ⟨rfl, rfl⟩
  go_wp2_with fail
  refine (within_is H2 _).mono ?_
  rintro e w' ⟨rfl, rfl⟩
  go_wp2_with fail
  refine (within_is H3 _).mono ?_
  rintro e w' ⟨rfl, rfl⟩
  go_wp2_with fail
  refine (within_is H4 _).mono ?_
  rintro e w' ⟨rfl, rfl⟩
  go_wp2_with fail
  refine (within_is H5 _).mono ?_
  rintro e w' ⟨rfl, rfl⟩
  go_wp2_with fail
  refine (within_is H6 _).mono ?_
  rintro e w' ⟨rfl, rfl⟩
  go_wp2
  go_ret
  exact ⟨rfl, below1 _ _⟩
set_option maxHeartbeats 800000 in
theorem lim_7 (c : Nat → Int) (w : World) (h0 : wi (c 2) 1 8 = true) (h1 : wi (c 0) 0 63 = true) (h2 : wi (c 1) 1 1125899906842624 = true) (h3 : wi (c 3) 0 5 = true) (h4 : wi (c 4) 0 7 = true) (h5 : wi (c 5) 0 1073741824 = true) (h6 : wi (c 6) 0 2 = true) (h7 : wi (c 7) 0 1125899906842624 = false) :
    Calls Try.prog 69 #[.agg (fc c)] w fun e w' => e = .returned (.bool false) ∧ Below w.heap.size w w' := by
  have H0 := Lib.hid h0
  have H1 := Lib.hid h1
  have H2 := Lib.hid h2
  have H3 := Lib.hid h3
  have H4 := Lib.hid h4
  have H5 := Lib.hid h5
  have H6 := Lib.hid h6
  have H7 := Lib.hid h7
  clear h0 h1 h2 h3 h4 h5 h6 h7
  go_enter Try.func69, Try.ntmps69
  go_wp2_with fail
  refine (within_is H0 _).mono ?_
  rintro e w' ⟨rfl, rfl⟩
  go_wp2_with fail
  refine (within_is H1 _).mono ?_
  rintro e w' ⟨rfl, rfl⟩
  go_wp2_with fail
  refine (within_is H2 _).mono ?_
  rintro e w' ⟨rfl, rfl⟩
  go_wp2_with fail
  refine (within_is H3 _).mono ?_
  rintro e w' ⟨rfl, rfl⟩
  go_wp2_with fail
  refine (within_is H4 _).mono ?_
  rintro e w' ⟨rfl, rfl⟩
  go_wp2_with fail
  refine (within_is H5 _).mono ?_
  rintro e w' ⟨rfl, rfl⟩
  go_wp2_with fail
  refine (within_is H6 _).mono ?_
  rintro e w' ⟨rfl, rfl⟩
  go_wp2_with fail
  refine (within_is H7 _).mono ?_
  rintro e w' ⟨rfl, rfl⟩
  go_wp2
  go_ret
  exact ⟨rfl, below1 _ _⟩
set_option maxHeartbeats 800000 in
theorem lim_8 (c : Nat → Int) (w : World) (h0 : wi (c 2) 1 8 = true) (h1 : wi (c 0) 0 63 = true) (h2 : wi (c 1) 1 1125899906842624 = true) (h3 : wi (c 3) 0 5 = true) (h4 : wi (c 4) 0 7 = true) (h5 : wi (c 5) 0 1073741824 = true) (h6 : wi (c 6) 0 2 = true) (h7 : wi (c 7) 0 1125899906842624 = true) (h8 : wi (c 8) 0 1125899906842624 = false) :
    Calls Try.prog 69 #[.agg (fc c)] w fun e w' => e = .returned (.bool false) ∧ Below w.heap.size w w' := by
  have H0 := Lib.hid h0
  have H1 := Lib.hid h1
  have H2 := Lib.hid h2
  have H3 := Lib.hid h3
  have H4 := Lib.hid h4
  have H5 := Lib.hid h5
  have H6 := Lib.hid h6
  have H7 := Lib.hid h7
  have H8 := Lib.hid h8
  clear h0 h1 h2 h3 h4 h5 h6 h7 h8
  go_enter Try.func69, Try.ntmps69
  go_wp2_with fail
  refine (within_is H0 _).mono ?_
  rintro e w' ⟨rfl, rfl⟩
  go_wp2_with fail
  refine (within_is H1 _).mono ?_
  rintro e w' ⟨rfl, rfl⟩
  go_wp2_with fail
  refine (within_is H2 _).mono ?_
  rintro e w' ⟨rfl, rfl⟩
  go_wp2_with fail
  refine (within_is H3 _).mono ?_
  rintro e w' ⟨rfl, rfl⟩
  go_wp2_with fail
  refine (within_is H4 _).mono ?_
  rintro e w' ⟨rfl, rfl⟩
  go_wp2_with fail
  refine (within_is H5 _).mono ?_
  rintro e w' ⟨rfl, rfl⟩
  go_wp2_with fail
  refine (within_is H6 _).mono ?_
  rintro e w' ⟨rfl, rfl⟩
  go_wp2_with fail
  refine (within_is H7 _).mono ?_
  rintro e w' ⟨rfl, rfl⟩
  go_wp2_with fail
  refine (within_is H8 _).mono ?_
  rintro e w' ⟨rfl, rfl⟩
  go_wp2
  go_ret
  exact ⟨rfl, below1 _ _⟩
set_option maxHeartbeats 800000 in
theorem lim_9 (c : Nat → Int) (w : World) (h0 : wi (c 2) 1 8 = true) (h1 : wi (c 0) 0 63 = true) (h2 : wi (c 1) 1 1125899906842624 = true) (h3 : wi (c 3) 0 5 = true) (h4 : wi (c 4) 0 7 = true) (h5 : wi (c 5) 0 1073741824 = true) (h6 : wi (c 6) 0 2 = true) (h7 : wi (c 7) 0 1125899906842624 = true) (h8 : wi (c 8) 0 1125899906842624 = true) :
    Calls Try.prog 69 #[.agg (fc c)] w fun e w' => e = .returned (.bool true) ∧ Below w.heap.size w w' := by
  have H0 := Lib.hid h0
  have H1 := Lib.hid h1
  have H2 := Lib.hid h2
  have H3 := Lib.hid h3
  have H4 := Lib.hid h4
  have H5 := Lib.hid h5
  have H6 := Lib.hid h6
  have H7 := Lib.hid h7
  have H8 := Lib.hid h8
  clear h0 h1 h2 h3 h4 h5 h6 h7 h8
  go_enter Try.func69, Try.ntmps69
  go_wp2_with fail
  refine (within_is H0 _).mono ?_
  rintro e w' ⟨rfl, rfl⟩
  go_wp2_with fail
  refine (within_is H1 _).mono ?_
  rintro e w' ⟨rfl, rfl⟩
  go_wp2_with fail
  refine (within_is H2 _).mono ?_
  rintro e w' ⟨rfl, rfl⟩
  go_wp2_with fail
  refine (within_is H3 _).mono ?_
  rintro e w' ⟨rfl, rfl⟩
  go_wp2_with fail
  refine (within_is H4 _).mono ?_
  rintro e w' ⟨rfl, rfl⟩
  go_wp2_with fail
  refine (within_is H5 _).mono ?_
  rintro e w' ⟨rfl, rfl⟩
  go_wp2_with fail
  refine (within_is H6 _).mono ?_
  rintro e w' ⟨rfl, rfl⟩
  go_wp2_with fail
  refine (within_is H7 _).mono ?_
  rintro e w' ⟨rfl, rfl⟩
  go_wp2_with fail
  refine (within_is H8 _).mono ?_
  rintro e w' ⟨rfl, rfl⟩
  go_wp2
  go_ret
  exact ⟨rfl, below1 _ _⟩
theorem inLimits_any (c : Nat → Int) (w : World) :
    Calls Try.prog 69 #[.agg (fc c)] w fun e w' => e = .returned (.bool (limB c)) ∧ Below w.heap.size w w' := by
  rcases first_no (c := c) with h | ⟨i, hi, hn, hy⟩
  · rw [h]; have k := limB_iff.1 h
    exact lim_9 c w (k 0 (by omega)) (k 1 (by omega)) (k 2 (by omega)) (k 3 (by omega)) (k 4 (by omega)) (k 5 (by omega)) (k 6 (by omega)) (k 7 (by omega)) (k 8 (by omega))
  · rw [limB_no i hi hn]
    match i, hi, hn, hy with
    | 0, _, hn, hy => exact lim_0 c w  hn
    | 1, _, hn, hy => exact lim_1 c w (hy 0 (by omega)) hn
    | 2, _, hn, hy => exact lim_2 c w (hy 0 (by omega)) (hy 1 (by omega)) hn
    | 3, _, hn, hy => exact lim_3 c w (hy 0 (by omega)) (hy 1 (by omega)) (hy 2 (by omega)) hn
    | 4, _, hn, hy => exact lim_4 c w (hy 0 (by omega)) (hy 1 (by omega)) (hy 2 (by omega)) (hy 3 (by omega)) hn
    | 5, _, hn, hy => exact lim_5 c w (hy 0 (by omega)) (hy 1 (by omega)) (hy 2 (by omega)) (hy 3 (by omega)) (hy 4 (by omega)) hn
    | 6, _, hn, hy => exact lim_6 c w (hy 0 (by omega)) (hy 1 (by omega)) (hy 2 (by omega)) (hy 3 (by omega)) (hy 4 (by omega)) (hy 5 (by omega)) hn
    | 7, _, hn, hy => exact lim_7 c w (hy 0 (by omega)) (hy 1 (by omega)) (hy 2 (by omega)) (hy 3 (by omega)) (hy 4 (by omega)) (hy 5 (by omega)) (hy 6 (by omega)) hn
    | 8, _, hn, hy => exact lim_8 c w (hy 0 (by omega)) (hy 1 (by omega)) (hy 2 (by omega)) (hy 3 (by omega)) (hy 4 (by omega)) (hy 5 (by omega)) (hy 6 (by omega)) (hy 7 (by omega)) hn
theorem inLimits_is {c : Nat → Int} {r : Bool} (h : Hid (limB c = r)) (w : World) :
    Calls Try.prog 69 #[.agg (fc c)] w fun e w' => e = .returned (.bool r) ∧ Below w.heap.size w w' := by
  rw [← h.out]; exact inLimits_any c w
theorem isZero_is {c : Nat → Int} {r : Bool} (h : Hid (zeroB c = r)) (w : World) :
    Calls Try.prog 68 #[.agg (fc c)] w fun e w' => e = .returned (.bool r) ∧ Below w.heap.size w w' := by
  rw [← h.out]; exact isZero_any c w
set_option maxHeartbeats 800000 in
theorem check_any (c : Nat → Int) (w : World) :
    Calls Try.prog 63 #[.agg (fc c)] w fun e w' => e = .returned (.int .i64 (chkE c)) ∧ Below w.heap.size w w' := by
  cases h : zeroB c
  · cases k : limB c
    · have H : Hid (chkE c = 1) := Lib.hid (by simp [chkE, chkB, h, k])
      have H1 := Lib.hid h
      have H2 := Lib.hid k
      clear h k
      go_enter Try.func63, Try.ntmps63
      go_wp2_with fail
      obtain ⟨W, hW⟩ : ∃ W, W = w.alloc (.cells (fc c) 28) := ⟨_, rfl⟩
      have hr : row W w.heap.size = fc c := by rw [hW]; exact row_new _ _ _ _ rfl
      have hz : w.heap.size < W.heap.size := by rw [hW]; simp
      have hb0 : Below w.heap.size w W := hW ▸ below1 w _
      rw [← hW]
      refine (isZero_is H1 _).mono ?_
      rintro e w1 ⟨rfl, hb1⟩
      obtain ⟨c1, f1, r1, p1⟩ := bcell hb1
      go_wp2_with fail
      refine (inLimits_is H2 _).mono ?_
      rintro e w2 ⟨rfl, hb2⟩
      go_wp2
      go_ret
      exact ⟨ret_int H.out.symm, nx hb0 (nx hb1 hb2)⟩
    · have H : Hid (chkE c = 0) := Lib.hid (by simp [chkE, chkB, h, k])
      have H1 := Lib.hid h
      have H2 := Lib.hid k
      clear h k
      go_enter Try.func63, Try.ntmps63
      go_wp2_with fail
      obtain ⟨W, hW⟩ : ∃ W, W = w.alloc (.cells (fc c) 28) := ⟨_, rfl⟩
      have hr : row W w.heap.size = fc c := by rw [hW]; exact row_new _ _ _ _ rfl
      have hz : w.heap.size < W.heap.size := by rw [hW]; simp
      have hb0 : Below w.heap.size w W := hW ▸ below1 w _
      rw [← hW]
      refine (isZero_is H1 _).mono ?_
      rintro e w1 ⟨rfl, hb1⟩
      obtain ⟨c1, f1, r1, p1⟩ := bcell hb1
      go_wp2_with fail
      refine (inLimits_is H2 _).mono ?_
      rintro e w2 ⟨rfl, hb2⟩
      go_wp2
      go_ret
      exact ⟨ret_int H.out.symm, nx hb0 (nx hb1 hb2)⟩
  · have H : Hid (chkE c = 0) := Lib.hid (by simp [chkE, chkB, h])
    have H1 := Lib.hid h
    clear h
    go_enter Try.func63, Try.ntmps63
    go_wp2_with fail
    refine (isZero_is H1 _).mono ?_
    rintro e w1 ⟨rfl, hb1⟩
    go_wp2
    go_ret
    exact ⟨ret_int H.out.symm, nx (below1 _ _) hb1⟩
theorem check_is {c : Nat → Int} {r : Int} (h : Hid (chkE c = r)) (w : World) :
    Calls Try.prog 63 #[.agg (fc c)] w fun e w' => e = .returned (.int .i64 r) ∧ Below w.heap.size w w' := by
  rw [← h.out]; exact check_any c w
end Go.Proofs.Ytmaecknjamnnpaa.Cm
