/- FixedPuts: the call. -/
import Derived.Test.YtjjkedlcmcifjaaFxT
namespace Go.Proofs.Ytjjkedlcmcifjaa.Fx
open Go.RowKit
set_option linter.unusedVariables false
set_option maxHeartbeats 800000 in
theorem walkPuts (n x : Int) (s : ByteArray) (wn : (Lit.int .i64 n).wf = true) (wx : (Lit.int .i64 x).wf = true) (hs : s.size ≤ maxLen) (w : World) :
    Calls Try.prog 3 #[.int .i64 n, .int .i64 x, .string s] w fun e w' => e = .returned (.bool true) ∧ Below w.heap.size w w' := by
  by_cases h : 6000 < s.size
  · have H : Hid (decide (6000 < s.size) = true) := Lib.hid (by simp [h])
    go_enter Try.func3, Try.ntmps3
    go_wp2_with fail
    refine (long_any _ s hs).mono ?_
    rintro e w' ⟨rfl, rfl⟩
    rw [H.out]
    go_wp2_with fail
    refine (awake_any _).mono ?_
    rintro e w1 ⟨rfl, hb1⟩
    go_wp2
    go_ret
    exact ⟨rfl, hb1⟩
  · have H : Hid (decide (6000 < s.size) = false) := Lib.hid (by simp [h])
    go_enter Try.func3, Try.ntmps3
    go_wp2_with fail
    refine (long_any _ s hs).mono ?_
    rintro e w' ⟨rfl, rfl⟩
    rw [H.out]
    go_wp2_with fail
    refine (put_s _ n x).mono ?_
    rintro e w1 ⟨rfl, hb1⟩
    go_wp2_with fail
    refine (rPut_s _ n x).mono ?_
    rintro e w2 ⟨rfl, hb2⟩
    go_wp2_with fail
    refine (putText_s _ s hs).mono ?_
    rintro e w3 ⟨rfl, hb3⟩
    go_wp2_with fail
    refine (rPutText_s _ s hs).mono ?_
    rintro e w4 ⟨rfl, hb4⟩
    go_wp2_with fail
    refine (putInt_any n _).mono ?_
    rintro e w5 ⟨rfl, hb5⟩
    go_wp2_with fail
    refine (rPutInt_any n _).mono ?_
    rintro e w6 ⟨rfl, hb6⟩
    go_wp2_with fail
    refine (awake_any _).mono ?_
    rintro e w7 ⟨rfl, hb7⟩
    go_wp2
    go_ret
    exact ⟨rfl, nx (nx (nx (nx (nx (nx hb1 hb2) hb3) hb4) hb5) hb6) hb7⟩
end Go.Proofs.Ytjjkedlcmcifjaa.Fx
