/- FixedGets: the call. -/
import Derived.Test.YtjjkedlcmcifjaaFxT
namespace Go.Proofs.Ytjjkedlcmcifjaa.Fx
open Go.RowKit
set_option linter.unusedVariables false
set_option maxHeartbeats 800000 in
theorem walkGets (s : ByteArray) (a x : Int) (hs : s.size ≤ maxLen) (wa : (Lit.int .i64 a).wf = true) (wx : (Lit.int .i64 x).wf = true) (w : World) :
    Calls Try.prog 4 #[.string s, .int .i64 a, .int .i64 x] w fun e w' => e = .returned (.bool true) ∧ Below w.heap.size w w' := by
  by_cases h : 6000 < s.size
  · have H : Hid (decide (6000 < s.size) = true) := Lib.hid (by simp [h])
    go_enter Try.func4, Try.ntmps4
    go_wp2_with fail
    refine (long_any _ s hs).mono ?_
    rintro e w' ⟨rfl, rfl⟩
    rw [H.out]
    go_wp2_with fail
    refine (awake_any _).mono ?_
    rintro e w1 ⟨rfl, hb1⟩
    go_wp2
    go_ret
    exact ⟨rfl, hb1⟩
  · have H : Hid (decide (6000 < s.size) = false) := Lib.hid (by simp [h])
    go_enter Try.func4, Try.ntmps4
    go_wp2_with fail
    refine (long_any _ s hs).mono ?_
    rintro e w' ⟨rfl, rfl⟩
    rw [H.out]
    go_wp2_with fail
    refine (get_s _ s a x hs).mono ?_
    rintro e w' ⟨rfl, rfl⟩
    go_wp2_with fail
    refine (rGet_s _ s a x hs).mono ?_
    rintro e w' ⟨rfl, rfl⟩
    go_wp2_with fail
    refine (getInt_s _ s a hs).mono ?_
    rintro e w' ⟨rfl, rfl⟩
    go_wp2_with fail
    refine (rGetInt_s _ s a hs).mono ?_
    rintro e w' ⟨rfl, rfl⟩
    go_wp2_with fail
    refine (getText_s _ s a hs).mono ?_
    rintro e w1 ⟨rfl, hb1⟩
    go_wp2_with fail
    refine (rGetText_s _ s a hs).mono ?_
    rintro e w' ⟨rfl, rfl⟩
    go_wp2_with fail
    refine (awake_any _).mono ?_
    rintro e w2 ⟨rfl, hb2⟩
    go_wp2
    go_ret
    exact ⟨rfl, nx hb1 hb2⟩
end Go.Proofs.Ytjjkedlcmcifjaa.Fx
