/- CrcSums and CrcOpens: the sum, the frame and what is opened are the document's: the calls. -/
import Derived.Test.YtifbibdbnehbbaaDoorCrT
namespace Go.Proofs.YtifbibdbnehbbaaDoor.Cr
open Go.RowKit
set_option linter.unusedVariables false
open Go.Proofs.YtifbibdbnehbbaaDoor.Fx
set_option maxHeartbeats 800000 in
theorem walkSums (s : ByteArray) (hs : s.size ≤ maxLen) (w : World) (ht : Tab w) :
    Calls Tryd.prog 3 #[.string s] w fun e w' => e = .returned (.bool true) ∧ Below w.heap.size w w' := by
  have HT := Lib.hid ht
  have L1 := Lib.hid hs
  unfold maxLen at hs
  clear ht
  by_cases h : s.size ≤ 4000
  · go_enter Tryd.func3, Tryd.ntmps3
    go_wp2_with fail
    refine (frame_any s L1.out _ HT.out).mono ?_
    rintro e w1 ⟨rfl, hb1⟩
    go_wp2_with fail
    refine (rFrame_any s L1.out _).mono ?_
    rintro e w2 ⟨rfl, hb2⟩
    go_wp2_with fail
    refine (sum_any s L1.out _ (HT.out.below (nx hb1 hb2))).mono ?_
    rintro e w' ⟨rfl, rfl⟩
    go_wp2_with fail
    refine (rSum_any s L1.out _).mono ?_
    rintro e w' ⟨rfl, rfl⟩
    go_wp2_with fail
    refine (awake_any _ (HT.out.below (nx hb1 hb2))).mono ?_
    rintro e w3 ⟨rfl, hb3⟩
    go_wp2
    go_ret
    exact ⟨rfl, nx (nx hb1 hb2) hb3⟩
  · go_enter Tryd.func3, Tryd.ntmps3
    go_wp2_with fail
    refine (awake_any _ HT.out).mono ?_
    rintro e w3 ⟨rfl, hb3⟩
    go_wp2
    go_ret
    exact ⟨rfl, hb3⟩
set_option maxHeartbeats 800000 in
theorem walkOpens (s : ByteArray) (a : Int) (hs : s.size ≤ maxLen) (wa : (Lit.int .i64 a).wf = true) (w : World) (ht : Tab w) :
    Calls Tryd.prog 4 #[.string s, .int .i64 a] w fun e w' => e = .returned (.bool true) ∧ Below w.heap.size w w' := by
  have HT := Lib.hid ht
  have L1 := Lib.hid hs
  unfold maxLen at hs
  clear ht wa
  by_cases h : s.size ≤ 6000
  · go_enter Tryd.func4, Tryd.ntmps4
    go_wp2_with fail
    refine (open_any s a L1.out _ HT.out).mono ?_
    rintro e w1 ⟨rfl, hb1⟩
    go_wp2_with fail
    refine (rOpen_any s a L1.out _).mono ?_
    rintro e w2 ⟨rfl, hb2⟩
    go_wp2_with fail
    refine (awake_any _ (HT.out.below (nx hb1 hb2))).mono ?_
    rintro e w3 ⟨rfl, hb3⟩
    go_wp2
    go_ret
    exact ⟨rfl, nx (nx hb1 hb2) hb3⟩
  · go_enter Tryd.func4, Tryd.ntmps4
    go_wp2_with fail
    refine (awake_any _ HT.out).mono ?_
    rintro e w3 ⟨rfl, hb3⟩
    go_wp2
    go_ret
    exact ⟨rfl, hb3⟩
end Go.Proofs.YtifbibdbnehbbaaDoor.Cr
