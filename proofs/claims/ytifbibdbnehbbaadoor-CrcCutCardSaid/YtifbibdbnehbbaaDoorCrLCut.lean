/- CrcCut: a frame that is cut off anywhere is too short: the call. -/
import Derived.Test.YtifbibdbnehbbaaDoorCrMa
namespace Go.Proofs.YtifbibdbnehbbaaDoor.Cr
open Go.RowKit
set_option linter.unusedVariables false
open Go.Proofs.YtifbibdbnehbbaaDoor.Fx
theorem mod_any (a : Int) (n : Nat) (h : 0 < n) : ∃ c : Nat, c < n ∧ (IntKind.u64.wrap a).tmod (n : Int) = c := by
  rw [Int.tmod_eq_emod_of_nonneg (u64_lt a).1]
  have h1 := Int.emod_nonneg (IntKind.u64.wrap a) (show (n : Int) ≠ 0 by omega)
  have h2 := Int.emod_lt_of_pos (IntKind.u64.wrap a) (show (0 : Int) < n by omega)
  exact ⟨(IntKind.u64.wrap a % (n : Int)).toNat, by omega, by omega⟩
set_option maxHeartbeats 800000 in
theorem walkCut (s : ByteArray) (a : Int) (hs : s.size ≤ maxLen) (wa : (Lit.int .i64 a).wf = true) (w : World) (ht : Tab w) :
    Calls Tryd.prog 8 #[.string s, .int .i64 a] w fun e w' => e = .returned (.bool true) ∧ Below w.heap.size w w' := by
  have HT := Lib.hid ht
  have L1 := Lib.hid hs
  unfold maxLen at hs
  clear ht wa
  by_cases h : s.size ≤ 2000
  · have HS : Hid (frameS s = frm s) := Lib.hid (by unfold frameS; rw [if_pos h])
    have HE : Hid (frameE s = 0) := Lib.hid (by unfold frameE; rw [if_pos h])
    have hz := frm_size s
    obtain ⟨c, hc, hcm⟩ := mod_any a (s.size + 6) (by omega)
    have HC : Hid (openE ((frm s).extract 0 c) 0 = 2) := Lib.hid (cut_short s c h hc)
    have HX : Hid (((frm s).extract 0 c).size ≤ maxLen) := Lib.hid (by rw [ByteArray.size_extract]; unfold maxLen; omega)
    have hne : (frm s).toList.isEmpty = false := by
      rw [List.isEmpty_eq_false_iff]; intro e
      have := congrArg List.length e
      rw [toL, size_len, hz] at this
      exact absurd this (by simp)
    have hcm : (IntKind.u64.wrap a).tmod ((s.size : Int) + 6) = c := hcm
    have hc1 : (c : Int) ≤ (s.size : Int) + 6 := by omega
    go_enter Tryd.func8, Tryd.ntmps8
    go_wp2_with fail
    refine (frame_any s L1.out _ HT.out).mono ?_
    rintro e w1 ⟨rfl, hb1⟩
    rw [HS.out, HE.out]
    go_wp2_with fail
    refine (open_any _ 0 HX.out _ (HT.out.below hb1)).mono ?_
    rintro e w2 ⟨rfl, hb2⟩
    rw [HC.out]
    go_wp2_with fail
    refine (awake_any _ (HT.out.below (nx hb1 hb2))).mono ?_
    rintro e w3 ⟨rfl, hb3⟩
    go_wp2
    go_ret
    exact ⟨rfl, nx (nx hb1 hb2) hb3⟩
  · have HE : Hid (frameE s = 5) := Lib.hid (by unfold frameE; rw [if_neg h])
    go_enter Tryd.func8, Tryd.ntmps8
    go_wp2_with fail
    refine (frame_any s L1.out _ HT.out).mono ?_
    rintro e w1 ⟨rfl, hb1⟩
    rw [HE.out]
    go_wp2_with fail
    refine (awake_any _ (HT.out.below hb1)).mono ?_
    rintro e w3 ⟨rfl, hb3⟩
    go_wp2
    go_ret
    exact ⟨rfl, nx hb1 hb3⟩
end Go.Proofs.YtifbibdbnehbbaaDoor.Cr
