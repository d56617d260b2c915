/- FixedBack: what was written is read, wherever it stands: the call. -/
import Derived.Test.YtjjkedlcmcifjaaFxBk
namespace Go.Proofs.Ytjjkedlcmcifjaa.Fx
open Go.RowKit
set_option linter.unusedVariables false
theorem app_max (a b c : ByteArray) (h : a.size + b.size + c.size ≤ 100000) : (a ++ b ++ c).size ≤ maxLen := by
  rw [ByteArray.size_append, ByteArray.size_append]; unfold maxLen; omega
theorem putS_le (n x : Int) : (putS n x).size ≤ 7 := by
  unfold putS
  cases h : (wB x && fB n x) with
  | true =>
    rw [Bool.and_eq_true] at h
    have h1 := h.1
    unfold wB at h1; simp only [decide_eq_true_eq] at h1
    rw [if_pos rfl, enc_size]; omega
  | false => exact Nat.zero_le _
theorem putTextS_le (s : ByteArray) (h : s.size ≤ 3000) : (putTextS s).size ≤ 3002 := by
  unfold putTextS; rw [if_pos (by omega), ByteArray.size_append, enc_size]; omega
set_option maxHeartbeats 1600000 in
theorem walkBack (n x : Int) (s : ByteArray) (wn : (Lit.int .i64 n).wf = true) (wx : (Lit.int .i64 x).wf = true) (hs : s.size ≤ maxLen) (w : World) :
    Calls Try.prog 5 #[.int .i64 n, .int .i64 x, .string s] w fun e w' => e = .returned (.bool true) ∧ Below w.heap.size w w' := by
  have hs' := hs
  unfold maxLen at hs'
  by_cases h : s.size ≤ 3000
  · have g2 := getInt_mid n s wn
    obtain ⟨g21, g22⟩ := g2
    have g3 := getText_mid s h
    obtain ⟨g31, g32, g33, g34⟩ := g3
    have m2 := enc_size (IntKind.u64.wrap n) 8
    have m3 := putTextS_le s h
    have l2 := app_max s (enc (IntKind.u64.wrap n) 8) s (by omega)
    have l3 := app_max s (putTextS s) s (by omega)
    have m1 := putS_le n x
    by_cases h1 : putE n x = 0
    · have g1 := get_mid s h1
      obtain ⟨g11, g12, g13⟩ := g1
      have l1 := app_max s (putS n x) s (by omega)
      have L1 := Lib.hid l1; have L2 := Lib.hid l2; have L3 := Lib.hid l3
      clear wn wx hs l1 l2 l3
      go_enter Try.func5, Try.ntmps5
      go_wp2_with fail
      refine (put_s _ n x).mono ?_
      rintro e w1 ⟨rfl, hb1⟩
      go_wp2_with fail
      refine (get_s _ (s ++ putS n x ++ s) s.size x L1.out).mono ?_
      rintro e w' ⟨rfl, rfl⟩
      go_wp2_with fail
      refine (putInt_any n _).mono ?_
      rintro e w2 ⟨rfl, hb2⟩
      go_wp2_with fail
      refine (getInt_s _ (s ++ enc (IntKind.u64.wrap n) 8 ++ s) s.size L2.out).mono ?_
      rintro e w' ⟨rfl, rfl⟩
      go_wp2_with fail
      refine (putText_s _ s (by unfold maxLen; omega)).mono ?_
      rintro e w3 ⟨rfl, hb3⟩
      go_wp2_with fail
      refine (getText_s _ (s ++ putTextS s ++ s) s.size L3.out).mono ?_
      rintro e w4 ⟨rfl, hb4⟩
      go_wp2_with fail
      refine (awake_any _).mono ?_
      rintro e w5 ⟨rfl, hb5⟩
      go_wp2
      go_ret
      exact ⟨rfl, nx (nx (nx (nx hb1 hb2) hb3) hb4) hb5⟩
    · have h3 : (putE n x == 0) = false := by simpa using h1
      have L2 := Lib.hid l2; have L3 := Lib.hid l3
      clear wn wx hs l2 l3
      go_enter Try.func5, Try.ntmps5
      go_wp2_with fail
      refine (put_s _ n x).mono ?_
      rintro e w1 ⟨rfl, hb1⟩
      go_wp2_with fail
      refine (putInt_any n _).mono ?_
      rintro e w2 ⟨rfl, hb2⟩
      go_wp2_with fail
      refine (getInt_s _ (s ++ enc (IntKind.u64.wrap n) 8 ++ s) s.size L2.out).mono ?_
      rintro e w' ⟨rfl, rfl⟩
      go_wp2_with fail
      refine (putText_s _ s (by unfold maxLen; omega)).mono ?_
      rintro e w3 ⟨rfl, hb3⟩
      go_wp2_with fail
      refine (getText_s _ (s ++ putTextS s ++ s) s.size L3.out).mono ?_
      rintro e w4 ⟨rfl, hb4⟩
      go_wp2_with fail
      refine (awake_any _).mono ?_
      rintro e w5 ⟨rfl, hb5⟩
      go_wp2
      go_ret
      exact ⟨rfl, nx (nx (nx (nx hb1 hb2) hb3) hb4) hb5⟩
  · clear wn wx hs
    go_enter Try.func5, Try.ntmps5
    go_wp2_with fail
    refine (awake_any _).mono ?_
    rintro e w1 ⟨rfl, hb1⟩
    go_wp2
    go_ret
    exact ⟨rfl, hb1⟩
end Go.Proofs.Ytjjkedlcmcifjaa.Fx
