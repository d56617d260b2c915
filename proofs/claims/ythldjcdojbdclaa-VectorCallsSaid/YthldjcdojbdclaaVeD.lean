/- The document's own Right; awake of the law of layer 5. -/
import Derived.Test.YthldjcdojbdclaaVeC
namespace Go.Proofs.Ythldjcdojbdclaa.Ve
open Go.RowKit
set_option linter.unusedVariables false
open Go.Proofs.Ythldjcdojbdclaa.Fx (nx nd)
set_option maxHeartbeats 1600000 in
theorem rRight_any (v : Nat → Int) (n : Int) (w : World) :
    Calls Try.prog 7 #[.agg (fc v), .int .i64 n] w fun e w' => e = .returned (.bool (rightB v n)) ∧ Below w.heap.size w w' := by
  by_cases h1 : n < 1
  · have H := Lib.hid (right_no (v := v) (n := n) (by omega))
    go_enter Try.func7, Try.ntmps7
    go_wp2
    go_ret
    exact ⟨by rw [H.out]; rfl, below1 _ _⟩
  · have hd1 : decide (n < 1) = false := by simpa using h1
    by_cases h7 : 7 < n
    · have H := Lib.hid (right_no (v := v) (n := n) (by omega))
      go_enter Try.func7, Try.ntmps7
      go_wp2
      go_ret
      exact ⟨by rw [H.out]; rfl, below1 _ _⟩
    · have hd7 : decide (7 < n) = false := by simpa using h7
      have HL : Hid (1 ≤ n ∧ n ≤ 7) := Lib.hid (by omega)
      clear h1 h7
      go_enter Try.func7, Try.ntmps7
      go_wp2
      go_loop [14] (fun i => ∃ k : Nat, k ≤ 7 ∧ i = .int .i64 k ∧ Hid (∀ j, j < k → okAt v n j = true)) (fun i => 7 - (intOf i).toNat)
      case atStart => exact ⟨0, Nat.zero_le _, rfl, Lib.hid fun _ h => absurd h (by omega)⟩
      case round =>
        obtain ⟨k, hk, rfl, HA⟩ := hrel
        by_cases hlt : k < 7
        · have hlt2 : (k : Int) < 7 := by omega
          by_cases c1 : v k < 0
          · have H := Lib.hid (right_bad (v := v) (n := n) hlt (okAt_no (by omega)))
            go_wp2
            go_ret
            exact ⟨by rw [H.out]; rfl, below1 _ _⟩
          · have d1 : decide (v k < 0) = false := by simpa using c1
            by_cases c2 : 400 < v k
            · have H := Lib.hid (right_bad (v := v) (n := n) hlt (okAt_no (by omega)))
              clear c1
              go_wp2
              go_ret
              exact ⟨by rw [H.out]; rfl, below1 _ _⟩
            · have d2 : decide (400 < v k) = false := by simpa using c2
              by_cases c3 : n ≤ (k : Int)
              · by_cases c4 : v k = 0
                · have HO : Hid (okAt v n k = true) := Lib.hid (okAt_iff.2 (by omega))
                  clear c1 c2 d1 d2
                  go_wp2
                  go_round
                  case rel => exact ⟨k + 1, by omega, by go_num, Lib.hid fun j hj => by
                    by_cases e : j = k
                    · rw [e]; exact HO.out
                    · exact HA.out j (by omega)⟩
                  case measure => simp [intOf]; omega
                · have H := Lib.hid (right_bad (v := v) (n := n) hlt (okAt_no (by omega)))
                  have d4 : (v k == 0) = false := by simpa using c4
                  clear c1 c2 c4
                  go_wp2
                  go_ret
                  exact ⟨by rw [H.out]; rfl, below1 _ _⟩
              · have HO : Hid (okAt v n k = true) := Lib.hid (okAt_iff.2 (by omega))
                have d3 : decide (n ≤ (k : Int)) = false := by simpa using c3
                clear c1 c2 c3
                go_wp2
                go_round
                case rel => exact ⟨k + 1, by omega, by go_num, Lib.hid fun j hj => by
                  by_cases e : j = k
                  · rw [e]; exact HO.out
                  · exact HA.out j (by omega)⟩
                case measure => simp [intOf]; omega
        · obtain rfl : k = 7 := by omega
          have H : Hid (rightB v n = true) := Lib.hid (rightB_iff.2 ⟨HL.out, HA.out⟩)
          go_wp2
          go_ret
          exact ⟨by rw [H.out]; rfl, below1 _ _⟩
theorem right_is (v : Nat → Int) (n : Int) (x : Bool) (h : rightB v n = x) (w : World) :
    Calls Try.prog 6 #[.agg (fc v), .int .i64 n] w fun e w' => e = .returned (.bool x) ∧ Below w.heap.size w w' := by
  rw [← h]; exact right_any v n w
theorem count_is (v : Nat → Int) (x : Int) (h : cntV v = x) (w : World) :
    Calls Try.prog 16 #[.agg (fc v)] w fun e w' => e = .returned (.int .i64 x) ∧ Below w.heap.size w w' := by
  rw [← h]; exact count_any v w
/-- A vector lies in the last block. -/
theorem lay (w : World) (v : Nat → Int) (t : TypeId) : ∃ W, W = w.alloc (.cells (fc v) t) ∧ Below w.heap.size w W ∧ row W w.heap.size = fc v ∧ w.heap.size < W.heap.size :=
  ⟨_, rfl, below1 _ _, row_new _ _ _ _ rfl, by simp⟩
set_option maxHeartbeats 800000 in
theorem awake_any (w : World) :
    Calls Try.prog 18 #[] w fun e w' => e = .returned (.bool true) ∧ Below w.heap.size w w' := by
  obtain ⟨v, hv⟩ : ∃ v, v = raiseV zeroV 1 4 := ⟨_, rfl⟩
  have A1 : Hid (covB v 1 3 = true) := Lib.hid (by rw [hv]; decide)
  have A2 : Hid (covB v 1 5 = false) := Lib.hid (by rw [hv]; decide)
  have A3 : Hid (covB v 0 1 = false) := Lib.hid (by rw [hv]; decide)
  have A4 : Hid (cntV v = 4) := Lib.hid (by rw [hv]; decide)
  have A5 : Hid (rightB v 3 = true) := Lib.hid (by rw [hv]; decide)
  have A6 : Hid (rightB v 1 = false) := Lib.hid (by rw [hv]; decide)
  have HV := Lib.hid hv.symm
  clear hv
  go_enter Try.func18, Try.ntmps18
  go_wp2_with fail
  refine (raise_any zeroV 1 4 _).mono ?_
  rintro e w1 ⟨rfl, hb1⟩
  rw [HV.out]
  go_wp2_with fail
  obtain ⟨W, hW, hb0, hr, hs⟩ := lay w1 v 23
  rw [← hW]
  clear hW
  go_wp2_with fail
  refine (covers_is v 1 3 true A1.out _).mono ?_
  rintro e w2 ⟨rfl, hb2⟩
  obtain ⟨chb2, fhb2⟩ := bcell hb2
  go_wp2_with fail
  refine (covers_is v 1 5 false A2.out _).mono ?_
  rintro e w3 ⟨rfl, hb3⟩
  replace hb3 := nx hb2 hb3
  obtain ⟨chb3, fhb3⟩ := bcell hb3
  clear chb2 fhb2
  go_wp2_with fail
  refine (covers_is v 0 1 false A3.out _).mono ?_
  rintro e w4 ⟨rfl, hb4⟩
  replace hb4 := nx hb3 hb4
  obtain ⟨chb4, fhb4⟩ := bcell hb4
  clear chb3 fhb3
  go_wp2_with fail
  refine (count_is v 4 A4.out _).mono ?_
  rintro e w5 ⟨rfl, hb5⟩
  replace hb5 := nx hb4 hb5
  obtain ⟨chb5, fhb5⟩ := bcell hb5
  clear chb4 fhb4
  go_wp2_with fail
  refine (right_is v 3 true A5.out _).mono ?_
  rintro e w6 ⟨rfl, hb6⟩
  replace hb6 := nx hb5 hb6
  obtain ⟨chb6, fhb6⟩ := bcell hb6
  clear chb5 fhb5
  go_wp2_with fail
  refine (right_is v 1 false A6.out _).mono ?_
  rintro e w7 ⟨rfl, hb7⟩
  replace hb7 := nx hb6 hb7
  obtain ⟨chb7, fhb7⟩ := bcell hb7
  clear chb6 fhb6
  go_wp2
  go_ret
  exact ⟨rfl, nx (nx hb1 hb0) hb7⟩
end Go.Proofs.Ythldjcdojbdclaa.Ve
