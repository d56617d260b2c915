/- the document's own answers of layer 1: GetInt, PutText, GetText. -/
import Derived.Test.YtjjkedlcmcifjaaFxR
namespace Go.Proofs.Ytjjkedlcmcifjaa.Fx
open Go.RowKit
set_option linter.unusedVariables false
set_option maxHeartbeats 400000 in
theorem rGetInt_any (s : ByteArray) (a : Int) (hs : s.size ≤ maxLen) (w : World) :
    Calls Try.prog 19 #[.string s, .int .i64 a] w fun e w' => e = .returned (getIntV s a) ∧ w = w' := by
  unfold maxLen at hs
  by_cases h1 : 0 ≤ a
  · by_cases h2 : a ≤ s.size
    · obtain ⟨b, rfl⟩ := Int.eq_ofNat_of_zero_le h1
      have ho : oB s b = true := by simp [oB]; omega
      by_cases h5 : 8 ≤ s.size - b
      · have H : Hid (getIntV s b = .tuple #[.int .i64 (wrap64 (dec s b 8)), .int .i64 0]) := Lib.hid (by unfold getIntV; rw [ho, if_pos (by rfl), if_pos (by omega)]; rfl)
        have hbs : decide (s.size < b) = false := by simp; omega
        clear ho
        go_enter Try.func19, Try.ntmps19
        go_wp2
        go_loop [6, 21] (fun u i => ∃ j : Nat, j ≤ 8 ∧ i = .int .i64 j ∧ u = .int .u64 (dec s b j)) (fun _ i => 8 - (intOf i).toNat)
        case atStart => exact ⟨0, Nat.zero_le _, rfl, rfl⟩
        case round =>
          obtain ⟨j, hj, rfl, rfl⟩ := hrel
          by_cases hlt : j < 8
          · have hi : b + j < s.size := by omega
            have HS := Lib.hid (dec_step s b j (by omega) hi)
            go_wp2
            go_round
            case rel => exact ⟨j + 1, by omega, by go_num, by rw [HS.out]⟩
            case measure => simp [intOf]; omega
          · obtain rfl : j = 8 := by omega
            go_wp2
            go_ret2
            exact ⟨ret_v H.out.symm, rfl⟩
      · have H : Hid (getIntV s b = .tuple #[.int .i64 0, .int .i64 2]) := Lib.hid (by unfold getIntV; rw [ho, if_pos (by rfl), if_neg (by omega)])
        clear ho
        go_enter Try.func19, Try.ntmps19
        go_wp2
        go_ret2
        exact ⟨ret_v H.out.symm, rfl⟩
    · have H : Hid (getIntV s a = .tuple #[.int .i64 0, .int .i64 1]) := Lib.hid (by unfold getIntV; rw [if_neg]; simp [oB, h2])
      go_enter Try.func19, Try.ntmps19
      go_wp2
      go_ret2
      exact ⟨ret_v H.out.symm, rfl⟩
  · have H : Hid (getIntV s a = .tuple #[.int .i64 0, .int .i64 1]) := Lib.hid (by unfold getIntV; rw [if_neg]; simp [oB, h1])
    go_enter Try.func19, Try.ntmps19
    go_wp2
    go_ret2
    exact ⟨ret_v H.out.symm, rfl⟩
theorem putV_len (s : ByteArray) (h : s.size ≤ 4000) : putV s.size 2 = .tuple #[.string (enc s.size 2), .int .i64 0] := by
  have h1 : fB s.size 2 = true := by simp [fB]; omega
  unfold putV; rw [w2, h1]; rfl
theorem rPutLen_any (s : ByteArray) (h : s.size ≤ 4000) (w : World) :
    Calls Try.prog 11 #[.int .i64 s.size, .int .i64 2] w fun e w' => e = .returned (.tuple #[.string (enc s.size 2), .int .i64 0]) ∧ Below w.heap.size w w' := by
  rw [← putV_len s h]
  exact rPut_any _ _ _
set_option maxHeartbeats 400000 in
theorem rPutText_any (s : ByteArray) (hs : s.size ≤ maxLen) (w : World) :
    Calls Try.prog 13 #[.string s] w fun e w' => e = .returned (putTextV s) ∧ Below w.heap.size w w' := by
  unfold maxLen at hs
  by_cases h : s.size ≤ 4000
  · have H : Hid (putTextV s = .tuple #[.string (enc s.size 2 ++ s), .int .i64 0]) := Lib.hid (by simp [putTextV, h])
    have hz := enc_size s.size 2
    go_enter Try.func13, Try.ntmps13
    go_wp2_with fail
    refine (rPutLen_any s h _).mono ?_
    rintro e w1 ⟨rfl, hb1⟩
    go_wp2
    go_ret2
    exact ⟨ret_v H.out.symm, hb1⟩
  · have H : Hid (putTextV s = .tuple #[.string ByteArray.empty, .int .i64 5]) := Lib.hid (by simp [putTextV, h])
    go_enter Try.func13, Try.ntmps13
    go_wp2
    go_ret2
    exact ⟨ret_v H.out.symm, Below.refl _ _⟩
set_option maxHeartbeats 400000 in
theorem rGetText_any (s : ByteArray) (a : Int) (hs : s.size ≤ maxLen) (w : World) :
    Calls Try.prog 21 #[.string s, .int .i64 a] w fun e w' => e = .returned (getTextV s a) ∧ w = w' := by
  have hs' := hs
  unfold maxLen at hs'
  by_cases h1 : oB s a = true
  · have ho : 0 ≤ a ∧ a ≤ s.size := by simpa [oB] using h1
    obtain ⟨b, rfl⟩ := Int.eq_ofNat_of_zero_le (show 0 ≤ a by omega)
    by_cases h2 : 2 ≤ s.size - b
    · have G : Hid (getV s b 2 = .tuple #[.int .i64 (dec s b 2), .int .i64 0]) := Lib.hid (by unfold getV; rw [h1, w2, if_pos (by rfl), if_pos (by omega)]; rfl)
      by_cases h3 : dec s b 2 ≤ 4000
      · by_cases h4 : dec s b 2 ≤ s.size - (b + 2)
        · have H : Hid (getTextV s b = .tuple #[.string (s.extract (b + 2) (b + 2 + dec s b 2)), .int .i64 (b + 2 + dec s b 2), .int .i64 0]) := Lib.hid (by unfold getTextV; rw [h1, if_pos (by rfl), if_pos (by omega), if_pos (by simpa using h3), if_pos (by simp; omega)]; simp [cut])
          clear h1
          go_enter Try.func21, Try.ntmps21
          go_wp2_with fail
          refine (rGet_any s b 2 hs _).mono ?_
          rintro e w' ⟨rfl, rfl⟩
          rw [G.out]
          go_wp2
          go_ret3
          exact ⟨ret_v H.out.symm, rfl⟩
        · have H : Hid (getTextV s b = .tuple #[.string ByteArray.empty, .int .i64 0, .int .i64 2]) := Lib.hid (by unfold getTextV; rw [h1, if_pos (by rfl), if_pos (by omega), if_pos (by simpa using h3), if_neg (by simp; omega)])
          clear h1
          go_enter Try.func21, Try.ntmps21
          go_wp2_with fail
          refine (rGet_any s b 2 hs _).mono ?_
          rintro e w' ⟨rfl, rfl⟩
          rw [G.out]
          go_wp2
          go_ret3
          exact ⟨ret_v H.out.symm, rfl⟩
      · have H : Hid (getTextV s b = .tuple #[.string ByteArray.empty, .int .i64 0, .int .i64 5]) := Lib.hid (by unfold getTextV; rw [h1, if_pos (by rfl), if_pos (by omega), if_neg (by simpa using h3)])
        have hd := dec_lt s b 2
        clear h1
        go_enter Try.func21, Try.ntmps21
        go_wp2_with fail
        refine (rGet_any s b 2 hs _).mono ?_
        rintro e w' ⟨rfl, rfl⟩
        rw [G.out]
        go_wp2
        go_ret3
        exact ⟨ret_v H.out.symm, rfl⟩
    · have G : Hid (getV s b 2 = .tuple #[.int .i64 0, .int .i64 2]) := Lib.hid (by unfold getV; rw [h1, w2, if_pos (by rfl), if_neg (by omega)])
      have H : Hid (getTextV s b = .tuple #[.string ByteArray.empty, .int .i64 0, .int .i64 2]) := Lib.hid (by unfold getTextV; rw [h1, if_pos (by rfl), if_neg (by omega)])
      clear h1
      go_enter Try.func21, Try.ntmps21
      go_wp2_with fail
      refine (rGet_any s b 2 hs _).mono ?_
      rintro e w' ⟨rfl, rfl⟩
      rw [G.out]
      go_wp2
      go_ret3
      exact ⟨ret_v H.out.symm, rfl⟩
  · have G : Hid (getV s a 2 = .tuple #[.int .i64 0, .int .i64 1]) := Lib.hid (by simp [getV, h1])
    have H : Hid (getTextV s a = .tuple #[.string ByteArray.empty, .int .i64 0, .int .i64 1]) := Lib.hid (by simp [getTextV, h1])
    clear h1
    go_enter Try.func21, Try.ntmps21
    go_wp2_with fail
    refine (rGet_any s a 2 hs _).mono ?_
    rintro e w' ⟨rfl, rfl⟩
    rw [G.out]
    go_wp2
    go_ret3
    exact ⟨ret_v H.out.symm, rfl⟩
end Go.Proofs.Ytjjkedlcmcifjaa.Fx
