/- the document's own answers of layer 1: the same values. -/
import Derived.Test.YtngnkjbcnmcngaaDoorFxD
namespace Go.Proofs.YtngnkjbcnmcngaaDoor.Fx
open Go.RowKit
set_option linter.unusedVariables false
theorem byt8 (U : Int) (k : Nat) : byt U 8 k = U / 2 ^ (56 - 8 * k) % 256 := by unfold byt; rw [show 8 * (8 - 1 - k) = 56 - 8 * k by omega]
set_option maxHeartbeats 400000 in
theorem rPut_any (n x : Int) (w : World) :
    Calls Tryd.prog 23 #[.int .i64 n, .int .i64 x] w fun e w' => e = .returned (putV n x) ∧ Below w.heap.size w w' := by
  by_cases h1 : 1 ≤ x ∧ x ≤ 7
  · obtain ⟨h1, h2⟩ := h1
    have hw : wB x = true := by simp [wB, h1, h2]
    obtain ⟨k, rfl⟩ := Int.eq_ofNat_of_zero_le (show 0 ≤ x by omega)
    by_cases h3 : 0 ≤ n
    · by_cases h4 : fB n k = true
      · have hb := f_lt n k (by omega) h4
        obtain ⟨hb1, hb2⟩ := hb
        have H : Hid (putV n k = .tuple #[.string (enc n k), .int .i64 0]) := Lib.hid (by simp [putV, hw, h4])
        have hz : (n / 2 ^ (8 * k) != 0) = false := by
          have h5 := shr_zero n k hb1
          rw [bne, h5]; unfold fB at h4; simp at h4 ⊢; exact h4.2
        clear hw h4
        have hmk := make_any n k (by omega)
        go_enter Tryd.func23, Tryd.ntmps23
        go_wp2
        go_loopw [29] (fun i wr => ∃ j : Nat, j ≤ k ∧ i = .int .i64 j ∧ wr = w.alloc (.cells (arrR n k j) 5)) (fun i _ => k - (intOf i).toNat)
        case atStart => exact ⟨0, Nat.zero_le _, rfl, by rw [arrR_zero]⟩
        case round =>
          obtain ⟨j, hj, rfl, rfl⟩ := hrel
          by_cases hlt : j < k
          · have hc := arrR_at n k j hlt
            go_wp2
            go_roundw
            case rel => exact ⟨j + 1, by omega, by go_num, by rw [← arrR_succ n k j hlt]⟩
            case measure => simp [intOf]; omega
          · obtain rfl : j = k := by omega
            have hcv := conv_any n j w
            rw [arrR_full]
            go_wp2
            go_ret2
            exact ⟨ret_v H.out.symm, (Below.refl _ _).alloc (Nat.le_refl _) _⟩
      · have H : Hid (putV n k = .tuple #[.string ByteArray.empty, .int .i64 1]) := Lib.hid (by simp [putV, hw, h4])
        have hz : (n / 2 ^ (8 * k) != 0) = true := by
          have h5 := shr_zero n k h3
          rw [bne, h5]; unfold fB at h4; simp at h4 ⊢; exact h4 h3
        clear hw h4
        go_enter Tryd.func23, Tryd.ntmps23
        go_wp2
        go_ret2
        exact ⟨ret_v H.out.symm, Below.refl _ _⟩
    · have H : Hid (putV n k = .tuple #[.string ByteArray.empty, .int .i64 1]) := Lib.hid (by simp [putV, fB, h3])
      clear hw
      go_enter Tryd.func23, Tryd.ntmps23
      go_wp2
      go_ret2
      exact ⟨ret_v H.out.symm, Below.refl _ _⟩
  · have H : Hid (putV n x = .tuple #[.string ByteArray.empty, .int .i64 1]) := Lib.hid (by simp [putV, wB, h1])
    by_cases h3 : 0 ≤ n
    · by_cases h4 : 1 ≤ x
      · have h5 : 7 < x := by omega
        clear h1
        go_enter Tryd.func23, Tryd.ntmps23
        go_wp2
        go_ret2
        exact ⟨ret_v H.out.symm, Below.refl _ _⟩
      · clear h1
        go_enter Tryd.func23, Tryd.ntmps23
        go_wp2
        go_ret2
        exact ⟨ret_v H.out.symm, Below.refl _ _⟩
    · clear h1
      go_enter Tryd.func23, Tryd.ntmps23
      go_wp2
      go_ret2
      exact ⟨ret_v H.out.symm, Below.refl _ _⟩
set_option maxHeartbeats 400000 in
theorem rGet_any (s : ByteArray) (a x : Int) (hs : s.size ≤ maxLen) (w : World) :
    Calls Tryd.prog 37 #[.string s, .int .i64 a, .int .i64 x] w fun e w' => e = .returned (getV s a x) ∧ w = w' := by
  unfold maxLen at hs
  by_cases h1 : (0 ≤ a ∧ a ≤ s.size) ∧ 1 ≤ x ∧ x ≤ 7
  · obtain ⟨⟨h1, h2⟩, h3, h4⟩ := h1
    obtain ⟨k, rfl⟩ := Int.eq_ofNat_of_zero_le (show 0 ≤ x by omega)
    obtain ⟨b, rfl⟩ := Int.eq_ofNat_of_zero_le h1
    have ho : oB s b = true := by simp [oB]; omega
    have hw : wB k = true := by simp [wB]; omega
    by_cases h5 : k ≤ s.size - b
    · have H : Hid (getV s b k = .tuple #[.int .i64 (dec s b k), .int .i64 0]) := Lib.hid (by unfold getV; rw [ho, hw, if_pos (by rfl), if_pos (by omega)]; rfl)
      have hbs : decide (s.size < b) = false := by simp; omega
      clear ho hw
      go_enter Tryd.func37, Tryd.ntmps37
      go_wp2
      go_loop [8, 33] (fun u i => ∃ j : Nat, j ≤ k ∧ i = .int .i64 j ∧ u = .int .i64 (dec s b j)) (fun _ i => k - (intOf i).toNat)
      case atStart => exact ⟨0, Nat.zero_le _, rfl, rfl⟩
      case round =>
        obtain ⟨j, hj, rfl, rfl⟩ := hrel
        by_cases hlt : j < k
        · have hi : b + j < s.size := by omega
          have HS := Lib.hid (dec_stepi s b j (by omega) hi)
          have hd := dec_lt s b j
          have hp := pow256_le j 6 (by omega)
          have hd1 : (dec s b j : Int) ≤ 281474976710656 := by
            have h4 : (256 : Nat) ^ 6 = 281474976710656 := by decide
            omega
          clear hd hp
          go_wp2
          go_round
          case rel => exact ⟨j + 1, by omega, by go_num, by rw [HS.out]⟩
          case measure => simp [intOf]; omega
        · obtain rfl : j = k := by omega
          go_wp2
          go_ret2
          exact ⟨ret_v H.out.symm, rfl⟩
    · have H : Hid (getV s b k = .tuple #[.int .i64 0, .int .i64 2]) := Lib.hid (by unfold getV; rw [ho, hw, if_pos (by rfl), if_neg (by omega)])
      clear ho hw
      go_enter Tryd.func37, Tryd.ntmps37
      go_wp2
      go_ret2
      exact ⟨ret_v H.out.symm, rfl⟩
  · have H : Hid (getV s a x = .tuple #[.int .i64 0, .int .i64 1]) := Lib.hid (by
      unfold getV; rw [if_neg]; simp only [Bool.and_eq_true, oB, wB, decide_eq_true_eq]; exact h1)
    by_cases h2 : 0 ≤ a
    · by_cases h3 : a ≤ s.size
      · by_cases h4 : 1 ≤ x
        · have h5 : 7 < x := by omega
          clear h1
          go_enter Tryd.func37, Tryd.ntmps37
          go_wp2
          go_ret2
          exact ⟨ret_v H.out.symm, rfl⟩
        · clear h1
          go_enter Tryd.func37, Tryd.ntmps37
          go_wp2
          go_ret2
          exact ⟨ret_v H.out.symm, rfl⟩
      · clear h1
        go_enter Tryd.func37, Tryd.ntmps37
        go_wp2
        go_ret2
        exact ⟨ret_v H.out.symm, rfl⟩
    · clear h1
      go_enter Tryd.func37, Tryd.ntmps37
      go_wp2
      go_ret2
      exact ⟨ret_v H.out.symm, rfl⟩
end Go.Proofs.YtngnkjbcnmcngaaDoor.Fx
