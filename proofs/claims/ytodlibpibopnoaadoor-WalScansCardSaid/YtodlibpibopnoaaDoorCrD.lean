/- Open: both programs' walks. -/
import Derived.Test.YtodlibpibopnoaaDoorCrC
import Derived.Deep.RegionHeld3
import Derived.IntWalk
namespace Go.Proofs.YtodlibpibopnoaaDoor.Cr
open Go.RowKit
set_option linter.unusedVariables false
open Go.Proofs.YtodlibpibopnoaaDoor.Fx
theorem getE_zero {s : ByteArray} {a : Int} (h : getE s a 2 = 0) : ∃ b : Nat, a = b ∧ b + 2 ≤ s.size ∧ getV s a 2 = .tuple #[.int .i64 (dec s b 2), .int .i64 0] := by
  unfold getE at h
  by_cases h1 : (oB s a && wB 2) = true
  · rw [h1, if_pos rfl] at h
    have h1' := h1
    rw [Bool.and_eq_true] at h1'
    by_cases h2 : 2 ≤ (s.size : Int) - a
    · have ho : 0 ≤ a ∧ a ≤ s.size := by simpa [oB] using h1'.1
      obtain ⟨b, rfl⟩ := Int.eq_ofNat_of_zero_le ho.1
      refine ⟨b, rfl, by omega, ?_⟩
      unfold getV; rw [h1, if_pos rfl, if_pos h2]; rfl
    · rw [if_neg h2] at h; exact absurd h (by decide)
  · rw [if_neg h1] at h; exact absurd h (by decide)
/-- the four bytes behind the load are the sum of what stands ahead of them -/
def sumOK (s : ByteArray) (b n : Nat) : Bool := (s.extract (b + 2 + n) (b + 2 + n + 4)).toList == (leS (sumS (s.extract b (b + 2 + n)))).toList
def openE (s : ByteArray) (a : Int) : Int :=
  if getE s a 2 = 0 then
    (if dec s a.toNat 2 ≤ 2000 then
      (if a.toNat + 2 + dec s a.toNat 2 + 4 ≤ s.size then (if sumOK s a.toNat (dec s a.toNat 2) then 0 else 4) else 2)
    else 5)
  else getE s a 2
def openS (s : ByteArray) (a : Int) : ByteArray := if openE s a = 0 then s.extract (a.toNat + 2) (a.toNat + 2 + dec s a.toNat 2) else ByteArray.empty
def openA (s : ByteArray) (a : Int) : Int := if openE s a = 0 then a + 2 + dec s a.toNat 2 + 4 else 0
def openV (s : ByteArray) (a : Int) : Value := .tuple #[.string (openS s a), .int .i64 (openA s a), .int .i64 (openE s a)]
theorem openV_no {s : ByteArray} {a x : Int} (h : openE s a = x) (hx : x ≠ 0) : openV s a = .tuple #[.string ByteArray.empty, .int .i64 0, .int .i64 x] := by
  unfold openV openS openA; rw [h, if_neg hx, if_neg hx]
theorem openV_yes {s : ByteArray} {b : Nat} (h : openE s b = 0) : openV s b = .tuple #[.string (s.extract (b + 2) (b + 2 + dec s b 2)), .int .i64 (b + 2 + dec s b 2 + 4), .int .i64 0] := by
  unfold openV openS openA; rw [h, if_pos rfl, if_pos rfl]; rfl
set_option maxHeartbeats 1600000 in
theorem open_any (s : ByteArray) (a : Int) (hs : s.size ≤ maxLen) (w : World) (ht : Tab w) :
    Calls Tryd.prog 18 #[.string s, .int .i64 a] w fun e w' => e = .returned (.tuple #[.string (openS s a), .int .i64 (openA s a), .int .i64 (openE s a)]) ∧ Below w.heap.size w w' := by
  have L1 := Lib.hid hs
  unfold maxLen at hs
  have HT := Lib.hid ht
  clear ht
  by_cases h1 : getE s a 2 = 0
  · have g := getE_zero h1
    obtain ⟨b, rfl, hb, G⟩ := g
    have G := Lib.hid G
    have hd := dec_lt s b 2
    by_cases h2 : dec s b 2 ≤ 2000
    · by_cases h3 : b + 2 + dec s b 2 + 4 ≤ s.size
      · have q5 : (0 : Int) ≤ (b : Int) := by omega
        have q6 : (b : Int) ≤ (b : Int) + 2 + (dec s b 2 : Nat) := by omega
        have q7 : (b : Int) + 2 + (dec s b 2 : Nat) ≤ (s.size : Int) := by omega
        have q8 : ((b : Int) + 2 + (dec s b 2 : Nat)).toNat = b + 2 + dec s b 2 := by omega
        have q9 : ((b : Int) + 2 + (dec s b 2 : Nat) + 4).toNat = b + 2 + dec s b 2 + 4 := by omega
        have q10 : (0 : Int) ≤ (b : Int) + 2 + (dec s b 2 : Nat) := by omega
        have q11 : (b : Int) + 2 + (dec s b 2 : Nat) ≤ (b : Int) + 2 + (dec s b 2 : Nat) + 4 := by omega
        have q12 : (b : Int) + 2 + (dec s b 2 : Nat) + 4 ≤ (s.size : Int) := by omega
        have HX : Hid ((s.extract b (b + 2 + dec s b 2)).size ≤ maxLen) := Lib.hid (by rw [ByteArray.size_extract]; unfold maxLen; omega)
        by_cases h4 : sumOK s b (dec s b 2) = true
        · have H : Hid (openV s b = _) := Lib.hid (openV_yes (by unfold openE; rw [if_pos h1, Int.toNat_natCast, if_pos h2, if_pos h3, if_pos h4]))
          have hx : (s.extract (b + 2) (b + 2 + dec s b 2)).size ≤ 281474976710656 := by rw [ByteArray.size_extract]; omega
          unfold sumOK at h4
          clear h1
          go_enter Tryd.func18, Tryd.ntmps18
          go_wp2_with fail
          refine (get_any s b 2 L1.out _).mono ?_
          rintro e w' ⟨rfl, rfl⟩
          rw [G.out]
          go_wp2_with fail
          go_region_held3 (fun _ => True) (trivial) ((first | (go_at_call 27; refine (sum_any _ HX.out _ (HT.out.below ((Below.refl _ _).drew))).mono ?_; rintro e w1 ⟨rfl, rfl⟩) | (go_at_call 26; refine (sumBytes_any _ (sumS_lt _) _).mono ?_; rintro e w1 ⟨rfl, hb1⟩)))
          go_wp2_with fail
          refine (clone_any (s.extract (b + 2) (b + 2 + dec s b 2)) hx _).mono ?_
          rintro e w2 ⟨rfl, hb2⟩
          go_wp2
          go_ret3
          exact ⟨ret_v H.out.symm, nx (nd hb1) hb2⟩
        · have H : Hid (openV s b = _) := Lib.hid (openV_no (x := 4) (by unfold openE; rw [if_pos h1, Int.toNat_natCast, if_pos h2, if_pos h3, if_neg h4]) (by decide))
          have h4 : ((s.extract (b + 2 + dec s b 2) (b + 2 + dec s b 2 + 4)).toList == (leS (sumS (s.extract b (b + 2 + dec s b 2)))).toList) = false := by simpa [sumOK] using h4
          clear h1
          go_enter Tryd.func18, Tryd.ntmps18
          go_wp2_with fail
          refine (get_any s b 2 L1.out _).mono ?_
          rintro e w' ⟨rfl, rfl⟩
          rw [G.out]
          go_wp2_with fail
          go_region_held3 (fun _ => True) (trivial) ((first | (go_at_call 27; refine (sum_any _ HX.out _ (HT.out.below ((Below.refl _ _).drew))).mono ?_; rintro e w1 ⟨rfl, rfl⟩) | (go_at_call 26; refine (sumBytes_any _ (sumS_lt _) _).mono ?_; rintro e w1 ⟨rfl, hb1⟩)))
          go_wp2
          go_ret3
          exact ⟨ret_v H.out.symm, nd hb1⟩
      · have H : Hid (openV s b = _) := Lib.hid (openV_no (x := 2) (by unfold openE; rw [if_pos h1, Int.toNat_natCast, if_pos h2, if_neg h3]) (by decide))
        clear h1
        go_enter Tryd.func18, Tryd.ntmps18
        go_wp2_with fail
        refine (get_any s b 2 L1.out _).mono ?_
        rintro e w' ⟨rfl, rfl⟩
        rw [G.out]
        go_wp2
        go_ret3
        exact ⟨ret_v H.out.symm, Below.refl _ _⟩
    · have H : Hid (openV s b = _) := Lib.hid (openV_no (x := 5) (by unfold openE; rw [if_pos h1, Int.toNat_natCast, if_neg h2]) (by decide))
      clear h1
      go_enter Tryd.func18, Tryd.ntmps18
      go_wp2_with fail
      refine (get_any s b 2 L1.out _).mono ?_
      rintro e w' ⟨rfl, rfl⟩
      rw [G.out]
      go_wp2
      go_ret3
      exact ⟨ret_v H.out.symm, Below.refl _ _⟩
  · have H : Hid (openV s a = _) := Lib.hid (openV_no (x := getE s a 2) (by unfold openE; rw [if_neg h1]) h1)
    have h1' : (getE s a 2 != 0) = true := by simpa using h1
    have h1'' : (getE s a 2 == 0) = false := by simpa using h1
    go_enter Tryd.func18, Tryd.ntmps18
    go_wp2_with fail
    refine (get_s _ s a 2 L1.out).mono ?_
    rintro e w' ⟨rfl, rfl⟩
    go_wp2
    go_ret3
    exact ⟨ret_v H.out.symm, Below.refl _ _⟩
set_option maxHeartbeats 1600000 in
theorem rOpen_any (s : ByteArray) (a : Int) (hs : s.size ≤ maxLen) (w : World) :
    Calls Tryd.prog 19 #[.string s, .int .i64 a] w fun e w' => e = .returned (.tuple #[.string (openS s a), .int .i64 (openA s a), .int .i64 (openE s a)]) ∧ Below w.heap.size w w' := by
  have L1 := Lib.hid hs
  unfold maxLen at hs
  by_cases h1 : getE s a 2 = 0
  · have g := getE_zero h1
    obtain ⟨b, rfl, hb, G⟩ := g
    have G := Lib.hid G
    have hd := dec_lt s b 2
    by_cases h2 : dec s b 2 ≤ 2000
    · by_cases h3 : b + 2 + dec s b 2 + 4 ≤ s.size
      · have q5 : (0 : Int) ≤ (b : Int) := by omega
        have q6 : (b : Int) ≤ (b : Int) + 2 + (dec s b 2 : Nat) := by omega
        have q7 : (b : Int) + 2 + (dec s b 2 : Nat) ≤ (s.size : Int) := by omega
        have q8 : ((b : Int) + 2 + (dec s b 2 : Nat)).toNat = b + 2 + dec s b 2 := by omega
        have q9 : ((b : Int) + 2 + (dec s b 2 : Nat) + 4).toNat = b + 2 + dec s b 2 + 4 := by omega
        have q10 : (0 : Int) ≤ (b : Int) + 2 + (dec s b 2 : Nat) := by omega
        have q11 : (b : Int) + 2 + (dec s b 2 : Nat) ≤ (b : Int) + 2 + (dec s b 2 : Nat) + 4 := by omega
        have q12 : (b : Int) + 2 + (dec s b 2 : Nat) + 4 ≤ (s.size : Int) := by omega
        have HX : Hid ((s.extract b (b + 2 + dec s b 2)).size ≤ maxLen) := Lib.hid (by rw [ByteArray.size_extract]; unfold maxLen; omega)
        have q13 : IntKind.i64.wrap ((b : Int) + 2 + (dec s b 2 : Nat) + 4) = (b : Int) + 2 + (dec s b 2 : Nat) + 4 := IntWalk.i64_in _ (by omega)
        have Q13 := Lib.hid q13
        clear q13
        by_cases h4 : sumOK s b (dec s b 2) = true
        · have H : Hid (openV s b = _) := Lib.hid (openV_yes (by unfold openE; rw [if_pos h1, Int.toNat_natCast, if_pos h2, if_pos h3, if_pos h4]))
          have hx : (s.extract (b + 2) (b + 2 + dec s b 2)).size ≤ 281474976710656 := by rw [ByteArray.size_extract]; omega
          have h4 : ((leS (sumS (s.extract b (b + 2 + dec s b 2)))).toList == (s.extract (b + 2 + dec s b 2) (b + 2 + dec s b 2 + 4)).toList) = true := by unfold sumOK at h4; rw [beq_iff_eq] at h4 ⊢; exact h4.symm
          clear h1
          go_enter Tryd.func19, Tryd.ntmps19
          go_wp2_with fail
          refine (rGet_any s b 2 L1.out _).mono ?_
          rintro e w' ⟨rfl, rfl⟩
          rw [G.out]
          go_wp2_with fail
          have q13 := Q13.out
          go_region_held3 (fun _ => True) (trivial) ((first | (go_at_call 31; refine (rSum_any _ HX.out _).mono ?_; rintro e w1 ⟨rfl, rfl⟩) | (go_at_call 30; refine (rBack_any _ (sumS_lt _) _).mono ?_; rintro e w1 ⟨rfl, hb1⟩)))
          clear q13
          go_wp2
          go_ret3
          exact ⟨ret_v H.out.symm, nd hb1⟩
        · have H : Hid (openV s b = _) := Lib.hid (openV_no (x := 4) (by unfold openE; rw [if_pos h1, Int.toNat_natCast, if_pos h2, if_pos h3, if_neg h4]) (by decide))
          have h4 : ((leS (sumS (s.extract b (b + 2 + dec s b 2)))).toList == (s.extract (b + 2 + dec s b 2) (b + 2 + dec s b 2 + 4)).toList) = false := by
            have h5 := h4
            unfold sumOK at h5; rw [Bool.not_eq_true, beq_eq_false_iff_ne] at h5; rw [beq_eq_false_iff_ne]; exact fun e => h5 e.symm
          clear h1
          go_enter Tryd.func19, Tryd.ntmps19
          go_wp2_with fail
          refine (rGet_any s b 2 L1.out _).mono ?_
          rintro e w' ⟨rfl, rfl⟩
          rw [G.out]
          go_wp2_with fail
          have q13 := Q13.out
          go_region_held3 (fun _ => True) (trivial) ((first | (go_at_call 31; refine (rSum_any _ HX.out _).mono ?_; rintro e w1 ⟨rfl, rfl⟩) | (go_at_call 30; refine (rBack_any _ (sumS_lt _) _).mono ?_; rintro e w1 ⟨rfl, hb1⟩)))
          clear q13
          go_wp2
          go_ret3
          exact ⟨ret_v H.out.symm, nd hb1⟩
      · have H : Hid (openV s b = _) := Lib.hid (openV_no (x := 2) (by unfold openE; rw [if_pos h1, Int.toNat_natCast, if_pos h2, if_neg h3]) (by decide))
        clear h1
        go_enter Tryd.func19, Tryd.ntmps19
        go_wp2_with fail
        refine (rGet_any s b 2 L1.out _).mono ?_
        rintro e w' ⟨rfl, rfl⟩
        rw [G.out]
        go_wp2
        go_ret3
        exact ⟨ret_v H.out.symm, Below.refl _ _⟩
    · have H : Hid (openV s b = _) := Lib.hid (openV_no (x := 5) (by unfold openE; rw [if_pos h1, Int.toNat_natCast, if_neg h2]) (by decide))
      clear h1
      go_enter Tryd.func19, Tryd.ntmps19
      go_wp2_with fail
      refine (rGet_any s b 2 L1.out _).mono ?_
      rintro e w' ⟨rfl, rfl⟩
      rw [G.out]
      go_wp2
      go_ret3
      exact ⟨ret_v H.out.symm, Below.refl _ _⟩
  · have H : Hid (openV s a = _) := Lib.hid (openV_no (x := getE s a 2) (by unfold openE; rw [if_neg h1]) h1)
    have h1' : (getE s a 2 != 0) = true := by simpa using h1
    have h1'' : (getE s a 2 == 0) = false := by simpa using h1
    go_enter Tryd.func19, Tryd.ntmps19
    go_wp2_with fail
    refine (rGet_s _ s a 2 L1.out).mono ?_
    rintro e w' ⟨rfl, rfl⟩
    go_wp2
    go_ret3
    exact ⟨ret_v H.out.symm, Below.refl _ _⟩
end Go.Proofs.YtodlibpibopnoaaDoor.Cr
