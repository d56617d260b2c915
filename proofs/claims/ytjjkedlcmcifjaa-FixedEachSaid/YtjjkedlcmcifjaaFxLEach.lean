/- FixedEach: each eight bytes are just one number's; bytes that are read, written again, are those bytes: the call. -/
import Derived.Test.YtjjkedlcmcifjaaFxBk
import Derived.Deep.RegionWith
import Derived.Deep.RegionHeld3
import Derived.IntWalk
namespace Go.Proofs.Ytjjkedlcmcifjaa.Fx
open Go.RowKit
set_option linter.unusedVariables false
theorem ext_eq (s : ByteArray) (a k : Nat) (h : a + k ≤ s.size) : enc (dec s a k) k = s.extract a (a + k) := by
  apply ByteArray.ext; apply Array.ext'
  rw [enc_data, bl_dec s a k h, Lib.extract_data, Nat.add_sub_cancel_left]
theorem each8 {s : ByteArray} {a : Int} (h : getIntE s a = 0) : ∃ b : Nat, a = b ∧ b + 8 ≤ s.size ∧ enc (IntKind.u64.wrap (getIntN s a)) 8 = s.extract b (b + 8) := by
  unfold getIntE at h
  by_cases h1 : oB s a = true
  · rw [h1, if_pos rfl] at h
    by_cases h2 : 8 ≤ (s.size : Int) - a
    · have ho : 0 ≤ a ∧ a ≤ s.size := by simpa [oB] using h1
      obtain ⟨b, rfl⟩ := Int.eq_ofNat_of_zero_le ho.1
      refine ⟨b, rfl, by omega, ?_⟩
      rw [← ext_eq s b 8 (by omega)]
      unfold getIntN
      rw [h1, if_pos rfl, if_pos h2, Int.toNat_natCast]
      have h3 := dec_lt s b 8
      have h4 : (256 : Nat) ^ 8 = 18446744073709551616 := by decide
      have h5 : IntKind.u64.wrap (wrap64 (dec s b 8)) = dec s b 8 := by rw [IntKind.wrap_u64]; unfold wrap64; omega
      rw [h5]
    · rw [if_neg h2] at h; exact absurd h (by decide)
  · rw [if_neg h1] at h; exact absurd h (by decide)
theorem eachk {s : ByteArray} {a x : Int} (h : getE s a x = 0) : ∃ b k : Nat, a = b ∧ x = k ∧ 1 ≤ k ∧ k ≤ 7 ∧ b + k ≤ s.size ∧ putE (getN s a x) x = 0 ∧ putS (getN s a x) x = s.extract b (b + k) := by
  unfold getE at h
  by_cases h1 : (oB s a && wB x) = true
  · rw [h1, if_pos rfl] at h
    have h1' := h1
    rw [Bool.and_eq_true] at h1'
    by_cases h2 : x ≤ (s.size : Int) - a
    · have ho : 0 ≤ a ∧ a ≤ s.size := by simpa [oB] using h1'.1
      have hw : 1 ≤ x ∧ x ≤ 7 := by simpa [wB] using h1'.2
      obtain ⟨b, rfl⟩ := Int.eq_ofNat_of_zero_le ho.1
      obtain ⟨k, rfl⟩ := Int.eq_ofNat_of_zero_le (show 0 ≤ x by omega)
      have h3 := dec_lt s b k
      have e : getN s b k = dec s b k := by unfold getN; rw [h1, if_pos rfl, if_pos h2, Int.toNat_natCast, Int.toNat_natCast]
      have hf : fB (dec s b k) k = true := by
        unfold fB; rw [Int.toNat_natCast]; simp only [decide_eq_true_eq]
        have h4 : (256 : Int) ^ k = ((256 ^ k : Nat) : Int) := by rw [Int.natCast_pow]; rfl
        omega
      refine ⟨b, k, rfl, rfl, by omega, by omega, by omega, ?_, ?_⟩
      · rw [e]; unfold putE; rw [h1'.2, hf]; rfl
      · rw [e, ← ext_eq s b k (by omega)]; unfold putS; rw [h1'.2, hf]; rfl
    · rw [if_neg h2] at h; exact absurd h (by decide)
  · rw [if_neg h1] at h; exact absurd h (by decide)
theorem nd {a b : World} (h : Below a.drew.heap.size a.drew b) : Below a.heap.size a b := nx ((Below.refl a.heap.size a).drew) h
set_option maxHeartbeats 1600000 in
theorem walkEach (s : ByteArray) (a x : Int) (hs : s.size ≤ maxLen) (wa : (Lit.int .i64 a).wf = true) (wx : (Lit.int .i64 x).wf = true) (w : World) :
    Calls Try.prog 7 #[.string s, .int .i64 a, .int .i64 x] w fun e w' => e = .returned (.bool true) ∧ Below w.heap.size w w' := by
  have hs' := hs
  unfold maxLen at hs'
  clear wa wx
  have L1 := Lib.hid hs
  clear hs
  by_cases h : 6000 < s.size
  · have H : Hid (decide (6000 < s.size) = true) := Lib.hid (by simp [h])
    go_enter Try.func7, Try.ntmps7
    go_wp2_with fail
    refine (long_any _ s L1.out).mono ?_
    rintro e w' ⟨rfl, rfl⟩
    rw [H.out]
    go_wp2_with fail
    refine (awake_any _).mono ?_
    rintro e w1 ⟨rfl, hb1⟩
    go_wp2
    go_ret
    exact ⟨rfl, hb1⟩
  · have H : Hid (decide (6000 < s.size) = false) := Lib.hid (by simp [h])
    by_cases h1 : getIntE s a = 0
    · have g := each8 h1
      obtain ⟨b, rfl, hb, e8⟩ := g
      have q1 : decide ((b : Int) < 0) = false := by simp
      have q2 : decide ((s.size : Int) - 8 < b) = false := by simp; omega
      have q3 : IntKind.i64.wrap ((s.size : Int) - 8) = s.size - 8 := IntWalk.i64_in _ (by omega)
      have q4 : IntKind.i64.wrap ((b : Int) + 8) = b + 8 := IntWalk.i64_in _ (by omega)
      have q5 : (0 : Int) ≤ (b : Int) := by omega
      have q6 : (b : Int) ≤ (b : Int) + 8 := by omega
      have q7 : (b : Int) + 8 ≤ (s.size : Int) := by omega
      have q8 : ((b : Int) + 8).toNat = b + 8 := by omega
      by_cases h2 : getE s b x = 0
      · have g2 := eachk h2
        obtain ⟨b', k, hb', rfl, hk1, hk7, hbk, e9, e10⟩ := g2
        obtain rfl : b = b' := by omega
        clear hb'
        go_enter Try.func7, Try.ntmps7
        go_wp2_with fail
        refine (long_any _ s L1.out).mono ?_
        rintro e w' ⟨rfl, rfl⟩
        rw [H.out]
        go_wp2_with fail
        refine (getInt_s _ s b L1.out).mono ?_
        rintro e w' ⟨rfl, rfl⟩
        go_wp2_with fail
        go_region_held3 (fun _ => True) (trivial) ((go_at_call 14; refine (putInt_any _ _).mono ?_; rintro e w1 ⟨rfl, hb1⟩))
        clear q1 q2 q3 q4 q6 q7 q8
        go_wp2_with fail
        refine (get_s _ s b k L1.out).mono ?_
        rintro e w' ⟨rfl, rfl⟩
        go_wp2_with fail
        refine (put_s _ (getN s b k) k).mono ?_
        rintro e w2 ⟨rfl, hb2⟩
        go_wp2_with fail
        refine (awake_any _).mono ?_
        rintro e w3 ⟨rfl, hb3⟩
        go_wp2
        go_ret
        exact ⟨rfl, nx (nx (nd hb1) hb2) hb3⟩
      · have h3 : (getE s b x == 0) = false := by simpa using h2
        go_enter Try.func7, Try.ntmps7
        go_wp2_with fail
        refine (long_any _ s L1.out).mono ?_
        rintro e w' ⟨rfl, rfl⟩
        rw [H.out]
        go_wp2_with fail
        refine (getInt_s _ s b L1.out).mono ?_
        rintro e w' ⟨rfl, rfl⟩
        go_wp2_with fail
        go_region_held3 (fun _ => True) (trivial) ((go_at_call 14; refine (putInt_any _ _).mono ?_; rintro e w1 ⟨rfl, hb1⟩))
        clear q1 q2 q3 q4 q6 q7 q8
        go_wp2_with fail
        refine (get_s _ s b x L1.out).mono ?_
        rintro e w' ⟨rfl, rfl⟩
        go_wp2_with fail
        refine (awake_any _).mono ?_
        rintro e w3 ⟨rfl, hb3⟩
        go_wp2
        go_ret
        exact ⟨rfl, nx (nd hb1) hb3⟩
    · have h4 : (getIntE s a == 0) = false := by simpa using h1
      by_cases h2 : getE s a x = 0
      · have g2 := eachk h2
        obtain ⟨b, k, rfl, rfl, hk1, hk7, hbk, e9, e10⟩ := g2
        go_enter Try.func7, Try.ntmps7
        go_wp2_with fail
        refine (long_any _ s L1.out).mono ?_
        rintro e w' ⟨rfl, rfl⟩
        rw [H.out]
        go_wp2_with fail
        refine (getInt_s _ s b L1.out).mono ?_
        rintro e w' ⟨rfl, rfl⟩
        go_wp2_with fail
        refine (get_s _ s b k L1.out).mono ?_
        rintro e w' ⟨rfl, rfl⟩
        go_wp2_with fail
        refine (put_s _ (getN s b k) k).mono ?_
        rintro e w2 ⟨rfl, hb2⟩
        go_wp2_with fail
        refine (awake_any _).mono ?_
        rintro e w3 ⟨rfl, hb3⟩
        go_wp2
        go_ret
        exact ⟨rfl, nx hb2 hb3⟩
      · have h3 : (getE s a x == 0) = false := by simpa using h2
        go_enter Try.func7, Try.ntmps7
        go_wp2_with fail
        refine (long_any _ s L1.out).mono ?_
        rintro e w' ⟨rfl, rfl⟩
        rw [H.out]
        go_wp2_with fail
        refine (getInt_s _ s a L1.out).mono ?_
        rintro e w' ⟨rfl, rfl⟩
        go_wp2_with fail
        refine (get_s _ s a x L1.out).mono ?_
        rintro e w' ⟨rfl, rfl⟩
        go_wp2_with fail
        refine (awake_any _).mono ?_
        rintro e w3 ⟨rfl, hb3⟩
        go_wp2
        go_ret
        exact ⟨rfl, hb3⟩
end Go.Proofs.Ytjjkedlcmcifjaa.Fx
