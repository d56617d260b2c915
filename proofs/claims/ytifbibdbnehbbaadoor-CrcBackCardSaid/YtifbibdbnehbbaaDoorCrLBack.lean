/- CrcBack: what is framed is opened, wherever it stands; what is opened, framed, is those bytes: the call. -/
import Derived.Test.YtifbibdbnehbbaaDoorCrMa
namespace Go.Proofs.YtifbibdbnehbbaaDoor.Cr
open Go.RowKit
set_option linter.unusedVariables false
open Go.Proofs.YtifbibdbnehbbaaDoor.Fx
theorem back2 {s : ByteArray} {a : Int} (h : openE s a = 0) : ∃ b k : Nat, a = b ∧ openA s a = k ∧ b ≤ k ∧ k ≤ s.size ∧ (openS s a).size ≤ 2000 ∧ s.extract b k = frm (openS s a) := by
  obtain ⟨b, n, rfl, h1, h2, h3, h4, h5⟩ := open_back h
  exact ⟨b, b + (n + 6), rfl, h1, by omega, h2, by omega, h5⟩
set_option maxHeartbeats 1600000 in
theorem walkBack (s n : ByteArray) (a : Int) (hs : s.size ≤ maxLen) (hn : n.size ≤ maxLen) (wa : (Lit.int .i64 a).wf = true) (w : World) (ht : Tab w) :
    Calls Tryd.prog 5 #[.string s, .string n, .int .i64 a] w fun e w' => e = .returned (.bool true) ∧ Below w.heap.size w w' := by
  have HT := Lib.hid ht
  have L1 := Lib.hid hs
  have L2 := Lib.hid hn
  unfold maxLen at hs hn
  clear ht wa
  by_cases h1 : s.size ≤ 3000
  · by_cases h2 : n.size ≤ 3000
    · by_cases h : s.size ≤ 2000
      · have HS : Hid (frameS s = frm s) := Lib.hid (by unfold frameS; rw [if_pos h])
        have HE : Hid (frameE s = 0) := Lib.hid (by unfold frameE; rw [if_pos h])
        have hz := frm_size s
        have g := open_mid n n s h
        obtain ⟨g1, g2, g3⟩ := g
        have G1 := Lib.hid g1; have G2 := Lib.hid g2
        have G3 : Hid (openA (n ++ frm s ++ n) n.size = (n.size : Int) + (s.size + 6)) := Lib.hid (by rw [g3, hz]; omega)
        have HX : Hid ((n ++ frm s ++ n).size ≤ maxLen) := Lib.hid (by rw [ByteArray.size_append, ByteArray.size_append, hz]; unfold maxLen; omega)
        clear g1 g2 g3
        by_cases h3 : openE n a = 0
        · have g := back2 h3
          obtain ⟨b, k, rfl, e1, hbk, hks, h4, e2⟩ := g
          have E1 := Lib.hid e1; have E3 := Lib.hid h3
          have HS2 : Hid (frameS (openS n b) = frm (openS n b)) := Lib.hid (by unfold frameS; rw [if_pos h4])
          have HE2 : Hid (frameE (openS n b) = 0) := Lib.hid (by unfold frameE; rw [if_pos h4])
          have HX2 : Hid ((openS n b).size ≤ maxLen) := Lib.hid (by unfold maxLen; omega)
          have q1 : (b : Int) ≤ (k : Int) := by omega
          have q2 : (k : Int) ≤ (n.size : Int) := by omega
          have q3 : decide ((k : Int) < (b : Int)) = false := by simp; omega
          have q4 : decide ((n.size : Int) < (k : Int)) = false := by simp; omega
          clear h3 e1
          go_enter Tryd.func5, Tryd.ntmps5
          go_wp2_with fail
          refine (frame_any s L1.out _ HT.out).mono ?_
          rintro e w1 ⟨rfl, hb1⟩
          rw [HS.out, HE.out]
          go_wp2_with fail
          refine (open_any _ n.size HX.out _ (HT.out.below hb1)).mono ?_
          rintro e w2 ⟨rfl, hb2⟩
          rw [G1.out, G2.out, G3.out]
          go_wp2_with fail
          refine (open_any n b L2.out _ (HT.out.below (nx hb1 hb2))).mono ?_
          rintro e w3 ⟨rfl, hb3⟩
          rw [E1.out, E3.out]
          go_wp2_with fail
          refine (frame_any (openS n b) HX2.out _ (HT.out.below (nx (nx hb1 hb2) hb3))).mono ?_
          rintro e w4 ⟨rfl, hb4⟩
          rw [HS2.out, HE2.out]
          go_wp2_with fail
          refine (awake_any _ (HT.out.below (nx (nx (nx hb1 hb2) hb3) hb4))).mono ?_
          rintro e w5 ⟨rfl, hb5⟩
          go_wp2
          go_ret
          exact ⟨rfl, nx (nx (nx (nx hb1 hb2) hb3) hb4) hb5⟩
        · have h3' : (openE n a == 0) = false := by simpa using h3
          go_enter Tryd.func5, Tryd.ntmps5
          go_wp2_with fail
          refine (frame_any s L1.out _ HT.out).mono ?_
          rintro e w1 ⟨rfl, hb1⟩
          rw [HS.out, HE.out]
          go_wp2_with fail
          refine (open_any _ n.size HX.out _ (HT.out.below hb1)).mono ?_
          rintro e w2 ⟨rfl, hb2⟩
          rw [G1.out, G2.out, G3.out]
          go_wp2_with fail
          refine (open_any n a L2.out _ (HT.out.below (nx hb1 hb2))).mono ?_
          rintro e w3 ⟨rfl, hb3⟩
          go_wp2_with fail
          refine (awake_any _ (HT.out.below (nx (nx hb1 hb2) hb3))).mono ?_
          rintro e w5 ⟨rfl, hb5⟩
          go_wp2
          go_ret
          exact ⟨rfl, nx (nx (nx hb1 hb2) hb3) hb5⟩
      · have HE : Hid (frameE s = 5) := Lib.hid (by unfold frameE; rw [if_neg h])
        go_enter Tryd.func5, Tryd.ntmps5
        go_wp2_with fail
        refine (frame_any s L1.out _ HT.out).mono ?_
        rintro e w1 ⟨rfl, hb1⟩
        rw [HE.out]
        go_wp2_with fail
        refine (awake_any _ (HT.out.below hb1)).mono ?_
        rintro e w3 ⟨rfl, hb3⟩
        go_wp2
        go_ret
        exact ⟨rfl, nx hb1 hb3⟩
    · go_enter Tryd.func5, Tryd.ntmps5
      go_wp2_with fail
      refine (awake_any _ HT.out).mono ?_
      rintro e w3 ⟨rfl, hb3⟩
      go_wp2
      go_ret
      exact ⟨rfl, hb3⟩
  · go_enter Tryd.func5, Tryd.ntmps5
    go_wp2_with fail
    refine (awake_any _ HT.out).mono ?_
    rintro e w3 ⟨rfl, hb3⟩
    go_wp2
    go_ret
    exact ⟨rfl, hb3⟩
end Go.Proofs.YtifbibdbnehbbaaDoor.Cr
