/- WalJoins: the call. -/
import Derived.Test.YtodlibpibopnoaaDoorWaJ
namespace Go.Proofs.YtodlibpibopnoaaDoor.Wa
open Go.RowKit
set_option linter.unusedVariables false
open Go.Proofs.YtodlibpibopnoaaDoor.Rw
open Go.Proofs.YtodlibpibopnoaaDoor.Da
open Go.Proofs.YtodlibpibopnoaaDoor.Cr
/-- Two lists behind one another, just made. -/
theorem app_two {n : Nat} {m l : List ByteArray} {v x : Value} {w X : World} (hX : w.alloc (.cells #[] 9) = X) (hn : n ≤ w.heap.size) (hm : TL n m v w) (hl : TL n l x w) (h1 : m.length ≤ 100000000) (h2 : l.length ≤ 100000000) :
    ∃ v1 w1 v2 w2, appRun Tryd.prog 23 23 (.slice (some ⟨w.heap.size, 0, none⟩) 0 0) v X = .ok v1 w1 ∧ appRun Tryd.prog 23 23 v1 x w1 = .ok v2 w2 ∧ TL n (m ++ l) v2 w2 ∧ Below w.heap.size w w2 := by
  subst hX
  have hb := below1 w (.cells #[] 9)
  have hB : (Bs.of n).le w.heap.size := ⟨hn, fun _ h => h.elim⟩
  obtain ⟨v1, w1, r1, o1, _, k1, _⟩ := Own.append elemT 23 typesT (B := Bs.of n) hB hb.size (Own.made (e := eT) (T := 9) (Bs.of n) w w.heap.size (Nat.le_refl _)) (hm.stays hb) (by simp only [List.length_nil]; omega) (by decide)
  have b1 : Below w.heap.size w w1 := k1 _ w (Nat.le_refl _) hb
  obtain ⟨v2, w2, r2, o2, _, k2, _⟩ := Own.append elemT 23 typesT (B := Bs.of n) hB b1.size o1 (hl.stays b1) (by simp only [List.nil_append]; omega) (by decide)
  have b2 : Below w.heap.size w w2 := k2 _ w (Nat.le_refl _) b1
  exact ⟨v1, w1, v2, w2, r1, r2, OwnT.tl o2 hn, b2⟩
set_option maxRecDepth 8000 in
set_option maxHeartbeats 4000000 in
theorem walkJoins (s : ByteArray) (l : List ByteArray) (v : Value) (w : World) (h : TL w.heap.size l v w) (g : wfLs l ∧ capOk v) (hs : s.size ≤ maxLen) (ht : Tab w) :
    Calls Tryd.prog 6 #[.string s, v] w fun e w' => e = .returned (.bool true) ∧ Below w.heap.size w w' := by
  obtain ⟨⟨g1, g2⟩, -⟩ := g
  unfold maxLen at hs
  have HT := Lib.hid ht
  have HL := Lib.hid h
  have HG := Lib.hid g1
  clear ht g1 g2 h
  by_cases h6 : 6000 < s.size
  · have h1 : decide ((6000 : Int) < s.size) = true := decide_eq_true (by omega)
    go_enter Tryd.func6, Tryd.ntmps6
    go_wp2_with fail
    refine (awake_any _ HT.out).mono ?_
    rintro e w1 ⟨rfl, hb1⟩
    go_wp2
    go_ret
    exact ⟨rfl, hb1⟩
  have h1 : decide ((6000 : Int) < s.size) = false := decide_eq_false (by omega)
  obtain ⟨q, hq⟩ : ∃ q, farB l = q := ⟨_, rfl⟩
  have HQ := Lib.hid hq
  cases q with
  | true =>
    clear hq
    go_enter Tryd.func6, Tryd.ntmps6
    go_wp2_with fail
    refine (far_is HQ HL.out HG.out).mono ?_
    rintro e w1 ⟨rfl, b1⟩
    go_wp2_with fail
    refine (awake_any _ (HT.out.below b1)).mono ?_
    rintro e w2 ⟨rfl, hb2⟩
    go_wp2
    go_ret
    exact ⟨rfl, nx b1 hb2⟩
  | false =>
    have hn := near hq
    have HN := Lib.hid hn
    obtain ⟨⟨m, a⟩, hr⟩ : ∃ q, scan s = q := ⟨_, rfl⟩
    have hfew := scan_few hr
    have HR := Lib.hid hr
    have HSz : Hid (s.size ≤ 1000000) := Lib.hid (by omega)
    obtain ⟨⟨t, z⟩, hx⟩ : ∃ q, layN ByteArray.empty l = q := ⟨_, rfl⟩
    have HX := Lib.hid hx
    by_cases hz : z = 0
    · subst hz
      obtain ⟨rfl, hsh⟩ := lay_zero hx
      have hsc := (scan_spec s).1
      rw [hr] at hsc
      have hjn := scan_is (sc_join (l := l) hsc hsh)
      simp only at hjn
      obtain ⟨n, hwl⟩ : ∃ n, wl l = n := ⟨_, rfl⟩
      have hsz : (laid l).size = n := by rw [laid_size, hwl]
      have hn4 : n ≤ 30600 := by rw [← hwl]; exact hn.2.2.2.1
      rw [hwl] at hjn
      obtain ⟨t, htt⟩ : ∃ t, laid l = t := ⟨_, rfl⟩
      rw [htt] at HX hsz hjn
      have ha : a ≤ s.size := hfew.2
      have ha2 : (a : Int) ≤ s.size := by omega
      have hml : m.length ≤ 100000000 := by have := hfew.1; omega
      have HMl := Lib.hid hml
      obtain ⟨P, hP⟩ : ∃ P, s.extract 0 a = P := ⟨_, rfl⟩
      obtain ⟨J, hJ⟩ : ∃ J, P ++ t = J := ⟨_, rfl⟩
      rw [hP, hJ] at hjn
      have hps : P.size ≤ 6000 := by rw [← hP, ByteArray.size_extract]; omega
      have HJ := Lib.hid hjn
      have HJz : Hid (J.size ≤ 1000000) := Lib.hid (by rw [← hJ, ByteArray.size_append, hsz, ← hP, ByteArray.size_extract]; omega)
      have HSame : Hid (sameB (m ++ l) (m ++ l) = true) := Lib.hid (sameB_yes rfl)
      have HLL : Hid ((m ++ l).length ≤ 1000000000) := Lib.hid (by rw [List.length_append]; have := hn.1; omega)
      clear hq hn hr hfew hx hsh hsc hjn hwl htt hml
      go_enter Tryd.func6, Tryd.ntmps6
      go_wp2_with fail
      refine (far_is HQ HL.out HG.out).mono ?_
      rintro e w1 ⟨rfl, b1⟩
      go_wp2_with fail
      refine (scan_is2 HR w.heap.size HSz.out _ b1.size (HT.out.below b1)).mono ?_
      rintro e w2 ⟨v2, rfl, hb2, o2⟩
      have b2 := nx b1 hb2
      go_wp2_with fail
      refine (lay_is HX (HL.out.stays b2) HN.out.1 HN.out.2.1 (HT.out.below b2)).mono ?_
      rintro e w3 ⟨rfl, hb3⟩
      have b3 := nx b2 hb3
      go_wp2_with fail
      refine (scan_is2 HJ w.heap.size HJz.out _ b3.size (HT.out.below b3)).mono ?_
      rintro e w4 ⟨v4, rfl, hb4, o4⟩
      have b4 := nx b3 hb4
      obtain ⟨X, hX⟩ : ∃ X : World, w4.alloc (.cells #[] 9) = X := ⟨_, rfl⟩
      obtain ⟨v5, w5, v6, w6, r1, r2, htl, hb6⟩ := app_two hX b4.size ((o2.tl b1.size).stays (nx hb3 hb4)) (HL.out.stays b4) HMl.out (by have := HN.out.1; omega)
      have HTL := Lib.hid htl
      have HO4 := Lib.hid ((o4.tl b3.size).stays hb6)
      have b6 := nx b4 hb6
      clear htl o2 o4
      go_wp2_with fail
      refine (texts_is HSame HO4.out HTL.out HLL.out HLL.out).mono ?_
      rintro e w7 ⟨rfl, hb7⟩
      have b7 := nx b6 hb7
      go_wp2_with fail
      refine (awake_any _ (HT.out.below b7)).mono ?_
      rintro e w8 ⟨rfl, hb8⟩
      go_wp2
      go_ret
      exact ⟨rfl, nx b7 hb8⟩
    · have hS := lay_none hx hz
      subst hS
      have z1 : (z != 0) = true := by simpa using hz
      have z2 : (z == 0) = false := by simpa using hz
      clear hq hn hx hz hr hfew
      go_enter Tryd.func6, Tryd.ntmps6
      go_wp2_with fail
      refine (far_is HQ HL.out HG.out).mono ?_
      rintro e w1 ⟨rfl, b1⟩
      go_wp2_with fail
      refine (scan_is2 HR w.heap.size HSz.out _ b1.size (HT.out.below b1)).mono ?_
      rintro e w2 ⟨v2, rfl, hb2, o2⟩
      have b2 := nx b1 hb2
      go_wp2_with fail
      refine (lay_is HX (HL.out.stays b2) HN.out.1 HN.out.2.1 (HT.out.below b2)).mono ?_
      rintro e w3 ⟨rfl, hb3⟩
      have b3 := nx b2 hb3
      go_wp2_with fail
      refine (awake_any _ (HT.out.below b3)).mono ?_
      rintro e w4 ⟨rfl, hb4⟩
      go_wp2
      go_ret
      exact ⟨rfl, nx b3 hb4⟩
end Go.Proofs.YtodlibpibopnoaaDoor.Wa
