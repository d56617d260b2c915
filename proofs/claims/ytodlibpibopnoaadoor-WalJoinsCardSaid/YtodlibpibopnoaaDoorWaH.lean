/- WalScans: the call. -/
import Derived.Test.YtodlibpibopnoaaDoorWaG
namespace Go.Proofs.YtodlibpibopnoaaDoor.Wa
open Go.RowKit
set_option linter.unusedVariables false
open Go.Proofs.YtodlibpibopnoaaDoor.Rw
open Go.Proofs.YtodlibpibopnoaaDoor.Da
open Go.Proofs.YtodlibpibopnoaaDoor.Cr
theorem texts_is {l m : List ByteArray} {b : Bool} (H : Hid (sameB l m = b)) {q q' : Nat} {v x : Value} {w : World} (h : TL q l v w) (k : TL q' m x w) (hl : l.length ≤ 1000000000) (hm : m.length ≤ 1000000000) :
    Calls Tryd.prog 12 #[v, x] w fun e w' => e = .returned (.bool b) ∧ Below w.heap.size w w' := by
  rw [← H.out]; exact texts_any q q' l m v x w h k hl hm
set_option maxRecDepth 8000 in
set_option maxHeartbeats 4000000 in
theorem walkScans (s : ByteArray) (hs : s.size ≤ maxLen) (w : World) (ht : Tab w) :
    Calls Tryd.prog 3 #[.string s] w fun e w' => e = .returned (.bool true) ∧ Below w.heap.size w w' := by
  unfold maxLen at hs
  have HT := Lib.hid ht
  clear ht
  by_cases h : 9000 < s.size
  · have h1 : decide ((9000 : Int) < s.size) = true := decide_eq_true (by omega)
    go_enter Tryd.func3, Tryd.ntmps3
    go_wp2_with fail
    refine (awake_any _ HT.out).mono ?_
    rintro e w1 ⟨rfl, hb1⟩
    go_wp2
    go_ret
    exact ⟨rfl, hb1⟩
  · have h1 : decide ((9000 : Int) < s.size) = false := decide_eq_false (by omega)
    have hz : s.size ≤ 1000000 := by omega
    obtain ⟨⟨l, a⟩, hr⟩ : ∃ q, scan s = q := ⟨_, rfl⟩
    have hfew := scan_few hr
    have hlen : l.length ≤ 1000000000 := by omega
    obtain ⟨x, hx⟩ : ∃ x, lastS (scan s).1 = x := ⟨_, rfl⟩
    obtain ⟨p, hp⟩ : ∃ p, decide (0 < (scan s).1.length) = p := ⟨_, rfl⟩
    have HR := Lib.hid hr
    have HX := Lib.hid (⟨hx, hp⟩ : lastS (scan s).1 = x ∧ decide (0 < (scan s).1.length) = p)
    have HZ := Lib.hid hz
    have HS : Hid (sameB l l = true) := Lib.hid (sameB_yes rfl)
    have HLen := Lib.hid hlen
    clear hr hfew hx hp hz hlen hs
    go_enter Tryd.func3, Tryd.ntmps3
    go_wp2_with fail
    refine (scan_is2 HR w.heap.size HZ.out _ (Nat.le_refl _) HT.out).mono ?_
    rintro e w1 ⟨v1, rfl, b1, o1⟩
    go_wp2_with fail
    refine (rScan_is HR w.heap.size HZ.out _ b1.size).mono ?_
    rintro e w2 ⟨v2, rfl, hb2, o2⟩
    have b2 := nx b1 hb2
    go_wp2_with fail
    refine (last_is HX HZ.out _ (HT.out.below b2)).mono ?_
    rintro e w3 ⟨rfl, hb3⟩
    have b3 := nx b2 hb3
    go_wp2_with fail
    refine (rLast_is HX HZ.out _).mono ?_
    rintro e w4 ⟨rfl, hb4⟩
    have b4 := nx b3 hb4
    have T1 := Lib.hid ((o1.tl (Nat.le_refl _)).stays (nx hb2 (nx hb3 hb4)))
    have T2 := Lib.hid ((o2.tl b1.size).stays (nx hb3 hb4))
    clear o1 o2
    go_wp2_with fail
    refine (texts_is HS T1.out T2.out HLen.out HLen.out).mono ?_
    rintro e w5 ⟨rfl, hb5⟩
    have b5 := nx b4 hb5
    go_wp2_with fail
    refine (awake_any _ (HT.out.below b5)).mono ?_
    rintro e w6 ⟨rfl, hb6⟩
    go_wp2
    go_ret
    exact ⟨rfl, nx b5 hb6⟩
end Go.Proofs.YtodlibpibopnoaaDoor.Wa
