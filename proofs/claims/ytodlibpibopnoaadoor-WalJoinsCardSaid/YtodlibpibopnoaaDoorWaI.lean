/- WalLays: the call. -/
import Derived.Test.YtodlibpibopnoaaDoorWaH
namespace Go.Proofs.YtodlibpibopnoaaDoor.Wa
open Go.RowKit
set_option linter.unusedVariables false
open Go.Proofs.YtodlibpibopnoaaDoor.Rw
open Go.Proofs.YtodlibpibopnoaaDoor.Da
open Go.Proofs.YtodlibpibopnoaaDoor.Cr
theorem rLay_is {l : List ByteArray} {x : ByteArray} {z : Int} (H : Hid (layN ByteArray.empty l = (x, z))) {n : Nat} {v : Value} {w : World} (h : TL n l v w) (hl : l.length ≤ 1000000) (hz : ∀ x ∈ l, x.size ≤ maxLen) :
    Calls Tryd.prog 15 #[v] w fun e w' => e = .returned (.tuple #[.string x, .int .i64 z]) ∧ Below w.heap.size w w' := by
  have k := rLay_any n l v w h hl hz
  rw [H.out] at k; exact k
theorem rFits_is {l : List ByteArray} {r : Int} {b : Bool} (H : Hid (fitsN r l = b)) {n : Nat} {v : Value} {w : World} (h : TL n l v w) (hl : l.length ≤ 1000000) (hz : ∀ x ∈ l, x.size ≤ 1000000000) (hr : -9223372036854775808 ≤ r ∧ r ≤ 9223372036854775807) :
    Calls Tryd.prog 17 #[v, .int .i64 r] w fun e w' => e = .returned (.bool b) ∧ Below w.heap.size w w' := by
  rw [← H.out]; exact rFits_any n l v r w h hl hz hr
theorem wf64 {r : Int} (h : (Lit.int .i64 r).wf = true) : -9223372036854775808 ≤ r ∧ r ≤ 9223372036854775807 := by
  have h1 : IntKind.i64.min ≤ r ∧ r ≤ 9223372036854775807 := by simpa [Lit.wf] using h
  rw [show IntKind.i64.min = -9223372036854775808 from rfl] at h1
  exact h1
/-- What is known of a list that is not far. -/
theorem near {l : List ByteArray} (h : farB l = false) : l.length ≤ 1000000 ∧ (∀ x ∈ l, x.size ≤ maxLen) ∧ (∀ x ∈ l, x.size ≤ 1000000000) ∧ wl l ≤ 30600 ∧ l.length ≤ 1000000000 := by
  obtain ⟨h1, h2, h3⟩ := far_no h
  refine ⟨by omega, fun x hx => Nat.le_trans (h1 x hx) (by decide), fun x hx => by have := h1 x hx; omega, ?_, by omega⟩
  rw [wl_tw]; omega
set_option maxRecDepth 8000 in
set_option maxHeartbeats 4000000 in
theorem walkLays (l : List ByteArray) (v : Value) (r : Int) (w : World) (h : TL w.heap.size l v w) (g : wfLs l ∧ capOk v) (wr : (Lit.int .i64 r).wf = true) (ht : Tab w) :
    Calls Tryd.prog 4 #[v, .int .i64 r] w fun e w' => e = .returned (.bool true) ∧ Below w.heap.size w w' := by
  obtain ⟨⟨g1, g2⟩, -⟩ := g
  have hr := wf64 wr
  have HR := Lib.hid hr
  have HT := Lib.hid ht
  have HL := Lib.hid h
  have HG := Lib.hid g1
  clear wr ht g1 g2 hr h
  obtain ⟨q, hq⟩ : ∃ q, farB l = q := ⟨_, rfl⟩
  have HQ := Lib.hid hq
  cases q with
  | true =>
    clear hq
    go_enter Tryd.func4, Tryd.ntmps4
    go_wp2_with fail
    refine (far_is HQ HL.out HG.out).mono ?_
    rintro e w1 ⟨rfl, b1⟩
    go_wp2_with fail
    refine (awake_any _ (HT.out.below b1)).mono ?_
    rintro e w2 ⟨rfl, hb2⟩
    go_wp2
    go_ret
    exact ⟨rfl, nx b1 hb2⟩
  | false =>
    have HN := Lib.hid (near hq)
    obtain ⟨⟨x, z⟩, hx⟩ : ∃ q, layN ByteArray.empty l = q := ⟨_, rfl⟩
    obtain ⟨f, hf⟩ : ∃ q, fitsN r l = q := ⟨_, rfl⟩
    have HX := Lib.hid hx
    have HF := Lib.hid hf
    clear hq hx hf
    go_enter Tryd.func4, Tryd.ntmps4
    go_wp2_with fail
    refine (far_is HQ HL.out HG.out).mono ?_
    rintro e w1 ⟨rfl, b1⟩
    go_wp2_with fail
    refine (lay_is HX (HL.out.stays b1) HN.out.1 HN.out.2.1 (HT.out.below b1)).mono ?_
    rintro e w2 ⟨rfl, hb2⟩
    have b2 := nx b1 hb2
    go_wp2_with fail
    refine (rLay_is HX (HL.out.stays b2) HN.out.1 HN.out.2.1).mono ?_
    rintro e w3 ⟨rfl, hb3⟩
    have b3 := nx b2 hb3
    go_wp2_with fail
    refine (fits_is HF (HL.out.stays b3) HN.out.1 HN.out.2.2.1 HR.out).mono ?_
    rintro e w4 ⟨rfl, hb4⟩
    have b4 := nx b3 hb4
    go_wp2_with fail
    refine (rFits_is HF (HL.out.stays b4) HN.out.1 HN.out.2.2.1 HR.out).mono ?_
    rintro e w5 ⟨rfl, hb5⟩
    have b5 := nx b4 hb5
    go_wp2_with fail
    refine (awake_any _ (HT.out.below b5)).mono ?_
    rintro e w6 ⟨rfl, hb6⟩
    go_wp2
    go_ret
    exact ⟨rfl, nx b5 hb6⟩
end Go.Proofs.YtodlibpibopnoaaDoor.Wa
