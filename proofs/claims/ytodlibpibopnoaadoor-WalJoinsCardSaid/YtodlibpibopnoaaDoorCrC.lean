/- Frame and Open: both programs' walks. -/
import Derived.Test.YtodlibpibopnoaaDoorCrB
import Derived.Test.YtodlibpibopnoaaDoorFxD
import Derived.Laws.Concat
namespace Go.Proofs.YtodlibpibopnoaaDoor.Cr
open Go.RowKit
set_option linter.unusedVariables false
open Go.Proofs.YtodlibpibopnoaaDoor.Fx
theorem putLen_any (s : ByteArray) (h : s.size ≤ 4000) (w : World) :
    Calls Tryd.prog 32 #[.int .i64 s.size, .int .i64 2] w fun e w' => e = .returned (.tuple #[.string (enc s.size 2), .int .i64 0]) ∧ Below w.heap.size w w' := by
  rw [← putV_len s h]
  exact put_any _ _ _
/-- a load behind its length -/
def body (s : ByteArray) : ByteArray := enc s.size 2 ++ s
theorem body_size (s : ByteArray) : (body s).size = 2 + s.size := by rw [body, ByteArray.size_append, enc_size]
def frm (s : ByteArray) : ByteArray := body s ++ leS (sumS (body s))
theorem frm_size (s : ByteArray) : (frm s).size = s.size + 6 := by rw [frm, ByteArray.size_append, body_size, leS_size]; omega
def frameS (s : ByteArray) : ByteArray := if s.size ≤ 2000 then frm s else ByteArray.empty
def frameE (s : ByteArray) : Int := if s.size ≤ 2000 then 0 else 5
def frameV (s : ByteArray) : Value := .tuple #[.string (frameS s), .int .i64 (frameE s)]
theorem body_max (s : ByteArray) (h : s.size ≤ 2000) : (body s).size ≤ maxLen := by rw [body_size]; unfold maxLen; omega
set_option maxHeartbeats 400000 in
theorem frame_any (s : ByteArray) (hs : s.size ≤ maxLen) (w : World) (ht : Tab w) :
    Calls Tryd.prog 20 #[.string s] w fun e w' => e = .returned (.tuple #[.string (frameS s), .int .i64 (frameE s)]) ∧ Below w.heap.size w w' := by
  unfold maxLen at hs
  have HT := Lib.hid ht
  clear ht
  by_cases h : s.size ≤ 2000
  · have H : Hid (frameV s = .tuple #[.string (body s ++ leS (sumS (body s))), .int .i64 0]) := Lib.hid (by simp [frameV, frameS, frameE, h, frm])
    have HB : Hid (enc s.size 2 ++ s = body s) := Lib.hid rfl
    have hz := enc_size s.size 2
    have hz1 := body_size s
    have hz2 := leS_size (sumS (body s))
    have HM := Lib.hid (body_max s h)
    go_enter Tryd.func20, Tryd.ntmps20
    go_wp2_with fail
    refine (putLen_any s (by omega) _).mono ?_
    rintro e w1 ⟨rfl, hb1⟩
    go_wp2_with fail
    rw [HB.out]
    refine (sum_any (body s) HM.out _ (HT.out.below hb1)).mono ?_
    rintro e w' ⟨rfl, rfl⟩
    go_wp2_with fail
    refine (sumBytes_any (sumS (body s)) (sumS_lt _) _).mono ?_
    rintro e w2 ⟨rfl, hb2⟩
    go_wp2
    go_ret2
    exact ⟨ret_v H.out.symm, nx hb1 hb2⟩
  · have H : Hid (frameV s = .tuple #[.string ByteArray.empty, .int .i64 5]) := Lib.hid (by simp [frameV, frameS, frameE, h])
    go_enter Tryd.func20, Tryd.ntmps20
    go_wp2
    go_ret2
    exact ⟨ret_v H.out.symm, Below.refl _ _⟩
set_option maxHeartbeats 400000 in
theorem rFrame_any (s : ByteArray) (hs : s.size ≤ maxLen) (w : World) :
    Calls Tryd.prog 24 #[.string s] w fun e w' => e = .returned (.tuple #[.string (frameS s), .int .i64 (frameE s)]) ∧ Below w.heap.size w w' := by
  unfold maxLen at hs
  by_cases h : s.size ≤ 2000
  · have H : Hid (frameV s = .tuple #[.string (body s ++ leS (sumS (body s))), .int .i64 0]) := Lib.hid (by simp [frameV, frameS, frameE, h, frm])
    have HB : Hid (enc s.size 2 ++ s = body s) := Lib.hid rfl
    have hz := enc_size s.size 2
    have hz1 := body_size s
    have hz2 := leS_size (sumS (body s))
    have HM := Lib.hid (body_max s h)
    go_enter Tryd.func24, Tryd.ntmps24
    go_wp2_with fail
    refine (rPutLen_any s (by omega) _).mono ?_
    rintro e w1 ⟨rfl, hb1⟩
    go_wp2_with fail
    rw [HB.out]
    refine (rSum_any (body s) HM.out _).mono ?_
    rintro e w' ⟨rfl, rfl⟩
    go_wp2_with fail
    refine (rBack_any (sumS (body s)) (sumS_lt _) _).mono ?_
    rintro e w2 ⟨rfl, hb2⟩
    go_wp2
    go_ret2
    exact ⟨ret_v H.out.symm, nx hb1 hb2⟩
  · have H : Hid (frameV s = .tuple #[.string ByteArray.empty, .int .i64 5]) := Lib.hid (by simp [frameV, frameS, frameE, h])
    go_enter Tryd.func24, Tryd.ntmps24
    go_wp2
    go_ret2
    exact ⟨ret_v H.out.symm, Below.refl _ _⟩
end Go.Proofs.YtodlibpibopnoaaDoor.Cr
