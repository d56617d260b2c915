/- the document's own answers of layer 1: GetInt, PutText, GetText. -/
import Derived.Test.YtodlibpibopnoaaDoorFxR
namespace Go.Proofs.YtodlibpibopnoaaDoor.Fx
open Go.RowKit
set_option linter.unusedVariables false
theorem putV_len (s : ByteArray) (h : s.size ≤ 4000) : putV s.size 2 = .tuple #[.string (enc s.size 2), .int .i64 0] := by
  have h1 : fB s.size 2 = true := by simp [fB]; omega
  unfold putV; rw [w2, h1]; rfl
theorem rPutLen_any (s : ByteArray) (h : s.size ≤ 4000) (w : World) :
    Calls Tryd.prog 34 #[.int .i64 s.size, .int .i64 2] w fun e w' => e = .returned (.tuple #[.string (enc s.size 2), .int .i64 0]) ∧ Below w.heap.size w w' := by
  rw [← putV_len s h]
  exact rPut_any _ _ _
end Go.Proofs.YtodlibpibopnoaaDoor.Fx
