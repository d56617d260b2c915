/- strings.Clone, and GetText. -/
import Derived.Test.YtngnkjbcnmcngaaDoorFxC
import Derived.Lib.Strings
import Derived.Lib.BufferWrite
import Derived.Lib.UnsafeStr
import Derived.Laws.MakeOwn
namespace Go.Proofs.YtngnkjbcnmcngaaDoor.Fx
open Go.RowKit
set_option linter.unusedVariables false
/-- the piece of s from a on, of k bytes -/
def cut (s : ByteArray) (a k : Nat) : ByteArray := s.extract a (a + k)
def getTextV (s : ByteArray) (a : Int) : Value :=
  if oB s a then
    (if 2 ≤ s.size - a then
      (if dec s a.toNat 2 ≤ 4000 then
        (if dec s a.toNat 2 ≤ s.size - (a + 2) then .tuple #[.string (cut s (a.toNat + 2) (dec s a.toNat 2)), .int .i64 (a + 2 + dec s a.toNat 2), .int .i64 0] else .tuple #[.string ByteArray.empty, .int .i64 0, .int .i64 2])
      else .tuple #[.string ByteArray.empty, .int .i64 0, .int .i64 5])
    else .tuple #[.string ByteArray.empty, .int .i64 0, .int .i64 2])
  else .tuple #[.string ByteArray.empty, .int .i64 0, .int .i64 1]
theorem w2 : wB 2 = true := rfl
end Go.Proofs.YtngnkjbcnmcngaaDoor.Fx
