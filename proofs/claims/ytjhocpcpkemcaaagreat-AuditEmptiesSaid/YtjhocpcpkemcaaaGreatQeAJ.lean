/- Plain mathematics of layer 1: bytes, most significant first, and what they are read as. -/
import Derived.Test.YtjhocpcpkemcaaaGreatQeZZ
import Derived.WalkKit
import Derived.Laws.BytesArg
import Derived.Laws.ShiftsVarLaws
set_option linter.unusedVariables false
set_option maxRecDepth 16000
set_option maxHeartbeats 32000000
namespace Go.Proofs.YtjhocpcpkemcaaaGreat.Fx
open Go.RowKit
theorem nx {a b c:World} (h:Below a.heap.size a b) (k:Below b.heap.size b c):Below a.heap.size a c:=h.trans (k.mono h.size)
theorem nd {a b:World} (h:Below a.drew.heap.size a.drew b):Below a.heap.size a b:=nx ((Below.refl a.heap.size a).drew) h
def byt (U:Int) (w i:Nat):Int:=U / 2 ^ (8*(w - 1 - i)) % 256
def encL (U:Int) (w:Nat):List Int:=(List.range w).map (byt U w)
def enc (U:Int) (w:Nat):ByteArray:=strOfNums (encL U w)
end Go.Proofs.YtjhocpcpkemcaaaGreat.Fx
