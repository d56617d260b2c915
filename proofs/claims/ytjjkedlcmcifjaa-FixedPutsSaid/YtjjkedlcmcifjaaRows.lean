/-
  No cell of these rows narrows 'for every input' (looked for: loops, veiled, ifaces, maps, wideKeys, modest, calm, conditions, laid).
  DERIVED. THE GIVEN ROWS OF THIS SEAT. 5 by the template 'for every input the law returns true; each argument reads behind the call as it read before'; 0 by the template 'total and deterministic' (their statements: YtjjkedlcmcifjaaTotals.lean).
  GIVEN WITH THE SEED: the statements are not yours to turn. If you find one false, say at which input.
  Laid BY PROGRAM, IN A SANDBOX (cutbox-rows.mjs): the forced cells as the released guide's own fill.sh prints them over the translation f3fde9d91b4b54da… (all of the seat's roots in one cut). By AI agents, Wed Nov 11 2026. No macro, syntax, notation, axiom, sorry.
-/
import Derived.Test.YtjjkedlcmcifjaaChecked
import GoSem.Claim
import GoSem.ClaimJoined
import GoSem.ClaimMapViews
import Derived.JoinedTies
import Derived.KernelRfl
namespace Go.Proofs.Ytjjkedlcmcifjaa
/- THE CELL 'sum', in the pinned program and in every row, IS THE sha256 OF THE DUMP (.gsa) THAT YtjjkedlcmcifjaaProg.lean LOADS. Nothing in Lean hashes anything: it is a label: what it is worth is what the hold of that sum in a sandbox is worth. -/
noncomputable def Try.pinned : Pinned := { name := "ytjjkedlcmcifjaa", sum := "f3fde9d91b4b54da539594b84d6dff4b5fdc4c699f4460ad8793bb57101092a8", checked := Try.checked }
namespace Rows
def none {H : Type} : Left H := { results := [], args := [] }

/-- 'cambistlaw01.FixedPuts': WHATEVER THE INPUT: true; the input reads as it did. -/
def fixedPutsSpec : ChangeSpec := { name := "fixedPuts", fn := fun _ => fun
  | [d1, d2, d3] => { results := [.lit (.bool true)], args := [d1, d2, d3] }
  | _ => none }
def fixedPutsRow : OpenClaim := { program := "ytjjkedlcmcifjaa", sum := "f3fde9d91b4b54da539594b84d6dff4b5fdc4c699f4460ad8793bb57101092a8", func := "cambist/cambistlaw01.FixedPuts", spec := "fixedPuts", apart := false }
def FixedPutsSaid : Prop := fixedPutsRow.holds Try.pinned (OpenSpec.ofChange fixedPutsSpec)

/-- ITS FALSE NEIGHBOUR: 'it returns false'. Refute it at one input. -/
def fixedPutsWrong : ChangeSpec := { name := "fixedPuts", fn := fun _ => fun
  | [d1, d2, d3] => { results := [.lit (.bool false)], args := [d1, d2, d3] }
  | _ => none }
def FixedPutsWrongFalsely : Prop := fixedPutsRow.holds Try.pinned (OpenSpec.ofChange fixedPutsWrong)

/-- 'cambistlaw01.FixedGets': WHATEVER THE INPUT: true; the input reads as it did. -/
def fixedGetsSpec : ChangeSpec := { name := "fixedGets", fn := fun _ => fun
  | [d1, d2, d3] => { results := [.lit (.bool true)], args := [d1, d2, d3] }
  | _ => none }
def fixedGetsRow : OpenClaim := { program := "ytjjkedlcmcifjaa", sum := "f3fde9d91b4b54da539594b84d6dff4b5fdc4c699f4460ad8793bb57101092a8", func := "cambist/cambistlaw01.FixedGets", spec := "fixedGets", apart := false }
def FixedGetsSaid : Prop := fixedGetsRow.holds Try.pinned (OpenSpec.ofChange fixedGetsSpec)

/-- ITS FALSE NEIGHBOUR: 'it returns false'. Refute it at one input. -/
def fixedGetsWrong : ChangeSpec := { name := "fixedGets", fn := fun _ => fun
  | [d1, d2, d3] => { results := [.lit (.bool false)], args := [d1, d2, d3] }
  | _ => none }
def FixedGetsWrongFalsely : Prop := fixedGetsRow.holds Try.pinned (OpenSpec.ofChange fixedGetsWrong)

/-- 'cambistlaw01.FixedBack': WHATEVER THE INPUT: true; the input reads as it did. -/
def fixedBackSpec : ChangeSpec := { name := "fixedBack", fn := fun _ => fun
  | [d1, d2, d3] => { results := [.lit (.bool true)], args := [d1, d2, d3] }
  | _ => none }
def fixedBackRow : OpenClaim := { program := "ytjjkedlcmcifjaa", sum := "f3fde9d91b4b54da539594b84d6dff4b5fdc4c699f4460ad8793bb57101092a8", func := "cambist/cambistlaw01.FixedBack", spec := "fixedBack", apart := false }
def FixedBackSaid : Prop := fixedBackRow.holds Try.pinned (OpenSpec.ofChange fixedBackSpec)

/-- ITS FALSE NEIGHBOUR: 'it returns false'. Refute it at one input. -/
def fixedBackWrong : ChangeSpec := { name := "fixedBack", fn := fun _ => fun
  | [d1, d2, d3] => { results := [.lit (.bool false)], args := [d1, d2, d3] }
  | _ => none }
def FixedBackWrongFalsely : Prop := fixedBackRow.holds Try.pinned (OpenSpec.ofChange fixedBackWrong)

/-- 'cambistlaw01.FixedOrder': WHATEVER THE INPUT: true; the input reads as it did. -/
def fixedOrderSpec : ChangeSpec := { name := "fixedOrder", fn := fun _ => fun
  | [d1, d2, d3] => { results := [.lit (.bool true)], args := [d1, d2, d3] }
  | _ => none }
def fixedOrderRow : OpenClaim := { program := "ytjjkedlcmcifjaa", sum := "f3fde9d91b4b54da539594b84d6dff4b5fdc4c699f4460ad8793bb57101092a8", func := "cambist/cambistlaw01.FixedOrder", spec := "fixedOrder", apart := false }
def FixedOrderSaid : Prop := fixedOrderRow.holds Try.pinned (OpenSpec.ofChange fixedOrderSpec)

/-- ITS FALSE NEIGHBOUR: 'it returns false'. Refute it at one input. -/
def fixedOrderWrong : ChangeSpec := { name := "fixedOrder", fn := fun _ => fun
  | [d1, d2, d3] => { results := [.lit (.bool false)], args := [d1, d2, d3] }
  | _ => none }
def FixedOrderWrongFalsely : Prop := fixedOrderRow.holds Try.pinned (OpenSpec.ofChange fixedOrderWrong)

/-- 'cambistlaw01.FixedEach': WHATEVER THE INPUT: true; the input reads as it did. -/
def fixedEachSpec : ChangeSpec := { name := "fixedEach", fn := fun _ => fun
  | [d1, d2, d3] => { results := [.lit (.bool true)], args := [d1, d2, d3] }
  | _ => none }
def fixedEachRow : OpenClaim := { program := "ytjjkedlcmcifjaa", sum := "f3fde9d91b4b54da539594b84d6dff4b5fdc4c699f4460ad8793bb57101092a8", func := "cambist/cambistlaw01.FixedEach", spec := "fixedEach", apart := false }
def FixedEachSaid : Prop := fixedEachRow.holds Try.pinned (OpenSpec.ofChange fixedEachSpec)

/-- ITS FALSE NEIGHBOUR: 'it returns false'. Refute it at one input. -/
def fixedEachWrong : ChangeSpec := { name := "fixedEach", fn := fun _ => fun
  | [d1, d2, d3] => { results := [.lit (.bool false)], args := [d1, d2, d3] }
  | _ => none }
def FixedEachWrongFalsely : Prop := fixedEachRow.holds Try.pinned (OpenSpec.ofChange fixedEachWrong)

/- THE SECOND FORM. 'bulk': how many values and letters a reading holds, each counted each time it is reached (what is shared counts as often as it is met; a slice's spare places count too). A statement '..UptoSaid' is the law's where the arguments, and the package variables that the reading takes, are together of bulk at most 1048576: NARROWER than '..Said'. Prove '..Said' where nothing that the law and all that it calls make is longer than what came in: it says more and counts as full. Else prove '..UptoSaid'. A law counts once. -/
mutual
def uptoBulk {H : Type} : DataW H → Nat
  | .lit (.string bytes) => bytes.length + 1
  | .lit _ => 1
  | .nil => 1
  | .ptr d => uptoBulk d + 1
  | .slice elems spare => uptoBulkAll elems + uptoBulkAll spare + 1
  | .agg parts => uptoBulkAll parts + 1
  | .iface _ d => uptoBulk d + 1
  | .map entries => uptoBulkEntries entries + 1
  | .held _ => 1
def uptoBulkAll {H : Type} : List (DataW H) → Nat
  | [] => 0
  | d :: r => uptoBulk d + uptoBulkAll r
def uptoBulkEntries {H : Type} : List (Lit × DataW H) → Nat
  | [] => 0
  | x :: r => uptoBulkEntry x + uptoBulkEntries r
def uptoBulkEntry {H : Type} : Lit × DataW H → Nat
  | (.string bytes, d) => bytes.length + uptoBulk d + 1
  | (_, d) => uptoBulk d + 1
 end
def uptoSmall : (H : Type) → List (DataW H) → Bool := fun _ ds => decide (uptoBulkAll ds ≤ 1048576)
def OpenSpec.upto (s : _root_.Go.ChangeSpec) : _root_.Go.OpenSpec := { _root_.Go.OpenSpec.ofChange s with cond := some uptoSmall }

/-- 'cambistlaw01.FixedPuts', WHERE WHAT IT READS IS OF BULK AT MOST 1048576: true; the input reads as it did. -/
def fixedPutsUptoRow : OpenClaim := { program := "ytjjkedlcmcifjaa", sum := "f3fde9d91b4b54da539594b84d6dff4b5fdc4c699f4460ad8793bb57101092a8", func := "cambist/cambistlaw01.FixedPuts", spec := "fixedPuts", apart := false, narrowed := true }
def FixedPutsUptoSaid : Prop := fixedPutsUptoRow.holds Try.pinned (OpenSpec.upto fixedPutsSpec)

/-- 'cambistlaw01.FixedGets', WHERE WHAT IT READS IS OF BULK AT MOST 1048576: true; the input reads as it did. -/
def fixedGetsUptoRow : OpenClaim := { program := "ytjjkedlcmcifjaa", sum := "f3fde9d91b4b54da539594b84d6dff4b5fdc4c699f4460ad8793bb57101092a8", func := "cambist/cambistlaw01.FixedGets", spec := "fixedGets", apart := false, narrowed := true }
def FixedGetsUptoSaid : Prop := fixedGetsUptoRow.holds Try.pinned (OpenSpec.upto fixedGetsSpec)

/-- 'cambistlaw01.FixedBack', WHERE WHAT IT READS IS OF BULK AT MOST 1048576: true; the input reads as it did. -/
def fixedBackUptoRow : OpenClaim := { program := "ytjjkedlcmcifjaa", sum := "f3fde9d91b4b54da539594b84d6dff4b5fdc4c699f4460ad8793bb57101092a8", func := "cambist/cambistlaw01.FixedBack", spec := "fixedBack", apart := false, narrowed := true }
def FixedBackUptoSaid : Prop := fixedBackUptoRow.holds Try.pinned (OpenSpec.upto fixedBackSpec)

/-- 'cambistlaw01.FixedOrder', WHERE WHAT IT READS IS OF BULK AT MOST 1048576: true; the input reads as it did. -/
def fixedOrderUptoRow : OpenClaim := { program := "ytjjkedlcmcifjaa", sum := "f3fde9d91b4b54da539594b84d6dff4b5fdc4c699f4460ad8793bb57101092a8", func := "cambist/cambistlaw01.FixedOrder", spec := "fixedOrder", apart := false, narrowed := true }
def FixedOrderUptoSaid : Prop := fixedOrderUptoRow.holds Try.pinned (OpenSpec.upto fixedOrderSpec)

/-- 'cambistlaw01.FixedEach', WHERE WHAT IT READS IS OF BULK AT MOST 1048576: true; the input reads as it did. -/
def fixedEachUptoRow : OpenClaim := { program := "ytjjkedlcmcifjaa", sum := "f3fde9d91b4b54da539594b84d6dff4b5fdc4c699f4460ad8793bb57101092a8", func := "cambist/cambistlaw01.FixedEach", spec := "fixedEach", apart := false, narrowed := true }
def FixedEachUptoSaid : Prop := fixedEachUptoRow.holds Try.pinned (OpenSpec.upto fixedEachSpec)

end Rows
end Go.Proofs.Ytjjkedlcmcifjaa
