/-
  No cell of these rows narrows 'for every input' (looked for: loops, veiled, ifaces, maps, wideKeys, modest, calm, conditions, laid).
  DERIVED. THE GIVEN ROWS OF THIS SEAT. 3 by the template 'for every input the law returns true; each argument reads behind the call as it read before'; 0 by the template 'total and deterministic' (their statements: YtoncmbglmebkiaaTotals.lean).
  GIVEN WITH THE SEED: the statements are not yours to turn. If you find one false, say at which input.
  Laid BY PROGRAM, IN A SANDBOX (cutbox-rows.mjs): the forced cells as the released guide's own fill.sh prints them over the translation 2a3304f691ee14f7… (all of the seat's roots in one cut). By AI agents, Wed Nov 11 2026. No macro, syntax, notation, axiom, sorry.
-/
import Derived.Test.YtoncmbglmebkiaaChecked
import GoSem.Claim
import GoSem.ClaimJoined
import GoSem.ClaimMapViews
import Derived.JoinedTies
import Derived.KernelRfl
namespace Go.Proofs.Ytoncmbglmebkiaa
/- THE CELL 'sum', in the pinned program and in every row, IS THE sha256 OF THE DUMP (.gsa) THAT YtoncmbglmebkiaaProg.lean LOADS. Nothing in Lean hashes anything: it is a label: what it is worth is what the hold of that sum in a sandbox is worth. -/
noncomputable def Try.pinned : Pinned := { name := "ytoncmbglmebkiaa", sum := "2a3304f691ee14f7fea6306521760a6488222ebfdcaea982524186d65fa486bf", checked := Try.checked }
namespace Rows
def none {H : Type} : Left H := { results := [], args := [] }

/-- 'cambistlaw18.InstancePuts': WHATEVER THE INPUT: true; the input reads as it did. -/
def instancePutsSpec : ChangeSpec := { name := "instancePuts", fn := fun _ => fun
  | [d1, d2] => { results := [.lit (.bool true)], args := [d1, d2] }
  | _ => none }
def instancePutsRow : OpenClaim := { program := "ytoncmbglmebkiaa", sum := "2a3304f691ee14f7fea6306521760a6488222ebfdcaea982524186d65fa486bf", func := "cambist/cambistlaw18.InstancePuts", spec := "instancePuts", plainKeys := false, apart := false }
def InstancePutsSaid : Prop := instancePutsRow.holds Try.pinned (OpenSpec.ofChange instancePutsSpec)

/-- ITS FALSE NEIGHBOUR: 'it returns false'. Refute it at one input. -/
def instancePutsWrong : ChangeSpec := { name := "instancePuts", fn := fun _ => fun
  | [d1, d2] => { results := [.lit (.bool false)], args := [d1, d2] }
  | _ => none }
def InstancePutsWrongFalsely : Prop := instancePutsRow.holds Try.pinned (OpenSpec.ofChange instancePutsWrong)

/-- 'cambistlaw18.InstanceMeets': WHATEVER THE INPUT: true; the input reads as it did. -/
def instanceMeetsSpec : ChangeSpec := { name := "instanceMeets", fn := fun _ => fun
  | [d1, d2, d3] => { results := [.lit (.bool true)], args := [d1, d2, d3] }
  | _ => none }
def instanceMeetsRow : OpenClaim := { program := "ytoncmbglmebkiaa", sum := "2a3304f691ee14f7fea6306521760a6488222ebfdcaea982524186d65fa486bf", func := "cambist/cambistlaw18.InstanceMeets", spec := "instanceMeets", plainKeys := false, apart := false }
def InstanceMeetsSaid : Prop := instanceMeetsRow.holds Try.pinned (OpenSpec.ofChange instanceMeetsSpec)

/-- ITS FALSE NEIGHBOUR: 'it returns false'. Refute it at one input. -/
def instanceMeetsWrong : ChangeSpec := { name := "instanceMeets", fn := fun _ => fun
  | [d1, d2, d3] => { results := [.lit (.bool false)], args := [d1, d2, d3] }
  | _ => none }
def InstanceMeetsWrongFalsely : Prop := instanceMeetsRow.holds Try.pinned (OpenSpec.ofChange instanceMeetsWrong)

/-- 'cambistlaw18.InstanceOpen': WHATEVER THE INPUT: true; the input reads as it did. -/
def instanceOpenSpec : ChangeSpec := { name := "instanceOpen", fn := fun _ => fun
  | [d1, d2] => { results := [.lit (.bool true)], args := [d1, d2] }
  | _ => none }
def instanceOpenRow : OpenClaim := { program := "ytoncmbglmebkiaa", sum := "2a3304f691ee14f7fea6306521760a6488222ebfdcaea982524186d65fa486bf", func := "cambist/cambistlaw18.InstanceOpen", spec := "instanceOpen", plainKeys := false, apart := false }
def InstanceOpenSaid : Prop := instanceOpenRow.holds Try.pinned (OpenSpec.ofChange instanceOpenSpec)

/-- ITS FALSE NEIGHBOUR: 'it returns false'. Refute it at one input. -/
def instanceOpenWrong : ChangeSpec := { name := "instanceOpen", fn := fun _ => fun
  | [d1, d2] => { results := [.lit (.bool false)], args := [d1, d2] }
  | _ => none }
def InstanceOpenWrongFalsely : Prop := instanceOpenRow.holds Try.pinned (OpenSpec.ofChange instanceOpenWrong)

/- THE SECOND FORM. 'bulk': how many values and letters a reading holds, each counted each time it is reached (what is shared counts as often as it is met; a slice's spare places count too). A statement '..UptoSaid' is the law's where the arguments, and the package variables that the reading takes, are together of bulk at most 1048576: NARROWER than '..Said'. Prove '..Said' where nothing that the law and all that it calls make is longer than what came in: it says more and counts as full. Else prove '..UptoSaid'. A law counts once. -/
mutual
def uptoBulk {H : Type} : DataW H → Nat
  | .lit (.string bytes) => bytes.length + 1
  | .lit _ => 1
  | .nil => 1
  | .ptr d => uptoBulk d + 1
  | .slice elems spare => uptoBulkAll elems + uptoBulkAll spare + 1
  | .agg parts => uptoBulkAll parts + 1
  | .iface _ d => uptoBulk d + 1
  | .map entries => uptoBulkEntries entries + 1
  | .held _ => 1
def uptoBulkAll {H : Type} : List (DataW H) → Nat
  | [] => 0
  | d :: r => uptoBulk d + uptoBulkAll r
def uptoBulkEntries {H : Type} : List (Lit × DataW H) → Nat
  | [] => 0
  | x :: r => uptoBulkEntry x + uptoBulkEntries r
def uptoBulkEntry {H : Type} : Lit × DataW H → Nat
  | (.string bytes, d) => bytes.length + uptoBulk d + 1
  | (_, d) => uptoBulk d + 1
 end
def uptoSmall : (H : Type) → List (DataW H) → Bool := fun _ ds => decide (uptoBulkAll ds ≤ 1048576)
def OpenSpec.upto (s : _root_.Go.ChangeSpec) : _root_.Go.OpenSpec := { _root_.Go.OpenSpec.ofChange s with cond := some uptoSmall }

/-- 'cambistlaw18.InstancePuts', WHERE WHAT IT READS IS OF BULK AT MOST 1048576: true; the input reads as it did. -/
def instancePutsUptoRow : OpenClaim := { program := "ytoncmbglmebkiaa", sum := "2a3304f691ee14f7fea6306521760a6488222ebfdcaea982524186d65fa486bf", func := "cambist/cambistlaw18.InstancePuts", spec := "instancePuts", plainKeys := false, apart := false, narrowed := true }
def InstancePutsUptoSaid : Prop := instancePutsUptoRow.holds Try.pinned (OpenSpec.upto instancePutsSpec)

/-- 'cambistlaw18.InstanceMeets', WHERE WHAT IT READS IS OF BULK AT MOST 1048576: true; the input reads as it did. -/
def instanceMeetsUptoRow : OpenClaim := { program := "ytoncmbglmebkiaa", sum := "2a3304f691ee14f7fea6306521760a6488222ebfdcaea982524186d65fa486bf", func := "cambist/cambistlaw18.InstanceMeets", spec := "instanceMeets", plainKeys := false, apart := false, narrowed := true }
def InstanceMeetsUptoSaid : Prop := instanceMeetsUptoRow.holds Try.pinned (OpenSpec.upto instanceMeetsSpec)

/-- 'cambistlaw18.InstanceOpen', WHERE WHAT IT READS IS OF BULK AT MOST 1048576: true; the input reads as it did. -/
def instanceOpenUptoRow : OpenClaim := { program := "ytoncmbglmebkiaa", sum := "2a3304f691ee14f7fea6306521760a6488222ebfdcaea982524186d65fa486bf", func := "cambist/cambistlaw18.InstanceOpen", spec := "instanceOpen", plainKeys := false, apart := false, narrowed := true }
def InstanceOpenUptoSaid : Prop := instanceOpenUptoRow.holds Try.pinned (OpenSpec.upto instanceOpenSpec)

end Rows
end Go.Proofs.Ytoncmbglmebkiaa
