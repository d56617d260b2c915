/-
  NARROWER THAN 'FOR EVERY INPUT', by the rows' own cells (each row's printed sentence says how): CommandAsks: laid · CommandBytes: laid · CommandBack: laid · CommandMeets: laid.
  DERIVED. THE GIVEN ROWS OF THIS SEAT. 4 by the template 'for every input the law returns true; each argument reads behind the call as it read before'; 0 by the template 'total and deterministic' (their statements: YtinopnmacfkiiaaDoorTotals.lean).
  GIVEN WITH THE SEED: the statements are not yours to turn. If you find one false, say at which input.
  Laid BY PROGRAM, IN A SANDBOX (cutbox-rows.mjs): the forced cells as the released guide's own fill.sh prints them over the translation 7f32f4b2e350e480… (all of the seat's roots in one cut). By AI agents, Wed Nov 11 2026. No macro, syntax, notation, axiom, sorry.
-/
import Derived.Test.YtinopnmacfkiiaaDoorChecked
import GoSem.Claim
import GoSem.ClaimJoined
import GoSem.ClaimMapViews
import Derived.JoinedTies
import Derived.KernelRfl
namespace Go.Proofs.YtinopnmacfkiiaaDoor
/- THE CELL 'sum', in the pinned program and in every row, IS THE sha256 OF THE DUMP (.gsa) THAT YtinopnmacfkiiaaDoorProg.lean LOADS. Nothing in Lean hashes anything: it is a label: what it is worth is what the hold of that sum in a sandbox is worth. -/
noncomputable def Tryd.pinned : Pinned := { name := "ytinopnmacfkiiaadoor", sum := "7f32f4b2e350e480122ae6ca89aad97352a57f2c2a8a530f76b9b61e08742b1d", checked := Tryd.checked }
namespace Rows
def none {H : Type} : Left H := { results := [], args := [] }

/- WHAT THE LISTED PACKAGE-LEVEL VARIABLES READ AS WHEN THE CALL BEGINS. Each datum BY PROGRAM (the guide's laid-datum.mjs) off the statement by which the dump's own 'gosem.cut.vars' lays the variable. In a bare row this is a premise. The card (YtinopnmacfkiiaaDoorCards.lean) ties it to the program's text. -/
def laid_cambist_command_widths {H : Type} : DataW H := .agg [.lit (.int .i64 1), .lit (.int .i64 1), .lit (.int .i64 1), .lit (.int .i64 1), .lit (.int .i64 1), .lit (.int .i64 7), .lit (.int .i64 7), .lit (.int .i64 7), .lit (.int .i64 4)]

/-- 'cambistlaw06.CommandAsks': WHATEVER THE INPUT: true; the input reads as it did. -/
def commandAsksSpec : ChangeSpec := { name := "commandAsks", fn := fun _ => fun
  | [d1, d2] => { results := [.lit (.bool true)], args := [d1, d2] }
  | _ => none }
def commandAsksRow : OpenClaim := { program := "ytinopnmacfkiiaadoor", sum := "7f32f4b2e350e480122ae6ca89aad97352a57f2c2a8a530f76b9b61e08742b1d", func := "cambist/cambistlaw06.CommandAsks", spec := "commandAsks", inPlace := ["internal/abi.NoEscape"], named := ["cambist/command.widths"], apart := false, laid := [("cambist/command.widths", laid_cambist_command_widths)] }
def CommandAsksSaid : Prop := commandAsksRow.holds Tryd.pinned (OpenSpec.ofChange commandAsksSpec)

/-- ITS FALSE NEIGHBOUR: 'it returns false'. Refute it at one input. -/
def commandAsksWrong : ChangeSpec := { name := "commandAsks", fn := fun _ => fun
  | [d1, d2] => { results := [.lit (.bool false)], args := [d1, d2] }
  | _ => none }
def CommandAsksWrongFalsely : Prop := commandAsksRow.holds Tryd.pinned (OpenSpec.ofChange commandAsksWrong)

/-- 'cambistlaw06.CommandBytes': WHATEVER THE INPUT: true; the input reads as it did. -/
def commandBytesSpec : ChangeSpec := { name := "commandBytes", fn := fun _ => fun
  | [d1, d2, d3] => { results := [.lit (.bool true)], args := [d1, d2, d3] }
  | _ => none }
def commandBytesRow : OpenClaim := { program := "ytinopnmacfkiiaadoor", sum := "7f32f4b2e350e480122ae6ca89aad97352a57f2c2a8a530f76b9b61e08742b1d", func := "cambist/cambistlaw06.CommandBytes", spec := "commandBytes", inPlace := ["internal/abi.NoEscape"], named := ["cambist/command.widths"], apart := false, laid := [("cambist/command.widths", laid_cambist_command_widths)] }
def CommandBytesSaid : Prop := commandBytesRow.holds Tryd.pinned (OpenSpec.ofChange commandBytesSpec)

/-- ITS FALSE NEIGHBOUR: 'it returns false'. Refute it at one input. -/
def commandBytesWrong : ChangeSpec := { name := "commandBytes", fn := fun _ => fun
  | [d1, d2, d3] => { results := [.lit (.bool false)], args := [d1, d2, d3] }
  | _ => none }
def CommandBytesWrongFalsely : Prop := commandBytesRow.holds Tryd.pinned (OpenSpec.ofChange commandBytesWrong)

/-- 'cambistlaw06.CommandBack': WHATEVER THE INPUT: true; the input reads as it did. -/
def commandBackSpec : ChangeSpec := { name := "commandBack", fn := fun _ => fun
  | [d1, d2, d3] => { results := [.lit (.bool true)], args := [d1, d2, d3] }
  | _ => none }
def commandBackRow : OpenClaim := { program := "ytinopnmacfkiiaadoor", sum := "7f32f4b2e350e480122ae6ca89aad97352a57f2c2a8a530f76b9b61e08742b1d", func := "cambist/cambistlaw06.CommandBack", spec := "commandBack", inPlace := ["internal/abi.NoEscape"], named := ["cambist/command.widths"], apart := false, laid := [("cambist/command.widths", laid_cambist_command_widths)] }
def CommandBackSaid : Prop := commandBackRow.holds Tryd.pinned (OpenSpec.ofChange commandBackSpec)

/-- ITS FALSE NEIGHBOUR: 'it returns false'. Refute it at one input. -/
def commandBackWrong : ChangeSpec := { name := "commandBack", fn := fun _ => fun
  | [d1, d2, d3] => { results := [.lit (.bool false)], args := [d1, d2, d3] }
  | _ => none }
def CommandBackWrongFalsely : Prop := commandBackRow.holds Tryd.pinned (OpenSpec.ofChange commandBackWrong)

/-- 'cambistlaw06.CommandMeets': WHATEVER THE INPUT: true; the input reads as it did. -/
def commandMeetsSpec : ChangeSpec := { name := "commandMeets", fn := fun _ => fun
  | [d1, d2] => { results := [.lit (.bool true)], args := [d1, d2] }
  | _ => none }
def commandMeetsRow : OpenClaim := { program := "ytinopnmacfkiiaadoor", sum := "7f32f4b2e350e480122ae6ca89aad97352a57f2c2a8a530f76b9b61e08742b1d", func := "cambist/cambistlaw06.CommandMeets", spec := "commandMeets", inPlace := ["internal/abi.NoEscape"], named := ["cambist/command.widths"], apart := false, laid := [("cambist/command.widths", laid_cambist_command_widths)] }
def CommandMeetsSaid : Prop := commandMeetsRow.holds Tryd.pinned (OpenSpec.ofChange commandMeetsSpec)

/-- ITS FALSE NEIGHBOUR: 'it returns false'. Refute it at one input. -/
def commandMeetsWrong : ChangeSpec := { name := "commandMeets", fn := fun _ => fun
  | [d1, d2] => { results := [.lit (.bool false)], args := [d1, d2] }
  | _ => none }
def CommandMeetsWrongFalsely : Prop := commandMeetsRow.holds Tryd.pinned (OpenSpec.ofChange commandMeetsWrong)

/- THE SECOND FORM. 'bulk': how many values and letters a reading holds, each counted each time it is reached (what is shared counts as often as it is met; a slice's spare places count too). A statement '..UptoSaid' is the law's where the arguments, and the package variables that the reading takes, are together of bulk at most 1048576: NARROWER than '..Said'. Prove '..Said' where nothing that the law and all that it calls make is longer than what came in: it says more and counts as full. Else prove '..UptoSaid'. A law counts once. -/
mutual
def uptoBulk {H : Type} : DataW H → Nat
  | .lit (.string bytes) => bytes.length + 1
  | .lit _ => 1
  | .nil => 1
  | .ptr d => uptoBulk d + 1
  | .slice elems spare => uptoBulkAll elems + uptoBulkAll spare + 1
  | .agg parts => uptoBulkAll parts + 1
  | .iface _ d => uptoBulk d + 1
  | .map entries => uptoBulkEntries entries + 1
  | .held _ => 1
def uptoBulkAll {H : Type} : List (DataW H) → Nat
  | [] => 0
  | d :: r => uptoBulk d + uptoBulkAll r
def uptoBulkEntries {H : Type} : List (Lit × DataW H) → Nat
  | [] => 0
  | x :: r => uptoBulkEntry x + uptoBulkEntries r
def uptoBulkEntry {H : Type} : Lit × DataW H → Nat
  | (.string bytes, d) => bytes.length + uptoBulk d + 1
  | (_, d) => uptoBulk d + 1
 end
def uptoSmall : (H : Type) → List (DataW H) → Bool := fun _ ds => decide (uptoBulkAll ds ≤ 1048576)
def OpenSpec.upto (s : _root_.Go.ChangeSpec) : _root_.Go.OpenSpec := { _root_.Go.OpenSpec.ofChange s with cond := some uptoSmall }

/-- 'cambistlaw06.CommandAsks', WHERE WHAT IT READS IS OF BULK AT MOST 1048576: true; the input reads as it did. -/
def commandAsksUptoRow : OpenClaim := { program := "ytinopnmacfkiiaadoor", sum := "7f32f4b2e350e480122ae6ca89aad97352a57f2c2a8a530f76b9b61e08742b1d", func := "cambist/cambistlaw06.CommandAsks", spec := "commandAsks", inPlace := ["internal/abi.NoEscape"], named := ["cambist/command.widths"], apart := false, laid := [("cambist/command.widths", laid_cambist_command_widths)], narrowed := true }
def CommandAsksUptoSaid : Prop := commandAsksUptoRow.holds Tryd.pinned (OpenSpec.upto commandAsksSpec)

/-- 'cambistlaw06.CommandBytes', WHERE WHAT IT READS IS OF BULK AT MOST 1048576: true; the input reads as it did. -/
def commandBytesUptoRow : OpenClaim := { program := "ytinopnmacfkiiaadoor", sum := "7f32f4b2e350e480122ae6ca89aad97352a57f2c2a8a530f76b9b61e08742b1d", func := "cambist/cambistlaw06.CommandBytes", spec := "commandBytes", inPlace := ["internal/abi.NoEscape"], named := ["cambist/command.widths"], apart := false, laid := [("cambist/command.widths", laid_cambist_command_widths)], narrowed := true }
def CommandBytesUptoSaid : Prop := commandBytesUptoRow.holds Tryd.pinned (OpenSpec.upto commandBytesSpec)

/-- 'cambistlaw06.CommandBack', WHERE WHAT IT READS IS OF BULK AT MOST 1048576: true; the input reads as it did. -/
def commandBackUptoRow : OpenClaim := { program := "ytinopnmacfkiiaadoor", sum := "7f32f4b2e350e480122ae6ca89aad97352a57f2c2a8a530f76b9b61e08742b1d", func := "cambist/cambistlaw06.CommandBack", spec := "commandBack", inPlace := ["internal/abi.NoEscape"], named := ["cambist/command.widths"], apart := false, laid := [("cambist/command.widths", laid_cambist_command_widths)], narrowed := true }
def CommandBackUptoSaid : Prop := commandBackUptoRow.holds Tryd.pinned (OpenSpec.upto commandBackSpec)

/-- 'cambistlaw06.CommandMeets', WHERE WHAT IT READS IS OF BULK AT MOST 1048576: true; the input reads as it did. -/
def commandMeetsUptoRow : OpenClaim := { program := "ytinopnmacfkiiaadoor", sum := "7f32f4b2e350e480122ae6ca89aad97352a57f2c2a8a530f76b9b61e08742b1d", func := "cambist/cambistlaw06.CommandMeets", spec := "commandMeets", inPlace := ["internal/abi.NoEscape"], named := ["cambist/command.widths"], apart := false, laid := [("cambist/command.widths", laid_cambist_command_widths)], narrowed := true }
def CommandMeetsUptoSaid : Prop := commandMeetsUptoRow.holds Tryd.pinned (OpenSpec.upto commandMeetsSpec)

end Rows
end Go.Proofs.YtinopnmacfkiiaaDoor
