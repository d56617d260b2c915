/-
  NARROWER THAN 'FOR EVERY INPUT', by the rows' own cells (each row's printed sentence says how): RecordWrites: laid · RecordReads: laid · RecordBack: laid · RecordShort: laid.
  DERIVED. THE GIVEN ROWS OF THIS SEAT. 4 by the template 'for every input the law returns true; each argument reads behind the call as it read before'; 0 by the template 'total and deterministic' (their statements: YtngnkjbcnmcngaaDoorTotals.lean).
  GIVEN WITH THE SEED: the statements are not yours to turn. If you find one false, say at which input.
  Laid BY PROGRAM, IN A SANDBOX (cutbox-rows.mjs): the forced cells as the released guide's own fill.sh prints them over the translation 694bdf2867005217… (all of the seat's roots in one cut). By AI agents, Wed Nov 11 2026. No macro, syntax, notation, axiom, sorry.
-/
import Derived.Test.YtngnkjbcnmcngaaDoorChecked
import GoSem.Claim
import GoSem.ClaimJoined
import GoSem.ClaimMapViews
import Derived.JoinedTies
import Derived.KernelRfl
namespace Go.Proofs.YtngnkjbcnmcngaaDoor
/- THE CELL 'sum', in the pinned program and in every row, IS THE sha256 OF THE DUMP (.gsa) THAT YtngnkjbcnmcngaaDoorProg.lean LOADS. Nothing in Lean hashes anything: it is a label: what it is worth is what the hold of that sum in a sandbox is worth. -/
noncomputable def Tryd.pinned : Pinned := { name := "ytngnkjbcnmcngaadoor", sum := "694bdf28670052176a92aed219df799ce637fa20dac9d4f5e43b06514ef13713", checked := Tryd.checked }
namespace Rows
def none {H : Type} : Left H := { results := [], args := [] }

/- WHAT THE LISTED PACKAGE-LEVEL VARIABLES READ AS WHEN THE CALL BEGINS. Each datum BY PROGRAM (the guide's laid-datum.mjs) off the statement by which the dump's own 'gosem.cut.vars' lays the variable. In a bare row this is a premise. The card (YtngnkjbcnmcngaaDoorCards.lean) ties it to the program's text. -/
def laid_cambist_command_widths {H : Type} : DataW H := .agg [.lit (.int .i64 1), .lit (.int .i64 1), .lit (.int .i64 1), .lit (.int .i64 1), .lit (.int .i64 1), .lit (.int .i64 7), .lit (.int .i64 7), .lit (.int .i64 7), .lit (.int .i64 4)]
def laid_cambist_record_widths {H : Type} : DataW H := .agg [.lit (.int .i64 1), .lit (.int .i64 2), .lit (.int .i64 1), .lit (.int .i64 1), .lit (.int .i64 4), .lit (.int .i64 1), .lit (.int .i64 4), .lit (.int .i64 1)]

/-- 'cambistlaw16.RecordWrites': WHATEVER THE INPUT: true; the input reads as it did. -/
def recordWritesSpec : ChangeSpec := { name := "recordWrites", fn := fun _ => fun
  | [d1, d2] => { results := [.lit (.bool true)], args := [d1, d2] }
  | _ => none }
def recordWritesRow : OpenClaim := { program := "ytngnkjbcnmcngaadoor", sum := "694bdf28670052176a92aed219df799ce637fa20dac9d4f5e43b06514ef13713", func := "cambist/cambistlaw16.RecordWrites", spec := "recordWrites", inPlace := ["internal/abi.NoEscape"], named := ["cambist/record.widths", "cambist/command.widths"], apart := false, laid := [("cambist/command.widths", laid_cambist_command_widths), ("cambist/record.widths", laid_cambist_record_widths)] }
def RecordWritesSaid : Prop := recordWritesRow.holds Tryd.pinned (OpenSpec.ofChange recordWritesSpec)

/-- ITS FALSE NEIGHBOUR: 'it returns false'. Refute it at one input. -/
def recordWritesWrong : ChangeSpec := { name := "recordWrites", fn := fun _ => fun
  | [d1, d2] => { results := [.lit (.bool false)], args := [d1, d2] }
  | _ => none }
def RecordWritesWrongFalsely : Prop := recordWritesRow.holds Tryd.pinned (OpenSpec.ofChange recordWritesWrong)

/-- 'cambistlaw16.RecordReads': WHATEVER THE INPUT: true; the input reads as it did. -/
def recordReadsSpec : ChangeSpec := { name := "recordReads", fn := fun _ => fun
  | [d1, d2, d3] => { results := [.lit (.bool true)], args := [d1, d2, d3] }
  | _ => none }
def recordReadsRow : OpenClaim := { program := "ytngnkjbcnmcngaadoor", sum := "694bdf28670052176a92aed219df799ce637fa20dac9d4f5e43b06514ef13713", func := "cambist/cambistlaw16.RecordReads", spec := "recordReads", inPlace := ["internal/abi.NoEscape"], named := ["cambist/record.widths", "cambist/command.widths"], apart := false, laid := [("cambist/command.widths", laid_cambist_command_widths), ("cambist/record.widths", laid_cambist_record_widths)] }
def RecordReadsSaid : Prop := recordReadsRow.holds Tryd.pinned (OpenSpec.ofChange recordReadsSpec)

/-- ITS FALSE NEIGHBOUR: 'it returns false'. Refute it at one input. -/
def recordReadsWrong : ChangeSpec := { name := "recordReads", fn := fun _ => fun
  | [d1, d2, d3] => { results := [.lit (.bool false)], args := [d1, d2, d3] }
  | _ => none }
def RecordReadsWrongFalsely : Prop := recordReadsRow.holds Tryd.pinned (OpenSpec.ofChange recordReadsWrong)

/-- 'cambistlaw16.RecordBack': WHATEVER THE INPUT: true; the input reads as it did. -/
def recordBackSpec : ChangeSpec := { name := "recordBack", fn := fun _ => fun
  | [d1, d2, d3] => { results := [.lit (.bool true)], args := [d1, d2, d3] }
  | _ => none }
def recordBackRow : OpenClaim := { program := "ytngnkjbcnmcngaadoor", sum := "694bdf28670052176a92aed219df799ce637fa20dac9d4f5e43b06514ef13713", func := "cambist/cambistlaw16.RecordBack", spec := "recordBack", inPlace := ["internal/abi.NoEscape"], named := ["cambist/record.widths", "cambist/command.widths"], apart := false, laid := [("cambist/command.widths", laid_cambist_command_widths), ("cambist/record.widths", laid_cambist_record_widths)] }
def RecordBackSaid : Prop := recordBackRow.holds Tryd.pinned (OpenSpec.ofChange recordBackSpec)

/-- ITS FALSE NEIGHBOUR: 'it returns false'. Refute it at one input. -/
def recordBackWrong : ChangeSpec := { name := "recordBack", fn := fun _ => fun
  | [d1, d2, d3] => { results := [.lit (.bool false)], args := [d1, d2, d3] }
  | _ => none }
def RecordBackWrongFalsely : Prop := recordBackRow.holds Tryd.pinned (OpenSpec.ofChange recordBackWrong)

/-- 'cambistlaw16.RecordShort': WHATEVER THE INPUT: true; the input reads as it did. -/
def recordShortSpec : ChangeSpec := { name := "recordShort", fn := fun _ => fun
  | [d1, d2, d3] => { results := [.lit (.bool true)], args := [d1, d2, d3] }
  | _ => none }
def recordShortRow : OpenClaim := { program := "ytngnkjbcnmcngaadoor", sum := "694bdf28670052176a92aed219df799ce637fa20dac9d4f5e43b06514ef13713", func := "cambist/cambistlaw16.RecordShort", spec := "recordShort", inPlace := ["internal/abi.NoEscape"], named := ["cambist/record.widths", "cambist/command.widths"], apart := false, laid := [("cambist/command.widths", laid_cambist_command_widths), ("cambist/record.widths", laid_cambist_record_widths)] }
def RecordShortSaid : Prop := recordShortRow.holds Tryd.pinned (OpenSpec.ofChange recordShortSpec)

/-- ITS FALSE NEIGHBOUR: 'it returns false'. Refute it at one input. -/
def recordShortWrong : ChangeSpec := { name := "recordShort", fn := fun _ => fun
  | [d1, d2, d3] => { results := [.lit (.bool false)], args := [d1, d2, d3] }
  | _ => none }
def RecordShortWrongFalsely : Prop := recordShortRow.holds Tryd.pinned (OpenSpec.ofChange recordShortWrong)

/- THE SECOND FORM. 'bulk': how many values and letters a reading holds, each counted each time it is reached (what is shared counts as often as it is met; a slice's spare places count too). A statement '..UptoSaid' is the law's where the arguments, and the package variables that the reading takes, are together of bulk at most 1048576: NARROWER than '..Said'. Prove '..Said' where nothing that the law and all that it calls make is longer than what came in: it says more and counts as full. Else prove '..UptoSaid'. A law counts once. -/
mutual
def uptoBulk {H : Type} : DataW H → Nat
  | .lit (.string bytes) => bytes.length + 1
  | .lit _ => 1
  | .nil => 1
  | .ptr d => uptoBulk d + 1
  | .slice elems spare => uptoBulkAll elems + uptoBulkAll spare + 1
  | .agg parts => uptoBulkAll parts + 1
  | .iface _ d => uptoBulk d + 1
  | .map entries => uptoBulkEntries entries + 1
  | .held _ => 1
def uptoBulkAll {H : Type} : List (DataW H) → Nat
  | [] => 0
  | d :: r => uptoBulk d + uptoBulkAll r
def uptoBulkEntries {H : Type} : List (Lit × DataW H) → Nat
  | [] => 0
  | x :: r => uptoBulkEntry x + uptoBulkEntries r
def uptoBulkEntry {H : Type} : Lit × DataW H → Nat
  | (.string bytes, d) => bytes.length + uptoBulk d + 1
  | (_, d) => uptoBulk d + 1
 end
def uptoSmall : (H : Type) → List (DataW H) → Bool := fun _ ds => decide (uptoBulkAll ds ≤ 1048576)
def OpenSpec.upto (s : _root_.Go.ChangeSpec) : _root_.Go.OpenSpec := { _root_.Go.OpenSpec.ofChange s with cond := some uptoSmall }

/-- 'cambistlaw16.RecordWrites', WHERE WHAT IT READS IS OF BULK AT MOST 1048576: true; the input reads as it did. -/
def recordWritesUptoRow : OpenClaim := { program := "ytngnkjbcnmcngaadoor", sum := "694bdf28670052176a92aed219df799ce637fa20dac9d4f5e43b06514ef13713", func := "cambist/cambistlaw16.RecordWrites", spec := "recordWrites", inPlace := ["internal/abi.NoEscape"], named := ["cambist/record.widths", "cambist/command.widths"], apart := false, laid := [("cambist/command.widths", laid_cambist_command_widths), ("cambist/record.widths", laid_cambist_record_widths)], narrowed := true }
def RecordWritesUptoSaid : Prop := recordWritesUptoRow.holds Tryd.pinned (OpenSpec.upto recordWritesSpec)

/-- 'cambistlaw16.RecordReads', WHERE WHAT IT READS IS OF BULK AT MOST 1048576: true; the input reads as it did. -/
def recordReadsUptoRow : OpenClaim := { program := "ytngnkjbcnmcngaadoor", sum := "694bdf28670052176a92aed219df799ce637fa20dac9d4f5e43b06514ef13713", func := "cambist/cambistlaw16.RecordReads", spec := "recordReads", inPlace := ["internal/abi.NoEscape"], named := ["cambist/record.widths", "cambist/command.widths"], apart := false, laid := [("cambist/command.widths", laid_cambist_command_widths), ("cambist/record.widths", laid_cambist_record_widths)], narrowed := true }
def RecordReadsUptoSaid : Prop := recordReadsUptoRow.holds Tryd.pinned (OpenSpec.upto recordReadsSpec)

/-- 'cambistlaw16.RecordBack', WHERE WHAT IT READS IS OF BULK AT MOST 1048576: true; the input reads as it did. -/
def recordBackUptoRow : OpenClaim := { program := "ytngnkjbcnmcngaadoor", sum := "694bdf28670052176a92aed219df799ce637fa20dac9d4f5e43b06514ef13713", func := "cambist/cambistlaw16.RecordBack", spec := "recordBack", inPlace := ["internal/abi.NoEscape"], named := ["cambist/record.widths", "cambist/command.widths"], apart := false, laid := [("cambist/command.widths", laid_cambist_command_widths), ("cambist/record.widths", laid_cambist_record_widths)], narrowed := true }
def RecordBackUptoSaid : Prop := recordBackUptoRow.holds Tryd.pinned (OpenSpec.upto recordBackSpec)

/-- 'cambistlaw16.RecordShort', WHERE WHAT IT READS IS OF BULK AT MOST 1048576: true; the input reads as it did. -/
def recordShortUptoRow : OpenClaim := { program := "ytngnkjbcnmcngaadoor", sum := "694bdf28670052176a92aed219df799ce637fa20dac9d4f5e43b06514ef13713", func := "cambist/cambistlaw16.RecordShort", spec := "recordShort", inPlace := ["internal/abi.NoEscape"], named := ["cambist/record.widths", "cambist/command.widths"], apart := false, laid := [("cambist/command.widths", laid_cambist_command_widths), ("cambist/record.widths", laid_cambist_record_widths)], narrowed := true }
def RecordShortUptoSaid : Prop := recordShortUptoRow.holds Tryd.pinned (OpenSpec.upto recordShortSpec)

end Rows
end Go.Proofs.YtngnkjbcnmcngaaDoor
