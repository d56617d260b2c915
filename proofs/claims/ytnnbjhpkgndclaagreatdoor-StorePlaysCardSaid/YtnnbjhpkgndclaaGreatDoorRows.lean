/-
  NARROWER THAN 'FOR EVERY INPUT', by the rows' own cells (each row's printed sentence says how): StorePlays: laid · StoreBytes: laid · StoreKeeps: laid · StoreFull: laid · StoreOpens: laid.
  DERIVED. THE GIVEN ROWS OF THIS SEAT. 5 by the template 'for every input the law returns true; each argument reads behind the call as it read before'; 0 by the template 'total and deterministic' (their statements: YtnnbjhpkgndclaaGreatDoorTotals.lean).
  GIVEN WITH THE SEED: the statements are not yours to turn. If you find one false, say at which input.
  Laid BY PROGRAM, IN A SANDBOX (cutbox-rows.mjs): the forced cells as the released guide's own fill.sh prints them over the translation cf7e2ddf09a1c846… (all of the seat's roots in one cut). By AI agents, Wed Nov 11 2026. No macro, syntax, notation, axiom, sorry.
-/
import Derived.Test.YtnnbjhpkgndclaaGreatDoorChecked
import GoSem.Claim
import GoSem.ClaimJoined
import GoSem.ClaimMapViews
import Derived.JoinedTies
import Derived.KernelRfl
namespace Go.Proofs.YtnnbjhpkgndclaaGreatDoor
/- THE CELL 'sum', in the pinned program and in every row, IS THE sha256 OF THE DUMP (.gsa) THAT YtnnbjhpkgndclaaGreatDoorProg.lean LOADS. Nothing in Lean hashes anything: it is a label: what it is worth is what the hold of that sum in a sandbox is worth. -/
noncomputable def Tryz.pinned : Pinned := { name := "ytnnbjhpkgndclaagreatdoor", sum := "cf7e2ddf09a1c84646977ff637d7a0c9fb7d1274b6e3fd280519712d7c6ed4fd", checked := Tryz.checked }
namespace Rows
def none {H : Type} : Left H := { results := [], args := [] }

/- WHAT THE LISTED PACKAGE-LEVEL VARIABLES READ AS WHEN THE CALL BEGINS. Each datum BY PROGRAM (the guide's laid-datum.mjs) off the statement by which the dump's own 'gosem.cut.vars' lays the variable. In a bare row this is a premise. The card (YtnnbjhpkgndclaaGreatDoorCards.lean) ties it to the program's text. -/
def laid_cambist_command_widths {H : Type} : DataW H := .agg [.lit (.int .i64 1), .lit (.int .i64 1), .lit (.int .i64 1), .lit (.int .i64 1), .lit (.int .i64 1), .lit (.int .i64 7), .lit (.int .i64 7), .lit (.int .i64 7), .lit (.int .i64 4)]
def laid_cambist_crc_halfSums {H : Type} : DataW H := .agg [.lit (.int .u32 0), .lit (.int .u32 498536548), .lit (.int .u32 997073096), .lit (.int .u32 651767980), .lit (.int .u32 1994146192), .lit (.int .u32 1802195444), .lit (.int .u32 1303535960), .lit (.int .u32 1342533948), .lit (.int .u32 3988292384), .lit (.int .u32 4027552580), .lit (.int .u32 3604390888), .lit (.int .u32 3412177804), .lit (.int .u32 2607071920), .lit (.int .u32 2262029012), .lit (.int .u32 2685067896), .lit (.int .u32 3183342108)]
def laid_cambist_record_widths {H : Type} : DataW H := .agg [.lit (.int .i64 1), .lit (.int .i64 2), .lit (.int .i64 1), .lit (.int .i64 1), .lit (.int .i64 4), .lit (.int .i64 1), .lit (.int .i64 4), .lit (.int .i64 1)]

/-- 'cambistlaw17.StorePlays': WHATEVER THE INPUT: true; the input reads as it did. -/
def storePlaysSpec : ChangeSpec := { name := "storePlays", fn := fun _ => fun
  | [d1, d2] => { results := [.lit (.bool true)], args := [d1, d2] }
  | _ => none }
def storePlaysRow : OpenClaim := { program := "ytnnbjhpkgndclaagreatdoor", sum := "cf7e2ddf09a1c84646977ff637d7a0c9fb7d1274b6e3fd280519712d7c6ed4fd", func := "cambist/cambistlaw17.StorePlays", spec := "storePlays", inPlace := ["internal/abi.NoEscape", "slices.overlaps[cambist/api.Instance]"], unfollowed := true, recurses := true, named := ["cambist/crc.halfSums", "cambist/command.widths", "cambist/record.widths"], apart := false, laid := [("cambist/command.widths", laid_cambist_command_widths), ("cambist/crc.halfSums", laid_cambist_crc_halfSums), ("cambist/record.widths", laid_cambist_record_widths)] }
def StorePlaysSaid : Prop := storePlaysRow.holds Tryz.pinned (OpenSpec.ofChange storePlaysSpec)

/-- ITS FALSE NEIGHBOUR: 'it returns false'. Refute it at one input. -/
def storePlaysWrong : ChangeSpec := { name := "storePlays", fn := fun _ => fun
  | [d1, d2] => { results := [.lit (.bool false)], args := [d1, d2] }
  | _ => none }
def StorePlaysWrongFalsely : Prop := storePlaysRow.holds Tryz.pinned (OpenSpec.ofChange storePlaysWrong)

/-- 'cambistlaw17.StoreBytes': WHATEVER THE INPUT: true; the input reads as it did. -/
def storeBytesSpec : ChangeSpec := { name := "storeBytes", fn := fun _ => fun
  | [d1, d2, d3] => { results := [.lit (.bool true)], args := [d1, d2, d3] }
  | _ => none }
def storeBytesRow : OpenClaim := { program := "ytnnbjhpkgndclaagreatdoor", sum := "cf7e2ddf09a1c84646977ff637d7a0c9fb7d1274b6e3fd280519712d7c6ed4fd", func := "cambist/cambistlaw17.StoreBytes", spec := "storeBytes", inPlace := ["internal/abi.NoEscape", "slices.overlaps[cambist/api.Instance]"], unfollowed := true, recurses := true, named := ["cambist/crc.halfSums", "cambist/command.widths", "cambist/record.widths"], apart := false, laid := [("cambist/command.widths", laid_cambist_command_widths), ("cambist/crc.halfSums", laid_cambist_crc_halfSums), ("cambist/record.widths", laid_cambist_record_widths)] }
def StoreBytesSaid : Prop := storeBytesRow.holds Tryz.pinned (OpenSpec.ofChange storeBytesSpec)

/-- ITS FALSE NEIGHBOUR: 'it returns false'. Refute it at one input. -/
def storeBytesWrong : ChangeSpec := { name := "storeBytes", fn := fun _ => fun
  | [d1, d2, d3] => { results := [.lit (.bool false)], args := [d1, d2, d3] }
  | _ => none }
def StoreBytesWrongFalsely : Prop := storeBytesRow.holds Tryz.pinned (OpenSpec.ofChange storeBytesWrong)

/-- 'cambistlaw17.StoreKeeps': WHATEVER THE INPUT: true; the input reads as it did. -/
def storeKeepsSpec : ChangeSpec := { name := "storeKeeps", fn := fun _ => fun
  | [d1, d2] => { results := [.lit (.bool true)], args := [d1, d2] }
  | _ => none }
def storeKeepsRow : OpenClaim := { program := "ytnnbjhpkgndclaagreatdoor", sum := "cf7e2ddf09a1c84646977ff637d7a0c9fb7d1274b6e3fd280519712d7c6ed4fd", func := "cambist/cambistlaw17.StoreKeeps", spec := "storeKeeps", inPlace := ["internal/abi.NoEscape", "slices.overlaps[cambist/api.Instance]"], unfollowed := true, recurses := true, named := ["cambist/crc.halfSums", "cambist/command.widths", "cambist/record.widths"], apart := false, laid := [("cambist/command.widths", laid_cambist_command_widths), ("cambist/crc.halfSums", laid_cambist_crc_halfSums), ("cambist/record.widths", laid_cambist_record_widths)] }
def StoreKeepsSaid : Prop := storeKeepsRow.holds Tryz.pinned (OpenSpec.ofChange storeKeepsSpec)

/-- ITS FALSE NEIGHBOUR: 'it returns false'. Refute it at one input. -/
def storeKeepsWrong : ChangeSpec := { name := "storeKeeps", fn := fun _ => fun
  | [d1, d2] => { results := [.lit (.bool false)], args := [d1, d2] }
  | _ => none }
def StoreKeepsWrongFalsely : Prop := storeKeepsRow.holds Tryz.pinned (OpenSpec.ofChange storeKeepsWrong)

/-- 'cambistlaw17.StoreFull': WHATEVER THE INPUT: true; the input reads as it did. -/
def storeFullSpec : ChangeSpec := { name := "storeFull", fn := fun _ => fun
  | [d1, d2] => { results := [.lit (.bool true)], args := [d1, d2] }
  | _ => none }
def storeFullRow : OpenClaim := { program := "ytnnbjhpkgndclaagreatdoor", sum := "cf7e2ddf09a1c84646977ff637d7a0c9fb7d1274b6e3fd280519712d7c6ed4fd", func := "cambist/cambistlaw17.StoreFull", spec := "storeFull", inPlace := ["internal/abi.NoEscape", "slices.overlaps[cambist/api.Instance]"], unfollowed := true, recurses := true, named := ["cambist/crc.halfSums", "cambist/command.widths", "cambist/record.widths"], apart := false, laid := [("cambist/command.widths", laid_cambist_command_widths), ("cambist/crc.halfSums", laid_cambist_crc_halfSums), ("cambist/record.widths", laid_cambist_record_widths)] }
def StoreFullSaid : Prop := storeFullRow.holds Tryz.pinned (OpenSpec.ofChange storeFullSpec)

/-- ITS FALSE NEIGHBOUR: 'it returns false'. Refute it at one input. -/
def storeFullWrong : ChangeSpec := { name := "storeFull", fn := fun _ => fun
  | [d1, d2] => { results := [.lit (.bool false)], args := [d1, d2] }
  | _ => none }
def StoreFullWrongFalsely : Prop := storeFullRow.holds Tryz.pinned (OpenSpec.ofChange storeFullWrong)

/-- 'cambistlaw17.StoreOpens': WHATEVER THE INPUT: true; the input reads as it did. -/
def storeOpensSpec : ChangeSpec := { name := "storeOpens", fn := fun _ => fun
  | [d1, d2] => { results := [.lit (.bool true)], args := [d1, d2] }
  | _ => none }
def storeOpensRow : OpenClaim := { program := "ytnnbjhpkgndclaagreatdoor", sum := "cf7e2ddf09a1c84646977ff637d7a0c9fb7d1274b6e3fd280519712d7c6ed4fd", func := "cambist/cambistlaw17.StoreOpens", spec := "storeOpens", inPlace := ["internal/abi.NoEscape", "slices.overlaps[cambist/api.Instance]"], unfollowed := true, recurses := true, named := ["cambist/crc.halfSums", "cambist/command.widths", "cambist/record.widths"], apart := false, laid := [("cambist/command.widths", laid_cambist_command_widths), ("cambist/crc.halfSums", laid_cambist_crc_halfSums), ("cambist/record.widths", laid_cambist_record_widths)] }
def StoreOpensSaid : Prop := storeOpensRow.holds Tryz.pinned (OpenSpec.ofChange storeOpensSpec)

/-- ITS FALSE NEIGHBOUR: 'it returns false'. Refute it at one input. -/
def storeOpensWrong : ChangeSpec := { name := "storeOpens", fn := fun _ => fun
  | [d1, d2] => { results := [.lit (.bool false)], args := [d1, d2] }
  | _ => none }
def StoreOpensWrongFalsely : Prop := storeOpensRow.holds Tryz.pinned (OpenSpec.ofChange storeOpensWrong)

/- THE SECOND FORM. 'bulk': how many values and letters a reading holds, each counted each time it is reached (what is shared counts as often as it is met; a slice's spare places count too). A statement '..UptoSaid' is the law's where the arguments, and the package variables that the reading takes, are together of bulk at most 1048576: NARROWER than '..Said'. Prove '..Said' where nothing that the law and all that it calls make is longer than what came in: it says more and counts as full. Else prove '..UptoSaid'. A law counts once. -/
mutual
def uptoBulk {H : Type} : DataW H → Nat
  | .lit (.string bytes) => bytes.length + 1
  | .lit _ => 1
  | .nil => 1
  | .ptr d => uptoBulk d + 1
  | .slice elems spare => uptoBulkAll elems + uptoBulkAll spare + 1
  | .agg parts => uptoBulkAll parts + 1
  | .iface _ d => uptoBulk d + 1
  | .map entries => uptoBulkEntries entries + 1
  | .held _ => 1
def uptoBulkAll {H : Type} : List (DataW H) → Nat
  | [] => 0
  | d :: r => uptoBulk d + uptoBulkAll r
def uptoBulkEntries {H : Type} : List (Lit × DataW H) → Nat
  | [] => 0
  | x :: r => uptoBulkEntry x + uptoBulkEntries r
def uptoBulkEntry {H : Type} : Lit × DataW H → Nat
  | (.string bytes, d) => bytes.length + uptoBulk d + 1
  | (_, d) => uptoBulk d + 1
 end
def uptoSmall : (H : Type) → List (DataW H) → Bool := fun _ ds => decide (uptoBulkAll ds ≤ 1048576)
def OpenSpec.upto (s : _root_.Go.ChangeSpec) : _root_.Go.OpenSpec := { _root_.Go.OpenSpec.ofChange s with cond := some uptoSmall }

/-- 'cambistlaw17.StorePlays', WHERE WHAT IT READS IS OF BULK AT MOST 1048576: true; the input reads as it did. -/
def storePlaysUptoRow : OpenClaim := { program := "ytnnbjhpkgndclaagreatdoor", sum := "cf7e2ddf09a1c84646977ff637d7a0c9fb7d1274b6e3fd280519712d7c6ed4fd", func := "cambist/cambistlaw17.StorePlays", spec := "storePlays", inPlace := ["internal/abi.NoEscape", "slices.overlaps[cambist/api.Instance]"], unfollowed := true, recurses := true, named := ["cambist/crc.halfSums", "cambist/command.widths", "cambist/record.widths"], apart := false, laid := [("cambist/command.widths", laid_cambist_command_widths), ("cambist/crc.halfSums", laid_cambist_crc_halfSums), ("cambist/record.widths", laid_cambist_record_widths)], narrowed := true }
def StorePlaysUptoSaid : Prop := storePlaysUptoRow.holds Tryz.pinned (OpenSpec.upto storePlaysSpec)

/-- 'cambistlaw17.StoreBytes', WHERE WHAT IT READS IS OF BULK AT MOST 1048576: true; the input reads as it did. -/
def storeBytesUptoRow : OpenClaim := { program := "ytnnbjhpkgndclaagreatdoor", sum := "cf7e2ddf09a1c84646977ff637d7a0c9fb7d1274b6e3fd280519712d7c6ed4fd", func := "cambist/cambistlaw17.StoreBytes", spec := "storeBytes", inPlace := ["internal/abi.NoEscape", "slices.overlaps[cambist/api.Instance]"], unfollowed := true, recurses := true, named := ["cambist/crc.halfSums", "cambist/command.widths", "cambist/record.widths"], apart := false, laid := [("cambist/command.widths", laid_cambist_command_widths), ("cambist/crc.halfSums", laid_cambist_crc_halfSums), ("cambist/record.widths", laid_cambist_record_widths)], narrowed := true }
def StoreBytesUptoSaid : Prop := storeBytesUptoRow.holds Tryz.pinned (OpenSpec.upto storeBytesSpec)

/-- 'cambistlaw17.StoreKeeps', WHERE WHAT IT READS IS OF BULK AT MOST 1048576: true; the input reads as it did. -/
def storeKeepsUptoRow : OpenClaim := { program := "ytnnbjhpkgndclaagreatdoor", sum := "cf7e2ddf09a1c84646977ff637d7a0c9fb7d1274b6e3fd280519712d7c6ed4fd", func := "cambist/cambistlaw17.StoreKeeps", spec := "storeKeeps", inPlace := ["internal/abi.NoEscape", "slices.overlaps[cambist/api.Instance]"], unfollowed := true, recurses := true, named := ["cambist/crc.halfSums", "cambist/command.widths", "cambist/record.widths"], apart := false, laid := [("cambist/command.widths", laid_cambist_command_widths), ("cambist/crc.halfSums", laid_cambist_crc_halfSums), ("cambist/record.widths", laid_cambist_record_widths)], narrowed := true }
def StoreKeepsUptoSaid : Prop := storeKeepsUptoRow.holds Tryz.pinned (OpenSpec.upto storeKeepsSpec)

/-- 'cambistlaw17.StoreFull', WHERE WHAT IT READS IS OF BULK AT MOST 1048576: true; the input reads as it did. -/
def storeFullUptoRow : OpenClaim := { program := "ytnnbjhpkgndclaagreatdoor", sum := "cf7e2ddf09a1c84646977ff637d7a0c9fb7d1274b6e3fd280519712d7c6ed4fd", func := "cambist/cambistlaw17.StoreFull", spec := "storeFull", inPlace := ["internal/abi.NoEscape", "slices.overlaps[cambist/api.Instance]"], unfollowed := true, recurses := true, named := ["cambist/crc.halfSums", "cambist/command.widths", "cambist/record.widths"], apart := false, laid := [("cambist/command.widths", laid_cambist_command_widths), ("cambist/crc.halfSums", laid_cambist_crc_halfSums), ("cambist/record.widths", laid_cambist_record_widths)], narrowed := true }
def StoreFullUptoSaid : Prop := storeFullUptoRow.holds Tryz.pinned (OpenSpec.upto storeFullSpec)

/-- 'cambistlaw17.StoreOpens', WHERE WHAT IT READS IS OF BULK AT MOST 1048576: true; the input reads as it did. -/
def storeOpensUptoRow : OpenClaim := { program := "ytnnbjhpkgndclaagreatdoor", sum := "cf7e2ddf09a1c84646977ff637d7a0c9fb7d1274b6e3fd280519712d7c6ed4fd", func := "cambist/cambistlaw17.StoreOpens", spec := "storeOpens", inPlace := ["internal/abi.NoEscape", "slices.overlaps[cambist/api.Instance]"], unfollowed := true, recurses := true, named := ["cambist/crc.halfSums", "cambist/command.widths", "cambist/record.widths"], apart := false, laid := [("cambist/command.widths", laid_cambist_command_widths), ("cambist/crc.halfSums", laid_cambist_crc_halfSums), ("cambist/record.widths", laid_cambist_record_widths)], narrowed := true }
def StoreOpensUptoSaid : Prop := storeOpensUptoRow.holds Tryz.pinned (OpenSpec.upto storeOpensSpec)

end Rows
end Go.Proofs.YtnnbjhpkgndclaaGreatDoor
