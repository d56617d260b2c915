/-
  NARROWER THAN 'FOR EVERY INPUT', by the rows' own cells (each row's printed sentence says how): WalScans: laid · WalLays: laid · WalBack: laid · WalJoins: laid.
  DERIVED. THE GIVEN ROWS OF THIS SEAT. 4 by the template 'for every input the law returns true; each argument reads behind the call as it read before'; 0 by the template 'total and deterministic' (their statements: YtodlibpibopnoaaDoorTotals.lean).
  GIVEN WITH THE SEED: the statements are not yours to turn. If you find one false, say at which input.
  Laid BY PROGRAM, IN A SANDBOX (cutbox-rows.mjs): the forced cells as the released guide's own fill.sh prints them over the translation 9365c107e5bd64ee… (all of the seat's roots in one cut). By AI agents, Wed Nov 11 2026. No macro, syntax, notation, axiom, sorry.
-/
import Derived.Test.YtodlibpibopnoaaDoorChecked
import GoSem.Claim
import GoSem.ClaimJoined
import GoSem.ClaimMapViews
import Derived.JoinedTies
import Derived.KernelRfl
namespace Go.Proofs.YtodlibpibopnoaaDoor
/- THE CELL 'sum', in the pinned program and in every row, IS THE sha256 OF THE DUMP (.gsa) THAT YtodlibpibopnoaaDoorProg.lean LOADS. Nothing in Lean hashes anything: it is a label: what it is worth is what the hold of that sum in a sandbox is worth. -/
noncomputable def Tryd.pinned : Pinned := { name := "ytodlibpibopnoaadoor", sum := "9365c107e5bd64ee38bbdc08bd5d09d9a6e929a5d4ad9d388f38c417d8871b8d", checked := Tryd.checked }
namespace Rows
def none {H : Type} : Left H := { results := [], args := [] }

/- WHAT THE LISTED PACKAGE-LEVEL VARIABLES READ AS WHEN THE CALL BEGINS. Each datum BY PROGRAM (the guide's laid-datum.mjs) off the statement by which the dump's own 'gosem.cut.vars' lays the variable. In a bare row this is a premise. The card (YtodlibpibopnoaaDoorCards.lean) ties it to the program's text. -/
def laid_cambist_crc_halfSums {H : Type} : DataW H := .agg [.lit (.int .u32 0), .lit (.int .u32 498536548), .lit (.int .u32 997073096), .lit (.int .u32 651767980), .lit (.int .u32 1994146192), .lit (.int .u32 1802195444), .lit (.int .u32 1303535960), .lit (.int .u32 1342533948), .lit (.int .u32 3988292384), .lit (.int .u32 4027552580), .lit (.int .u32 3604390888), .lit (.int .u32 3412177804), .lit (.int .u32 2607071920), .lit (.int .u32 2262029012), .lit (.int .u32 2685067896), .lit (.int .u32 3183342108)]

/-- 'cambistlaw15.WalScans': WHATEVER THE INPUT: true; the input reads as it did. -/
def walScansSpec : ChangeSpec := { name := "walScans", fn := fun _ => fun
  | [d] => { results := [.lit (.bool true)], args := [d] }
  | _ => none }
def walScansRow : OpenClaim := { program := "ytodlibpibopnoaadoor", sum := "9365c107e5bd64ee38bbdc08bd5d09d9a6e929a5d4ad9d388f38c417d8871b8d", func := "cambist/cambistlaw15.WalScans", spec := "walScans", inPlace := ["internal/abi.NoEscape"], named := ["cambist/crc.halfSums"], apart := false, laid := [("cambist/crc.halfSums", laid_cambist_crc_halfSums)] }
def WalScansSaid : Prop := walScansRow.holds Tryd.pinned (OpenSpec.ofChange walScansSpec)

/-- ITS FALSE NEIGHBOUR: 'it returns false'. Refute it at one input. -/
def walScansWrong : ChangeSpec := { name := "walScans", fn := fun _ => fun
  | [d] => { results := [.lit (.bool false)], args := [d] }
  | _ => none }
def WalScansWrongFalsely : Prop := walScansRow.holds Tryd.pinned (OpenSpec.ofChange walScansWrong)

/-- 'cambistlaw15.WalLays': WHATEVER THE INPUT: true; the input reads as it did. -/
def walLaysSpec : ChangeSpec := { name := "walLays", fn := fun _ => fun
  | [d1, d2] => { results := [.lit (.bool true)], args := [d1, d2] }
  | _ => none }
def walLaysRow : OpenClaim := { program := "ytodlibpibopnoaadoor", sum := "9365c107e5bd64ee38bbdc08bd5d09d9a6e929a5d4ad9d388f38c417d8871b8d", func := "cambist/cambistlaw15.WalLays", spec := "walLays", inPlace := ["internal/abi.NoEscape"], named := ["cambist/crc.halfSums"], apart := false, laid := [("cambist/crc.halfSums", laid_cambist_crc_halfSums)] }
def WalLaysSaid : Prop := walLaysRow.holds Tryd.pinned (OpenSpec.ofChange walLaysSpec)

/-- ITS FALSE NEIGHBOUR: 'it returns false'. Refute it at one input. -/
def walLaysWrong : ChangeSpec := { name := "walLays", fn := fun _ => fun
  | [d1, d2] => { results := [.lit (.bool false)], args := [d1, d2] }
  | _ => none }
def WalLaysWrongFalsely : Prop := walLaysRow.holds Tryd.pinned (OpenSpec.ofChange walLaysWrong)

/-- 'cambistlaw15.WalBack': WHATEVER THE INPUT: true; the input reads as it did. -/
def walBackSpec : ChangeSpec := { name := "walBack", fn := fun _ => fun
  | [d1, d2] => { results := [.lit (.bool true)], args := [d1, d2] }
  | _ => none }
def walBackRow : OpenClaim := { program := "ytodlibpibopnoaadoor", sum := "9365c107e5bd64ee38bbdc08bd5d09d9a6e929a5d4ad9d388f38c417d8871b8d", func := "cambist/cambistlaw15.WalBack", spec := "walBack", inPlace := ["internal/abi.NoEscape"], named := ["cambist/crc.halfSums"], apart := false, laid := [("cambist/crc.halfSums", laid_cambist_crc_halfSums)] }
def WalBackSaid : Prop := walBackRow.holds Tryd.pinned (OpenSpec.ofChange walBackSpec)

/-- ITS FALSE NEIGHBOUR: 'it returns false'. Refute it at one input. -/
def walBackWrong : ChangeSpec := { name := "walBack", fn := fun _ => fun
  | [d1, d2] => { results := [.lit (.bool false)], args := [d1, d2] }
  | _ => none }
def WalBackWrongFalsely : Prop := walBackRow.holds Tryd.pinned (OpenSpec.ofChange walBackWrong)

/-- 'cambistlaw15.WalJoins': WHATEVER THE INPUT: true; the input reads as it did. -/
def walJoinsSpec : ChangeSpec := { name := "walJoins", fn := fun _ => fun
  | [d1, d2] => { results := [.lit (.bool true)], args := [d1, d2] }
  | _ => none }
def walJoinsRow : OpenClaim := { program := "ytodlibpibopnoaadoor", sum := "9365c107e5bd64ee38bbdc08bd5d09d9a6e929a5d4ad9d388f38c417d8871b8d", func := "cambist/cambistlaw15.WalJoins", spec := "walJoins", inPlace := ["internal/abi.NoEscape"], named := ["cambist/crc.halfSums"], apart := false, laid := [("cambist/crc.halfSums", laid_cambist_crc_halfSums)] }
def WalJoinsSaid : Prop := walJoinsRow.holds Tryd.pinned (OpenSpec.ofChange walJoinsSpec)

/-- ITS FALSE NEIGHBOUR: 'it returns false'. Refute it at one input. -/
def walJoinsWrong : ChangeSpec := { name := "walJoins", fn := fun _ => fun
  | [d1, d2] => { results := [.lit (.bool false)], args := [d1, d2] }
  | _ => none }
def WalJoinsWrongFalsely : Prop := walJoinsRow.holds Tryd.pinned (OpenSpec.ofChange walJoinsWrong)

/- THE SECOND FORM. 'bulk': how many values and letters a reading holds, each counted each time it is reached (what is shared counts as often as it is met; a slice's spare places count too). A statement '..UptoSaid' is the law's where the arguments, and the package variables that the reading takes, are together of bulk at most 1048576: NARROWER than '..Said'. Prove '..Said' where nothing that the law and all that it calls make is longer than what came in: it says more and counts as full. Else prove '..UptoSaid'. A law counts once. -/
mutual
def uptoBulk {H : Type} : DataW H → Nat
  | .lit (.string bytes) => bytes.length + 1
  | .lit _ => 1
  | .nil => 1
  | .ptr d => uptoBulk d + 1
  | .slice elems spare => uptoBulkAll elems + uptoBulkAll spare + 1
  | .agg parts => uptoBulkAll parts + 1
  | .iface _ d => uptoBulk d + 1
  | .map entries => uptoBulkEntries entries + 1
  | .held _ => 1
def uptoBulkAll {H : Type} : List (DataW H) → Nat
  | [] => 0
  | d :: r => uptoBulk d + uptoBulkAll r
def uptoBulkEntries {H : Type} : List (Lit × DataW H) → Nat
  | [] => 0
  | x :: r => uptoBulkEntry x + uptoBulkEntries r
def uptoBulkEntry {H : Type} : Lit × DataW H → Nat
  | (.string bytes, d) => bytes.length + uptoBulk d + 1
  | (_, d) => uptoBulk d + 1
 end
def uptoSmall : (H : Type) → List (DataW H) → Bool := fun _ ds => decide (uptoBulkAll ds ≤ 1048576)
def OpenSpec.upto (s : _root_.Go.ChangeSpec) : _root_.Go.OpenSpec := { _root_.Go.OpenSpec.ofChange s with cond := some uptoSmall }

/-- 'cambistlaw15.WalScans', WHERE WHAT IT READS IS OF BULK AT MOST 1048576: true; the input reads as it did. -/
def walScansUptoRow : OpenClaim := { program := "ytodlibpibopnoaadoor", sum := "9365c107e5bd64ee38bbdc08bd5d09d9a6e929a5d4ad9d388f38c417d8871b8d", func := "cambist/cambistlaw15.WalScans", spec := "walScans", inPlace := ["internal/abi.NoEscape"], named := ["cambist/crc.halfSums"], apart := false, laid := [("cambist/crc.halfSums", laid_cambist_crc_halfSums)], narrowed := true }
def WalScansUptoSaid : Prop := walScansUptoRow.holds Tryd.pinned (OpenSpec.upto walScansSpec)

/-- 'cambistlaw15.WalLays', WHERE WHAT IT READS IS OF BULK AT MOST 1048576: true; the input reads as it did. -/
def walLaysUptoRow : OpenClaim := { program := "ytodlibpibopnoaadoor", sum := "9365c107e5bd64ee38bbdc08bd5d09d9a6e929a5d4ad9d388f38c417d8871b8d", func := "cambist/cambistlaw15.WalLays", spec := "walLays", inPlace := ["internal/abi.NoEscape"], named := ["cambist/crc.halfSums"], apart := false, laid := [("cambist/crc.halfSums", laid_cambist_crc_halfSums)], narrowed := true }
def WalLaysUptoSaid : Prop := walLaysUptoRow.holds Tryd.pinned (OpenSpec.upto walLaysSpec)

/-- 'cambistlaw15.WalBack', WHERE WHAT IT READS IS OF BULK AT MOST 1048576: true; the input reads as it did. -/
def walBackUptoRow : OpenClaim := { program := "ytodlibpibopnoaadoor", sum := "9365c107e5bd64ee38bbdc08bd5d09d9a6e929a5d4ad9d388f38c417d8871b8d", func := "cambist/cambistlaw15.WalBack", spec := "walBack", inPlace := ["internal/abi.NoEscape"], named := ["cambist/crc.halfSums"], apart := false, laid := [("cambist/crc.halfSums", laid_cambist_crc_halfSums)], narrowed := true }
def WalBackUptoSaid : Prop := walBackUptoRow.holds Tryd.pinned (OpenSpec.upto walBackSpec)

/-- 'cambistlaw15.WalJoins', WHERE WHAT IT READS IS OF BULK AT MOST 1048576: true; the input reads as it did. -/
def walJoinsUptoRow : OpenClaim := { program := "ytodlibpibopnoaadoor", sum := "9365c107e5bd64ee38bbdc08bd5d09d9a6e929a5d4ad9d388f38c417d8871b8d", func := "cambist/cambistlaw15.WalJoins", spec := "walJoins", inPlace := ["internal/abi.NoEscape"], named := ["cambist/crc.halfSums"], apart := false, laid := [("cambist/crc.halfSums", laid_cambist_crc_halfSums)], narrowed := true }
def WalJoinsUptoSaid : Prop := walJoinsUptoRow.holds Tryd.pinned (OpenSpec.upto walJoinsSpec)

end Rows
end Go.Proofs.YtodlibpibopnoaaDoor
