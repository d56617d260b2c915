/-
  No cell of these rows narrows 'for every input' (looked for: loops, veiled, ifaces, maps, wideKeys, modest, calm, conditions, laid).
  DERIVED. THE GIVEN ROWS OF THIS SEAT. 5 by the template 'for every input the law returns true; each argument reads behind the call as it read before'; 0 by the template 'total and deterministic' (their statements: YtfnmmknbjfmagaaTotals.lean).
  GIVEN WITH THE SEED: the statements are not yours to turn. If you find one false, say at which input.
  Laid BY PROGRAM, IN A SANDBOX (cutbox-rows.mjs): the forced cells as the released guide's own fill.sh prints them over the translation bc04799a9714ed21… (all of the seat's roots in one cut). By AI agents, Wed Nov 11 2026. No macro, syntax, notation, axiom, sorry.
-/
import Derived.Test.YtfnmmknbjfmagaaChecked
import GoSem.Claim
import GoSem.ClaimJoined
import GoSem.ClaimMapViews
import Derived.JoinedTies
import Derived.KernelRfl
namespace Go.Proofs.Ytfnmmknbjfmagaa
/- THE CELL 'sum', in the pinned program and in every row, IS THE sha256 OF THE DUMP (.gsa) THAT YtfnmmknbjfmagaaProg.lean LOADS. Nothing in Lean hashes anything: it is a label: what it is worth is what the hold of that sum in a sandbox is worth. -/
noncomputable def Try.pinned : Pinned := { name := "ytfnmmknbjfmagaa", sum := "bc04799a9714ed21450244ceb7988b8c1e99d7c5a83a66f5508b92b4232ca51f", checked := Try.checked }
namespace Rows
def none {H : Type} : Left H := { results := [], args := [] }

/-- 'cambistlaw09.BookPlays': WHATEVER THE INPUT: true; the input reads as it did. -/
def bookPlaysSpec : ChangeSpec := { name := "bookPlays", fn := fun _ => fun
  | [d] => { results := [.lit (.bool true)], args := [d] }
  | _ => none }
def bookPlaysRow : OpenClaim := { program := "ytfnmmknbjfmagaa", sum := "bc04799a9714ed21450244ceb7988b8c1e99d7c5a83a66f5508b92b4232ca51f", func := "cambist/cambistlaw09.BookPlays", spec := "bookPlays", inPlace := ["slices.overlaps[cambist/api.Level]"], unfollowed := true, recurses := true, apart := false }
def BookPlaysSaid : Prop := bookPlaysRow.holds Try.pinned (OpenSpec.ofChange bookPlaysSpec)

/-- ITS FALSE NEIGHBOUR: 'it returns false'. Refute it at one input. -/
def bookPlaysWrong : ChangeSpec := { name := "bookPlays", fn := fun _ => fun
  | [d] => { results := [.lit (.bool false)], args := [d] }
  | _ => none }
def BookPlaysWrongFalsely : Prop := bookPlaysRow.holds Try.pinned (OpenSpec.ofChange bookPlaysWrong)

/-- 'cambistlaw09.BookTurns': WHATEVER THE INPUT: true; the input reads as it did. -/
def bookTurnsSpec : ChangeSpec := { name := "bookTurns", fn := fun _ => fun
  | [d1, d2, d3] => { results := [.lit (.bool true)], args := [d1, d2, d3] }
  | _ => none }
def bookTurnsRow : OpenClaim := { program := "ytfnmmknbjfmagaa", sum := "bc04799a9714ed21450244ceb7988b8c1e99d7c5a83a66f5508b92b4232ca51f", func := "cambist/cambistlaw09.BookTurns", spec := "bookTurns", inPlace := ["slices.overlaps[cambist/api.Level]"], unfollowed := true, recurses := true, apart := false }
def BookTurnsSaid : Prop := bookTurnsRow.holds Try.pinned (OpenSpec.ofChange bookTurnsSpec)

/-- ITS FALSE NEIGHBOUR: 'it returns false'. Refute it at one input. -/
def bookTurnsWrong : ChangeSpec := { name := "bookTurns", fn := fun _ => fun
  | [d1, d2, d3] => { results := [.lit (.bool false)], args := [d1, d2, d3] }
  | _ => none }
def BookTurnsWrongFalsely : Prop := bookTurnsRow.holds Try.pinned (OpenSpec.ofChange bookTurnsWrong)

/-- 'cambistlaw09.BookRight': WHATEVER THE INPUT: true; the input reads as it did. -/
def bookRightSpec : ChangeSpec := { name := "bookRight", fn := fun _ => fun
  | [d] => { results := [.lit (.bool true)], args := [d] }
  | _ => none }
def bookRightRow : OpenClaim := { program := "ytfnmmknbjfmagaa", sum := "bc04799a9714ed21450244ceb7988b8c1e99d7c5a83a66f5508b92b4232ca51f", func := "cambist/cambistlaw09.BookRight", spec := "bookRight", inPlace := ["slices.overlaps[cambist/api.Level]"], unfollowed := true, recurses := true, apart := false }
def BookRightSaid : Prop := bookRightRow.holds Try.pinned (OpenSpec.ofChange bookRightSpec)

/-- ITS FALSE NEIGHBOUR: 'it returns false'. Refute it at one input. -/
def bookRightWrong : ChangeSpec := { name := "bookRight", fn := fun _ => fun
  | [d] => { results := [.lit (.bool false)], args := [d] }
  | _ => none }
def BookRightWrongFalsely : Prop := bookRightRow.holds Try.pinned (OpenSpec.ofChange bookRightWrong)

/-- 'cambistlaw09.BookFills': WHATEVER THE INPUT: true; the input reads as it did. -/
def bookFillsSpec : ChangeSpec := { name := "bookFills", fn := fun _ => fun
  | [d1, d2] => { results := [.lit (.bool true)], args := [d1, d2] }
  | _ => none }
def bookFillsRow : OpenClaim := { program := "ytfnmmknbjfmagaa", sum := "bc04799a9714ed21450244ceb7988b8c1e99d7c5a83a66f5508b92b4232ca51f", func := "cambist/cambistlaw09.BookFills", spec := "bookFills", inPlace := ["slices.overlaps[cambist/api.Level]"], unfollowed := true, recurses := true, apart := false }
def BookFillsSaid : Prop := bookFillsRow.holds Try.pinned (OpenSpec.ofChange bookFillsSpec)

/-- ITS FALSE NEIGHBOUR: 'it returns false'. Refute it at one input. -/
def bookFillsWrong : ChangeSpec := { name := "bookFills", fn := fun _ => fun
  | [d1, d2] => { results := [.lit (.bool false)], args := [d1, d2] }
  | _ => none }
def BookFillsWrongFalsely : Prop := bookFillsRow.holds Try.pinned (OpenSpec.ofChange bookFillsWrong)

/-- 'cambistlaw09.BookCancels': WHATEVER THE INPUT: true; the input reads as it did. -/
def bookCancelsSpec : ChangeSpec := { name := "bookCancels", fn := fun _ => fun
  | [d1, d2, d3] => { results := [.lit (.bool true)], args := [d1, d2, d3] }
  | _ => none }
def bookCancelsRow : OpenClaim := { program := "ytfnmmknbjfmagaa", sum := "bc04799a9714ed21450244ceb7988b8c1e99d7c5a83a66f5508b92b4232ca51f", func := "cambist/cambistlaw09.BookCancels", spec := "bookCancels", inPlace := ["slices.overlaps[cambist/api.Level]"], unfollowed := true, recurses := true, apart := false }
def BookCancelsSaid : Prop := bookCancelsRow.holds Try.pinned (OpenSpec.ofChange bookCancelsSpec)

/-- ITS FALSE NEIGHBOUR: 'it returns false'. Refute it at one input. -/
def bookCancelsWrong : ChangeSpec := { name := "bookCancels", fn := fun _ => fun
  | [d1, d2, d3] => { results := [.lit (.bool false)], args := [d1, d2, d3] }
  | _ => none }
def BookCancelsWrongFalsely : Prop := bookCancelsRow.holds Try.pinned (OpenSpec.ofChange bookCancelsWrong)

/- THE SECOND FORM. 'bulk': how many values and letters a reading holds, each counted each time it is reached (what is shared counts as often as it is met; a slice's spare places count too). A statement '..UptoSaid' is the law's where the arguments, and the package variables that the reading takes, are together of bulk at most 1048576: NARROWER than '..Said'. Prove '..Said' where nothing that the law and all that it calls make is longer than what came in: it says more and counts as full. Else prove '..UptoSaid'. A law counts once. -/
mutual
def uptoBulk {H : Type} : DataW H → Nat
  | .lit (.string bytes) => bytes.length + 1
  | .lit _ => 1
  | .nil => 1
  | .ptr d => uptoBulk d + 1
  | .slice elems spare => uptoBulkAll elems + uptoBulkAll spare + 1
  | .agg parts => uptoBulkAll parts + 1
  | .iface _ d => uptoBulk d + 1
  | .map entries => uptoBulkEntries entries + 1
  | .held _ => 1
def uptoBulkAll {H : Type} : List (DataW H) → Nat
  | [] => 0
  | d :: r => uptoBulk d + uptoBulkAll r
def uptoBulkEntries {H : Type} : List (Lit × DataW H) → Nat
  | [] => 0
  | x :: r => uptoBulkEntry x + uptoBulkEntries r
def uptoBulkEntry {H : Type} : Lit × DataW H → Nat
  | (.string bytes, d) => bytes.length + uptoBulk d + 1
  | (_, d) => uptoBulk d + 1
 end
def uptoSmall : (H : Type) → List (DataW H) → Bool := fun _ ds => decide (uptoBulkAll ds ≤ 1048576)
def OpenSpec.upto (s : _root_.Go.ChangeSpec) : _root_.Go.OpenSpec := { _root_.Go.OpenSpec.ofChange s with cond := some uptoSmall }

/-- 'cambistlaw09.BookPlays', WHERE WHAT IT READS IS OF BULK AT MOST 1048576: true; the input reads as it did. -/
def bookPlaysUptoRow : OpenClaim := { program := "ytfnmmknbjfmagaa", sum := "bc04799a9714ed21450244ceb7988b8c1e99d7c5a83a66f5508b92b4232ca51f", func := "cambist/cambistlaw09.BookPlays", spec := "bookPlays", inPlace := ["slices.overlaps[cambist/api.Level]"], unfollowed := true, recurses := true, apart := false, narrowed := true }
def BookPlaysUptoSaid : Prop := bookPlaysUptoRow.holds Try.pinned (OpenSpec.upto bookPlaysSpec)

/-- 'cambistlaw09.BookTurns', WHERE WHAT IT READS IS OF BULK AT MOST 1048576: true; the input reads as it did. -/
def bookTurnsUptoRow : OpenClaim := { program := "ytfnmmknbjfmagaa", sum := "bc04799a9714ed21450244ceb7988b8c1e99d7c5a83a66f5508b92b4232ca51f", func := "cambist/cambistlaw09.BookTurns", spec := "bookTurns", inPlace := ["slices.overlaps[cambist/api.Level]"], unfollowed := true, recurses := true, apart := false, narrowed := true }
def BookTurnsUptoSaid : Prop := bookTurnsUptoRow.holds Try.pinned (OpenSpec.upto bookTurnsSpec)

/-- 'cambistlaw09.BookRight', WHERE WHAT IT READS IS OF BULK AT MOST 1048576: true; the input reads as it did. -/
def bookRightUptoRow : OpenClaim := { program := "ytfnmmknbjfmagaa", sum := "bc04799a9714ed21450244ceb7988b8c1e99d7c5a83a66f5508b92b4232ca51f", func := "cambist/cambistlaw09.BookRight", spec := "bookRight", inPlace := ["slices.overlaps[cambist/api.Level]"], unfollowed := true, recurses := true, apart := false, narrowed := true }
def BookRightUptoSaid : Prop := bookRightUptoRow.holds Try.pinned (OpenSpec.upto bookRightSpec)

/-- 'cambistlaw09.BookFills', WHERE WHAT IT READS IS OF BULK AT MOST 1048576: true; the input reads as it did. -/
def bookFillsUptoRow : OpenClaim := { program := "ytfnmmknbjfmagaa", sum := "bc04799a9714ed21450244ceb7988b8c1e99d7c5a83a66f5508b92b4232ca51f", func := "cambist/cambistlaw09.BookFills", spec := "bookFills", inPlace := ["slices.overlaps[cambist/api.Level]"], unfollowed := true, recurses := true, apart := false, narrowed := true }
def BookFillsUptoSaid : Prop := bookFillsUptoRow.holds Try.pinned (OpenSpec.upto bookFillsSpec)

/-- 'cambistlaw09.BookCancels', WHERE WHAT IT READS IS OF BULK AT MOST 1048576: true; the input reads as it did. -/
def bookCancelsUptoRow : OpenClaim := { program := "ytfnmmknbjfmagaa", sum := "bc04799a9714ed21450244ceb7988b8c1e99d7c5a83a66f5508b92b4232ca51f", func := "cambist/cambistlaw09.BookCancels", spec := "bookCancels", inPlace := ["slices.overlaps[cambist/api.Level]"], unfollowed := true, recurses := true, apart := false, narrowed := true }
def BookCancelsUptoSaid : Prop := bookCancelsUptoRow.holds Try.pinned (OpenSpec.upto bookCancelsSpec)

end Rows
end Go.Proofs.Ytfnmmknbjfmagaa
