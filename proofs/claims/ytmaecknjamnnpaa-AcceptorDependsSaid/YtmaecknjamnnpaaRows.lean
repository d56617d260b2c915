/-
  No cell of these rows narrows 'for every input' (looked for: loops, veiled, ifaces, maps, wideKeys, modest, calm, conditions, laid).
  DERIVED. THE GIVEN ROWS OF THIS SEAT. 5 by the template 'for every input the law returns true; each argument reads behind the call as it read before'; 0 by the template 'total and deterministic' (their statements: YtmaecknjamnnpaaTotals.lean).
  GIVEN WITH THE SEED: the statements are not yours to turn. If you find one false, say at which input.
  Laid BY PROGRAM, IN A SANDBOX (cutbox-rows.mjs): the forced cells as the released guide's own fill.sh prints them over the translation 4606d59bf4465c7f… (all of the seat's roots in one cut). By AI agents, Wed Nov 11 2026. No macro, syntax, notation, axiom, sorry.
-/
import Derived.Test.YtmaecknjamnnpaaChecked
import GoSem.Claim
import GoSem.ClaimJoined
import GoSem.ClaimMapViews
import Derived.JoinedTies
import Derived.KernelRfl
namespace Go.Proofs.Ytmaecknjamnnpaa
/- THE CELL 'sum', in the pinned program and in every row, IS THE sha256 OF THE DUMP (.gsa) THAT YtmaecknjamnnpaaProg.lean LOADS. Nothing in Lean hashes anything: it is a label: what it is worth is what the hold of that sum in a sandbox is worth. -/
noncomputable def Try.pinned : Pinned := { name := "ytmaecknjamnnpaa", sum := "4606d59bf4465c7fd83cde45c380ba0dfb7db48d161e0bd42dc7cf759239b1c3", checked := Try.checked }
namespace Rows
def none {H : Type} : Left H := { results := [], args := [] }

/-- 'cambistlaw19.AcceptorHears': WHATEVER THE INPUT: true; the input reads as it did. -/
def acceptorHearsSpec : ChangeSpec := { name := "acceptorHears", fn := fun _ => fun
  | [d1, d2, d3] => { results := [.lit (.bool true)], args := [d1, d2, d3] }
  | _ => none }
def acceptorHearsRow : OpenClaim := { program := "ytmaecknjamnnpaa", sum := "4606d59bf4465c7fd83cde45c380ba0dfb7db48d161e0bd42dc7cf759239b1c3", func := "cambist/cambistlaw19.AcceptorHears", spec := "acceptorHears", apart := false }
def AcceptorHearsSaid : Prop := acceptorHearsRow.holds Try.pinned (OpenSpec.ofChange acceptorHearsSpec)

/-- ITS FALSE NEIGHBOUR: 'it returns false'. Refute it at one input. -/
def acceptorHearsWrong : ChangeSpec := { name := "acceptorHears", fn := fun _ => fun
  | [d1, d2, d3] => { results := [.lit (.bool false)], args := [d1, d2, d3] }
  | _ => none }
def AcceptorHearsWrongFalsely : Prop := acceptorHearsRow.holds Try.pinned (OpenSpec.ofChange acceptorHearsWrong)

/-- 'cambistlaw19.AcceptorKeeps': WHATEVER THE INPUT: true; the input reads as it did. -/
def acceptorKeepsSpec : ChangeSpec := { name := "acceptorKeeps", fn := fun _ => fun
  | [d1, d2] => { results := [.lit (.bool true)], args := [d1, d2] }
  | _ => none }
def acceptorKeepsRow : OpenClaim := { program := "ytmaecknjamnnpaa", sum := "4606d59bf4465c7fd83cde45c380ba0dfb7db48d161e0bd42dc7cf759239b1c3", func := "cambist/cambistlaw19.AcceptorKeeps", spec := "acceptorKeeps", apart := false }
def AcceptorKeepsSaid : Prop := acceptorKeepsRow.holds Try.pinned (OpenSpec.ofChange acceptorKeepsSpec)

/-- ITS FALSE NEIGHBOUR: 'it returns false'. Refute it at one input. -/
def acceptorKeepsWrong : ChangeSpec := { name := "acceptorKeeps", fn := fun _ => fun
  | [d1, d2] => { results := [.lit (.bool false)], args := [d1, d2] }
  | _ => none }
def AcceptorKeepsWrongFalsely : Prop := acceptorKeepsRow.holds Try.pinned (OpenSpec.ofChange acceptorKeepsWrong)

/-- 'cambistlaw19.AcceptorSays': WHATEVER THE INPUT: true; the input reads as it did. -/
def acceptorSaysSpec : ChangeSpec := { name := "acceptorSays", fn := fun _ => fun
  | [d1, d2] => { results := [.lit (.bool true)], args := [d1, d2] }
  | _ => none }
def acceptorSaysRow : OpenClaim := { program := "ytmaecknjamnnpaa", sum := "4606d59bf4465c7fd83cde45c380ba0dfb7db48d161e0bd42dc7cf759239b1c3", func := "cambist/cambistlaw19.AcceptorSays", spec := "acceptorSays", apart := false }
def AcceptorSaysSaid : Prop := acceptorSaysRow.holds Try.pinned (OpenSpec.ofChange acceptorSaysSpec)

/-- ITS FALSE NEIGHBOUR: 'it returns false'. Refute it at one input. -/
def acceptorSaysWrong : ChangeSpec := { name := "acceptorSays", fn := fun _ => fun
  | [d1, d2] => { results := [.lit (.bool false)], args := [d1, d2] }
  | _ => none }
def AcceptorSaysWrongFalsely : Prop := acceptorSaysRow.holds Try.pinned (OpenSpec.ofChange acceptorSaysWrong)

/-- 'cambistlaw19.AcceptorTwice': WHATEVER THE INPUT: true; the input reads as it did. -/
def acceptorTwiceSpec : ChangeSpec := { name := "acceptorTwice", fn := fun _ => fun
  | [d1, d2] => { results := [.lit (.bool true)], args := [d1, d2] }
  | _ => none }
def acceptorTwiceRow : OpenClaim := { program := "ytmaecknjamnnpaa", sum := "4606d59bf4465c7fd83cde45c380ba0dfb7db48d161e0bd42dc7cf759239b1c3", func := "cambist/cambistlaw19.AcceptorTwice", spec := "acceptorTwice", apart := false }
def AcceptorTwiceSaid : Prop := acceptorTwiceRow.holds Try.pinned (OpenSpec.ofChange acceptorTwiceSpec)

/-- ITS FALSE NEIGHBOUR: 'it returns false'. Refute it at one input. -/
def acceptorTwiceWrong : ChangeSpec := { name := "acceptorTwice", fn := fun _ => fun
  | [d1, d2] => { results := [.lit (.bool false)], args := [d1, d2] }
  | _ => none }
def AcceptorTwiceWrongFalsely : Prop := acceptorTwiceRow.holds Try.pinned (OpenSpec.ofChange acceptorTwiceWrong)

/-- 'cambistlaw19.AcceptorDepends': WHATEVER THE INPUT: true; the input reads as it did. -/
def acceptorDependsSpec : ChangeSpec := { name := "acceptorDepends", fn := fun _ => fun
  | [d1, d2] => { results := [.lit (.bool true)], args := [d1, d2] }
  | _ => none }
def acceptorDependsRow : OpenClaim := { program := "ytmaecknjamnnpaa", sum := "4606d59bf4465c7fd83cde45c380ba0dfb7db48d161e0bd42dc7cf759239b1c3", func := "cambist/cambistlaw19.AcceptorDepends", spec := "acceptorDepends", apart := false }
def AcceptorDependsSaid : Prop := acceptorDependsRow.holds Try.pinned (OpenSpec.ofChange acceptorDependsSpec)

/-- ITS FALSE NEIGHBOUR: 'it returns false'. Refute it at one input. -/
def acceptorDependsWrong : ChangeSpec := { name := "acceptorDepends", fn := fun _ => fun
  | [d1, d2] => { results := [.lit (.bool false)], args := [d1, d2] }
  | _ => none }
def AcceptorDependsWrongFalsely : Prop := acceptorDependsRow.holds Try.pinned (OpenSpec.ofChange acceptorDependsWrong)

/- THE SECOND FORM. 'bulk': how many values and letters a reading holds, each counted each time it is reached (what is shared counts as often as it is met; a slice's spare places count too). A statement '..UptoSaid' is the law's where the arguments, and the package variables that the reading takes, are together of bulk at most 1048576: NARROWER than '..Said'. Prove '..Said' where nothing that the law and all that it calls make is longer than what came in: it says more and counts as full. Else prove '..UptoSaid'. A law counts once. -/
mutual
def uptoBulk {H : Type} : DataW H → Nat
  | .lit (.string bytes) => bytes.length + 1
  | .lit _ => 1
  | .nil => 1
  | .ptr d => uptoBulk d + 1
  | .slice elems spare => uptoBulkAll elems + uptoBulkAll spare + 1
  | .agg parts => uptoBulkAll parts + 1
  | .iface _ d => uptoBulk d + 1
  | .map entries => uptoBulkEntries entries + 1
  | .held _ => 1
def uptoBulkAll {H : Type} : List (DataW H) → Nat
  | [] => 0
  | d :: r => uptoBulk d + uptoBulkAll r
def uptoBulkEntries {H : Type} : List (Lit × DataW H) → Nat
  | [] => 0
  | x :: r => uptoBulkEntry x + uptoBulkEntries r
def uptoBulkEntry {H : Type} : Lit × DataW H → Nat
  | (.string bytes, d) => bytes.length + uptoBulk d + 1
  | (_, d) => uptoBulk d + 1
 end
def uptoSmall : (H : Type) → List (DataW H) → Bool := fun _ ds => decide (uptoBulkAll ds ≤ 1048576)
def OpenSpec.upto (s : _root_.Go.ChangeSpec) : _root_.Go.OpenSpec := { _root_.Go.OpenSpec.ofChange s with cond := some uptoSmall }

/-- 'cambistlaw19.AcceptorHears', WHERE WHAT IT READS IS OF BULK AT MOST 1048576: true; the input reads as it did. -/
def acceptorHearsUptoRow : OpenClaim := { program := "ytmaecknjamnnpaa", sum := "4606d59bf4465c7fd83cde45c380ba0dfb7db48d161e0bd42dc7cf759239b1c3", func := "cambist/cambistlaw19.AcceptorHears", spec := "acceptorHears", apart := false, narrowed := true }
def AcceptorHearsUptoSaid : Prop := acceptorHearsUptoRow.holds Try.pinned (OpenSpec.upto acceptorHearsSpec)

/-- 'cambistlaw19.AcceptorKeeps', WHERE WHAT IT READS IS OF BULK AT MOST 1048576: true; the input reads as it did. -/
def acceptorKeepsUptoRow : OpenClaim := { program := "ytmaecknjamnnpaa", sum := "4606d59bf4465c7fd83cde45c380ba0dfb7db48d161e0bd42dc7cf759239b1c3", func := "cambist/cambistlaw19.AcceptorKeeps", spec := "acceptorKeeps", apart := false, narrowed := true }
def AcceptorKeepsUptoSaid : Prop := acceptorKeepsUptoRow.holds Try.pinned (OpenSpec.upto acceptorKeepsSpec)

/-- 'cambistlaw19.AcceptorSays', WHERE WHAT IT READS IS OF BULK AT MOST 1048576: true; the input reads as it did. -/
def acceptorSaysUptoRow : OpenClaim := { program := "ytmaecknjamnnpaa", sum := "4606d59bf4465c7fd83cde45c380ba0dfb7db48d161e0bd42dc7cf759239b1c3", func := "cambist/cambistlaw19.AcceptorSays", spec := "acceptorSays", apart := false, narrowed := true }
def AcceptorSaysUptoSaid : Prop := acceptorSaysUptoRow.holds Try.pinned (OpenSpec.upto acceptorSaysSpec)

/-- 'cambistlaw19.AcceptorTwice', WHERE WHAT IT READS IS OF BULK AT MOST 1048576: true; the input reads as it did. -/
def acceptorTwiceUptoRow : OpenClaim := { program := "ytmaecknjamnnpaa", sum := "4606d59bf4465c7fd83cde45c380ba0dfb7db48d161e0bd42dc7cf759239b1c3", func := "cambist/cambistlaw19.AcceptorTwice", spec := "acceptorTwice", apart := false, narrowed := true }
def AcceptorTwiceUptoSaid : Prop := acceptorTwiceUptoRow.holds Try.pinned (OpenSpec.upto acceptorTwiceSpec)

/-- 'cambistlaw19.AcceptorDepends', WHERE WHAT IT READS IS OF BULK AT MOST 1048576: true; the input reads as it did. -/
def acceptorDependsUptoRow : OpenClaim := { program := "ytmaecknjamnnpaa", sum := "4606d59bf4465c7fd83cde45c380ba0dfb7db48d161e0bd42dc7cf759239b1c3", func := "cambist/cambistlaw19.AcceptorDepends", spec := "acceptorDepends", apart := false, narrowed := true }
def AcceptorDependsUptoSaid : Prop := acceptorDependsUptoRow.holds Try.pinned (OpenSpec.upto acceptorDependsSpec)

end Rows
end Go.Proofs.Ytmaecknjamnnpaa
