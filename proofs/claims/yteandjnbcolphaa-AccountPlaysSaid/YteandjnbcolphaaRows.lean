/-
  No cell of these rows narrows 'for every input' (looked for: loops, veiled, ifaces, maps, wideKeys, modest, calm, conditions, laid).
  DERIVED. THE GIVEN ROWS OF THIS SEAT. 3 by the template 'for every input the law returns true; each argument reads behind the call as it read before'; 0 by the template 'total and deterministic' (their statements: YteandjnbcolphaaTotals.lean).
  GIVEN WITH THE SEED: the statements are not yours to turn. If you find one false, say at which input.
  Laid BY PROGRAM, IN A SANDBOX (cutbox-rows.mjs): the forced cells as the released guide's own fill.sh prints them over the translation 9453ae78c1e1c53a… (all of the seat's roots in one cut). By AI agents, Wed Nov 11 2026. No macro, syntax, notation, axiom, sorry.
-/
import Derived.Test.YteandjnbcolphaaChecked
import GoSem.Claim
import GoSem.ClaimJoined
import GoSem.ClaimMapViews
import Derived.JoinedTies
import Derived.KernelRfl
namespace Go.Proofs.Yteandjnbcolphaa
/- THE CELL 'sum', in the pinned program and in every row, IS THE sha256 OF THE DUMP (.gsa) THAT YteandjnbcolphaaProg.lean LOADS. Nothing in Lean hashes anything: it is a label: what it is worth is what the hold of that sum in a sandbox is worth. -/
noncomputable def Try.pinned : Pinned := { name := "yteandjnbcolphaa", sum := "9453ae78c1e1c53a30b21adba2bbeb203ffd6f0d3a88f08607c173cffab21f85", checked := Try.checked }
namespace Rows
def none {H : Type} : Left H := { results := [], args := [] }

/-- 'cambistlaw07.AccountCalls': WHATEVER THE INPUT: true; the input reads as it did. -/
def accountCallsSpec : ChangeSpec := { name := "accountCalls", fn := fun _ => fun
  | [d1, d2, d3] => { results := [.lit (.bool true)], args := [d1, d2, d3] }
  | _ => none }
def accountCallsRow : OpenClaim := { program := "yteandjnbcolphaa", sum := "9453ae78c1e1c53a30b21adba2bbeb203ffd6f0d3a88f08607c173cffab21f85", func := "cambist/cambistlaw07.AccountCalls", spec := "accountCalls", unfollowed := true, recurses := true, plainKeys := false, apart := false }
def AccountCallsSaid : Prop := accountCallsRow.holds Try.pinned (OpenSpec.ofChange accountCallsSpec)

/-- ITS FALSE NEIGHBOUR: 'it returns false'. Refute it at one input. -/
def accountCallsWrong : ChangeSpec := { name := "accountCalls", fn := fun _ => fun
  | [d1, d2, d3] => { results := [.lit (.bool false)], args := [d1, d2, d3] }
  | _ => none }
def AccountCallsWrongFalsely : Prop := accountCallsRow.holds Try.pinned (OpenSpec.ofChange accountCallsWrong)

/-- 'cambistlaw07.AccountPlays': WHATEVER THE INPUT: true; the input reads as it did. -/
def accountPlaysSpec : ChangeSpec := { name := "accountPlays", fn := fun _ => fun
  | [d] => { results := [.lit (.bool true)], args := [d] }
  | _ => none }
def accountPlaysRow : OpenClaim := { program := "yteandjnbcolphaa", sum := "9453ae78c1e1c53a30b21adba2bbeb203ffd6f0d3a88f08607c173cffab21f85", func := "cambist/cambistlaw07.AccountPlays", spec := "accountPlays", unfollowed := true, recurses := true, plainKeys := false, apart := false }
def AccountPlaysSaid : Prop := accountPlaysRow.holds Try.pinned (OpenSpec.ofChange accountPlaysSpec)

/-- ITS FALSE NEIGHBOUR: 'it returns false'. Refute it at one input. -/
def accountPlaysWrong : ChangeSpec := { name := "accountPlays", fn := fun _ => fun
  | [d] => { results := [.lit (.bool false)], args := [d] }
  | _ => none }
def AccountPlaysWrongFalsely : Prop := accountPlaysRow.holds Try.pinned (OpenSpec.ofChange accountPlaysWrong)

/-- 'cambistlaw07.AccountBack': WHATEVER THE INPUT: true; the input reads as it did. -/
def accountBackSpec : ChangeSpec := { name := "accountBack", fn := fun _ => fun
  | [d1, d2, d3] => { results := [.lit (.bool true)], args := [d1, d2, d3] }
  | _ => none }
def accountBackRow : OpenClaim := { program := "yteandjnbcolphaa", sum := "9453ae78c1e1c53a30b21adba2bbeb203ffd6f0d3a88f08607c173cffab21f85", func := "cambist/cambistlaw07.AccountBack", spec := "accountBack", unfollowed := true, recurses := true, plainKeys := false, apart := false }
def AccountBackSaid : Prop := accountBackRow.holds Try.pinned (OpenSpec.ofChange accountBackSpec)

/-- ITS FALSE NEIGHBOUR: 'it returns false'. Refute it at one input. -/
def accountBackWrong : ChangeSpec := { name := "accountBack", fn := fun _ => fun
  | [d1, d2, d3] => { results := [.lit (.bool false)], args := [d1, d2, d3] }
  | _ => none }
def AccountBackWrongFalsely : Prop := accountBackRow.holds Try.pinned (OpenSpec.ofChange accountBackWrong)

/- THE SECOND FORM. 'bulk': how many values and letters a reading holds, each counted each time it is reached (what is shared counts as often as it is met; a slice's spare places count too). A statement '..UptoSaid' is the law's where the arguments, and the package variables that the reading takes, are together of bulk at most 1048576: NARROWER than '..Said'. Prove '..Said' where nothing that the law and all that it calls make is longer than what came in: it says more and counts as full. Else prove '..UptoSaid'. A law counts once. -/
mutual
def uptoBulk {H : Type} : DataW H → Nat
  | .lit (.string bytes) => bytes.length + 1
  | .lit _ => 1
  | .nil => 1
  | .ptr d => uptoBulk d + 1
  | .slice elems spare => uptoBulkAll elems + uptoBulkAll spare + 1
  | .agg parts => uptoBulkAll parts + 1
  | .iface _ d => uptoBulk d + 1
  | .map entries => uptoBulkEntries entries + 1
  | .held _ => 1
def uptoBulkAll {H : Type} : List (DataW H) → Nat
  | [] => 0
  | d :: r => uptoBulk d + uptoBulkAll r
def uptoBulkEntries {H : Type} : List (Lit × DataW H) → Nat
  | [] => 0
  | x :: r => uptoBulkEntry x + uptoBulkEntries r
def uptoBulkEntry {H : Type} : Lit × DataW H → Nat
  | (.string bytes, d) => bytes.length + uptoBulk d + 1
  | (_, d) => uptoBulk d + 1
 end
def uptoSmall : (H : Type) → List (DataW H) → Bool := fun _ ds => decide (uptoBulkAll ds ≤ 1048576)
def OpenSpec.upto (s : _root_.Go.ChangeSpec) : _root_.Go.OpenSpec := { _root_.Go.OpenSpec.ofChange s with cond := some uptoSmall }

/-- 'cambistlaw07.AccountCalls', WHERE WHAT IT READS IS OF BULK AT MOST 1048576: true; the input reads as it did. -/
def accountCallsUptoRow : OpenClaim := { program := "yteandjnbcolphaa", sum := "9453ae78c1e1c53a30b21adba2bbeb203ffd6f0d3a88f08607c173cffab21f85", func := "cambist/cambistlaw07.AccountCalls", spec := "accountCalls", unfollowed := true, recurses := true, plainKeys := false, apart := false, narrowed := true }
def AccountCallsUptoSaid : Prop := accountCallsUptoRow.holds Try.pinned (OpenSpec.upto accountCallsSpec)

/-- 'cambistlaw07.AccountPlays', WHERE WHAT IT READS IS OF BULK AT MOST 1048576: true; the input reads as it did. -/
def accountPlaysUptoRow : OpenClaim := { program := "yteandjnbcolphaa", sum := "9453ae78c1e1c53a30b21adba2bbeb203ffd6f0d3a88f08607c173cffab21f85", func := "cambist/cambistlaw07.AccountPlays", spec := "accountPlays", unfollowed := true, recurses := true, plainKeys := false, apart := false, narrowed := true }
def AccountPlaysUptoSaid : Prop := accountPlaysUptoRow.holds Try.pinned (OpenSpec.upto accountPlaysSpec)

/-- 'cambistlaw07.AccountBack', WHERE WHAT IT READS IS OF BULK AT MOST 1048576: true; the input reads as it did. -/
def accountBackUptoRow : OpenClaim := { program := "yteandjnbcolphaa", sum := "9453ae78c1e1c53a30b21adba2bbeb203ffd6f0d3a88f08607c173cffab21f85", func := "cambist/cambistlaw07.AccountBack", spec := "accountBack", unfollowed := true, recurses := true, plainKeys := false, apart := false, narrowed := true }
def AccountBackUptoSaid : Prop := accountBackUptoRow.holds Try.pinned (OpenSpec.upto accountBackSpec)

end Rows
end Go.Proofs.Yteandjnbcolphaa
