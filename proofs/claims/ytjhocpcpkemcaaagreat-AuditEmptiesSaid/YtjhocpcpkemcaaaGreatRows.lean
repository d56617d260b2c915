/-
  No cell of these rows narrows 'for every input' (looked for: loops, veiled, ifaces, maps, wideKeys, modest, calm, conditions, laid).
  DERIVED. THE GIVEN ROWS OF THIS SEAT. 7 by the template 'for every input the law returns true; each argument reads behind the call as it read before'; 0 by the template 'total and deterministic' (their statements: YtjhocpcpkemcaaaGreatTotals.lean).
  GIVEN WITH THE SEED: the statements are not yours to turn. If you find one false, say at which input.
  Laid BY PROGRAM, IN A SANDBOX (cutbox-rows.mjs): the forced cells as the released guide's own fill.sh prints them over the translation 6c97e15f3a1c8dff… (all of the seat's roots in one cut). By AI agents, Wed Nov 11 2026. No macro, syntax, notation, axiom, sorry.
-/
import Derived.Test.YtjhocpcpkemcaaaGreatChecked
import GoSem.Claim
import GoSem.ClaimJoined
import GoSem.ClaimMapViews
import Derived.JoinedTies
import Derived.KernelRfl
namespace Go.Proofs.YtjhocpcpkemcaaaGreat
/- THE CELL 'sum', in the pinned program and in every row, IS THE sha256 OF THE DUMP (.gsa) THAT YtjhocpcpkemcaaaGreatProg.lean LOADS. Nothing in Lean hashes anything: it is a label: what it is worth is what the hold of that sum in a sandbox is worth. -/
noncomputable def Tryz.pinned : Pinned := { name := "ytjhocpcpkemcaaagreat", sum := "6c97e15f3a1c8dffd8ef8bc89d0ba57dcb87a0d4b0d5ac27792b4c2d632664d7", checked := Tryz.checked }
namespace Rows
def none {H : Type} : Left H := { results := [], args := [] }

/-- 'cambistlaw12.ExchangePlays': WHATEVER THE INPUT: true; the input reads as it did. -/
def exchangePlaysSpec : ChangeSpec := { name := "exchangePlays", fn := fun _ => fun
  | [d] => { results := [.lit (.bool true)], args := [d] }
  | _ => none }
def exchangePlaysRow : OpenClaim := { program := "ytjhocpcpkemcaaagreat", sum := "6c97e15f3a1c8dffd8ef8bc89d0ba57dcb87a0d4b0d5ac27792b4c2d632664d7", func := "cambist/cambistlaw12.ExchangePlays", spec := "exchangePlays", inPlace := ["slices.overlaps[cambist/api.Level]"], unfollowed := true, recurses := true, plainKeys := false, apart := false }
def ExchangePlaysSaid : Prop := exchangePlaysRow.holds Tryz.pinned (OpenSpec.ofChange exchangePlaysSpec)

/-- ITS FALSE NEIGHBOUR: 'it returns false'. Refute it at one input. -/
def exchangePlaysWrong : ChangeSpec := { name := "exchangePlays", fn := fun _ => fun
  | [d] => { results := [.lit (.bool false)], args := [d] }
  | _ => none }
def ExchangePlaysWrongFalsely : Prop := exchangePlaysRow.holds Tryz.pinned (OpenSpec.ofChange exchangePlaysWrong)

/-- 'cambistlaw12.ExchangeBegins': WHATEVER THE INPUT: true; the input reads as it did. -/
def exchangeBeginsSpec : ChangeSpec := { name := "exchangeBegins", fn := fun _ => fun
  | [d] => { results := [.lit (.bool true)], args := [d] }
  | _ => none }
def exchangeBeginsRow : OpenClaim := { program := "ytjhocpcpkemcaaagreat", sum := "6c97e15f3a1c8dffd8ef8bc89d0ba57dcb87a0d4b0d5ac27792b4c2d632664d7", func := "cambist/cambistlaw12.ExchangeBegins", spec := "exchangeBegins", inPlace := ["slices.overlaps[cambist/api.Level]"], unfollowed := true, recurses := true, plainKeys := false, apart := false }
def ExchangeBeginsSaid : Prop := exchangeBeginsRow.holds Tryz.pinned (OpenSpec.ofChange exchangeBeginsSpec)

/-- ITS FALSE NEIGHBOUR: 'it returns false'. Refute it at one input. -/
def exchangeBeginsWrong : ChangeSpec := { name := "exchangeBegins", fn := fun _ => fun
  | [d] => { results := [.lit (.bool false)], args := [d] }
  | _ => none }
def ExchangeBeginsWrongFalsely : Prop := exchangeBeginsRow.holds Tryz.pinned (OpenSpec.ofChange exchangeBeginsWrong)

/-- 'cambistlaw12.ExchangeTurns': WHATEVER THE INPUT: true; the input reads as it did. -/
def exchangeTurnsSpec : ChangeSpec := { name := "exchangeTurns", fn := fun _ => fun
  | [d1, d2, d3] => { results := [.lit (.bool true)], args := [d1, d2, d3] }
  | _ => none }
def exchangeTurnsRow : OpenClaim := { program := "ytjhocpcpkemcaaagreat", sum := "6c97e15f3a1c8dffd8ef8bc89d0ba57dcb87a0d4b0d5ac27792b4c2d632664d7", func := "cambist/cambistlaw12.ExchangeTurns", spec := "exchangeTurns", inPlace := ["slices.overlaps[cambist/api.Level]"], unfollowed := true, recurses := true, plainKeys := false, apart := false }
def ExchangeTurnsSaid : Prop := exchangeTurnsRow.holds Tryz.pinned (OpenSpec.ofChange exchangeTurnsSpec)

/-- ITS FALSE NEIGHBOUR: 'it returns false'. Refute it at one input. -/
def exchangeTurnsWrong : ChangeSpec := { name := "exchangeTurns", fn := fun _ => fun
  | [d1, d2, d3] => { results := [.lit (.bool false)], args := [d1, d2, d3] }
  | _ => none }
def ExchangeTurnsWrongFalsely : Prop := exchangeTurnsRow.holds Tryz.pinned (OpenSpec.ofChange exchangeTurnsWrong)

/-- 'cambistlaw12.ExchangeKeys': WHATEVER THE INPUT: true; the input reads as it did. -/
def exchangeKeysSpec : ChangeSpec := { name := "exchangeKeys", fn := fun _ => fun
  | [d1, d2] => { results := [.lit (.bool true)], args := [d1, d2] }
  | _ => none }
def exchangeKeysRow : OpenClaim := { program := "ytjhocpcpkemcaaagreat", sum := "6c97e15f3a1c8dffd8ef8bc89d0ba57dcb87a0d4b0d5ac27792b4c2d632664d7", func := "cambist/cambistlaw12.ExchangeKeys", spec := "exchangeKeys", inPlace := ["slices.overlaps[cambist/api.Level]"], unfollowed := true, recurses := true, plainKeys := false, apart := false }
def ExchangeKeysSaid : Prop := exchangeKeysRow.holds Tryz.pinned (OpenSpec.ofChange exchangeKeysSpec)

/-- ITS FALSE NEIGHBOUR: 'it returns false'. Refute it at one input. -/
def exchangeKeysWrong : ChangeSpec := { name := "exchangeKeys", fn := fun _ => fun
  | [d1, d2] => { results := [.lit (.bool false)], args := [d1, d2] }
  | _ => none }
def ExchangeKeysWrongFalsely : Prop := exchangeKeysRow.holds Tryz.pinned (OpenSpec.ofChange exchangeKeysWrong)

/-- 'cambistlaw13.AuditSays': WHATEVER THE INPUT: true; the input reads as it did. -/
def auditSaysSpec : ChangeSpec := { name := "auditSays", fn := fun _ => fun
  | [d1, d2, d3] => { results := [.lit (.bool true)], args := [d1, d2, d3] }
  | _ => none }
def auditSaysRow : OpenClaim := { program := "ytjhocpcpkemcaaagreat", sum := "6c97e15f3a1c8dffd8ef8bc89d0ba57dcb87a0d4b0d5ac27792b4c2d632664d7", func := "cambist/cambistlaw13.AuditSays", spec := "auditSays", inPlace := ["slices.overlaps[cambist/api.Level]"], unfollowed := true, recurses := true, plainKeys := false, apart := false }
def AuditSaysSaid : Prop := auditSaysRow.holds Tryz.pinned (OpenSpec.ofChange auditSaysSpec)

/-- ITS FALSE NEIGHBOUR: 'it returns false'. Refute it at one input. -/
def auditSaysWrong : ChangeSpec := { name := "auditSays", fn := fun _ => fun
  | [d1, d2, d3] => { results := [.lit (.bool false)], args := [d1, d2, d3] }
  | _ => none }
def AuditSaysWrongFalsely : Prop := auditSaysRow.holds Tryz.pinned (OpenSpec.ofChange auditSaysWrong)

/-- 'cambistlaw13.AuditHolds': WHATEVER THE INPUT: true; the input reads as it did. -/
def auditHoldsSpec : ChangeSpec := { name := "auditHolds", fn := fun _ => fun
  | [d] => { results := [.lit (.bool true)], args := [d] }
  | _ => none }
def auditHoldsRow : OpenClaim := { program := "ytjhocpcpkemcaaagreat", sum := "6c97e15f3a1c8dffd8ef8bc89d0ba57dcb87a0d4b0d5ac27792b4c2d632664d7", func := "cambist/cambistlaw13.AuditHolds", spec := "auditHolds", inPlace := ["slices.overlaps[cambist/api.Level]"], unfollowed := true, recurses := true, plainKeys := false, apart := false }
def AuditHoldsSaid : Prop := auditHoldsRow.holds Tryz.pinned (OpenSpec.ofChange auditHoldsSpec)

/-- ITS FALSE NEIGHBOUR: 'it returns false'. Refute it at one input. -/
def auditHoldsWrong : ChangeSpec := { name := "auditHolds", fn := fun _ => fun
  | [d] => { results := [.lit (.bool false)], args := [d] }
  | _ => none }
def AuditHoldsWrongFalsely : Prop := auditHoldsRow.holds Tryz.pinned (OpenSpec.ofChange auditHoldsWrong)

/-- 'cambistlaw13.AuditEmpties': WHATEVER THE INPUT: true; the input reads as it did. -/
def auditEmptiesSpec : ChangeSpec := { name := "auditEmpties", fn := fun _ => fun
  | [d] => { results := [.lit (.bool true)], args := [d] }
  | _ => none }
def auditEmptiesRow : OpenClaim := { program := "ytjhocpcpkemcaaagreat", sum := "6c97e15f3a1c8dffd8ef8bc89d0ba57dcb87a0d4b0d5ac27792b4c2d632664d7", func := "cambist/cambistlaw13.AuditEmpties", spec := "auditEmpties", inPlace := ["slices.overlaps[cambist/api.Level]"], unfollowed := true, recurses := true, plainKeys := false, apart := false }
def AuditEmptiesSaid : Prop := auditEmptiesRow.holds Tryz.pinned (OpenSpec.ofChange auditEmptiesSpec)

/-- ITS FALSE NEIGHBOUR: 'it returns false'. Refute it at one input. -/
def auditEmptiesWrong : ChangeSpec := { name := "auditEmpties", fn := fun _ => fun
  | [d] => { results := [.lit (.bool false)], args := [d] }
  | _ => none }
def AuditEmptiesWrongFalsely : Prop := auditEmptiesRow.holds Tryz.pinned (OpenSpec.ofChange auditEmptiesWrong)

/- THE SECOND FORM. 'bulk': how many values and letters a reading holds, each counted each time it is reached (what is shared counts as often as it is met; a slice's spare places count too). A statement '..UptoSaid' is the law's where the arguments, and the package variables that the reading takes, are together of bulk at most 1048576: NARROWER than '..Said'. Prove '..Said' where nothing that the law and all that it calls make is longer than what came in: it says more and counts as full. Else prove '..UptoSaid'. A law counts once. -/
mutual
def uptoBulk {H : Type} : DataW H → Nat
  | .lit (.string bytes) => bytes.length + 1
  | .lit _ => 1
  | .nil => 1
  | .ptr d => uptoBulk d + 1
  | .slice elems spare => uptoBulkAll elems + uptoBulkAll spare + 1
  | .agg parts => uptoBulkAll parts + 1
  | .iface _ d => uptoBulk d + 1
  | .map entries => uptoBulkEntries entries + 1
  | .held _ => 1
def uptoBulkAll {H : Type} : List (DataW H) → Nat
  | [] => 0
  | d :: r => uptoBulk d + uptoBulkAll r
def uptoBulkEntries {H : Type} : List (Lit × DataW H) → Nat
  | [] => 0
  | x :: r => uptoBulkEntry x + uptoBulkEntries r
def uptoBulkEntry {H : Type} : Lit × DataW H → Nat
  | (.string bytes, d) => bytes.length + uptoBulk d + 1
  | (_, d) => uptoBulk d + 1
 end
def uptoSmall : (H : Type) → List (DataW H) → Bool := fun _ ds => decide (uptoBulkAll ds ≤ 1048576)
def OpenSpec.upto (s : _root_.Go.ChangeSpec) : _root_.Go.OpenSpec := { _root_.Go.OpenSpec.ofChange s with cond := some uptoSmall }

/-- 'cambistlaw12.ExchangePlays', WHERE WHAT IT READS IS OF BULK AT MOST 1048576: true; the input reads as it did. -/
def exchangePlaysUptoRow : OpenClaim := { program := "ytjhocpcpkemcaaagreat", sum := "6c97e15f3a1c8dffd8ef8bc89d0ba57dcb87a0d4b0d5ac27792b4c2d632664d7", func := "cambist/cambistlaw12.ExchangePlays", spec := "exchangePlays", inPlace := ["slices.overlaps[cambist/api.Level]"], unfollowed := true, recurses := true, plainKeys := false, apart := false, narrowed := true }
def ExchangePlaysUptoSaid : Prop := exchangePlaysUptoRow.holds Tryz.pinned (OpenSpec.upto exchangePlaysSpec)

/-- 'cambistlaw12.ExchangeBegins', WHERE WHAT IT READS IS OF BULK AT MOST 1048576: true; the input reads as it did. -/
def exchangeBeginsUptoRow : OpenClaim := { program := "ytjhocpcpkemcaaagreat", sum := "6c97e15f3a1c8dffd8ef8bc89d0ba57dcb87a0d4b0d5ac27792b4c2d632664d7", func := "cambist/cambistlaw12.ExchangeBegins", spec := "exchangeBegins", inPlace := ["slices.overlaps[cambist/api.Level]"], unfollowed := true, recurses := true, plainKeys := false, apart := false, narrowed := true }
def ExchangeBeginsUptoSaid : Prop := exchangeBeginsUptoRow.holds Tryz.pinned (OpenSpec.upto exchangeBeginsSpec)

/-- 'cambistlaw12.ExchangeTurns', WHERE WHAT IT READS IS OF BULK AT MOST 1048576: true; the input reads as it did. -/
def exchangeTurnsUptoRow : OpenClaim := { program := "ytjhocpcpkemcaaagreat", sum := "6c97e15f3a1c8dffd8ef8bc89d0ba57dcb87a0d4b0d5ac27792b4c2d632664d7", func := "cambist/cambistlaw12.ExchangeTurns", spec := "exchangeTurns", inPlace := ["slices.overlaps[cambist/api.Level]"], unfollowed := true, recurses := true, plainKeys := false, apart := false, narrowed := true }
def ExchangeTurnsUptoSaid : Prop := exchangeTurnsUptoRow.holds Tryz.pinned (OpenSpec.upto exchangeTurnsSpec)

/-- 'cambistlaw12.ExchangeKeys', WHERE WHAT IT READS IS OF BULK AT MOST 1048576: true; the input reads as it did. -/
def exchangeKeysUptoRow : OpenClaim := { program := "ytjhocpcpkemcaaagreat", sum := "6c97e15f3a1c8dffd8ef8bc89d0ba57dcb87a0d4b0d5ac27792b4c2d632664d7", func := "cambist/cambistlaw12.ExchangeKeys", spec := "exchangeKeys", inPlace := ["slices.overlaps[cambist/api.Level]"], unfollowed := true, recurses := true, plainKeys := false, apart := false, narrowed := true }
def ExchangeKeysUptoSaid : Prop := exchangeKeysUptoRow.holds Tryz.pinned (OpenSpec.upto exchangeKeysSpec)

/-- 'cambistlaw13.AuditSays', WHERE WHAT IT READS IS OF BULK AT MOST 1048576: true; the input reads as it did. -/
def auditSaysUptoRow : OpenClaim := { program := "ytjhocpcpkemcaaagreat", sum := "6c97e15f3a1c8dffd8ef8bc89d0ba57dcb87a0d4b0d5ac27792b4c2d632664d7", func := "cambist/cambistlaw13.AuditSays", spec := "auditSays", inPlace := ["slices.overlaps[cambist/api.Level]"], unfollowed := true, recurses := true, plainKeys := false, apart := false, narrowed := true }
def AuditSaysUptoSaid : Prop := auditSaysUptoRow.holds Tryz.pinned (OpenSpec.upto auditSaysSpec)

/-- 'cambistlaw13.AuditHolds', WHERE WHAT IT READS IS OF BULK AT MOST 1048576: true; the input reads as it did. -/
def auditHoldsUptoRow : OpenClaim := { program := "ytjhocpcpkemcaaagreat", sum := "6c97e15f3a1c8dffd8ef8bc89d0ba57dcb87a0d4b0d5ac27792b4c2d632664d7", func := "cambist/cambistlaw13.AuditHolds", spec := "auditHolds", inPlace := ["slices.overlaps[cambist/api.Level]"], unfollowed := true, recurses := true, plainKeys := false, apart := false, narrowed := true }
def AuditHoldsUptoSaid : Prop := auditHoldsUptoRow.holds Tryz.pinned (OpenSpec.upto auditHoldsSpec)

/-- 'cambistlaw13.AuditEmpties', WHERE WHAT IT READS IS OF BULK AT MOST 1048576: true; the input reads as it did. -/
def auditEmptiesUptoRow : OpenClaim := { program := "ytjhocpcpkemcaaagreat", sum := "6c97e15f3a1c8dffd8ef8bc89d0ba57dcb87a0d4b0d5ac27792b4c2d632664d7", func := "cambist/cambistlaw13.AuditEmpties", spec := "auditEmpties", inPlace := ["slices.overlaps[cambist/api.Level]"], unfollowed := true, recurses := true, plainKeys := false, apart := false, narrowed := true }
def AuditEmptiesUptoSaid : Prop := auditEmptiesUptoRow.holds Tryz.pinned (OpenSpec.upto auditEmptiesSpec)

end Rows
end Go.Proofs.YtjhocpcpkemcaaaGreat
